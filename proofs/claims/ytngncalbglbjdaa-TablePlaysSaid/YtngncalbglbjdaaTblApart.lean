/-
  TableApart: a table's rows hang on its own changes alone: the plain fact; the walk of the law.
-/
import Derived.Test.YtngncalbglbjdaaTblHelp
import Derived.Test.YtngncalbglbjdaaPlayMod
namespace Go.Proofs.Ytngncalbglbjdaa.Tbl
set_option linter.unusedVariables false
set_option maxRecDepth 100000
open Go.RowKit Base IdxMath Foot Idx
open PChg (gcells gval gv gv_cons gv_length gv_get Cs)
open Go.Proofs.Ytngncalbglbjdaa.Field (modZ modZ_lt mod_any)
set_option linter.ambiguousOpen false
set_option linter.unusedSimpArgs false

/-! ### plain -/
theorem tab_do1 {T : List (List Rw)} {c : Cg} (hc : isT T c.tbl = true) (t : Int) : tab (do1 T c) t = if t = c.tbl then one (tab T t) c else tab T t := by
  obtain ⟨i, e, hi⟩ := isT_nat hc
  unfold do1
  rw [e, Int.toNat_natCast, tab_set hi]
  split
  · next h => rw [h]
  · rfl
theorem isT_doAll (T : List (List Rw)) (l : List Cg) (t : Int) : isT (doAll T l) t = isT T t := isT_length (doAll_length T l) t
theorem allT_cons {T : List (List Rw)} {c : Cg} {l : List Cg} (h : allT T (c :: l) = true) : isT T c.tbl = true ∧ allT T l = true := by
  unfold allT at h ⊢
  rw [List.all_cons, Bool.and_eq_true] at h
  exact h
theorem tab_apart (T T' : List (List Rw)) (t : Int) (h : tab T t = tab T' t) (hn : ∀ u, isT T u = isT T' u) (l : List Cg) (hl : allT T l = true) : tab (doAll T l) t = tab (doAll T' (l.filter fun c => decide (c.tbl = t))) t := by
  induction l generalizing T T' with
  | nil => exact h
  | cons c l ih =>
    obtain ⟨h1, h2⟩ := allT_cons hl
    have hd : ∀ u, isT (do1 T c) u = isT T u := fun u => isT_length (by simp [do1]) u
    have ha : allT (do1 T c) l = true := by unfold allT at h2 ⊢; simpa [hd] using h2
    by_cases hc : c.tbl = t
    · rw [List.filter_cons_of_pos (by simpa using hc)]
      show tab (doAll (do1 T c) l) t = tab (doAll (do1 T' c) _) t
      have h1' : isT T' c.tbl = true := by rw [← hn]; exact h1
      refine ih (do1 T c) (do1 T' c) ?_ (fun u => by rw [hd, hn]; exact (isT_length (by simp [do1]) u).symm) ha
      rw [tab_do1 h1, tab_do1 h1', h]
    · rw [List.filter_cons_of_neg (by simpa using hc)]
      show tab (doAll (do1 T c) l) t = tab (doAll T' _) t
      refine ih (do1 T c) T' ?_ (fun u => by rw [hd, hn]) ha
      rw [tab_do1 h1, if_neg (fun e => hc e.symm), h]
theorem tab_other (T : List (List Rw)) (t u : Int) (hu : u ≠ t) (l : List Cg) (hl : allT T l = true) : tab (doAll T (l.filter fun c => decide (c.tbl = t))) u = tab T u := by
  induction l generalizing T with
  | nil => rfl
  | cons c l ih =>
    obtain ⟨h1, h2⟩ := allT_cons hl
    by_cases hc : c.tbl = t
    · rw [List.filter_cons_of_pos (by simpa using hc)]
      show tab (doAll (do1 T c) _) u = _
      have hd : ∀ u, isT (do1 T c) u = isT T u := fun u => isT_length (by simp [do1]) u
      rw [ih (do1 T c) (by unfold allT at h2 ⊢; simpa [hd] using h2), tab_do1 h1, if_neg (by omega)]
    · rw [List.filter_cons_of_neg (by simpa using hc)]
      exact ih T h2
theorem filter_snoc_yes {l : List Cg} {k : Nat} {f : Cg} {t : Int} (ht : l.take (k + 1) = l.take k ++ [f]) (h : f.tbl = t) : (l.take (k + 1)).filter (fun c => decide (c.tbl = t)) = (l.take k).filter (fun c => decide (c.tbl = t)) ++ [f] := by
  rw [ht, List.filter_append, List.filter_cons_of_pos (by simpa using h)]
  rfl
theorem filter_snoc_no {l : List Cg} {k : Nat} {f : Cg} {t : Int} (ht : l.take (k + 1) = l.take k ++ [f]) (h : f.tbl ≠ t) : (l.take (k + 1)).filter (fun c => decide (c.tbl = t)) = (l.take k).filter (fun c => decide (c.tbl = t)) := by
  rw [ht, List.filter_append, List.filter_cons_of_neg (by simpa using h)]
  simp
/-! ### two sets in one memory -/
/-- a set of the call's own -/
def TS (w wr : World) (F : Nat → Prop) (p : Nat) (T : List (List Rw)) : Prop := SetAt wr F p T ∧ ∀ i, F i → w.heap.size ≤ i ∧ i < wr.heap.size
section
variable {w wr w' : World} {F F' : Nat → Prop} {p : Nat} {T T' : List (List Rw)}
theorem TS.new (h : TS w wr F p T) (hb : Below wr.heap.size wr w') : TS w w' F p T := ⟨h.1.new hb, fun i hi => ⟨(h.2 i hi).1, Nat.lt_of_lt_of_le (h.2 i hi).2 hb.size⟩⟩
theorem TS.off (h : TS w wr F p T) (ht : Turn F' wr w') (ha : ∀ i, F i → ¬ F' i) : TS w w' F p T := ⟨h.1.keep ht.size fun i hi hf => ht.block i hi (ha i hf), fun i hi => ⟨(h.2 i hi).1, Nat.lt_of_lt_of_le (h.2 i hi).2 ht.size⟩⟩
theorem TS.turn (h : TS w wr F p T) (hw : w.heap.size ≤ wr.heap.size) (hs : SetAt w' (Out F wr w') p T') (ht : Turn F wr w') : TS w w' (Out F wr w') p T' :=
  ⟨hs, fun i hi => by
    rcases hi with hi | hi
    · exact ⟨(h.2 i hi).1, Nat.lt_of_lt_of_le (h.2 i hi).2 ht.size⟩
    · exact ⟨Nat.le_trans hw hi.1, hi.2⟩⟩
theorem below_turn (hb : Below w.heap.size w wr) (ht : Turn F wr w') (hF : ∀ i, F i → w.heap.size ≤ i) : Below w.heap.size w w' := hb.trans (ht.below hF hb.size)
theorem apart_out {F2 : Nat → Prop} (h : TS w wr F2 p T) (ha : ∀ i, F2 i → ¬ F i) : ∀ i, F2 i → ¬ Out F wr w' i := fun i hi ho => by
  rcases ho with ho | ho
  · exact ha i hi ho
  · have := (h.2 i hi).2; omega
end
/-- a row of changes of the call's own, off the footprint -/
theorem Cs.turn {wr w' : World} {F : Nat → Prop} {A : Option Addr} {n c : Nat} {l : List Cg} {B : Nat} (h : Cs wr B A n c l) (hB : B ≤ wr.heap.size) (hF : ∀ i, i < B → ¬ F i) (ht : Turn F wr w') : Cs w' B A n c l := by
  obtain ⟨h1, h2, h3, h4⟩ := h
  refine ⟨h1, h2, h3, fun hn => ?_⟩
  obtain ⟨b, off, e, hb, hc⟩ := h4 hn
  exact ⟨b, off, e, hb, fun j u hu => (ht.cell (by exact Nat.lt_of_lt_of_le hb hB) (hF b hb)).trans (hc j u hu)⟩
end Go.Proofs.Ytngncalbglbjdaa.Tbl
