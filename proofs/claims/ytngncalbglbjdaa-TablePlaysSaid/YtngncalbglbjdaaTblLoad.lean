/-
  Package table: one index of a set laid anew; the contract of Load.
-/
import Derived.Test.YtngncalbglbjdaaTblCode
import Derived.Deep.RegionWith
namespace Go.Proofs.Ytngncalbglbjdaa.Tbl
set_option linter.unusedVariables false
set_option maxRecDepth 100000
open Go.RowKit Base IdxMath Foot Idx
set_option linter.ambiguousOpen false
set_option linter.unusedSimpArgs false

section
variable {w w2 : World} {F : Nat → Prop} {p b : Nat} {ps : List Nat} {G : Nat → Nat → Prop} {T : List (List Rw)}
theorem size_setCell (w : World) (a : Addr) (u : Value) : (w.setCell a u).heap.size = w.heap.size := by simp [World.setCell]
/-- the i-th index is a new one from now on -/
theorem Lie.lay (h : Lie w F p b ps G T) {i : Nat} (hi : i < T.length) {q : Nat} {l : List Rw} (hq : IdxAt w2 (fun g => w.heap.size ≤ g ∧ g < w2.heap.size) q l) (hb : Below w.heap.size w w2) :
    SetAt (w2.setCell ⟨b, i, none⟩ (ptr q)) (Out F w (w2.setCell ⟨b, i, none⟩ (ptr q))) p (T.set i l) ∧ Turn F w (w2.setCell ⟨b, i, none⟩ (ptr q)) := by
  have hip : i < ps.length := by rw [h.len]; exact hi
  have hfar : ∀ g, g ≠ b → (w2.setCell ⟨b, i, none⟩ (ptr q)).heap[g]? = w2.heap[g]? := fun g hg => Below.heap_setCell w2 _ _ g hg
  have hplt := h.box.lt
  have hblt := h.row.lt
  have hsz := size_setCell w2 ⟨b, i, none⟩ (ptr q)
  have hle := hb.size
  refine ⟨⟨b, ps.set i q, fun j g => if j = i then w.heap.size ≤ g ∧ g < w2.heap.size else G j g ∧ g < w.heap.size, ?_⟩, (Turn.new hb).setCell (.inl h.inb) _⟩
  refine ⟨?_, ?_, by rw [List.length_set, List.length_set, h.len], by rw [List.length_set]; exact h.most, by rw [List.length_set]; exact h.some_, .inl h.inp, .inl h.inb, h.ne, ?_, ?_, ?_⟩
  · rw [List.length_set]
    exact (hfar p h.ne).trans (h.box.below hb hplt)
  · have h1 := (h.row.below hb hblt).set_ i (ptr q)
    rw [List.map_set]
    simpa using h1
  · intro j q' l' h1 h2
    by_cases hj : j = i
    · subst hj
      rw [List.getElem?_set_self hip] at h1
      rw [List.getElem?_set_self hi] at h2
      obtain rfl := Option.some.inj h1
      obtain rfl := Option.some.inj h2
      refine (hq.mono fun g hg hG => ?_).keep fun g hg hG => hfar g ?_
      · rw [if_pos rfl]; exact hG
      · rw [if_pos rfl] at hG; omega
    · rw [List.getElem?_set_ne (fun e => hj e.symm)] at h1 h2
      have hjl : j < T.length := (List.getElem?_eq_some_iff.1 h2).1
      have h3 := h.each j q' l' h1 h2
      have h4 : IdxAt w2 (fun g => G j g ∧ g < w.heap.size) q' l' := (h3.mono (F' := fun g => G j g ∧ g < w.heap.size) fun g hg hG => ⟨hG, hg⟩).new hb
      refine (h4.mono fun g hg hG => ?_).keep fun g hg hG => hfar g ?_
      · rw [if_neg hj]; exact hG
      · rw [if_neg hj] at hG
        exact (h.ing j g hjl hG.2 hG.1).2.2
  · intro j g hj hg hG
    rw [List.length_set] at hj

    by_cases hji : j = i
    · rw [if_pos hji] at hG
      exact ⟨.inr ⟨hG.1, hg⟩, by omega, by omega⟩
    · rw [if_neg hji] at hG
      have := h.ing j g hj hG.2 hG.1
      exact ⟨.inl this.1, this.2⟩
  · intro j k g hj hk hjk hg h1 h2
    rw [List.length_set] at hj hk
    by_cases hji : j = i
    · rw [if_pos hji] at h1
      rw [if_neg (fun e => hjk (hji.trans e.symm))] at h2
      omega
    · rw [if_neg hji] at h1
      by_cases hki : k = i
      · rw [if_pos hki] at h2
        omega
      · rw [if_neg hki] at h2
        exact h.apart j k g hj hk hjk h1.2 h1.1 h2.1
end

/-- what a set does in answer to a call that turns it -/
def SetTurned (w : World) (F : Nat → Prop) (p : Nat) (b : Bool) (T : List (List Rw)) (e : Ending) (w' : World) : Prop :=
  e = .returned (.bool b) ∧ SetAt w' (Out F w w') p T ∧ Turn F w w'
def load (T : List (List Rw)) (t : Int) (rows : List Rw) : List (List Rw) := if isT T t then T.set t.toNat (make rows) else T
set_option maxHeartbeats 1600000 in
theorem load_any (F : Nat → Prop) (p : Nat) (T : List (List Rw)) (t : Int) (A : Option Addr) (n c : Nat) (rows : List Rw) (w : World) (h : SetAt w F p T) (hr : Rs w w.heap.size A n c rows) (hsz : n ≤ 1099511627774) :
    Calls Try.prog 24 #[.pointer (some ⟨p, 0, none⟩), .int .i64 t, .slice A n c] w (SetTurned w F p (isT T t) (load T t rows)) := by
  have HH := Lib.hid (has_any F p T t w h)
  have HS := Lib.hid h
  obtain ⟨b, ps, G, h⟩ := h
  have c0 : w.cell? ⟨p, 0, none⟩ = some (.slice (some ⟨b, 0, none⟩) T.length T.length) := h.box.cell 0
  cases ht : isT T t with
  | false =>
    have HT := Lib.hid ht
    clear h ht
    go_enter Try.func24, Try.ntmps24
    go_wp2_with fail
    refine HH.out.mono ?_
    rintro e w1 ⟨rfl, rfl⟩
    rw [HT.out]
    go_wp2
    go_ret
    refine ⟨rfl, ?_, .refl _ _⟩
    unfold load
    rw [HT.out]
    exact HS.out.mono fun i _ hi => .inl hi
  | true =>
    obtain ⟨i, rfl, hi⟩ := isT_nat ht
    obtain ⟨q0, l0, e1, e2, c1, hq0⟩ := h.get hi
    have hz : w.frozen? ⟨b, i, none⟩ = false := h.row.frozen i
    have hi2 : (i : Int) < (T.length : Int) := by omega
    have HL := Lib.hid (show load T (i : Int) rows = T.set i (make rows) by unfold load; rw [ht, if_pos rfl, Int.toNat_natCast])
    have HT := Lib.hid ht
    have HI := Lib.hid h
    have HR := Lib.hid hr
    have hblt : b < w.heap.size := h.row.lt
    have hpb : p ≠ b := h.ne
    have hsome : (w.cell? ⟨b, i, none⟩).isSome = true := by rw [c1]; rfl
    clear h ht e1 e2 hq0 hr
    rw [HL.out]
    go_enter Try.func24, Try.ntmps24
    go_wp2_with fail
    refine HH.out.mono ?_
    rintro e w1 ⟨rfl, rfl⟩
    rw [HT.out]
    go_wp2_with fail
    go_region_with (first
      | (go_at_call 29; refine (new_any w.heap.size A n c rows w.drew (HR.out.below (held_start w)) (Nat.le_refl _) hsz).mono ?_; rintro e w2 ⟨q, rfl, hq, hb2⟩; have hb2' : Below w.heap.size w w2 := held_two (held_start w) hb2; have d0 := held_cell hb2' c0; have d1 := held_cell hb2' c1; have dz := (HI.out.row.below hb2' hblt).frozen i; have HQ := Lib.hid (And.intro hq hb2'); clear hb2 hb2' hq)
      | fail)
    all_goals (go_wp2; go_ret; exact ⟨rfl, HI.out.lay hi HQ.out.1 HQ.out.2⟩)
end Go.Proofs.Ytngncalbglbjdaa.Tbl
