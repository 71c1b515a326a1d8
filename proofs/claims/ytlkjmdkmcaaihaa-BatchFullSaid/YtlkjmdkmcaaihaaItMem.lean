/-
  Slices of qanat/api.Note in memory: one that reads as a list. No condition. A sink's items in memory: by value, in a slice, as an answer in new memory.
-/
import Derived.Test.YtlkjmdkmcaaihaaBase
import Derived.Test.YtlkjmdkmcaaihaaBatchMath
import Derived.Test.YtlkjmdkmcaaihaaChecked
import Derived.Test.YtlkjmdkmcaaihaaRows
import Derived.Lib.Overlaps
import Derived.Test.YtlkjmdkmcaaihaaOpMem
namespace Go.Proofs.Ytlkjmdkmcaaihaa.Bt
set_option linter.unusedVariables false
set_option maxRecDepth 100000
open Go.RowKit Base BatchMath
set_option linter.ambiguousOpen false
set_option linter.unusedSimpArgs false

def ntcells (x : Nt) : List Value := [.int .i64 x.kind, .int .i64 x.id, .int .i64 x.tbl, .int .i64 x.wt, .int .i64 x.at_, .int .i64 x.cur, .bool x.done]
def ntval (x : Nt) : Value := .agg #[.int .i64 x.kind, .int .i64 x.id, .int .i64 x.tbl, .int .i64 x.wt, .int .i64 x.at_, .int .i64 x.cur, .bool x.done]
def ntv (l : List Nt) : List Value := l.flatMap ntcells
theorem ntv_append (l m : List Nt) : ntv (l ++ m) = ntv l ++ ntv m := List.flatMap_append
theorem ntv_cons (x : Nt) (l : List Nt) : ntv (x :: l) = .int .i64 x.kind :: .int .i64 x.id :: .int .i64 x.tbl :: .int .i64 x.wt :: .int .i64 x.at_ :: .int .i64 x.cur :: .bool x.done :: ntv l := rfl
theorem ntv_length (l : List Nt) : (ntv l).length = l.length * 7 := by
  induction l with
  | nil => rfl
  | cons f l ih => rw [ntv_cons]; simp only [List.length_cons, ih]; omega
theorem ntv_one (l : List Nt) : ∀ u ∈ ntv l, u.oneCell' = true := by
  intro u hu
  obtain ⟨f, _, hf⟩ := List.mem_flatMap.1 hu
  simp only [ntcells, List.mem_cons, List.not_mem_nil, or_false] at hf
  rcases hf with rfl | rfl | rfl | rfl | rfl | rfl | rfl <;> rfl
theorem ntv_get (l : List Nt) (k : Nat) (f : Nt) (h : l[k]? = some f) : (ntv l)[k * 7]? = some (.int .i64 f.kind) ∧ (ntv l)[k * 7 + 1]? = some (.int .i64 f.id) ∧ (ntv l)[k * 7 + 2]? = some (.int .i64 f.tbl) ∧ (ntv l)[k * 7 + 3]? = some (.int .i64 f.wt) ∧ (ntv l)[k * 7 + 4]? = some (.int .i64 f.at_) ∧ (ntv l)[k * 7 + 5]? = some (.int .i64 f.cur) ∧ (ntv l)[k * 7 + 6]? = some (.bool f.done) := by
  induction l generalizing k with
  | nil => simp at h
  | cons g l ih =>
    rw [ntv_cons]
    cases k with
    | zero =>
      simp only [List.getElem?_cons_zero, Option.some.injEq] at h
      subst h
      exact ⟨rfl, rfl, rfl, rfl, rfl, rfl, rfl⟩
    | succ k =>
      rw [List.getElem?_cons_succ] at h
      have := ih k h
      rw [show (k + 1) * 7 = k * 7 + 1 + 1 + 1 + 1 + 1 + 1 + 1 by omega]
      simpa using this
theorem ntv_take (l : List Nt) (k : Nat) : (ntv l).take (k * 7) = ntv (l.take k) := by
  induction l generalizing k with
  | nil => simp [ntv]
  | cons g l ih =>
    cases k with
    | zero => simp [ntv]
    | succ k => rw [ntv_cons, show (k + 1) * 7 = k * 7 + 1 + 1 + 1 + 1 + 1 + 1 + 1 by omega]; simp only [List.take_succ_cons, ntv_cons, ih]
theorem ntv_drop (l : List Nt) (k : Nat) : (ntv l).drop (k * 7) = ntv (l.drop k) := by
  induction l generalizing k with
  | nil => simp [ntv]
  | cons g l ih =>
    cases k with
    | zero => simp
    | succ k => rw [ntv_cons, show (k + 1) * 7 = k * 7 + 1 + 1 + 1 + 1 + 1 + 1 + 1 by omega]; simp only [List.drop_succ_cons, ih]
theorem ntv_set (l : List Nt) (k : Nat) (y : Nt) : ntv (l.set k y) = (((((((ntv l).set (k * 7) (.int .i64 y.kind)).set (k * 7 + 1) (.int .i64 y.id)).set (k * 7 + 2) (.int .i64 y.tbl)).set (k * 7 + 3) (.int .i64 y.wt)).set (k * 7 + 4) (.int .i64 y.at_)).set (k * 7 + 5) (.int .i64 y.cur)).set (k * 7 + 6) (.bool y.done) := by
  induction l generalizing k with
  | nil => simp [ntv]
  | cons g l ih =>
    cases k with
    | zero => rfl
    | succ k =>
      rw [List.set_cons_succ, ntv_cons, ntv_cons, ih, show (k + 1) * 7 = k * 7 + 1 + 1 + 1 + 1 + 1 + 1 + 1 by omega]
      simp

theorem ntel : Elem Try.prog 23 27 7 56 (.agg #[.int .i64 0, .int .i64 0, .int .i64 0, .int .i64 0, .int .i64 0, .int .i64 0, .bool false]) := Elem.of Try.underlying23 (by kernel_rfl) rfl (by omega)

/-- a slice that reads as the list l, below block B -/
def Nts (w : World) (B : Nat) (A : Option Addr) (n c : Nat) (l : List Nt) : Prop := Row w B 7 A n c (ntv l)
section
variable {w w' : World} {B B' n c : Nat} {A : Option Addr} {l : List Nt}
theorem Nts.len (h : Nts w B A n c l) : l.length = n := by have := h.1; rw [ntv_length] at this; omega
theorem Nts.le (h : Nts w B A n c l) : n ≤ c ∧ c ≤ 9223372036854775807 := ⟨h.2.1, h.2.2.1⟩
theorem Nts.below (h : Nts w B A n c l) (hb : Below B w w') : Nts w' B A n c l := Row.below h hb
theorem Nts.more (h : Nts w B A n c l) (hB : B ≤ B') : Nts w B' A n c l := Row.more h hB
theorem Nts.nil_ (w : World) (B : Nat) : Nts w B none 0 0 [] := Row.nil_ w B 7
theorem Nts.at_ (h : Nts w B A n c l) {k : Nat} (hk : k < n) :
    ∃ b off f, A = some ⟨b, off, none⟩ ∧ b < B ∧ w.cell? ⟨b, off + k * 7, none⟩ = some (.int .i64 f.kind) ∧ w.cell? ⟨b, off + k * 7 + 1, none⟩ = some (.int .i64 f.id) ∧ w.cell? ⟨b, off + k * 7 + 2, none⟩ = some (.int .i64 f.tbl) ∧ w.cell? ⟨b, off + k * 7 + 3, none⟩ = some (.int .i64 f.wt) ∧ w.cell? ⟨b, off + k * 7 + 4, none⟩ = some (.int .i64 f.at_) ∧ w.cell? ⟨b, off + k * 7 + 5, none⟩ = some (.int .i64 f.cur) ∧ w.cell? ⟨b, off + k * 7 + 6, none⟩ = some (.bool f.done) ∧ l[k]? = some f ∧ l.take (k + 1) = l.take k ++ [f] := by
  obtain ⟨b, off, e, hb, hc⟩ := h.2.2.2 (by omega)
  have hl : k < l.length := by rw [h.len]; exact hk
  have hg : l[k]? = some l[k] := List.getElem?_eq_getElem hl
  have := ntv_get l k _ hg
  exact ⟨b, off, l[k], e, hb, hc _ _ this.1, hc _ _ this.2.1, hc _ _ this.2.2.1, hc _ _ this.2.2.2.1, hc _ _ this.2.2.2.2.1, hc _ _ this.2.2.2.2.2.1, hc _ _ this.2.2.2.2.2.2, hg, List.take_succ_eq_append_getElem hl⟩
theorem Nts.of_own {base : Nat} {e : TypeId} (h : w.ownsRow base e 7 (.slice A n c) n (ntv l)) : Nts w w.heap.size A n c l := Row.of_own h
theorem Nts.front (h : Nts w B A n c l) {k : Nat} (hk : k ≤ n) : Nts w B A k c (l.take k) := by
  have := Row.front h hk
  rw [ntv_take] at this
  exact this
theorem Nts.cut (h : Nts w B A n c l) {k : Nat} (hk : k ≤ n) : Nts w B (if c = k then A else A.map (·.add (k * 7))) (n - k) (c - k) (l.drop k) := by
  have := Row.cut h hk
  rw [ntv_drop] at this
  exact this
end
theorem ntone (w : World) (f : Nt) {s : Nat} (hs : s = w.heap.size) : Row (w.alloc (.cells #[.int .i64 f.kind, .int .i64 f.id, .int .i64 f.tbl, .int .i64 f.wt, .int .i64 f.at_, .int .i64 f.cur, .bool f.done] 27)) (w.heap.size + 1) 7 (some ⟨s, 0, none⟩) 1 1 (ntv [f]) :=
  Row.lit w #[.int .i64 f.kind, .int .i64 f.id, .int .i64 f.tbl, .int .i64 f.wt, .int .i64 f.at_, .int .i64 f.cur, .bool f.done] _ (0, 0) hs rfl (by omega)

/-- a list in new memory -/
def NtsNew (w : World) (l : List Nt) (e : Ending) (w' : World) : Prop :=
  ∃ A c, e = .returned (.slice A l.length c) ∧ w'.ownsRow w.heap.size 27 7 (.slice A l.length c) l.length (ntv l) ∧ Below w.heap.size w w'
end Go.Proofs.Ytlkjmdkmcaaihaa.Bt

namespace Go.Proofs.Ytlkjmdkmcaaihaa.Bt
set_option linter.unusedVariables false
set_option maxRecDepth 100000
open Go.RowKit Base FieldMath TxnMath BatchMath
open GuardMath (Gp noGp)
open Gd (Gps ov ov_append ov_one ov_length ocells oval oel)
set_option linter.ambiguousOpen false
set_option linter.unusedSimpArgs false

def itv (L : Int) (A : Option Addr) (n c : Nat) (A' : Option Addr) (n' c' : Nat) : Value := .agg #[.int .i64 L, .slice A n c, .slice A' n' c']
def itz : Array Value := #[.int .i64 0, .slice none 0 0, .slice none 0 0]
/-- an item by value, its lists below block B -/
def ItIn (w : World) (B : Nat) (x : It) (v : Value) : Prop := ∃ A n c A' n' c', v = itv x.lsn A n c A' n' c' ∧ Gps w B A n c x.ops ∧ Nts w B A' n' c' x.notes
/-- an item's lists in rows of their own -/
def ItOwn (w : World) (base : Nat) (x : It) (A : Option Addr) (n c : Nat) (A' : Option Addr) (n' c' : Nat) : Prop :=
  w.ownsRow base 29 5 (.slice A n c) n (ov x.ops) ∧ w.ownsRow base 27 7 (.slice A' n' c') n' (ntv x.notes)
/-- the three cells from place o of block b read as the item x; all that they name lies below block B -/
def ItAt (w : World) (B b o : Nat) (x : It) : Prop := ∃ A n c A' n' c', w.cell? ⟨b, o, none⟩ = some (.int .i64 x.lsn) ∧ w.cell? ⟨b, o + 1, none⟩ = some (.slice A n c) ∧
  w.cell? ⟨b, o + 2, none⟩ = some (.slice A' n' c') ∧ Gps w B A n c x.ops ∧ Nts w B A' n' c' x.notes
/-- a slice of items that reads as the list l, below block B -/
def Its (w : World) (B : Nat) (A : Option Addr) (n c : Nat) (l : List It) : Prop := l.length = n ∧ n ≤ c ∧ c ≤ 9223372036854775807 ∧
  ∀ i x, l[i]? = some x → ∃ b off, A = some ⟨b, off, none⟩ ∧ b < B ∧ ItAt w B b (off + i * 3) x
section
variable {w w' : World} {B B' b o n c : Nat} {A : Option Addr} {l : List It} {x : It} {v : Value}
theorem ItIn.below (h : ItIn w B x v) (hb : Below B w w') : ItIn w' B x v := by
  obtain ⟨A, n, c, A', n', c', e, h1, h2⟩ := h
  exact ⟨A, n, c, A', n', c', e, h1.below hb, h2.below hb⟩
theorem ItIn.more (h : ItIn w B x v) (hB : B ≤ B') : ItIn w B' x v := by
  obtain ⟨A, n, c, A', n', c', e, h1, h2⟩ := h
  exact ⟨A, n, c, A', n', c', e, h1.more hB, h2.more hB⟩
theorem ItAt.keep (h : ItAt w B b o x) (hb : b < B) (hk : ∀ p : Addr, p.block < B → w'.cell? p = w.cell? p) : ItAt w' B b o x := by
  obtain ⟨A, n, c, A', n', c', h0, h1, h2, h3, h4⟩ := h
  exact ⟨A, n, c, A', n', c', (hk _ hb).trans h0, (hk _ hb).trans h1, (hk _ hb).trans h2, Row.keep h3 hk, Row.keep h4 hk⟩
theorem ItAt.more (h : ItAt w B b o x) (hB : B ≤ B') : ItAt w B' b o x := by
  obtain ⟨A, n, c, A', n', c', h0, h1, h2, h3, h4⟩ := h
  exact ⟨A, n, c, A', n', c', h0, h1, h2, h3.more hB, h4.more hB⟩
theorem Its.len (h : Its w B A n c l) : l.length = n := h.1
theorem Its.le (h : Its w B A n c l) : n ≤ c ∧ c ≤ 9223372036854775807 := ⟨h.2.1, h.2.2.1⟩
theorem Its.keep (h : Its w B A n c l) (hk : ∀ p : Addr, p.block < B → w'.cell? p = w.cell? p) : Its w' B A n c l :=
  ⟨h.1, h.2.1, h.2.2.1, fun i x hx => by
    obtain ⟨b, off, e, hb, ht⟩ := h.2.2.2 i x hx
    exact ⟨b, off, e, hb, ht.keep hb hk⟩⟩
theorem Its.below (h : Its w B A n c l) (hb : Below B w w') : Its w' B A n c l := h.keep fun _ hp => hb.cell hp
theorem Its.more (h : Its w B A n c l) (hB : B ≤ B') : Its w B' A n c l :=
  ⟨h.1, h.2.1, h.2.2.1, fun i x hx => by
    obtain ⟨b, off, e, hb, ht⟩ := h.2.2.2 i x hx
    exact ⟨b, off, e, by omega, ht.more hB⟩⟩
theorem Its.nil_ (w : World) (B : Nat) : Its w B none 0 0 [] := ⟨rfl, by omega, by omega, fun i x hx => by simp at hx⟩
theorem Its.at_ (h : Its w B A n c l) {k : Nat} (hk : k < n) : ∃ b off x, A = some ⟨b, off, none⟩ ∧ b < B ∧ l[k]? = some x ∧ l.take (k + 1) = l.take k ++ [x] ∧ ItAt w B b (off + k * 3) x := by
  have hl : k < l.length := by rw [h.1]; exact hk
  have hg : l[k]? = some l[k] := List.getElem?_eq_getElem hl
  obtain ⟨b, off, e, hb, ht⟩ := h.2.2.2 k _ hg
  exact ⟨b, off, _, e, hb, hg, List.take_succ_eq_append_getElem hl, ht⟩
theorem Its.front (h : Its w B A n c l) {k : Nat} (hk : k ≤ n) : Its w B A k c (l.take k) := by
  refine ⟨by rw [List.length_take, h.1]; omega, by have := h.2.1; omega, h.2.2.1, fun i x hx => ?_⟩
  have hi : i < k := by have := (List.getElem?_eq_some_iff.1 hx).1; rw [List.length_take] at this; omega
  rw [List.getElem?_take_of_lt hi] at hx
  exact h.2.2.2 i x hx
theorem Its.cut (h : Its w B A n c l) {k : Nat} (hk : k ≤ n) : Its w B (if c = k then A else A.map (·.add (k * 3))) (n - k) (c - k) (l.drop k) := by
  have h1 := h.2.1
  refine ⟨by rw [List.length_drop, h.1], by omega, by have := h.2.2.1; omega, fun i x hx => ?_⟩
  rw [List.getElem?_drop] at hx
  obtain ⟨b, off, e, hb, ht⟩ := h.2.2.2 _ x hx
  have hlt := (List.getElem?_eq_some_iff.1 hx).1
  rw [h.1] at hlt
  rw [if_neg (by omega), e]
  refine ⟨b, off + k * 3, by rw [Option.map_some, add_none], hb, ?_⟩
  rw [show off + k * 3 + i * 3 = off + (k + i) * 3 by omega]
  exact ht
end
section
variable {w w' : World} {base base' : Nat} {x : It} {A A' : Option Addr} {n c n' c' : Nat}
theorem ItOwn.keep (h : ItOwn w base x A n c A' n' c') (hb : Below w.heap.size w w') : ItOwn w' base x A n c A' n' c' := ⟨own_keep h.1 hb, own_keep h.2 hb⟩
theorem ItOwn.mono (h : ItOwn w base x A n c A' n' c') (hb : base' ≤ base) : ItOwn w base' x A n c A' n' c' := ⟨own_mono h.1 hb, own_mono h.2 hb⟩
theorem ItOwn.rows (h : ItOwn w base x A n c A' n' c') : Gps w w.heap.size A n c x.ops ∧ Nts w w.heap.size A' n' c' x.notes := ⟨Gps.of_own h.1, Nts.of_own h.2⟩
theorem ItOwn.in_ (h : ItOwn w base x A n c A' n' c') : ItIn w w.heap.size x (itv x.lsn A n c A' n' c') := ⟨A, n, c, A', n', c', rfl, Gps.of_own h.1, Nts.of_own h.2⟩
theorem ItOwn.nil_ (w : World) (base : Nat) (L : Int) : ItOwn w base ⟨L, [], []⟩ none 0 0 none 0 0 := ⟨World.ownsRow_nil _ _ _ _, World.ownsRow_nil _ _ _ _⟩
end
def gotI : Except Nat It → It
  | .ok x => x
  | .error _ => noIt
/-- an item, or none and why, in new memory -/
def ItO (w : World) (q : Except Nat It) (e : Ending) (w' : World) : Prop :=
  ∃ A n c A' n' c', e = .returned (.tuple #[itv (gotI q).lsn A n c A' n' c', .int .i64 (err q)]) ∧ ItOwn w' w.heap.size (gotI q) A n c A' n' c' ∧ Below w.heap.size w w'
theorem itO_no {w w' : World} {q : Except Nat It} {e : Ending} {k : Nat} (h : q = .error k) (he : e = .returned (.tuple #[itv 0 none 0 0 none 0 0, .int .i64 k])) (hb : Below w.heap.size w w') : ItO w q e w' := by
  subst h
  exact ⟨none, 0, 0, none, 0, 0, he, ItOwn.nil_ _ _ _, hb⟩
/-- bytes, or none and why, in new memory -/
def EncI (w : World) (x : It) (e : Ending) (w' : World) : Prop :=
  ∃ A n c, e = .returned (.tuple #[.slice A n c, .int .i64 (err (encI x))]) ∧ w'.ownsRow w.heap.size 5 1 (.slice A n c) n (bv (got (encI x))) ∧ Below w.heap.size w w'
theorem encI_bad {x : It} (h : may x = false) : encI x = .error 1 := by unfold encI; rw [if_neg (by rw [h]; simp)]
theorem encI_ok {x : It} (h : may x = true) : encI x = .ok (encZ (ifl x)) := by unfold encI; rw [if_pos h]
theorem encI_err {w w' : World} {x : It} {e : Ending} (h : may x = false) (he : e = .returned (.tuple #[.slice none 0 0, .int .i64 1])) (hb : Below w.heap.size w w') : EncI w x e w' := by
  unfold EncI
  rw [encI_bad h]
  exact ⟨none, 0, 0, he, World.ownsRow_nil _ _ _ _, hb⟩
theorem encI_of {w w1 w' : World} {x : It} {e : Ending} {A : Option Addr} {n c : Nat} (h : may x = true) (he : e = .returned (.tuple #[.slice A n c, .int .i64 (err (enc (ifl x)))])) (ho : w'.ownsRow w1.heap.size 5 1 (.slice A n c) n (bv (got (enc (ifl x))))) (hs : w.heap.size ≤ w1.heap.size) (hb : Below w.heap.size w w') : EncI w x e w' := by
  unfold EncI
  rw [encI_ok h, ← enc_ifl h]
  exact ⟨A, n, c, he, own_mono ho hs, hb⟩
end Go.Proofs.Ytlkjmdkmcaaihaa.Bt
