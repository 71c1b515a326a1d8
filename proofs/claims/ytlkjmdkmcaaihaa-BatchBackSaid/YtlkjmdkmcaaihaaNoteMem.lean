/-
  Slices of qanat/api.Note in memory: one that reads as a list. No condition.
-/
import Derived.Test.YtlkjmdkmcaaihaaBase
import Derived.Test.YtlkjmdkmcaaihaaBatchMath
import Derived.Test.YtlkjmdkmcaaihaaChecked
import Derived.Test.YtlkjmdkmcaaihaaRows
import Derived.Lib.Overlaps
namespace Go.Proofs.Ytlkjmdkmcaaihaa.Bt
set_option linter.unusedVariables false
set_option maxRecDepth 100000
open Go.RowKit Base BatchMath
set_option linter.ambiguousOpen false
set_option linter.unusedSimpArgs false

def ntcells (x : Nt) : List Value := [.int .i64 x.kind, .int .i64 x.id, .int .i64 x.tbl, .int .i64 x.wt, .int .i64 x.at_, .int .i64 x.cur, .bool x.done]
def ntval (x : Nt) : Value := .agg #[.int .i64 x.kind, .int .i64 x.id, .int .i64 x.tbl, .int .i64 x.wt, .int .i64 x.at_, .int .i64 x.cur, .bool x.done]
def ntv (l : List Nt) : List Value := l.flatMap ntcells
theorem ntv_append (l m : List Nt) : ntv (l ++ m) = ntv l ++ ntv m := List.flatMap_append
theorem ntv_cons (x : Nt) (l : List Nt) : ntv (x :: l) = .int .i64 x.kind :: .int .i64 x.id :: .int .i64 x.tbl :: .int .i64 x.wt :: .int .i64 x.at_ :: .int .i64 x.cur :: .bool x.done :: ntv l := rfl
theorem ntv_length (l : List Nt) : (ntv l).length = l.length * 7 := by
  induction l with
  | nil => rfl
  | cons f l ih => rw [ntv_cons]; simp only [List.length_cons, ih]; omega
theorem ntv_one (l : List Nt) : ∀ u ∈ ntv l, u.oneCell' = true := by
  intro u hu
  obtain ⟨f, _, hf⟩ := List.mem_flatMap.1 hu
  simp only [ntcells, List.mem_cons, List.not_mem_nil, or_false] at hf
  rcases hf with rfl | rfl | rfl | rfl | rfl | rfl | rfl <;> rfl
theorem ntv_get (l : List Nt) (k : Nat) (f : Nt) (h : l[k]? = some f) : (ntv l)[k * 7]? = some (.int .i64 f.kind) ∧ (ntv l)[k * 7 + 1]? = some (.int .i64 f.id) ∧ (ntv l)[k * 7 + 2]? = some (.int .i64 f.tbl) ∧ (ntv l)[k * 7 + 3]? = some (.int .i64 f.wt) ∧ (ntv l)[k * 7 + 4]? = some (.int .i64 f.at_) ∧ (ntv l)[k * 7 + 5]? = some (.int .i64 f.cur) ∧ (ntv l)[k * 7 + 6]? = some (.bool f.done) := by
  induction l generalizing k with
  | nil => simp at h
  | cons g l ih =>
    rw [ntv_cons]
    cases k with
    | zero =>
      simp only [List.getElem?_cons_zero, Option.some.injEq] at h
      subst h
      exact ⟨rfl, rfl, rfl, rfl, rfl, rfl, rfl⟩
    | succ k =>
      rw [List.getElem?_cons_succ] at h
      have := ih k h
      rw [show (k + 1) * 7 = k * 7 + 1 + 1 + 1 + 1 + 1 + 1 + 1 by omega]
      simpa using this
theorem ntv_take (l : List Nt) (k : Nat) : (ntv l).take (k * 7) = ntv (l.take k) := by
  induction l generalizing k with
  | nil => simp [ntv]
  | cons g l ih =>
    cases k with
    | zero => simp [ntv]
    | succ k => rw [ntv_cons, show (k + 1) * 7 = k * 7 + 1 + 1 + 1 + 1 + 1 + 1 + 1 by omega]; simp only [List.take_succ_cons, ntv_cons, ih]
theorem ntv_drop (l : List Nt) (k : Nat) : (ntv l).drop (k * 7) = ntv (l.drop k) := by
  induction l generalizing k with
  | nil => simp [ntv]
  | cons g l ih =>
    cases k with
    | zero => simp
    | succ k => rw [ntv_cons, show (k + 1) * 7 = k * 7 + 1 + 1 + 1 + 1 + 1 + 1 + 1 by omega]; simp only [List.drop_succ_cons, ih]
theorem ntv_set (l : List Nt) (k : Nat) (y : Nt) : ntv (l.set k y) = (((((((ntv l).set (k * 7) (.int .i64 y.kind)).set (k * 7 + 1) (.int .i64 y.id)).set (k * 7 + 2) (.int .i64 y.tbl)).set (k * 7 + 3) (.int .i64 y.wt)).set (k * 7 + 4) (.int .i64 y.at_)).set (k * 7 + 5) (.int .i64 y.cur)).set (k * 7 + 6) (.bool y.done) := by
  induction l generalizing k with
  | nil => simp [ntv]
  | cons g l ih =>
    cases k with
    | zero => rfl
    | succ k =>
      rw [List.set_cons_succ, ntv_cons, ntv_cons, ih, show (k + 1) * 7 = k * 7 + 1 + 1 + 1 + 1 + 1 + 1 + 1 by omega]
      simp

theorem ntel : Elem Try.prog 23 27 7 56 (.agg #[.int .i64 0, .int .i64 0, .int .i64 0, .int .i64 0, .int .i64 0, .int .i64 0, .bool false]) := Elem.of Try.underlying23 (by kernel_rfl) rfl (by omega)

/-- a slice that reads as the list l, below block B -/
def Nts (w : World) (B : Nat) (A : Option Addr) (n c : Nat) (l : List Nt) : Prop := Row w B 7 A n c (ntv l)
section
variable {w w' : World} {B B' n c : Nat} {A : Option Addr} {l : List Nt}
theorem Nts.len (h : Nts w B A n c l) : l.length = n := by have := h.1; rw [ntv_length] at this; omega
theorem Nts.le (h : Nts w B A n c l) : n ≤ c ∧ c ≤ 9223372036854775807 := ⟨h.2.1, h.2.2.1⟩
theorem Nts.below (h : Nts w B A n c l) (hb : Below B w w') : Nts w' B A n c l := Row.below h hb
theorem Nts.more (h : Nts w B A n c l) (hB : B ≤ B') : Nts w B' A n c l := Row.more h hB
theorem Nts.nil_ (w : World) (B : Nat) : Nts w B none 0 0 [] := Row.nil_ w B 7
theorem Nts.at_ (h : Nts w B A n c l) {k : Nat} (hk : k < n) :
    ∃ b off f, A = some ⟨b, off, none⟩ ∧ b < B ∧ w.cell? ⟨b, off + k * 7, none⟩ = some (.int .i64 f.kind) ∧ w.cell? ⟨b, off + k * 7 + 1, none⟩ = some (.int .i64 f.id) ∧ w.cell? ⟨b, off + k * 7 + 2, none⟩ = some (.int .i64 f.tbl) ∧ w.cell? ⟨b, off + k * 7 + 3, none⟩ = some (.int .i64 f.wt) ∧ w.cell? ⟨b, off + k * 7 + 4, none⟩ = some (.int .i64 f.at_) ∧ w.cell? ⟨b, off + k * 7 + 5, none⟩ = some (.int .i64 f.cur) ∧ w.cell? ⟨b, off + k * 7 + 6, none⟩ = some (.bool f.done) ∧ l[k]? = some f ∧ l.take (k + 1) = l.take k ++ [f] := by
  obtain ⟨b, off, e, hb, hc⟩ := h.2.2.2 (by omega)
  have hl : k < l.length := by rw [h.len]; exact hk
  have hg : l[k]? = some l[k] := List.getElem?_eq_getElem hl
  have := ntv_get l k _ hg
  exact ⟨b, off, l[k], e, hb, hc _ _ this.1, hc _ _ this.2.1, hc _ _ this.2.2.1, hc _ _ this.2.2.2.1, hc _ _ this.2.2.2.2.1, hc _ _ this.2.2.2.2.2.1, hc _ _ this.2.2.2.2.2.2, hg, List.take_succ_eq_append_getElem hl⟩
theorem Nts.of_own {base : Nat} {e : TypeId} (h : w.ownsRow base e 7 (.slice A n c) n (ntv l)) : Nts w w.heap.size A n c l := Row.of_own h
theorem Nts.front (h : Nts w B A n c l) {k : Nat} (hk : k ≤ n) : Nts w B A k c (l.take k) := by
  have := Row.front h hk
  rw [ntv_take] at this
  exact this
theorem Nts.cut (h : Nts w B A n c l) {k : Nat} (hk : k ≤ n) : Nts w B (if c = k then A else A.map (·.add (k * 7))) (n - k) (c - k) (l.drop k) := by
  have := Row.cut h hk
  rw [ntv_drop] at this
  exact this
end
theorem ntone (w : World) (f : Nt) {s : Nat} (hs : s = w.heap.size) : Row (w.alloc (.cells #[.int .i64 f.kind, .int .i64 f.id, .int .i64 f.tbl, .int .i64 f.wt, .int .i64 f.at_, .int .i64 f.cur, .bool f.done] 27)) (w.heap.size + 1) 7 (some ⟨s, 0, none⟩) 1 1 (ntv [f]) :=
  Row.lit w #[.int .i64 f.kind, .int .i64 f.id, .int .i64 f.tbl, .int .i64 f.wt, .int .i64 f.at_, .int .i64 f.cur, .bool f.done] _ (0, 0) hs rfl (by omega)

/-- a list in new memory -/
def NtsNew (w : World) (l : List Nt) (e : Ending) (w' : World) : Prop :=
  ∃ A c, e = .returned (.slice A l.length c) ∧ w'.ownsRow w.heap.size 27 7 (.slice A l.length c) l.length (ntv l) ∧ Below w.heap.size w w'
end Go.Proofs.Ytlkjmdkmcaaihaa.Bt
