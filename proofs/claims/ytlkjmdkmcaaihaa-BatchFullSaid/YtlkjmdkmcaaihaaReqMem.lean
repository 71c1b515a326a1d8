/-
  Slices of qanat/api.Req in memory: one that reads as a list. No condition.
-/
import Derived.Test.YtlkjmdkmcaaihaaBase
import Derived.Test.YtlkjmdkmcaaihaaReqMath
import Derived.Test.YtlkjmdkmcaaihaaChecked
import Derived.Test.YtlkjmdkmcaaihaaRows
import Derived.Lib.Overlaps
namespace Go.Proofs.Ytlkjmdkmcaaihaa.Req
set_option linter.unusedVariables false
set_option maxRecDepth 100000
open Go.RowKit Base ReqMath
set_option linter.ambiguousOpen false
set_option linter.unusedSimpArgs false

def qcells (x : Rq) : List Value := [.int .i64 x.id, .int .i64 x.tbl, .int .i64 x.wt, .int .i64 x.at_, .int .i64 x.cur, .int .i64 x.chs, .bool x.done]
def qval (x : Rq) : Value := .agg #[.int .i64 x.id, .int .i64 x.tbl, .int .i64 x.wt, .int .i64 x.at_, .int .i64 x.cur, .int .i64 x.chs, .bool x.done]
def qv (l : List Rq) : List Value := l.flatMap qcells
theorem qv_append (l m : List Rq) : qv (l ++ m) = qv l ++ qv m := List.flatMap_append
theorem qv_cons (x : Rq) (l : List Rq) : qv (x :: l) = .int .i64 x.id :: .int .i64 x.tbl :: .int .i64 x.wt :: .int .i64 x.at_ :: .int .i64 x.cur :: .int .i64 x.chs :: .bool x.done :: qv l := rfl
theorem qv_length (l : List Rq) : (qv l).length = l.length * 7 := by
  induction l with
  | nil => rfl
  | cons f l ih => rw [qv_cons]; simp only [List.length_cons, ih]; omega
theorem qv_one (l : List Rq) : ∀ u ∈ qv l, u.oneCell' = true := by
  intro u hu
  obtain ⟨f, _, hf⟩ := List.mem_flatMap.1 hu
  simp only [qcells, List.mem_cons, List.not_mem_nil, or_false] at hf
  rcases hf with rfl | rfl | rfl | rfl | rfl | rfl | rfl <;> rfl
theorem qv_get (l : List Rq) (k : Nat) (f : Rq) (h : l[k]? = some f) : (qv l)[k * 7]? = some (.int .i64 f.id) ∧ (qv l)[k * 7 + 1]? = some (.int .i64 f.tbl) ∧ (qv l)[k * 7 + 2]? = some (.int .i64 f.wt) ∧ (qv l)[k * 7 + 3]? = some (.int .i64 f.at_) ∧ (qv l)[k * 7 + 4]? = some (.int .i64 f.cur) ∧ (qv l)[k * 7 + 5]? = some (.int .i64 f.chs) ∧ (qv l)[k * 7 + 6]? = some (.bool f.done) := by
  induction l generalizing k with
  | nil => simp at h
  | cons g l ih =>
    rw [qv_cons]
    cases k with
    | zero =>
      simp only [List.getElem?_cons_zero, Option.some.injEq] at h
      subst h
      exact ⟨rfl, rfl, rfl, rfl, rfl, rfl, rfl⟩
    | succ k =>
      rw [List.getElem?_cons_succ] at h
      have := ih k h
      rw [show (k + 1) * 7 = k * 7 + 1 + 1 + 1 + 1 + 1 + 1 + 1 by omega]
      simpa using this
theorem qv_take (l : List Rq) (k : Nat) : (qv l).take (k * 7) = qv (l.take k) := by
  induction l generalizing k with
  | nil => simp [qv]
  | cons g l ih =>
    cases k with
    | zero => simp [qv]
    | succ k => rw [qv_cons, show (k + 1) * 7 = k * 7 + 1 + 1 + 1 + 1 + 1 + 1 + 1 by omega]; simp only [List.take_succ_cons, qv_cons, ih]
theorem qv_drop (l : List Rq) (k : Nat) : (qv l).drop (k * 7) = qv (l.drop k) := by
  induction l generalizing k with
  | nil => simp [qv]
  | cons g l ih =>
    cases k with
    | zero => simp
    | succ k => rw [qv_cons, show (k + 1) * 7 = k * 7 + 1 + 1 + 1 + 1 + 1 + 1 + 1 by omega]; simp only [List.drop_succ_cons, ih]
theorem qv_set (l : List Rq) (k : Nat) (y : Rq) : qv (l.set k y) = (((((((qv l).set (k * 7) (.int .i64 y.id)).set (k * 7 + 1) (.int .i64 y.tbl)).set (k * 7 + 2) (.int .i64 y.wt)).set (k * 7 + 3) (.int .i64 y.at_)).set (k * 7 + 4) (.int .i64 y.cur)).set (k * 7 + 5) (.int .i64 y.chs)).set (k * 7 + 6) (.bool y.done) := by
  induction l generalizing k with
  | nil => simp [qv]
  | cons g l ih =>
    cases k with
    | zero => rfl
    | succ k =>
      rw [List.set_cons_succ, qv_cons, qv_cons, ih, show (k + 1) * 7 = k * 7 + 1 + 1 + 1 + 1 + 1 + 1 + 1 by omega]
      simp

theorem qel : Elem Try.prog 116 125 7 56 (.agg #[.int .i64 0, .int .i64 0, .int .i64 0, .int .i64 0, .int .i64 0, .int .i64 0, .bool false]) := Elem.of Try.underlying116 (by kernel_rfl) rfl (by omega)

/-- a slice that reads as the list l, below block B -/
def Qs (w : World) (B : Nat) (A : Option Addr) (n c : Nat) (l : List Rq) : Prop := Row w B 7 A n c (qv l)
section
variable {w w' : World} {B B' n c : Nat} {A : Option Addr} {l : List Rq}
theorem Qs.len (h : Qs w B A n c l) : l.length = n := by have := h.1; rw [qv_length] at this; omega
theorem Qs.le (h : Qs w B A n c l) : n ≤ c ∧ c ≤ 9223372036854775807 := ⟨h.2.1, h.2.2.1⟩
theorem Qs.below (h : Qs w B A n c l) (hb : Below B w w') : Qs w' B A n c l := Row.below h hb
theorem Qs.more (h : Qs w B A n c l) (hB : B ≤ B') : Qs w B' A n c l := Row.more h hB
theorem Qs.nil_ (w : World) (B : Nat) : Qs w B none 0 0 [] := Row.nil_ w B 7
theorem Qs.at_ (h : Qs w B A n c l) {k : Nat} (hk : k < n) :
    ∃ b off f, A = some ⟨b, off, none⟩ ∧ b < B ∧ w.cell? ⟨b, off + k * 7, none⟩ = some (.int .i64 f.id) ∧ w.cell? ⟨b, off + k * 7 + 1, none⟩ = some (.int .i64 f.tbl) ∧ w.cell? ⟨b, off + k * 7 + 2, none⟩ = some (.int .i64 f.wt) ∧ w.cell? ⟨b, off + k * 7 + 3, none⟩ = some (.int .i64 f.at_) ∧ w.cell? ⟨b, off + k * 7 + 4, none⟩ = some (.int .i64 f.cur) ∧ w.cell? ⟨b, off + k * 7 + 5, none⟩ = some (.int .i64 f.chs) ∧ w.cell? ⟨b, off + k * 7 + 6, none⟩ = some (.bool f.done) ∧ l[k]? = some f ∧ l.take (k + 1) = l.take k ++ [f] := by
  obtain ⟨b, off, e, hb, hc⟩ := h.2.2.2 (by omega)
  have hl : k < l.length := by rw [h.len]; exact hk
  have hg : l[k]? = some l[k] := List.getElem?_eq_getElem hl
  have := qv_get l k _ hg
  exact ⟨b, off, l[k], e, hb, hc _ _ this.1, hc _ _ this.2.1, hc _ _ this.2.2.1, hc _ _ this.2.2.2.1, hc _ _ this.2.2.2.2.1, hc _ _ this.2.2.2.2.2.1, hc _ _ this.2.2.2.2.2.2, hg, List.take_succ_eq_append_getElem hl⟩
theorem Qs.of_own {base : Nat} {e : TypeId} (h : w.ownsRow base e 7 (.slice A n c) n (qv l)) : Qs w w.heap.size A n c l := Row.of_own h
theorem Qs.front (h : Qs w B A n c l) {k : Nat} (hk : k ≤ n) : Qs w B A k c (l.take k) := by
  have := Row.front h hk
  rw [qv_take] at this
  exact this
theorem Qs.cut (h : Qs w B A n c l) {k : Nat} (hk : k ≤ n) : Qs w B (if c = k then A else A.map (·.add (k * 7))) (n - k) (c - k) (l.drop k) := by
  have := Row.cut h hk
  rw [qv_drop] at this
  exact this
end
theorem qone (w : World) (f : Rq) {s : Nat} (hs : s = w.heap.size) : Row (w.alloc (.cells #[.int .i64 f.id, .int .i64 f.tbl, .int .i64 f.wt, .int .i64 f.at_, .int .i64 f.cur, .int .i64 f.chs, .bool f.done] 125)) (w.heap.size + 1) 7 (some ⟨s, 0, none⟩) 1 1 (qv [f]) :=
  Row.lit w #[.int .i64 f.id, .int .i64 f.tbl, .int .i64 f.wt, .int .i64 f.at_, .int .i64 f.cur, .int .i64 f.chs, .bool f.done] _ (0, 0) hs rfl (by omega)

/-- a list in new memory -/
def QsNew (w : World) (l : List Rq) (e : Ending) (w' : World) : Prop :=
  ∃ A c, e = .returned (.slice A l.length c) ∧ w'.ownsRow w.heap.size 125 7 (.slice A l.length c) l.length (qv l) ∧ Below w.heap.size w w'
end Go.Proofs.Ytlkjmdkmcaaihaa.Req
