/-
  Slices of qanat/api.Cell in memory: one that reads as a list. No condition.
-/
import Derived.Test.YtlbgpfiiiggofaaBase
import Derived.Test.YtlbgpfiiiggofaaGuardMath
import Derived.Test.YtlbgpfiiiggofaaChecked
import Derived.Test.YtlbgpfiiiggofaaRows
import Derived.Lib.Overlaps
namespace Go.Proofs.Ytlbgpfiiiggofaa.Gd
set_option linter.unusedVariables false
set_option maxRecDepth 100000
open Go.RowKit Base GuardMath
set_option linter.ambiguousOpen false
set_option linter.unusedSimpArgs false

def ccells (x : Ce) : List Value := [.int .i64 x.key, .int .i64 x.lsn, .bool x.gone, .string x.val]
def cval (x : Ce) : Value := .agg #[.int .i64 x.key, .int .i64 x.lsn, .bool x.gone, .string x.val]
def cv (l : List Ce) : List Value := l.flatMap ccells
theorem cv_append (l m : List Ce) : cv (l ++ m) = cv l ++ cv m := List.flatMap_append
theorem cv_cons (x : Ce) (l : List Ce) : cv (x :: l) = .int .i64 x.key :: .int .i64 x.lsn :: .bool x.gone :: .string x.val :: cv l := rfl
theorem cv_length (l : List Ce) : (cv l).length = l.length * 4 := by
  induction l with
  | nil => rfl
  | cons f l ih => rw [cv_cons]; simp only [List.length_cons, ih]; omega
theorem cv_one (l : List Ce) : ∀ u ∈ cv l, u.oneCell' = true := by
  intro u hu
  obtain ⟨f, _, hf⟩ := List.mem_flatMap.1 hu
  simp only [ccells, List.mem_cons, List.not_mem_nil, or_false] at hf
  rcases hf with rfl | rfl | rfl | rfl <;> rfl
theorem cv_get (l : List Ce) (k : Nat) (f : Ce) (h : l[k]? = some f) : (cv l)[k * 4]? = some (.int .i64 f.key) ∧ (cv l)[k * 4 + 1]? = some (.int .i64 f.lsn) ∧ (cv l)[k * 4 + 2]? = some (.bool f.gone) ∧ (cv l)[k * 4 + 3]? = some (.string f.val) := by
  induction l generalizing k with
  | nil => simp at h
  | cons g l ih =>
    rw [cv_cons]
    cases k with
    | zero =>
      simp only [List.getElem?_cons_zero, Option.some.injEq] at h
      subst h
      exact ⟨rfl, rfl, rfl, rfl⟩
    | succ k =>
      rw [List.getElem?_cons_succ] at h
      have := ih k h
      rw [show (k + 1) * 4 = k * 4 + 1 + 1 + 1 + 1 by omega]
      simpa using this
theorem cv_take (l : List Ce) (k : Nat) : (cv l).take (k * 4) = cv (l.take k) := by
  induction l generalizing k with
  | nil => simp [cv]
  | cons g l ih =>
    cases k with
    | zero => simp [cv]
    | succ k => rw [cv_cons, show (k + 1) * 4 = k * 4 + 1 + 1 + 1 + 1 by omega]; simp only [List.take_succ_cons, cv_cons, ih]
theorem cv_drop (l : List Ce) (k : Nat) : (cv l).drop (k * 4) = cv (l.drop k) := by
  induction l generalizing k with
  | nil => simp [cv]
  | cons g l ih =>
    cases k with
    | zero => simp
    | succ k => rw [cv_cons, show (k + 1) * 4 = k * 4 + 1 + 1 + 1 + 1 by omega]; simp only [List.drop_succ_cons, ih]
theorem cv_set (l : List Ce) (k : Nat) (y : Ce) : cv (l.set k y) = ((((cv l).set (k * 4) (.int .i64 y.key)).set (k * 4 + 1) (.int .i64 y.lsn)).set (k * 4 + 2) (.bool y.gone)).set (k * 4 + 3) (.string y.val) := by
  induction l generalizing k with
  | nil => simp [cv]
  | cons g l ih =>
    cases k with
    | zero => rfl
    | succ k =>
      rw [List.set_cons_succ, cv_cons, cv_cons, ih, show (k + 1) * 4 = k * 4 + 1 + 1 + 1 + 1 by omega]
      simp

theorem cel : Elem Try.prog 39 38 4 40 (.agg #[.int .i64 0, .int .i64 0, .bool false, .string ⟨#[]⟩]) := Elem.of Try.underlying39 (by kernel_rfl) rfl (by omega)

/-- a slice that reads as the list l, below block B -/
def Ces (w : World) (B : Nat) (A : Option Addr) (n c : Nat) (l : List Ce) : Prop := Row w B 4 A n c (cv l)
section
variable {w w' : World} {B B' n c : Nat} {A : Option Addr} {l : List Ce}
theorem Ces.len (h : Ces w B A n c l) : l.length = n := by have := h.1; rw [cv_length] at this; omega
theorem Ces.le (h : Ces w B A n c l) : n ≤ c ∧ c ≤ 9223372036854775807 := ⟨h.2.1, h.2.2.1⟩
theorem Ces.below (h : Ces w B A n c l) (hb : Below B w w') : Ces w' B A n c l := Row.below h hb
theorem Ces.more (h : Ces w B A n c l) (hB : B ≤ B') : Ces w B' A n c l := Row.more h hB
theorem Ces.nil_ (w : World) (B : Nat) : Ces w B none 0 0 [] := Row.nil_ w B 4
theorem Ces.at_ (h : Ces w B A n c l) {k : Nat} (hk : k < n) :
    ∃ b off f, A = some ⟨b, off, none⟩ ∧ b < B ∧ w.cell? ⟨b, off + k * 4, none⟩ = some (.int .i64 f.key) ∧ w.cell? ⟨b, off + k * 4 + 1, none⟩ = some (.int .i64 f.lsn) ∧ w.cell? ⟨b, off + k * 4 + 2, none⟩ = some (.bool f.gone) ∧ w.cell? ⟨b, off + k * 4 + 3, none⟩ = some (.string f.val) ∧ l[k]? = some f ∧ l.take (k + 1) = l.take k ++ [f] := by
  obtain ⟨b, off, e, hb, hc⟩ := h.2.2.2 (by omega)
  have hl : k < l.length := by rw [h.len]; exact hk
  have hg : l[k]? = some l[k] := List.getElem?_eq_getElem hl
  have := cv_get l k _ hg
  exact ⟨b, off, l[k], e, hb, hc _ _ this.1, hc _ _ this.2.1, hc _ _ this.2.2.1, hc _ _ this.2.2.2, hg, List.take_succ_eq_append_getElem hl⟩
theorem Ces.of_own {base : Nat} {e : TypeId} (h : w.ownsRow base e 4 (.slice A n c) n (cv l)) : Ces w w.heap.size A n c l := Row.of_own h
theorem Ces.front (h : Ces w B A n c l) {k : Nat} (hk : k ≤ n) : Ces w B A k c (l.take k) := by
  have := Row.front h hk
  rw [cv_take] at this
  exact this
theorem Ces.cut (h : Ces w B A n c l) {k : Nat} (hk : k ≤ n) : Ces w B (if c = k then A else A.map (·.add (k * 4))) (n - k) (c - k) (l.drop k) := by
  have := Row.cut h hk
  rw [cv_drop] at this
  exact this
end
theorem cone (w : World) (f : Ce) {s : Nat} (hs : s = w.heap.size) : Row (w.alloc (.cells #[.int .i64 f.key, .int .i64 f.lsn, .bool f.gone, .string f.val] 38)) (w.heap.size + 1) 4 (some ⟨s, 0, none⟩) 1 1 (cv [f]) :=
  Row.lit w #[.int .i64 f.key, .int .i64 f.lsn, .bool f.gone, .string f.val] _ (0, 0) hs rfl (by omega)

/-- a list in new memory -/
def CesNew (w : World) (l : List Ce) (e : Ending) (w' : World) : Prop :=
  ∃ A c, e = .returned (.slice A l.length c) ∧ w'.ownsRow w.heap.size 38 4 (.slice A l.length c) l.length (cv l) ∧ Below w.heap.size w w'
end Go.Proofs.Ytlbgpfiiiggofaa.Gd
