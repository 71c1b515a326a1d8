/-
  Slices of qanat/qanatlaw20.Op in memory: one that reads as a list. No condition.
-/
import Derived.Test.YtadlollgmimajaaBase
import Derived.Test.YtadlollgmimajaaRetryMath
import Derived.Test.YtadlollgmimajaaChecked
import Derived.Test.YtadlollgmimajaaRows
import Derived.Lib.Overlaps
namespace Go.Proofs.Ytadlollgmimajaa.Rt
set_option linter.unusedVariables false
set_option maxRecDepth 100000
open Go.RowKit Base RetryMath
set_option linter.ambiguousOpen false
set_option linter.unusedSimpArgs false

def tcells (x : To) : List Value := [.int .i64 x.kind, .int .i64 x.now, .int .i64 x.draw]
def tval (x : To) : Value := .agg #[.int .i64 x.kind, .int .i64 x.now, .int .i64 x.draw]
def tv (l : List To) : List Value := l.flatMap tcells
theorem tv_append (l m : List To) : tv (l ++ m) = tv l ++ tv m := List.flatMap_append
theorem tv_cons (x : To) (l : List To) : tv (x :: l) = .int .i64 x.kind :: .int .i64 x.now :: .int .i64 x.draw :: tv l := rfl
theorem tv_length (l : List To) : (tv l).length = l.length * 3 := by
  induction l with
  | nil => rfl
  | cons f l ih => rw [tv_cons]; simp only [List.length_cons, ih]; omega
theorem tv_one (l : List To) : ∀ u ∈ tv l, u.oneCell' = true := by
  intro u hu
  obtain ⟨f, _, hf⟩ := List.mem_flatMap.1 hu
  simp only [tcells, List.mem_cons, List.not_mem_nil, or_false] at hf
  rcases hf with rfl | rfl | rfl <;> rfl
theorem tv_get (l : List To) (k : Nat) (f : To) (h : l[k]? = some f) : (tv l)[k * 3]? = some (.int .i64 f.kind) ∧ (tv l)[k * 3 + 1]? = some (.int .i64 f.now) ∧ (tv l)[k * 3 + 2]? = some (.int .i64 f.draw) := by
  induction l generalizing k with
  | nil => simp at h
  | cons g l ih =>
    rw [tv_cons]
    cases k with
    | zero =>
      simp only [List.getElem?_cons_zero, Option.some.injEq] at h
      subst h
      exact ⟨rfl, rfl, rfl⟩
    | succ k =>
      rw [List.getElem?_cons_succ] at h
      have := ih k h
      rw [show (k + 1) * 3 = k * 3 + 1 + 1 + 1 by omega]
      simpa using this
theorem tv_take (l : List To) (k : Nat) : (tv l).take (k * 3) = tv (l.take k) := by
  induction l generalizing k with
  | nil => simp [tv]
  | cons g l ih =>
    cases k with
    | zero => simp [tv]
    | succ k => rw [tv_cons, show (k + 1) * 3 = k * 3 + 1 + 1 + 1 by omega]; simp only [List.take_succ_cons, tv_cons, ih]
theorem tv_drop (l : List To) (k : Nat) : (tv l).drop (k * 3) = tv (l.drop k) := by
  induction l generalizing k with
  | nil => simp [tv]
  | cons g l ih =>
    cases k with
    | zero => simp
    | succ k => rw [tv_cons, show (k + 1) * 3 = k * 3 + 1 + 1 + 1 by omega]; simp only [List.drop_succ_cons, ih]
theorem tv_set (l : List To) (k : Nat) (y : To) : tv (l.set k y) = (((tv l).set (k * 3) (.int .i64 y.kind)).set (k * 3 + 1) (.int .i64 y.now)).set (k * 3 + 2) (.int .i64 y.draw) := by
  induction l generalizing k with
  | nil => simp [tv]
  | cons g l ih =>
    cases k with
    | zero => rfl
    | succ k =>
      rw [List.set_cons_succ, tv_cons, tv_cons, ih, show (k + 1) * 3 = k * 3 + 1 + 1 + 1 by omega]
      simp

theorem tel : Elem Try.prog 31 37 3 24 (.agg #[.int .i64 0, .int .i64 0, .int .i64 0]) := Elem.of Try.underlying31 (by kernel_rfl) rfl (by omega)

/-- a slice that reads as the list l, below block B -/
def Tos (w : World) (B : Nat) (A : Option Addr) (n c : Nat) (l : List To) : Prop := Row w B 3 A n c (tv l)
section
variable {w w' : World} {B B' n c : Nat} {A : Option Addr} {l : List To}
theorem Tos.len (h : Tos w B A n c l) : l.length = n := by have := h.1; rw [tv_length] at this; omega
theorem Tos.le (h : Tos w B A n c l) : n ≤ c ∧ c ≤ 9223372036854775807 := ⟨h.2.1, h.2.2.1⟩
theorem Tos.below (h : Tos w B A n c l) (hb : Below B w w') : Tos w' B A n c l := Row.below h hb
theorem Tos.more (h : Tos w B A n c l) (hB : B ≤ B') : Tos w B' A n c l := Row.more h hB
theorem Tos.nil_ (w : World) (B : Nat) : Tos w B none 0 0 [] := Row.nil_ w B 3
theorem Tos.at_ (h : Tos w B A n c l) {k : Nat} (hk : k < n) :
    ∃ b off f, A = some ⟨b, off, none⟩ ∧ b < B ∧ w.cell? ⟨b, off + k * 3, none⟩ = some (.int .i64 f.kind) ∧ w.cell? ⟨b, off + k * 3 + 1, none⟩ = some (.int .i64 f.now) ∧ w.cell? ⟨b, off + k * 3 + 2, none⟩ = some (.int .i64 f.draw) ∧ l[k]? = some f ∧ l.take (k + 1) = l.take k ++ [f] := by
  obtain ⟨b, off, e, hb, hc⟩ := h.2.2.2 (by omega)
  have hl : k < l.length := by rw [h.len]; exact hk
  have hg : l[k]? = some l[k] := List.getElem?_eq_getElem hl
  have := tv_get l k _ hg
  exact ⟨b, off, l[k], e, hb, hc _ _ this.1, hc _ _ this.2.1, hc _ _ this.2.2, hg, List.take_succ_eq_append_getElem hl⟩
theorem Tos.of_own {base : Nat} {e : TypeId} (h : w.ownsRow base e 3 (.slice A n c) n (tv l)) : Tos w w.heap.size A n c l := Row.of_own h
theorem Tos.front (h : Tos w B A n c l) {k : Nat} (hk : k ≤ n) : Tos w B A k c (l.take k) := by
  have := Row.front h hk
  rw [tv_take] at this
  exact this
theorem Tos.cut (h : Tos w B A n c l) {k : Nat} (hk : k ≤ n) : Tos w B (if c = k then A else A.map (·.add (k * 3))) (n - k) (c - k) (l.drop k) := by
  have := Row.cut h hk
  rw [tv_drop] at this
  exact this
end
theorem tone (w : World) (f : To) {s : Nat} (hs : s = w.heap.size) : Row (w.alloc (.cells #[.int .i64 f.kind, .int .i64 f.now, .int .i64 f.draw] 37)) (w.heap.size + 1) 3 (some ⟨s, 0, none⟩) 1 1 (tv [f]) :=
  Row.lit w #[.int .i64 f.kind, .int .i64 f.now, .int .i64 f.draw] _ (0, 0) hs rfl (by omega)

/-- a list in new memory -/
def TosNew (w : World) (l : List To) (e : Ending) (w' : World) : Prop :=
  ∃ A c, e = .returned (.slice A l.length c) ∧ w'.ownsRow w.heap.size 37 3 (.slice A l.length c) l.length (tv l) ∧ Below w.heap.size w w'
end Go.Proofs.Ytadlollgmimajaa.Rt
