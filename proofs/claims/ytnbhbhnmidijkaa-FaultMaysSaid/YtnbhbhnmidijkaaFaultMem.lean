/-
  Slices of qanat/api.Fault in memory: one that reads as a list. No condition.
-/
import Derived.Test.YtnbhbhnmidijkaaBase
import Derived.Test.YtnbhbhnmidijkaaFaultMath
import Derived.Test.YtnbhbhnmidijkaaChecked
import Derived.Test.YtnbhbhnmidijkaaRows
import Derived.Lib.Overlaps
namespace Go.Proofs.Ytnbhbhnmidijkaa.Flt
set_option linter.unusedVariables false
set_option maxRecDepth 100000
open Go.RowKit Base FaultMath
set_option linter.ambiguousOpen false
set_option linter.unusedSimpArgs false

def fcells (x : Ft) : List Value := [.int .i64 x.kind, .int .i64 x.keep]
def fval (x : Ft) : Value := .agg #[.int .i64 x.kind, .int .i64 x.keep]
def fv (l : List Ft) : List Value := l.flatMap fcells
theorem fv_append (l m : List Ft) : fv (l ++ m) = fv l ++ fv m := List.flatMap_append
theorem fv_cons (x : Ft) (l : List Ft) : fv (x :: l) = .int .i64 x.kind :: .int .i64 x.keep :: fv l := rfl
theorem fv_length (l : List Ft) : (fv l).length = l.length * 2 := by
  induction l with
  | nil => rfl
  | cons f l ih => rw [fv_cons]; simp only [List.length_cons, ih]; omega
theorem fv_one (l : List Ft) : ∀ u ∈ fv l, u.oneCell' = true := by
  intro u hu
  obtain ⟨f, _, hf⟩ := List.mem_flatMap.1 hu
  simp only [fcells, List.mem_cons, List.not_mem_nil, or_false] at hf
  rcases hf with rfl | rfl <;> rfl
theorem fv_get (l : List Ft) (k : Nat) (f : Ft) (h : l[k]? = some f) : (fv l)[k * 2]? = some (.int .i64 f.kind) ∧ (fv l)[k * 2 + 1]? = some (.int .i64 f.keep) := by
  induction l generalizing k with
  | nil => simp at h
  | cons g l ih =>
    rw [fv_cons]
    cases k with
    | zero =>
      simp only [List.getElem?_cons_zero, Option.some.injEq] at h
      subst h
      exact ⟨rfl, rfl⟩
    | succ k =>
      rw [List.getElem?_cons_succ] at h
      have := ih k h
      rw [show (k + 1) * 2 = k * 2 + 1 + 1 by omega]
      simpa using this
theorem fv_take (l : List Ft) (k : Nat) : (fv l).take (k * 2) = fv (l.take k) := by
  induction l generalizing k with
  | nil => simp [fv]
  | cons g l ih =>
    cases k with
    | zero => simp [fv]
    | succ k => rw [fv_cons, show (k + 1) * 2 = k * 2 + 1 + 1 by omega]; simp only [List.take_succ_cons, fv_cons, ih]
theorem fv_drop (l : List Ft) (k : Nat) : (fv l).drop (k * 2) = fv (l.drop k) := by
  induction l generalizing k with
  | nil => simp [fv]
  | cons g l ih =>
    cases k with
    | zero => simp
    | succ k => rw [fv_cons, show (k + 1) * 2 = k * 2 + 1 + 1 by omega]; simp only [List.drop_succ_cons, ih]
theorem fv_set (l : List Ft) (k : Nat) (y : Ft) : fv (l.set k y) = ((fv l).set (k * 2) (.int .i64 y.kind)).set (k * 2 + 1) (.int .i64 y.keep) := by
  induction l generalizing k with
  | nil => simp [fv]
  | cons g l ih =>
    cases k with
    | zero => rfl
    | succ k =>
      rw [List.set_cons_succ, fv_cons, fv_cons, ih, show (k + 1) * 2 = k * 2 + 1 + 1 by omega]
      simp

theorem fel : Elem Try.prog 32 23 2 16 (.agg #[.int .i64 0, .int .i64 0]) := Elem.of Try.underlying32 (by kernel_rfl) rfl (by omega)

/-- a slice that reads as the list l, below block B -/
def Fts (w : World) (B : Nat) (A : Option Addr) (n c : Nat) (l : List Ft) : Prop := Row w B 2 A n c (fv l)
section
variable {w w' : World} {B B' n c : Nat} {A : Option Addr} {l : List Ft}
theorem Fts.len (h : Fts w B A n c l) : l.length = n := by have := h.1; rw [fv_length] at this; omega
theorem Fts.le (h : Fts w B A n c l) : n ≤ c ∧ c ≤ 9223372036854775807 := ⟨h.2.1, h.2.2.1⟩
theorem Fts.below (h : Fts w B A n c l) (hb : Below B w w') : Fts w' B A n c l := Row.below h hb
theorem Fts.more (h : Fts w B A n c l) (hB : B ≤ B') : Fts w B' A n c l := Row.more h hB
theorem Fts.nil_ (w : World) (B : Nat) : Fts w B none 0 0 [] := Row.nil_ w B 2
theorem Fts.at_ (h : Fts w B A n c l) {k : Nat} (hk : k < n) :
    ∃ b off f, A = some ⟨b, off, none⟩ ∧ b < B ∧ w.cell? ⟨b, off + k * 2, none⟩ = some (.int .i64 f.kind) ∧ w.cell? ⟨b, off + k * 2 + 1, none⟩ = some (.int .i64 f.keep) ∧ l[k]? = some f ∧ l.take (k + 1) = l.take k ++ [f] := by
  obtain ⟨b, off, e, hb, hc⟩ := h.2.2.2 (by omega)
  have hl : k < l.length := by rw [h.len]; exact hk
  have hg : l[k]? = some l[k] := List.getElem?_eq_getElem hl
  have := fv_get l k _ hg
  exact ⟨b, off, l[k], e, hb, hc _ _ this.1, hc _ _ this.2, hg, List.take_succ_eq_append_getElem hl⟩
theorem Fts.of_own {base : Nat} {e : TypeId} (h : w.ownsRow base e 2 (.slice A n c) n (fv l)) : Fts w w.heap.size A n c l := Row.of_own h
theorem Fts.front (h : Fts w B A n c l) {k : Nat} (hk : k ≤ n) : Fts w B A k c (l.take k) := by
  have := Row.front h hk
  rw [fv_take] at this
  exact this
theorem Fts.cut (h : Fts w B A n c l) {k : Nat} (hk : k ≤ n) : Fts w B (if c = k then A else A.map (·.add (k * 2))) (n - k) (c - k) (l.drop k) := by
  have := Row.cut h hk
  rw [fv_drop] at this
  exact this
end
theorem fone (w : World) (f : Ft) {s : Nat} (hs : s = w.heap.size) : Row (w.alloc (.cells #[.int .i64 f.kind, .int .i64 f.keep] 23)) (w.heap.size + 1) 2 (some ⟨s, 0, none⟩) 1 1 (fv [f]) :=
  Row.lit w #[.int .i64 f.kind, .int .i64 f.keep] _ (0, 0) hs rfl (by omega)

/-- a list in new memory -/
def FtsNew (w : World) (l : List Ft) (e : Ending) (w' : World) : Prop :=
  ∃ A c, e = .returned (.slice A l.length c) ∧ w'.ownsRow w.heap.size 23 2 (.slice A l.length c) l.length (fv l) ∧ Below w.heap.size w w'
end Go.Proofs.Ytnbhbhnmidijkaa.Flt
