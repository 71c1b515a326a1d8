/-
  Slices of qanat/api.Op in memory: one that reads as a list. No condition.
-/
import Derived.Test.YtlkjmdkmcaaihaaBase
import Derived.Test.YtlkjmdkmcaaihaaGuardMath
import Derived.Test.YtlkjmdkmcaaihaaChecked
import Derived.Test.YtlkjmdkmcaaihaaRows
import Derived.Lib.Overlaps
namespace Go.Proofs.Ytlkjmdkmcaaihaa.Gd
set_option linter.unusedVariables false
set_option maxRecDepth 100000
open Go.RowKit Base GuardMath
set_option linter.ambiguousOpen false
set_option linter.unusedSimpArgs false

def ocells (x : Gp) : List Value := [.int .i64 x.lsn, .int .i64 x.tbl, .int .i64 x.key, .bool x.gone, .string x.val]
def oval (x : Gp) : Value := .agg #[.int .i64 x.lsn, .int .i64 x.tbl, .int .i64 x.key, .bool x.gone, .string x.val]
def ov (l : List Gp) : List Value := l.flatMap ocells
theorem ov_append (l m : List Gp) : ov (l ++ m) = ov l ++ ov m := List.flatMap_append
theorem ov_cons (x : Gp) (l : List Gp) : ov (x :: l) = .int .i64 x.lsn :: .int .i64 x.tbl :: .int .i64 x.key :: .bool x.gone :: .string x.val :: ov l := rfl
theorem ov_length (l : List Gp) : (ov l).length = l.length * 5 := by
  induction l with
  | nil => rfl
  | cons f l ih => rw [ov_cons]; simp only [List.length_cons, ih]; omega
theorem ov_one (l : List Gp) : ∀ u ∈ ov l, u.oneCell' = true := by
  intro u hu
  obtain ⟨f, _, hf⟩ := List.mem_flatMap.1 hu
  simp only [ocells, List.mem_cons, List.not_mem_nil, or_false] at hf
  rcases hf with rfl | rfl | rfl | rfl | rfl <;> rfl
theorem ov_get (l : List Gp) (k : Nat) (f : Gp) (h : l[k]? = some f) : (ov l)[k * 5]? = some (.int .i64 f.lsn) ∧ (ov l)[k * 5 + 1]? = some (.int .i64 f.tbl) ∧ (ov l)[k * 5 + 2]? = some (.int .i64 f.key) ∧ (ov l)[k * 5 + 3]? = some (.bool f.gone) ∧ (ov l)[k * 5 + 4]? = some (.string f.val) := by
  induction l generalizing k with
  | nil => simp at h
  | cons g l ih =>
    rw [ov_cons]
    cases k with
    | zero =>
      simp only [List.getElem?_cons_zero, Option.some.injEq] at h
      subst h
      exact ⟨rfl, rfl, rfl, rfl, rfl⟩
    | succ k =>
      rw [List.getElem?_cons_succ] at h
      have := ih k h
      rw [show (k + 1) * 5 = k * 5 + 1 + 1 + 1 + 1 + 1 by omega]
      simpa using this
theorem ov_take (l : List Gp) (k : Nat) : (ov l).take (k * 5) = ov (l.take k) := by
  induction l generalizing k with
  | nil => simp [ov]
  | cons g l ih =>
    cases k with
    | zero => simp [ov]
    | succ k => rw [ov_cons, show (k + 1) * 5 = k * 5 + 1 + 1 + 1 + 1 + 1 by omega]; simp only [List.take_succ_cons, ov_cons, ih]
theorem ov_drop (l : List Gp) (k : Nat) : (ov l).drop (k * 5) = ov (l.drop k) := by
  induction l generalizing k with
  | nil => simp [ov]
  | cons g l ih =>
    cases k with
    | zero => simp
    | succ k => rw [ov_cons, show (k + 1) * 5 = k * 5 + 1 + 1 + 1 + 1 + 1 by omega]; simp only [List.drop_succ_cons, ih]
theorem ov_set (l : List Gp) (k : Nat) (y : Gp) : ov (l.set k y) = (((((ov l).set (k * 5) (.int .i64 y.lsn)).set (k * 5 + 1) (.int .i64 y.tbl)).set (k * 5 + 2) (.int .i64 y.key)).set (k * 5 + 3) (.bool y.gone)).set (k * 5 + 4) (.string y.val) := by
  induction l generalizing k with
  | nil => simp [ov]
  | cons g l ih =>
    cases k with
    | zero => rfl
    | succ k =>
      rw [List.set_cons_succ, ov_cons, ov_cons, ih, show (k + 1) * 5 = k * 5 + 1 + 1 + 1 + 1 + 1 by omega]
      simp

theorem oel : Elem Try.prog 22 29 5 48 (.agg #[.int .i64 0, .int .i64 0, .int .i64 0, .bool false, .string ⟨#[]⟩]) := Elem.of Try.underlying22 (by kernel_rfl) rfl (by omega)

/-- a slice that reads as the list l, below block B -/
def Gps (w : World) (B : Nat) (A : Option Addr) (n c : Nat) (l : List Gp) : Prop := Row w B 5 A n c (ov l)
section
variable {w w' : World} {B B' n c : Nat} {A : Option Addr} {l : List Gp}
theorem Gps.len (h : Gps w B A n c l) : l.length = n := by have := h.1; rw [ov_length] at this; omega
theorem Gps.le (h : Gps w B A n c l) : n ≤ c ∧ c ≤ 9223372036854775807 := ⟨h.2.1, h.2.2.1⟩
theorem Gps.below (h : Gps w B A n c l) (hb : Below B w w') : Gps w' B A n c l := Row.below h hb
theorem Gps.more (h : Gps w B A n c l) (hB : B ≤ B') : Gps w B' A n c l := Row.more h hB
theorem Gps.nil_ (w : World) (B : Nat) : Gps w B none 0 0 [] := Row.nil_ w B 5
theorem Gps.at_ (h : Gps w B A n c l) {k : Nat} (hk : k < n) :
    ∃ b off f, A = some ⟨b, off, none⟩ ∧ b < B ∧ w.cell? ⟨b, off + k * 5, none⟩ = some (.int .i64 f.lsn) ∧ w.cell? ⟨b, off + k * 5 + 1, none⟩ = some (.int .i64 f.tbl) ∧ w.cell? ⟨b, off + k * 5 + 2, none⟩ = some (.int .i64 f.key) ∧ w.cell? ⟨b, off + k * 5 + 3, none⟩ = some (.bool f.gone) ∧ w.cell? ⟨b, off + k * 5 + 4, none⟩ = some (.string f.val) ∧ l[k]? = some f ∧ l.take (k + 1) = l.take k ++ [f] := by
  obtain ⟨b, off, e, hb, hc⟩ := h.2.2.2 (by omega)
  have hl : k < l.length := by rw [h.len]; exact hk
  have hg : l[k]? = some l[k] := List.getElem?_eq_getElem hl
  have := ov_get l k _ hg
  exact ⟨b, off, l[k], e, hb, hc _ _ this.1, hc _ _ this.2.1, hc _ _ this.2.2.1, hc _ _ this.2.2.2.1, hc _ _ this.2.2.2.2, hg, List.take_succ_eq_append_getElem hl⟩
theorem Gps.of_own {base : Nat} {e : TypeId} (h : w.ownsRow base e 5 (.slice A n c) n (ov l)) : Gps w w.heap.size A n c l := Row.of_own h
theorem Gps.front (h : Gps w B A n c l) {k : Nat} (hk : k ≤ n) : Gps w B A k c (l.take k) := by
  have := Row.front h hk
  rw [ov_take] at this
  exact this
theorem Gps.cut (h : Gps w B A n c l) {k : Nat} (hk : k ≤ n) : Gps w B (if c = k then A else A.map (·.add (k * 5))) (n - k) (c - k) (l.drop k) := by
  have := Row.cut h hk
  rw [ov_drop] at this
  exact this
end
theorem oone (w : World) (f : Gp) {s : Nat} (hs : s = w.heap.size) : Row (w.alloc (.cells #[.int .i64 f.lsn, .int .i64 f.tbl, .int .i64 f.key, .bool f.gone, .string f.val] 29)) (w.heap.size + 1) 5 (some ⟨s, 0, none⟩) 1 1 (ov [f]) :=
  Row.lit w #[.int .i64 f.lsn, .int .i64 f.tbl, .int .i64 f.key, .bool f.gone, .string f.val] _ (0, 0) hs rfl (by omega)

/-- a list in new memory -/
def GpsNew (w : World) (l : List Gp) (e : Ending) (w' : World) : Prop :=
  ∃ A c, e = .returned (.slice A l.length c) ∧ w'.ownsRow w.heap.size 29 5 (.slice A l.length c) l.length (ov l) ∧ Below w.heap.size w w'
end Go.Proofs.Ytlkjmdkmcaaihaa.Gd
