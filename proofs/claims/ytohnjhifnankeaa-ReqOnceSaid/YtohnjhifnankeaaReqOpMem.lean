/-
  Slices of qanat/qanatlaw14.Op in memory: one that reads as a list. No condition.
-/
import Derived.Test.YtohnjhifnankeaaBase
import Derived.Test.YtohnjhifnankeaaReqOpMath
import Derived.Test.YtohnjhifnankeaaChecked
import Derived.Test.YtohnjhifnankeaaRows
import Derived.Lib.Overlaps
namespace Go.Proofs.Ytohnjhifnankeaa.Req
set_option linter.unusedVariables false
set_option maxRecDepth 100000
open Go.RowKit Base ReqOpMath
set_option linter.ambiguousOpen false
set_option linter.unusedSimpArgs false

def rcells (x : Ro) : List Value := [.int .i64 x.kind, .int .i64 x.tbl, .int .i64 x.wt, .int .i64 x.id, .int .i64 x.at_, .int .i64 x.cur, .bool x.done]
def rval (x : Ro) : Value := .agg #[.int .i64 x.kind, .int .i64 x.tbl, .int .i64 x.wt, .int .i64 x.id, .int .i64 x.at_, .int .i64 x.cur, .bool x.done]
def rv (l : List Ro) : List Value := l.flatMap rcells
theorem rv_append (l m : List Ro) : rv (l ++ m) = rv l ++ rv m := List.flatMap_append
theorem rv_cons (x : Ro) (l : List Ro) : rv (x :: l) = .int .i64 x.kind :: .int .i64 x.tbl :: .int .i64 x.wt :: .int .i64 x.id :: .int .i64 x.at_ :: .int .i64 x.cur :: .bool x.done :: rv l := rfl
theorem rv_length (l : List Ro) : (rv l).length = l.length * 7 := by
  induction l with
  | nil => rfl
  | cons f l ih => rw [rv_cons]; simp only [List.length_cons, ih]; omega
theorem rv_one (l : List Ro) : ∀ u ∈ rv l, u.oneCell' = true := by
  intro u hu
  obtain ⟨f, _, hf⟩ := List.mem_flatMap.1 hu
  simp only [rcells, List.mem_cons, List.not_mem_nil, or_false] at hf
  rcases hf with rfl | rfl | rfl | rfl | rfl | rfl | rfl <;> rfl
theorem rv_get (l : List Ro) (k : Nat) (f : Ro) (h : l[k]? = some f) : (rv l)[k * 7]? = some (.int .i64 f.kind) ∧ (rv l)[k * 7 + 1]? = some (.int .i64 f.tbl) ∧ (rv l)[k * 7 + 2]? = some (.int .i64 f.wt) ∧ (rv l)[k * 7 + 3]? = some (.int .i64 f.id) ∧ (rv l)[k * 7 + 4]? = some (.int .i64 f.at_) ∧ (rv l)[k * 7 + 5]? = some (.int .i64 f.cur) ∧ (rv l)[k * 7 + 6]? = some (.bool f.done) := by
  induction l generalizing k with
  | nil => simp at h
  | cons g l ih =>
    rw [rv_cons]
    cases k with
    | zero =>
      simp only [List.getElem?_cons_zero, Option.some.injEq] at h
      subst h
      exact ⟨rfl, rfl, rfl, rfl, rfl, rfl, rfl⟩
    | succ k =>
      rw [List.getElem?_cons_succ] at h
      have := ih k h
      rw [show (k + 1) * 7 = k * 7 + 1 + 1 + 1 + 1 + 1 + 1 + 1 by omega]
      simpa using this
theorem rv_take (l : List Ro) (k : Nat) : (rv l).take (k * 7) = rv (l.take k) := by
  induction l generalizing k with
  | nil => simp [rv]
  | cons g l ih =>
    cases k with
    | zero => simp [rv]
    | succ k => rw [rv_cons, show (k + 1) * 7 = k * 7 + 1 + 1 + 1 + 1 + 1 + 1 + 1 by omega]; simp only [List.take_succ_cons, rv_cons, ih]
theorem rv_drop (l : List Ro) (k : Nat) : (rv l).drop (k * 7) = rv (l.drop k) := by
  induction l generalizing k with
  | nil => simp [rv]
  | cons g l ih =>
    cases k with
    | zero => simp
    | succ k => rw [rv_cons, show (k + 1) * 7 = k * 7 + 1 + 1 + 1 + 1 + 1 + 1 + 1 by omega]; simp only [List.drop_succ_cons, ih]
theorem rv_set (l : List Ro) (k : Nat) (y : Ro) : rv (l.set k y) = (((((((rv l).set (k * 7) (.int .i64 y.kind)).set (k * 7 + 1) (.int .i64 y.tbl)).set (k * 7 + 2) (.int .i64 y.wt)).set (k * 7 + 3) (.int .i64 y.id)).set (k * 7 + 4) (.int .i64 y.at_)).set (k * 7 + 5) (.int .i64 y.cur)).set (k * 7 + 6) (.bool y.done) := by
  induction l generalizing k with
  | nil => simp [rv]
  | cons g l ih =>
    cases k with
    | zero => rfl
    | succ k =>
      rw [List.set_cons_succ, rv_cons, rv_cons, ih, show (k + 1) * 7 = k * 7 + 1 + 1 + 1 + 1 + 1 + 1 + 1 by omega]
      simp

theorem rel : Elem Try.prog 22 25 7 56 (.agg #[.int .i64 0, .int .i64 0, .int .i64 0, .int .i64 0, .int .i64 0, .int .i64 0, .bool false]) := Elem.of Try.underlying22 (by kernel_rfl) rfl (by omega)

/-- a slice that reads as the list l, below block B -/
def Ros (w : World) (B : Nat) (A : Option Addr) (n c : Nat) (l : List Ro) : Prop := Row w B 7 A n c (rv l)
section
variable {w w' : World} {B B' n c : Nat} {A : Option Addr} {l : List Ro}
theorem Ros.len (h : Ros w B A n c l) : l.length = n := by have := h.1; rw [rv_length] at this; omega
theorem Ros.le (h : Ros w B A n c l) : n ≤ c ∧ c ≤ 9223372036854775807 := ⟨h.2.1, h.2.2.1⟩
theorem Ros.below (h : Ros w B A n c l) (hb : Below B w w') : Ros w' B A n c l := Row.below h hb
theorem Ros.more (h : Ros w B A n c l) (hB : B ≤ B') : Ros w B' A n c l := Row.more h hB
theorem Ros.nil_ (w : World) (B : Nat) : Ros w B none 0 0 [] := Row.nil_ w B 7
theorem Ros.at_ (h : Ros w B A n c l) {k : Nat} (hk : k < n) :
    ∃ b off f, A = some ⟨b, off, none⟩ ∧ b < B ∧ w.cell? ⟨b, off + k * 7, none⟩ = some (.int .i64 f.kind) ∧ w.cell? ⟨b, off + k * 7 + 1, none⟩ = some (.int .i64 f.tbl) ∧ w.cell? ⟨b, off + k * 7 + 2, none⟩ = some (.int .i64 f.wt) ∧ w.cell? ⟨b, off + k * 7 + 3, none⟩ = some (.int .i64 f.id) ∧ w.cell? ⟨b, off + k * 7 + 4, none⟩ = some (.int .i64 f.at_) ∧ w.cell? ⟨b, off + k * 7 + 5, none⟩ = some (.int .i64 f.cur) ∧ w.cell? ⟨b, off + k * 7 + 6, none⟩ = some (.bool f.done) ∧ l[k]? = some f ∧ l.take (k + 1) = l.take k ++ [f] := by
  obtain ⟨b, off, e, hb, hc⟩ := h.2.2.2 (by omega)
  have hl : k < l.length := by rw [h.len]; exact hk
  have hg : l[k]? = some l[k] := List.getElem?_eq_getElem hl
  have := rv_get l k _ hg
  exact ⟨b, off, l[k], e, hb, hc _ _ this.1, hc _ _ this.2.1, hc _ _ this.2.2.1, hc _ _ this.2.2.2.1, hc _ _ this.2.2.2.2.1, hc _ _ this.2.2.2.2.2.1, hc _ _ this.2.2.2.2.2.2, hg, List.take_succ_eq_append_getElem hl⟩
theorem Ros.of_own {base : Nat} {e : TypeId} (h : w.ownsRow base e 7 (.slice A n c) n (rv l)) : Ros w w.heap.size A n c l := Row.of_own h
theorem Ros.front (h : Ros w B A n c l) {k : Nat} (hk : k ≤ n) : Ros w B A k c (l.take k) := by
  have := Row.front h hk
  rw [rv_take] at this
  exact this
theorem Ros.cut (h : Ros w B A n c l) {k : Nat} (hk : k ≤ n) : Ros w B (if c = k then A else A.map (·.add (k * 7))) (n - k) (c - k) (l.drop k) := by
  have := Row.cut h hk
  rw [rv_drop] at this
  exact this
end
theorem rone (w : World) (f : Ro) {s : Nat} (hs : s = w.heap.size) : Row (w.alloc (.cells #[.int .i64 f.kind, .int .i64 f.tbl, .int .i64 f.wt, .int .i64 f.id, .int .i64 f.at_, .int .i64 f.cur, .bool f.done] 25)) (w.heap.size + 1) 7 (some ⟨s, 0, none⟩) 1 1 (rv [f]) :=
  Row.lit w #[.int .i64 f.kind, .int .i64 f.tbl, .int .i64 f.wt, .int .i64 f.id, .int .i64 f.at_, .int .i64 f.cur, .bool f.done] _ (0, 0) hs rfl (by omega)

/-- a list in new memory -/
def RosNew (w : World) (l : List Ro) (e : Ending) (w' : World) : Prop :=
  ∃ A c, e = .returned (.slice A l.length c) ∧ w'.ownsRow w.heap.size 25 7 (.slice A l.length c) l.length (rv l) ∧ Below w.heap.size w w'
end Go.Proofs.Ytohnjhifnankeaa.Req
