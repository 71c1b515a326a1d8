/-
  Rows of a table in memory: a slice that reads as a list of rows, a block of the call's own that holds one.
-/
import Derived.Test.YtlbgpfiiiggofaaBase
import Derived.Test.YtlbgpfiiiggofaaIdxMath
import Derived.Test.YtlbgpfiiiggofaaChecked
import Derived.Test.YtlbgpfiiiggofaaRows
import Derived.Shelf.SlSortCmp.QuietGrown
import Derived.Lib.Overlaps
import Derived.StillTailTactics
namespace Go.Proofs.Ytlbgpfiiiggofaa.Idx
set_option linter.unusedVariables false
set_option maxRecDepth 100000
open Go.RowKit Base IdxMath
open Go.Sort (grow)
set_option linter.ambiguousOpen false
set_option linter.unusedSimpArgs false

def rcells (x : Rw) : List Value := [.int .i64 x.key, .string x.val]
def rowv (x : Rw) : Value := .agg #[.int .i64 x.key, .string x.val]
def rv (l : List Rw) : List Value := l.flatMap rcells
theorem rv_append (l m : List Rw) : rv (l ++ m) = rv l ++ rv m := List.flatMap_append
theorem rv_cons (x : Rw) (l : List Rw) : rv (x :: l) = .int .i64 x.key :: .string x.val :: rv l := rfl
theorem rv_length (l : List Rw) : (rv l).length = l.length * 2 := by
  induction l with
  | nil => rfl
  | cons f l ih => rw [rv_cons, List.length_cons, List.length_cons, ih, List.length_cons]; omega
theorem rv_one (l : List Rw) : ∀ u ∈ rv l, u.oneCell' = true := by
  intro u hu
  obtain ⟨f, _, hf⟩ := List.mem_flatMap.1 hu
  simp only [rcells, List.mem_cons, List.not_mem_nil, or_false] at hf
  rcases hf with rfl | rfl <;> rfl
theorem rv_get (l : List Rw) (k : Nat) (f : Rw) (h : l[k]? = some f) : (rv l)[k * 2]? = some (.int .i64 f.key) ∧ (rv l)[k * 2 + 1]? = some (.string f.val) := by
  induction l generalizing k with
  | nil => simp at h
  | cons g l ih =>
    rw [rv_cons]
    cases k with
    | zero =>
      simp only [List.getElem?_cons_zero, Option.some.injEq] at h
      subst h
      exact ⟨rfl, rfl⟩
    | succ k =>
      rw [List.getElem?_cons_succ] at h
      have := ih k h
      rw [show (k + 1) * 2 = k * 2 + 1 + 1 by omega]
      simpa using this
theorem rv_take (l : List Rw) (k : Nat) : (rv l).take (k * 2) = rv (l.take k) := by
  induction l generalizing k with
  | nil => simp [rv]
  | cons g l ih =>
    cases k with
    | zero => simp [rv]
    | succ k => rw [rv_cons, show (k + 1) * 2 = k * 2 + 1 + 1 by omega, List.take_succ_cons, List.take_succ_cons, List.take_succ_cons, rv_cons, ih]
theorem rv_drop (l : List Rw) (k : Nat) : (rv l).drop (k * 2) = rv (l.drop k) := by
  induction l generalizing k with
  | nil => simp [rv]
  | cons g l ih =>
    cases k with
    | zero => simp
    | succ k => rw [rv_cons, show (k + 1) * 2 = k * 2 + 1 + 1 by omega, List.drop_succ_cons, List.drop_succ_cons, List.drop_succ_cons, ih]
theorem rv_set (l : List Rw) (k : Nat) (y : Rw) : rv (l.set k y) = ((rv l).set (k * 2) (.int .i64 y.key)).set (k * 2 + 1) (.string y.val) := by
  induction l generalizing k with
  | nil => simp [rv]
  | cons g l ih =>
    cases k with
    | zero => rfl
    | succ k =>
      rw [List.set_cons_succ, rv_cons, rv_cons, ih, show (k + 1) * 2 = k * 2 + 1 + 1 by omega]
      simp

theorem er : Elem Try.prog 44 43 2 24 (.agg #[.int .i64 0, .string ⟨#[]⟩]) := Elem.of Try.underlying44 (by kernel_rfl) rfl (by omega)

/-- a slice of rows that reads as the list l, below block B -/
def Rs (w : World) (B : Nat) (A : Option Addr) (n c : Nat) (l : List Rw) : Prop := Row w B 2 A n c (rv l)
section
variable {w w' : World} {B B' n c : Nat} {A : Option Addr} {l : List Rw}
theorem Rs.len (h : Rs w B A n c l) : l.length = n := by have := h.1; rw [rv_length] at this; omega
theorem Rs.le (h : Rs w B A n c l) : n ≤ c ∧ c ≤ 9223372036854775807 := ⟨h.2.1, h.2.2.1⟩
theorem Rs.below (h : Rs w B A n c l) (hb : Below B w w') : Rs w' B A n c l := Row.below h hb
theorem Rs.more (h : Rs w B A n c l) (hB : B ≤ B') : Rs w B' A n c l := Row.more h hB
theorem Rs.nil_ (w : World) (B : Nat) : Rs w B none 0 0 [] := Row.nil_ w B 2
theorem Rs.at_ (h : Rs w B A n c l) {k : Nat} (hk : k < n) :
    ∃ b off f, A = some ⟨b, off, none⟩ ∧ b < B ∧ w.cell? ⟨b, off + k * 2, none⟩ = some (.int .i64 f.key) ∧ w.cell? ⟨b, off + k * 2 + 1, none⟩ = some (.string f.val) ∧ l[k]? = some f ∧ l.take (k + 1) = l.take k ++ [f] := by
  obtain ⟨b, off, e, hb, hc⟩ := h.2.2.2 (by omega)
  have hl : k < l.length := by rw [h.len]; exact hk
  have hg : l[k]? = some l[k] := List.getElem?_eq_getElem hl
  have := rv_get l k _ hg
  exact ⟨b, off, l[k], e, hb, hc _ _ this.1, hc _ _ this.2, hg, List.take_succ_eq_append_getElem hl⟩
theorem Rs.of_own {base : Nat} {e : TypeId} (h : w.ownsRow base e 2 (.slice A n c) n (rv l)) : Rs w w.heap.size A n c l := Row.of_own h
theorem Rs.front (h : Rs w B A n c l) {k : Nat} (hk : k ≤ n) : Rs w B A k c (l.take k) := by
  have := Row.front h hk
  rw [rv_take] at this
  exact this
theorem Rs.cut (h : Rs w B A n c l) {k : Nat} (hk : k ≤ n) : Rs w B (if c = k then A else A.map (·.add (k * 2))) (n - k) (c - k) (l.drop k) := by
  have := Row.cut h hk
  rw [rv_drop] at this
  exact this
end

/-- block b, of the call's own, holds the rows l, with room for c -/
def Arr (w : World) (b c : Nat) (l : List Rw) : Prop := ∃ cur : Array Value, Blk w b 43 cur ∧ l.length ≤ c ∧ c ≤ maxLen ∧ cur.size = c * 2 ∧ cur.toList.take (l.length * 2) = rv l
section
variable {w w' : World} {b c : Nat} {l : List Rw}
theorem Arr.own (h : Arr w b c l) {base : Nat} (hb : base ≤ b) : w.ownsRow base 43 2 (.slice (some ⟨b, 0, none⟩) l.length c) l.length (rv l) := by
  obtain ⟨cur, h1, h2, h3, h4, h5⟩ := h
  exact ⟨rv_length l, .inr ⟨b, c, cur, rfl, hb, h1, h2, h3, h4, h5⟩⟩
theorem Arr.of_own {base : Nat} (h : w.ownsRow base 43 2 (.slice (some ⟨b, 0, none⟩) l.length c) l.length (rv l)) : Arr w b c l := by
  rcases h.2 with ⟨hv, _⟩ | ⟨g, cap, cur, hv, h0, h1, h2, h3, h4, h5⟩
  · cases hv
  · simp only [Value.slice.injEq, Option.some.injEq, Addr.mk.injEq] at hv
    obtain ⟨⟨rfl, _⟩, _, rfl⟩ := hv
    exact ⟨cur, h1, h2, h3, h4, h5⟩
theorem Arr.lt (h : Arr w b c l) : b < w.heap.size := by obtain ⟨cur, h1, _⟩ := h; exact h1.lt
theorem Arr.le (h : Arr w b c l) : l.length ≤ c ∧ c ≤ 9223372036854775807 := by obtain ⟨cur, h1, h2, h3, _⟩ := h; unfold maxLen at h3; exact ⟨h2, by omega⟩
theorem Arr.same (h : Arr w b c l) (hk : w'.heap[b]? = w.heap[b]?) : Arr w' b c l := by
  obtain ⟨cur, h1, h2⟩ := h
  exact ⟨cur, hk.trans h1, h2⟩
theorem Arr.drewN (h : Arr w b c l) (n : Nat) : Arr (w.drewN n) b c l := h
theorem Arr.drew (h : Arr w b c l) : Arr w.drew b c l := h
theorem Arr.grown (h : Arr w b c l) (n : Nat) (os : Array Obj) : Arr (grow (w.drewN n) os) b c l := h.same (Go.Sort.heap_grow_old (w.drewN n) os h.lt)
theorem Arr.below {B : Nat} (h : Arr w b c l) (hb : Below B w w') (hB : b < B) : Arr w' b c l := h.same (hb.block b hB)
theorem Arr.get (h : Arr w b c l) {k : Nat} {x : Rw} (hx : l[k]? = some x) : w.cell? ⟨b, k * 2, none⟩ = some (.int .i64 x.key) ∧ w.cell? ⟨b, k * 2 + 1, none⟩ = some (.string x.val) := by
  obtain ⟨cur, h1, h2, h3, h4, h5⟩ := h
  have hk : k < l.length := (List.getElem?_eq_some_iff.1 hx).1
  obtain ⟨e1, e2⟩ := rv_get l k x hx
  rw [← h5, List.getElem?_take_of_lt (by omega), Array.getElem?_toList] at e1 e2
  rw [h1.cell, h1.cell]
  exact ⟨e1, e2⟩
theorem Arr.frozen (h : Arr w b c l) (i : Nat) : w.frozen? ⟨b, i, none⟩ = false := by obtain ⟨cur, h1, _⟩ := h; exact h1.frozen i
theorem Arr.set (h : Arr w b c l) (k : Nat) (y : Rw) : Arr ((w.setCell ⟨b, k * 2, none⟩ (.int .i64 y.key)).setCell ⟨b, k * 2 + 1, none⟩ (.string y.val)) b c (l.set k y) := by
  obtain ⟨cur, h1, h2, h3, h4, h5⟩ := h
  refine ⟨_, (h1.set_ _ _).set_ _ _, by rw [List.length_set]; exact h2, h3, by simp [h4], ?_⟩
  rw [Array.toList_setIfInBounds, Array.toList_setIfInBounds, List.length_set, List.take_set, List.take_set, h5, rv_set]
theorem Arr.cut (h : Arr w b c l) (k : Nat) : Arr w b c (l.take k) := by
  obtain ⟨cur, h1, h2, h3, h4, h5⟩ := h
  refine ⟨cur, h1, by rw [List.length_take]; omega, h3, h4, ?_⟩
  rw [← rv_take, ← h5, List.take_take, List.length_take]
  congr 1
  omega
theorem Arr.rs (h : Arr w b c l) : Rs w w.heap.size (some ⟨b, 0, none⟩) l.length c l := Rs.of_own (h.own (Nat.zero_le _))
end
theorem below_grow (w : World) (n : Nat) (os : Array Obj) : Below w.heap.size w (grow (w.drewN n) os) :=
  ⟨rfl, rfl, rfl, by simp, fun i hi => Go.Sort.heap_grow_old (w.drewN n) os hi⟩

/-- rows in new memory -/
def NewRows (w : World) (l : List Rw) (e : Ending) (w' : World) : Prop :=
  ∃ A c, e = .returned (.slice A l.length c) ∧ w'.ownsRow w.heap.size 43 2 (.slice A l.length c) l.length (rv l) ∧ Below w.heap.size w w'
end Go.Proofs.Ytlbgpfiiiggofaa.Idx
