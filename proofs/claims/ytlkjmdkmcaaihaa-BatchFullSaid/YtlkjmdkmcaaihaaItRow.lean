/-
  A row of items that grows: its cells, and each one's lists in rows of their own.
-/
import Derived.Test.YtlkjmdkmcaaihaaBtSome
import Derived.Test.YtlkjmdkmcaaihaaBtRefHelp
namespace Go.Proofs.Ytlkjmdkmcaaihaa.Bt
set_option linter.unusedVariables false
set_option maxRecDepth 100000
open Go.RowKit Base FieldMath TxnMath BatchMath
open GuardMath (Gp noGp)
open Gd (Gps ov ov_append ov_one oval oel oone)
set_option linter.ambiguousOpen false
set_option linter.unusedSimpArgs false

theorem itel : Elem Try.prog 34 25 3 56 (.agg itz) := Elem.of Try.underlying34 (by kernel_rfl) rfl (by omega)
def itcells (L : Int) (A : Option Addr) (n c : Nat) (A' : Option Addr) (n' c' : Nat) : List Value := [.int .i64 L, .slice A n c, .slice A' n' c']
theorem itcells_one (L : Int) (A : Option Addr) (n c : Nat) (A' : Option Addr) (n' c' : Nat) : ∀ u ∈ itcells L A n c A' n' c', u.oneCell' = true := by
  intro u hu
  simp only [itcells, List.mem_cons, List.not_mem_nil, or_false] at hu
  rcases hu with rfl | rfl | rfl <;> rfl
theorem it_one (w : World) (L : Int) (A : Option Addr) (n c : Nat) (A' : Option Addr) (n' c' : Nat) {s : Nat} (hs : s = w.heap.size) : Row (w.alloc (.cells #[.int .i64 L, .slice A n c, .slice A' n' c'] 25)) (w.heap.size + 1) 3 (some ⟨s, 0, none⟩) 1 1 (itcells L A n c A' n' c') :=
  Row.lit w #[.int .i64 L, .slice A n c, .slice A' n' c'] _ (0, 0) hs rfl (by omega)
/-- number i of the row's values is the item x, its lists in rows of their own -/
def InIt (w : World) (vs : List Value) (i : Nat) (x : It) : Prop := ∃ A n c A' n' c', (∀ j, j < 3 → vs[i * 3 + j]? = (itcells x.lsn A n c A' n' c')[j]?) ∧ ItOwn w 0 x A n c A' n' c'
/-- a row of items -/
def ItRow (w : World) (base : Nat) (A : Option Addr) (k c : Nat) (l : List It) : Prop := ∃ vs, w.ownsRow base 25 3 (.slice A k c) k vs ∧ l.length = k ∧ ∀ i x, l[i]? = some x → InIt w vs i x
section
variable {w w' : World} {base k c : Nat} {A : Option Addr} {l : List It}
theorem InIt.new {vs : List Value} {i : Nat} {x : It} (h : InIt w vs i x) (hb : Below w.heap.size w w') : InIt w' vs i x := by
  obtain ⟨A, n, c, A', n', c', hv, ho⟩ := h
  exact ⟨A, n, c, A', n', c', hv, ho.keep hb⟩
theorem ItRow.new (h : ItRow w base A k c l) (hb : Below w.heap.size w w') : ItRow w' base A k c l := by
  obtain ⟨vs, h1, h2, h3⟩ := h
  exact ⟨vs, own_keep h1 hb, h2, fun i x hx => (h3 i x hx).new hb⟩
theorem ItRow.nil_ (w : World) (base : Nat) : ItRow w base none 0 0 [] := ⟨[], World.ownsRow_nil _ _ _ _, rfl, fun i x hx => by simp at hx⟩
/-- a store into a block of another kind -/
theorem ItRow.set_ {Z j : Nat} {T : TypeId} {cs : Array Value} (h : ItRow w base A k c l) (hz : Blk w Z T cs) (hT : T = 25) (hne : (Value.slice A k c).ownBlock ≠ some Z) (v : Value) : ItRow (w.setCell ⟨Z, j, none⟩ v) base A k c l := by
  subst hT
  obtain ⟨vs, h1, h2, h3⟩ := h
  have hon := only_setCell (World.grownBy.refl w (some Z)) (p := ⟨Z, j, none⟩) (.inl rfl) v
  refine ⟨vs, h1.kept hon (.inr hne), h2, fun i x hx => ?_⟩
  obtain ⟨A1, n1, c1, A2, n2, c2, hv, ho1, ho2⟩ := h3 i x hx
  exact ⟨A1, n1, c1, A2, n2, c2, hv, ho1.kept hon (.inr (own_ne ho1 hz (by decide))), ho2.kept hon (.inr (own_ne ho2 hz (by decide)))⟩
theorem ItRow.push {w4 : World} {c4 : Nat} {A4 : Option Addr} {x : It} {A1 A2 : Option Addr} {n1 c1 n2 c2 : Nat} {vs : List Value} (h1 : w.ownsRow base 25 3 (.slice A k c) k vs) (h2 : l.length = k) (h3 : ∀ i y, l[i]? = some y → InIt w vs i y)
    (h4 : w4.ownsRow base 25 3 (.slice A4 (k + 1) c4) (k + 1) (vs ++ itcells x.lsn A1 n1 c1 A2 n2 c2)) (hg : w.grownBy w4 (Value.slice A k c).ownBlock) (ho : ItOwn w 0 x A1 n1 c1 A2 n2 c2) : ItRow w4 base A4 (k + 1) c4 (l ++ [x]) := by
  have hl : vs.length = k * 3 := h1.1
  have other : ∀ {y : It} {B1 m1 d1 B2 m2 d2}, ItOwn w 0 y B1 m1 d1 B2 m2 d2 → ItOwn w4 0 y B1 m1 d1 B2 m2 d2 := fun hy => ⟨hy.1.kept hg (own_types hy.1 h1 (by decide)), hy.2.kept hg (own_types hy.2 h1 (by decide))⟩
  refine ⟨_, h4, by rw [List.length_append, h2]; rfl, fun i y hy => ?_⟩
  rcases Nat.lt_or_ge i k with hik | hik
  · rw [List.getElem?_append_left (by omega)] at hy
    obtain ⟨B1, m1, d1, B2, m2, d2, hv, h5⟩ := h3 i y hy
    refine ⟨B1, m1, d1, B2, m2, d2, fun j hj => ?_, other h5⟩
    rw [List.getElem?_append_left (by omega)]
    exact hv j hj
  · obtain rfl : i = k := by
      have := (List.getElem?_eq_some_iff.1 hy).1
      rw [List.length_append, h2] at this
      simp at this
      omega
    rw [List.getElem?_append_right (by omega), h2, Nat.sub_self] at hy
    simp only [List.getElem?_cons_zero, Option.some.injEq] at hy
    subst hy
    refine ⟨A1, n1, c1, A2, n2, c2, fun j hj => ?_, other ho⟩
    rw [List.getElem?_append_right (by omega), hl, Nat.add_sub_cancel_left]
theorem ItRow.its (h : ItRow w base A k c l) : Its w w.heap.size A k c l := by
  obtain ⟨vs, h1, h2, h3⟩ := h
  obtain ⟨r1, r2, r3, r4⟩ := Row.of_own h1
  refine ⟨h2, r2, r3, fun i x hx => ?_⟩
  have hik : i < k := by have := (List.getElem?_eq_some_iff.1 hx).1; omega
  obtain ⟨b, off, e, hb, hc⟩ := r4 (by omega)
  obtain ⟨A1, n1, c1, A2, n2, c2, hv, ho⟩ := h3 i x hx
  have hr := ho.rows
  refine ⟨b, off, e, hb, A1, n1, c1, A2, n2, c2, ?_, ?_, ?_, hr.1, hr.2⟩
  · exact hc (i * 3 + 0) _ (by rw [hv 0 (by omega)]; rfl)
  · exact hc (i * 3 + 1) _ (by rw [hv 1 (by omega)]; rfl)
  · exact hc (i * 3 + 2) _ (by rw [hv 2 (by omega)]; rfl)
end
/-- items that were made, one behind the other -/
def Chain : Int → List It → Prop
  | _, [] => True
  | a, x :: r => a < x.lsn ∧ x.lsn ≤ a + 3 ∧ x.ops.length ≤ 5 ∧ x.notes.length ≤ 4 ∧ may x = true ∧ Chain x.lsn r
theorem Chain.snoc {a : Int} {l : List It} {x : It} (h : Chain a l) (h1 : lastLsn a l < x.lsn) (h2 : x.lsn ≤ lastLsn a l + 3) (h3 : x.ops.length ≤ 5) (h4 : x.notes.length ≤ 4) (h5 : may x = true) : Chain a (l ++ [x]) := by
  induction l generalizing a with
  | nil => exact ⟨h1, h2, h3, h4, h5, trivial⟩
  | cons y r ih => exact ⟨h.1, h.2.1, h.2.2.1, h.2.2.2.1, h.2.2.2.2.1, ih h.2.2.2.2.2 h1 h2⟩
theorem Chain.all {a : Int} {l : List It} (h : Chain a l) : rising a l = true ∧ allMay l = true ∧ (allOps l).length ≤ 5 * l.length ∧ (allNotes l).length ≤ 4 * l.length := by
  induction l generalizing a with
  | nil => exact ⟨rfl, rfl, Nat.le_refl _, Nat.le_refl _⟩
  | cons x r ih =>
    obtain ⟨h1, _, h3, h4, h5, h6⟩ := h
    obtain ⟨i1, i2, i3, i4⟩ := ih h6
    refine ⟨?_, ?_, ?_, ?_⟩
    · show (decide (a < x.lsn) && rising x.lsn r) = true
      rw [decide_eq_true h1, i1]
      rfl
    · show (may x && allMay r) = true
      rw [h5, i2]
      rfl
    · show (x.ops ++ allOps r).length ≤ _
      rw [List.length_append, List.length_cons]
      omega
    · show (x.notes ++ allNotes r).length ≤ _
      rw [List.length_append, List.length_cons]
      omega
theorem Chain.join {l : List It} (h : Chain 0 l) (h0 : l ≠ []) (hn : l.length ≤ 12) : BatchMath.join l = .ok ⟨lastLsn 0 l, allOps l, allNotes l⟩ := by
  obtain ⟨h1, h2, h3, h4⟩ := h.all
  exact join_iff.2 ⟨⟨h0, fun x hx => may_iff.1 (List.all_eq_true.1 h2 x hx), by omega, by omega, h1⟩, rfl⟩
end Go.Proofs.Ytlkjmdkmcaaihaa.Bt
