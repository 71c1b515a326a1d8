/-
  How a slice of tables' rows is opened.
-/
import Derived.Test.YtjicdnknlfpajaaImgMay
import Derived.Test.YtjicdnknlfpajaaOpenFlat
namespace Go.Proofs.Ytjicdnknlfpajaa.Img
set_option linter.unusedVariables false
set_option maxRecDepth 100000
open Go.RowKit Base
open IdxMath (Rw)
open Go.ChangeShapes Go.WideShapes Go.Deep
set_option linter.ambiguousOpen false
section
variable {H : Type} {enc : TypeId × Value → H} {W : World} {a : Option Addr} {len cap : Nat} {d : DataW H} {p : List MemPlace}
/-- rows whose values are no longer than values are -/
def Short (l : List Rw) : Prop := ∀ x ∈ l, x.val.size ≤ 9223372036854775807
theorem open_table (n : Nat) (cs : List Value) (y : DataW H × List MemPlace) (hf : DataW.trod enc Try.prog W 0 (fun _ => true) true n 95 cs = some y) : ∃ A n' c' l, cs = [.slice A n' c'] ∧ Idx.Rs W W.heap.size A n' c' l ∧ Short l := by
  rcases Flat.open_slice_fields Try.underlying95 Try.underlying97 (by kernel_rfl) (by kernel_rfl) hf with hcs | ⟨x, l, c, m, hcs, hl, hm, hmm, hall⟩
  · exact ⟨none, 0, 0, [], hcs, Idx.Rs.nil_ _ _, fun x hx => by cases hx⟩
  · obtain ⟨ls, h1, _, h3⟩ := Flat.open_flat (ec := Idx.rcells) (k := 2) (fun _ => rfl) (by omega) IdxMath.noRw (fun x => x.val.size ≤ 9223372036854775807) (y := x) hl hm (fun i hi => by
      obtain ⟨n, hn⟩ := hall i (by rw [hmm]; simp; omega)
      obtain ⟨v0, y0, c0, t0⟩ := hn 0 _ rfl
      obtain ⟨v1, y1, c1, t1⟩ := hn 1 _ rfl
      obtain ⟨k, e0, _, wk⟩ := DataW.trod_int Try.underlying2 t0
      obtain ⟨s, e1, _, ws⟩ := DataW.trod_string Try.underlying9 t1
      simp only [List.cons.injEq, and_true] at e0 e1
      subst e0 e1
      refine ⟨⟨k, s⟩, by dsimp only; exact ws, fun j hj => ?_⟩
      match j, hj with
      | 0, _ => exact ⟨_, rfl, c0⟩
      | 1, _ => exact ⟨_, rfl, c1⟩)
    exact ⟨_, _, _, ls, hcs, h1, h3⟩
theorem open_tables (h : DataW.Trod enc Try.prog W 0 (fun _ => true) true 49 (.slice a len cap) d p) : ∃ T, Tabs W W.heap.size a len cap T ∧ ∀ l ∈ T, Short l :=
  Lsts.open_lsts ([] : List Rw) Try.underlying49 (by kernel_rfl) (fun n cs y hy => open_table n cs y hy) h
end
end Go.Proofs.Ytjicdnknlfpajaa.Img
