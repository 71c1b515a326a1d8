/-
  How a slice of a table's rows is opened.
-/
import Derived.Test.YtngncalbglbjdaaIdxRef
import Derived.Test.YtngncalbglbjdaaOpenFlat
namespace Go.Proofs.Ytngncalbglbjdaa.Idx
set_option linter.unusedVariables false
set_option maxRecDepth 100000
open Go.RowKit Base IdxMath Foot
open Go.ChangeShapes Go.WideShapes Go.Deep
set_option linter.ambiguousOpen false
section
variable {H : Type} {enc : TypeId × Value → H} {W : World} {a : Option Addr} {len cap : Nat} {d : DataW H} {p : List MemPlace}
def I64s (l : List Rw) : Prop := ∀ x ∈ l, -9223372036854775808 ≤ x.key ∧ x.key ≤ 9223372036854775807
theorem wf_i64 {k : Int} (h : (Lit.int .i64 k).wf = true) : -9223372036854775808 ≤ k ∧ k ≤ 9223372036854775807 := by
  simp only [Lit.wf, Bool.and_eq_true, decide_eq_true_eq] at h
  exact h
theorem open_rows_in (h : DataW.Trod enc Try.prog W 0 (fun _ => true) true 38 (.slice a len cap) d p) : ∃ l, Rz W W.heap.size a len cap l ∧ I64s l := by
  obtain ⟨fuel, hf⟩ := h
  rcases Flat.open_slice_fields Try.underlying38 Try.underlying37 (by kernel_rfl) (by kernel_rfl) hf with hcs | ⟨x, l, c, m, hcs, hl, hm, hmm, hall⟩
  · simp [Value.cells] at hcs
    obtain ⟨rfl, rfl, rfl⟩ := hcs
    exact ⟨[], ⟨Rs.nil_ _ _, fun _ => rfl⟩, fun x hx => by cases hx⟩
  · simp [Value.cells] at hcs
    obtain ⟨rfl, rfl, rfl⟩ := hcs
    obtain ⟨ls, h1, _, h3⟩ := Flat.open_flat (ec := rcells) (k := 2) (fun _ => rfl) (by omega) noRw (fun x => -9223372036854775808 ≤ x.key ∧ x.key ≤ 9223372036854775807) (y := x) hl hm (fun i hi => by
      obtain ⟨n, hn⟩ := hall i (by rw [hmm]; simp; omega)
      obtain ⟨v0, y0, c0, t0⟩ := hn 0 _ rfl
      obtain ⟨v1, y1, c1, t1⟩ := hn 1 _ rfl
      obtain ⟨k, e0, _, wk⟩ := DataW.trod_int Try.underlying2 t0
      obtain ⟨s, e1, _, _⟩ := DataW.trod_string Try.underlying9 t1
      simp only [List.cons.injEq, and_true] at e0 e1
      subst e0 e1
      refine ⟨⟨k, s⟩, wf_i64 wk, fun j hj => ?_⟩
      match j, hj with
      | 0, _ => exact ⟨_, rfl, c0⟩
      | 1, _ => exact ⟨_, rfl, c1⟩)
    exact ⟨ls, ⟨h1, fun h => by cases h⟩, h3⟩
theorem open_rows (h : DataW.Trod enc Try.prog W 0 (fun _ => true) true 38 (.slice a len cap) d p) : ∃ l, Rz W W.heap.size a len cap l := by
  obtain ⟨l, h1, _⟩ := open_rows_in h
  exact ⟨l, h1⟩
end
end Go.Proofs.Ytngncalbglbjdaa.Idx
