/-
  How a slice of changes is opened.
-/
import Derived.Test.YtngncalbglbjdaaPlayChg
import Derived.Test.YtngncalbglbjdaaOpenFlat
namespace Go.Proofs.Ytngncalbglbjdaa.PChg
set_option linter.unusedVariables false
set_option maxRecDepth 100000
open Go.RowKit Base TxnMath
open Go.ChangeShapes Go.WideShapes Go.Deep
set_option linter.ambiguousOpen false
section
variable {H : Type} {enc : TypeId × Value → H} {W : World} {a : Option Addr} {len cap : Nat} {d : DataW H} {p : List MemPlace}
theorem open_changes (h : DataW.Trod enc Try.prog W 0 (fun _ => true) true 30 (.slice a len cap) d p) : ∃ l, Cs W W.heap.size a len cap l ∧ ∀ f ∈ l, f.val.size ≤ 9223372036854775807 := by
  obtain ⟨fuel, hf⟩ := h
  rcases Flat.open_slice_fields Try.underlying30 Try.underlying45 (by kernel_rfl) (by kernel_rfl) hf with hcs | ⟨x, l, c, m, hcs, hl, hm, hmm, hall⟩
  · simp [Value.cells] at hcs
    obtain ⟨rfl, rfl, rfl⟩ := hcs
    exact ⟨[], Row.nil_ _ _ _, fun x hx => by cases hx⟩
  · simp [Value.cells] at hcs
    obtain ⟨rfl, rfl, rfl⟩ := hcs
    obtain ⟨ls, h1, _, h3⟩ := Flat.open_flat (ec := gcells) (k := 4) (fun _ => rfl) (by omega) noCh (fun x => x.val.size ≤ 9223372036854775807) (y := x) hl hm (fun i hi => by
      obtain ⟨n, hn⟩ := hall i (by rw [hmm]; simp; omega)
      obtain ⟨v0, y0, c0, t0⟩ := hn 0 _ rfl
      obtain ⟨v1, y1, c1, t1⟩ := hn 1 _ rfl
      obtain ⟨v2, y2, c2, t2⟩ := hn 2 _ rfl
      obtain ⟨v3, y3, c3, t3⟩ := hn 3 _ rfl
      obtain ⟨k0, e0, _, _⟩ := DataW.trod_int Try.underlying3 t0
      obtain ⟨k1, e1, _, _⟩ := DataW.trod_int Try.underlying2 t1
      obtain ⟨k2, e2, _⟩ := DataW.trod_bool Try.underlying4 t2
      obtain ⟨s, e3, _, ws⟩ := DataW.trod_string Try.underlying9 t3
      simp only [List.cons.injEq, and_true] at e0 e1 e2 e3
      subst e0 e1 e2 e3
      refine ⟨⟨k0, k1, k2, s⟩, by dsimp only; exact ws, fun j hj => ?_⟩
      match j, hj with
      | 0, _ => exact ⟨_, rfl, c0⟩
      | 1, _ => exact ⟨_, rfl, c1⟩
      | 2, _ => exact ⟨_, rfl, c2⟩
      | 3, _ => exact ⟨_, rfl, c3⟩)
    exact ⟨ls, h1, h3⟩
end
end Go.Proofs.Ytngncalbglbjdaa.PChg
