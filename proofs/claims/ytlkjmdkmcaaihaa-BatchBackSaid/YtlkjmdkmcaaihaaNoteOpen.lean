/-
  How a slice of qanat/api.Note is opened.
-/
import Derived.Test.YtlkjmdkmcaaihaaNoteMem
import Derived.Test.YtlkjmdkmcaaihaaOpenFlat
namespace Go.Proofs.Ytlkjmdkmcaaihaa.Bt
set_option linter.unusedVariables false
set_option maxRecDepth 100000
open Go.RowKit Base BatchMath
open Go.ChangeShapes Go.WideShapes Go.Deep
set_option linter.ambiguousOpen false
section
variable {H : Type} {enc : TypeId × Value → H} {W : World} {a : Option Addr} {len cap : Nat} {d : DataW H} {p : List MemPlace}
theorem ntopen (h : DataW.Trod enc Try.prog W 0 (fun _ => true) true 23 (.slice a len cap) d p) : ∃ l, Nts W W.heap.size a len cap l ∧ ∀ x ∈ l, True := by
  obtain ⟨fuel, hf⟩ := h
  rcases Flat.open_slice_fields Try.underlying23 Try.underlying27 (by kernel_rfl) (by kernel_rfl) hf with hcs | ⟨x, l, c, m, hcs, hl, hm, hmm, hall⟩
  · simp [Value.cells] at hcs
    obtain ⟨rfl, rfl, rfl⟩ := hcs
    exact ⟨[], Row.nil_ _ _ _, fun x hx => by cases hx⟩
  · simp [Value.cells] at hcs
    obtain ⟨rfl, rfl, rfl⟩ := hcs
    obtain ⟨ls, h1, _, h3⟩ := Flat.open_flat (ec := ntcells) (k := 7) (fun _ => rfl) (by omega) noNt (fun x => True) (y := x) hl hm (fun i hi => by
      obtain ⟨n, hn⟩ := hall i (by rw [hmm]; simp; omega)
      obtain ⟨v0, y0, c0, t0⟩ := hn 0 _ rfl
      obtain ⟨v1, y1, c1, t1⟩ := hn 1 _ rfl
      obtain ⟨v2, y2, c2, t2⟩ := hn 2 _ rfl
      obtain ⟨v3, y3, c3, t3⟩ := hn 3 _ rfl
      obtain ⟨v4, y4, c4, t4⟩ := hn 4 _ rfl
      obtain ⟨v5, y5, c5, t5⟩ := hn 5 _ rfl
      obtain ⟨v6, y6, c6, t6⟩ := hn 6 _ rfl
      obtain ⟨k0, e0, _, _⟩ := DataW.trod_int Try.underlying3 t0
      obtain ⟨k1, e1, _, _⟩ := DataW.trod_int Try.underlying3 t1
      obtain ⟨k2, e2, _, _⟩ := DataW.trod_int Try.underlying3 t2
      obtain ⟨k3, e3, _, _⟩ := DataW.trod_int Try.underlying3 t3
      obtain ⟨k4, e4, _, _⟩ := DataW.trod_int Try.underlying2 t4
      obtain ⟨k5, e5, _, _⟩ := DataW.trod_int Try.underlying2 t5
      obtain ⟨k6, e6, _⟩ := DataW.trod_bool Try.underlying4 t6
      simp only [List.cons.injEq, and_true] at e0 e1 e2 e3 e4 e5 e6
      subst e0 e1 e2 e3 e4 e5 e6
      refine ⟨⟨k0, k1, k2, k3, k4, k5, k6⟩, trivial, fun j hj => ?_⟩
      match j, hj with
      | 0, _ => exact ⟨_, rfl, c0⟩
      | 1, _ => exact ⟨_, rfl, c1⟩
      | 2, _ => exact ⟨_, rfl, c2⟩
      | 3, _ => exact ⟨_, rfl, c3⟩
      | 4, _ => exact ⟨_, rfl, c4⟩
      | 5, _ => exact ⟨_, rfl, c5⟩
      | 6, _ => exact ⟨_, rfl, c6⟩)
    exact ⟨ls, h1, h3⟩
variable {v : Value} {b0 : Nat}
/-- one that came in by value -/
theorem ntopen_val (hv : Value.okWide Try.prog W .any b0 27 v) (h : DataW.Trod enc Try.prog W 0 (fun _ => true) true 27 v d p) : ∃ x : Nt, v = ntval x ∧ True := by
  obtain ⟨vals, rfl, hsz⟩ := okWide_struct Try.underlying27 hv
  obtain ⟨l⟩ := vals
  have hK : l.length = 7 := hsz.trans (by kernel_rfl)
  obtain ⟨fl, hfl⟩ := h
  obtain ⟨ys, n, _, _, _, hlen, hg⟩ := DataW.trod_struct Try.underlying27 hfl
  match l, hK with
  | [c0, c1, c2, c3, c4, c5, c6], _ =>
    match ys, hlen with
    | [z0, z1, z2, z3, z4, z5, z6], _ =>
      have t0 : DataW.trod enc Try.prog W 0 (fun _ => true) true n 3 [c0] = some z0 := hg 0 _ rfl
      have t1 : DataW.trod enc Try.prog W 0 (fun _ => true) true n 3 [c1] = some z1 := hg 1 _ rfl
      have t2 : DataW.trod enc Try.prog W 0 (fun _ => true) true n 3 [c2] = some z2 := hg 2 _ rfl
      have t3 : DataW.trod enc Try.prog W 0 (fun _ => true) true n 3 [c3] = some z3 := hg 3 _ rfl
      have t4 : DataW.trod enc Try.prog W 0 (fun _ => true) true n 2 [c4] = some z4 := hg 4 _ rfl
      have t5 : DataW.trod enc Try.prog W 0 (fun _ => true) true n 2 [c5] = some z5 := hg 5 _ rfl
      have t6 : DataW.trod enc Try.prog W 0 (fun _ => true) true n 4 [c6] = some z6 := hg 6 _ rfl
      obtain ⟨k0, e0, _, _⟩ := DataW.trod_int Try.underlying3 t0
      obtain ⟨k1, e1, _, _⟩ := DataW.trod_int Try.underlying3 t1
      obtain ⟨k2, e2, _, _⟩ := DataW.trod_int Try.underlying3 t2
      obtain ⟨k3, e3, _, _⟩ := DataW.trod_int Try.underlying3 t3
      obtain ⟨k4, e4, _, _⟩ := DataW.trod_int Try.underlying2 t4
      obtain ⟨k5, e5, _, _⟩ := DataW.trod_int Try.underlying2 t5
      obtain ⟨k6, e6, _⟩ := DataW.trod_bool Try.underlying4 t6
      simp only [List.cons.injEq, and_true] at e0 e1 e2 e3 e4 e5 e6
      subst e0 e1 e2 e3 e4 e5 e6
      exact ⟨⟨k0, k1, k2, k3, k4, k5, k6⟩, rfl, trivial⟩
end
end Go.Proofs.Ytlkjmdkmcaaihaa.Bt
