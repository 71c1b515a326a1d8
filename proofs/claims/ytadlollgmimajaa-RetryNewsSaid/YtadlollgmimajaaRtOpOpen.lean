/-
  How a slice of qanat/qanatlaw20.Op is opened.
-/
import Derived.Test.YtadlollgmimajaaRtOpMem
import Derived.Test.YtadlollgmimajaaOpenFlat
namespace Go.Proofs.Ytadlollgmimajaa.Rt
set_option linter.unusedVariables false
set_option maxRecDepth 100000
open Go.RowKit Base RetryMath
open Go.ChangeShapes Go.WideShapes Go.Deep
set_option linter.ambiguousOpen false
section
variable {H : Type} {enc : TypeId × Value → H} {W : World} {a : Option Addr} {len cap : Nat} {d : DataW H} {p : List MemPlace}
theorem topen (h : DataW.Trod enc Try.prog W 0 (fun _ => true) true 31 (.slice a len cap) d p) : ∃ l, Tos W W.heap.size a len cap l ∧ ∀ x ∈ l, True := by
  obtain ⟨fuel, hf⟩ := h
  rcases Flat.open_slice_fields Try.underlying31 Try.underlying37 (by kernel_rfl) (by kernel_rfl) hf with hcs | ⟨x, l, c, m, hcs, hl, hm, hmm, hall⟩
  · simp [Value.cells] at hcs
    obtain ⟨rfl, rfl, rfl⟩ := hcs
    exact ⟨[], Row.nil_ _ _ _, fun x hx => by cases hx⟩
  · simp [Value.cells] at hcs
    obtain ⟨rfl, rfl, rfl⟩ := hcs
    obtain ⟨ls, h1, _, h3⟩ := Flat.open_flat (ec := tcells) (k := 3) (fun _ => rfl) (by omega) noTo (fun x => True) (y := x) hl hm (fun i hi => by
      obtain ⟨n, hn⟩ := hall i (by rw [hmm]; simp; omega)
      obtain ⟨v0, y0, c0, t0⟩ := hn 0 _ rfl
      obtain ⟨v1, y1, c1, t1⟩ := hn 1 _ rfl
      obtain ⟨v2, y2, c2, t2⟩ := hn 2 _ rfl
      obtain ⟨k0, e0, _, _⟩ := DataW.trod_int Try.underlying3 t0
      obtain ⟨k1, e1, _, _⟩ := DataW.trod_int Try.underlying2 t1
      obtain ⟨k2, e2, _, _⟩ := DataW.trod_int Try.underlying2 t2
      simp only [List.cons.injEq, and_true] at e0 e1 e2
      subst e0 e1 e2
      refine ⟨⟨k0, k1, k2⟩, trivial, fun j hj => ?_⟩
      match j, hj with
      | 0, _ => exact ⟨_, rfl, c0⟩
      | 1, _ => exact ⟨_, rfl, c1⟩
      | 2, _ => exact ⟨_, rfl, c2⟩)
    exact ⟨ls, h1, h3⟩
variable {v : Value} {b0 : Nat}
/-- one that came in by value -/
theorem topen_val (hv : Value.okWide Try.prog W .any b0 37 v) (h : DataW.Trod enc Try.prog W 0 (fun _ => true) true 37 v d p) : ∃ x : To, v = tval x ∧ True := by
  obtain ⟨vals, rfl, hsz⟩ := okWide_struct Try.underlying37 hv
  obtain ⟨l⟩ := vals
  have hK : l.length = 3 := hsz.trans (by kernel_rfl)
  obtain ⟨fl, hfl⟩ := h
  obtain ⟨ys, n, _, _, _, hlen, hg⟩ := DataW.trod_struct Try.underlying37 hfl
  match l, hK with
  | [c0, c1, c2], _ =>
    match ys, hlen with
    | [z0, z1, z2], _ =>
      have t0 : DataW.trod enc Try.prog W 0 (fun _ => true) true n 3 [c0] = some z0 := hg 0 _ rfl
      have t1 : DataW.trod enc Try.prog W 0 (fun _ => true) true n 2 [c1] = some z1 := hg 1 _ rfl
      have t2 : DataW.trod enc Try.prog W 0 (fun _ => true) true n 2 [c2] = some z2 := hg 2 _ rfl
      obtain ⟨k0, e0, _, _⟩ := DataW.trod_int Try.underlying3 t0
      obtain ⟨k1, e1, _, _⟩ := DataW.trod_int Try.underlying2 t1
      obtain ⟨k2, e2, _, _⟩ := DataW.trod_int Try.underlying2 t2
      simp only [List.cons.injEq, and_true] at e0 e1 e2
      subst e0 e1 e2
      exact ⟨⟨k0, k1, k2⟩, rfl, trivial⟩
end
end Go.Proofs.Ytadlollgmimajaa.Rt
