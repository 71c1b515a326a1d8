/-
  How a slice of qanat/api.Op is opened.
-/
import Derived.Test.YtlkjmdkmcaaihaaOpMem
import Derived.Test.YtlkjmdkmcaaihaaOpenFlat
namespace Go.Proofs.Ytlkjmdkmcaaihaa.Gd
set_option linter.unusedVariables false
set_option maxRecDepth 100000
open Go.RowKit Base GuardMath
open Go.ChangeShapes Go.WideShapes Go.Deep
set_option linter.ambiguousOpen false
def OkKey (k : Int) : Prop := -9223372036854775808 ≤ k ∧ k ≤ 9223372036854775807
theorem ok_key {k : Int} (h : (Lit.int .i64 k).wf = true) : OkKey k := by
  simp only [Lit.wf, Bool.and_eq_true, decide_eq_true_eq] at h
  exact h
section
variable {H : Type} {enc : TypeId × Value → H} {W : World} {a : Option Addr} {len cap : Nat} {d : DataW H} {p : List MemPlace}
theorem oopen (h : DataW.Trod enc Try.prog W 0 (fun _ => true) true 22 (.slice a len cap) d p) : ∃ l, Gps W W.heap.size a len cap l ∧ ∀ x ∈ l, x.val.size ≤ 9223372036854775807 ∧ OkKey x.key := by
  obtain ⟨fuel, hf⟩ := h
  rcases Flat.open_slice_fields Try.underlying22 Try.underlying29 (by kernel_rfl) (by kernel_rfl) hf with hcs | ⟨x, l, c, m, hcs, hl, hm, hmm, hall⟩
  · simp [Value.cells] at hcs
    obtain ⟨rfl, rfl, rfl⟩ := hcs
    exact ⟨[], Row.nil_ _ _ _, fun x hx => by cases hx⟩
  · simp [Value.cells] at hcs
    obtain ⟨rfl, rfl, rfl⟩ := hcs
    obtain ⟨ls, h1, _, h3⟩ := Flat.open_flat (ec := ocells) (k := 5) (fun _ => rfl) (by omega) noGp (fun x => x.val.size ≤ 9223372036854775807 ∧ OkKey x.key) (y := x) hl hm (fun i hi => by
      obtain ⟨n, hn⟩ := hall i (by rw [hmm]; simp; omega)
      obtain ⟨v0, y0, c0, t0⟩ := hn 0 _ rfl
      obtain ⟨v1, y1, c1, t1⟩ := hn 1 _ rfl
      obtain ⟨v2, y2, c2, t2⟩ := hn 2 _ rfl
      obtain ⟨v3, y3, c3, t3⟩ := hn 3 _ rfl
      obtain ⟨v4, y4, c4, t4⟩ := hn 4 _ rfl
      obtain ⟨k0, e0, _, _⟩ := DataW.trod_int Try.underlying2 t0
      obtain ⟨k1, e1, _, _⟩ := DataW.trod_int Try.underlying3 t1
      obtain ⟨k2, e2, _, kw2⟩ := DataW.trod_int Try.underlying2 t2
      obtain ⟨k3, e3, _⟩ := DataW.trod_bool Try.underlying4 t3
      obtain ⟨k4, e4, _, ws4⟩ := DataW.trod_string Try.underlying9 t4
      simp only [List.cons.injEq, and_true] at e0 e1 e2 e3 e4
      subst e0 e1 e2 e3 e4
      refine ⟨⟨k0, k1, k2, k3, k4⟩, ⟨by dsimp only; exact ws4, ok_key kw2⟩, fun j hj => ?_⟩
      match j, hj with
      | 0, _ => exact ⟨_, rfl, c0⟩
      | 1, _ => exact ⟨_, rfl, c1⟩
      | 2, _ => exact ⟨_, rfl, c2⟩
      | 3, _ => exact ⟨_, rfl, c3⟩
      | 4, _ => exact ⟨_, rfl, c4⟩)
    exact ⟨ls, h1, h3⟩
variable {v : Value} {b0 : Nat}
/-- one that came in by value -/
theorem oopen_val (hv : Value.okWide Try.prog W .any b0 29 v) (h : DataW.Trod enc Try.prog W 0 (fun _ => true) true 29 v d p) : ∃ x : Gp, v = oval x ∧ x.val.size ≤ 9223372036854775807 ∧ OkKey x.key := by
  obtain ⟨vals, rfl, hsz⟩ := okWide_struct Try.underlying29 hv
  obtain ⟨l⟩ := vals
  have hK : l.length = 5 := hsz.trans (by kernel_rfl)
  obtain ⟨fl, hfl⟩ := h
  obtain ⟨ys, n, _, _, _, hlen, hg⟩ := DataW.trod_struct Try.underlying29 hfl
  match l, hK with
  | [c0, c1, c2, c3, c4], _ =>
    match ys, hlen with
    | [z0, z1, z2, z3, z4], _ =>
      have t0 : DataW.trod enc Try.prog W 0 (fun _ => true) true n 2 [c0] = some z0 := hg 0 _ rfl
      have t1 : DataW.trod enc Try.prog W 0 (fun _ => true) true n 3 [c1] = some z1 := hg 1 _ rfl
      have t2 : DataW.trod enc Try.prog W 0 (fun _ => true) true n 2 [c2] = some z2 := hg 2 _ rfl
      have t3 : DataW.trod enc Try.prog W 0 (fun _ => true) true n 4 [c3] = some z3 := hg 3 _ rfl
      have t4 : DataW.trod enc Try.prog W 0 (fun _ => true) true n 9 [c4] = some z4 := hg 4 _ rfl
      obtain ⟨k0, e0, _, _⟩ := DataW.trod_int Try.underlying2 t0
      obtain ⟨k1, e1, _, _⟩ := DataW.trod_int Try.underlying3 t1
      obtain ⟨k2, e2, _, kw2⟩ := DataW.trod_int Try.underlying2 t2
      obtain ⟨k3, e3, _⟩ := DataW.trod_bool Try.underlying4 t3
      obtain ⟨k4, e4, _, ws4⟩ := DataW.trod_string Try.underlying9 t4
      simp only [List.cons.injEq, and_true] at e0 e1 e2 e3 e4
      subst e0 e1 e2 e3 e4
      exact ⟨⟨k0, k1, k2, k3, k4⟩, rfl, by dsimp only; exact ws4, ok_key kw2⟩
end
end Go.Proofs.Ytlkjmdkmcaaihaa.Gd
