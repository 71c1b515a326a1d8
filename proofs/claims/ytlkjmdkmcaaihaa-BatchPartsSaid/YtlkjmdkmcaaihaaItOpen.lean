/-
  How an item, and a slice of items, are opened.
-/
import Derived.Test.YtlkjmdkmcaaihaaItMem
import Derived.Test.YtlkjmdkmcaaihaaOpenFlat
import Derived.Test.YtlkjmdkmcaaihaaOpOpen
namespace Go.Proofs.Ytlkjmdkmcaaihaa.Bt
set_option linter.unusedVariables false
set_option maxRecDepth 100000
open Go.RowKit Base BatchMath
open Go.ChangeShapes Go.WideShapes Go.Deep
set_option linter.ambiguousOpen false
section
variable {H : Type} {enc : TypeId × Value → H} {W : World} {a : Option Addr} {len cap : Nat} {d : DataW H} {p : List MemPlace}
theorem ntopen (h : DataW.Trod enc Try.prog W 0 (fun _ => true) true 23 (.slice a len cap) d p) : ∃ l, Nts W W.heap.size a len cap l ∧ ∀ x ∈ l, True := by
  obtain ⟨fuel, hf⟩ := h
  rcases Flat.open_slice_fields Try.underlying23 Try.underlying27 (by kernel_rfl) (by kernel_rfl) hf with hcs | ⟨x, l, c, m, hcs, hl, hm, hmm, hall⟩
  · simp [Value.cells] at hcs
    obtain ⟨rfl, rfl, rfl⟩ := hcs
    exact ⟨[], Row.nil_ _ _ _, fun x hx => by cases hx⟩
  · simp [Value.cells] at hcs
    obtain ⟨rfl, rfl, rfl⟩ := hcs
    obtain ⟨ls, h1, _, h3⟩ := Flat.open_flat (ec := ntcells) (k := 7) (fun _ => rfl) (by omega) noNt (fun x => True) (y := x) hl hm (fun i hi => by
      obtain ⟨n, hn⟩ := hall i (by rw [hmm]; simp; omega)
      obtain ⟨v0, y0, c0, t0⟩ := hn 0 _ rfl
      obtain ⟨v1, y1, c1, t1⟩ := hn 1 _ rfl
      obtain ⟨v2, y2, c2, t2⟩ := hn 2 _ rfl
      obtain ⟨v3, y3, c3, t3⟩ := hn 3 _ rfl
      obtain ⟨v4, y4, c4, t4⟩ := hn 4 _ rfl
      obtain ⟨v5, y5, c5, t5⟩ := hn 5 _ rfl
      obtain ⟨v6, y6, c6, t6⟩ := hn 6 _ rfl
      obtain ⟨k0, e0, _, _⟩ := DataW.trod_int Try.underlying3 t0
      obtain ⟨k1, e1, _, _⟩ := DataW.trod_int Try.underlying3 t1
      obtain ⟨k2, e2, _, _⟩ := DataW.trod_int Try.underlying3 t2
      obtain ⟨k3, e3, _, _⟩ := DataW.trod_int Try.underlying3 t3
      obtain ⟨k4, e4, _, _⟩ := DataW.trod_int Try.underlying2 t4
      obtain ⟨k5, e5, _, _⟩ := DataW.trod_int Try.underlying2 t5
      obtain ⟨k6, e6, _⟩ := DataW.trod_bool Try.underlying4 t6
      simp only [List.cons.injEq, and_true] at e0 e1 e2 e3 e4 e5 e6
      subst e0 e1 e2 e3 e4 e5 e6
      refine ⟨⟨k0, k1, k2, k3, k4, k5, k6⟩, trivial, fun j hj => ?_⟩
      match j, hj with
      | 0, _ => exact ⟨_, rfl, c0⟩
      | 1, _ => exact ⟨_, rfl, c1⟩
      | 2, _ => exact ⟨_, rfl, c2⟩
      | 3, _ => exact ⟨_, rfl, c3⟩
      | 4, _ => exact ⟨_, rfl, c4⟩
      | 5, _ => exact ⟨_, rfl, c5⟩
      | 6, _ => exact ⟨_, rfl, c6⟩)
    exact ⟨ls, h1, h3⟩
variable {v : Value} {b0 : Nat}
/-- one that came in by value -/
theorem ntopen_val (hv : Value.okWide Try.prog W .any b0 27 v) (h : DataW.Trod enc Try.prog W 0 (fun _ => true) true 27 v d p) : ∃ x : Nt, v = ntval x ∧ True := by
  obtain ⟨vals, rfl, hsz⟩ := okWide_struct Try.underlying27 hv
  obtain ⟨l⟩ := vals
  have hK : l.length = 7 := hsz.trans (by kernel_rfl)
  obtain ⟨fl, hfl⟩ := h
  obtain ⟨ys, n, _, _, _, hlen, hg⟩ := DataW.trod_struct Try.underlying27 hfl
  match l, hK with
  | [c0, c1, c2, c3, c4, c5, c6], _ =>
    match ys, hlen with
    | [z0, z1, z2, z3, z4, z5, z6], _ =>
      have t0 : DataW.trod enc Try.prog W 0 (fun _ => true) true n 3 [c0] = some z0 := hg 0 _ rfl
      have t1 : DataW.trod enc Try.prog W 0 (fun _ => true) true n 3 [c1] = some z1 := hg 1 _ rfl
      have t2 : DataW.trod enc Try.prog W 0 (fun _ => true) true n 3 [c2] = some z2 := hg 2 _ rfl
      have t3 : DataW.trod enc Try.prog W 0 (fun _ => true) true n 3 [c3] = some z3 := hg 3 _ rfl
      have t4 : DataW.trod enc Try.prog W 0 (fun _ => true) true n 2 [c4] = some z4 := hg 4 _ rfl
      have t5 : DataW.trod enc Try.prog W 0 (fun _ => true) true n 2 [c5] = some z5 := hg 5 _ rfl
      have t6 : DataW.trod enc Try.prog W 0 (fun _ => true) true n 4 [c6] = some z6 := hg 6 _ rfl
      obtain ⟨k0, e0, _, _⟩ := DataW.trod_int Try.underlying3 t0
      obtain ⟨k1, e1, _, _⟩ := DataW.trod_int Try.underlying3 t1
      obtain ⟨k2, e2, _, _⟩ := DataW.trod_int Try.underlying3 t2
      obtain ⟨k3, e3, _, _⟩ := DataW.trod_int Try.underlying3 t3
      obtain ⟨k4, e4, _, _⟩ := DataW.trod_int Try.underlying2 t4
      obtain ⟨k5, e5, _, _⟩ := DataW.trod_int Try.underlying2 t5
      obtain ⟨k6, e6, _⟩ := DataW.trod_bool Try.underlying4 t6
      simp only [List.cons.injEq, and_true] at e0 e1 e2 e3 e4 e5 e6
      subst e0 e1 e2 e3 e4 e5 e6
      exact ⟨⟨k0, k1, k2, k3, k4, k5, k6⟩, rfl, trivial⟩
end
end Go.Proofs.Ytlkjmdkmcaaihaa.Bt

namespace Go.Proofs.Ytlkjmdkmcaaihaa.Bt
set_option linter.unusedVariables false
set_option maxRecDepth 100000
open Go.RowKit Base BatchMath
open GuardMath (Gp noGp)
open Gd (Gps)
open Go.ChangeShapes Go.WideShapes Go.Deep
set_option linter.ambiguousOpen false
/-- an item as it may come in -/
def OkIt (x : It) : Prop := ∀ o ∈ x.ops, o.val.size ≤ 9223372036854775807
section
variable {H : Type} {enc : TypeId × Value → H} {W : World} {fuel : Nat} {cs : List Value} {x : DataW H × List MemPlace}
theorem ops_of (h : DataW.trod enc Try.prog W 0 (fun _ => true) true fuel 22 cs = some x) : ∃ A n c l, cs = [.slice A n c] ∧ Gps W W.heap.size A n c l ∧ ∀ f ∈ l, f.val.size ≤ 9223372036854775807 := by
  obtain ⟨d, p⟩ := x
  have h0 := h
  rcases open_slice Try.underlying22 h with ⟨rfl, _⟩ | ⟨y, len, cap, m, n0, D, Pl, rfl, _⟩
  · exact ⟨none, 0, 0, [], rfl, Row.nil_ _ _ _, fun f hf => by cases hf⟩
  · obtain ⟨l, h1, h2⟩ := Gd.oopen (a := some y) (len := len) (cap := cap) (d := d) (p := p) ⟨fuel, h0⟩
    exact ⟨_, _, _, l, rfl, h1, fun f hf => (h2 f hf).1⟩
theorem notes_of (h : DataW.trod enc Try.prog W 0 (fun _ => true) true fuel 23 cs = some x) : ∃ A n c l, cs = [.slice A n c] ∧ Nts W W.heap.size A n c l := by
  obtain ⟨d, p⟩ := x
  have h0 := h
  rcases open_slice Try.underlying23 h with ⟨rfl, _⟩ | ⟨y, len, cap, m, n0, D, Pl, rfl, _⟩
  · exact ⟨none, 0, 0, [], rfl, Row.nil_ _ _ _⟩
  · obtain ⟨l, h1, _⟩ := ntopen (a := some y) (len := len) (cap := cap) (d := d) (p := p) ⟨fuel, h0⟩
    exact ⟨_, _, _, l, rfl, h1⟩
variable {v : Value} {d : DataW H} {p : List MemPlace} {b0 : Nat}
/-- an item that came in -/
theorem open_item (hv : Value.okWide Try.prog W .any b0 25 v) (h : DataW.Trod enc Try.prog W 0 (fun _ => true) true 25 v d p) : ∃ t, ItIn W W.heap.size t v ∧ OkIt t := by
  obtain ⟨vals, rfl, hsz⟩ := okWide_struct Try.underlying25 hv
  obtain ⟨l⟩ := vals
  have h3 : l.length = 3 := hsz.trans (by kernel_rfl)
  obtain ⟨fl, hfl⟩ := h
  obtain ⟨ys, n, _, _, _, hlen, hg⟩ := DataW.trod_struct Try.underlying25 hfl
  match l, h3 with
  | [c0, c1, c2], _ =>
    match ys, hlen with
    | [z0, z1, z2], _ =>
      have a0 : DataW.trod enc Try.prog W 0 (fun _ => true) true n 2 [c0] = some z0 := hg 0 _ rfl
      have a1 : DataW.trod enc Try.prog W 0 (fun _ => true) true n 22 [c1] = some z1 := hg 1 _ rfl
      have a2 : DataW.trod enc Try.prog W 0 (fun _ => true) true n 23 [c2] = some z2 := hg 2 _ rfl
      obtain ⟨i0, e0, _, _⟩ := DataW.trod_int Try.underlying2 a0
      obtain ⟨A, n1, cap1, l1, e1, h1, o1⟩ := ops_of a1
      obtain ⟨A', n2, cap2, l2, e2, h2⟩ := notes_of a2
      simp only [List.cons.injEq, and_true] at e0 e1 e2
      subst e0 e1 e2
      exact ⟨⟨i0, l1, l2⟩, ⟨A, n1, cap1, A', n2, cap2, rfl, h1, h2⟩, o1⟩
end
section
variable {H : Type} {enc : TypeId × Value → H} {W : World} {a : Option Addr} {len cap : Nat} {d : DataW H} {p : List MemPlace}
theorem open_items (h : DataW.Trod enc Try.prog W 0 (fun _ => true) true 34 (.slice a len cap) d p) : ∃ l, Its W W.heap.size a len cap l ∧ ∀ x ∈ l, OkIt x := by
  obtain ⟨fuel, hf⟩ := h
  rcases Flat.open_slice_fields Try.underlying34 Try.underlying25 (by kernel_rfl) (by kernel_rfl) hf with hcs | ⟨y, l, c, m, hcs, hl, hm, hmm, hall⟩
  · simp [Value.cells] at hcs
    obtain ⟨rfl, rfl, rfl⟩ := hcs
    exact ⟨[], Its.nil_ _ _, fun x hx => by cases hx⟩
  · simp [Value.cells] at hcs
    obtain ⟨rfl, rfl, rfl⟩ := hcs
    classical
    have each : ∀ i, i < len → ∃ x : It, OkIt x ∧ ∃ b off, y = ⟨b, off, none⟩ ∧ b < W.heap.size ∧ ItAt W W.heap.size b (off + i * 3) x := by
      intro i hi
      obtain ⟨n, hn⟩ := hall i (by rw [hmm]; simp; omega)
      obtain ⟨v0, y0, c0, t0⟩ := hn 0 _ rfl
      obtain ⟨v1, y1, c1, t1⟩ := hn 1 _ rfl
      obtain ⟨v2, y2, c2, t2⟩ := hn 2 _ rfl
      obtain ⟨k0, e0, _, _⟩ := DataW.trod_int Try.underlying2 t0
      obtain ⟨A1, n1, d1, l1, e1, r1, o1⟩ := ops_of t1
      obtain ⟨A2, n2, d2, l2, e2, r2⟩ := notes_of t2
      simp only [List.cons.injEq, and_true] at e0 e1 e2
      subst e0 e1 e2
      obtain ⟨b, off, spot⟩ := y
      obtain ⟨n', hn'⟩ := hall 0 (by rw [hmm]; simp; omega)
      obtain ⟨v5, y5, c5, _⟩ := hn' 0 _ rfl
      have hspot : spot = none := by simpa [Addr.add] using World.cell?_spot c5
      subst hspot
      have hlt : b < W.heap.size := by
        have := World.block_lt_of_cell? W _ c5
        simpa [Addr.add] using this
      rw [add_none] at c0 c1 c2
      exact ⟨⟨k0, l1, l2⟩, o1, b, off, rfl, hlt, A1, n1, d1, A2, n2, d2, c0, c1, c2, r1, r2⟩
    let g : Nat → It := fun i => if h : i < len then (each i h).choose else noIt
    have hg : ∀ i, i < len → OkIt (g i) ∧ ∃ b off, y = ⟨b, off, none⟩ ∧ b < W.heap.size ∧ ItAt W W.heap.size b (off + i * 3) (g i) := by
      intro i hi
      have := (each i hi).choose_spec
      simp only [g, dif_pos hi]
      exact this
    unfold maxLen at hm
    refine ⟨(List.range len).map g, ⟨by rw [List.length_map, List.length_range], hl, by omega, fun i x hx => ?_⟩, ?_⟩
    · have hi : i < len := by have := (List.getElem?_eq_some_iff.1 hx).1; simpa using this
      rw [List.getElem?_map, List.getElem?_range hi] at hx
      simp only [Option.map_some, Option.some.injEq] at hx
      subst hx
      obtain ⟨_, b, off, e, hb, ht⟩ := hg i hi
      exact ⟨b, off, by rw [e], hb, ht⟩
    · intro x hx
      obtain ⟨i, hi, rfl⟩ := List.mem_map.1 hx
      exact (hg i (List.mem_range.1 hi)).1
end
end Go.Proofs.Ytlkjmdkmcaaihaa.Bt
