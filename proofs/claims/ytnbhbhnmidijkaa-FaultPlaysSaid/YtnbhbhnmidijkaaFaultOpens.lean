/-
  How slices of slices of faults, and of bools, are opened.
-/
import Derived.Test.YtnbhbhnmidijkaaFaultOpen
import Derived.Test.YtnbhbhnmidijkaaLsts
import Derived.Deep.Grids
namespace Go.Proofs.Ytnbhbhnmidijkaa.Flt
set_option linter.unusedVariables false
set_option maxRecDepth 100000
open Go.RowKit Base FaultMath
open Lsts (Lsts)
open Go.ChangeShapes Go.WideShapes Go.Deep
set_option linter.ambiguousOpen false
set_option linter.unusedSimpArgs false

section
variable {H : Type} {enc : TypeId × Value → H} {W : World} {a : Option Addr} {len cap : Nat} {d : DataW H} {p : List MemPlace}
theorem open_fts (n : Nat) (cs : List Value) (y : DataW H × List MemPlace) (hf : DataW.trod enc Try.prog W 0 (fun _ => true) true n 32 cs = some y) : ∃ A n' c' l, cs = [.slice A n' c'] ∧ Fts W W.heap.size A n' c' l ∧ True := by
  rcases Flat.open_slice_fields Try.underlying32 Try.underlying23 (by kernel_rfl) (by kernel_rfl) hf with hcs | ⟨x, l, c, m, hcs, hl, hm, hmm, hall⟩
  · exact ⟨none, 0, 0, [], hcs, Row.nil_ _ _ _, trivial⟩
  · obtain ⟨ls, h1, _, h3⟩ := Flat.open_flat (ec := fcells) (k := 2) (fun _ => rfl) (by omega) noFt (fun x => True) (y := x) hl hm (fun i hi => by
      obtain ⟨n, hn⟩ := hall i (by rw [hmm]; simp; omega)
      obtain ⟨v0, y0, c0, t0⟩ := hn 0 _ rfl
      obtain ⟨v1, y1, c1, t1⟩ := hn 1 _ rfl
      obtain ⟨k0, e0, _, _⟩ := DataW.trod_int Try.underlying3 t0
      obtain ⟨k1, e1, _, _⟩ := DataW.trod_int Try.underlying3 t1
      simp only [List.cons.injEq, and_true] at e0 e1
      subst e0 e1
      refine ⟨⟨k0, k1⟩, trivial, fun j hj => ?_⟩
      match j, hj with
      | 0, _ => exact ⟨_, rfl, c0⟩
      | 1, _ => exact ⟨_, rfl, c1⟩)
    exact ⟨_, _, _, ls, hcs, h1, trivial⟩
theorem open_ftlists (h : DataW.Trod enc Try.prog W 0 (fun _ => true) true 28 (.slice a len cap) d p) : ∃ L, Lsts Fts W W.heap.size a len cap L ∧ ∀ l ∈ L, True :=
  Lsts.open_lsts ([] : List Ft) Try.underlying28 (by kernel_rfl) (fun n cs y hy => open_fts n cs y hy) h
/-- a row of bools -/
def Bls (w : World) (B : Nat) (A : Option Addr) (n c : Nat) (l : List Bool) : Prop := Row w B 1 A n c (l.map .bool)
theorem open_bls (h : DataW.Trod enc Try.prog W 0 (fun _ => true) true 29 (.slice a len cap) d p) : ∃ l, Bls W W.heap.size a len cap l ∧ True := by
  obtain ⟨fuel, hf⟩ := h
  rcases open_bools Try.underlying29 Try.underlying4 (by kernel_rfl) hf with ⟨hcs, _⟩ | ⟨x, l, c, Z, hcs, _, hl, hm, _, hcell⟩
  · simp [Value.cells] at hcs
    obtain ⟨rfl, rfl, rfl⟩ := hcs
    exact ⟨[], Row.nil_ _ _ _, trivial⟩
  · simp [Value.cells] at hcs
    obtain ⟨rfl, rfl, rfl⟩ := hcs
    unfold maxLen at hm
    refine ⟨(List.range len).map Z, ⟨by simp, hl, by omega, fun hn => ?_⟩, trivial⟩
    obtain ⟨b, off, spot⟩ := x
    have hc0 := hcell 0 (by omega)
    have hspot : spot = none := by simpa [Addr.add] using World.cell?_spot hc0
    subst hspot
    have hlt : b < W.heap.size := by
      have := World.block_lt_of_cell? W _ hc0
      simpa [Addr.add] using this
    refine ⟨b, off, rfl, hlt, fun j u hu => ?_⟩
    rw [List.map_map, List.getElem?_map] at hu
    by_cases hj : j < len
    · have hc := hcell j (by omega)
      rw [add_none] at hc
      rw [hc]
      rw [List.getElem?_range hj] at hu
      simpa using hu
    · rw [List.getElem?_eq_none (by rw [List.length_range]; omega)] at hu
      cases hu
end
theorem Bls.len {w : World} {B n c : Nat} {A : Option Addr} {l : List Bool} (h : Bls w B A n c l) : l.length = n := by have := h.1; rw [List.length_map] at this; omega
theorem Bls.at_ {w : World} {B n c : Nat} {A : Option Addr} {l : List Bool} (h : Bls w B A n c l) {k : Nat} (hk : k < n) : ∃ b off x, A = some ⟨b, off, none⟩ ∧ b < B ∧ w.cell? ⟨b, off + k, none⟩ = some (.bool x) ∧ l[k]? = some x := by
  obtain ⟨b, off, e, hb, hc⟩ := h.2.2.2 (by omega)
  have hl : k < l.length := by rw [h.len]; exact hk
  exact ⟨b, off, l[k], e, hb, hc k _ (by rw [List.getElem?_map, List.getElem?_eq_getElem hl]; rfl), List.getElem?_eq_getElem hl⟩
theorem Bls.below {w w' : World} {B n c : Nat} {A : Option Addr} {l : List Bool} (h : Bls w B A n c l) (hb : Below B w w') : Bls w' B A n c l := Row.below h hb
end Go.Proofs.Ytnbhbhnmidijkaa.Flt
