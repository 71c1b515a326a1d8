/-
  How an argument that is a slice of slices of bytes is opened: as the frame of a row's proof knows it, as rows in memory.
-/
import Derived.Test.YtedfddnbgljcjaaGreatOpenBytes
import Derived.Test.YtedfddnbgljcjaaGreatMaths
import Derived.Test.YtedfddnbgljcjaaGreatLists
import Derived.Deep.Matrix
namespace Go.Proofs.YtedfddnbgljcjaaGreat.Field
set_option maxRecDepth 100000
open Go.RowKit Base FieldMath
open Go.ChangeShapes Go.WideShapes Go.Deep

theorem lists_of {w : World} {a : Addr} {len cap : Nat} {A : Nat → Option Addr} {L C : Nat → Nat} {Z : Nat → List Int} (hl : len ≤ cap) (hm : cap ≤ maxLen)
    (h : ∀ r, r < cap → w.cell? (a.add r) = some (.slice (A r) (L r) (C r)) ∧ L r ≤ C r ∧ C r ≤ maxLen ∧ (Z r).length = C r ∧ (∀ n ∈ Z r, (Lit.int .u8 n).wf = true) ∧ (A r = none → C r = 0) ∧
      ∀ a', A r = some a' → 0 ≤ a'.block ∧ ∀ c, c < C r → w.cell? (a'.add c) = some (.int .u8 ((Z r).getD c 0))) :
    ∃ ls, Lists w w.heap.size (some a) len cap ls := by
  have each : ∀ r, r < len → ∃ l, Bytes w w.heap.size (A r) (L r) (C r) l := by
    intro r hr
    obtain ⟨_, h1, h2, h3, h4, h5, h6⟩ := h r (by omega)
    match hA : A r with
    | none =>
      have hc := h5 hA
      have hL : L r = 0 := by omega
      rw [hL, hc]
      exact ⟨[], Bytes.nil_ _ _⟩
    | some x => exact ⟨_, bytes_of h1 h2 h3 (fun i hi => (h6 x hA).2 i (by omega)) h4⟩
  let g : Nat → List UInt8 := fun i => if h : i < len then (each i h).choose else []
  have hg : ∀ i, i < len → Bytes w w.heap.size (A i) (L i) (C i) (g i) := by
    intro i hi
    have := (each i hi).choose_spec
    simp only [g, dif_pos hi]
    exact this
  unfold maxLen at hm
  refine ⟨(List.range len).map g, (List.range len).map fun i => .slice (A i) (L i) (C i), ⟨by rw [List.length_map, List.length_range, Nat.mul_one], hl, by omega, fun hn => ?_⟩, by rw [List.length_map, List.length_map], fun i v l hv hl' => ?_⟩
  · obtain ⟨b, off, spot⟩ := a
    have hc0 := (h 0 (by omega)).1
    have hspot : spot = none := by simpa [Addr.add] using World.cell?_spot hc0
    subst hspot
    have hlt : b < w.heap.size := by
      have := World.block_lt_of_cell? w _ hc0
      simpa [Addr.add] using this
    refine ⟨b, off, rfl, hlt, fun j u hu => ?_⟩
    have hj : j < len := by
      rcases Nat.lt_or_ge j len with h1 | h1
      · exact h1
      · rw [List.getElem?_eq_none (by rw [List.length_map, List.length_range]; exact h1)] at hu; cases hu
    rw [List.getElem?_map, List.getElem?_range hj] at hu
    have hc := (h j (by omega)).1
    rw [add_none] at hc
    rw [hc]
    exact hu
  · have hi : i < len := by
      rcases Nat.lt_or_ge i len with h1 | h1
      · exact h1
      · rw [List.getElem?_eq_none (by rw [List.length_map, List.length_range]; exact h1)] at hv; cases hv
    rw [List.getElem?_map, List.getElem?_range hi] at hv hl'
    simp only [Option.map_some, Option.some.injEq] at hv hl'
    subst hv hl'
    exact ⟨_, _, _, rfl, hg i hi⟩
section
variable {H : Type} {enc : TypeId × Value → H} {W : World} {a : Option Addr} {len cap : Nat} {d : DataW H} {p : List MemPlace}
theorem open_lists (h : DataW.Trod enc Tryz.prog W 0 (fun _ => true) true 32 (.slice a len cap) d p) : ∃ ls, Lists W W.heap.size a len cap ls := by
  obtain ⟨fuel, hf⟩ := h
  rcases Go.Deep.open_int_rows Tryz.underlying32 Tryz.underlying31 Tryz.underlying5 (by kernel_rfl) (by kernel_rfl) hf with ⟨hcs, _⟩ | ⟨x, l, c, A, L, C, Z, hcs, _, hl, hm, _, hall⟩
  · simp [Value.cells] at hcs
    obtain ⟨rfl, rfl, rfl⟩ := hcs
    exact ⟨[], Lists.nil_ _ _⟩
  · simp [Value.cells] at hcs
    obtain ⟨rfl, rfl, rfl⟩ := hcs
    exact lists_of hl hm hall
end
end Go.Proofs.YtedfddnbgljcjaaGreat.Field
