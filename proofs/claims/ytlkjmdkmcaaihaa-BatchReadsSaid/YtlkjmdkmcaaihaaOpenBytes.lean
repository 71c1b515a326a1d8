/-
  How an argument that is a slice of bytes is opened: as the frame of a row's proof knows it, as a row in memory.
-/
import Derived.Test.YtlkjmdkmcaaihaaRows
import Derived.Test.YtlkjmdkmcaaihaaBase
import Derived.Deep.Slices
import Derived.Deep.Fields
import Derived.ChangeSame
import Derived.ChangeSlices
import Derived.OpenShut
import Derived.ProofKit
import Derived.SizedLaws
namespace Go.Proofs.Ytlkjmdkmcaaihaa.Field
set_option maxRecDepth 100000
open Go.RowKit Base
open Go.ChangeShapes Go.WideShapes Go.Deep

theorem byte_of {z : Int} (h : (Lit.int .u8 z).wf = true) : z = ((UInt8.ofNat z.toNat).toNat : Nat) := by
  have hb := bounds_u8 h
  rw [UInt8.toNat_ofNat']
  show z = ((z.toNat % 256 : Nat) : Int)
  omega
section
variable {H : Type} {enc : TypeId × Value → H} {W : World} {a : Option Addr} {len cap : Nat} {d : DataW H} {p : List MemPlace}
theorem bytes_of {x : Addr} {zs : List Int} (hl : len ≤ cap) (hm : cap ≤ maxLen) (hz : zs.length = cap) (hcell : ∀ i, i < zs.length → W.cell? (x.add i) = some (.int .u8 (zs.getD i 0))) (hwz : ∀ n ∈ zs, (Lit.int .u8 n).wf = true) :
    Bytes W W.heap.size (some x) len cap ((zs.take len).map fun n => UInt8.ofNat n.toNat) := by
  unfold maxLen at hm
  refine ⟨by rw [bv_length, List.length_map, List.length_take]; omega, hl, by omega, fun hn => ?_⟩
  obtain ⟨b, off, spot⟩ := x
  have hc0 := hcell 0 (by omega)
  have hspot : spot = none := by simpa [Addr.add] using World.cell?_spot hc0
  subst hspot
  have hlt : b < W.heap.size := by
    have := World.block_lt_of_cell? W _ hc0
    simpa [Addr.add] using this
  refine ⟨b, off, rfl, hlt, fun j u hu => ?_⟩
  rw [bv, List.getElem?_map, List.getElem?_map, List.getElem?_take] at hu
  split at hu
  · rename_i hj
    have hjl : j < zs.length := by omega
    have hc := hcell j hjl
    rw [add_none] at hc
    rw [hc, List.getD_eq_getElem?_getD]
    rw [List.getElem?_eq_getElem hjl] at hu ⊢
    have hb := bounds_u8 (hwz zs[j] (List.getElem_mem hjl))
    simp only [Option.map_some, Option.some.injEq] at hu
    subst hu
    simp only [Option.getD_some, Option.some.injEq, Value.int.injEq, true_and]
    rw [UInt8.toNat_ofNat']
    show zs[j] = ((zs[j].toNat % 256 : Nat) : Int)
    omega
  · simp at hu
theorem open_bytes (h : DataW.Trod enc Try.prog W 0 (fun _ => true) true 35 (.slice a len cap) d p) : ∃ l, Bytes W W.heap.size a len cap l := by
  obtain ⟨fuel, hf⟩ := h
  rcases open_ints Try.underlying35 Try.underlying5 (by kernel_rfl) hf with ⟨hcs, _⟩ | ⟨x, l, c, zs, hcs, _, hl, hm, hz, _, hcell, hwz⟩
  · simp [Value.cells] at hcs
    obtain ⟨rfl, rfl, rfl⟩ := hcs
    exact ⟨[], Bytes.nil_ _ _⟩
  · simp [Value.cells] at hcs
    obtain ⟨rfl, rfl, rfl⟩ := hcs
    exact ⟨_, bytes_of hl hm (by simpa using hz) hcell hwz⟩
theorem bytes_u8 : Try.prog.bytesOf 5 = 1 := by kernel_rfl
/-- the same, with the form's own reach -/
theorem open_bytes_sized (h : DataW.Trod enc Try.prog W 0 (fun _ => true) true 35 (.slice a len cap) d p) (hs : ∀ e s, d = .slice e s → (e.length + s.length) * Try.prog.bytesOf 5 ≤ reachBytes) : ∃ l, Bytes W W.heap.size a len cap l ∧ len ≤ 140737488351232 := by
  obtain ⟨fuel, hf⟩ := h
  rcases open_ints Try.underlying35 Try.underlying5 (by kernel_rfl) hf with ⟨hcs, _⟩ | ⟨x, l, c, zs, hcs, _, hl, hm, hz, hx, hcell, hwz⟩
  · simp [Value.cells] at hcs
    obtain ⟨rfl, rfl, rfl⟩ := hcs
    exact ⟨[], Bytes.nil_ _ _, by omega⟩
  · simp [Value.cells] at hcs
    obtain ⟨rfl, rfl, rfl⟩ := hcs
    refine ⟨_, bytes_of hl hm (by simpa using hz) hcell hwz, ?_⟩
    simp only [Prod.mk.injEq] at hx
    have := hs _ _ hx.1
    have hz' : zs.length = cap := by simpa using hz
    rw [bytes_u8, Nat.mul_one] at this
    simp only [lits, List.length_map, List.length_take, List.length_drop, reachBytes] at this
    omega
end
end Go.Proofs.Ytlkjmdkmcaaihaa.Field
