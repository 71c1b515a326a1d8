/-
  How an argument that is a slice of ints is opened.
-/
import Derived.Test.YtiealiihedkniaaGreatOpenBytes
import Derived.Test.YtiealiihedkniaaGreatInts
import Derived.Test.YtiealiihedkniaaGreatDiskCode
namespace Go.Proofs.YtiealiihedkniaaGreat.Disk
set_option maxRecDepth 100000
open Go.RowKit Base
open Go.ChangeShapes Go.WideShapes Go.Deep

section
variable {H : Type} {enc : TypeId × Value → H} {W : World} {a : Option Addr} {len cap : Nat} {d : DataW H} {p : List MemPlace}
theorem ints_in {n : Nat} {v : Value} {y : DataW H × List MemPlace} (h : DataW.trod enc Tryz.prog W 0 (fun _ => true) true n 23 [v] = some y) : ∃ A nk ck ks, v = .slice A nk ck ∧ Row W W.heap.size 1 A nk ck (iv ks) ∧ ∀ k, I64 (ks.getD k 0) := by
  rcases open_ints Tryz.underlying23 Tryz.underlying3 (by kernel_rfl) h with ⟨hcs, _⟩ | ⟨x, l, c, zs, hcs, _, hl, hm, hz, hx, hcell, hwz⟩
  · simp only [List.cons.injEq, and_true] at hcs
    exact ⟨none, 0, 0, [], hcs, Row.nil_ _ _ _, fun k => ⟨by simp, by simp⟩⟩
  · simp only [List.cons.injEq, and_true] at hcs
    have hz' : zs.length = c := by simpa using hz
    unfold maxLen at hm
    refine ⟨some x, l, c, zs.take l, hcs, ⟨by rw [iv, List.length_map, List.length_take]; omega, hl, by omega, fun hn => ?_⟩, fun k => ?_⟩
    · obtain ⟨b, off, spot⟩ := x
      have hc0 := hcell 0 (by omega)
      have hspot : spot = none := by simpa [Addr.add] using World.cell?_spot hc0
      subst hspot
      have hlt : b < W.heap.size := by
        have := World.block_lt_of_cell? W _ hc0
        simpa [Addr.add] using this
      refine ⟨b, off, rfl, hlt, fun j u hu => ?_⟩
      rw [iv, List.getElem?_map, List.getElem?_take] at hu
      split at hu
      · have hjl : j < zs.length := by omega
        have hc := hcell j hjl
        rw [add_none] at hc
        rw [hc, List.getD_eq_getElem?_getD]
        rw [List.getElem?_eq_getElem hjl] at hu ⊢
        simp only [Option.map_some, Option.some.injEq] at hu
        subst hu
        rfl
      · simp at hu
    · rw [List.getD_eq_getElem?_getD, List.getElem?_take]
      split
      · rcases Nat.lt_or_ge k zs.length with h1 | h1
        · rw [List.getElem?_eq_getElem h1]
          have hb := bounds_i64 (hwz zs[k] (List.getElem_mem h1))
          exact ⟨by simp; omega, by simp; omega⟩
        · rw [List.getElem?_eq_none h1]
          exact ⟨by simp, by simp⟩
      · exact ⟨by simp, by simp⟩
theorem open_ints_row (h : DataW.Trod enc Tryz.prog W 0 (fun _ => true) true 23 (.slice a len cap) d p) : ∃ ks, Row W W.heap.size 1 a len cap (iv ks) ∧ ∀ k, I64 (ks.getD k 0) := by
  obtain ⟨fuel, hf⟩ := h
  obtain ⟨A, nk, ck, ks, e, h1, h2⟩ := ints_in (v := .slice a len cap) (by simpa [Value.cells] using hf)
  simp only [Value.slice.injEq] at e
  obtain ⟨rfl, rfl, rfl⟩ := e
  exact ⟨ks, h1, h2⟩
end
end Go.Proofs.YtiealiihedkniaaGreat.Disk
