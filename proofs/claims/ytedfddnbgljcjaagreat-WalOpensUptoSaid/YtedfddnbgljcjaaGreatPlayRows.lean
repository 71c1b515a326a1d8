/-
  How a slice of structs that came in is opened, with the second form's bound on the places of each field.
-/
import Derived.Test.YtedfddnbgljcjaaGreatOpenBytes
import Derived.Test.YtedfddnbgljcjaaGreatBulk
import Derived.Test.YtedfddnbgljcjaaGreatDiskCode
import Derived.Test.YtedfddnbgljcjaaGreatInts
namespace Go.Proofs.YtedfddnbgljcjaaGreat.Play
set_option maxRecDepth 100000
set_option linter.ambiguousOpen false
open Go.RowKit Base DiskMath Disk Field
open Go.ChangeShapes Go.WideShapes Go.Deep

section
variable {H : Type} {enc : TypeId × Value → H} {W : World} {a : Option Addr} {len cap : Nat} {d : DataW H} {p : List MemPlace}
theorem bytes_in {n : Nat} {v : Value} {y : DataW H × List MemPlace} (h : DataW.trod enc Tryz.prog W 0 (fun _ => true) true n 31 [v] = some y) (hk : Rows.uptoBulk y.1 ≤ 1048576) : ∃ A nb cb l, v = .slice A nb cb ∧ Bytes W W.heap.size A nb cb l ∧ nb ≤ 1048576 := by
  rcases open_ints Tryz.underlying31 Tryz.underlying5 (by kernel_rfl) h with ⟨hcs, _⟩ | ⟨x, l, c, zs, hcs, _, hl, hm, hz, hx, hcell, hwz⟩
  · simp only [List.cons.injEq, and_true] at hcs
    exact ⟨none, 0, 0, [], hcs, Bytes.nil_ _ _, by omega⟩
  · simp only [List.cons.injEq, and_true] at hcs
    refine ⟨some x, l, c, _, hcs, Field.bytes_of hl hm (by simpa using hz) hcell hwz, ?_⟩
    rw [hx] at hk
    simp only [Rows.uptoBulk] at hk
    have h2 := Bulk.len (H := H) (lits IntKind.u8 (zs.take l))
    have h3 : (lits (H := H) IntKind.u8 (zs.take l)).length = min l zs.length := by simp [lits]
    have hz' : zs.length = c := by simpa using hz
    omega
theorem ints_in {n : Nat} {v : Value} {y : DataW H × List MemPlace} (h : DataW.trod enc Tryz.prog W 0 (fun _ => true) true n 81 [v] = some y) : ∃ A nk ck ks, v = .slice A nk ck ∧ Row W W.heap.size 1 A nk ck (iv ks) ∧ ∀ k, I64 (ks.getD k 0) := by
  rcases open_ints Tryz.underlying81 Tryz.underlying3 (by kernel_rfl) h with ⟨hcs, _⟩ | ⟨x, l, c, zs, hcs, _, hl, hm, hz, hx, hcell, hwz⟩
  · simp only [List.cons.injEq, and_true] at hcs
    exact ⟨none, 0, 0, [], hcs, Row.nil_ _ _ _, fun k => ⟨by simp, by simp⟩⟩
  · simp only [List.cons.injEq, and_true] at hcs
    have hz' : zs.length = c := by simpa using hz
    unfold maxLen at hm
    refine ⟨some x, l, c, zs.take l, hcs, ⟨by rw [iv, List.length_map, List.length_take]; omega, hl, by omega, fun hn => ?_⟩, fun k => ?_⟩
    · obtain ⟨b, off, spot⟩ := x
      have hc0 := hcell 0 (by omega)
      have hspot : spot = none := by simpa [Addr.add] using World.cell?_spot hc0
      subst hspot
      have hlt : b < W.heap.size := by
        have := World.block_lt_of_cell? W _ hc0
        simpa [Addr.add] using this
      refine ⟨b, off, rfl, hlt, fun j u hu => ?_⟩
      rw [iv, List.getElem?_map, List.getElem?_take] at hu
      split at hu
      · have hjl : j < zs.length := by omega
        have hc := hcell j hjl
        rw [add_none] at hc
        rw [hc, List.getD_eq_getElem?_getD]
        rw [List.getElem?_eq_getElem hjl] at hu ⊢
        simp only [Option.map_some, Option.some.injEq] at hu
        subst hu
        rfl
      · simp at hu
    · rw [List.getD_eq_getElem?_getD, List.getElem?_take]
      split
      · rcases Nat.lt_or_ge k zs.length with h1 | h1
        · rw [List.getElem?_eq_getElem h1]
          have hb := bounds_i64 (hwz zs[k] (List.getElem_mem h1))
          exact ⟨by simp; omega, by simp; omega⟩
        · rw [List.getElem?_eq_none h1]
          exact ⟨by simp, by simp⟩
      · exact ⟨by simp, by simp⟩

theorem open_rows {t e : TypeId} {fs : Array Field} {fuel : Nat} {cs : List Value} {x : DataW H × List MemPlace} {P : Program} {base : Nat} {spare : Nat → Bool} {held : Bool} (ht : P.underlying t = some (.slice e)) (he : P.underlying e = some (.struct fs))
    (hone : oneCellFields P fs = true) (hC : P.cellsOf e = fs.size) (h : DataW.trod enc P W base spare held fuel t cs = some x) :
    (cs = [.slice none 0 0]) ∨
    ∃ (a : Addr) (len cap : Nat), cs = [.slice (some a) len cap] ∧ len ≤ cap ∧ cap ≤ maxLen ∧
      ∀ i, i < len → ∃ n : Nat, ∀ (j : Nat) (f : Field), fs[j]? = some f → ∃ (v : Value) (y : DataW H × List MemPlace), W.cell? (a.add (i * fs.size + j)) = some v ∧ DataW.trod enc P W base spare held n f.type [v] = some y ∧ Rows.uptoBulk y.1 ≤ Rows.uptoBulk x.1 := by
  rcases open_slice ht h with ⟨h0, _⟩ | ⟨a, len, cap, m, n, D, Pl, hcs, hb, hl, hm, hmm, hx, hi⟩
  · exact .inl h0
  · refine .inr ⟨a, len, cap, hcs, hl, hm, fun i him => ?_⟩
    have hml : len ≤ m := by rw [hmm]; split <;> omega
    obtain ⟨cs', hc, ht'⟩ := hi i (by omega)
    rw [hC] at hc
    obtain ⟨ys, n', hn', hy, hlen, hyl, hf⟩ := DataW.trod_struct he ht'
    obtain ⟨_, hcl, hat⟩ := World.cells?_some hc
    refine ⟨n', fun j f hj => ?_⟩
    obtain ⟨ho, hk⟩ := hone_of hone j f hj
    have hjl : j < fs.size := (Array.getElem?_eq_some_iff.1 hj).1
    have hcell := hat j hjl
    have hv : cs'[j]? = some (cs'[j]'(by omega)) := List.getElem?_eq_getElem (by omega)
    have h1 := hf j f hj
    rw [ho, hk] at h1
    have hone' : (cs'.drop j).take 1 = [cs'[j]'(by omega)] := by
      rw [List.drop_eq_getElem_cons (by omega)]
      rfl
    rw [hone'] at h1
    have hys : ys[j]? = some (ys[j]'(by omega)) := List.getElem?_eq_getElem (by omega)
    refine ⟨_, _, ?_, h1.trans hys, ?_⟩
    · rw [← Go.Deep.add_add, hcell, hv]
    · have e1 : D i = .agg (ys.map (·.1)) := by rw [Prod.mk.injEq] at hy; exact hy.1
      have e2 : Rows.uptoBulk (ys[j]'(by omega)).1 ≤ Rows.uptoBulkAll (ys.map (·.1)) := Bulk.mem (List.mem_map.2 ⟨_, List.getElem_mem (by omega), rfl⟩)
      have e3 : Rows.uptoBulk (D i) ≤ Rows.uptoBulkAll ((List.range len).map D) := Bulk.mem (List.mem_map.2 ⟨i, List.mem_range.2 him, rfl⟩)
      rw [e1] at e3
      rw [hx]
      simp only [Rows.uptoBulk] at e3 ⊢
      omega

end
end Go.Proofs.YtedfddnbgljcjaaGreat.Play
