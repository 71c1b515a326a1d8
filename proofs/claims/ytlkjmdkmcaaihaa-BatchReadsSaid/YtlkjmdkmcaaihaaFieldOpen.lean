/-
  How arguments are opened: a slice of bytes, a slice of fields, as the frame of a row's proof knows them, as rows in memory.
-/
import Derived.Test.YtlkjmdkmcaaihaaFieldFlds
import Derived.Test.YtlkjmdkmcaaihaaOpenBytes
import Derived.Deep.Slices
import Derived.Deep.Fields
import Derived.ChangeSame
import Derived.ChangeSlices
import Derived.OpenShut
import Derived.ProofKit
import Derived.SizedLaws
namespace Go.Proofs.Ytlkjmdkmcaaihaa.Field
set_option maxRecDepth 100000
open Go.RowKit Base FieldMath
open Go.ChangeShapes Go.WideShapes Go.Deep

section
variable {H : Type} {enc : TypeId × Value → H} {W : World} {a : Option Addr} {len cap : Nat} {d : DataW H} {p : List MemPlace}
theorem open_slice_fields {t e : TypeId} {fs : Array Field} {fuel : Nat} {cs : List Value} {x : DataW H × List MemPlace} {P : Program} {base : Nat} {spare : Nat → Bool} {held : Bool} (ht : P.underlying t = some (.slice e)) (he : P.underlying e = some (.struct fs))
    (hone : oneCellFields P fs = true) (hC : P.cellsOf e = fs.size) (h : DataW.trod enc P W base spare held fuel t cs = some x) :
    (cs = [.slice none 0 0]) ∨
    ∃ (a : Addr) (len cap m : Nat), cs = [.slice (some a) len cap] ∧ len ≤ cap ∧ cap ≤ maxLen ∧ m = (if spare a.block then cap else len) ∧
      ∀ i, i < m → ∃ n : Nat, ∀ (j : Nat) (f : Field), fs[j]? = some f → ∃ (v : Value) (y : DataW H × List MemPlace), W.cell? (a.add (i * fs.size + j)) = some v ∧ DataW.trod enc P W base spare held n f.type [v] = some y := by
  rcases open_slice ht h with ⟨h0, _⟩ | ⟨a, len, cap, m, n, D, Pl, hcs, hb, hl, hm, hmm, hx, hi⟩
  · exact .inl h0
  · refine .inr ⟨a, len, cap, m, hcs, hl, hm, hmm, fun i him => ?_⟩
    obtain ⟨cs', hc, ht'⟩ := hi i him
    rw [hC] at hc
    obtain ⟨ys, n', hn', hy, hlen, hyl, hf⟩ := DataW.trod_struct he ht'
    obtain ⟨_, hcl, hat⟩ := World.cells?_some hc
    refine ⟨n', fun j f hj => ?_⟩
    obtain ⟨ho, hk⟩ := hone_of hone j f hj
    have hjl : j < fs.size := (Array.getElem?_eq_some_iff.1 hj).1
    have hcell := hat j hjl
    have hv : cs'[j]? = some (cs'[j]'(by omega)) := List.getElem?_eq_getElem (by omega)
    have h1 := hf j f hj
    rw [ho, hk] at h1
    have hone' : (cs'.drop j).take 1 = [cs'[j]'(by omega)] := by
      rw [List.drop_eq_getElem_cons (by omega)]
      rfl
    rw [hone'] at h1
    have hys : ys[j]? = some (ys[j]'(by omega)) := List.getElem?_eq_getElem (by omega)
    refine ⟨_, _, ?_, h1.trans hys⟩
    rw [← Go.Deep.add_add, hcell, hv]

theorem open_fields (h : DataW.Trod enc Try.prog W 0 (fun _ => true) true 46 (.slice a len cap) d p) : ∃ fs, Flds W W.heap.size a len cap fs ∧ ∀ f ∈ fs, f.ok := by
  obtain ⟨fuel, hf⟩ := h
  rcases open_slice_fields Try.underlying46 Try.underlying59 (by kernel_rfl) (by kernel_rfl) hf with hcs | ⟨x, l, c, m, hcs, hl, hm, hmm, hall⟩
  · simp [Value.cells] at hcs
    obtain ⟨rfl, rfl, rfl⟩ := hcs
    exact ⟨[], Flds.nil_ _ _, fun f hf => by cases hf⟩
  · simp [Value.cells] at hcs
    obtain ⟨rfl, rfl, rfl⟩ := hcs
    have each : ∀ i, i < len → ∃ f : Fld, f.ok ∧ ∀ j, j < 3 → ∃ u, (fcells f)[j]? = some u ∧ W.cell? (x.add (i * 3 + j)) = some u := by
      intro i hi
      obtain ⟨n, hn⟩ := hall i (by rw [hmm]; simp; omega)
      obtain ⟨v0, y0, c0, t0⟩ := hn 0 _ rfl
      obtain ⟨v1, y1, c1, t1⟩ := hn 1 _ rfl
      obtain ⟨v2, y2, c2, t2⟩ := hn 2 _ rfl
      obtain ⟨k, e0, _, k0⟩ := DataW.trod_int Try.underlying3 t0
      obtain ⟨n', e1, _, k1⟩ := DataW.trod_int Try.underlying2 t1
      obtain ⟨s, e2, _, k2⟩ := DataW.trod_string Try.underlying9 t2
      simp only [List.cons.injEq, and_true] at e0 e1 e2
      subst e0 e1 e2
      have b0 := bounds_i64 k0
      have b1 := bounds_i64 k1
      unfold maxLen at k2
      refine ⟨⟨k, n', s⟩, ⟨by show _ ≤ k; omega, by show k ≤ _; omega, by show _ ≤ n'; omega, by show n' ≤ _; omega, by show s.size ≤ _; omega⟩, fun j hj => ?_⟩
      match j, hj with
      | 0, _ => exact ⟨_, rfl, c0⟩
      | 1, _ => exact ⟨_, rfl, c1⟩
      | 2, _ => exact ⟨_, rfl, c2⟩
    let g : Nat → Fld := fun i => if h : i < len then (each i h).choose else ⟨0, 0, ⟨#[]⟩⟩
    have hg : ∀ i, i < len → (g i).ok ∧ ∀ j, j < 3 → ∃ u, (fcells (g i))[j]? = some u ∧ W.cell? (x.add (i * 3 + j)) = some u := by
      intro i hi
      have := (each i hi).choose_spec
      simp only [g, dif_pos hi]
      exact this
    refine ⟨(List.range len).map g, ?_, fun f hf => ?_⟩
    · unfold maxLen at hm
      refine ⟨by rw [fv_length, List.length_map, List.length_range], hl, by omega, fun hn => ?_⟩
      obtain ⟨b, off, spot⟩ := x
      obtain ⟨u0, _, hc0⟩ := (hg 0 hn).2 0 (by omega)
      have hspot : spot = none := by simpa [Addr.add] using World.cell?_spot hc0
      subst hspot
      have hlt : b < W.heap.size := by
        have := World.block_lt_of_cell? W _ hc0
        simpa [Addr.add] using this
      refine ⟨b, off, rfl, hlt, fun j u hu => ?_⟩
      have hj : j < len * 3 := by
        have h1 : j < (fv ((List.range len).map g)).length := by
          rcases Nat.lt_or_ge j (fv ((List.range len).map g)).length with h | h
          · exact h
          · rw [List.getElem?_eq_none h] at hu; cases hu
        rwa [fv_length, List.length_map, List.length_range] at h1
      have hget : ((List.range len).map g)[j / 3]? = some (g (j / 3)) := by
        rw [List.getElem?_map, List.getElem?_range (by omega)]; rfl
      have h1 := fv_get _ _ _ hget (j % 3) (by omega)
      rw [show j / 3 * 3 + j % 3 = j by omega, hu] at h1
      obtain ⟨u', h2, h3⟩ := (hg (j / 3) (by omega)).2 (j % 3) (by omega)
      rw [h2] at h1
      injection h1 with h1
      subst h1
      rw [show j / 3 * 3 + j % 3 = j by omega, add_none] at h3
      exact h3
    · obtain ⟨i, hi, rfl⟩ := List.mem_map.1 hf
      exact (hg i (List.mem_range.1 hi)).1
end
end Go.Proofs.Ytlkjmdkmcaaihaa.Field
