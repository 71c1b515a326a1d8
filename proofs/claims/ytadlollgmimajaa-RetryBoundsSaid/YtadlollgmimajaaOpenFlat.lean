/-
  How a slice of structs without references is opened, as the frame of a row's proof knows it (of no program).
-/
import Derived.Test.YtadlollgmimajaaBase
import Derived.Deep.Slices
import Derived.Deep.Fields
import Derived.ChangeSame
import Derived.ChangeSlices
import Derived.OpenShut
import Derived.ProofKit
import Derived.SizedLaws
namespace Go.Proofs.Ytadlollgmimajaa.Flat
set_option maxRecDepth 100000
set_option linter.unusedVariables false
open Go.RowKit Base
open Go.ChangeShapes Go.WideShapes Go.Deep

section
variable {H : Type} {enc : TypeId × Value → H} {W : World} {a : Option Addr} {len cap : Nat} {d : DataW H} {p : List MemPlace}
theorem open_slice_fields {t e : TypeId} {fs : Array Field} {fuel : Nat} {cs : List Value} {x : DataW H × List MemPlace} {P : Program} {base : Nat} {spare : Nat → Bool} {held : Bool} (ht : P.underlying t = some (.slice e)) (he : P.underlying e = some (.struct fs))
    (hone : oneCellFields P fs = true) (hC : P.cellsOf e = fs.size) (h : DataW.trod enc P W base spare held fuel t cs = some x) :
    (cs = [.slice none 0 0]) ∨
    ∃ (a : Addr) (len cap m : Nat), cs = [.slice (some a) len cap] ∧ len ≤ cap ∧ cap ≤ maxLen ∧ m = (if spare a.block then cap else len) ∧
      ∀ i, i < m → ∃ n : Nat, ∀ (j : Nat) (f : Field), fs[j]? = some f → ∃ (v : Value) (y : DataW H × List MemPlace), W.cell? (a.add (i * fs.size + j)) = some v ∧ DataW.trod enc P W base spare held n f.type [v] = some y := by
  rcases open_slice ht h with ⟨h0, _⟩ | ⟨a, len, cap, m, n, D, Pl, hcs, hb, hl, hm, hmm, hx, hi⟩
  · exact .inl h0
  · refine .inr ⟨a, len, cap, m, hcs, hl, hm, hmm, fun i him => ?_⟩
    obtain ⟨cs', hc, ht'⟩ := hi i him
    rw [hC] at hc
    obtain ⟨ys, n', hn', hy, hlen, hyl, hf⟩ := DataW.trod_struct he ht'
    obtain ⟨_, hcl, hat⟩ := World.cells?_some hc
    refine ⟨n', fun j f hj => ?_⟩
    obtain ⟨ho, hk⟩ := hone_of hone j f hj
    have hjl : j < fs.size := (Array.getElem?_eq_some_iff.1 hj).1
    have hcell := hat j hjl
    have hv : cs'[j]? = some (cs'[j]'(by omega)) := List.getElem?_eq_getElem (by omega)
    have h1 := hf j f hj
    rw [ho, hk] at h1
    have hone' : (cs'.drop j).take 1 = [cs'[j]'(by omega)] := by
      rw [List.drop_eq_getElem_cons (by omega)]
      rfl
    rw [hone'] at h1
    have hys : ys[j]? = some (ys[j]'(by omega)) := List.getElem?_eq_getElem (by omega)
    refine ⟨_, _, ?_, h1.trans hys⟩
    rw [← Go.Deep.add_add, hcell, hv]


end
theorem flat_length {α : Type} {ec : α → List Value} {k : Nat} (hk : ∀ x, (ec x).length = k) (l : List α) : (l.flatMap ec).length = l.length * k := by
  induction l with
  | nil => simp
  | cons x r ih => rw [List.flatMap_cons, List.length_append, ih, hk, List.length_cons, Nat.succ_mul]; omega
theorem flat_get {α : Type} {ec : α → List Value} {k : Nat} (hk : ∀ x, (ec x).length = k) (l : List α) (i : Nat) (f : α) (h : l[i]? = some f) (j : Nat) (hj : j < k) : (l.flatMap ec)[i * k + j]? = (ec f)[j]? := by
  induction l generalizing i with
  | nil => simp at h
  | cons g l ih =>
    rw [List.flatMap_cons]
    cases i with
    | zero =>
      simp only [List.getElem?_cons_zero, Option.some.injEq] at h
      subst h
      rw [List.getElem?_append_left (by rw [hk]; omega)]
      congr 1
      omega
    | succ i =>
      rw [List.getElem?_cons_succ] at h
      rw [List.getElem?_append_right (by rw [hk, Nat.succ_mul]; omega), ← ih i h, hk]
      congr 1
      rw [Nat.succ_mul]
      omega
/-- elements, each of k cells, as one row -/
theorem open_flat {α : Type} {ec : α → List Value} {k : Nat} (hk : ∀ x, (ec x).length = k) (h0 : 0 < k) (z : α) (Q : α → Prop) {W : World} {y : Addr} {len cap : Nat} (hl : len ≤ cap) (hm : cap ≤ maxLen)
    (each : ∀ i, i < len → ∃ f : α, Q f ∧ ∀ j, j < k → ∃ u, (ec f)[j]? = some u ∧ W.cell? (y.add (i * k + j)) = some u) :
    ∃ l : List α, Row W W.heap.size k (some y) len cap (l.flatMap ec) ∧ l.length = len ∧ ∀ f ∈ l, Q f := by
  classical
  let g : Nat → α := fun i => if h : i < len then (each i h).choose else z
  have hg : ∀ i, i < len → Q (g i) ∧ ∀ j, j < k → ∃ u, (ec (g i))[j]? = some u ∧ W.cell? (y.add (i * k + j)) = some u := by
    intro i hi
    have := (each i hi).choose_spec
    simp only [g, dif_pos hi]
    exact this
  have hlen : ((List.range len).map g).length = len := by rw [List.length_map, List.length_range]
  refine ⟨(List.range len).map g, ?_, hlen, fun f hf => ?_⟩
  · unfold maxLen at hm
    refine ⟨by rw [flat_length hk, hlen], hl, by omega, fun hn => ?_⟩
    obtain ⟨b, off, spot⟩ := y
    obtain ⟨u0, _, hc0⟩ := (hg 0 hn).2 0 h0
    have hspot : spot = none := by simpa [Addr.add] using World.cell?_spot hc0
    subst hspot
    have hlt : b < W.heap.size := by
      have := World.block_lt_of_cell? W _ hc0
      simpa [Addr.add] using this
    refine ⟨b, off, rfl, hlt, fun j u hu => ?_⟩
    have hj : j < len * k := by
      have h1 := (List.getElem?_eq_some_iff.1 hu).1
      rwa [flat_length hk, hlen] at h1
    have hdiv : j / k < len := by
      rw [Nat.div_lt_iff_lt_mul h0]
      exact hj
    have hmod : j % k < k := Nat.mod_lt _ h0
    have hget : ((List.range len).map g)[j / k]? = some (g (j / k)) := by
      rw [List.getElem?_map, List.getElem?_range hdiv]; rfl
    have e : j / k * k + j % k = j := by rw [Nat.mul_comm]; exact Nat.div_add_mod j k
    have h1 := flat_get hk _ _ _ hget (j % k) hmod
    rw [e, hu] at h1
    obtain ⟨u', h2, h3⟩ := (hg (j / k) hdiv).2 (j % k) hmod
    rw [h2] at h1
    injection h1 with h1
    subst h1
    rw [e, add_none] at h3
    exact h3
  · obtain ⟨i, hi, rfl⟩ := List.mem_map.1 hf
    exact (hg i (List.mem_range.1 hi)).1
end Go.Proofs.Ytadlollgmimajaa.Flat
