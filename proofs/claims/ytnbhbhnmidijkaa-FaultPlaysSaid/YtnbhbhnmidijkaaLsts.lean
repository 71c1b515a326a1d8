/-
  Slices of slices in memory, of no program: a slice of slices that reads as a list of data, whatever its elements read as; how one that came in is opened.
-/
import Derived.Test.YtnbhbhnmidijkaaOpenFlat
namespace Go.Proofs.Ytnbhbhnmidijkaa.Lsts
set_option maxRecDepth 100000
set_option linter.unusedVariables false
open Go.RowKit Base
open Go.ChangeShapes Go.WideShapes Go.Deep

/-- The slice value '.slice A n c' reads as the list ls, each element a slice that reads (by R) as one of them; all lies below block B. -/
def Lsts {α : Type} (R : World → Nat → Option Addr → Nat → Nat → α → Prop) (w : World) (B : Nat) (A : Option Addr) (n c : Nat) (ls : List α) : Prop :=
  ∃ vs, Row w B 1 A n c vs ∧ vs.length = ls.length ∧ ∀ (i : Nat) v l, vs[i]? = some v → ls[i]? = some l → ∃ A' n' c', v = .slice A' n' c' ∧ R w B A' n' c' l
section
variable {α : Type} {R : World → Nat → Option Addr → Nat → Nat → α → Prop} {w w' : World} {B B' n c : Nat} {A : Option Addr} {ls : List α}
theorem Lsts.len (h : Lsts R w B A n c ls) : ls.length = n := by
  obtain ⟨vs, h1, h2, _⟩ := h
  have := h1.len
  omega
theorem Lsts.le (h : Lsts R w B A n c ls) : n ≤ c ∧ c ≤ 9223372036854775807 := by
  obtain ⟨vs, h1, _⟩ := h
  exact h1.le
theorem Lsts.nil_ (w : World) (B : Nat) : Lsts R w B none 0 0 [] := ⟨[], Row.nil_ w B 1, rfl, fun i v l hv => by simp at hv⟩
theorem Lsts.below (h : Lsts R w B A n c ls) (hb : Below B w w') (hR : ∀ A n c l, R w B A n c l → R w' B A n c l) : Lsts R w' B A n c ls := by
  obtain ⟨vs, h1, h2, h3⟩ := h
  refine ⟨vs, h1.below hb, h2, fun i v l hv hl => ?_⟩
  obtain ⟨A', n', c', e, h4⟩ := h3 i v l hv hl
  exact ⟨A', n', c', e, hR _ _ _ _ h4⟩
theorem Lsts.more (h : Lsts R w B A n c ls) (hB : B ≤ B') (hR : ∀ A n c l, R w B A n c l → R w B' A n c l) : Lsts R w B' A n c ls := by
  obtain ⟨vs, h1, h2, h3⟩ := h
  refine ⟨vs, h1.more hB, h2, fun i v l hv hl => ?_⟩
  obtain ⟨A', n', c', e, h4⟩ := h3 i v l hv hl
  exact ⟨A', n', c', e, hR _ _ _ _ h4⟩
theorem Lsts.at_ (h : Lsts R w B A n c ls) {k : Nat} (hk : k < n) :
    ∃ b off A' n' c' l, A = some ⟨b, off, none⟩ ∧ b < B ∧ w.cell? ⟨b, off + k, none⟩ = some (.slice A' n' c') ∧ R w B A' n' c' l ∧ ls[k]? = some l ∧ ls.take (k + 1) = ls.take k ++ [l] := by
  have hlen := h.len
  obtain ⟨vs, h1, h2, h3⟩ := h
  obtain ⟨b, off, e, hb, hc⟩ := h1.2.2.2 (by omega)
  have hl : k < ls.length := by omega
  have hv : k < vs.length := by omega
  obtain ⟨A', n', c', e', h4⟩ := h3 k _ _ (List.getElem?_eq_getElem hv) (List.getElem?_eq_getElem hl)
  exact ⟨b, off, A', n', c', ls[k], e, hb, by rw [hc k _ (List.getElem?_eq_getElem hv), e'], h4, List.getElem?_eq_getElem hl, List.take_succ_eq_append_getElem hl⟩
theorem Lsts.row {vs : List Value} (h1 : Row w B 1 A n c vs) (h2 : vs.length = ls.length) (h3 : ∀ (i : Nat) v l, vs[i]? = some v → ls[i]? = some l → ∃ A' n' c', v = .slice A' n' c' ∧ R w B A' n' c' l) : Lsts R w B A n c ls := ⟨vs, h1, h2, h3⟩
end
section
variable {H : Type} {enc : TypeId × Value → H} {W : World} {a : Option Addr} {len cap : Nat} {d : DataW H} {p : List MemPlace}
theorem open_lsts {α : Type} (z : α) {R : World → Nat → Option Addr → Nat → Nat → α → Prop} {Q : α → Prop} {P : Program} {t e : TypeId} (ht : P.underlying t = some (.slice e)) (hC : P.cellsOf e = 1)
    (hel : ∀ n cs y, DataW.trod enc P W 0 (fun _ => true) true n e cs = some y → ∃ A n' c' l, cs = [.slice A n' c'] ∧ R W W.heap.size A n' c' l ∧ Q l)
    (h : DataW.Trod enc P W 0 (fun _ => true) true t (.slice a len cap) d p) : ∃ ls, Lsts R W W.heap.size a len cap ls ∧ ∀ l ∈ ls, Q l := by
  obtain ⟨fuel, hf⟩ := h
  rcases open_slice ht hf with ⟨hcs, _⟩ | ⟨y, len', cap', m, n0, D, Pl, hcs, hb, hl, hm, hmm, hx, hi⟩
  · simp [Value.cells] at hcs
    obtain ⟨rfl, rfl, rfl⟩ := hcs
    exact ⟨[], Lsts.nil_ _ _, fun l hl => by cases hl⟩
  · simp [Value.cells] at hcs
    obtain ⟨rfl, rfl, rfl⟩ := hcs
    have each : ∀ i, i < len → ∃ (A : Option Addr) (n' c' : Nat) (l : α), W.cell? (y.add i) = some (.slice A n' c') ∧ R W W.heap.size A n' c' l ∧ Q l := by
      intro i hil
      obtain ⟨cs', hc, ht'⟩ := hi i (by rw [hmm]; simp; omega)
      obtain ⟨A, n', c', l, e, hr, hq⟩ := hel _ _ _ ht'
      subst e
      rw [hC, Nat.mul_one] at hc
      obtain ⟨_, _, hat⟩ := World.cells?_some hc
      have h0 := hat 0 (by omega)
      rw [Go.Deep.add_add, Nat.add_zero] at h0
      exact ⟨A, n', c', l, by simpa using h0, hr, hq⟩
    let gl : Nat → α := fun i => if h : i < len then (each i h).choose_spec.choose_spec.choose_spec.choose else z
    let gv : Nat → Value := fun i => if h : i < len then .slice (each i h).choose (each i h).choose_spec.choose (each i h).choose_spec.choose_spec.choose else .slice none 0 0
    have hg : ∀ i (h : i < len), W.cell? (y.add i) = some (gv i) ∧ (∃ A' n' c', gv i = .slice A' n' c' ∧ R W W.heap.size A' n' c' (gl i)) ∧ Q (gl i) := by
      intro i h
      have := (each i h).choose_spec.choose_spec.choose_spec.choose_spec
      simp only [gl, gv, dif_pos h]
      exact ⟨this.1, ⟨_, _, _, rfl, this.2.1⟩, this.2.2⟩
    unfold maxLen at hm
    refine ⟨(List.range len).map gl, ⟨(List.range len).map gv, ⟨by rw [List.length_map, List.length_range, Nat.mul_one], hl, by omega, fun hn => ?_⟩, by rw [List.length_map, List.length_map], fun i v l hv hl' => ?_⟩, fun l hl' => ?_⟩
    · obtain ⟨b, off, spot⟩ := y
      have hc0 : ∃ u, W.cell? (Addr.add ⟨b, off, spot⟩ 0) = some u := ⟨_, (hg 0 hn).1⟩
      obtain ⟨u0, hc0⟩ := hc0
      have hspot : spot = none := by
        obtain ⟨A, n', c', l, h0, _⟩ := each 0 hn
        simpa [Addr.add] using World.cell?_spot h0
      subst hspot
      have hlt : b < W.heap.size := by
        have := World.block_lt_of_cell? W _ hc0
        simpa [Addr.add] using this
      refine ⟨b, off, rfl, hlt, fun j u hu => ?_⟩
      have hj : j < len := by
        rcases Nat.lt_or_ge j len with h | h
        · exact h
        · rw [List.getElem?_eq_none (by simpa using h)] at hu; cases hu
      rw [List.getElem?_map, List.getElem?_range hj] at hu
      simp only [Option.map_some, Option.some.injEq] at hu
      subst hu
      have h3 := (hg j hj).1
      rw [add_none] at h3
      exact h3
    · have hil : i < len := by
        rcases Nat.lt_or_ge i len with h | h
        · exact h
        · rw [List.getElem?_eq_none (by simpa using h)] at hv; cases hv
      rw [List.getElem?_map, List.getElem?_range hil] at hv hl'
      simp only [Option.map_some, Option.some.injEq] at hv hl'
      subst hv hl'
      exact (hg i hil).2.1
    · obtain ⟨i, hil, rfl⟩ := List.mem_map.1 hl'
      exact (hg i (List.mem_range.1 hil)).2.2
end
end Go.Proofs.Ytnbhbhnmidijkaa.Lsts
