/-
  How arguments are opened: a transaction, a change, as the frame of a row's proof knows them.
-/
import Derived.Test.YtjicdnknlfpajaaFieldOpen
import Derived.Test.YtjicdnknlfpajaaTxnHelp
import Derived.Test.YtjicdnknlfpajaaTxnMade
namespace Go.Proofs.Ytjicdnknlfpajaa.Txn
set_option linter.unusedVariables false
set_option maxRecDepth 100000
open Go.RowKit Base FieldMath TxnMath
open Go.ChangeShapes Go.WideShapes Go.Deep
set_option linter.ambiguousOpen false

section
variable {H : Type} {enc : TypeId × Value → H} {W : World} {fuel : Nat} {cs : List Value} {x : DataW H × List MemPlace}
theorem chs_of (h : DataW.trod enc Try.prog W 0 (fun _ => true) true fuel 22 cs = some x) : ∃ A n c l, cs = [.slice A n c] ∧ Chs W W.heap.size A n c l ∧ ∀ f ∈ l, f.val.size ≤ 9223372036854775807 := by
  rcases Field.open_slice_fields Try.underlying22 Try.underlying27 (by kernel_rfl) (by kernel_rfl) h with rfl | ⟨y, len, cap, m, rfl, hl, hm, hmm, hall⟩
  · exact ⟨none, 0, 0, [], rfl, Row.nil_ _ _ _, fun f hf => by cases hf⟩
  · have each : ∀ i, i < len → ∃ f : Ch, f.val.size ≤ 9223372036854775807 ∧ ∀ j, j < 4 → ∃ u, (ccells f)[j]? = some u ∧ W.cell? (y.add (i * 4 + j)) = some u := by
      intro i hi
      obtain ⟨n, hn⟩ := hall i (by rw [hmm]; simp; omega)
      obtain ⟨v0, y0, c0, t0⟩ := hn 0 _ rfl
      obtain ⟨v1, y1, c1, t1⟩ := hn 1 _ rfl
      obtain ⟨v2, y2, c2, t2⟩ := hn 2 _ rfl
      obtain ⟨v3, y3, c3, t3⟩ := hn 3 _ rfl
      obtain ⟨k, e0, _, _⟩ := DataW.trod_int Try.underlying3 t0
      obtain ⟨n', e1, _, _⟩ := DataW.trod_int Try.underlying2 t1
      obtain ⟨g, e2, _⟩ := DataW.trod_bool Try.underlying4 t2
      obtain ⟨s, e3, _, k3⟩ := DataW.trod_string Try.underlying9 t3
      simp only [List.cons.injEq, and_true] at e0 e1 e2 e3
      subst e0 e1 e2 e3
      unfold maxLen at k3
      refine ⟨⟨k, n', g, s⟩, by show s.size ≤ _; omega, fun j hj => ?_⟩
      match j, hj with
      | 0, _ => exact ⟨_, rfl, c0⟩
      | 1, _ => exact ⟨_, rfl, c1⟩
      | 2, _ => exact ⟨_, rfl, c2⟩
      | 3, _ => exact ⟨_, rfl, c3⟩
    let g : Nat → Ch := fun i => if h : i < len then (each i h).choose else noCh
    have hg : ∀ i, i < len → (g i).val.size ≤ 9223372036854775807 ∧ ∀ j, j < 4 → ∃ u, (ccells (g i))[j]? = some u ∧ W.cell? (y.add (i * 4 + j)) = some u := by
      intro i hi
      have := (each i hi).choose_spec
      simp only [g, dif_pos hi]
      exact this
    refine ⟨some y, len, cap, (List.range len).map g, rfl, ?_, fun f hf => ?_⟩
    · unfold maxLen at hm
      refine ⟨by rw [cv_length, List.length_map, List.length_range], hl, by omega, fun hn => ?_⟩
      obtain ⟨b, off, spot⟩ := y
      obtain ⟨u0, _, hc0⟩ := (hg 0 hn).2 0 (by omega)
      have hspot : spot = none := by simpa [Addr.add] using World.cell?_spot hc0
      subst hspot
      have hlt : b < W.heap.size := by
        have := World.block_lt_of_cell? W _ hc0
        simpa [Addr.add] using this
      refine ⟨b, off, rfl, hlt, fun j u hu => ?_⟩
      have hj : j < len * 4 := by
        have h1 : j < (cv ((List.range len).map g)).length := by
          rcases Nat.lt_or_ge j (cv ((List.range len).map g)).length with h | h
          · exact h
          · rw [List.getElem?_eq_none h] at hu; cases hu
        rwa [cv_length, List.length_map, List.length_range] at h1
      have hget : ((List.range len).map g)[j / 4]? = some (g (j / 4)) := by
        rw [List.getElem?_map, List.getElem?_range (by omega)]; rfl
      have h1 := cv_get _ _ _ hget (j % 4) (by omega)
      rw [show j / 4 * 4 + j % 4 = j by omega, hu] at h1
      obtain ⟨u', h2, h3⟩ := (hg (j / 4) (by omega)).2 (j % 4) (by omega)
      rw [h2] at h1
      injection h1 with h1
      subst h1
      rw [show j / 4 * 4 + j % 4 = j by omega, add_none] at h3
      exact h3
    · obtain ⟨i, hi, rfl⟩ := List.mem_map.1 hf
      exact (hg i (List.mem_range.1 hi)).1
theorem sigs_of (h : DataW.trod enc Try.prog W 0 (fun _ => true) true fuel 23 cs = some x) : ∃ A n c l, cs = [.slice A n c] ∧ Sigs W W.heap.size A n c l ∧ ∀ f ∈ l, f.size ≤ 9223372036854775807 := by
  rcases open_slice Try.underlying23 h with ⟨rfl, _⟩ | ⟨y, len, cap, m, n0, D, Pl, rfl, hb, hl, hm, hmm, hx, hi⟩
  · exact ⟨none, 0, 0, [], rfl, Row.nil_ _ _ _, fun f hf => by cases hf⟩
  · have each : ∀ i, i < len → ∃ s : ByteArray, s.size ≤ 9223372036854775807 ∧ W.cell? (y.add i) = some (.string s) := by
      intro i hil
      obtain ⟨cs', hc, ht⟩ := hi i (by rw [hmm]; simp; omega)
      obtain ⟨s, e, _, k⟩ := DataW.trod_string Try.underlying9 ht
      subst e
      rw [show Try.prog.cellsOf 9 = 1 by kernel_rfl, Nat.mul_one] at hc
      obtain ⟨_, _, hat⟩ := World.cells?_some hc
      have h0 := hat 0 (by omega)
      unfold maxLen at k
      rw [Go.Deep.add_add, Nat.add_zero] at h0
      refine ⟨s, by omega, ?_⟩
      simpa using h0
    let g : Nat → ByteArray := fun i => if h : i < len then (each i h).choose else ⟨#[]⟩
    have hg : ∀ i, i < len → (g i).size ≤ 9223372036854775807 ∧ W.cell? (y.add i) = some (.string (g i)) := by
      intro i hil
      have := (each i hil).choose_spec
      simp only [g, dif_pos hil]
      exact this
    refine ⟨some y, len, cap, (List.range len).map g, rfl, ?_, fun f hf => ?_⟩
    · unfold maxLen at hm
      refine ⟨by rw [sv, List.length_map, List.length_map, List.length_range]; omega, hl, by omega, fun hn => ?_⟩
      obtain ⟨b, off, spot⟩ := y
      have hc0 := (hg 0 hn).2
      have hspot : spot = none := by simpa [Addr.add] using World.cell?_spot hc0
      subst hspot
      have hlt : b < W.heap.size := by
        have := World.block_lt_of_cell? W _ hc0
        simpa [Addr.add] using this
      refine ⟨b, off, rfl, hlt, fun j u hu => ?_⟩
      rw [sv, List.getElem?_map, List.getElem?_map] at hu
      have hj : j < len := by
        rcases Nat.lt_or_ge j len with h | h
        · exact h
        · rw [List.getElem?_eq_none (by simpa using h)] at hu; cases hu
      rw [List.getElem?_range hj] at hu
      simp only [Option.map_some, Option.some.injEq] at hu
      subst hu
      have h3 := (hg j hj).2
      rw [add_none] at h3
      exact h3
    · obtain ⟨i, hil, rfl⟩ := List.mem_map.1 hf
      exact (hg i (List.mem_range.1 hil)).1
variable {v : Value} {d : DataW H} {p : List MemPlace} {b0 : Nat}
/-- a transaction that came in -/
theorem open_txn (hv : Value.okWide Try.prog W .any b0 25 v) (h : DataW.Trod enc Try.prog W 0 (fun _ => true) true 25 v d p) : ∃ t, TxIn W W.heap.size t v ∧ OkTx t := by
  obtain ⟨vals, rfl, hsz⟩ := okWide_struct Try.underlying25 hv
  obtain ⟨l⟩ := vals
  have h5 : l.length = 5 := hsz.trans (by kernel_rfl)
  obtain ⟨fl, hfl⟩ := h
  obtain ⟨ys, n, _, _, _, hlen, hg⟩ := DataW.trod_struct Try.underlying25 hfl
  match l, h5 with
  | [c0, c1, c2, c3, c4], _ =>
    match ys, hlen with
    | [z0, z1, z2, z3, z4], _ =>
      have a0 : DataW.trod enc Try.prog W 0 (fun _ => true) true n 2 [c0] = some z0 := hg 0 _ rfl
      have a1 : DataW.trod enc Try.prog W 0 (fun _ => true) true n 3 [c1] = some z1 := hg 1 _ rfl
      have a2 : DataW.trod enc Try.prog W 0 (fun _ => true) true n 22 [c2] = some z2 := hg 2 _ rfl
      have a3 : DataW.trod enc Try.prog W 0 (fun _ => true) true n 23 [c3] = some z3 := hg 3 _ rfl
      have a4 : DataW.trod enc Try.prog W 0 (fun _ => true) true n 2 [c4] = some z4 := hg 4 _ rfl
      obtain ⟨i0, e0, _, _⟩ := DataW.trod_int Try.underlying2 a0
      obtain ⟨i1, e1, _, _⟩ := DataW.trod_int Try.underlying3 a1
      obtain ⟨A, n2, cap2, l2, e2, h2, o2⟩ := chs_of a2
      obtain ⟨A', n3, cap3, l3, e3, h3, o3⟩ := sigs_of a3
      obtain ⟨i4, e4, _, _⟩ := DataW.trod_int Try.underlying2 a4
      simp only [List.cons.injEq, and_true] at e0 e1 e2 e3 e4
      subst e0 e1 e2 e3 e4
      exact ⟨⟨i0, i1, l2, l3, i4⟩, ⟨A, n2, cap2, A', n3, cap3, rfl, h2, h3⟩, o2, o3⟩
/-- a change that came in -/
theorem open_change (hv : Value.okWide Try.prog W .any b0 27 v) (h : DataW.Trod enc Try.prog W 0 (fun _ => true) true 27 v d p) : ∃ f : Ch, v = chv f := by
  obtain ⟨vals, rfl, hsz⟩ := okWide_struct Try.underlying27 hv
  obtain ⟨l⟩ := vals
  have h5 : l.length = 4 := hsz.trans (by kernel_rfl)
  obtain ⟨fl, hfl⟩ := h
  obtain ⟨ys, n, _, _, _, hlen, hg⟩ := DataW.trod_struct Try.underlying27 hfl
  match l, h5 with
  | [c0, c1, c2, c3], _ =>
    match ys, hlen with
    | [z0, z1, z2, z3], _ =>
      have a0 : DataW.trod enc Try.prog W 0 (fun _ => true) true n 3 [c0] = some z0 := hg 0 _ rfl
      have a1 : DataW.trod enc Try.prog W 0 (fun _ => true) true n 2 [c1] = some z1 := hg 1 _ rfl
      have a2 : DataW.trod enc Try.prog W 0 (fun _ => true) true n 4 [c2] = some z2 := hg 2 _ rfl
      have a3 : DataW.trod enc Try.prog W 0 (fun _ => true) true n 9 [c3] = some z3 := hg 3 _ rfl
      obtain ⟨i0, e0, _, _⟩ := DataW.trod_int Try.underlying3 a0
      obtain ⟨i1, e1, _, _⟩ := DataW.trod_int Try.underlying2 a1
      obtain ⟨g, e2, _⟩ := DataW.trod_bool Try.underlying4 a2
      obtain ⟨s, e3, _, _⟩ := DataW.trod_string Try.underlying9 a3
      simp only [List.cons.injEq, and_true] at e0 e1 e2 e3
      subst e0 e1 e2 e3
      exact ⟨⟨i0, i1, g, s⟩, rfl⟩
end
end Go.Proofs.Ytjicdnknlfpajaa.Txn
