/-
  How a slice of transactions is opened.
-/
import Derived.Test.YtlgdbpejefgeaaaTxMem
import Derived.Test.YtlgdbpejefgeaaaFoldMap
import Derived.Test.YtlgdbpejefgeaaaOpenFlat
namespace Go.Proofs.Ytlgdbpejefgeaaa.PTx
set_option linter.unusedVariables false
set_option maxRecDepth 100000
open Go.RowKit Base TxnMath
open PChg (Cs gcells)
open Go.ChangeShapes Go.WideShapes Go.Deep
set_option linter.ambiguousOpen false
/-- all that a datum weighs is no more than a call may reach -/
def Light {H : Type} (P : Program) (t : TypeId) (d : DataW H) : Prop := ∀ z ∈ d.weights P t, z ≤ reachBytes
theorem weights_all {H : Type} {P : Program} {e : TypeId} : ∀ {ds : List (DataW H)} {d : DataW H}, d ∈ ds → ∀ z ∈ d.weights P e, z ∈ DataW.weightsAll P e ds
  | d0 :: r, d, hd, z, hz => by
    simp only [DataW.weightsAll, List.mem_append]
    rcases List.mem_cons.1 hd with rfl | hd
    · exact .inl hz
    · exact .inr (weights_all hd z hz)
section
variable {H : Type} {enc : TypeId × Value → H} {W : World}
/-- a slice of structs of one-cell fields, with what each field's datum weighs -/
theorem open_slice_fields_w {t e : TypeId} {fs : Array Field} {fuel : Nat} {cs : List Value} {x : DataW H × List MemPlace} {P : Program} {base : Nat} {spare : Nat → Bool} {held : Bool} (ht : P.underlying t = some (.slice e)) (he : P.underlying e = some (.struct fs))
    (hone : oneCellFields P fs = true) (hC : P.cellsOf e = fs.size) (h : DataW.trod enc P W base spare held fuel t cs = some x) (hL : Light P t x.1) :
    (cs = [.slice none 0 0]) ∨
    ∃ (a : Addr) (len cap m : Nat), cs = [.slice (some a) len cap] ∧ len ≤ cap ∧ cap ≤ maxLen ∧ m = (if spare a.block then cap else len) ∧ len * P.bytesOf e ≤ reachBytes ∧
      ∀ i, i < m → ∃ n : Nat, ∀ (j : Nat) (f : Field), fs[j]? = some f → ∃ (v : Value) (y : DataW H × List MemPlace), W.cell? (a.add (i * fs.size + j)) = some v ∧ DataW.trod enc P W base spare held n f.type [v] = some y ∧ Light P f.type y.1 := by
  rcases open_slice ht h with ⟨h0, _⟩ | ⟨a, len, cap, m, n, D, Pl, hcs, hb, hl, hm, hmm, hx, hi⟩
  · exact .inl h0
  · subst hx
    have hle : len ≤ m := by rw [hmm]; split <;> omega
    refine .inr ⟨a, len, cap, m, hcs, hl, hm, hmm, ?_, fun i him => ?_⟩
    · have h1 := hL ((len + (m - len)) * P.bytesOf e) (by simp [DataW.weights, ht])
      have h2 : len * P.bytesOf e ≤ (len + (m - len)) * P.bytesOf e := Nat.mul_le_mul_right _ (Nat.le_add_right _ _)
      omega
    · have hLi : Light P e (D i) := fun z hz => hL z (by
        simp only [DataW.weights, ht, List.mem_cons, List.mem_append]
        rcases Nat.lt_or_ge i len with hil | hil
        · exact .inr (.inl (weights_all (List.mem_map.2 ⟨i, List.mem_range.2 hil, rfl⟩) z hz))
        · exact .inr (.inr (weights_all (List.mem_map.2 ⟨i - len, List.mem_range.2 (by omega), by rw [Nat.add_sub_cancel' hil]⟩) z hz)))
      obtain ⟨cs', hc, ht'⟩ := hi i him
      rw [hC] at hc
      obtain ⟨ys, n', hn', hy, hlen, hyl, hf⟩ := DataW.trod_struct he ht'
      obtain ⟨_, hcl, hat⟩ := World.cells?_some hc
      have hyD : D i = .agg (ys.map (·.1)) := (Prod.mk.inj hy).1
      refine ⟨n', fun j f hj => ?_⟩
      obtain ⟨ho, hk⟩ := hone_of hone j f hj
      have hjl : j < fs.size := (Array.getElem?_eq_some_iff.1 hj).1
      have hcell := hat j hjl
      have hv : cs'[j]? = some (cs'[j]'(by omega)) := List.getElem?_eq_getElem (by omega)
      have h1 := hf j f hj
      rw [ho, hk] at h1
      have hone' : (cs'.drop j).take 1 = [cs'[j]'(by omega)] := by
        rw [List.drop_eq_getElem_cons (by omega)]
        rfl
      rw [hone'] at h1
      have hys : ys[j]? = some (ys[j]'(by omega)) := List.getElem?_eq_getElem (by omega)
      refine ⟨_, _, ?_, h1.trans hys, fun z hz => hLi z ?_⟩
      · rw [← Go.Deep.add_add, hcell, hv]
      · rw [hyD]
        simp only [DataW.weights, he]
        exact DataW.weights_mem_each (j := j) (by rw [List.getElem?_map, Array.getElem?_toList, hj]; rfl) (by rw [List.getElem?_map, hys]; rfl) z hz
end
/-- a change as it may come in -/
def OkCh (f : Ch) : Prop := Fold.In64 f.key ∧ f.val.size ≤ 9223372036854775807
/-- a transaction as it may come in -/
def OkTx (x : Tx) : Prop := (∀ f ∈ x.chs, OkCh f) ∧ (∀ s ∈ x.sigs, s.size ≤ 9223372036854775807) ∧ x.chs.length ≤ 140737488355328
theorem in64_of {k : Int} (h : (Lit.int .i64 k).wf = true) : Fold.In64 k := by
  simp only [Lit.wf, Bool.and_eq_true, decide_eq_true_eq] at h
  exact h
theorem flat_one (l : List ByteArray) : l.flatMap (fun s : ByteArray => [Value.string s]) = l.map Value.string := by
  induction l with
  | nil => rfl
  | cons a r ih => rw [List.flatMap_cons, ih]; rfl
section
variable {H : Type} {enc : TypeId × Value → H} {W : World} {fuel : Nat} {cs : List Value} {x : DataW H × List MemPlace}
theorem chs_of (h : DataW.trod enc Try.prog W 0 (fun _ => true) true fuel 40 cs = some x) (hL : Light Try.prog 40 x.1) : ∃ A n c l, cs = [.slice A n c] ∧ Cs W W.heap.size A n c l ∧ (∀ f ∈ l, OkCh f) ∧ l.length ≤ 140737488355328 := by
  rcases open_slice_fields_w Try.underlying40 Try.underlying44 (by kernel_rfl) (by kernel_rfl) h hL with hcs | ⟨y, l, c, m, hcs, hl, hm, hmm, hby, hall⟩
  · exact ⟨none, 0, 0, [], hcs, Row.nil_ _ _ _, (fun f hf => by cases hf), by simp⟩
  · have hB : Try.prog.bytesOf 44 = 40 := by kernel_rfl
    rw [hB] at hby
    have hr := reachBytes_lt
    obtain ⟨ls, h1, hll, h3⟩ := Flat.open_flat (ec := gcells) (k := 4) (fun _ => rfl) (by omega) noCh OkCh (y := y) hl hm (fun i hi => by
      obtain ⟨n, hn⟩ := hall i (by rw [hmm]; simp; omega)
      obtain ⟨v0, y0, c0, t0, _⟩ := hn 0 _ rfl
      obtain ⟨v1, y1, c1, t1, _⟩ := hn 1 _ rfl
      obtain ⟨v2, y2, c2, t2, _⟩ := hn 2 _ rfl
      obtain ⟨v3, y3, c3, t3, _⟩ := hn 3 _ rfl
      obtain ⟨k0, e0, _, _⟩ := DataW.trod_int Try.underlying3 t0
      obtain ⟨k1, e1, _, w1⟩ := DataW.trod_int Try.underlying2 t1
      obtain ⟨k2, e2, _⟩ := DataW.trod_bool Try.underlying4 t2
      obtain ⟨s, e3, _, ws⟩ := DataW.trod_string Try.underlying9 t3
      simp only [List.cons.injEq, and_true] at e0 e1 e2 e3
      subst e0 e1 e2 e3
      refine ⟨⟨k0, k1, k2, s⟩, ⟨in64_of w1, ws⟩, fun j hj => ?_⟩
      match j, hj with
      | 0, _ => exact ⟨_, rfl, c0⟩
      | 1, _ => exact ⟨_, rfl, c1⟩
      | 2, _ => exact ⟨_, rfl, c2⟩
      | 3, _ => exact ⟨_, rfl, c3⟩)
    exact ⟨_, _, _, ls, hcs, h1, h3, by omega⟩
theorem sigs_of (h : DataW.trod enc Try.prog W 0 (fun _ => true) true fuel 34 cs = some x) : ∃ A n c l, cs = [.slice A n c] ∧ Ss W W.heap.size A n c l ∧ ∀ f ∈ l, f.size ≤ 9223372036854775807 := by
  rcases open_slice Try.underlying34 h with ⟨rfl, _⟩ | ⟨y, len, cap, m, n0, D, Pl, rfl, hb, hl, hm, hmm, hx, hi⟩
  · exact ⟨none, 0, 0, [], rfl, Row.nil_ _ _ _, fun f hf => by cases hf⟩
  · obtain ⟨ls, h1, _, h3⟩ := Flat.open_flat (ec := fun s : ByteArray => [Value.string s]) (k := 1) (fun _ => rfl) (by omega) ⟨#[]⟩ (fun s => s.size ≤ 9223372036854775807) (y := y) hl hm (fun i hil => by
      obtain ⟨cs', hc, ht⟩ := hi i (by rw [hmm]; simp; omega)
      obtain ⟨s, e, _, k⟩ := DataW.trod_string Try.underlying9 ht
      subst e
      have hC : Try.prog.cellsOf 9 = 1 := by kernel_rfl
      rw [hC] at hc
      obtain ⟨_, _, hat⟩ := World.cells?_some hc
      refine ⟨s, k, fun j hj => ?_⟩
      obtain rfl : j = 0 := by omega
      have h0 := hat 0 (by omega)
      rw [Go.Deep.add_add] at h0
      exact ⟨_, rfl, by simpa using h0⟩)
    refine ⟨_, _, _, ls, rfl, ?_, h3⟩
    rw [flat_one] at h1
    exact h1
end
section
variable {H : Type} {enc : TypeId × Value → H} {W : World} {a : Option Addr} {len cap : Nat} {d : DataW H} {p : List MemPlace}
theorem open_txns (h : DataW.Trod enc Try.prog W 0 (fun _ => true) true 22 (.slice a len cap) d p) (hL : Light Try.prog 22 d) : ∃ l, Txs W W.heap.size a len cap l ∧ (∀ x ∈ l, OkTx x) ∧ l.length ≤ 140737488355328 := by
  obtain ⟨fuel, hf⟩ := h
  rcases open_slice_fields_w Try.underlying22 Try.underlying42 (by kernel_rfl) (by kernel_rfl) hf hL with hcs | ⟨y, l, c, m, hcs, hl, hm, hmm, hby, hall⟩
  · simp [Value.cells] at hcs
    obtain ⟨rfl, rfl, rfl⟩ := hcs
    exact ⟨[], Txs.nil_ _ _, (fun x hx => by cases hx), by simp⟩
  · simp [Value.cells] at hcs
    obtain ⟨rfl, rfl, rfl⟩ := hcs
    have hB : Try.prog.bytesOf 42 = 72 := by kernel_rfl
    rw [hB] at hby
    have hr := reachBytes_lt
    classical
    have each : ∀ i, i < len → ∃ x : Tx, OkTx x ∧ ∃ b off, y = ⟨b, off, none⟩ ∧ b < W.heap.size ∧ TxAt W W.heap.size b (off + i * 5) x := by
      intro i hi
      obtain ⟨n, hn⟩ := hall i (by rw [hmm]; simp; omega)
      obtain ⟨v0, y0, c0, t0, _⟩ := hn 0 _ rfl
      obtain ⟨v1, y1, c1, t1, _⟩ := hn 1 _ rfl
      obtain ⟨v2, y2, c2, t2, g2⟩ := hn 2 _ rfl
      obtain ⟨v3, y3, c3, t3, _⟩ := hn 3 _ rfl
      obtain ⟨v4, y4, c4, t4, _⟩ := hn 4 _ rfl
      obtain ⟨k0, e0, _, _⟩ := DataW.trod_int Try.underlying2 t0
      obtain ⟨k1, e1, _, _⟩ := DataW.trod_int Try.underlying3 t1
      obtain ⟨A2, n2, d2, l2, e2, r2, o2, q2⟩ := chs_of t2 g2
      obtain ⟨A3, n3, d3, l3, e3, r3, o3⟩ := sigs_of t3
      obtain ⟨k4, e4, _, _⟩ := DataW.trod_int Try.underlying2 t4
      simp only [List.cons.injEq, and_true] at e0 e1 e2 e3 e4
      subst e0 e1 e2 e3 e4
      obtain ⟨b, off, spot⟩ := y
      obtain ⟨n', hn'⟩ := hall 0 (by rw [hmm]; simp; omega)
      obtain ⟨v5, y5, c5, _, _⟩ := hn' 0 _ rfl
      have hspot : spot = none := by simpa [Addr.add] using World.cell?_spot c5
      subst hspot
      have hlt : b < W.heap.size := by
        have := World.block_lt_of_cell? W _ c5
        simpa [Addr.add] using this
      rw [add_none] at c0 c1 c2 c3 c4
      exact ⟨⟨k0, k1, l2, l3, k4⟩, ⟨o2, o3, q2⟩, b, off, rfl, hlt, A2, n2, d2, A3, n3, d3, c0, c1, c2, c3, c4, r2, r3⟩
    let g : Nat → Tx := fun i => if h : i < len then (each i h).choose else noTx
    have hg : ∀ i, i < len → OkTx (g i) ∧ ∃ b off, y = ⟨b, off, none⟩ ∧ b < W.heap.size ∧ TxAt W W.heap.size b (off + i * 5) (g i) := by
      intro i hi
      have := (each i hi).choose_spec
      simp only [g, dif_pos hi]
      exact this
    unfold maxLen at hm
    refine ⟨(List.range len).map g, ⟨by rw [List.length_map, List.length_range], hl, by omega, fun i x hx => ?_⟩, ?_⟩
    · have hi : i < len := by have := (List.getElem?_eq_some_iff.1 hx).1; simpa using this
      rw [List.getElem?_map, List.getElem?_range hi] at hx
      simp only [Option.map_some, Option.some.injEq] at hx
      subst hx
      obtain ⟨_, b, off, e, hb, ht⟩ := hg i hi
      exact ⟨b, off, by rw [e], hb, ht⟩
    · refine ⟨fun x hx => ?_, by rw [List.length_map, List.length_range]; omega⟩
      obtain ⟨i, hi, rfl⟩ := List.mem_map.1 hx
      exact (hg i (List.mem_range.1 hi)).1
end
end Go.Proofs.Ytlgdbpejefgeaaa.PTx
