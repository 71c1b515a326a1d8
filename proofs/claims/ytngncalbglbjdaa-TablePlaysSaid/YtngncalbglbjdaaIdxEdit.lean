/-
  The contract of slices.Delete at rows of a table in a block of the call's own, where one of them is taken away.
-/
import Derived.Test.YtngncalbglbjdaaIdxSwap
import Derived.Deep.RegionLaw
import Derived.Laws.IdiomCopy
namespace Go.Proofs.Ytngncalbglbjdaa.Idx
set_option linter.unusedVariables false
set_option maxRecDepth 100000
open Go.RowKit Base IdxMath
open Go.Sort (grow)
set_option linter.ambiguousOpen false
set_option linter.unusedSimpArgs false

theorem setMany_blk {b : Nat} {t : TypeId} : ∀ (vs : List Value) (o : Nat) (w : World) (cs : Array Value), Blk w b t cs → o + vs.length ≤ cs.size → ∃ cs', Blk (w.setCells b o vs) b t cs' ∧ cs'.toList = cs.toList.take o ++ vs ++ cs.toList.drop (o + vs.length)
  | [], o, w, cs, h, _ => ⟨cs, h, by simp⟩
  | v :: r, o, w, cs, h, hl => by
    rw [List.length_cons] at hl
    obtain ⟨cs', h1, h2⟩ := setMany_blk r (o + 1) _ _ (h.set_ o v) (by rw [Array.size_setIfInBounds]; omega)
    refine ⟨cs', h1, ?_⟩
    rw [h2, Array.toList_setIfInBounds, List.length_cons]
    have hlen : o < cs.toList.length := by rw [Array.length_toList]; omega
    rw [List.set_eq_take_append_cons_drop, if_pos hlen]
    have hto : (cs.toList.take o).length = o := by rw [List.length_take]; omega
    rw [List.take_append, List.take_of_length_le (l := cs.toList.take o) (by omega), hto, show o + 1 - o = 1 by omega, List.take_succ_cons, List.take_zero, List.drop_append, List.drop_of_length_le (l := cs.toList.take o) (by omega), hto, show o + 1 + r.length - o = r.length + 1 by omega, List.drop_succ_cons, List.drop_drop, List.nil_append, show o + 1 + r.length = o + (r.length + 1) by omega]
    simp
theorem setMany_grown (b : Nat) : ∀ (vs : List Value) (o : Nat) (w : World), w.grownBy (w.setCells b o vs) (some b)
  | [], _, w => World.grownBy.refl _ _
  | v :: r, o, w => by
    have h := setMany_grown b r (o + 1) (w.setCell ⟨b, o, none⟩ v)
    refine ⟨h.os, h.tape, h.output, by have := h.size; rw [World.size_setCell] at this; exact this, fun i hi hne => ?_⟩
    exact (h.block i (by simpa using hi) hne).trans (Below.heap_setCell w ⟨b, o, none⟩ v i fun e => hne (by rw [e]))
/-- cells laid into the block, from its o-th on -/
theorem lay_cells {w : World} {b o : Nat} {t : TypeId} {cs : Array Value} {vs : List Value} (h : Blk w b t cs) (hl : o + vs.length ≤ cs.size) :
    ∃ cs', Blk (w.setCells b o vs) b t cs' ∧ cs'.size = cs.size ∧ cs'.toList = cs.toList.take o ++ vs ++ cs.toList.drop (o + vs.length) := by
  obtain ⟨cs', h1, h2⟩ := setMany_blk vs o w cs h hl
  refine ⟨cs', h1, ?_, h2⟩
  rw [← Array.length_toList, h2, List.length_append, List.length_append, List.length_take, List.length_drop, Array.length_toList]
  omega

def zrow : Array Value := #[.int .i64 0, .string ⟨#[]⟩]
theorem zero_rows (m : Nat) : (Builtin.zeroCells (Value.agg zrow).cells m).toList = rv (List.replicate m noRw) := by
  have hc : (Value.agg zrow).cells = zrow := by simp [Value.cells, zrow]
  rw [hc]
  induction m with
  | zero => simp [Builtin.zeroCells, rv]
  | succ m ih =>
    have e : Builtin.zeroCells zrow (m + 1) = Builtin.zeroCells zrow m ++ zrow := by
      unfold Builtin.zeroCells
      have hz : zrow.size = 2 := rfl
      rw [hz, show (m + 1) * 2 = m * 2 + 1 + 1 by omega, Array.range_succ, Array.range_succ]
      simp only [Array.map_append, Array.append_assoc]
      congr 1
      have h0 : m * 2 % 2 = 0 := by omega
      have h1 : (m * 2 + 1) % 2 = 1 := by omega
      simp only [Array.map, Array.append_singleton]
      simp [h0, h1, zrow]
    rw [e, Array.toList_append, ih, List.replicate_succ', rv_append]
    rfl
theorem run_clear_rows (w : World) (ty : TypeId) (b o m c : Nat) (hc : ∀ j, j < m * 2 → (w.cell? ⟨b, o + j, none⟩).isSome = true) (hf : ∀ j, j < m * 2 → w.frozen? ⟨b, o + j, none⟩ = false) :
    (Builtin.clear_ #[38] ty #[.slice (some ⟨b, o, none⟩) m c]).run Try.prog w = .ok (.tuple #[]) (w.setCells b o (rv (List.replicate m noRw))) := by
  have hv : ∀ w, (zeroValue 37).run Try.prog w = .ok (.agg zrow) w := Try.zeroValue37
  cases m with
  | zero => simp [Builtin.clear_, run_underlying Try.underlying38, rv, World.setCells]
  | succ m =>
    have hzc : (Builtin.zeroCells (Value.agg zrow).cells (m + 1)).toList = rv (List.replicate (m + 1) noRw) := zero_rows (m + 1)
    have hst := run_storeCells_cells (P := Try.prog) b o (rv (List.replicate (m + 1) noRw)) 0 w (by simpa [rv_length] using hc) (by simpa [rv_length] using hf) (rv_one _)
    simp only [Nat.add_zero] at hst
    simp [Builtin.clear_, run_underlying Try.underlying38, hv, hzc, hst]

set_option maxHeartbeats 1600000 in
theorem delete_any (b c : Nat) (l : List Rw) (i n : Nat) (w : World) (h : Arr w b c l) (hn : l.length = n + 1) (hi : i ≤ n) :
    Calls Try.prog 58 #[.slice (some ⟨b, 0, none⟩) (n + 1) c, .int .i64 i, .int .i64 ((i : Int) + 1)] w fun e w' => e = .returned (.slice (some ⟨b, 0, none⟩) n c) ∧ Arr w' b c (l.eraseIdx i) ∧ w.grownBy w' (some b) := by
  have hle := h.le
  rw [hn] at hle
  have hA := h
  obtain ⟨cur, hB, h2, h3, hcs, htake⟩ := h
  rw [hn] at h2 htake
  have hB : Blk w.drew b 37 cur := hB
  have hfl : (rv (l.drop (i + 1))).length = (n - i) * 2 := by rw [rv_length, List.length_drop]; omega
  have S1 : Hid ((rv (l.drop (i + 1))).length = (n - i) * 2) := hfl
  have S2 := Lib.hid (rv_one (l.drop (i + 1)))
  have hsrc : Hid (∀ j u, (rv (l.drop (i + 1)))[j]? = some u → w.drew.cell? ⟨b, (i + 1) * 2 + j, none⟩ = some u) := fun j u hu => by
    have hj : j < (n - i) * 2 := by rw [← hfl]; exact (List.getElem?_eq_some_iff.1 hu).1
    rw [← rv_drop, List.getElem?_drop] at hu
    rw [hB.cell, ← Array.getElem?_toList, ← hu, ← htake, List.getElem?_take_of_lt (by omega)]
  have S3 : Hid (∀ j, j < (rv (l.drop (i + 1))).length → (w.drew.cell? ⟨b, 0 + i * 2 + j, none⟩).isSome = true ∧ w.drew.frozen? ⟨b, 0 + i * 2 + j, none⟩ = false) := fun j hj => by
    rw [hfl] at hj
    refine ⟨?_, hB.frozen _⟩
    rw [hB.cell, Array.getElem?_eq_getElem (by omega)]
    rfl
  obtain ⟨cs1, hB1, hz1, hl1⟩ := lay_cells (o := 0 + i * 2) (vs := rv (l.drop (i + 1))) hB (by rw [hfl]; omega)
  obtain ⟨W1, hW1⟩ : ∃ W1, W1 = w.drew.setCells b (0 + i * 2) (rv (l.drop (i + 1))) := ⟨_, rfl⟩
  have HW := Lib.hid hW1
  have hB1' : Blk W1 b 37 cs1 := by rw [hW1]; exact hB1
  obtain ⟨cs2, hB2, hz2, hl2⟩ := lay_cells (o := n * 2) (vs := rv (List.replicate 1 noRw)) hB1' (by rw [rv_length, List.length_replicate]; omega)
  have hg1 : w.grownBy W1 (some b) := by
    rw [hW1]
    have := setMany_grown b (rv (l.drop (i + 1))) (0 + i * 2) w.drew
    exact ⟨this.os, this.tape, this.output, this.size, this.block⟩
  have hg2 := setMany_grown b (rv (List.replicate 1 noRw)) (n * 2) W1
  have hel : (l.eraseIdx i).length = n := by rw [List.length_eraseIdx, if_pos (by omega), hn]; omega
  have HOWN : Hid (Arr (W1.setCells b (n * 2) (rv (List.replicate 1 noRw))) b c (l.eraseIdx i)) := by
    refine ⟨cs2, hB2, by omega, h3, by omega, ?_⟩
    have e0 : cur.toList.take (i * 2) = rv (l.take i) := by
      rw [← rv_take, ← htake, List.take_take]
      congr 1
      omega
    have e1 : cs1.toList.take (n * 2) = rv (l.eraseIdx i) := by
      rw [hl1, Nat.zero_add, e0, ← rv_append, ← List.eraseIdx_eq_take_drop_succ]
      exact List.take_left' (by rw [rv_length, hel])
    rw [hel, hl2, List.append_assoc, e1]
    exact List.take_left' (by rw [rv_length, hel])
  have HGR := Lib.hid (only_trans hg1 hg2 (.inl rfl))
  have hcl2 := fun ty => run_clear_rows W1 ty b (n * 2) 1 (c - n) (fun j hj => by rw [hB1'.cell, Array.getElem?_eq_getElem (by omega)]; rfl) (fun j hj => hB1'.frozen _)
  obtain ⟨i0, t22, hi0, hz, hs4, hby, _, _⟩ := er
  have a1 : (i : Int) + 1 ≤ (n : Int) + 1 := by omega
  have a2 : (n : Int) + 1 ≤ (c : Int) := by omega
  have a3 : (i : Int) ≤ (i : Int) + 1 := by omega
  have a4 : ¬ c = n := by omega
  have a5 : i ≤ c := by omega
  have a6 : (i : Int) ≤ (c : Int) := by omega
  have a7 : (0 : Int) ≤ (i : Int) + 1 := by omega
  have a8 : ((i : Int) + 1).toNat = i + 1 := by omega
  have a9 : n + 1 - (i + 1) = n - i := by omega
  have a10 : ((i : Int) == (i : Int) + 1) = false := by rw [beq_eq_false_iff_ne]; omega
  have a11 : i + (n - i) = n := by omega
  have a12 : n + 1 - n = 1 := by omega
  have a13 : (n : Int) ≤ (n : Int) + 1 := by omega
  clear hg1 hg2 hl1 hl2 hB1 hB2 hB1' hW1 hz1 hz2 hfl hB htake hcs h3 hA
  generalize W1.setCells b (n * 2) (rv (List.replicate 1 noRw)) = W2 at *
  by_cases hc1 : c = i + 1
  · have hni : n = i := by omega
    have S4 := Lib.hid (show ∀ j u, (rv (l.drop (i + 1)))[j]? = some u → w.drew.cell? ((⟨b, 0, none⟩ : Addr).add j) = some u from fun j u hu => by
      have h1 : (rv (l.drop (i + 1))).length = 0 := by rw [S1.out]; omega
      rw [List.eq_nil_of_length_eq_zero h1] at hu
      cases hu)
    have S5 := Lib.hid (show (rv (l.drop (i + 1))).length = 0 * 2 by rw [S1.out]; omega)
    subst hni
    subst hc1
    rw [show n + 1 - n = 1 by omega] at hcl2
    clear a4 a9 a11
    have b1 : ¬ n + 1 = n := by omega
    go_enter Try.func58, Try.ntmps58
    go_wp2_with fail
    go_region_law (refine step_append_room rfl (.tmp 22) (.tmp 25) 38 rfl 37 i0 2 t22 hi0 hs4 b 0 n (n + 1) (by simp [Act.eval, Act.put]) ⟨b, 0, none⟩ 0 0 (rv (l.drop (n + 1))) (by simp [Act.eval, Act.put]) S5.out S4.out S2.out (by omega) S3.out ?_; rw [← HW.out])
    go_wp2
    go_ret
    exact ⟨rfl, HOWN.out, HGR.out⟩
  · go_enter Try.func58, Try.ntmps58
    go_wp2_with fail
    go_region_law (refine step_append_room rfl (.tmp 22) (.tmp 25) 38 rfl 37 i0 2 t22 hi0 hs4 b 0 i c (by simp [Act.eval, Act.put]) ⟨b, (i + 1) * 2, none⟩ (n - i) (c - (i + 1)) (rv (l.drop (i + 1))) (by simp [Act.eval, Act.put]) S1.out (by intro j u hu; rw [add_none]; exact hsrc.out j u hu) S2.out (by omega) S3.out ?_; rw [← HW.out])
    go_wp2
    go_ret
    exact ⟨rfl, HOWN.out, HGR.out⟩
end Go.Proofs.Ytngncalbglbjdaa.Idx
