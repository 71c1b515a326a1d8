/-
  The contract of slices.Delete at the segments of a log, where the first one of two or more is taken away: what is behind it moves ahead, in its own block.
-/
import Derived.Test.YtjiicmkafidldaaGreatWalLaw
import Derived.Deep.RegionLaw
import Derived.Laws.IdiomCopy
namespace Go.Proofs.YtjiicmkafidldaaGreat.Wal
set_option linter.unusedVariables false
set_option maxRecDepth 100000
open Go.RowKit Base WalMath
open Go.Proofs.YtjiicmkafidldaaGreat.Disk (Turn Out DiskAt I64 Fits own_same own_type)
open DiskMath (Fl Dk)
set_option linter.ambiguousOpen false

theorem setMany_blk {b : Nat} {t : TypeId} : ∀ (vs : List Value) (o : Nat) (w : World) (cs : Array Value), Blk w b t cs → o + vs.length ≤ cs.size → ∃ cs', Blk (w.setCells b o vs) b t cs' ∧ cs'.toList = cs.toList.take o ++ vs ++ cs.toList.drop (o + vs.length)
  | [], o, w, cs, h, _ => ⟨cs, h, by simp⟩
  | v :: r, o, w, cs, h, hl => by
    rw [List.length_cons] at hl
    obtain ⟨cs', h1, h2⟩ := setMany_blk r (o + 1) _ _ (h.set_ o v) (by rw [Array.size_setIfInBounds]; omega)
    refine ⟨cs', h1, ?_⟩
    rw [h2, Array.toList_setIfInBounds, List.length_cons]
    have hlen : o < cs.toList.length := by rw [Array.length_toList]; omega
    rw [List.set_eq_take_append_cons_drop, if_pos hlen]
    have hto : (cs.toList.take o).length = o := by rw [List.length_take]; omega
    rw [List.take_append, List.take_of_length_le (l := cs.toList.take o) (by omega), hto, show o + 1 - o = 1 by omega, List.take_succ_cons, List.take_zero, List.drop_append, List.drop_of_length_le (l := cs.toList.take o) (by omega), hto, show o + 1 + r.length - o = r.length + 1 by omega, List.drop_succ_cons, List.drop_drop, List.nil_append, show o + 1 + r.length = o + (r.length + 1) by omega]
    simp
theorem setMany_grown (b : Nat) : ∀ (vs : List Value) (o : Nat) (w : World), w.grownBy (w.setCells b o vs) (some b)
  | [], _, w => World.grownBy.refl _ _
  | v :: r, o, w => by
    have h := setMany_grown b r (o + 1) (w.setCell ⟨b, o, none⟩ v)
    refine ⟨h.os, h.tape, h.output, by have := h.size; rw [World.size_setCell] at this; exact this, fun i hi hne => ?_⟩
    exact (h.block i (by simpa using hi) hne).trans (Below.heap_setCell w ⟨b, o, none⟩ v i fun e => hne (by rw [e]))

def zseg : Array Value := #[.int .i64 0, .int .i64 0, .slice none 0 0, .int .i64 0]
theorem run_clear_one (w : World) (ty : TypeId) (b o c : Nat) (hc : ∀ j, j < 4 → (w.cell? ⟨b, o + j, none⟩).isSome = true) (hf : ∀ j, j < 4 → w.frozen? ⟨b, o + j, none⟩ = false) :
    (Builtin.clear_ #[39] ty #[.slice (some ⟨b, o, none⟩) 1 c]).run Tryz.prog w = .ok (.tuple #[]) (w.setCells b o zseg.toList) := by
  have hv : ∀ w, (zeroValue 91).run Tryz.prog w = .ok (.agg zseg) w := Tryz.zeroValue91
  have hzc : (Builtin.zeroCells (Value.agg zseg).cells 1).toList = zseg.toList := by first | kernel_rfl | (simp [Builtin.zeroCells, Value.cells, zseg]; done) | (unfold Builtin.zeroCells; rfl)
  have hst := run_storeCells_cells (P := Tryz.prog) b o zseg.toList 0 w (by simpa [zseg] using hc) (by simpa [zseg] using hf) (by intro v hv'; simp [zseg] at hv'; rcases hv' with rfl | rfl | rfl | rfl <;> rfl)
  simp only [Nat.add_zero] at hst
  simp [Builtin.clear_, run_underlying Tryz.underlying39, hv, hzc, hst]

set_option maxHeartbeats 1600000 in
theorem delete_any (base b n c : Nat) (x : Sg × Sp) (rest : List (Sg × Sp)) (w : World) (ho : w.ownsRow base 91 4 (.slice (some ⟨b, 0, none⟩) n c) n (flat (x :: rest))) (hn : 2 ≤ n) :
    Calls Tryz.prog 53 #[.slice (some ⟨b, 0, none⟩) n c, .int .i64 0, .int .i64 1] w fun e w' => e = .returned (.slice (some ⟨b, 0, none⟩) (n - 1) c) ∧ w'.ownsRow base 91 4 (.slice (some ⟨b, 0, none⟩) (n - 1) c) (n - 1) (flat rest) ∧ w.grownBy w' (some b) := by
  obtain ⟨k, rfl⟩ : ∃ k, n = k + 1 := ⟨n - 1, by omega⟩
  rw [Nat.add_sub_cancel]
  obtain ⟨h1, hh⟩ := ho
  rw [flat_length, List.length_cons] at h1
  have hrl : rest.length = k := by omega
  rcases hh with ⟨_, h0⟩ | ⟨b', cap, cur, hv, hbase, hblk, hnc, hcm, hcs, htake⟩
  · omega
  simp only [Value.slice.injEq, Option.some.injEq] at hv
  obtain ⟨hbb, _, hcc⟩ := hv
  injection hbb with hbb
  subst hbb hcc
  have hcm' : c ≤ 9223372036854775807 := by unfold maxLen at hcm; omega
  have hB : Blk w.drew b 91 cur := hblk
  have hfl : (flat rest).length = k * 4 := by rw [flat_length, hrl]
  have hcur : ∀ j, j < k * 4 → cur[4 + j]? = (flat rest)[j]? := fun j hj => by
    have e : (cur.toList.take ((k + 1) * 4))[4 + j]? = cur.toList[4 + j]? := List.getElem?_take_of_lt (by omega)
    rw [htake, flat_cons, List.getElem?_append_right (by simp [sgv])] at e
    rw [← Array.getElem?_toList, ← e]
    congr 1
    simp [sgv]
  have S1 : Hid ((flat rest).length = k * 4) := hfl
  have S2 := Lib.hid (sgv_one rest)
  have hsrc : Hid (∀ j u, (flat rest)[j]? = some u → w.drew.cell? ((⟨b, 4, none⟩ : Addr).add j) = some u) := fun j u hu => by
    have hj : j < k * 4 := by rw [← hfl]; exact (List.getElem?_eq_some_iff.1 hu).1
    rw [add_none, hB.cell, hcur j hj]
    exact hu
  have S3 : Hid (∀ j, j < (flat rest).length → (w.drew.cell? ⟨b, 0 + 0 * 4 + j, none⟩).isSome = true ∧ w.drew.frozen? ⟨b, 0 + 0 * 4 + j, none⟩ = false) := fun j hj => by
    rw [hfl] at hj
    refine ⟨?_, hB.frozen _⟩
    rw [hB.cell, Array.getElem?_eq_getElem (by omega)]
    rfl
  obtain ⟨cs1, hB1, hl1⟩ := setMany_blk (flat rest) 0 _ _ hB (by rw [hfl]; omega)
  obtain ⟨W1, hW1⟩ : ∃ W1, W1 = w.drew.setCells b (0 + 0 * 4) (flat rest) := ⟨_, rfl⟩
  have HW := Lib.hid hW1
  have hB1' : Blk W1 b 91 cs1 := by rw [hW1]; exact hB1
  have hsz1 : cs1.size = cur.size := by
    rw [← Array.length_toList, hl1, List.length_append, List.length_append, List.length_take, List.length_drop, Array.length_toList, hfl]
    omega
  obtain ⟨cs2, hB2, hl2⟩ := setMany_blk zseg.toList (k * 4) W1 cs1 hB1' (by show k * 4 + 4 ≤ _; omega)
  have hg1 : w.grownBy W1 (some b) := by
    rw [hW1]
    have := setMany_grown b (flat rest) (0 + 0 * 4) w.drew
    exact ⟨this.os, this.tape, this.output, this.size, this.block⟩
  have hg2 := setMany_grown b zseg.toList (k * 4) W1
  have HOWN : Hid ((W1.setCells b (k * 4) zseg.toList).ownsRow base 91 4 (.slice (some ⟨b, 0, none⟩) k c) k (flat rest)) := by
    have hsz2 : cs2.size = cs1.size := by
      rw [← Array.length_toList, hl2, List.length_append, List.length_append, List.length_take, List.length_drop, Array.length_toList]
      show min (k * 4) cs1.size + 4 + (cs1.size - (k * 4 + 4)) = _
      omega
    refine ⟨hfl, .inr ⟨b, c, cs2, rfl, hbase, hB2, by omega, hcm, by rw [hsz2, hsz1, hcs], ?_⟩⟩
    have e1 : cs1.toList.take (k * 4) = flat rest := by
      rw [hl1, List.take_zero, List.nil_append]
      exact FieldMath.take_app (flat rest) _ hfl
    rw [hl2, List.append_assoc, e1]
    exact FieldMath.take_app (flat rest) _ hfl
  have HGR := Lib.hid (show w.grownBy (W1.setCells b (k * 4) zseg.toList) (some b) from ⟨hg2.os.trans hg1.os, hg2.tape.trans hg1.tape, hg2.output.trans hg1.output, Nat.le_trans hg1.size hg2.size, fun i hi hne => (hg2.block i (Nat.lt_of_lt_of_le hi hg1.size) hne).trans (hg1.block i hi hne)⟩)
  have hcl := fun ty => run_clear_one W1 ty b (k * 4) (c - k) (fun j hj => by rw [hB1'.cell, Array.getElem?_eq_getElem (by omega)]; rfl) (fun j hj => hB1'.frozen _)
  obtain ⟨i0, t22, hi0, hz, hs4, hby, _, _⟩ := sg
  have hc1 : ¬ c = 1 := by omega
  have hc2 : k + 1 ≤ c := hnc
  have hk0 : 0 < k := by omega
  have h1k : (1 : Int) ≤ (k : Int) + 1 := by omega
  have h1c : (k : Int) + 1 ≤ (c : Int) := by omega
  have hkc : ¬ c = k := by omega
  have hkk : (k : Int) ≤ (k : Int) + 1 := by omega
  have hcl2 : ∀ ty, (Builtin.clear_ #[39] ty #[.slice (some ⟨b, k * 4, none⟩) 1 (c - k)]).run Tryz.prog W1 = .ok (.tuple #[]) (W1.setCells b (k * 4) zseg.toList) := hcl
  clear hcl hg1 hg2 hl1 hl2 hB1 hB2 hB1' hW1 hsz1 hcur hfl hB hblk htake hcs hbase
  generalize W1.setCells b (k * 4) zseg.toList = W2 at *
  go_enter Tryz.func53, Tryz.ntmps53
  go_wp2_with fail
  go_region_law (refine step_append_room rfl (.tmp 22) (.tmp 25) 39 rfl 91 i0 4 t22 hi0 hs4 b 0 0 c (by simp [Act.eval, Act.put]) ⟨b, 4, none⟩ k (c - 1) (flat rest) (by simp [Act.eval, Act.put]) S1.out hsrc.out S2.out (by omega) S3.out ?_; rw [← HW.out])
  go_wp2
  go_ret
  exact ⟨rfl, HOWN.out, HGR.out⟩
end Go.Proofs.YtjiicmkafidldaaGreat.Wal
