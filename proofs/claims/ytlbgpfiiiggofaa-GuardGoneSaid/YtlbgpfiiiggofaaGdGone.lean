/-
  The walk of GuardGone. No condition but that the key is a 64 bit number.
-/
import Derived.Test.YtlbgpfiiiggofaaGdAwake
import Derived.Test.YtlbgpfiiiggofaaOpOpen
import Derived.Deep.DeepCutAuto
import Derived.Deep.RegionHeld3
namespace Go.Proofs.Ytlbgpfiiiggofaa.Gd
set_option linter.unusedVariables false
set_option linter.unusedSimpArgs false
set_option maxRecDepth 100000
open Go.RowKit Base GuardMath Foot
open Idx (rv rv_append er Rs)
set_option linter.ambiguousOpen false

theorem gone_one (lsn key : Int) (val : ByteArray) : doAll (E 1) [⟨lsn, 0, key, true, val⟩] = [[⟨key, lsn, true, ⟨#[]⟩⟩]] := by rfl
theorem gone_cnt (lsn key : Int) (val : ByteArray) : cnt (E 1) [⟨lsn, 0, key, true, val⟩] = 1 := by rfl
theorem gone_two (lsn old key : Int) (val : ByteArray) : doAll [[⟨key, lsn, true, ⟨#[]⟩⟩]] [⟨old, 0, key, false, val⟩] = if old < lsn then [[⟨key, lsn, true, ⟨#[]⟩⟩]] else [[⟨key, old, false, val⟩]] := by
  show do1 [[⟨key, lsn, true, ⟨#[]⟩⟩]] ⟨old, 0, key, false, val⟩ = _
  have e : do1 [[⟨key, lsn, true, ⟨#[]⟩⟩]] ⟨old, 0, key, false, val⟩ = [put [⟨key, lsn, true, ⟨#[]⟩⟩] ⟨old, 0, key, false, val⟩] := by rfl
  rw [e]
  unfold put held at_ ins mk
  by_cases h : old < lsn
  · simp [h]
  · simp [h]
theorem gone_cnt2 (lsn old key : Int) (val : ByteArray) : cnt [[⟨key, lsn, true, ⟨#[]⟩⟩]] [⟨old, 0, key, false, val⟩] = if old < lsn then 0 else 1 := by
  show (if plays [[⟨key, lsn, true, ⟨#[]⟩⟩]] ⟨old, 0, key, false, val⟩ then 1 else 0) + 0 = _
  have e : plays [[⟨key, lsn, true, ⟨#[]⟩⟩]] ⟨old, 0, key, false, val⟩ = !held [⟨key, lsn, true, ⟨#[]⟩⟩] ⟨old, 0, key, false, val⟩ := by rfl
  rw [e]
  unfold held at_
  by_cases h : old < lsn
  · simp [h]
  · simp [h]
theorem tab_one (l : List Ce) : tab [l] 0 = l := by rfl
theorem opOne (w : World) (f : Gp) {s : Nat} (hs : s = w.heap.size) : Gps (w.alloc (.cells #[.int .i64 f.lsn, .int .i64 f.tbl, .int .i64 f.key, .bool f.gone, .string f.val] 32)) (w.heap.size + 1) (some ⟨s, 0, none⟩) 1 1 [f] := oone w f hs
set_option maxHeartbeats 6400000 in
theorem gone_walk (key lsn old : Int) (val : ByteArray) (hk : In64 key) (w : World) :
    Calls Try.prog 6 #[.int .i64 key, .int .i64 lsn, .int .i64 old, .string val] w fun e w' => e = .returned (.bool true) ∧ Below w.heap.size w w' := by
  go_enter Try.func6, Try.ntmps6
  go_wp2_with fail
  refine (new_any 1 (by omega) (by omega) _).mono ?_
  rintro e w1 ⟨rfl, hg, hz, hb⟩
  have HG := Lib.hid hg
  have HZ := Lib.hid hz
  have HB := Lib.hid hb
  clear hg hz hb
  have hlit := opOne w1 ⟨lsn, 0, key, true, val⟩ rfl
  have hga := HG.out.new (w' := w1.alloc (.cells #[.int .i64 lsn, .int .i64 0, .int .i64 key, .bool true, .string val] 32)) ((Below.refl _ _).alloc (Nat.le_refl _) _)
  have hba := HB.out.alloc HB.out.size (.cells #[.int .i64 lsn, .int .i64 0, .int .i64 key, .bool true, .string val] 32)
  have HL := Lib.hid hlit
  have HGA := Lib.hid hga
  have HBA := Lib.hid hba
  clear hlit hga hba
  go_wp2_with fail
  refine (put_any w.heap.size 1 0 (E 1) (w1.heap.size + 1) _ 1 1 [⟨lsn, 0, key, true, val⟩] _ HGA.out HL.out (by simp) (fun b off e => by injection e with e; injection e with e1 _; subst e1; exact not_own (by rw [HZ.out]; omega)) (fun o ho => by rw [List.mem_singleton] at ho; subst ho; exact hk) (by simp) (by omega)).mono ?_
  rintro e w3 ⟨rfl, hg3, ht3⟩
  rw [gone_cnt]
  rw [gone_one] at hg3
  have HG3 := Lib.hid hg3
  have HB3 : Hid (Below w.heap.size w w3) := HBA.out.trans (turn_below ht3 (Nat.le_refl _) HBA.out.size)
  have HS3 : Hid (w.heap.size + 2 + 1 ≤ w3.heap.size) := HG3.out.lt (by omega)
  clear hg3 ht3
  have hlit := opOne w3 ⟨old, 0, key, false, val⟩ rfl
  have hga := HG3.out.new (w' := w3.alloc (.cells #[.int .i64 old, .int .i64 0, .int .i64 key, .bool false, .string val] 32)) ((Below.refl _ _).alloc (Nat.le_refl _) _)
  have hba := HB3.out.alloc HB3.out.size (.cells #[.int .i64 old, .int .i64 0, .int .i64 key, .bool false, .string val] 32)
  have HL4 := Lib.hid hlit
  have HGA4 := Lib.hid hga
  have HBA4 := Lib.hid hba
  clear hlit hga hba
  go_wp2_with fail
  refine (put_any w.heap.size 1 _ _ (w3.heap.size + 1) _ 1 1 [⟨old, 0, key, false, val⟩] _ HGA4.out HL4.out (by simp) (fun b off e => by injection e with e; injection e with e1 _; subst e1; exact not_own HS3.out) (fun o ho => by rw [List.mem_singleton] at ho; subst ho; exact hk) (by simp) (by omega)).mono ?_
  rintro e w5 ⟨rfl, hg5, ht5⟩
  rw [gone_cnt2]
  rw [gone_two] at hg5
  have HB5 : Hid (Below w.heap.size w w5) := HBA4.out.trans (turn_below ht5 (Nat.le_refl _) HBA4.out.size)
  clear ht5
  by_cases hlt : old < lsn
  · rw [if_pos hlt] at hg5
    rw [if_pos hlt]
    have HG5 := Lib.hid hg5
    clear hg5
    go_wp2_with fail
    refine (cells_any w.heap.size 1 _ _ 0 _ HG5.out (by simp) (by omega)).mono ?_
    rw [tab_one]
    rintro e w6 ⟨A6, c6, rfl, h6, hb6⟩
    have HG6 := Lib.hid (HG5.out.new hb6)
    have HB6 : Hid (Below w.heap.size w w6) := held_two HB5.out hb6
    have HC6 := Lib.hid (Ces.of_own h6)
    clear h6 hb6
    go_wp2_with fail
    refine (rows_any w.heap.size 1 _ _ 0 _ HG6.out (by simp) (by omega)).mono ?_
    rw [tab_one, show rows [⟨key, lsn, true, ⟨#[]⟩⟩] = [] from rfl]
    rintro e w7 ⟨A7, c7, rfl, h7, hb7⟩
    have HB7 : Hid (Below w.heap.size w w7) := held_two HB6.out hb7
    have HC7 := Lib.hid (HC6.out.below hb7)
    clear h7 hb7
    obtain ⟨b, off, f, rfl, hbB, q0, q1, q2, q3, hf, _⟩ := HC7.out.at_ (k := 0) (by simp)
    obtain rfl : f = ⟨key, lsn, true, ⟨#[]⟩⟩ := by rw [List.getElem?_cons_zero] at hf; injection hf with hf; exact hf.symm
    dsimp only at q0 q1 q2 q3
    clear hf
    simp only [Nat.zero_mul, Nat.add_zero] at q0 q1 q2 q3
    have l9 := hlt
    go_upto_region 12 with fail
    have hx : Blk (w7.alloc (.cells #[.int .i64 key, .int .i64 lsn, .bool true, .string ⟨#[]⟩] 38)) w7.heap.size 38 #[.int .i64 key, .int .i64 lsn, .bool true, .string ⟨#[]⟩] := Blk.new _ _ _
    have hb8 : Below w7.heap.size w7 (w7.alloc (.cells #[.int .i64 key, .int .i64 lsn, .bool true, .string ⟨#[]⟩] 38)) := (Below.refl _ _).alloc (Nat.le_refl _) _
    generalize (w7.alloc (.cells #[.int .i64 key, .int .i64 lsn, .bool true, .string ⟨#[]⟩] 38)) = W at hx hb8 ⊢
    have HB8 : Hid (Below w.heap.size w W) := held_two HB7.out hb8
    have HSX : Hid (∀ wx, Below W.heap.size W wx → wx.cell? ⟨b, off, none⟩ = some (.int .i64 key) ∧ wx.cell? ⟨b, off + 1, none⟩ = some (.int .i64 lsn) ∧ wx.cell? ⟨b, off + 2, none⟩ = some (.bool true) ∧ wx.cell? ⟨b, off + 3, none⟩ = some (.string ⟨#[]⟩) ∧ wx.cell? ⟨w7.heap.size, 0, none⟩ = some (.int .i64 key) ∧ wx.cell? ⟨w7.heap.size, 1, none⟩ = some (.int .i64 lsn) ∧ wx.cell? ⟨w7.heap.size, 2, none⟩ = some (.bool true) ∧ wx.cell? ⟨w7.heap.size, 3, none⟩ = some (.string ⟨#[]⟩)) := fun wx hb =>
      ⟨held_cell hb (held_cell hb8 q0), held_cell hb (held_cell hb8 q1), held_cell hb (held_cell hb8 q2), held_cell hb (held_cell hb8 q3), held_cell hb (hx.cell 0), held_cell hb (hx.cell 1), held_cell hb (hx.cell 2), held_cell hb (hx.cell 3)⟩
    refine Go.wp_region_held_drew (S := fun wx => wx.cell? ⟨b, off, none⟩ = some (.int .i64 key) ∧ wx.cell? ⟨b, off + 1, none⟩ = some (.int .i64 lsn) ∧ wx.cell? ⟨b, off + 2, none⟩ = some (.bool true) ∧ wx.cell? ⟨b, off + 3, none⟩ = some (.string ⟨#[]⟩) ∧ wx.cell? ⟨w7.heap.size, 0, none⟩ = some (.int .i64 key) ∧ wx.cell? ⟨w7.heap.size, 1, none⟩ = some (.int .i64 lsn) ∧ wx.cell? ⟨w7.heap.size, 2, none⟩ = some (.bool true) ∧ wx.cell? ⟨w7.heap.size, 3, none⟩ = some (.string ⟨#[]⟩)) (by kernel_rfl) (HSX.out _ (held_start W)) (fun hHeld => ?_)
    refine wpAnyH_ready (rs := [0]) (by kernel_rfl) (by simp) ?_
    refine AllReadyH.cons rfl (fun K hK => ?_) AllReadyH.nil
    go_simp
    go_at_call 19
    refine (awake_any _).mono ?_
    rintro e w9 ⟨rfl, hb9⟩
    have HB9 : Hid (Below W.heap.size W w9) := held_call (held_start W) hb9
    clear hb9 hx hb8
    refine hK.out _ _ (HSX.out _ HB9.out) (fun hHeld => ?_)
    clear hK K
    try simp only [Act.put, List.getElem_toArray, List.getElem_cons_succ, List.getElem_cons_zero, List.setIfInBounds_toArray, List.set_cons_zero, List.set_cons_succ]
    refine wpAnyH_take (i := 1) (v := ?av1) rfl (by kernel_rfl) (by kernel_rfl) (by kernel_rfl) (fun _ _ _ h => h) (Or.inl ⟨by rfl, ?ay1⟩) (by assumption) ?ar1
    case ay1 => (intro w hSw; (try dsimp only at hSw); go_simp; try with_reducible rfl)
    try simp only [Act.put, List.getElem_toArray, List.getElem_cons_succ, List.getElem_cons_zero, List.setIfInBounds_toArray, List.set_cons_zero, List.set_cons_succ]
    refine wpAnyH_take (i := 2) (v := ?av2) rfl (by kernel_rfl) (by kernel_rfl) (by kernel_rfl) (fun _ _ _ h => h) (Or.inl ⟨by rfl, ?ay2⟩) (by assumption) ?ar2
    case ay2 => (intro w hSw; (try dsimp only at hSw); go_simp; try with_reducible rfl)
    try simp only [Act.put, List.getElem_toArray, List.getElem_cons_succ, List.getElem_cons_zero, List.setIfInBounds_toArray, List.set_cons_zero, List.set_cons_succ]
    refine wpAnyH_take (i := 3) (v := ?av3) rfl (by kernel_rfl) (by kernel_rfl) (by kernel_rfl) (fun _ _ _ h => h) (Or.inl ⟨by rfl, ?ay3⟩) (by assumption) ?ar3
    case ay3 => (intro w hSw; (try dsimp only at hSw); go_simp; try with_reducible rfl)
    try simp only [Act.put, List.getElem_toArray, List.getElem_cons_succ, List.getElem_cons_zero, List.setIfInBounds_toArray, List.set_cons_zero, List.set_cons_succ]
    refine wpAnyH_take (i := 4) (v := ?av4) rfl (by kernel_rfl) (by kernel_rfl) (by kernel_rfl) (fun _ _ _ h => h) (Or.inl ⟨by rfl, ?ay4⟩) (by assumption) ?ar4
    case ay4 => (intro w hSw; (try dsimp only at hSw); go_simp; try with_reducible rfl)
    try simp only [Act.put, List.getElem_toArray, List.getElem_cons_succ, List.getElem_cons_zero, List.setIfInBounds_toArray, List.set_cons_zero, List.set_cons_succ]
    refine wpAnyH_take (i := 5) (v := ?av5) rfl (by kernel_rfl) (by kernel_rfl) (by kernel_rfl) (fun _ _ _ h => h) (Or.inl ⟨by rfl, ?ay5⟩) (by assumption) ?ar5
    case ay5 => (intro w hSw; (try dsimp only at hSw); go_simp; try with_reducible rfl)
    try simp only [Act.put, List.getElem_toArray, List.getElem_cons_succ, List.getElem_cons_zero, List.setIfInBounds_toArray, List.set_cons_zero, List.set_cons_succ]
    refine wpAnyH_ready (rs := [6]) (by kernel_rfl) (by simp) ?_
    refine AllReadyH.cons rfl (fun K hK => ?_) AllReadyH.nil
    go_simp
    refine hK.out _ _ (HSX.out _ HB9.out) (fun hHeld => ?_)
    clear hK K
    try simp only [Act.put, List.getElem_toArray, List.getElem_cons_succ, List.getElem_cons_zero, List.setIfInBounds_toArray, List.set_cons_zero, List.set_cons_succ]
    refine wpAnyH_take (i := 7) (v := ?azv7) rfl (by kernel_rfl) (by kernel_rfl) (by kernel_rfl) (fun _ _ _ h => h) (Or.inl ⟨by rfl, ?azy7⟩) (by assumption) ?azr7
    case azy7 => (intro w hSw; (try dsimp only at hSw); go_simp; try with_reducible rfl)
    try simp only [Act.put, List.getElem_toArray, List.getElem_cons_succ, List.getElem_cons_zero, List.setIfInBounds_toArray, List.set_cons_zero, List.set_cons_succ]
    refine wpAnyH_take (i := 8) (v := ?azv8) rfl (by kernel_rfl) (by kernel_rfl) (by kernel_rfl) (fun _ _ _ h => h) (Or.inl ⟨by rfl, ?azy8⟩) (by assumption) ?azr8
    case azy8 => (intro w hSw; (try dsimp only at hSw); go_simp; try with_reducible rfl)
    try simp only [Act.put, List.getElem_toArray, List.getElem_cons_succ, List.getElem_cons_zero, List.setIfInBounds_toArray, List.set_cons_zero, List.set_cons_succ]
    refine wpAnyH_done (by kernel_rfl) ?_ _
    clear hHeld
    go_wp2
    go_ret
    exact ⟨by first | rfl | simp, held_two HB8.out HB9.out⟩
  · rw [if_neg hlt] at hg5
    rw [if_neg hlt]
    have HG5 := Lib.hid hg5
    clear hg5
    go_wp2_with fail
    refine (cells_any w.heap.size 1 _ _ 0 _ HG5.out (by simp) (by omega)).mono ?_
    rw [tab_one]
    rintro e w6 ⟨A6, c6, rfl, h6, hb6⟩
    have HG6 := Lib.hid (HG5.out.new hb6)
    have HB6 : Hid (Below w.heap.size w w6) := held_two HB5.out hb6
    have HC6 := Lib.hid (Ces.of_own h6)
    clear h6 hb6
    go_wp2_with fail
    refine (rows_any w.heap.size 1 _ _ 0 _ HG6.out (by simp) (by omega)).mono ?_
    rw [tab_one, show rows [⟨key, old, false, val⟩] = [⟨key, val⟩] from rfl]
    rintro e w7 ⟨A7, c7, rfl, h7, hb7⟩
    have HB7 : Hid (Below w.heap.size w w7) := held_two HB6.out hb7
    have HC7 := Lib.hid (HC6.out.below hb7)
    clear h7 hb7
    obtain ⟨b, off, f, rfl, hbB, q0, q1, q2, q3, hf, _⟩ := HC7.out.at_ (k := 0) (by simp)
    obtain rfl : f = ⟨key, old, false, val⟩ := by rw [List.getElem?_cons_zero] at hf; injection hf with hf; exact hf.symm
    dsimp only at q0 q1 q2 q3
    clear hf
    simp only [Nat.zero_mul, Nat.add_zero] at q0 q1 q2 q3
    have l9 := hlt
    go_upto_region 12 with fail
    have hx : Blk (w7.alloc (.cells #[.int .i64 key, .int .i64 old, .bool false, .string val] 38)) w7.heap.size 38 #[.int .i64 key, .int .i64 old, .bool false, .string val] := Blk.new _ _ _
    have hb8 : Below w7.heap.size w7 (w7.alloc (.cells #[.int .i64 key, .int .i64 old, .bool false, .string val] 38)) := (Below.refl _ _).alloc (Nat.le_refl _) _
    generalize (w7.alloc (.cells #[.int .i64 key, .int .i64 old, .bool false, .string val] 38)) = W at hx hb8 ⊢
    have HB8 : Hid (Below w.heap.size w W) := held_two HB7.out hb8
    have HSX : Hid (∀ wx, Below W.heap.size W wx → wx.cell? ⟨b, off, none⟩ = some (.int .i64 key) ∧ wx.cell? ⟨b, off + 1, none⟩ = some (.int .i64 old) ∧ wx.cell? ⟨b, off + 2, none⟩ = some (.bool false) ∧ wx.cell? ⟨b, off + 3, none⟩ = some (.string val) ∧ wx.cell? ⟨w7.heap.size, 0, none⟩ = some (.int .i64 key) ∧ wx.cell? ⟨w7.heap.size, 1, none⟩ = some (.int .i64 old) ∧ wx.cell? ⟨w7.heap.size, 2, none⟩ = some (.bool false) ∧ wx.cell? ⟨w7.heap.size, 3, none⟩ = some (.string val)) := fun wx hb =>
      ⟨held_cell hb (held_cell hb8 q0), held_cell hb (held_cell hb8 q1), held_cell hb (held_cell hb8 q2), held_cell hb (held_cell hb8 q3), held_cell hb (hx.cell 0), held_cell hb (hx.cell 1), held_cell hb (hx.cell 2), held_cell hb (hx.cell 3)⟩
    refine Go.wp_region_held_drew (S := fun wx => wx.cell? ⟨b, off, none⟩ = some (.int .i64 key) ∧ wx.cell? ⟨b, off + 1, none⟩ = some (.int .i64 old) ∧ wx.cell? ⟨b, off + 2, none⟩ = some (.bool false) ∧ wx.cell? ⟨b, off + 3, none⟩ = some (.string val) ∧ wx.cell? ⟨w7.heap.size, 0, none⟩ = some (.int .i64 key) ∧ wx.cell? ⟨w7.heap.size, 1, none⟩ = some (.int .i64 old) ∧ wx.cell? ⟨w7.heap.size, 2, none⟩ = some (.bool false) ∧ wx.cell? ⟨w7.heap.size, 3, none⟩ = some (.string val)) (by kernel_rfl) (HSX.out _ (held_start W)) (fun hHeld => ?_)
    refine wpAnyH_ready (rs := [0]) (by kernel_rfl) (by simp) ?_
    refine AllReadyH.cons rfl (fun K hK => ?_) AllReadyH.nil
    go_simp
    go_at_call 19
    refine (awake_any _).mono ?_
    rintro e w9 ⟨rfl, hb9⟩
    have HB9 : Hid (Below W.heap.size W w9) := held_call (held_start W) hb9
    clear hb9 hx hb8
    refine hK.out _ _ (HSX.out _ HB9.out) (fun hHeld => ?_)
    clear hK K
    try simp only [Act.put, List.getElem_toArray, List.getElem_cons_succ, List.getElem_cons_zero, List.setIfInBounds_toArray, List.set_cons_zero, List.set_cons_succ]
    refine wpAnyH_take (i := 1) (v := ?bv1) rfl (by kernel_rfl) (by kernel_rfl) (by kernel_rfl) (fun _ _ _ h => h) (Or.inl ⟨by rfl, ?by1⟩) (by assumption) ?br1
    case by1 => (intro w hSw; (try dsimp only at hSw); go_simp; try with_reducible rfl)
    try simp only [Act.put, List.getElem_toArray, List.getElem_cons_succ, List.getElem_cons_zero, List.setIfInBounds_toArray, List.set_cons_zero, List.set_cons_succ]
    refine wpAnyH_take (i := 2) (v := ?bv2) rfl (by kernel_rfl) (by kernel_rfl) (by kernel_rfl) (fun _ _ _ h => h) (Or.inl ⟨by rfl, ?by2⟩) (by assumption) ?br2
    case by2 => (intro w hSw; (try dsimp only at hSw); go_simp; try with_reducible rfl)
    try simp only [Act.put, List.getElem_toArray, List.getElem_cons_succ, List.getElem_cons_zero, List.setIfInBounds_toArray, List.set_cons_zero, List.set_cons_succ]
    refine wpAnyH_take (i := 3) (v := ?bv3) rfl (by kernel_rfl) (by kernel_rfl) (by kernel_rfl) (fun _ _ _ h => h) (Or.inl ⟨by rfl, ?by3⟩) (by assumption) ?br3
    case by3 => (intro w hSw; (try dsimp only at hSw); go_simp; try with_reducible rfl)
    try simp only [Act.put, List.getElem_toArray, List.getElem_cons_succ, List.getElem_cons_zero, List.setIfInBounds_toArray, List.set_cons_zero, List.set_cons_succ]
    refine wpAnyH_take (i := 4) (v := ?bv4) rfl (by kernel_rfl) (by kernel_rfl) (by kernel_rfl) (fun _ _ _ h => h) (Or.inl ⟨by rfl, ?by4⟩) (by assumption) ?br4
    case by4 => (intro w hSw; (try dsimp only at hSw); go_simp; try with_reducible rfl)
    try simp only [Act.put, List.getElem_toArray, List.getElem_cons_succ, List.getElem_cons_zero, List.setIfInBounds_toArray, List.set_cons_zero, List.set_cons_succ]
    refine wpAnyH_take (i := 5) (v := ?bv5) rfl (by kernel_rfl) (by kernel_rfl) (by kernel_rfl) (fun _ _ _ h => h) (Or.inl ⟨by rfl, ?by5⟩) (by assumption) ?br5
    case by5 => (intro w hSw; (try dsimp only at hSw); go_simp; try with_reducible rfl)
    try simp only [Act.put, List.getElem_toArray, List.getElem_cons_succ, List.getElem_cons_zero, List.setIfInBounds_toArray, List.set_cons_zero, List.set_cons_succ]
    refine wpAnyH_ready (rs := [6]) (by kernel_rfl) (by simp) ?_
    refine AllReadyH.cons rfl (fun K hK => ?_) AllReadyH.nil
    go_simp
    refine hK.out _ _ (HSX.out _ HB9.out) (fun hHeld => ?_)
    clear hK K
    try simp only [Act.put, List.getElem_toArray, List.getElem_cons_succ, List.getElem_cons_zero, List.setIfInBounds_toArray, List.set_cons_zero, List.set_cons_succ]
    refine wpAnyH_take (i := 7) (v := ?bzv7) rfl (by kernel_rfl) (by kernel_rfl) (by kernel_rfl) (fun _ _ _ h => h) (Or.inl ⟨by rfl, ?bzy7⟩) (by assumption) ?bzr7
    case bzy7 => (intro w hSw; (try dsimp only at hSw); go_simp; try with_reducible rfl)
    try simp only [Act.put, List.getElem_toArray, List.getElem_cons_succ, List.getElem_cons_zero, List.setIfInBounds_toArray, List.set_cons_zero, List.set_cons_succ]
    refine wpAnyH_take (i := 8) (v := ?bzv8) rfl (by kernel_rfl) (by kernel_rfl) (by kernel_rfl) (fun _ _ _ h => h) (Or.inl ⟨by rfl, ?bzy8⟩) (by assumption) ?bzr8
    case bzy8 => (intro w hSw; (try dsimp only at hSw); go_simp; try with_reducible rfl)
    try simp only [Act.put, List.getElem_toArray, List.getElem_cons_succ, List.getElem_cons_zero, List.setIfInBounds_toArray, List.set_cons_zero, List.set_cons_succ]
    refine wpAnyH_done (by kernel_rfl) ?_ _
    clear hHeld
    go_wp2
    go_ret
    exact ⟨by first | rfl | simp, held_two HB8.out HB9.out⟩
end Go.Proofs.Ytlbgpfiiiggofaa.Gd
