/-
  RetryPlays: the walk of the law. No condition.
-/
import Derived.Test.YtadlollgmimajaaRetryLaw
namespace Go.Proofs.Ytadlollgmimajaa.Rt
set_option linter.unusedVariables false
set_option maxRecDepth 100000
open Go.RowKit Base BackMath RetryMath Back Last
open Go.Proofs.Ytadlollgmimajaa.Field (modZ modZ_lt mod_any bigZ bigZ_lt playbig_any)
set_option linter.ambiguousOpen false
set_option linter.unusedSimpArgs false

def PRel (w : World) (g x : Nat) (B M J : Int) (n0 : Nat) (vi : Value) (wr : World) : Prop := ∃ (i : Nat) (f u : Int), i ≤ n0 ∧ vi = .int .i64 i ∧ RetAt wr g B M J f u ∧ RefAt wr x B M J f u ∧ 0 ≤ f ∧ f ≤ i ∧ 0 ≤ u ∧ u ≤ 2251799813685248 ∧ Below w.heap.size w wr
set_option maxHeartbeats 12800000 in
theorem plays_walk (b m j : Int) (A0 : Option Addr) (n0 c0 : Nat) (os : List To) (w : World) (h : Tos w w.heap.size A0 n0 c0 os) :
    Calls Try.prog 4 #[.int .i64 b, .int .i64 m, .int .i64 j, .slice A0 n0 c0] w fun e w' => e = .returned (.bool true) ∧ Below w.heap.size w w' := by
  have HOP := Lib.hid h
  have hle0 := h.le
  clear h
  go_enter Try.func4, Try.ntmps4
  go_wp2_with fail
  refine (playbig_any b 50 w (by omega) (by omega)).mono ?_
  rintro e wz ⟨rfl, rfl⟩
  have hx1 := bigZ_lt b (n := 50) (by omega)
  generalize bigZ b 50 = y1 at hx1 ⊢
  have e1 : wrap64 (1 + (y1 : Int)) = 1 + y1 := IntWalk.wrap64_in _ (by omega)
  go_wp2_with fail
  refine (playbig_any m 5000 w (by omega) (by omega)).mono ?_
  rintro e wz ⟨rfl, rfl⟩
  have hx2 := bigZ_lt m (n := 5000) (by omega)
  generalize bigZ m 5000 = y2 at hx2 ⊢
  have e2 : wrap64 (1 + (y1 : Int) + y2) = 1 + y1 + y2 := IntWalk.wrap64_in _ (by omega)
  go_wp2_with fail
  refine (playbig_any j 100 w (by omega) (by omega)).mono ?_
  rintro e wz ⟨rfl, rfl⟩
  have hx3 := bigZ_lt j (n := 100) (by omega)
  generalize bigZ j 100 = y3 at hx3 ⊢
  go_wp2_with fail
  obtain ⟨B, hB⟩ : ∃ B : Int, B = 1 + y1 := ⟨_, rfl⟩
  obtain ⟨M, hM⟩ : ∃ M : Int, M = 1 + y1 + y2 := ⟨_, rfl⟩
  obtain ⟨J, hJ⟩ : ∃ J : Int, J = y3 := ⟨_, rfl⟩
  rw [← hM, ← hB, ← hJ]
  have hmay : may B M J = true := may_in (by omega)
  have HMAY := Lib.hid hmay
  clear hx1 hx2 hx3 hB hM hJ hmay e1 e2
  refine (new_any B M J w).mono ?_
  rintro e w1 (⟨_, rfl, hw1⟩ | ⟨hm, _⟩)
  rotate_left
  · rw [HMAY.out] at hm; cases hm
  have hr1 := ret_new w B M J
  rw [← hw1] at hr1
  have hb1 : Below w.heap.size w w1 := by rw [hw1]; exact (Below.refl _ _).alloc (Nat.le_refl _) _
  obtain ⟨g, hg⟩ : ∃ g, g = w.heap.size := ⟨_, rfl⟩
  rw [← hg] at hr1 ⊢
  have HR1 := Lib.hid hr1
  have HB1 := Lib.hid hb1
  have HG := Lib.hid hg
  clear hr1 hb1 hg hw1
  go_wp2_with fail
  have hx1 := Blk.new w1 35 #[.int .i64 B, .int .i64 M, .int .i64 J, .int .i64 0, .int .i64 0]
  have hbx : Below w1.heap.size w1 (w1.alloc (.cells #[.int .i64 B, .int .i64 M, .int .i64 J, .int .i64 0, .int .i64 0] 35)) := (Below.refl _ _).alloc (Nat.le_refl _) _
  have HR2 := Lib.hid (HR1.out.below hbx)
  have HB2 := Lib.hid (held_two HB1.out hbx)
  have HX : Hid (w.heap.size ≤ w1.heap.size) := Lib.hid HB1.out.size
  have hx1' : RefAt _ _ B M J 0 0 := hx1
  have HX2 := Lib.hid hx1'
  clear hx1 hx1' hbx
  obtain ⟨x, hx⟩ : ∃ x, x = w1.heap.size := ⟨_, rfl⟩
  rw [← hx] at HX2 HX ⊢
  generalize w1.alloc (.cells #[.int .i64 B, .int .i64 M, .int .i64 J, .int .i64 0, .int .i64 0] 35) = w2 at HR2 HB2 HX2 ⊢
  clear HR1 HB1 hx
  go_loopw [15] (fun vi wr => PRel w g x B M J n0 vi wr) (fun vi _ => n0 - (intOf vi).toNat)
  case atStart => exact ⟨0, 0, 0, by omega, rfl, HR2.out, HX2.out, by omega, by omega, by omega, by omega, HB2.out⟩
  case round =>
    obtain ⟨i, f, u, hi, rfl, hr, hx, hf0, hf1, hu0, hu1, hbel⟩ := hrel
    have HR := Lib.hid hr
    have HRX := Lib.hid hx
    have HB := Lib.hid hbel
    have HNE := Lib.hid (ret_ne hr hx)
    have HGL := Lib.hid (Blk.lt hr)
    have HXL := Lib.hid (Blk.lt hx)
    clear hr hx hbel HR2 HB2 HX2
    by_cases hgo : i < n0 ∧ i < 60
    · obtain ⟨hin, hi60⟩ := hgo
      have l1 : (i : Int) < (n0 : Int) := by omega
      have l2 : (i : Int) < 60 := by omega
      obtain ⟨b0, off, o, rfl, hb0, q0, q1, q2, hget, _⟩ := (HOP.out.below HB.out).at_ hin
      obtain ⟨o0, o1, o2⟩ := o
      dsimp only at q0 q1 q2
      clear hget
      have hbx : Below wr.heap.size wr (wr.alloc (.cells #[.int .i64 o0, .int .i64 o1, .int .i64 o2] 37)) := (Below.refl _ _).alloc (Nat.le_refl _) _
      have HRa := Lib.hid (HR.out.below hbx)
      have HXa := Lib.hid (HRX.out.below hbx)
      have HBa := Lib.hid (held_two HB.out hbx)
      have hox := Blk.new wr 37 #[.int .i64 o0, .int .i64 o1, .int .i64 o2]
      have HO := Lib.hid hox
      clear hbx hox
      have C0 := fun w => mod_any o0 7 w (by omega) (by omega)
      have b7 := modZ_lt o0 (n := 7) (by omega)
      generalize modZ o0 7 = m0 at C0 b7
      have HC0 := Lib.hid C0
      clear C0
      go_wp2_with fail
      refine (HC0.out _).mono ?_
      rintro e wz ⟨rfl, rfl⟩
      obtain ⟨W, hW⟩ : ∃ W, W = wr.alloc (.cells #[.int .i64 o0, .int .i64 o1, .int .i64 o2] 37) := ⟨_, rfl⟩
      obtain ⟨X, hX⟩ : ∃ X, X = wr.heap.size := ⟨_, rfl⟩
      rw [← hW] at HRa HXa HBa HO ⊢
      rw [← hX] at HO HGL HXL ⊢
      have HWW := Lib.hid hW
      clear hW hX q0 q1 q2 HR HRX
      have x1 : W.cell? ⟨X, 1, none⟩ = some (.int .i64 o1) := HO.out.cell 1
      have x2 : W.cell? ⟨X, 2, none⟩ = some (.int .i64 o2) := HO.out.cell 2
      by_cases h4 : m0 < 4
      · have l3 : decide ((m0 : Int) < 4) = true := by first | (simp; done) | (simp; omega)
        have l4 : (m0 : Int) < 4 := by omega
        go_wp2_with fail
        refine Go.wp_region_held_drew (S := fun w' => w'.cell? ⟨X, 1, none⟩ = some (.int .i64 o1) ∧ w'.cell? ⟨X, 2, none⟩ = some (.int .i64 o2)) (by kernel_rfl) ⟨x1, x2⟩ (fun hHeld => ?_)
        held_take 0 1 2 3 4 6 7 8 9 10
        held_ready 5 K hK
        have hnum := And.intro (clk_in o1) (wt_in (f + 1) B M J o2)
        obtain ⟨V, hV⟩ : ∃ V, V = clk o1 + wt (f + 1) B M J o2 := ⟨_, rfl⟩
        have HNUM : Hid (0 ≤ f + 1 ∧ f + 1 ≤ ((i + 1 : Nat) : Int) ∧ 0 ≤ V ∧ V ≤ 2251799813685248) := Lib.hid (by omega)
        have HF1 := fail_any g B M J f u o1 o2 W.drew HRa.out ⟨hf0, by omega⟩
        have HF2 : ∀ wx, RefAt wx x B M J f u → _ := fun wx hx => reffail_any x B M J f u o1 o2 wx hx ⟨hf0, by omega⟩
        rw [← hV] at HF1 HF2
        refine HF1.mono ?_
        rintro e w3 ⟨rfl, hr3, hg3⟩
        have ho3 := HO.out.grown (only_of_drew hg3) (fun e => by injection e with e; have := HGL.out; omega)
        refine hK.out _ _ ⟨ho3.cell 1, ho3.cell 2⟩ (fun hHeld => ?_)
        clear hK K
        held_put
        held_ready 11 K hK
        have hx3 := RefAt.grown HXa.out (only_of_drew hg3) (fun e => HNE.out e.symm)
        refine (HF2 w3 hx3).mono ?_
        rintro e w4 ⟨rfl, hx4, hg4⟩
        have ho4 := ho3.grown hg4 (fun e => by injection e with e; have := HXL.out; omega)
        refine hK.out _ _ ⟨ho4.cell 1, ho4.cell 2⟩ (fun hHeld => ?_)
        clear hK K
        held_put
        held_take 12
        refine wpAnyH_done (by kernel_rfl) ?_ _
        have HR4 := Lib.hid (RetAt.grown hr3 hg4 HNE.out)
        have HX4 := Lib.hid hx4
        have HB4 : Hid (Below w.heap.size w w4) := Lib.hid ((HBa.out.trans (grown_below (only_of_drew hg3) (by rw [HG.out]; exact Nat.le_refl _) HBa.out.size)).trans (grown_below hg4 HX.out (Nat.le_trans HBa.out.size hg3.size)))
        clear hHeld ho4 hx3 ho3 hr3 hg3 hg4 hx4 HF1 HF2 hnum hV x1 x2 HRa HXa
        obtain ⟨F, hF⟩ : ∃ F, F = f + 1 := ⟨_, rfl⟩
        rw [← hF] at HR4 HX4 HNUM
        clear hF
        have z3 : w4.cell? ⟨x, 3, none⟩ = some (.int .i64 F) := Blk.cell HX4.out 3
        have z4 : w4.cell? ⟨x, 4, none⟩ = some (.int .i64 V) := Blk.cell HX4.out 4
        have e9 : IntKind.i64.wrap (V - 1) = V - 1 := IntWalk.i64_in _ (by have := HNUM.out; omega)
        have hq1 := fun wx hx => ready_any g B M J F V V wx hx
        have hq0 := fun wx hx => ready_any g B M J F V (V - 1) wx hx
        rw [show decide (V ≤ V) = true by simp] at hq1
        rw [show decide (V ≤ V - 1) = false by simp; omega] at hq0
        go_wp2_with fail
        refine Go.wp_region_held_drew (S := fun w' => w'.cell? ⟨x, 3, none⟩ = some (.int .i64 F) ∧ w'.cell? ⟨x, 4, none⟩ = some (.int .i64 V)) (by kernel_rfl) ⟨z3, z4⟩ (fun hHeld => ?_)
        held_take 0 2 3 4 5
        held_ready 1 K hK
        refine (fails_any g B M J F V w4.drew HR4.out).mono ?_
        rintro e wz ⟨rfl, rfl⟩
        refine hK.out _ _ ⟨z3, z4⟩ (fun hHeld => ?_)
        clear hK K
        held_put
        held_take 6 7 8 10 11 12 13
        held_ready 9 K hK
        refine (until_any g B M J F V w4.drew HR4.out).mono ?_
        rintro e wz ⟨rfl, rfl⟩
        refine hK.out _ _ ⟨z3, z4⟩ (fun hHeld => ?_)
        clear hK K
        held_put
        held_take 14 15 16 17 18 19 20 21
        held_ready 22 K hK
        refine (hq1 w4.drew HR4.out).mono ?_
        rintro e wz ⟨rfl, rfl⟩
        refine hK.out _ _ ⟨z3, z4⟩ (fun hHeld => ?_)
        clear hK K
        held_put
        held_take 23 24 25 26 27 28 29 30 31
        held_ready 32 K hK
        refine (hq0 w4.drew HR4.out).mono ?_
        rintro e wz ⟨rfl, rfl⟩
        refine hK.out _ _ ⟨z3, z4⟩ (fun hHeld => ?_)
        clear hK K
        held_put
        held_take 33
        refine wpAnyH_done (by kernel_rfl) ?_ _
        go_wp2
        go_roundw
        case rel => exact ⟨i + 1, F, V, by omega, by go_num, HR4.out, HX4.out, by have := HNUM.out; omega, by have := HNUM.out; omega, by have := HNUM.out; omega, by have := HNUM.out; omega, below_drewN HB4.out 1⟩
        case measure => simp [intOf]; omega
      · have l3 : decide ((m0 : Int) < 4) = false := by first | (simp; done) | (simp; omega)
        have l4 : ¬ (m0 : Int) < 4 := by omega
        by_cases h5 : m0 = 4
        · have l5 : ((m0 : Int) == 4) = true := by simp; omega
          go_wp2_with fail
          refine (done_any g B M J f u W HRa.out).mono ?_
          rintro e w3 ⟨rfl, hr3, hg3⟩
          have hx3 := RefAt.grown HXa.out hg3 (fun e => HNE.out e.symm)
          have HR3 := Lib.hid hr3
          have HX3 := Lib.hid hx3
          have HB3 := Lib.hid (HBa.out.trans (grown_below hg3 (by rw [HG.out]; exact Nat.le_refl _) HBa.out.size))
          clear hr3 hx3 hg3 x1 x2 HRa HXa
          go_wp2_with fail
          refine (refdone_any x B M J f u w3 HX3.out).mono ?_
          rintro e w4 ⟨rfl, hx4, hg4⟩
          have HR4 := Lib.hid (RetAt.grown HR3.out hg4 HNE.out)
          have HX4 := Lib.hid hx4
          have HB4 := Lib.hid (HB3.out.trans (grown_below hg4 HX.out HB3.out.size))
          clear hx4 hg4 HR3 HX3 HB3
          obtain ⟨F, hF⟩ : ∃ F : Int, F = 0 := ⟨_, rfl⟩
          obtain ⟨V, hV⟩ : ∃ V : Int, V = 0 := ⟨_, rfl⟩
          have HNUM : Hid (0 ≤ F ∧ F ≤ ((i + 1 : Nat) : Int) ∧ 0 ≤ V ∧ V ≤ 2251799813685248) := Lib.hid (by omega)
          have HR4' : Hid (RetAt w4 g B M J F V) := by rw [hF, hV]; exact HR4
          have HX4' : Hid (RefAt w4 x B M J F V) := by rw [hF, hV]; exact HX4
          clear hF hV HR4 HX4
          have z3 : w4.cell? ⟨x, 3, none⟩ = some (.int .i64 F) := Blk.cell HX4'.out 3
          have z4 : w4.cell? ⟨x, 4, none⟩ = some (.int .i64 V) := Blk.cell HX4'.out 4
          have e9 : IntKind.i64.wrap (V - 1) = V - 1 := IntWalk.i64_in _ (by have := HNUM.out; omega)
          have hq1 := fun wx hx => ready_any g B M J F V V wx hx
          have hq0 := fun wx hx => ready_any g B M J F V (V - 1) wx hx
          rw [show decide (V ≤ V) = true by simp] at hq1
          rw [show decide (V ≤ V - 1) = false by simp; omega] at hq0
          go_wp2_with fail
          refine Go.wp_region_held_drew (S := fun w' => w'.cell? ⟨x, 3, none⟩ = some (.int .i64 F) ∧ w'.cell? ⟨x, 4, none⟩ = some (.int .i64 V)) (by kernel_rfl) ⟨z3, z4⟩ (fun hHeld => ?_)
          held_take 0 2 3 4 5
          held_ready 1 K hK
          refine (fails_any g B M J F V w4.drew HR4'.out).mono ?_
          rintro e wz ⟨rfl, rfl⟩
          refine hK.out _ _ ⟨z3, z4⟩ (fun hHeld => ?_)
          clear hK K
          held_put
          held_take 6 7 8 10 11 12 13
          held_ready 9 K hK
          refine (until_any g B M J F V w4.drew HR4'.out).mono ?_
          rintro e wz ⟨rfl, rfl⟩
          refine hK.out _ _ ⟨z3, z4⟩ (fun hHeld => ?_)
          clear hK K
          held_put
          held_take 14 15 16 17 18 19 20 21
          held_ready 22 K hK
          refine (hq1 w4.drew HR4'.out).mono ?_
          rintro e wz ⟨rfl, rfl⟩
          refine hK.out _ _ ⟨z3, z4⟩ (fun hHeld => ?_)
          clear hK K
          held_put
          held_take 23 24 25 26 27 28 29 30 31
          held_ready 32 K hK
          refine (hq0 w4.drew HR4'.out).mono ?_
          rintro e wz ⟨rfl, rfl⟩
          refine hK.out _ _ ⟨z3, z4⟩ (fun hHeld => ?_)
          clear hK K
          held_put
          held_take 33
          refine wpAnyH_done (by kernel_rfl) ?_ _
          go_wp2
          go_roundw
          case rel => exact ⟨i + 1, F, V, by omega, by go_num, HR4'.out, HX4'.out, by have := HNUM.out; omega, by have := HNUM.out; omega, by have := HNUM.out; omega, by have := HNUM.out; omega, below_drewN HB4.out 1⟩
          case measure => simp [intOf]; omega
        · have l5 : ((m0 : Int) == 4) = false := by simp; omega
          have HNUM : Hid (0 ≤ f ∧ f ≤ ((i + 1 : Nat) : Int) ∧ 0 ≤ u ∧ u ≤ 2251799813685248) := Lib.hid (by omega)
          have y4 : W.cell? ⟨x, 4, none⟩ = some (.int .i64 u) := Blk.cell HXa.out 4
          have HQN := Lib.hid (fun n => quiet_ (w := W) (n := n) (ready_any g B M J f u o1 (W.drewN n) HRa.out))
          by_cases hn : u ≤ o1
          · have hn' : decide (u ≤ o1) = true := by simpa using hn
            rw [hn'] at HQN
            clear hn'
            go_wp2_with fail
            go_quiet (first | (go_at_call 11; exact HQN.out _) | fail)
            have HRb : Hid (RetAt (W.drewN nq) g B M J f u) := HRa
            have HXb : Hid (RefAt (W.drewN nq) x B M J f u) := HXa
            have HBb : Hid (Below w.heap.size w (W.drewN nq)) := Lib.hid (below_drewN HBa.out nq)
            generalize W.drewN nq = W5 at HRb HXb HBb ⊢
            clear HRa HXa HBa HQN y4 x1 x2 hn HWW HO
            have z3 : W5.cell? ⟨x, 3, none⟩ = some (.int .i64 f) := Blk.cell HXb.out 3
            have z4 : W5.cell? ⟨x, 4, none⟩ = some (.int .i64 u) := Blk.cell HXb.out 4
            have e9 : IntKind.i64.wrap (u - 1) = u - 1 := IntWalk.i64_in _ (by have := HNUM.out; omega)
            have hq1 := fun wx hx => ready_any g B M J f u u wx hx
            have hq0 := fun wx hx => ready_any g B M J f u (u - 1) wx hx
            rw [show decide (u ≤ u) = true by simp] at hq1
            rw [show decide (u ≤ u - 1) = false by simp; omega] at hq0
            go_wp2_with fail
            refine Go.wp_region_held_drew (S := fun w' => w'.cell? ⟨x, 3, none⟩ = some (.int .i64 f) ∧ w'.cell? ⟨x, 4, none⟩ = some (.int .i64 u)) (by kernel_rfl) ⟨z3, z4⟩ (fun hHeld => ?_)
            held_take 0 2 3 4 5
            held_ready 1 K hK
            refine (fails_any g B M J f u W5.drew HRb.out).mono ?_
            rintro e wz ⟨rfl, rfl⟩
            refine hK.out _ _ ⟨z3, z4⟩ (fun hHeld => ?_)
            clear hK K
            held_put
            held_take 6 7 8 10 11 12 13
            held_ready 9 K hK
            refine (until_any g B M J f u W5.drew HRb.out).mono ?_
            rintro e wz ⟨rfl, rfl⟩
            refine hK.out _ _ ⟨z3, z4⟩ (fun hHeld => ?_)
            clear hK K
            held_put
            held_take 14 15 16 17 18 19 20 21
            held_ready 22 K hK
            refine (hq1 W5.drew HRb.out).mono ?_
            rintro e wz ⟨rfl, rfl⟩
            refine hK.out _ _ ⟨z3, z4⟩ (fun hHeld => ?_)
            clear hK K
            held_put
            held_take 23 24 25 26 27 28 29 30 31
            held_ready 32 K hK
            refine (hq0 W5.drew HRb.out).mono ?_
            rintro e wz ⟨rfl, rfl⟩
            refine hK.out _ _ ⟨z3, z4⟩ (fun hHeld => ?_)
            clear hK K
            held_put
            held_take 33
            refine wpAnyH_done (by kernel_rfl) ?_ _
            go_wp2
            go_roundw
            case rel => exact ⟨i + 1, f, u, by omega, by go_num, HRb.out, HXb.out, by have := HNUM.out; omega, by have := HNUM.out; omega, by have := HNUM.out; omega, by have := HNUM.out; omega, below_drewN HBb.out 1⟩
            case measure => simp [intOf]; omega
          · have hn' : decide (u ≤ o1) = false := by simpa using hn
            rw [hn'] at HQN
            clear hn'
            go_wp2_with fail
            go_quiet (first | (go_at_call 11; exact HQN.out _) | fail)
            have HRb : Hid (RetAt (W.drewN nq) g B M J f u) := HRa
            have HXb : Hid (RefAt (W.drewN nq) x B M J f u) := HXa
            have HBb : Hid (Below w.heap.size w (W.drewN nq)) := Lib.hid (below_drewN HBa.out nq)
            generalize W.drewN nq = W5 at HRb HXb HBb ⊢
            clear HRa HXa HBa HQN y4 x1 x2 HWW HO
            have z3 : W5.cell? ⟨x, 3, none⟩ = some (.int .i64 f) := Blk.cell HXb.out 3
            have z4 : W5.cell? ⟨x, 4, none⟩ = some (.int .i64 u) := Blk.cell HXb.out 4
            have e9 : IntKind.i64.wrap (u - 1) = u - 1 := IntWalk.i64_in _ (by have := HNUM.out; omega)
            have hq1 := fun wx hx => ready_any g B M J f u u wx hx
            have hq0 := fun wx hx => ready_any g B M J f u (u - 1) wx hx
            rw [show decide (u ≤ u) = true by simp] at hq1
            rw [show decide (u ≤ u - 1) = false by simp; omega] at hq0
            go_wp2_with fail
            refine Go.wp_region_held_drew (S := fun w' => w'.cell? ⟨x, 3, none⟩ = some (.int .i64 f) ∧ w'.cell? ⟨x, 4, none⟩ = some (.int .i64 u)) (by kernel_rfl) ⟨z3, z4⟩ (fun hHeld => ?_)
            held_take 0 2 3 4 5
            held_ready 1 K hK
            refine (fails_any g B M J f u W5.drew HRb.out).mono ?_
            rintro e wz ⟨rfl, rfl⟩
            refine hK.out _ _ ⟨z3, z4⟩ (fun hHeld => ?_)
            clear hK K
            held_put
            held_take 6 7 8 10 11 12 13
            held_ready 9 K hK
            refine (until_any g B M J f u W5.drew HRb.out).mono ?_
            rintro e wz ⟨rfl, rfl⟩
            refine hK.out _ _ ⟨z3, z4⟩ (fun hHeld => ?_)
            clear hK K
            held_put
            held_take 14 15 16 17 18 19 20 21
            held_ready 22 K hK
            refine (hq1 W5.drew HRb.out).mono ?_
            rintro e wz ⟨rfl, rfl⟩
            refine hK.out _ _ ⟨z3, z4⟩ (fun hHeld => ?_)
            clear hK K
            held_put
            held_take 23 24 25 26 27 28 29 30 31
            held_ready 32 K hK
            refine (hq0 W5.drew HRb.out).mono ?_
            rintro e wz ⟨rfl, rfl⟩
            refine hK.out _ _ ⟨z3, z4⟩ (fun hHeld => ?_)
            clear hK K
            held_put
            held_take 33
            refine wpAnyH_done (by kernel_rfl) ?_ _
            go_wp2
            go_roundw
            case rel => exact ⟨i + 1, f, u, by omega, by go_num, HRb.out, HXb.out, by have := HNUM.out; omega, by have := HNUM.out; omega, by have := HNUM.out; omega, by have := HNUM.out; omega, below_drewN HBb.out 1⟩
            case measure => simp [intOf]; omega
    · by_cases hin : i < n0
      · have l1 : (i : Int) < (n0 : Int) := by omega
        have l2 : ¬ (i : Int) < 60 := by omega
        go_wp2_with fail
        refine (awake_any wr).mono ?_
        rintro e w3 ⟨rfl, hb3⟩
        have HB3 := Lib.hid (held_two HB.out hb3)
        clear hb3
        go_wp2
        go_ret
        exact ⟨rfl, HB3.out⟩
      · have l1 : ¬ (i : Int) < (n0 : Int) := by omega
        go_wp2_with fail
        refine (awake_any wr).mono ?_
        rintro e w3 ⟨rfl, hb3⟩
        have HB3 := Lib.hid (held_two HB.out hb3)
        clear hb3
        go_wp2
        go_ret
        exact ⟨rfl, HB3.out⟩
end Go.Proofs.Ytadlollgmimajaa.Rt
