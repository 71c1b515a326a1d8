/-
  RetryBounds: the walk of the law. No condition.
-/
import Derived.Test.YtadlollgmimajaaRetryLaw
namespace Go.Proofs.Ytadlollgmimajaa.Rt
set_option linter.unusedVariables false
set_option maxRecDepth 100000
open Go.RowKit Base BackMath RetryMath Back Last
open Go.Proofs.Ytadlollgmimajaa.Field (modZ modZ_lt mod_any bigZ bigZ_lt playbig_any)
set_option linter.ambiguousOpen false
set_option linter.unusedSimpArgs false

/-- between rounds: none has failed; and the clock -/
def ORel (w : World) (g : Nat) (J : Int) (va vr : Value) (wr : World) : Prop := ∃ (r : Nat) (at_ : Int), r ≤ 2 ∧ vr = .int .i64 r ∧ va = .int .i64 at_ ∧ 0 ≤ at_ ∧ at_ ≤ 1099511627776 + 2147483648 * 30 * r ∧ RetAt wr g 3 1000 J 0 0 ∧ Below w.heap.size w wr
/-- within one: i - 1 have failed -/
def NRel (w : World) (g k r : Nat) (J : Int) (va vi : Value) (wr : World) : Prop := ∃ (i : Nat) (at_ u : Int), i ≤ k ∧ vi = .int .i64 (i + 1) ∧ va = .int .i64 at_ ∧ 0 ≤ at_ ∧ at_ ≤ 1099511627776 + 2147483648 * 30 * r + 2147483648 * i ∧ RetAt wr g 3 1000 J i u ∧ Below w.heap.size w wr
theorem bound_ {k j d : Int} (h : may 3 1000 j = true) : dl k 3 1000 ≤ wt k 3 1000 j d ∧ wt k 3 1000 j d ≤ dl k 3 1000 + j ∧ 0 ≤ dl k 3 1000 ∧ dl k 3 1000 ≤ 1000 := by
  have ho := may_out h
  rw [wait_some h, delay_some (may_zero h)]
  have h1 := dd_ge ho.1 ho.2.1 k.toNat
  have h2 := dd_le k.toNat 3 1000
  have h3 := Int.emod_nonneg (max d 0) (b := j + 1) (by omega)
  have h4 := Int.emod_lt_of_pos (max d 0) (b := j + 1) (by omega)
  omega
set_option maxHeartbeats 12800000 in
theorem bounds_walk (n n1 d j : Int) (w : World) :
    Calls Try.prog 5 #[.int .i64 n, .int .i64 n1, .int .i64 d, .int .i64 j] w fun e w' => e = .returned (.bool true) ∧ Below w.heap.size w w' := by
  go_enter Try.func5, Try.ntmps5
  go_wp2_with fail
  refine (playbig_any j 50 w (by omega) (by omega)).mono ?_
  rintro e wz ⟨rfl, rfl⟩
  have hx1 := bigZ_lt j (n := 50) (by omega)
  generalize bigZ j 50 = y1 at hx1 ⊢
  go_wp2_with fail
  obtain ⟨J, hJ⟩ : ∃ J : Int, J = y1 := ⟨_, rfl⟩
  rw [← hJ]
  have hmay : may 3 1000 J = true := may_in (by omega)
  have HMAY := Lib.hid hmay
  have hj : 0 ≤ J ∧ J < 50 := by omega
  have HJ := Lib.hid hj
  clear hmay hx1 hJ hj
  refine (new_any 3 1000 J w).mono ?_
  rintro e w1 (⟨_, rfl, hw1⟩ | ⟨hm, _⟩)
  rotate_left
  · rw [HMAY.out] at hm; cases hm
  have hr1 := ret_new w 3 1000 J
  rw [← hw1] at hr1
  have hb1 : Below w.heap.size w w1 := by rw [hw1]; exact (Below.refl _ _).alloc (Nat.le_refl _) _
  obtain ⟨g, hg⟩ : ∃ g, g = w.heap.size := ⟨_, rfl⟩
  rw [← hg] at hr1 ⊢
  have HR1 := Lib.hid hr1
  have HB1 := Lib.hid hb1
  have HG := Lib.hid hg
  clear hr1 hb1 hg hw1
  go_wp2_with fail
  refine (playbig_any n1 1099511627776 w1 (by omega) (by omega)).mono ?_
  rintro e wz ⟨rfl, rfl⟩
  have hx2 := bigZ_lt n1 (n := 1099511627776) (by omega)
  generalize bigZ n1 1099511627776 = y2 at hx2 ⊢
  go_wp2_with fail
  refine (mod_any n 30 w1 (by omega) (by omega)).mono ?_
  rintro e wz ⟨rfl, rfl⟩
  have hx3 := modZ_lt n (n := 30) (by omega)
  generalize modZ n 30 = y3 at hx3 ⊢
  have e1 : wrap64 (1 + (y3 : Int)) = 1 + y3 := IntWalk.wrap64_in _ (by omega)
  have e1' : IntKind.i64.wrap (1 + (y3 : Int)) = 1 + y3 := IntWalk.i64_in _ (by omega)
  go_wp2_with fail
  obtain ⟨k, hk⟩ : ∃ k : Nat, k = 1 + y3 := ⟨_, rfl⟩
  rw [show (1 + (y3 : Int)) = (k : Int) by omega]
  have hk30 : k ≤ 30 := by omega
  clear hk hx3 e1 e1'
  go_loopw [12, 14] (fun va vr wr => ORel w g J va vr wr) (fun _ vr _ => 2 - (intOf vr).toNat)
  case atStart => exact ⟨0, y2, by omega, rfl, rfl, by omega, by omega, HR1.out, HB1.out⟩
  case round =>
    obtain ⟨r, at_, hr, rfl, rfl, ha0, ha1, hret, hbel⟩ := hrel
    have HR := Lib.hid hret
    have HB := Lib.hid hbel
    clear hret hbel HR1 HB1
    by_cases hr2 : r < 2
    · have l1 : (r : Int) < 2 := by omega
      go_wp2_with fail
      go_loopw [12, 15] (fun va vi wr => NRel w g k r J va vi wr) (fun _ vi _ => k + 1 - (intOf vi).toNat)
      case atStart => exact ⟨0, at_, 0, by omega, rfl, rfl, ha0, by omega, HR.out, HB.out⟩
      case round =>
        rename_i wo
        obtain ⟨i, a, u, hi, rfl, rfl, hb0, hb1, hret, hbel⟩ := hrel
        have HRi := Lib.hid hret
        have HBi := Lib.hid hbel
        clear hret hbel HR HB
        by_cases hik : i < k
        · have l2 : ((i : Int) + 1) ≤ (k : Int) := by omega
          go_wp2_with fail
          have hbd := bound_ (k := (i : Int) + 1) (d := d) HMAY.out
          have hca : clk a = a := by unfold clk; omega
          have hf := fail_any g 3 1000 J i u a d wr HRi.out (by omega)
          rw [hca] at hf
          obtain ⟨V, hV⟩ : ∃ V, V = a + wt ((i : Int) + 1) 3 1000 J d := ⟨_, rfl⟩
          rw [← hV] at hf
          generalize wt ((i : Int) + 1) 3 1000 J d = W at hbd hV
          have HD := Lib.hid (fun w => delay_any ((i : Int) + 1) 3 1000 w)
          generalize dl ((i : Int) + 1) 3 1000 = D at hbd HD
          have hj := HJ.out
          have e1 : wrap64 (a + D) = a + D := IntWalk.wrap64_in _ (by omega)
          have e2 : wrap64 (a + D + J) = a + D + J := IntWalk.wrap64_in _ (by omega)
          have l3 : ¬ V < a + D := by omega
          have l4 : ¬ a + D + J < V := by omega
          have HV : Hid (0 ≤ V ∧ V ≤ a + 2147483648) := Lib.hid (by omega)
          clear hbd hV hj hca
          refine hf.mono ?_
          rintro e w3 ⟨rfl, hr3, hg3⟩
          have hr3' : RetAt w3 g 3 1000 J ((i + 1 : Nat) : Int) V := by rw [show (((i + 1 : Nat) : Int)) = (i : Int) + 1 by omega]; exact hr3
          have HR3 := Lib.hid hr3
          have HR3' := Lib.hid hr3'
          have HB3 := Lib.hid (HBi.out.trans (grown_below hg3 (by rw [HG.out]; exact Nat.le_refl _) HBi.out.size))
          clear hr3 hr3' hg3 hf
          go_wp2_with fail
          refine (HD.out w3).mono ?_
          rintro e wz ⟨rfl, rfl⟩
          go_wp2_with fail
          refine (fails_any g 3 1000 J _ V w3 HR3.out).mono ?_
          rintro e wz ⟨rfl, rfl⟩
          go_wp2
          go_roundw
          case rel => exact ⟨i + 1, V, V, by omega, by go_num, rfl, HV.out.1, by have := HV.out; omega, HR3'.out, HB3.out⟩
          case measure => simp [intOf]; omega
        · have l2 : ¬ ((i : Int) + 1) ≤ (k : Int) := by omega
          go_wp2_with fail
          refine (done_any g 3 1000 J i u wr HRi.out).mono ?_
          rintro e w3 ⟨rfl, hr3, hg3⟩
          have HR3 := Lib.hid hr3
          have HB3 := Lib.hid (HBi.out.trans (grown_below hg3 (by rw [HG.out]; exact Nat.le_refl _) HBi.out.size))
          clear hr3 hg3
          go_wp2_with fail
          refine (fails_any g 3 1000 J 0 0 w3 HR3.out).mono ?_
          rintro e wz ⟨rfl, rfl⟩
          go_wp2_with fail
          refine (until_any g 3 1000 J 0 0 w3 HR3.out).mono ?_
          rintro e wz ⟨rfl, rfl⟩
          go_wp2_with fail
          refine (ready_any g 3 1000 J 0 0 0 w3 HR3.out).mono ?_
          rintro e wz ⟨rfl, rfl⟩
          rw [show decide ((0 : Int) ≤ 0) = true by decide]
          go_wp2
          go_roundw
          case rel => exact ⟨r + 1, a, by omega, by go_num, rfl, hb0, by omega, HR3.out, HB3.out⟩
          case measure => simp [intOf]; omega
    · have l1 : ¬ (r : Int) < 2 := by omega
      go_wp2_with fail
      refine (awake_any wr).mono ?_
      rintro e w3 ⟨rfl, hb3⟩
      have HB3 := Lib.hid (held_two HB.out hb3)
      clear hb3
      go_wp2
      go_ret
      exact ⟨rfl, HB3.out⟩
end Go.Proofs.Ytadlollgmimajaa.Rt
