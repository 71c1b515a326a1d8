/-
  Contracts of package backoff's May, Delay, Wait and of the document's. No condition.
-/
import Derived.Test.YtadlollgmimajaaBackMath
import Derived.Test.YtadlollgmimajaaPlayMod
import Derived.Test.YtadlollgmimajaaPlayBig
import Derived.Test.YtadlollgmimajaaGrow
import Derived.StillTailTactics
import Derived.BigQuiet
import Derived.Deep.QuietTactic
namespace Go.Proofs.Ytadlollgmimajaa.Back
set_option linter.unusedVariables false
set_option maxRecDepth 100000
open Go.RowKit Base BackMath
open Go.Proofs.Ytadlollgmimajaa.Field (modZ modZ_lt mod_any bigZ bigZ_lt playbig_any)
set_option linter.ambiguousOpen false
set_option linter.unusedSimpArgs false

theorem ret_bool {v v' : Bool} (h : v = v') : Ending.returned (.bool v) = .returned (.bool v') := by rw [h]
set_option maxHeartbeats 800000 in
theorem may_any (b m j : Int) (w : World) : Calls Try.prog 19 #[.int .i64 b, .int .i64 m, .int .i64 j] w fun e w' => e = .returned (.bool (may b m j)) ∧ w = w' := by
  go_enter Try.func19, Try.ntmps19
  go_wp2
  all_goals first | go_ret | skip
  all_goals exact ⟨ret_bool (by unfold may; first | exact decide_eq_decide.2 (by omega) | exact (decide_eq_false (by omega)).symm | exact (decide_eq_true (by omega)).symm), rfl⟩
set_option maxHeartbeats 800000 in
theorem refmay_any (b m j : Int) (w : World) : Calls Try.prog 7 #[.int .i64 b, .int .i64 m, .int .i64 j] w fun e w' => e = .returned (.bool (may b m j)) ∧ w = w' := by
  go_enter Try.func7, Try.ntmps7
  go_wp2
  all_goals first | go_ret | skip
  all_goals exact ⟨ret_bool (by unfold may; first | exact decide_eq_decide.2 (by omega) | exact (decide_eq_false (by omega)).symm | exact (decide_eq_true (by omega)).symm), rfl⟩
theorem wrap_in {z : Int} (h : 0 ≤ z) (h' : z ≤ 1073741824) : wrap64 z = z := IntWalk.wrap64_in z (by omega)
theorem delay_none {k b m : Int} (h : may b m 0 = false) : dl k b m = 0 := by unfold dl; rw [h]; rfl
theorem delay_some {k b m : Int} (h : may b m 0 = true) : dl k b m = dd k.toNat b m := by unfold dl; rw [h]; rfl
set_option maxHeartbeats 800000 in
theorem delay_any (k b m : Int) (w : World) : Calls Try.prog 18 #[.int .i64 k, .int .i64 b, .int .i64 m] w fun e w' => e = .returned (.int .i64 (dl k b m)) ∧ w = w' := by
  go_enter Try.func18, Try.ntmps18
  go_wp2_with fail
  refine (may_any b m 0 w).mono ?_
  rintro e wz ⟨rfl, rfl⟩
  rcases hm : may b m 0
  · have HD := Lib.hid (delay_none (k := k) hm)
    clear hm
    go_wp2
    go_ret
    exact ⟨ret_int HD.out.symm, rfl⟩
  · have HD := Lib.hid (delay_some (k := k) hm)
    have ho := may_out hm
    clear hm
    have HS := Lib.hid (shifted ho.1 ho.2.1 ho.2.2.1 k.toNat)
    have HO := Lib.hid ho
    clear ho
    obtain ⟨n, hn⟩ : ∃ n : Nat, (if k < 0 then 0 else k) = n := ⟨k.toNat, by split <;> omega⟩
    have hk : k.toNat = n := by split at hn <;> omega
    rw [hk] at HS HD
    clear hk
    go_wp2
    · rename_i hl
      go_ret
      exact ⟨ret_int (by rw [HD.out, HS.out.1 hl]), rfl⟩
    · rename_i hl
      go_ret
      refine ⟨ret_int ?_, rfl⟩
      have h1 := HS.out.2 hl
      have h2 : 0 < b * 2 ^ min n 64 := Int.mul_pos (by have := HO.out; omega) (pow_pos_ _)
      rw [HD.out, ← h1.1]
      exact wrap_in (by omega) h1.2
def DRel (b m : Int) (k : Nat) (w : World) (vd vi : Value) (wr : World) : Prop := ∃ (i : Nat) (z : Int), i ≤ k ∧ vi = .int .i64 i ∧ vd = .int .i64 z ∧ 1 ≤ z ∧ z ≤ 2147483648 ∧ min z m = dd i b m ∧ w = wr
set_option maxHeartbeats 800000 in
theorem refdelay_any (k b m : Int) (w : World) (hk : k ≤ 9223372036854775807) : Calls Try.prog 25 #[.int .i64 k, .int .i64 b, .int .i64 m] w fun e w' => e = .returned (.int .i64 (dl k b m)) ∧ w = w' := by
  have HK := Lib.hid hk
  clear hk
  go_enter Try.func25, Try.ntmps25
  go_wp2_with fail
  refine (refmay_any b m 0 w).mono ?_
  rintro e wz ⟨rfl, rfl⟩
  rcases hm : may b m 0
  · have HD := Lib.hid (delay_none (k := k) hm)
    clear hm
    go_wp2
    go_ret
    exact ⟨ret_int HD.out.symm, rfl⟩
  · have HD := Lib.hid (delay_some (k := k) hm)
    have ho := may_out hm
    clear hm
    have HO := Lib.hid ho
    clear ho
    have h63 := HK.out
    go_wp2_with fail
    go_loopw [7, 8] (fun vd vi wr => DRel b m k.toNat w vd vi wr) (fun vd vi _ => k.toNat - (intOf vi).toNat)
    case atStart => exact ⟨0, b, Nat.zero_le _, rfl, rfl, by have := HO.out; omega, by have := HO.out; omega, by rw [dd_zero HO.out.2.1]; have := HO.out; omega, rfl⟩
    case round =>
      obtain ⟨i, z, hi, rfl, rfl, hz1, hz2, hzd, rfl⟩ := hrel
      have HZ := Lib.hid (And.intro hz1 (And.intro hz2 hzd))
      clear hz1 hz2 hzd
      by_cases h1 : (i : Int) < k
      · by_cases h2 : z < m
        · have e2 : wrap64 (2 * z) = 2 * z := IntWalk.wrap64_in _ (by have := HZ.out; omega)
          go_wp2
          go_roundw
          case rel =>
            have hz := HZ.out
            have ho := HO.out
            refine ⟨i + 1, 2 * z, by omega, by go_num, by rw [e2], by omega, by omega, ?_, rfl⟩
            rw [dd_succ ho.1 ho.2.1, ← hz.2.2, Int.min_eq_left (by omega : z ≤ m)]
          case measure => simp [intOf]; omega
        · have hz := HZ.out
          have ho := HO.out
          have hd : dd i b m = m := by rw [← hz.2.2]; omega
          have HE : Hid (dl k b m = m) := by rw [HD.out, dd_stop ho.1 hi hd]; exact rfl
          clear hz ho hd
          go_wp2
          all_goals
            go_ret
            refine ⟨ret_int ?_, rfl⟩
            rw [HE.out]
            try omega
      · have hik : i = k.toNat := by omega
        go_wp2
        all_goals
          go_ret
          refine ⟨ret_int ?_, rfl⟩
          have hz := HZ.out.2.2
          rw [HD.out, ← hik, ← hz]
          omega

theorem quiet_ {f : FuncId} {args : Array Value} {w : World} {n : Nat} {v : Value} (h : Calls Try.prog f args (w.drewN n) fun e w' => e = .returned v ∧ w.drewN n = w') : Calls Try.prog f args (w.drewN n) fun e w'' => e = .returned v ∧ ∃ m, w'' = w.drewN m :=
  Calls.quiet_of_same (h.mono fun _ _ k => ⟨k.1, k.2.symm⟩)
theorem wait_none {k b m j d : Int} (h : may b m j = false) : wt k b m j d = 0 := by unfold wt; rw [h]; rfl
theorem wait_some {k b m j d : Int} (h : may b m j = true) : wt k b m j d = dl k b m + (max d 0) % (j + 1) := by unfold wt; rw [h, delay_some (may_zero h)]; rfl
theorem dl_range (k b m : Int) : 0 ≤ dl k b m ∧ dl k b m ≤ 1073741824 := by
  rcases hm : may b m 0
  · rw [delay_none hm]; omega
  · rw [delay_some hm]
    have ho := may_out hm
    have h1 := dd_ge ho.1 ho.2.1 k.toNat
    have h2 := dd_le k.toNat b m
    omega
set_option maxHeartbeats 800000 in
theorem wait_any (k b m j d : Int) (w : World) : Calls Try.prog 24 #[.int .i64 k, .int .i64 b, .int .i64 m, .int .i64 j, .int .i64 d] w fun e w' => e = .returned (.int .i64 (wt k b m j d)) ∧ Gr w w' := by
  go_enter Try.func24, Try.ntmps24
  go_wp2_with fail
  refine (may_any b m j w).mono ?_
  rintro e wz ⟨rfl, rfl⟩
  rcases hm : may b m j
  · have HD := Lib.hid (wait_none (k := k) (d := d) hm)
    clear hm
    go_wp2
    go_ret
    exact ⟨ret_int HD.out.symm, Gr.refl _⟩
  · have HD := Lib.hid (wait_some (k := k) (d := d) hm)
    have HO := Lib.hid (may_out hm)
    clear hm
    have QD := Lib.hid (fun n => quiet_ (w := w) (n := n) (delay_any k b m (w.drewN n)))
    obtain ⟨J, hJ⟩ : ∃ J, J = j + 1 := ⟨_, rfl⟩
    have e1 : IntKind.i64.wrap (j + 1) = J := by rw [hJ]; exact IntWalk.i64_in _ (by have := HO.out; omega)
    have hJ0 : ¬ J = 0 := by have := HO.out; omega
    have hJ1 : (J == 0) = false := by simpa using hJ0
    rw [← hJ] at HD
    obtain ⟨D, hD⟩ : ∃ D, D = if d < 0 then 0 else d := ⟨_, rfl⟩
    have hDm : max d 0 = D := by omega
    have hD0 : 0 ≤ D := by omega
    have e2 : (if d < 0 then 0 else d) = D := hD.symm
    have hr := Int.emod_nonneg D hJ0
    have hr2 := Int.emod_lt_of_pos D (b := J) (by have := HO.out; omega)
    obtain ⟨R, hR⟩ : ∃ R, R = D % J := ⟨_, rfl⟩
    have e3 : D.tmod J = R := by rw [hR]; exact Int.tmod_eq_emod_of_nonneg hD0
    rw [← hR] at hr hr2
    have e4 : IntKind.i64.wrap R = R := IntWalk.i64_in _ (by have := HO.out; omega)
    have hdl := dl_range k b m
    have e5 : IntKind.i64.wrap (dl k b m + R) = wt k b m j d := by rw [HD.out, hDm, ← hR]; exact IntWalk.i64_in _ (by have := HO.out; omega)
    have HX := Lib.hid (And.intro hr (And.intro hr2 hdl))
    clear hr hr2 hdl hR hD hDm hD0 hJ HD
    obtain ⟨W, hW⟩ : ∃ W, W = wt k b m j d := ⟨_, rfl⟩
    rw [← hW] at e5
    have HW := Lib.hid hW
    clear hW
    generalize dl k b m = L at e5 QD HX
    go_wp2_with fail
    go_quiet (first | (go_at_call 18; exact QD.out _))
    have HG := Lib.hid ((Gr.refl w).drewN nq)
    go_wp2
    go_ret
    exact ⟨ret_int HW.out, HG.out⟩
set_option maxHeartbeats 800000 in
theorem refwait_any (k b m j d : Int) (w : World) (hk : k ≤ 9223372036854775807) : Calls Try.prog 23 #[.int .i64 k, .int .i64 b, .int .i64 m, .int .i64 j, .int .i64 d] w fun e w' => e = .returned (.int .i64 (wt k b m j d)) ∧ Gr w w' := by
  have HK := Lib.hid hk
  clear hk
  go_enter Try.func23, Try.ntmps23
  go_wp2_with fail
  refine (refmay_any b m j w).mono ?_
  rintro e wz ⟨rfl, rfl⟩
  rcases hm : may b m j
  · have HD := Lib.hid (wait_none (k := k) (d := d) hm)
    clear hm
    go_wp2
    go_ret
    exact ⟨ret_int HD.out.symm, Gr.refl _⟩
  · have HD := Lib.hid (wait_some (k := k) (d := d) hm)
    have HO := Lib.hid (may_out hm)
    clear hm
    have QD := Lib.hid (fun n => quiet_ (w := w) (n := n) (refdelay_any k b m (w.drewN n) HK.out))
    obtain ⟨J, hJ⟩ : ∃ J, J = j + 1 := ⟨_, rfl⟩
    have e1 : IntKind.i64.wrap (j + 1) = J := by rw [hJ]; exact IntWalk.i64_in _ (by have := HO.out; omega)
    have hJ0 : ¬ J = 0 := by have := HO.out; omega
    have hJ1 : (J == 0) = false := by simpa using hJ0
    rw [← hJ] at HD
    obtain ⟨D, hD⟩ : ∃ D, D = if d < 0 then 0 else d := ⟨_, rfl⟩
    have hDm : max d 0 = D := by omega
    have hD0 : 0 ≤ D := by omega
    have e2 : (if d < 0 then 0 else d) = D := hD.symm
    have hr := Int.emod_nonneg D hJ0
    have hr2 := Int.emod_lt_of_pos D (b := J) (by have := HO.out; omega)
    obtain ⟨R, hR⟩ : ∃ R, R = D % J := ⟨_, rfl⟩
    have e3 : D.tmod J = R := by rw [hR]; exact Int.tmod_eq_emod_of_nonneg hD0
    rw [← hR] at hr hr2
    have e4 : IntKind.i64.wrap R = R := IntWalk.i64_in _ (by have := HO.out; omega)
    have hdl := dl_range k b m
    have e5 : IntKind.i64.wrap (dl k b m + R) = wt k b m j d := by rw [HD.out, hDm, ← hR]; exact IntWalk.i64_in _ (by have := HO.out; omega)
    have HX := Lib.hid (And.intro hr (And.intro hr2 hdl))
    clear hr hr2 hdl hR hD hDm hD0 hJ HD
    obtain ⟨W, hW⟩ : ∃ W, W = wt k b m j d := ⟨_, rfl⟩
    rw [← hW] at e5
    have HW := Lib.hid hW
    clear hW
    generalize dl k b m = L at e5 QD HX
    go_wp2_with fail
    go_quiet (first | (go_at_call 25; exact QD.out _))
    have HG := Lib.hid ((Gr.refl w).drewN nq)
    go_wp2
    go_ret
    exact ⟨ret_int HW.out, HG.out⟩
theorem int_in {a : Int} (h : (Lit.int .i64 a).wf = true) : -9223372036854775808 ≤ a ∧ a ≤ 9223372036854775807 := by
  simp [Lit.wf, IntKind.min, IntKind.max, IntKind.bits, IntKind.signed] at h
  exact ⟨by omega, by omega⟩
theorem int_le {a : Int} (h : (Lit.int .i64 a).wf = true) : a ≤ 9223372036854775807 := (int_in h).2
end Go.Proofs.Ytadlollgmimajaa.Back
