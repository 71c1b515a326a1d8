/-
  The laws on backoff: their first line; any three numbers that may be; the walks. No condition.
-/
import Derived.Test.YtmhdbnjpbefgiaaBackCode
import Derived.Deep.DeepCutAuto
import Derived.OwnWalk
namespace Go.Proofs.Ytmhdbnjpbefgiaa.Back
set_option linter.unusedVariables false
set_option maxRecDepth 100000
open Go.RowKit Base BackMath
open Go.Proofs.Ytmhdbnjpbefgiaa.Field (modZ modZ_lt mod_any bigZ bigZ_lt playbig_any)
set_option linter.ambiguousOpen false
set_option linter.unusedSimpArgs false

set_option maxHeartbeats 800000 in
theorem awake_any (w : World) : Calls Try.prog 6 #[] w fun e w' => e = .returned (.bool true) ∧ Gr w w' := by
  go_enter Try.func6, Try.ntmps6
  go_wp2_with fail
  refine (may_any 1 2 0 w).mono ?_
  rintro e wz ⟨rfl, rfl⟩
  rw [show may 1 2 0 = true by decide]
  go_wp2_with fail
  refine (may_any 0 2 0 w).mono ?_
  rintro e wz ⟨rfl, rfl⟩
  rw [show may 0 2 0 = false by decide]
  go_wp2_with fail
  refine (delay_any 3 5 100 w).mono ?_
  rintro e wz ⟨rfl, rfl⟩
  rw [show dl 3 5 100 = 40 by decide]
  go_wp2_with fail
  refine (delay_any 1000 5 100 w).mono ?_
  rintro e wz ⟨rfl, rfl⟩
  rw [show dl 1000 5 100 = 100 by rw [delay_some (by decide)]; exact dd_most (by omega) (by omega) (by decide)]
  go_wp2_with fail
  refine (wait_any 1 5 100 3 6 w).mono ?_
  rintro e w1 ⟨rfl, hg⟩
  rw [show wt 1 5 100 3 6 = 12 by decide]
  have HG := Lib.hid hg
  clear hg
  go_wp2
  go_ret
  exact ⟨rfl, HG.out⟩
set_option maxHeartbeats 800000 in
theorem three_any (b m j : Int) (w : World) : Calls Try.prog 13 #[.int .i64 b, .int .i64 m, .int .i64 j] w fun e w' => ∃ B M J : Int, e = .returned (.tuple #[.int .i64 B, .int .i64 M, .int .i64 J]) ∧ may B M J = true ∧ w = w' := by
  go_enter Try.func13, Try.ntmps13
  go_wp2_with fail
  refine (playbig_any b 1073741824 w (by omega) (by omega)).mono ?_
  rintro e wz ⟨rfl, rfl⟩
  have hx := bigZ_lt b (n := 1073741824) (by omega)
  generalize bigZ b 1073741824 = x at hx ⊢
  have e1 : wrap64 (1 + (x : Int)) = 1 + x := IntWalk.wrap64_in _ (by omega)
  have HX := Lib.hid hx
  clear hx
  by_cases h3 : b.tmod 3 = 0
  · have h3' : (b.tmod 3 == 0) = true := by simpa using h3
    clear e1 HX
    go_wp2_with fail
    refine (playbig_any b 9 w (by omega) (by omega)).mono ?_
    rintro e wz ⟨rfl, rfl⟩
    have hx := bigZ_lt b (n := 9) (by omega)
    generalize bigZ b 9 = x at hx ⊢
    have e1 : wrap64 (1 + (x : Int)) = 1 + x := IntWalk.wrap64_in _ (by omega)
    have HX : Hid (x < 1073741824) := Lib.hid (by omega)
    clear hx
    obtain ⟨n, hn⟩ : ∃ n : Nat, n = 1073741824 - x := ⟨_, rfl⟩
    have e2 : wrap64 (1073741824 - (1 + (x : Int))) = 1073741824 - (1 + x) := IntWalk.wrap64_in _ (by have := HX.out; omega)
    have e3 : wrap64 (1073741824 - (1 + (x : Int)) + 1) = n := by rw [IntWalk.wrap64_in _ (by have := HX.out; omega)]; have := HX.out; omega
    have HN : Hid (x + n = 1073741824 ∧ 1 ≤ n) := by have := HX.out; exact Lib.hid ⟨by omega, by omega⟩
    clear hn
    go_wp2_with fail
    try rw [e1, e2, e3]
    refine (playbig_any m n w (by have := HN.out; omega) (by have := HN.out; omega)).mono ?_
    rintro e wz ⟨rfl, rfl⟩
    have hy := bigZ_lt m (n := n) (by have := HN.out; omega)
    generalize bigZ m n = y at hy ⊢
    have e4 : wrap64 (1 + (x : Int) + y) = 1 + x + y := IntWalk.wrap64_in _ (by have := HN.out; omega)
    have HY := Lib.hid hy
    clear hy
    go_wp2_with fail
    refine (playbig_any j 1073741825 w (by omega) (by omega)).mono ?_
    rintro e wz ⟨rfl, rfl⟩
    have hz := bigZ_lt j (n := 1073741825) (by omega)
    generalize bigZ j 1073741825 = z at hz ⊢
    have HZ := Lib.hid hz
    clear hz
    go_wp2
    go_ret3
    exact ⟨1 + x, 1 + x + y, z, rfl, may_in (by have := HN.out; have := HX.out; have := HY.out; have := HZ.out; omega), rfl⟩
  · have h3' : (b.tmod 3 == 0) = false := by simpa using h3
    obtain ⟨n, hn⟩ : ∃ n : Nat, n = 1073741824 - x := ⟨_, rfl⟩
    have e2 : wrap64 (1073741824 - (1 + (x : Int))) = 1073741824 - (1 + x) := IntWalk.wrap64_in _ (by have := HX.out; omega)
    have e3 : wrap64 (1073741824 - (1 + (x : Int)) + 1) = n := by rw [IntWalk.wrap64_in _ (by have := HX.out; omega)]; have := HX.out; omega
    have HN : Hid (x + n = 1073741824 ∧ 1 ≤ n) := by have := HX.out; exact Lib.hid ⟨by omega, by omega⟩
    clear hn
    go_wp2_with fail
    try rw [e1, e2, e3]
    refine (playbig_any m n w (by have := HN.out; omega) (by have := HN.out; omega)).mono ?_
    rintro e wz ⟨rfl, rfl⟩
    have hy := bigZ_lt m (n := n) (by have := HN.out; omega)
    generalize bigZ m n = y at hy ⊢
    have e4 : wrap64 (1 + (x : Int) + y) = 1 + x + y := IntWalk.wrap64_in _ (by have := HN.out; omega)
    have HY := Lib.hid hy
    clear hy
    go_wp2_with fail
    refine (playbig_any j 1073741825 w (by omega) (by omega)).mono ?_
    rintro e wz ⟨rfl, rfl⟩
    have hz := bigZ_lt j (n := 1073741825) (by omega)
    generalize bigZ j 1073741825 = z at hz ⊢
    have HZ := Lib.hid hz
    clear hz
    go_wp2
    go_ret3
    exact ⟨1 + x, 1 + x + y, z, rfl, may_in (by have := HN.out; have := HX.out; have := HY.out; have := HZ.out; omega), rfl⟩
set_option maxHeartbeats 1600000 in
theorem all_walk (k b m j d : Int) (w : World) (hk : k ≤ 9223372036854775807) : Calls Try.prog 3 #[.int .i64 k, .int .i64 b, .int .i64 m, .int .i64 j, .int .i64 d] w fun e w' => e = .returned (.bool true) ∧ Below w.heap.size w w' := by
  have HK := Lib.hid hk
  clear hk
  go_enter Try.func3, Try.ntmps3
  go_wp2_with fail
  refine (awake_any w).mono ?_
  rintro e w1 ⟨rfl, hg1⟩
  have HG1 := Lib.hid hg1
  clear hg1
  go_wp2_with fail
  refine (may_any b m j w1).mono ?_
  rintro e wz ⟨rfl, rfl⟩
  go_wp2_with fail
  refine (refmay_any b m j w1).mono ?_
  rintro e wz ⟨rfl, rfl⟩
  generalize may b m j = x
  go_wp2_with fail
  refine (delay_any k b m w1).mono ?_
  rintro e wz ⟨rfl, rfl⟩
  go_wp2_with fail
  refine (refdelay_any k b m w1 HK.out).mono ?_
  rintro e wz ⟨rfl, rfl⟩
  generalize dl k b m = y
  go_wp2_with fail
  refine (wait_any k b m j d w1).mono ?_
  rintro e w2 ⟨rfl, hg2⟩
  have HG2 := Lib.hid (HG1.out.trans hg2)
  clear hg2
  go_wp2_with fail
  refine (refwait_any k b m j d w2 HK.out).mono ?_
  rintro e w3 ⟨rfl, hg3⟩
  have HG3 := Lib.hid (HG2.out.trans hg3)
  clear hg3
  generalize wt k b m j d = z
  go_wp2
  go_ret
  exact ⟨rfl, HG3.out.below⟩
set_option maxHeartbeats 1600000 in
theorem most_walk (k b m : Int) (w : World) : Calls Try.prog 5 #[.int .i64 k, .int .i64 b, .int .i64 m] w fun e w' => e = .returned (.bool true) ∧ Below w.heap.size w w' := by
  go_enter Try.func5, Try.ntmps5
  go_wp2_with fail
  refine (three_any b m 0 w).mono ?_
  rintro e wz ⟨B, M, J, rfl, hm, rfl⟩
  have HM := Lib.hid (may_zero hm)
  clear hm
  go_wp2_with fail
  refine (mod_any k 1099511627776 w (by omega) (by omega)).mono ?_
  rintro e wz ⟨rfl, rfl⟩
  have hx := modZ_lt k (n := 1099511627776) (by omega)
  generalize modZ k 1099511627776 = x at hx ⊢
  have e1 : wrap64 (40 + (x : Int)) = 40 + x := IntWalk.wrap64_in _ (by omega)
  have e2 : wrap64 (-1 - (40 + (x : Int))) = -1 - (40 + x) := IntWalk.wrap64_in _ (by omega)
  clear hx
  go_wp2_with fail
  refine (awake_any w).mono ?_
  rintro e w1 ⟨rfl, hg1⟩
  have HG1 := Lib.hid hg1
  clear hg1
  have E1 : dl (40 + (x : Int)) B M = M := by
    have ho := may_out HM.out
    rw [delay_some HM.out]
    exact dd_most ho.1 ho.2.2.1 (by omega)
  have E2 : dl 0 B M = B := by
    have ho := may_out HM.out
    rw [delay_some HM.out]
    exact dd_zero ho.2.1
  have E3 : dl (-1 - (40 + (x : Int))) B M = B := by
    have ho := may_out HM.out
    rw [delay_some HM.out, show (-1 - (40 + (x : Int))).toNat = 0 by omega]
    exact dd_zero ho.2.1
  have H1 := Lib.hid E1
  have H2 := Lib.hid E2
  have H3 := Lib.hid E3
  clear E1 E2 E3
  go_wp2_with fail
  try rw [e1]
  refine (delay_any (40 + (x : Int)) B M w1).mono ?_
  rintro e wz ⟨rfl, rfl⟩
  rw [H1.out]
  go_wp2_with fail
  refine (delay_any 0 B M w1).mono ?_
  rintro e wz ⟨rfl, rfl⟩
  rw [H2.out]
  go_wp2_with fail
  try rw [e2]
  refine (delay_any (-1 - (40 + (x : Int))) B M w1).mono ?_
  rintro e wz ⟨rfl, rfl⟩
  rw [H3.out]
  go_wp2
  go_ret
  exact ⟨rfl, HG1.out.below⟩
theorem bounds_ {N B M J d : Int} (h : may B M J = true) : 1 ≤ B ∧ M ≤ 1073741824 ∧ 0 ≤ J ∧ J ≤ 1073741824 ∧ B ≤ dl N B M ∧ dl N B M ≤ M ∧ dl N B M ≤ wt N B M J d ∧ wt N B M J d ≤ dl N B M + J ∧ (d < 0 → wt N B M J d = dl N B M) := by
  have ho := may_out h
  rw [wait_some h, delay_some (may_zero h)]
  have h1 := dd_ge ho.1 ho.2.1 N.toNat
  have h2 := dd_le N.toNat B M
  have h3 := Int.emod_nonneg (max d 0) (b := J + 1) (by omega)
  have h4 := Int.emod_lt_of_pos (max d 0) (b := J + 1) (by omega)
  have h5 : d < 0 → max d 0 % (J + 1) = 0 := fun hd => by rw [show max d 0 = 0 by omega, Int.zero_emod]
  omega
theorem steps_ {N B M J : Int} (h : may B M J = true) : (N < 0 → dl N B M = B) ∧ (N = 9223372036854775807 → dl N B M = M) ∧ (0 ≤ N → dl N B M ≤ dl (N + 1) B M ∧ (dl (N + 1) B M = M ∨ dl (N + 1) B M = 2 * dl N B M)) := by
  have ho := may_out h
  have hz := may_zero h
  rw [delay_some hz, delay_some hz]
  have h2 := dd_le N.toNat B M
  have h1 := dd_ge ho.1 ho.2.1 N.toNat
  refine ⟨fun hn => ?_, fun hn => ?_, fun hn => ?_⟩
  · rw [show N.toNat = 0 by omega]; exact dd_zero ho.2.1
  · exact dd_most ho.1 ho.2.2.1 (by omega)
  · rw [show (N + 1).toNat = N.toNat + 1 by omega, dd_succ ho.1 ho.2.1]
    rcases Int.le_total (2 * dd N.toNat B M) M with hh | hh
    · rw [Int.min_eq_left hh]; omega
    · rw [Int.min_eq_right hh]; omega
set_option maxHeartbeats 3200000 in
theorem bounds_walk (k b m j d : Int) (w : World) (hk : -9223372036854775808 ≤ k ∧ k ≤ 9223372036854775807) : Calls Try.prog 4 #[.int .i64 k, .int .i64 b, .int .i64 m, .int .i64 j, .int .i64 d] w fun e w' => e = .returned (.bool true) ∧ Below w.heap.size w w' := by
  have HK := Lib.hid hk
  clear hk
  go_enter Try.func4, Try.ntmps4
  go_wp2_with fail
  refine (three_any b m j w).mono ?_
  rintro e wz ⟨B, M, J, rfl, hm, rfl⟩
  have HM := Lib.hid hm
  clear hm
  by_cases h3 : k.tmod 4 = 3
  · have h3' : (k.tmod 4 == 3) = true := by simpa using h3
    obtain ⟨N, hN⟩ : ∃ N, N = k := ⟨_, rfl⟩
    have HN := Lib.hid hN.symm
    have HR : Hid (-9223372036854775808 ≤ N ∧ N ≤ 9223372036854775807) := Lib.hid (by rw [hN]; exact HK.out)
    clear hN
    go_wp2_with fail
    try rw [HN.out]
    refine (delay_any N B M w).mono ?_
    rintro e wz ⟨rfl, rfl⟩
    go_wp2_with fail
    refine (wait_any N B M J d w).mono ?_
    rintro e w1 ⟨rfl, hg1⟩
    have HG1 := Lib.hid hg1
    clear hg1
    go_wp2_with fail
    refine (awake_any w1).mono ?_
    rintro e w2 ⟨rfl, hg2⟩
    have HG2 := Lib.hid (HG1.out.trans hg2)
    clear hg2
    have hf := bounds_ (N := N) (d := d) HM.out
    have hs := steps_ (N := N) HM.out
    generalize wt N B M J d = W at hf ⊢
    have HS := Lib.hid hs
    clear hs
    generalize hL : dl N B M = L at hf HS ⊢
    clear hL
    have h1 : ¬ L < B := by omega
    have h2 : ¬ M < L := by omega
    have h3 : ¬ W < L := by omega
    have e1 : wrap64 (L + J) = L + J := IntWalk.wrap64_in _ (by omega)
    have h4 : ¬ L + J < W := by omega
    have h5 : d < 0 → W = L := by omega
    have H5 := Lib.hid h5
    have e2 : wrap64 (2 * L) = 2 * L := IntWalk.wrap64_in _ (by omega)
    clear hf h5
    by_cases hd : d < 0
    · obtain rfl := H5.out hd
      by_cases hn : N < 0
      · obtain rfl := HS.out.1 hn
        go_wp2
        go_ret
        exact ⟨ret_bool (by simp), HG2.out.below⟩
      · by_cases hx : N = 9223372036854775807
        · subst hx
          obtain rfl := HS.out.2.1 rfl
          go_wp2
          go_ret
          exact ⟨ret_bool (by simp), HG2.out.below⟩
        · have hx' : (N == 9223372036854775807) = false := by simpa using hx
          have hN : wrap64 (N + 1) = N + 1 := IntWalk.wrap64_in _ (by have := HR.out; omega)
          go_wp2_with fail
          try rw [hN]
          refine (delay_any (N + 1) B M w2).mono ?_
          rintro e wz ⟨rfl, rfl⟩
          obtain ⟨k1, k2⟩ := HS.out.2.2 (by omega)
          generalize dl (N + 1) B M = E at k1 k2 ⊢
          clear HS
          by_cases hE : E = M
          · subst hE
            go_wp2
            go_ret
            exact ⟨ret_bool (by simp), HG2.out.below⟩
          · obtain rfl := k2.resolve_left hE
            have hE2 := beq_eq_false_iff_ne.2 hE
            go_wp2
            go_ret
            exact ⟨ret_bool (by simp), HG2.out.below⟩
    · by_cases hn : N < 0
      · obtain rfl := HS.out.1 hn
        go_wp2
        go_ret
        exact ⟨ret_bool (by simp), HG2.out.below⟩
      · by_cases hx : N = 9223372036854775807
        · subst hx
          obtain rfl := HS.out.2.1 rfl
          go_wp2
          go_ret
          exact ⟨ret_bool (by simp), HG2.out.below⟩
        · have hx' : (N == 9223372036854775807) = false := by simpa using hx
          have hN : wrap64 (N + 1) = N + 1 := IntWalk.wrap64_in _ (by have := HR.out; omega)
          go_wp2_with fail
          try rw [hN]
          refine (delay_any (N + 1) B M w2).mono ?_
          rintro e wz ⟨rfl, rfl⟩
          obtain ⟨k1, k2⟩ := HS.out.2.2 (by omega)
          generalize dl (N + 1) B M = E at k1 k2 ⊢
          clear HS
          by_cases hE : E = M
          · subst hE
            go_wp2
            go_ret
            exact ⟨ret_bool (by simp), HG2.out.below⟩
          · obtain rfl := k2.resolve_left hE
            have hE2 := beq_eq_false_iff_ne.2 hE
            go_wp2
            go_ret
            exact ⟨ret_bool (by simp), HG2.out.below⟩
  · have h3' : (k.tmod 4 == 3) = false := by simpa using h3
    go_wp2_with fail
    refine (mod_any k 40 w (by omega) (by omega)).mono ?_
    rintro e wz ⟨rfl, rfl⟩
    have hx := modZ_lt k (n := 40) (by omega)
    generalize modZ k 40 = x at hx ⊢
    obtain ⟨N, hN⟩ : ∃ N : Int, N = x := ⟨_, rfl⟩
    have HN := Lib.hid hN.symm
    have HR : Hid (-9223372036854775808 ≤ N ∧ N ≤ 9223372036854775807) := Lib.hid (by omega)
    clear hN hx
    go_wp2_with fail
    try rw [HN.out]
    refine (delay_any N B M w).mono ?_
    rintro e wz ⟨rfl, rfl⟩
    go_wp2_with fail
    refine (wait_any N B M J d w).mono ?_
    rintro e w1 ⟨rfl, hg1⟩
    have HG1 := Lib.hid hg1
    clear hg1
    go_wp2_with fail
    refine (awake_any w1).mono ?_
    rintro e w2 ⟨rfl, hg2⟩
    have HG2 := Lib.hid (HG1.out.trans hg2)
    clear hg2
    have hf := bounds_ (N := N) (d := d) HM.out
    have hs := steps_ (N := N) HM.out
    generalize wt N B M J d = W at hf ⊢
    have HS := Lib.hid hs
    clear hs
    generalize hL : dl N B M = L at hf HS ⊢
    clear hL
    have h1 : ¬ L < B := by omega
    have h2 : ¬ M < L := by omega
    have h3 : ¬ W < L := by omega
    have e1 : wrap64 (L + J) = L + J := IntWalk.wrap64_in _ (by omega)
    have h4 : ¬ L + J < W := by omega
    have h5 : d < 0 → W = L := by omega
    have H5 := Lib.hid h5
    have e2 : wrap64 (2 * L) = 2 * L := IntWalk.wrap64_in _ (by omega)
    clear hf h5
    by_cases hd : d < 0
    · obtain rfl := H5.out hd
      by_cases hn : N < 0
      · obtain rfl := HS.out.1 hn
        go_wp2
        go_ret
        exact ⟨ret_bool (by simp), HG2.out.below⟩
      · by_cases hx : N = 9223372036854775807
        · subst hx
          obtain rfl := HS.out.2.1 rfl
          go_wp2
          go_ret
          exact ⟨ret_bool (by simp), HG2.out.below⟩
        · have hx' : (N == 9223372036854775807) = false := by simpa using hx
          have hN : wrap64 (N + 1) = N + 1 := IntWalk.wrap64_in _ (by have := HR.out; omega)
          go_wp2_with fail
          try rw [hN]
          refine (delay_any (N + 1) B M w2).mono ?_
          rintro e wz ⟨rfl, rfl⟩
          obtain ⟨k1, k2⟩ := HS.out.2.2 (by omega)
          generalize dl (N + 1) B M = E at k1 k2 ⊢
          clear HS
          by_cases hE : E = M
          · subst hE
            go_wp2
            go_ret
            exact ⟨ret_bool (by simp), HG2.out.below⟩
          · obtain rfl := k2.resolve_left hE
            have hE2 := beq_eq_false_iff_ne.2 hE
            go_wp2
            go_ret
            exact ⟨ret_bool (by simp), HG2.out.below⟩
    · by_cases hn : N < 0
      · obtain rfl := HS.out.1 hn
        go_wp2
        go_ret
        exact ⟨ret_bool (by simp), HG2.out.below⟩
      · by_cases hx : N = 9223372036854775807
        · subst hx
          obtain rfl := HS.out.2.1 rfl
          go_wp2
          go_ret
          exact ⟨ret_bool (by simp), HG2.out.below⟩
        · have hx' : (N == 9223372036854775807) = false := by simpa using hx
          have hN : wrap64 (N + 1) = N + 1 := IntWalk.wrap64_in _ (by have := HR.out; omega)
          go_wp2_with fail
          try rw [hN]
          refine (delay_any (N + 1) B M w2).mono ?_
          rintro e wz ⟨rfl, rfl⟩
          obtain ⟨k1, k2⟩ := HS.out.2.2 (by omega)
          generalize dl (N + 1) B M = E at k1 k2 ⊢
          clear HS
          by_cases hE : E = M
          · subst hE
            go_wp2
            go_ret
            exact ⟨ret_bool (by simp), HG2.out.below⟩
          · obtain rfl := k2.resolve_left hE
            have hE2 := beq_eq_false_iff_ne.2 hE
            go_wp2
            go_ret
            exact ⟨ret_bool (by simp), HG2.out.below⟩
end Go.Proofs.Ytmhdbnjpbefgiaa.Back
