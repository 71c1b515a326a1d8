/-
  The walk of the law on segments that are cut off anywhere.
-/
import Derived.Test.YthffmojmfghbiaaSegLaws
import Derived.Deep.DeepCutAuto
namespace Go.Proofs.Ythffmojmfghbiaa.Seg
open Go.RowKit Base FieldMath RecMath SegMath
open Go.Proofs.Ythffmojmfghbiaa.Field Go.Proofs.Ythffmojmfghbiaa.Rec Help
set_option linter.ambiguousOpen false

/-! ### cut off anywhere -/
def FrontRel (w : World) (A : Option Addr) (c : Nat) (v : Value) (wx : World) : Prop := ∃ m ms, m ≤ 30 ∧ v = .slice A m c ∧ Lists w w.heap.size A m c ms ∧ w = wx

set_option maxRecDepth 100000 in
set_option maxHeartbeats 3200000 in
theorem back_walk (x : Int) (A : Option Addr) (n c : Nat) (ls : List (List UInt8)) (cut : Int) (w : World) (hr : Lists w w.heap.size A n c ls) :
    Calls Try.prog 5 #[.int .i64 x, .slice A n c, .int .i64 cut] w fun e w' => e = .returned (.bool true) ∧ Below w.heap.size w w' := by
  have hle := hr.le
  have HR := Lib.hid hr
  clear hr
  go_enter Try.func5, Try.ntmps5
  go_wp2_with fail
  refine (playbig_any x 1099511627776 w (by omega) (by omega)).mono ?_
  rintro e w1 ⟨rfl, rfl⟩
  have hy := made_num x
  generalize bigZ x 1099511627776 = y at hy
  go_upto_region 2 with fail
  go_cut [1] (fun v wx => FrontRel w A c v wx)
  case first =>
    by_cases h30 : n ≤ 30
    · go_wp2_with fail
      go_meet
      exact ⟨n, ls, h30, rfl, HR.out, rfl⟩
    · go_wp2_with fail
      go_meet
      exact ⟨30, ls.take 30, by omega, rfl, HR.out.front (by omega), rfl⟩
  case rest =>
    obtain ⟨m, ms, hm, rfl, hl, rfl⟩ := hcut
    have hlm := hl.le
    have HML := Lib.hid hl.len
    have HL := Lib.hid hl
    clear hl HR
    go_wp2
    go_loopw [8] (fun i wr => ∃ k : Nat, k ≤ m ∧ i = .int .i64 k ∧ (∀ p ∈ ms.take k, p.length ≤ 5000) ∧ w = wr) (fun i _ => m - (intOf i).toNat)
    case atStart => exact ⟨0, by omega, rfl, fun p hp => by simp at hp, rfl⟩
    case round =>
      obtain ⟨k, hk, rfl, hps, rfl⟩ := hrel
      have HPS := Lib.hid hps
      clear hps
      by_cases hlt : k < m
      · obtain ⟨b, off, Ap, np, cp, p, rfl, hb, hcell, hyp, hget, htake⟩ := HL.out.at_ hlt
        have HT := Lib.hid htake
        have HPL := Lib.hid hyp.len
        clear hyp htake hget
        by_cases hbig : 5000 < np
        · go_wp2_with (go_at_call 10; refine (awake_any _).mono ?_; rintro e w1 ⟨rfl, hb1⟩; have HB1 := Lib.hid hb1; clear hb1)
          go_ret
          exact ⟨rfl, HB1.out⟩
        · go_wp2
          go_roundw
          case rel =>
            refine ⟨k + 1, by omega, by go_num, fun q hq => ?_, by trivial⟩
            rw [HT.out, List.mem_append] at hq
            rcases hq with hq | hq
            · exact HPS.out q hq
            · simp at hq
              subst hq
              rw [HPL.out]
              omega
          case measure => simp [intOf]; omega
      · obtain rfl : k = m := by omega
        have HP : Hid (∀ p ∈ ms, p.length ≤ 1048576) := by
          intro p hp
          have := HPS.out p (by rw [List.take_of_length_le (by rw [HML.out]; omega)]; exact hp)
          omega
        have HBB : Hid (bytesB (1 + (y : Int)) ms = headB (1 + (y : Int)) ++ recs ms) := by
          show bytesB (1 + (y : Int)) ms = _
          rw [bytesB, List.take_of_length_le (by rw [HML.out]; omega), putB_recs ms HP.out]
        clear HPS hlt
        go_wp2_with fail
        refine (bytes_any w.heap.size _ A k c ms _ HL.out (Nat.le_refl _) hy.1 hy.2).mono ?_
        rintro e w2 ⟨A2, ln, c2, rfl, ho2, hb2⟩
        have hlen := bytesB_len (1 + (y : Int)) ms
        rw [own_len ho2] at hlen
        rw [HBB.out] at ho2
        have HLN := Lib.hid (own_len ho2)
        have HY2 := Lib.hid (Bytes.of_own ho2)
        have HB2 := Lib.hid hb2
        clear ho2 hb2
        go_wp2_with fail
        refine (segread_any _ A2 ln c2 _ _ HY2.out (Nat.le_refl _) (by omega)).mono ?_
        rintro e w3 h3
        obtain ⟨A3, n3, c3, hn3, rfl, hl3, hb3⟩ := segread_val h3 (sread_all hy.1 hy.2 ms HP.out)
        rw [HML.out] at hn3
        subst hn3
        rw [HLN.out]
        have HB3 := Lib.hid (held_two HB2.out hb3)
        have HY3 := Lib.hid (HY2.out.below hb3)
        have HL3 := Lib.hid hl3
        have hz3 := hb3.size
        clear h3 hl3 hb3
        go_wp2_with fail
        refine (awake_any _).mono ?_
        rintro e w4 ⟨rfl, hb4⟩
        have HB4 := Lib.hid (held_two HB3.out hb4)
        have HY4 := Lib.hid (HY3.out.below (hb4.mono hz3))
        have HL4 := Lib.hid (HL3.out.below hb4)
        have hz4 := hb4.size
        clear hb4
        go_wp2_with fail
        refine (many_same _ _ _ _ _ _ _ _ _ HL4.out (HL.out.below HB4.out) hz4 HB4.out.size).mono ?_
        rintro e w5 ⟨rfl, hb5⟩
        have HB5 := Lib.hid (held_two HB4.out hb5)
        have HY5 := Lib.hid (HY4.out.below (hb5.mono (by omega)))
        have hz5 : w2.heap.size ≤ w5.heap.size := by have := hb5.size; omega
        clear hb5 HL3 HL4
        go_wp2_with fail
        refine (mod_any cut ln _ (by omega) (by omega)).mono ?_
        rintro e w6 ⟨rfl, rfl⟩
        have hi := modZ_lt cut (n := ln) (by omega)
        generalize modZ cut ln = i at hi
        have HY6 := Lib.hid (HY5.out.front (k := i) (by omega))
        have hc2 := HY5.out.le
        have hic : i ≤ c2 := by omega
        go_wp2_with fail
        refine (segread_any _ A2 i c2 _ _ HY6.out hz5 (by omega)).mono ?_
        rintro e w6 h6
        by_cases h19 : i < 19
        · obtain ⟨A6, n6, c6, hn6, rfl, _, hb6⟩ := segread_val h6 (sread_cut (x := 1 + (y : Int)) (recs ms) h19)
          simp at hn6
          subst hn6
          have HB6 := Lib.hid (held_two HB5.out hb6)
          clear h6 hb6
          go_wp2
          go_ret
          exact ⟨rfl, HB6.out⟩
        · obtain ⟨q, sz, hq, hsz, hsr⟩ := sread_some hy.1 hy.2 ms HP.out (m := i) (by omega) (by rw [HLN.out]; exact hi)
          obtain ⟨A6, n6, c6, hn6, rfl, hl6, hb6⟩ := segread_val h6 hsr
          rw [HML.out] at hq
          rw [List.length_take, HML.out, Nat.min_eq_left (by omega)] at hn6
          subst hn6
          have HB6 := Lib.hid (held_two HB5.out hb6)
          have HL6 := Lib.hid hl6
          clear h6 hb6 hl6 hsr
          go_wp2_with fail
          refine (many_same _ _ _ _ _ _ _ _ _ HL6.out ((HL.out.below HB6.out).front (by omega)) (Nat.le_refl _) HB6.out.size).mono ?_
          rintro e w7 ⟨rfl, hb7⟩
          have HB7 := Lib.hid (held_two HB6.out hb7)
          clear hb7
          go_wp2
          go_ret
          exact ⟨rfl, HB7.out⟩
end Go.Proofs.Ythffmojmfghbiaa.Seg
