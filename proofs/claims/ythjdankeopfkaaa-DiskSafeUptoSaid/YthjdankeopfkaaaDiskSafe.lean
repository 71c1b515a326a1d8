/-
  The walk of DiskSafe: what was safe is there behind a crash, and of what was not a beginning, as long as was said.
-/
import Derived.Test.YthjdankeopfkaaaDiskBase
import Derived.Deep.DeepCutAuto
namespace Go.Proofs.Ythjdankeopfkaaa.Disk
open Go.RowKit Base DiskMath
set_option linter.ambiguousOpen false

theorem val_s1 (s : List UInt8) : append none_ 3 s = (0, ⟨[⟨3, s, 0⟩], 0, false, 1⟩) := rfl
theorem val_s2 (s : List UInt8) : sync ⟨[⟨3, s, 0⟩], 0, false, 1⟩ 3 = (0, ⟨[⟨3, s, s.length⟩], 0, false, 2⟩) := rfl
theorem val_s3 (s m : List UInt8) : append ⟨[⟨3, s, s.length⟩], 0, false, 2⟩ 3 m = (0, ⟨[⟨3, s ++ m, s.length⟩], 0, false, 3⟩) := rfl
theorem val_s4 (s m : List UInt8) (k : Int) : crash ⟨[⟨3, s ++ m, s.length⟩], 0, false, 3⟩ [k] = ⟨[⟨3, s ++ m.take (k.toNat % (m.length + 1)), s.length + k.toNat % (m.length + 1)⟩], 0, false, 3⟩ := by
  have e : keeps k ⟨3, s ++ m, s.length⟩ = s.length + k.toNat % (m.length + 1) := by
    unfold keeps
    dsimp only
    rw [List.length_append, Nat.add_sub_cancel_left]
  have e2 : (s ++ m).take (s.length + k.toNat % (m.length + 1)) = s ++ m.take (k.toNat % (m.length + 1)) := by
    rw [List.take_append, List.take_of_length_le (by omega)]
    congr 2
    omega
  show (⟨[setl k ⟨3, s ++ m, s.length⟩], 0, false, 3⟩ : Dk) = _
  unfold setl
  dsimp only
  rw [e, e2]

set_option maxRecDepth 100000 in
set_option maxHeartbeats 1600000 in
theorem safe_walk (B : Nat) (A A' : Option Addr) (n c n' c' : Nat) (s m : List UInt8) (k : Int) (w : World) (hs : Bytes w B A n c s) (hm : Bytes w B A' n' c' m) (hB : B ≤ w.heap.size) (hn : n ≤ 1048576) (hn' : n' ≤ 1048576) (hk : I64 k) :
    Calls Try.prog 4 #[.slice A n c, .slice A' n' c', .int .i64 k] w fun e w' => e = .returned (.bool true) ∧ Below w.heap.size w w' := by
  have hls := hs.len
  have hlm := hm.len
  have hle := hm.le
  have HS := Lib.hid hs
  have HM := Lib.hid hm
  have HK := Lib.hid hk
  obtain ⟨j, hj⟩ : ∃ j, j = k.toNat % (m.length + 1) := ⟨_, rfl⟩
  have hjl : j ≤ n' := by have := Nat.mod_lt k.toNat (show m.length + 1 > 0 by omega); omega
  have H4 : Hid (crash ⟨[⟨3, s ++ m, s.length⟩], 0, false, 3⟩ [k] = ⟨[⟨3, s ++ m.take j, s.length + j⟩], 0, false, 3⟩) := by rw [hj]; exact val_s4 s m k
  have HJ := Lib.hid hj
  have HLS := Lib.hid hls
  have HLM := Lib.hid hlm
  clear hs hm hj hls hlm hk
  go_enter Try.func4, Try.ntmps4
  go_wp2_with fail
  refine (new_b w).mono ?_
  rintro e w1 ⟨g, rfl, hd, hb⟩
  have HD1 := Lib.hid hd
  have HB1 := Lib.hid hb
  clear hd hb
  go_wp2_with fail
  refine (append_b w.heap.size g none_ 3 B A n c s _ 0 _ HD1.out HB1.out.size ⟨by decide, by decide⟩ (HS.out.below (HB1.out.mono hB)) (Nat.le_trans hB HB1.out.size) (by omega) (fun x hx => by cases hx) (val_s1 s)).mono ?_
  rintro e w2 ⟨rfl, hd, hb⟩
  have HD2 := Lib.hid hd
  have HB2 := Lib.hid (HB1.out.trans hb)
  clear hd hb HD1 HB1
  go_wp2_with fail
  refine (sync_b w.heap.size g _ 3 _ 0 _ HD2.out HB2.out.size (fits_of _ _ _ _ (by omega) (by omega)) (val_s2 s)).mono ?_
  rintro e w3 ⟨rfl, hd, hb⟩
  have HD3 := Lib.hid hd
  have HB3 := Lib.hid (HB2.out.trans hb)
  clear hd hb HD2 HB2
  go_wp2_with fail
  refine (append_b w.heap.size g _ 3 B A' n' c' m _ 0 _ HD3.out HB3.out.size (fits_of _ _ _ _ (by omega) (by omega)) (HM.out.below (HB3.out.mono hB)) (Nat.le_trans hB HB3.out.size) (by omega) (fun x hx => by obtain rfl : _ = x := Option.some.inj hx; dsimp only; rw [HLS.out]; omega) (val_s3 s m)).mono ?_
  rintro e w4 ⟨rfl, hd, hb⟩
  have HD4 := Lib.hid hd
  have HB4 := Lib.hid (HB3.out.trans hb)
  clear hd hb HD3 HB3
  go_wp2_with fail
  refine (crash_b w.heap.size g _ _ _ 1 1 [k] w4 HD4.out HB4.out.size (one_num w4 _ k rfl) (fun a ha => by injection ha with ha; rw [← ha]) (one_i64 HK.out) (fun x hx => by simp at hx; subst hx; simp; rw [HLS.out, HLM.out]; omega) H4.out).mono ?_
  rintro e w5 ⟨rfl, hd, hb⟩
  have HD5 := Lib.hid hd
  have HB5 := Lib.hid (HB4.out.trans hb)
  clear hd hb HD4 HB4
  go_upto_if 36 with fail
  go_cut [8] (fun v wx => v = .int .i64 j ∧ w5 = wx)
  case first =>
    by_cases h0 : 0 < k
    · obtain ⟨kn, rfl⟩ := Int.eq_ofNat_of_zero_le (show 0 ≤ k by omega)
      go_wp2_with fail
      go_meet
      refine ⟨congrArg (Value.int .i64) ?_, rfl⟩
      rw [HJ.out, HLM.out]
      simp
    · go_wp2_with fail
      go_meet
      refine ⟨congrArg (Value.int .i64) ?_, rfl⟩
      rw [HJ.out, show k.toNat = 0 by omega, Nat.zero_mod]
      rfl
  case rest =>
    obtain ⟨rfl, rfl⟩ := hcut
    go_wp2_with fail
    refine (read_yes _ g _ 3 _ _ HD5.out ⟨by omega, by omega⟩ rfl (by simp; rw [HLS.out]; omega)).mono ?_
    rintro e w6 ⟨A6, c6, rfl, hown, hb⟩
    dsimp only at hown ⊢
    have hl6 : (s ++ m.take j).length = n + j := by rw [List.length_append, HLS.out, take_len (by rw [HLM.out]; exact hjl)]
    obtain ⟨N, hN⟩ : ∃ N, N = n + j := ⟨_, rfl⟩
    have HN := Lib.hid hN
    rw [hl6, ← hN] at hown
    rw [hl6, ← hN]
    have HY6 : Hid (Bytes w6 w6.heap.size A6 N c6 (s ++ m.take j)) := Bytes.of_own hown
    have HD6 := Lib.hid (HD5.out.new hb)
    have HB6 := Lib.hid (HB5.out.trans (hb.mono HB5.out.size))
    clear hown hb HD5 HB5 hl6 hN
    have HS6 := Lib.hid (HS.out.below (HB6.out.mono hB))
    have HM6 := Lib.hid ((HM.out.below (HB6.out.mono hB)).front hjl)
    have hB6 := Nat.le_trans hB HB6.out.size
    have hjc : (j : Int) ≤ (c' : Int) := by omega
    have hadd := str_cat s (m.take j)
    have hroom := str_room s (m.take j) (by rw [HLS.out]; omega) (by rw [take_len (by rw [HLM.out]; exact hjl)]; omega)
    have HC : Hid (∀ w', Below w6.heap.size w6 w' → (convert 30 9 (.slice A6 N c6)).run Try.prog w' = .ok (.string (str (s ++ m.take j))) w' ∧ (convert 30 9 (.slice A n c)).run Try.prog w' = .ok (.string (str s)) w' ∧
        (convert 30 9 (.slice A' j c')).run Try.prog w' = .ok (.string (str (m.take j))) w' ∧ Below w6.heap.size w6 w') := fun w' hb =>
      ⟨(HY6.out.below hb).str (P := Try.prog) Try.underlying30 Try.underlying5 Try.underlying9, (HS6.out.below (hb.mono hB6)).str (P := Try.prog) Try.underlying30 Try.underlying5 Try.underlying9, (HM6.out.below (hb.mono hB6)).str (P := Try.prog) Try.underlying30 Try.underlying5 Try.underlying9, hb⟩
    have HSY : Hid (safe ⟨[⟨3, s ++ m.take j, s.length + j⟩], 0, false, 3⟩ 3 = (N : Int)) := by rw [HN.out, ← HLS.out]; rfl
    generalize str (s ++ m.take j) = s3 at hadd HC
    generalize str (m.take j) = s2 at hadd hroom HC
    generalize str s = s1 at hadd hroom HC
    clear HY6 HS6 HM6 HN
    go_wp2_with fail
    go_region_held3 (fun w' => (convert 30 9 (.slice A6 N c6)).run Try.prog w' = .ok (.string s3) w' ∧ (convert 30 9 (.slice A n c)).run Try.prog w' = .ok (.string s1) w' ∧ (convert 30 9 (.slice A' j c')).run Try.prog w' = .ok (.string s2) w' ∧ Below w6.heap.size w6 w')
      (first
        | exact HC.out _ (held_start w6)
        | (go_split_ands; exact HC.out _ (held_call (by assumption) hbc))
        | exact HC.out _ (by assumption)
        | (go_split_ands; exact HC.out _ (by assumption))
        | assumption)
      (first
        | (go_at_call 12; refine (awake_any _).mono ?_; rintro e wc ⟨rfl, hbc⟩)
        | (go_at_call 14; go_split_ands; refine (synced_val _ g _ 3 _ N (HD6.out.new (by assumption)) ⟨by omega, by omega⟩ HSY.out).mono ?_; rintro e wc ⟨rfl, rfl⟩)
        | (go_at_call 18; go_split_ands; refine (down_val _ g _ _ false (HD6.out.new (by assumption)) rfl).mono ?_; rintro e wc ⟨rfl, rfl⟩)
        | fail)
    have HE := Lib.hid (held_two HB6.out (held_call (held_start w6) hbc))
    clear hbc
    go_wp2
    go_ret
    exact ⟨rfl, HE.out⟩
end Go.Proofs.Ythjdankeopfkaaa.Disk
