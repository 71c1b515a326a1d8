/-
  The walk of DiskArms: power goes at just that operation: an append is done, nothing else, and nothing behind it.
-/
import Derived.Test.YthjdankeopfkaaaDiskBase
import Derived.Test.YthjdankeopfkaaaPlayMod
namespace Go.Proofs.Ythjdankeopfkaaa.Disk
open Go.RowKit Base DiskMath
open Go.Proofs.Ythjdankeopfkaaa.Field
set_option linter.ambiguousOpen false

theorem arm_b (B : Nat) (g : Nat) (d : Dk) (n : Int) (w : World) (d' : Dk) (h : DiskB B w g d) (hB : B ≤ w.heap.size) (hv : arm d n = d') :
    Calls Try.prog 20 #[.pointer (some ⟨g, 0, none⟩), .int .i64 n] w fun e w' => e = .returned (.tuple #[]) ∧ DiskB B w' g d' ∧ Below B w w' := by
  subst hv
  exact (arm_any _ g d n w h).mono fun e w' h => ⟨h.1, .of h.2.1 fun i hi => by rcases hi with hi | hi <;> omega, h.2.2.below (fun _ hi => hi.1) hB⟩
theorem crash_none_b (B : Nat) (g : Nat) (d : Dk) (w : World) (d' : Dk) (h : DiskB B w g d) (hB : B ≤ w.heap.size) (hsz : ∀ x ∈ d.files, x.b.length ≤ 140737488355328) (hv : crash d [] = d') :
    Calls Try.prog 17 #[.pointer (some ⟨g, 0, none⟩), .slice none 0 0] w fun e w' => e = .returned (.tuple #[]) ∧ DiskB B w' g d' ∧ Below B w w' := by
  subst hv
  exact (crash_any _ g d 0 none 0 0 [] w h (fun _ hi => hi.2) (Row.nil_ _ _ _) (Nat.zero_le _) (fun _ a ha => by cases ha) (fun k => ⟨by simp, by simp⟩) hsz).mono fun e w' h => ⟨h.1, .of h.2.1 fun i hi => by rcases hi with hi | hi <;> omega, h.2.2.below (fun _ hi => hi.1) hB⟩
theorem ops_val (F : Nat → Prop) (g : Nat) (d : Dk) (w : World) (k : Nat) (h : DiskAt F w g d) (hv : d.ops = k) :
    Calls Try.prog 21 #[.pointer (some ⟨g, 0, none⟩)] w fun e w' => e = .returned (.int .i64 k) ∧ w = w' := by
  subst hv
  exact ops_any F g d w h

def rep (b : List UInt8) : Nat → List UInt8
  | 0 => []
  | k + 1 => rep b k ++ b
theorem rep_length (b : List UInt8) : ∀ k, (rep b k).length = k * b.length
  | 0 => by simp [rep]
  | k + 1 => by rw [rep, List.length_append, rep_length b k, Nat.succ_mul]
/-- the disk behind i operations, where power goes at the k-th -/
def st (b : List UInt8) (k i : Nat) : Dk :=
  if i = 0 then ⟨[], k, false, 0⟩ else if i < k then ⟨[⟨0, rep b ((i + 1) / 2), (rep b (i / 2)).length⟩], k - i, false, i⟩ else ⟨[⟨0, rep b ((k + 1) / 2), (rep b ((k - 1) / 2)).length⟩], 0, true, k⟩
theorem six {k : Nat} (h1 : 1 ≤ k) (h6 : k ≤ 6) : k = 1 ∨ k = 2 ∨ k = 3 ∨ k = 4 ∨ k = 5 ∨ k = 6 := by omega
theorem st_append (b : List UInt8) {k i : Nat} (h1 : 1 ≤ k) (h6 : k ≤ 6) (hi : i = 1 ∨ i = 3 ∨ i = 5 ∨ i = 7) : append (st b k (i - 1)) 0 b = (if k ≤ i then 8 else 0, st b k i) := by
  rcases six h1 h6 with rfl | rfl | rfl | rfl | rfl | rfl <;> rcases hi with rfl | rfl | rfl | rfl <;> rfl
theorem st_sync (b : List UInt8) {k i : Nat} (h1 : 1 ≤ k) (h6 : k ≤ 6) (hi : i = 2 ∨ i = 4 ∨ i = 6 ∨ i = 8) : sync (st b k (i - 1)) 0 = (if k ≤ i then 8 else 0, st b k i) := by
  rcases six h1 h6 with rfl | rfl | rfl | rfl | rfl | rfl <;> rcases hi with rfl | rfl | rfl | rfl <;> rfl
theorem st_seek {b : List UInt8} {k i : Nat} {x : Fl} (h : seek (st b k i).files 0 = some x) (hk : k ≤ 6) : x.b.length ≤ 4 * b.length := by
  unfold st at h
  split at h
  · cases h
  · split at h
    · obtain rfl : _ = x := Option.some.inj h
      dsimp only
      rw [rep_length]
      exact Nat.mul_le_mul_right _ (by omega)
    · obtain rfl : _ = x := Option.some.inj h
      dsimp only
      rw [rep_length]
      exact Nat.mul_le_mul_right _ (by omega)
theorem st_fits (b : List UInt8) {k i : Nat} (hk : k ≤ 6) (hi : i ≤ 8) : Fits (st b k i) := by
  unfold st
  split
  · exact ⟨by dsimp only; omega, by dsimp only; omega⟩
  · split
    · exact ⟨by dsimp only; omega, by dsimp only; omega⟩
    · exact ⟨by dsimp only; omega, by dsimp only; omega⟩
theorem st_off (b : List UInt8) {k i : Nat} (hi : 1 ≤ i) : (st b k i).off = decide (k ≤ i) := by
  unfold st
  rw [if_neg (by omega)]
  split
  · exact (decide_eq_false (by omega)).symm
  · exact (decide_eq_true (by omega)).symm
theorem st_ops (b : List UInt8) {k i : Nat} (hi : 1 ≤ i) : (st b k i).ops = min i k := by
  unfold st
  rw [if_neg (by omega)]
  split
  · dsimp only; omega
  · dsimp only; omega

theorem st_last (b : List UInt8) {k : Nat} (h6 : k ≤ 6) : st b k 8 = ⟨[⟨0, rep b ((k + 1) / 2), (rep b ((k - 1) / 2)).length⟩], 0, true, k⟩ := by
  unfold st
  rw [if_neg (by omega), if_neg (by omega)]
/-- .. behind the crash -/
def st2 (b : List UInt8) (k : Nat) : Dk := ⟨[⟨0, rep b ((k - 1) / 2), (rep b ((k - 1) / 2)).length⟩], 0, false, k⟩
theorem rep_take (b : List UInt8) (i j : Nat) : (rep b (i + j)).take (rep b i).length = rep b i := by
  induction j with
  | zero => exact List.take_length
  | succ j ih => rw [← Nat.add_assoc, rep, List.take_append_of_le_length (by rw [rep_length, rep_length]; exact Nat.mul_le_mul_right _ (by omega)), ih]
theorem st_crash (b : List UInt8) {k : Nat} (h1 : 1 ≤ k) (h6 : k ≤ 6) : crash (st b k 8) [] = st2 b k := by
  rw [st_last b h6]
  have e : keeps 0 ⟨0, rep b ((k + 1) / 2), (rep b ((k - 1) / 2)).length⟩ = (rep b ((k - 1) / 2)).length := by
    unfold keeps
    simp
  show (⟨[setl 0 _], 0, false, k⟩ : Dk) = _
  unfold setl st2
  rw [e]
  dsimp only
  rw [show (k + 1) / 2 = (k - 1) / 2 + ((k + 1) / 2 - (k - 1) / 2) by omega, rep_take]

set_option maxRecDepth 100000 in
set_option maxHeartbeats 1600000 in
theorem arms_walk (B : Nat) (A : Option Addr) (n c : Nat) (b : List UInt8) (v : Int) (w : World) (hb : Bytes w B A n c b) (hB : B ≤ w.heap.size) (hn : n ≤ 1048576) :
    Calls Try.prog 5 #[.int .i64 v, .slice A n c] w fun e w' => e = .returned (.bool true) ∧ Below w.heap.size w w' := by
  have HL := Lib.hid hb.len
  have HR := Lib.hid hb
  clear hb
  obtain ⟨k, hk⟩ : ∃ k, k = 1 + modZ v 6 := ⟨_, rfl⟩
  have hk1 : 1 ≤ k := by omega
  have hk6 : k ≤ 6 := by have := modZ_lt v (n := 6) (by omega); omega
  have HK := Lib.hid hk
  clear hk
  go_enter Try.func5, Try.ntmps5
  go_wp2_with fail
  refine (new_b w).mono ?_
  rintro e w1 ⟨g, rfl, hd, hb⟩
  have HD1 := Lib.hid hd
  have HB1 := Lib.hid hb
  clear hd hb
  go_wp2_with fail
  refine (mod_any v 6 _ (by omega) (by omega)).mono ?_
  rintro e w2 ⟨rfl, rfl⟩
  rw [show modZ v 6 = k - 1 by rw [HK.out]; omega]
  obtain ⟨k', rfl⟩ : ∃ k', k = k' + 1 := ⟨k - 1, by omega⟩
  rw [Nat.add_sub_cancel]
  go_wp2_with fail
  refine (arm_b w.heap.size g none_ _ _ (st b (k' + 1) 0) HD1.out HB1.out.size ?_).mono ?_
  · rw [show (1 + (k' : Int)) = ((k' + 1 : Nat) : Int) by omega, arm, Int.toNat_natCast]
    rfl
  rintro e w2 ⟨rfl, hd, hb⟩
  rw [show (1 + (k' : Int)) = ((k' + 1 : Nat) : Int) by omega]
  generalize k' + 1 = k at *
  have HD2 := Lib.hid hd
  have HB2 := Lib.hid (HB1.out.trans hb)
  clear hd hb HD1 HB1
  go_wp2
  go_loopw [7] (fun i wr => ∃ j : Nat, 1 ≤ j ∧ j ≤ 9 ∧ i = .int .i64 j ∧ DiskB w.heap.size wr g (st b k (j - 1)) ∧ Below w.heap.size w wr) (fun i _ => 9 - (RowKit.intOf i).toNat)
  case atStart => exact ⟨1, by omega, by omega, rfl, HD2.out, HB2.out⟩
  case round =>
    obtain ⟨j, hj1, hj9, rfl, hd, hb⟩ := hrel
    have HD3 := Lib.hid hd
    have HB3 := Lib.hid hb
    clear hd hb HD2 HB2
    by_cases hj : j ≤ 8
    · have HFt : Hid (Fits (st b k (j - 1))) := st_fits b hk6 (by omega)
      have HSk : Hid (∀ x, seek (st b k (j - 1)).files 0 = some x → x.b.length + n ≤ 140737488355328) := fun x hx => by
        have := st_seek hx hk6
        rw [HL.out] at this
        omega
      rcases (show j < k ∨ k < j ∨ k = j by omega) with hkj | hkj | hkj
      · have HOf := Lib.hid (show (st b k j).off = false by rw [st_off b (by omega)]; exact decide_eq_false (by omega))
        have HOp := Lib.hid (show (st b k j).ops = j by rw [st_ops b (by omega)]; omega)
        have hd1 : decide ((k : Int) ≤ (j : Int)) = false := by simp; omega
        have hd2 : decide (k ≤ j) = false := by simp; omega
        have hd3 : ¬ k < j := by omega
        by_cases hp : j % 2 = 1
        · have HA := Lib.hid (show append (st b k (j - 1)) 0 b = (0, st b k j) by rw [st_append (i := j) b hk1 hk6 (by omega), if_neg (by omega)])
          have hm : ((j : Int) % 2 == 1) = true := by simp; omega
          clear hp
          go_wp2_with fail
          refine (append_b w.heap.size g _ 0 B A n c b _ 0 _ HD3.out HB3.out.size HFt.out (HR.out.below (HB3.out.mono hB)) (Nat.le_trans hB HB3.out.size) (by omega) HSk.out HA.out).mono ?_
          rintro e w3 ⟨rfl, hd, hb⟩
          have HD4 := Lib.hid hd
          have HB4 := Lib.hid (HB3.out.trans hb)
          clear hd hb HD3 HB3 HA
          go_wp2_with fail
          refine (down_val _ g _ _ false HD4.out HOf.out).mono ?_
          rintro e w4 ⟨rfl, rfl⟩
          go_wp2_with fail
          refine (ops_val _ g _ _ j HD4.out HOp.out).mono ?_
          rintro e w4 ⟨rfl, rfl⟩
          go_wp2
          go_roundw
          case rel => exact ⟨j + 1, by omega, by omega, by go_num, by rw [Nat.add_sub_cancel]; exact HD4.out, HB4.out⟩
          case measure => simp [RowKit.intOf]; omega
        · have HA := Lib.hid (show sync (st b k (j - 1)) 0 = (0, st b k j) by rw [st_sync (i := j) b hk1 hk6 (by omega), if_neg (by omega)])
          have hm : ((j : Int) % 2 == 1) = false := by simp; omega
          clear hp
          go_wp2_with fail
          refine (sync_b w.heap.size g _ 0 _ 0 _ HD3.out HB3.out.size HFt.out HA.out).mono ?_
          rintro e w3 ⟨rfl, hd, hb⟩
          have HD4 := Lib.hid hd
          have HB4 := Lib.hid (HB3.out.trans hb)
          clear hd hb HD3 HB3 HA
          go_wp2_with fail
          refine (down_val _ g _ _ false HD4.out HOf.out).mono ?_
          rintro e w4 ⟨rfl, rfl⟩
          go_wp2_with fail
          refine (ops_val _ g _ _ j HD4.out HOp.out).mono ?_
          rintro e w4 ⟨rfl, rfl⟩
          go_wp2
          go_roundw
          case rel => exact ⟨j + 1, by omega, by omega, by go_num, by rw [Nat.add_sub_cancel]; exact HD4.out, HB4.out⟩
          case measure => simp [RowKit.intOf]; omega
      · have HOf := Lib.hid (show (st b k j).off = true by rw [st_off b (by omega)]; exact decide_eq_true (by omega))
        have HOp := Lib.hid (show (st b k j).ops = k by rw [st_ops b (by omega)]; omega)
        have hd1 : decide ((k : Int) ≤ (j : Int)) = true := by simp; omega
        have hd2 : decide (k ≤ j) = true := by simp; omega
        by_cases hp : j % 2 = 1
        · have HA := Lib.hid (show append (st b k (j - 1)) 0 b = (8, st b k j) by rw [st_append (i := j) b hk1 hk6 (by omega), if_pos (by omega)])
          have hm : ((j : Int) % 2 == 1) = true := by simp; omega
          clear hp
          go_wp2_with fail
          refine (append_b w.heap.size g _ 0 B A n c b _ 8 _ HD3.out HB3.out.size HFt.out (HR.out.below (HB3.out.mono hB)) (Nat.le_trans hB HB3.out.size) (by omega) HSk.out HA.out).mono ?_
          rintro e w3 ⟨rfl, hd, hb⟩
          have HD4 := Lib.hid hd
          have HB4 := Lib.hid (HB3.out.trans hb)
          clear hd hb HD3 HB3 HA
          go_wp2_with fail
          refine (down_val _ g _ _ true HD4.out HOf.out).mono ?_
          rintro e w4 ⟨rfl, rfl⟩
          go_wp2_with fail
          refine (ops_val _ g _ _ k HD4.out HOp.out).mono ?_
          rintro e w4 ⟨rfl, rfl⟩
          go_wp2
          go_roundw
          case rel => exact ⟨j + 1, by omega, by omega, by go_num, by rw [Nat.add_sub_cancel]; exact HD4.out, HB4.out⟩
          case measure => simp [RowKit.intOf]; omega
        · have HA := Lib.hid (show sync (st b k (j - 1)) 0 = (8, st b k j) by rw [st_sync (i := j) b hk1 hk6 (by omega), if_pos (by omega)])
          have hm : ((j : Int) % 2 == 1) = false := by simp; omega
          clear hp
          go_wp2_with fail
          refine (sync_b w.heap.size g _ 0 _ 8 _ HD3.out HB3.out.size HFt.out HA.out).mono ?_
          rintro e w3 ⟨rfl, hd, hb⟩
          have HD4 := Lib.hid hd
          have HB4 := Lib.hid (HB3.out.trans hb)
          clear hd hb HD3 HB3 HA
          go_wp2_with fail
          refine (down_val _ g _ _ true HD4.out HOf.out).mono ?_
          rintro e w4 ⟨rfl, rfl⟩
          go_wp2_with fail
          refine (ops_val _ g _ _ k HD4.out HOp.out).mono ?_
          rintro e w4 ⟨rfl, rfl⟩
          go_wp2
          go_roundw
          case rel => exact ⟨j + 1, by omega, by omega, by go_num, by rw [Nat.add_sub_cancel]; exact HD4.out, HB4.out⟩
          case measure => simp [RowKit.intOf]; omega
      · subst hkj
        have HOf := Lib.hid (show (st b k k).off = true by rw [st_off b (by omega)]; exact decide_eq_true (by omega))
        have HOp := Lib.hid (show (st b k k).ops = k by rw [st_ops b (by omega)]; omega)
        have hd1 : decide ((k : Int) ≤ (k : Int)) = true := by simp
        have hd2 : decide (k ≤ k) = true := by simp
        by_cases hp : k % 2 = 1
        · have HA := Lib.hid (show append (st b k (k - 1)) 0 b = (8, st b k k) by rw [st_append (i := k) b hk1 hk6 (by omega), if_pos (by omega)])
          have hm : ((k : Int) % 2 == 1) = true := by simp; omega
          clear hp
          go_wp2_with fail
          refine (append_b w.heap.size g _ 0 B A n c b _ 8 _ HD3.out HB3.out.size HFt.out (HR.out.below (HB3.out.mono hB)) (Nat.le_trans hB HB3.out.size) (by omega) HSk.out HA.out).mono ?_
          rintro e w3 ⟨rfl, hd, hb⟩
          have HD4 := Lib.hid hd
          have HB4 := Lib.hid (HB3.out.trans hb)
          clear hd hb HD3 HB3 HA
          go_wp2_with fail
          refine (down_val _ g _ _ true HD4.out HOf.out).mono ?_
          rintro e w4 ⟨rfl, rfl⟩
          go_wp2_with fail
          refine (ops_val _ g _ _ k HD4.out HOp.out).mono ?_
          rintro e w4 ⟨rfl, rfl⟩
          go_wp2
          go_roundw
          case rel => exact ⟨k + 1, by omega, by omega, by go_num, by rw [Nat.add_sub_cancel]; exact HD4.out, HB4.out⟩
          case measure => simp [RowKit.intOf]; omega
        · have HA := Lib.hid (show sync (st b k (k - 1)) 0 = (8, st b k k) by rw [st_sync (i := k) b hk1 hk6 (by omega), if_pos (by omega)])
          have hm : ((k : Int) % 2 == 1) = false := by simp; omega
          clear hp
          go_wp2_with fail
          refine (sync_b w.heap.size g _ 0 _ 8 _ HD3.out HB3.out.size HFt.out HA.out).mono ?_
          rintro e w3 ⟨rfl, hd, hb⟩
          have HD4 := Lib.hid hd
          have HB4 := Lib.hid (HB3.out.trans hb)
          clear hd hb HD3 HB3 HA
          go_wp2_with fail
          refine (down_val _ g _ _ true HD4.out HOf.out).mono ?_
          rintro e w4 ⟨rfl, rfl⟩
          go_wp2_with fail
          refine (ops_val _ g _ _ k HD4.out HOp.out).mono ?_
          rintro e w4 ⟨rfl, rfl⟩
          go_wp2
          go_roundw
          case rel => exact ⟨k + 1, by omega, by omega, by go_num, by rw [Nat.add_sub_cancel]; exact HD4.out, HB4.out⟩
          case measure => simp [RowKit.intOf]; omega
    · obtain rfl : j = 9 := by omega
      rw [show 9 - 1 = 8 from rfl] at HD3
      go_wp2_with fail
      obtain ⟨N1, hN1⟩ : ∃ N1 : Nat, N1 = (k + 1) / 2 * n := ⟨_, rfl⟩
      obtain ⟨N2, hN2⟩ : ∃ N2 : Nat, N2 = (k - 1) / 2 * n := ⟨_, rfl⟩
      have hb1 : N1 ≤ 4194304 := by
        rw [hN1]
        exact Nat.le_trans (Nat.mul_le_mul (show (k + 1) / 2 ≤ 4 by omega) hn) (by omega)
      have hb2 : N2 ≤ 4194304 := by
        rw [hN2]
        exact Nat.le_trans (Nat.mul_le_mul (show (k - 1) / 2 ≤ 4 by omega) hn) (by omega)
      have e1 : ((k : Int) + 1) / 2 * (n : Int) = (N1 : Int) := by
        rw [hN1, Int.natCast_mul]
        congr 1
      have e2 : ((k : Int) - 1) / 2 * (n : Int) = (N2 : Int) := by
        rw [hN2, Int.natCast_mul]
        congr 1
        omega
      rw [e1, e2, IntWalk.wrap64_in (N1 : Int) (by omega), IntWalk.wrap64_in (N2 : Int) (by omega)]
      have HZ1 := Lib.hid (show size (st b k 8) 0 = (N1 : Int) by rw [st_last b hk6, hN1, ← HL.out, ← rep_length]; rfl)
      have HZ2 := Lib.hid (show safe (st b k 8) 0 = (N2 : Int) by rw [st_last b hk6, hN2, ← HL.out, ← rep_length]; rfl)
      have HZ3 := Lib.hid (show size (st2 b k) 0 = (N2 : Int) by rw [st2, hN2, ← HL.out, ← rep_length]; rfl)
      have HC := Lib.hid (st_crash b hk1 hk6)
      have HS := Lib.hid (show ∀ x ∈ (st b k 8).files, x.b.length ≤ 140737488355328 from fun x hx => by
        rw [st_last b hk6] at hx
        simp only [List.mem_singleton] at hx
        subst hx
        dsimp only
        rw [rep_length, HL.out, ← hN1]
        omega)
      have HS2 := Lib.hid (show ∀ x, seek (st2 b k).files 0 = some x → x.b.length + n ≤ 140737488355328 from fun x hx => by
        obtain rfl : _ = x := Option.some.inj hx
        dsimp only
        rw [rep_length, HL.out, ← hN2]
        omega)
      have HF2 : Hid (Fits (st2 b k)) := ⟨by unfold st2; dsimp only; omega, by unfold st2; dsimp only; omega⟩
      have HA := Lib.hid (show ∃ d', append (st2 b k) 0 b = (0, d') from ⟨_, rfl⟩)
      clear e1 e2 hN1 hN2 hb1 hb2
      refine (len_val _ g _ 0 _ N1 HD3.out ⟨by omega, by omega⟩ HZ1.out).mono ?_
      rintro e w3 ⟨rfl, rfl⟩
      go_wp2_with fail
      refine (synced_val _ g _ 0 _ N2 HD3.out ⟨by omega, by omega⟩ HZ2.out).mono ?_
      rintro e w3 ⟨rfl, rfl⟩
      go_wp2_with fail
      refine (crash_none_b w.heap.size g _ _ _ HD3.out HB3.out.size HS.out HC.out).mono ?_
      rintro e w3 ⟨rfl, hd, hb⟩
      have HD4 := Lib.hid hd
      have HB4 := Lib.hid (HB3.out.trans hb)
      clear hd hb HD3 HB3
      go_wp2_with fail
      refine (awake_any _).mono ?_
      rintro e w4 ⟨rfl, hb⟩
      have HD5 := Lib.hid (HD4.out.new hb)
      have HB5 := Lib.hid (held_two HB4.out hb)
      clear hb HD4 HB4
      go_wp2_with fail
      refine (len_val _ g _ 0 _ N2 HD5.out ⟨by omega, by omega⟩ HZ3.out).mono ?_
      rintro e w5 ⟨rfl, rfl⟩
      go_wp2_with fail
      refine (down_val _ g _ _ false HD5.out rfl).mono ?_
      rintro e w5 ⟨rfl, rfl⟩
      go_wp2_with fail
      obtain ⟨d', hA⟩ := HA.out
      have HA2 := Lib.hid hA
      clear hA
      refine (append_b w.heap.size g _ 0 B A n c b _ 0 d' HD5.out HB5.out.size HF2.out (HR.out.below (HB5.out.mono hB)) (Nat.le_trans hB HB5.out.size) (by omega) HS2.out HA2.out).mono ?_
      rintro e w5 ⟨rfl, _, hb⟩
      have HB6 := Lib.hid (HB5.out.trans hb)
      clear hb
      go_wp2
      go_ret
      exact ⟨rfl, HB6.out⟩
end Go.Proofs.Ythjdankeopfkaaa.Disk
