/-
  The walks of two more laws on records: what is put is taken, whatever lies behind it, and cut off anywhere it is too short; how long a record may be.
-/
import Derived.Test.YtgekmanbiadpoaaRecAwake
import Derived.Test.YtgekmanbiadpoaaPlayMod
namespace Go.Proofs.Ytgekmanbiadpoaa.Rec
open Go.RowKit Base FieldMath RecMath
open Go.Proofs.Ytgekmanbiadpoaa.Field Help
set_option linter.ambiguousOpen false

set_option maxRecDepth 100000 in
set_option maxHeartbeats 1600000 in
theorem back_walk (A : Option Addr) (n c : Nat) (p : List UInt8) (At : Option Addr) (nt ct : Nat) (t : List UInt8) (cut : Int) (w : World) (hr : Bytes w w.heap.size A n c p) (ht : Bytes w w.heap.size At nt ct t) (hnt : nt ≤ 140737488351232) :
    Calls Try.prog 5 #[.slice A n c, .slice At nt ct, .int .i64 cut] w fun e w' => e = .returned (.bool true) ∧ Below w.heap.size w w' := by
  have hlen := hr.len
  have hle := hr.le
  by_cases hbig : 5000 < n
  · clear hr ht hlen
    go_enter Try.func5, Try.ntmps5
    go_wp2_with fail
    refine (awake_any _).mono ?_
    rintro e w1 ⟨rfl, hb⟩
    have HB := Lib.hid hb
    clear hb
    go_wp2
    go_ret
    exact ⟨rfl, HB.out⟩
  · have hn : n ≤ 5000 := by omega
    have HR := Lib.hid hr
    have HT := Lib.hid ht
    have HPUT := Lib.hid (show put p = .ok (recB p) by unfold put; rw [if_neg (by omega)])
    have HRL := Lib.hid (show (recB p).length = 8 + n by rw [recB_length, hlen])
    have HTK := Lib.hid (tk_rec (p := p) (by omega) t)
    have HCUT := Lib.hid (fun k (hk : k < (recB p).length) => tk_cut (p := p) (by omega) hk)
    have HL := Lib.hid hlen
    clear hr ht hbig hlen
    generalize recB p = r at HPUT HRL HTK HCUT
    go_enter Try.func5, Try.ntmps5
    go_wp2_with fail
    refine (put_val w.heap.size _ _ _ p r (8 + n) _ HR.out (Nat.le_refl _) HPUT.out HRL.out).mono ?_
    rintro e w1 ⟨A1, c1, rfl, ho1, hb1⟩
    have HB1 := Lib.hid hb1
    have HY1 := Lib.hid (Bytes.of_own ho1)
    clear ho1 hb1
    go_wp2_with fail
    refine (awake_any _).mono ?_
    rintro e w2 ⟨rfl, hb2⟩
    have HB2 := Lib.hid (held_two HB1.out hb2)
    have HY2 := Lib.hid (HY1.out.below hb2)
    have hz2 := hb2.size
    clear hb2
    go_wp2_with (first
      | (at_builtin
         refine wpList_append_row rfl (.tmp 39) (.tmp 40) rfl eb w2.heap.size _ 0 [] rfl (own_empty _ _ _ _ rfl (Nat.le_refl _)) _ A1 (8 + n) c1 (bv r) rfl (HY2.out.alloc hz2 _) (bv_one _) (by omega) (by omega) (by simp) ?_
         intro A3 c3 w3 hown3 _ hb3
         rw [Nat.zero_add, List.nil_append] at hown3
         rw [Nat.zero_add]
         have HO3 := Lib.hid hown3
         have HB3 := Lib.hid (((Below.refl w2.heap.size w2).alloc (Nat.le_refl _) _).trans hb3)
         clear hown3 hb3)
      | (at_builtin
         refine wpList_append_wide rfl (.tmp 41) (.tmp 42) rfl eb w2.heap.size _ (8 + n) (bv r) rfl HO3.out w.heap.size At nt ct (bv t) rfl (HT.out.below (held_two HB2.out HB3.out)) (bv_one _) (by omega) (by omega) HB3.out.size ?_
         intro A4 c4 w4 hown4 hb4
         rw [← bv_append] at hown4
         have HY4 := Lib.hid (Bytes.of_own hown4)
         have HB4 := Lib.hid (HB3.out.trans hb4)
         clear hown4 hb4)
      | fail)
    refine (take_val _ A4 _ c4 _ p n _ HY4.out (Nat.le_refl _) HTK.out HL.out).mono ?_
    rintro e w5 ⟨A5, c5, rfl, hy5, hb5⟩
    have HB5 := Lib.hid (held_two HB4.out hb5)
    have HY5 := Lib.hid (HY2.out.below (HB5.out.mono hz2))
    have HQ5 := Lib.hid hy5
    clear hy5 hb5
    go_wp2_with fail
    refine (mod_any cut (8 + n) _ (by omega) (by omega)).mono ?_
    rintro e w6 ⟨rfl, rfl⟩
    have hcut := modZ_lt cut (n := 8 + n) (by omega)
    generalize modZ cut (8 + n) = k at hcut
    have hcc := HY5.out.le
    have hkc : (k : Int) ≤ (c1 : Int) := by omega
    go_wp2_with fail
    refine (take_bad _ A1 k c1 _ 2 _ (HY5.out.front (k := k) (by omega)) (by have := HB5.out.size; omega) (HCUT.out k (by rw [HRL.out]; exact hcut))).mono ?_
    rintro e w6 ⟨A6, n6, c6, rfl, hb6⟩
    have HB6 := Lib.hid (held_two (held_two HB2.out HB5.out) hb6)
    have HQ6 := Lib.hid (HQ5.out.below hb6)
    clear hb6
    go_wp2_with fail
    refine (bytes_same _ _ _ _ _ _ _ _ _ _ (HR.out.below HB6.out) HQ6.out).mono ?_
    rintro e w7 ⟨rfl, rfl⟩
    go_wp2
    go_ret
    exact ⟨rfl, HB6.out⟩

/-! ### how long a record may be -/
theorem eight_bytes (w : World) (e : TypeId) (x : Nat) {s : Nat} (hs : s = w.heap.size) {a b c d : Int} (ha : a = (x : Int) / 16777216 % 256) (hb : b = (x : Int) / 65536 % 256) (hc : c = (x : Int) / 256 % 256) (hd : d = (x : Int) % 256) :
    Bytes (w.alloc (.cells #[.int .u8 a, .int .u8 b, .int .u8 c, .int .u8 d, .int .u8 0, .int .u8 0, .int .u8 0, .int .u8 0] e)) (w.heap.size + 1) (some ⟨s, 0, none⟩) 8 8 (big x 4 ++ [0, 0, 0, 0]) := by
  have h3 := byte_at x 3
  have h2 := byte_at x 2
  have h1 := byte_at x 1
  have h0 := byte_at x 0
  have k3 : (x : Int) / 2 ^ (8 * 3) % 256 = a := by rw [ha]; rfl
  have k2 : (x : Int) / 2 ^ (8 * 2) % 256 = b := by rw [hb]; rfl
  have k1 : (x : Int) / 2 ^ (8 * 1) % 256 = c := by rw [hc]; rfl
  have k0 : (x : Int) / 2 ^ (8 * 0) % 256 = d := by rw [hd]; simp
  rw [k3] at h3; rw [k2] at h2; rw [k1] at h1; rw [k0] at h0
  rw [h3, h2, h1, h0, big4]
  exact Row.lit w #[.int .u8 _, .int .u8 _, .int .u8 _, .int .u8 _, .int .u8 0, .int .u8 0, .int .u8 0, .int .u8 0] e (0, 0) hs rfl (by omega)
theorem num_head {k : Nat} (h : k < 4294967296) (r : List UInt8) : num ((big k 4 ++ r).take 4) = k := by rw [take_app _ _ (big_length _ _), num_big_of (by rw [pow4]; exact h)]

set_option maxRecDepth 100000 in
set_option maxHeartbeats 1600000 in
theorem long_walk (n : Int) (w : World) :
    Calls Try.prog 8 #[.int .i64 n] w fun e w' => e = .returned (.bool true) ∧ Below w.heap.size w w' := by
  have hk3 := modZ_lt n (n := 3) (by omega)
  go_enter Try.func8, Try.ntmps8
  go_wp2_with fail
  refine (mod_any n 3 _ (by omega) (by omega)).mono ?_
  rintro e w0 ⟨rfl, rfl⟩
  obtain ⟨k, hk', hk0, hk1⟩ : ∃ k : Nat, 1048575 + ((modZ n 3 : Nat) : Int) = k ∧ 1048575 ≤ k ∧ k ≤ 1048577 := ⟨1048575 + modZ n 3, by omega, by omega, by omega⟩
  generalize modZ n 3 = nm at hk3 hk'
  go_wp2_with (first
    | (refine wpList_make_elem _ rfl (.tmp 13) (.tmp 13) rfl eb w.heap.size .i64 .i64 _ _ k rfl rfl rfl rfl (by omega) (by omega) (Nat.le_refl _) ?_
       intro w1 ho1 hb1
       replace ho1 : w1.ownsRow w.heap.size 5 1 (.slice (some ⟨w.heap.size, 0, none⟩) k k) k (madeCells #[.int .u8 0] (k * 1)).toList := ho1
       rw [Nat.mul_one, made_bytes] at ho1
       have HY1 := Lib.hid (Bytes.of_own ho1)
       have HB1 := Lib.hid hb1
       clear ho1 hb1)
    | fail)
  clear hk' hk3
  by_cases hbig : 1048576 < k
  · have HE := Lib.hid (show put (List.replicate k 0) = .error 1 by unfold put; rw [List.length_replicate, if_pos hbig])
    have HT := Lib.hid (tk_long (b := big k 4 ++ [0, 0, 0, 0]) (by rw [List.length_append, big_length]; simp) (by rw [num_head (by omega)]; exact hbig))
    refine (put_any _ _ _ _ _ _ HY1.out (Nat.le_refl _)).mono ?_
    rintro e w2 ⟨A2, n2, c2, rfl, ho2, hb2⟩
    rw [HE.out] at ho2
    rw [HE.out, show err (Except.error 1 : Except Nat (List UInt8)) = 1 from rfl]
    have hn2 : n2 = 0 := by have := ho2.1; rw [show got (Except.error 1 : Except Nat (List UInt8)) = [] from rfl, bv_length, Nat.mul_one] at this; exact this.symm
    subst hn2
    have HB2 := Lib.hid (held_two HB1.out hb2)
    clear ho2 hb2 HY1
    go_wp2_with fail
    refine (take_bad _ _ 8 8 (big k 4 ++ [0, 0, 0, 0]) 3 _ (eight_bytes w2 _ k rfl (by omega) (by omega) (by omega) (by omega)) (by simp) HT.out).mono ?_
    rintro e w3 ⟨A3, n3, c3, rfl, hb3⟩
    have HB3 := Lib.hid (held_two (HB2.out.alloc HB2.out.size _) hb3)
    clear hb3
    go_wp2_with fail
    refine (awake_any _).mono ?_
    rintro e w4 ⟨rfl, hb4⟩
    have HB4 := Lib.hid (held_two HB3.out hb4)
    clear hb4
    go_wp2
    go_ret
    exact ⟨rfl, HB4.out⟩
  · have hsm : k ≤ 1048576 := by omega
    have HE := Lib.hid (show put (List.replicate k 0) = .ok (recB (List.replicate k 0)) by unfold put; rw [List.length_replicate, if_neg hbig])
    have HT := Lib.hid (tk_lacks (b := big k 4 ++ [0, 0, 0, 0]) (by rw [List.length_append, big_length]; simp) (by rw [num_head (by omega)]; exact hsm) (by rw [num_head (by omega), List.length_append, big_length]; simp; omega))
    refine (put_val _ _ _ _ _ _ (8 + k) _ HY1.out (Nat.le_refl _) HE.out (by rw [recB_length, List.length_replicate])).mono ?_
    rintro e w2 ⟨A2, c2, rfl, ho2, hb2⟩
    have HB2 := Lib.hid (held_two HB1.out hb2)
    clear ho2 hb2 HY1 HE
    go_wp2_with fail
    refine (take_bad _ _ 8 8 (big k 4 ++ [0, 0, 0, 0]) 2 _ (eight_bytes w2 _ k rfl (by omega) (by omega) (by omega) (by omega)) (by simp) HT.out).mono ?_
    rintro e w3 ⟨A3, n3, c3, rfl, hb3⟩
    have HB3 := Lib.hid (held_two (HB2.out.alloc HB2.out.size _) hb3)
    clear hb3
    go_wp2_with fail
    refine (awake_any _).mono ?_
    rintro e w4 ⟨rfl, hb4⟩
    have HB4 := Lib.hid (held_two HB3.out hb4)
    clear hb4
    go_wp2
    go_ret
    exact ⟨rfl, HB4.out⟩
end Go.Proofs.Ytgekmanbiadpoaa.Rec
