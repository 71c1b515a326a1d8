/-
  The walk of DiskCuts: a file that is cut has its front, as safe as it was, and goes on from there; one that is taken away begins anew.
-/
import Derived.Test.YthjdankeopfkaaaDiskBase
import Derived.Test.YthjdankeopfkaaaPlayMod
import Derived.Test.YthjdankeopfkaaaHelpBytes
import Derived.Deep.DeepCutAuto
import Derived.StillTailTactics
namespace Go.Proofs.Ythjdankeopfkaaa.Disk
open Go.RowKit Base DiskMath
open Go.Proofs.Ythjdankeopfkaaa.Field
open Go.Proofs.Ythjdankeopfkaaa.Help
set_option linter.ambiguousOpen false

theorem cut_b (B : Nat) (g : Nat) (d : Dk) (f n : Int) (w : World) (k : Int) (d' : Dk) (h : DiskB B w g d) (hB : B ≤ w.heap.size) (hf : Fits d) (hv : cut d f n = (k, d')) :
    Calls Try.prog 29 #[.pointer (some ⟨g, 0, none⟩), .int .i64 f, .int .i64 n] w fun e w' => e = .returned (.int .i64 k) ∧ DiskB B w' g d' ∧ Below B w w' :=
  (cut_any _ g d f n w h hf).mono fun _ _ h => by rw [hv] at h; exact h.base hB
theorem remove_b (B : Nat) (g : Nat) (d : Dk) (f : Int) (w : World) (k : Int) (d' : Dk) (h : DiskB B w g d) (hB : B ≤ w.heap.size) (hf : Fits d) (hv : remove d f = (k, d')) :
    Calls Try.prog 30 #[.pointer (some ⟨g, 0, none⟩), .int .i64 f] w fun e w' => e = .returned (.int .i64 k) ∧ DiskB B w' g d' ∧ Below B w w' :=
  (remove_any _ g d f w h hf).mono fun _ _ h => by rw [hv] at h; exact h.base hB

def c1 (a : List UInt8) : Dk := ⟨[⟨1, a, 0⟩], 0, false, 1⟩
def c2 (a : List UInt8) : Dk := ⟨[⟨1, a, a.length⟩], 0, false, 2⟩
def c3 (a b : List UInt8) : Dk := ⟨[⟨1, a ++ b, a.length⟩], 0, false, 3⟩
def c4 (a b : List UInt8) (k : Nat) : Dk := ⟨[⟨1, (a ++ b).take k, min a.length k⟩], 0, false, 4⟩
def c5 (a b : List UInt8) (k : Nat) : Dk := ⟨[⟨1, (a ++ b).take k ++ b, min a.length k⟩], 0, false, 5⟩
def c6 : Dk := ⟨[], 0, false, 6⟩
def c7 (a : List UInt8) : Dk := ⟨[⟨1, a, 0⟩], 0, false, 7⟩
theorem val_c1 (a : List UInt8) : append none_ 1 a = (0, c1 a) := rfl
theorem val_c2 (a : List UInt8) : sync (c1 a) 1 = (0, c2 a) := rfl
theorem val_c3 (a b : List UInt8) : append (c2 a) 1 b = (0, c3 a b) := rfl
theorem val_no (a b : List UInt8) {z : Int} (h : z < 0 ∨ ((a ++ b).length : Int) < z) : cut (c3 a b) 1 z = (1, c3 a b) := by
  rw [cut, if_pos (show refuse (c3 a b) 1 true = 0 from rfl)]
  exact if_pos h
theorem val_no2 (a b : List UInt8) : cut (c3 a b) 2 (-1) = (5, c3 a b) := rfl
theorem val_c4 (a b : List UInt8) (k : Nat) (h : k ≤ (a ++ b).length) : cut (c3 a b) 1 k = (0, c4 a b k) := by
  rw [cut, if_pos (show refuse (c3 a b) 1 true = 0 from rfl)]
  have h2 : ¬ ((k : Int) < 0 ∨ size (c3 a b) 1 < (k : Int)) := by
    show ¬ ((k : Int) < 0 ∨ ((a ++ b).length : Int) < (k : Int))
    omega
  rw [if_neg h2, Int.toNat_natCast]
  rfl
theorem val_c5 (a b : List UInt8) (k : Nat) : append (c4 a b k) 1 b = (0, c5 a b k) := rfl
theorem val_c6 (a b : List UInt8) (k : Nat) : remove (c5 a b k) 1 = (0, c6) := rfl
theorem val_c6n : remove c6 1 = (5, c6) := rfl
theorem val_c6s : sync c6 1 = (5, c6) := rfl
theorem val_c7 (a : List UInt8) : append c6 1 a = (0, c7 a) := rfl
theorem val_c7n (a b : List UInt8) : append (c7 a) (-1) b = (1, c7 a) := rfl
theorem val_c7m (a b : List UInt8) : append (c7 a) 16384 b = (1, c7 a) := rfl

theorem mod_z (v z : Int) (n : Nat) (w : World) (hz : z = (n : Int)) (hn : 0 < n) (hm : n ≤ 1099511627776) :
    Calls Try.prog 19 #[.int .i64 v, .int .i64 z] w fun e w' => e = .returned (.int .i64 (modZ v n)) ∧ w = w' := by
  subst hz
  exact mod_any v n w hn hm

set_option maxRecDepth 100000 in
set_option maxHeartbeats 3200000 in
theorem cuts_walk (B : Nat) (A A' : Option Addr) (n c n' c' : Nat) (a b : List UInt8) (v : Int) (w : World) (ha : Bytes w B A n c a) (hb : Bytes w B A' n' c' b) (hB : B ≤ w.heap.size) (hn : n ≤ 1048576) (hn' : n' ≤ 1048576) :
    Calls Try.prog 7 #[.slice A n c, .slice A' n' c', .int .i64 v] w fun e w' => e = .returned (.bool true) ∧ Below w.heap.size w w' := by
  have HLA := Lib.hid ha.len
  have HLB := Lib.hid hb.len
  have HA := Lib.hid ha
  have HB := Lib.hid hb
  clear ha hb
  have hcat := str_cat a b
  have hroom := str_room a b (by rw [HLA.out]; omega) (by rw [HLB.out]; omega)
  have hsz : (str (a ++ b)).size = n + n' := by rw [str_size, List.length_append, HLA.out, HLB.out]
  have HC : Hid (∀ w', Below w.heap.size w w' → (convert 30 9 (.slice A n c)).run Try.prog w' = .ok (.string (str a)) w' ∧ (convert 30 9 (.slice A' n' c')).run Try.prog w' = .ok (.string (str b)) w') := fun w' h =>
    ⟨(HA.out.below (h.mono hB)).str (P := Try.prog) Try.underlying30 Try.underlying5 Try.underlying9, (HB.out.below (h.mono hB)).str (P := Try.prog) Try.underlying30 Try.underlying5 Try.underlying9⟩
  obtain ⟨N, hN⟩ : ∃ N, N = n + n' := ⟨_, rfl⟩
  rw [← hN] at hsz
  have HN := Lib.hid hN
  have hNb : N ≤ 2097152 := by omega
  have HLN := Lib.hid (show (a ++ b).length = N by rw [List.length_append, HLA.out, HLB.out, hN])
  clear hN
  obtain ⟨k, hk⟩ : ∃ k, k = modZ v (N + 1) := ⟨_, rfl⟩
  have hkN : k ≤ N := by have := modZ_lt v (n := N + 1) (by omega); omega
  have HK := Lib.hid hk
  clear hk
  go_enter Try.func7, Try.ntmps7
  go_wp2_with fail
  refine (new_b w).mono ?_
  rintro e w1 ⟨g, rfl, hd, hb⟩
  have HD1 := Lib.hid hd
  have HB1 := Lib.hid hb
  clear hd hb
  go_wp2_with fail
  refine (append_b w.heap.size g none_ 1 B A n c a _ 0 _ HD1.out HB1.out.size ⟨by decide, by decide⟩ (HA.out.below (HB1.out.mono hB)) (Nat.le_trans hB HB1.out.size) (by omega) (fun x hx => by cases hx) (val_c1 a)).mono ?_
  rintro e w2 ⟨rfl, hd, hb⟩
  have HD2 := Lib.hid hd
  have HB2 := Lib.hid (HB1.out.trans hb)
  clear hd hb HD1 HB1
  go_wp2_with fail
  refine (sync_b w.heap.size g _ 1 _ 0 _ HD2.out HB2.out.size (fits_of _ _ _ _ (by omega) (by omega)) (val_c2 a)).mono ?_
  rintro e w3 ⟨rfl, hd, hb⟩
  have HD3 := Lib.hid hd
  have HB3 := Lib.hid (HB2.out.trans hb)
  clear hd hb HD2 HB2
  go_wp2_with fail
  refine (append_b w.heap.size g _ 1 B A' n' c' b _ 0 _ HD3.out HB3.out.size (fits_of _ _ _ _ (by omega) (by omega)) (HB.out.below (HB3.out.mono hB)) (Nat.le_trans hB HB3.out.size) (by omega) (fun x hx => by obtain rfl : _ = x := Option.some.inj hx; dsimp only; rw [HLA.out]; omega) (val_c3 a b)).mono ?_
  rintro e w4 ⟨rfl, hd, hb⟩
  have HD4 := Lib.hid hd
  have HB4 := Lib.hid (HB3.out.trans hb)
  clear hd hb HD3 HB3
  obtain ⟨k1, k2⟩ := HC.out w4 HB4.out
  generalize hs3 : str (a ++ b) = s3 at hcat hsz
  have HS3 := Lib.hid hs3
  clear hs3
  go_wp2_with fail
  refine (mod_z v _ (N + 1) _ (by omega) (by omega) (by omega)).mono ?_
  rintro e w5 ⟨rfl, rfl⟩
  rw [← HK.out]
  go_wp2_with fail
  refine (cut_b w.heap.size g _ 1 _ _ 1 _ HD4.out HB4.out.size (fits_of _ _ _ _ (by omega) (by omega)) (val_no a b (.inr (by rw [HLN.out]; omega)))).mono ?_
  rintro e w5 ⟨rfl, hd, hb⟩
  have HD5 := Lib.hid hd
  have HB5 := Lib.hid (HB4.out.trans hb)
  clear hd hb HD4 HB4 k1 k2
  go_wp2_with fail
  refine (cut_b w.heap.size g _ 1 _ _ 1 _ HD5.out HB5.out.size (fits_of _ _ _ _ (by omega) (by omega)) (val_no a b (.inl (by omega)))).mono ?_
  rintro e w6 ⟨rfl, hd, hb⟩
  have HD6 := Lib.hid hd
  have HB6 := Lib.hid (HB5.out.trans hb)
  clear hd hb HD5 HB5
  go_wp2_with fail
  refine (cut_b w.heap.size g _ 2 _ _ 5 _ HD6.out HB6.out.size (fits_of _ _ _ _ (by omega) (by omega)) (val_no2 a b)).mono ?_
  rintro e w7 ⟨rfl, hd, hb⟩
  have HD7 := Lib.hid hd
  have HB7 := Lib.hid (HB6.out.trans hb)
  clear hd hb HD6 HB6
  go_wp2_with fail
  refine (cut_b w.heap.size g _ 1 k _ 0 _ HD7.out HB7.out.size (fits_of _ _ _ _ (by omega) (by omega)) (val_c4 a b k (by rw [HLN.out]; exact hkN))).mono ?_
  rintro e w8 ⟨rfl, hd, hb⟩
  have HD8 := Lib.hid hd
  have HB8 := Lib.hid (HB7.out.trans hb)
  clear hd hb HD7 HB7
  go_wp2_with fail
  have hmin : ∃ j : Nat, (safe (c4 a b k) 1 = (j : Int)) ∧ ((n < k ∧ j = n) ∨ (¬ n < k ∧ j = k)) := by
    refine ⟨min n k, ?_, by omega⟩
    rw [← HLA.out]
    rfl
  obtain ⟨j, hj, hj2⟩ := hmin
  refine (synced_val _ g _ 1 _ j HD8.out ⟨by omega, by omega⟩ hj).mono ?_
  rintro e w9 ⟨rfl, rfl⟩
  clear hj
  go_upto_if 76 with fail
  go_cut [] (fun wx => w8 = wx)
  case first =>
    rcases hj2 with ⟨hlt, rfl⟩ | ⟨hlt, rfl⟩
    · have hm1 : min (k : Int) (j : Int) = (j : Int) := by omega
      go_wp2_with fail
      go_meet
      rfl
    · have hm1 : min (j : Int) (n : Int) = (j : Int) := by omega
      go_wp2_with fail
      go_meet
      rfl
  case rest =>
    subst hcut
    clear hj2
    go_wp2_with fail
    refine (append_b w.heap.size g _ 1 B A' n' c' b _ 0 _ HD8.out HB8.out.size (fits_of _ _ _ _ (by omega) (by omega)) (HB.out.below (HB8.out.mono hB)) (Nat.le_trans hB HB8.out.size) (by omega) (fun x hx => by obtain rfl : _ = x := Option.some.inj hx; dsimp only; rw [take_len (by rw [HLN.out]; exact hkN)]; omega) (val_c5 a b k)).mono ?_
    rintro e w9 ⟨rfl, hd, hb⟩
    have HD9 := Lib.hid hd
    have HB9 := Lib.hid (HB8.out.trans hb)
    clear hd hb HD8 HB8
    have hlx : ((a ++ b).take k ++ b).length = k + n' := by rw [List.length_append, take_len (by rw [HLN.out]; exact hkN), HLB.out]
    go_wp2_with fail
    refine (read_yes _ g (c5 a b k) 1 _ _ HD9.out ⟨by omega, by omega⟩ rfl (by dsimp only; rw [hlx]; omega)).mono ?_
    rintro e w10 ⟨A10, c10, rfl, ho, hb⟩
    dsimp only at ho ⊢
    obtain ⟨M, hM⟩ : ∃ M, M = k + n' := ⟨_, rfl⟩
    rw [hlx, ← hM] at ho
    rw [hlx, ← hM]
    have hY : Bytes w10 w10.heap.size A10 M c10 ((a ++ b).take k ++ b) := Bytes.of_own ho
    have HD10 := Lib.hid (HD9.out.new hb)
    have HB10 := Lib.hid (held_two HB9.out hb)
    have kx : (convert 30 9 (.slice A10 M c10)).run Try.prog w10.drew = .ok (.string (str ((a ++ b).take k ++ b))) w10.drew := Bytes.str (w := w10.drew) (P := Try.prog) hY Try.underlying30 Try.underlying5 Try.underlying9
    have kb : (convert 30 9 (.slice A' n' c')).run Try.prog w10.drew = .ok (.string (str b)) w10.drew := (HC.out w10.drew HB10.out.drew).2
    have hcat2 := str_cat ((a ++ b).take k) b
    have hroom2 := str_room ((a ++ b).take k) b (by rw [take_len (by rw [HLN.out]; exact hkN)]; omega) (by rw [HLB.out]; omega)
    have hext : s3.extract 0 k = str ((a ++ b).take k) := by
      rw [← HS3.out]
      unfold str
      rw [ByteArray.extract_mk, List.drop_zero, Nat.sub_zero]
    have hkN2 : (k : Int) ≤ (N : Int) := by omega
    clear ho hb HD9 HB9 hlx hM hY hcat hroom
    generalize str ((a ++ b).take k ++ b) = s6 at hcat2 kx
    generalize str ((a ++ b).take k) = s4 at hcat2 hroom2 hext
    generalize str b = s5 at hcat2 hroom2 kb
    go_wp2
    go_still_tail 19, (by kernel_rfl)
    go_wp2_with fail
    clear kx kb hcat2 hroom2 hext
    refine (remove_b w.heap.size g (c5 a b k) 1 w10.drew 0 _ HD10.out.drew HB10.out.size (fits_of _ _ _ _ (by omega) (by omega)) (val_c6 a b k)).mono ?_
    rintro e w11 ⟨rfl, hd, hb⟩
    have HD11 := Lib.hid hd
    have HB11 := Lib.hid (HB10.out.trans (below_of_drew hb))
    clear hd hb HD10 HB10
    go_wp2_with fail
    refine (remove_b w.heap.size g c6 1 _ 5 _ HD11.out HB11.out.size (fits_of _ _ _ _ (by omega) (by omega)) val_c6n).mono ?_
    rintro e w12 ⟨rfl, hd, hb⟩
    have HD12 := Lib.hid hd
    have HB12 := Lib.hid (HB11.out.trans hb)
    clear hd hb HD11 HB11
    go_wp2_with fail
    refine (sync_b w.heap.size g c6 1 _ 5 _ HD12.out HB12.out.size (fits_of _ _ _ _ (by omega) (by omega)) val_c6s).mono ?_
    rintro e w13 ⟨rfl, hd, hb⟩
    have HD13 := Lib.hid hd
    have HB13 := Lib.hid (HB12.out.trans hb)
    clear hd hb HD12 HB12
    go_wp2_with fail
    refine (append_b w.heap.size g c6 1 B A n c a _ 0 _ HD13.out HB13.out.size (fits_of _ _ _ _ (by omega) (by omega)) (HA.out.below (HB13.out.mono hB)) (Nat.le_trans hB HB13.out.size) (by omega) (fun x hx => by cases hx) (val_c7 a)).mono ?_
    rintro e w14 ⟨rfl, hd, hb⟩
    have HD14 := Lib.hid hd
    have HB14 := Lib.hid (HB13.out.trans hb)
    clear hd hb HD13 HB13
    go_wp2_with fail
    refine (read_yes _ g (c7 a) 1 _ _ HD14.out ⟨by omega, by omega⟩ rfl (by dsimp only; rw [HLA.out]; omega)).mono ?_
    rintro e w15 ⟨A15, c15, rfl, ho, hb⟩
    dsimp only at ho ⊢
    rw [HLA.out] at ho ⊢
    have HY15 : Hid (Bytes w15 w15.heap.size A15 n c15 a) := Bytes.of_own ho
    have HD15 := Lib.hid (HD14.out.new hb)
    have HB15 := Lib.hid (held_two HB14.out hb)
    clear ho hb HD14 HB14
    go_wp2_with fail
    refine (awake_any _).mono ?_
    rintro e w16 ⟨rfl, hb⟩
    have HY16 := Lib.hid (HY15.out.below hb)
    have HD16 := Lib.hid (HD15.out.new hb)
    have HB16 := Lib.hid (held_two HB15.out hb)
    clear hb HD15 HB15 HY15
    go_wp2_with fail
    refine (bytes_same _ _ _ _ n c15 n c a _ HY16.out (HA.out.below (HB16.out.mono hB))).mono ?_
    rintro e w17 ⟨rfl, rfl⟩
    go_wp2_with fail
    refine (synced_val _ g (c7 a) 1 _ 0 HD16.out ⟨by omega, by omega⟩ rfl).mono ?_
    rintro e w17 ⟨rfl, rfl⟩
    go_wp2_with fail
    refine (append_b w.heap.size g (c7 a) (-1) B A n c a _ 1 _ HD16.out HB16.out.size (fits_of _ _ _ _ (by omega) (by omega)) (HA.out.below (HB16.out.mono hB)) (Nat.le_trans hB HB16.out.size) (by omega) (fun x hx => by cases hx) (val_c7n a a)).mono ?_
    rintro e w17 ⟨rfl, hd, hb⟩
    have HD17 := Lib.hid hd
    have HB17 := Lib.hid (HB16.out.trans hb)
    clear hd hb HD16 HB16
    go_wp2_with fail
    refine (append_b w.heap.size g (c7 a) 16384 B A n c a _ 1 _ HD17.out HB17.out.size (fits_of _ _ _ _ (by omega) (by omega)) (HA.out.below (HB17.out.mono hB)) (Nat.le_trans hB HB17.out.size) (by omega) (fun x hx => by cases hx) (val_c7m a a)).mono ?_
    rintro e w18 ⟨rfl, hd, hb⟩
    have HB18 := Lib.hid (HB17.out.trans hb)
    clear hd hb
    go_wp2
    go_ret
    exact ⟨rfl, HB18.out⟩
end Go.Proofs.Ythjdankeopfkaaa.Disk
