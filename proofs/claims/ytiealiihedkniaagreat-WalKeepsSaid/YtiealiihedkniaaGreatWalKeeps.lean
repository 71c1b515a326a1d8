/-
  The walk of WalKeeps: what Append told is there behind a crash, in its place; of what was on the way at most one more.
-/
import Derived.Test.YtiealiihedkniaaGreatWalLaw
namespace Go.Proofs.YtiealiihedkniaaGreat.Wal
set_option linter.unusedVariables false
set_option maxRecDepth 100000
open Go.RowKit Base WalMath
open Go.Proofs.YtiealiihedkniaaGreat.Field (modZ modZ_lt mod_any)
open Go.Proofs.YtiealiihedkniaaGreat.Disk (Turn Out DiskAt I64 Fits own_same own_type)
open DiskMath (Fl Dk)
set_option linter.ambiguousOpen false

def KeepRel (w : World) (ls : List (List UInt8)) (sz : Int) (g gd : Nat) (v12 v13 : Value) (wr : World) : Prop :=
  ∃ (j t : Nat) (lg : Lg) (dk : Dk), v12 = .int .i64 t ∧ v13 = .int .i64 j ∧ j ≤ ls.length ∧ j ≤ 30 ∧ t ≤ j ∧ WalMath.Run ls 0 sz j t lg dk ∧ (∀ p ∈ ls.take j, p.length ≤ 1000) ∧ Both (From w.heap.size) wr g gd lg dk ∧ Below w.heap.size w wr
def SeenRel (w : World) (k g gd : Nat) (lg : Lg) (dk : Dk) (v : Value) (wr : World) : Prop := ∃ i : Nat, v = .int .i64 i ∧ i ≤ k ∧ Both (From w.heap.size) wr g gd lg dk ∧ Below w.heap.size w wr
theorem run0 (ls : List (List UInt8)) (sz : Int) {n : Nat} (hn : n ≤ 1000) : WalMath.Run ls 0 sz 0 0 ⟨[], 0, sz, none⟩ (DiskMath.arm DiskMath.none_ n) :=
  ⟨.inl rfl, rfl, rfl, rfl, Nat.le_refl _, Nat.le_refl _, Nat.le_refl _, by show (n : Int).toNat ≤ 1000; omega, .inl ⟨rfl, .inl rfl, rfl, rfl, rfl⟩⟩

set_option maxHeartbeats 6400000 in
theorem keeps_walk (n : Int) (A : Option Addr) (m c : Nat) (ls : List (List UInt8)) (at_ : Int) (A' : Option Addr) (n' c' : Nat) (ks : List Int) (w : World) (hr : Lists w w.heap.size A m c ls) (hks : Row w w.heap.size 1 A' n' c' (iv ks)) (hI : ∀ k, I64 (ks.getD k 0)) :
    Calls Tryz.prog 3 #[.int .i64 n, .slice A m c, .int .i64 at_, .slice A' n' c'] w fun e w' => e = .returned (.bool true) ∧ Below w.heap.size w w' := by
  have hml := hr.len
  have HML := Lib.hid hml
  have hle := hr.le
  have HR := Lib.hid hr
  have HK := Lib.hid hks
  have HI := Lib.hid hI
  have hsz := size6_bd n
  have HSZ := Lib.hid hsz
  have HN := Lib.hid (fun w => size_any n w)
  clear hr hks hI hml
  generalize sizeOf6 n = sz at *
  have HM := Lib.hid (fun w => mod_any at_ 70 w (by omega) (by omega))
  have hmd := modZ_lt at_ (n := 70) (by omega)
  generalize modZ at_ 70 = md at *
  clear hsz
  go_enter Tryz.func3, Tryz.ntmps3
  go_wp2_with fail
  refine (newdisk_any w).mono ?_
  rintro e w1 ⟨gd, rfl, hd1, hb1⟩
  have HD1 := Lib.hid hd1
  have HB1 := Lib.hid hb1
  clear hd1 hb1
  go_wp2_with fail
  refine (HN.out _).mono ?_
  rintro e w2 ⟨rfl, hb2⟩
  have HD2 := Lib.hid (HD1.out.new hb2)
  have HB2 := Lib.hid (held_two HB1.out hb2)
  clear hb2 HD1 HB1
  go_wp2_with fail
  refine (open_b w.heap.size gd _ _ _ 0 0 0 sz _ HD2.out HB2.out.size cap0 (by omega) (by omega) (open0 (by omega) (by omega) HSZ.out.1 HSZ.out.2)).mono ?_
  rintro e w3 ⟨g, rfl, hbo, hb3⟩
  have HO3 := Lib.hid hbo
  have HB3 := Lib.hid (HB2.out.trans hb3)
  clear hbo hb3 HD2 HB2
  go_wp2_with fail
  refine (awake_any _).mono ?_
  rintro e w4 ⟨rfl, hb4⟩
  have HO4 := Lib.hid (HO3.out.new hb4)
  have HB4 := Lib.hid (held_two HB3.out hb4)
  clear hb4 HO3 HB3
  go_wp2_with fail
  refine (HM.out _).mono ?_
  rintro e w4' ⟨rfl, rfl⟩
  go_wp2_with fail
  refine (arm_b w.heap.size g gd _ _ _ _ HO4.out HB4.out.size).mono ?_
  rintro e w5 ⟨rfl, hbo, hb5⟩
  have HO5 := Lib.hid hbo
  have HB5 := Lib.hid (HB4.out.trans hb5)
  clear hbo hb5 HO4 HB4
  go_wp2
  go_loopw [12, 13] (fun v12 v13 wr => KeepRel w ls sz g gd v12 v13 wr) (fun _ i _ => 30 - (intOf i).toNat)
  case atStart => exact ⟨0, 0, _, _, rfl, rfl, Nat.zero_le _, Nat.zero_le _, Nat.le_refl _, run0 ls sz (n := 1 + md) (by omega), (fun p hp => by simp at hp), (by have := HO5.out; exact this), HB5.out⟩
  case round =>
    obtain ⟨j, t, lg, dk, rfl, rfl, hj, hj30, htj, hrun, hps, hbo, hbel⟩ := hrel
    have HRUN := Lib.hid hrun
    have HPS := Lib.hid hps
    have HO := Lib.hid hbo
    have HB := Lib.hid hbel
    clear hrun hps hbo hbel HO5 HB5
    rw [HML.out] at hj
    by_cases hlt : j < m ∧ j < 30
    · obtain ⟨b, off, Ap, np, cp, p, rfl, hb, hcell, hy, hget, htake⟩ := (HR.out.below HB.out).at_ hlt.1
      have HY := Lib.hid hy
      have HT := Lib.hid htake
      have HG := Lib.hid hget
      have hpl := hy.len
      have HPL := Lib.hid hpl
      obtain ⟨hlt1, hlt2⟩ := hlt
      clear hy htake hget hpl
      by_cases hbig : 1000 < np
      · go_wp2
        go_ret
        exact ⟨rfl, HB.out⟩
      · have hnp : np ≤ 1000 := by omega
        clear hbig
        have HST := Lib.hid (HRUN.out.step (by omega) HG.out (by rw [HPL.out]; exact hnp) (by omega) (by omega))
        have HF := Lib.hid (fine_of HRUN.out.chain HRUN.out.rows (by omega) HRUN.out.base HRUN.out.size (by omega) (by omega) HSZ.out.1 HSZ.out.2 (fun q hq => HPS.out q (List.mem_of_mem_take (i := t) (by rw [List.take_take, Nat.min_eq_left htj]; exact hq))))
        have HC := Lib.hid (HRUN.out.cap (by rw [HML.out]; omega) (by omega) HPS.out)
        generalize hr : append lg dk p = r at *
        have HE := Lib.hid hr
        clear hr
        go_wp2_with fail
        refine (append_b w.heap.size g gd lg dk 0 1 200 200000 Ap np cp p r _ HO.out HB.out.size HF.out HRUN.out.chain HC.out (by omega) (by omega) HY.out HE.out).mono ?_
        rintro e w6 ⟨rfl, hbo, hb6⟩
        have HO6 := Lib.hid hbo
        have HB6 := Lib.hid (HB.out.trans hb6)
        clear hbo hb6
        rcases HST.out with ⟨h1, h2, h3, h4⟩ | ⟨h1, h4⟩
        · rw [h1, h2]
          have H4 := Lib.hid h4
          subst h3
          clear h1 h2 h4 HST
          go_wp2
          go_roundw
          case rel =>
            exact ⟨t + 1, t + 1, r.l, r.d, by go_num, by go_num, by rw [HML.out]; omega, by omega, Nat.le_refl _, H4.out, few_snoc HPS.out HT.out (by rw [HPL.out]; exact hnp), HO6.out, HB6.out⟩
          case measure => simp [intOf]; omega
        · rw [h1]
          generalize r.n = rn
          have H4 := Lib.hid h4
          clear h1 h4 HST
          go_wp2
          go_roundw
          case rel =>
            exact ⟨j + 1, t, r.l, r.d, rfl, by go_num, by rw [HML.out]; omega, by omega, by omega, H4.out, few_snoc HPS.out HT.out (by rw [HPL.out]; exact hnp), HO6.out, HB6.out⟩
          case measure => simp [intOf]; omega
    · have hC := HRUN.out.cap (by rw [HML.out]; omega) (by omega) HPS.out
      have HC := Lib.hid hC
      obtain ⟨k, segs, d', hop, hgood, hrows, hk0, hk1, hk2, hk3, hk4⟩ := HRUN.out.opens (by rw [HML.out]; omega) (by omega) (by omega) (by omega) HSZ.out.1 HSZ.out.2 ks
      have HOP := Lib.hid hop
      have HGD := Lib.hid hgood
      have HRW := Lib.hid hrows
      rw [HML.out] at hk2
      have HCN := Lib.hid (show cnt segs = k by rw [cnt, hrows, List.length_take, HML.out]; omega)
      have HHD := Lib.hid (show hd (Lg.mk segs 0 sz none).segs = k by show hd segs = _; rw [hd_chain1 hgood.chain, HCN.out])
      have HLO := Lib.hid (show low (Lg.mk segs 0 sz none).segs = 1 from low_chain1 hgood.chain)
      have HF := Lib.hid (show Fine 0 1 (Lg.mk segs 0 sz none) from fine_of (g := ⟨segs, 0, sz, none⟩) hgood.chain hrows (by omega) rfl rfl (by omega) (by omega) HSZ.out.1 HSZ.out.2 (fun q hq => HPS.out q (List.mem_of_mem_take (i := k) (by rw [List.take_take, Nat.min_eq_left hk3]; exact hq))))
      have hq1 : decide (k < t) = false := by simp; omega
      have hq2 : decide ((t : Int) + 1 < (k : Int)) = false := by simp; omega
      have hq3 : decide (m < k) = false := by simp; omega
      clear hC hop hgood hrows hk4
      rcases (show (j < m ∧ ¬ j < 30) ∨ (¬ j < m ∧ True) from if h : j < m then .inl ⟨h, fun h2 => hlt ⟨h, h2⟩⟩ else .inr ⟨h, trivial⟩) with ⟨hjm, hj3⟩ | ⟨hjm, hj3⟩
      all_goals (
        clear hlt
        go_wp2_with fail
        refine (crash_b w.heap.size gd dk A' n' c' ks 200 200000 _ HO.out.onDisk HB.out.size (HK.out.below HB.out) HI.out HC.out (by omega)).mono ?_
        rintro e w6 ⟨rfl, hbo, hb6⟩
        have HD6 := Lib.hid hbo
        have HB6 := Lib.hid (HB.out.trans hb6)
        clear hbo hb6 HO HB HRUN
        go_wp2_with fail
        refine (HN.out _).mono ?_
        rintro e w7 ⟨rfl, hb7⟩
        have HD7 := Lib.hid (HD6.out.new hb7)
        have HB7 := Lib.hid (held_two HB6.out hb7)
        clear hb7 HD6 HB6
        go_wp2_with fail
        refine (open_b w.heap.size gd _ _ _ 200 200000 0 sz _ HD7.out HB7.out.size (HC.out.crash ks) (by omega) (by omega) HOP.out).mono ?_
        rintro e w8 ⟨g2, rfl, hbo, hb8⟩
        have HO8 := Lib.hid hbo
        have HB8 := Lib.hid (HB7.out.trans hb8)
        clear hbo hb8 HD7 HB7
        go_wp2_with (first
          | (go_at_call 16
             refine (low_b w.heap.size g2 gd _ _ 1 _ HO8.out HLO.out).mono ?_
             rintro e w9 ⟨rfl, rfl⟩)
          | fail)
        refine (head_b w.heap.size g2 gd _ _ 0 1 k _ HO8.out HB8.out.size HF.out HGD.out.chain HHD.out).mono ?_
        rintro e w9 ⟨rfl, hbo, hb9⟩
        have HO9 := Lib.hid hbo
        have HB9 := Lib.hid (HB8.out.trans hb9)
        clear hbo hb9
        go_wp2_with fail
        refine (head_b w.heap.size g2 gd _ _ 0 1 k _ HO9.out HB9.out.size HF.out HGD.out.chain HHD.out).mono ?_
        rintro e w10 ⟨rfl, hbo, hb10⟩
        have HO10 := Lib.hid hbo
        have HB10 := Lib.hid (HB9.out.trans hb10)
        clear hbo hb10
        go_wp2_with fail
        refine (head_b w.heap.size g2 gd _ _ 0 1 k _ HO10.out HB10.out.size HF.out HGD.out.chain HHD.out).mono ?_
        rintro e w11 ⟨rfl, hbo, hb11⟩
        have HO11 := Lib.hid hbo
        have HB11 := Lib.hid (HB10.out.trans hb11)
        clear hbo hb11 HO8 HO9 HO10 HB8 HB9 HB10
        go_wp2
        go_loopw [18] (fun v wr => SeenRel w k g2 gd ⟨segs, 0, sz, none⟩ d' v wr) (fun v _ => k - (intOf v).toNat)
        case atStart => exact ⟨0, rfl, Nat.zero_le _, HO11.out, HB11.out⟩
        case round =>
          obtain ⟨i, rfl, hik, hbo, hbl⟩ := hrel
          have HOi := Lib.hid hbo
          have HBi := Lib.hid hbl
          clear hbo hbl
          go_wp2_with fail
          refine (head_b w.heap.size g2 gd _ _ 0 1 k _ HOi.out HBi.out.size HF.out HGD.out.chain HHD.out).mono ?_
          rintro e w12 ⟨rfl, hbo, hb12⟩
          have HO12 := Lib.hid hbo
          have HB12 := Lib.hid (HBi.out.trans hb12)
          clear hbo hb12
          by_cases hi : i < k
          · obtain ⟨b, off, Ap, np, cp, p, rfl, hb, hcell, hy, hget, _⟩ := HR.out.at_ (show i < m by omega)
            have hpl := hy.len
            have HY := Lib.hid hy
            have HEN := Lib.hid (show entry (Lg.mk segs 0 sz none).segs ((i : Int) + 1) = some p from entry_at HGD.out.chain (by omega) (by show (i : Int) + 1 < 1 + ((cnt segs : Nat) : Int); rw [HCN.out]; omega) (by
              show (rowsOf segs)[((i : Int) + 1 - 1).toNat]? = some p
              rw [HRW.out, show ((i : Int) + 1 - 1).toNat = i by omega, List.getElem?_take_of_lt hi, hget]))
            have HPL := Lib.hid hpl
            have HCE := Lib.hid (fun wx (hx : Below w.heap.size w wx) => (hx.cell (p := ⟨b, off + i, none⟩) hb).trans hcell)
            clear hy hget hpl hcell
            go_wp2_with fail
            refine (read_b w.heap.size g2 gd _ _ 0 1 ((i : Int) + 1) p np _ HO12.out HB12.out.size HF.out HGD.out.chain HLO.out HEN.out HPL.out).mono ?_
            rintro e w13 ⟨A13, c13, rfl, hy13, hbo, hb13⟩
            have HO13 := Lib.hid hbo
            have HB13 := Lib.hid (HB12.out.trans hb13)
            have HY13 := Lib.hid hy13
            clear hbo hb13 hy13
            have hc13 := HCE.out _ HB13.out
            go_wp2_with fail
            refine (Help.bytes_same _ _ _ _ _ _ _ _ p _ HY13.out (HY.out.below HB13.out)).mono ?_
            rintro e w14 ⟨rfl, rfl⟩
            go_wp2
            go_roundw
            case rel => exact ⟨i + 1, by go_num, by omega, HO13.out, HB13.out⟩
            case measure => simp [intOf]; omega
          · go_wp2
            go_ret
            exact ⟨rfl, HB12.out⟩)
end Go.Proofs.YtiealiihedkniaaGreat.Wal
