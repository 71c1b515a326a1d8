/-
  The walk of WalTears: a write that breaks off leaves no entry, not in the log, and not behind a crash; the next one is as if it had never been.
-/
import Derived.Test.YtiealiihedkniaaGreatWalLaw
namespace Go.Proofs.YtiealiihedkniaaGreat.Wal
set_option maxRecDepth 100000
open Go.RowKit Base WalMath
open Go.Proofs.YtiealiihedkniaaGreat.Field (modZ modZ_lt mod_any)
open Go.Proofs.YtiealiihedkniaaGreat.Disk (Turn Out DiskAt I64 Fits own_same own_type)
open DiskMath (Fl Dk)
set_option linter.ambiguousOpen false

def TearRel (w : World) (ls : List (List UInt8)) (sz : Int) (gd : Nat) (v10 v12 v13 : Value) (wr : World) : Prop :=
  ∃ (t g : Nat) (lg : Lg) (dk : Dk), v10 = .pointer (some ⟨g, 0, none⟩) ∧ v12 = .int .i64 t ∧ v13 = .int .i64 t ∧ t ≤ ls.length ∧ t ≤ 20 ∧ Tore ls 0 sz t lg dk ∧ (∀ p ∈ ls.take t, p.length ≤ 1000) ∧ Both (From w.heap.size) wr g gd lg dk ∧ Below w.heap.size w wr

set_option maxHeartbeats 6400000 in
theorem tears_walk (n : Int) (A : Option Addr) (m c : Nat) (ls : List (List UInt8)) (kk : Int) (A' : Option Addr) (n' c' : Nat) (ks : List Int) (w : World) (hr : Lists w w.heap.size A m c ls) (hks : Row w w.heap.size 1 A' n' c' (iv ks)) (hI : ∀ k, I64 (ks.getD k 0)) :
    Calls Tryz.prog 5 #[.int .i64 n, .slice A m c, .int .i64 kk, .slice A' n' c'] w fun e w' => e = .returned (.bool true) ∧ Below w.heap.size w w' := by
  have hml := hr.len
  have HML := Lib.hid hml
  have hle := hr.le
  have HR := Lib.hid hr
  have HK := Lib.hid hks
  have HI := Lib.hid hI
  have hsz := size6_bd n
  have HSZ := Lib.hid hsz
  have HN := Lib.hid (fun w => size_any n w)
  clear hr hks hI hml
  generalize sizeOf6 n = sz at *
  have HM := Lib.hid (fun w => mod_any kk 3000 w (by omega) (by omega))
  have hmd := modZ_lt kk (n := 3000) (by omega)
  generalize modZ kk 3000 = md at *
  clear hsz
  go_enter Tryz.func5, Tryz.ntmps5
  go_wp2_with fail
  refine (newdisk_any w).mono ?_
  rintro e w1 ⟨gd, rfl, hd1, hb1⟩
  have HD1 := Lib.hid hd1
  have HB1 := Lib.hid hb1
  clear hd1 hb1
  go_wp2_with fail
  refine (HN.out _).mono ?_
  rintro e w2 ⟨rfl, hb2⟩
  have HD2 := Lib.hid (HD1.out.new hb2)
  have HB2 := Lib.hid (held_two HB1.out hb2)
  clear hb2 HD1 HB1
  go_wp2_with fail
  refine (open_b w.heap.size gd _ _ _ 0 0 0 sz _ HD2.out HB2.out.size cap0 (by omega) (by omega) (open0 (by omega) (by omega) HSZ.out.1 HSZ.out.2)).mono ?_
  rintro e w3 ⟨g, rfl, hbo, hb3⟩
  have HO3 := Lib.hid hbo
  have HB3 := Lib.hid (HB2.out.trans hb3)
  clear hbo hb3 HD2 HB2
  go_wp2_with fail
  refine (awake_any _).mono ?_
  rintro e w4 ⟨rfl, hb4⟩
  have HO4 := Lib.hid (HO3.out.new hb4)
  have HB4 := Lib.hid (held_two HB3.out hb4)
  clear hb4 HO3 HB3
  go_wp2
  go_loopw [10, 12, 13] (fun v10 v12 v13 wr => TearRel w ls sz gd v10 v12 v13 wr) (fun _ _ i _ => 20 - (intOf i).toNat)
  case atStart => exact ⟨0, g, _, _, rfl, rfl, rfl, Nat.zero_le _, Nat.zero_le _, tore0 ls 0 sz, (fun p hp => by simp at hp), HO4.out, HB4.out⟩
  case round =>
    obtain ⟨t, g, lg, dk, rfl, rfl, rfl, hj, hj20, htore, hps, hbo, hbel⟩ := hrel
    have HTO := Lib.hid htore
    have HPS := Lib.hid hps
    have HO := Lib.hid hbo
    have HB := Lib.hid hbel
    clear htore hps hbo hbel HO4 HB4
    rw [HML.out] at hj
    have HTL : Hid (t ≤ ls.length) := by rw [HML.out]; exact hj
    by_cases hlt : t < m ∧ t < 20
    · obtain ⟨b, off, Ap, np, cp, p, rfl, hb, hcell, hy, hget, htake⟩ := (HR.out.below HB.out).at_ hlt.1
      have HY := Lib.hid hy
      have HT := Lib.hid htake
      have HG := Lib.hid hget
      have hpl := hy.len
      have HPL := Lib.hid hpl
      obtain ⟨hlt1, hlt2⟩ := hlt
      clear hy htake hget hpl
      by_cases hbig : 1000 < np
      · have hd1 : decide ((1000 : Int) < (np : Int)) = true := by simp; omega
        clear hbig
        go_wp2_with fail
        go_quiet (first | fail)
        go_wp2
        go_ret
        exact ⟨rfl, below_drewN HB.out nq⟩
      · have hnp : np ≤ 1000 := by omega
        clear hbig
        obtain ⟨q, d', hte, hops, pre, s, s0, mm, hrent⟩ := HTO.out.tear (k := (md : Int)) (by omega) (by omega) HG.out (by rw [HPL.out]; exact hnp) (by omega) (by omega)
        have HTE := Lib.hid hte
        have HRE := Lib.hid hrent
        have HOPS := Lib.hid hops
        have HCH := Lib.hid HTO.out.good.chain
        have HF := Lib.hid (fine_of HTO.out.good.chain HTO.out.rows (by omega) HTO.out.base HTO.out.size (by omega) (by omega) HSZ.out.1 HSZ.out.2 HPS.out)
        have HF2 := Lib.hid (show Fine 0 1 { lg with left := some q } from fine_of (g := { lg with left := some q }) HTO.out.good.chain HTO.out.rows (by omega) HTO.out.base HTO.out.size (by omega) (by omega) HSZ.out.1 HSZ.out.2 HPS.out)
        have HC := Lib.hid (HTO.out.cap HTL.out (by omega) HPS.out)
        have HC2 := Lib.hid (show Cap 200 200000 d' from hrent.cap (by show ∀ p ∈ rowsOf lg.segs, _; rw [HTO.out.rows]; exact HPS.out) (by rw [HPL.out]; exact hnp) (by show cnt lg.segs < 100; rw [HTO.out.cnt HTL.out]; omega) (by omega))
        have HHD := Lib.hid (show hd { lg with left := some q }.segs = t from HTO.out.hd HTL.out)
        have HCE := Lib.hid (fun wx (hx : Below w.heap.size w wx) => (hx.cell (p := ⟨b, off + t, none⟩) hb).trans ((HB.out.cell (p := ⟨b, off + t, none⟩) hb).symm.trans hcell))
        have HYE := Lib.hid (fun wx (hx : Below w.heap.size wr wx) => HY.out.below hx)
        clear hte hrent hops
        have hd1 : decide ((1000 : Int) < (np : Int)) = false := by simp; omega
        clear hnp
        have CT := Lib.hid (tear_b w.heap.size g gd lg dk 0 1 700 200000 Ap np cp p md _ wr.drew (HO.out.drewN 1) HB.out.size HF.out HCH.out HC.out (by omega) (by omega) HY.out (by omega) HTE.out)
        go_wp2_with fail
        go_region_held3 (fun w' => w'.cell? ⟨b, off + t, none⟩ = some (.slice Ap np cp))
          (first | exact hcell | exact (hb5.cell (p := ⟨b, off + t, none⟩) hb).trans hcell | exact (hb6.cell (p := ⟨b, off + t, none⟩) hb).trans ((hb5.cell (p := ⟨b, off + t, none⟩) hb).trans hcell) | fail)
          (first
            | (go_at_call 13; refine (HM.out _).mono ?_; rintro e wm ⟨rfl, rfl⟩)
            | (go_at_call 24; refine CT.out.mono ?_; rintro e w5 ⟨rfl, hbo5, hb5⟩)
            | (go_at_call 17; refine (head_b w.heap.size g gd _ _ 0 1 t _ hbo5 (Nat.le_trans HB.out.size hb5.size) HF2.out HCH.out HHD.out).mono ?_; rintro e w6 ⟨rfl, hbo6, hb6⟩)
            | fail)
        have HW6 := Lib.hid ((below_of_drew hb5).trans hb6)
        have HO6 := Lib.hid hbo6
        have HB6 := Lib.hid (HB.out.trans HW6.out)
        clear hbo5 hb5 hbo6 hb6 CT hcell
        rcases Nat.mod_two_eq_zero_or_one t with hpar | hpar
        · have htm : (t : Int).tmod 2 = 0 := by rw [Int.tmod_eq_emod_of_nonneg (by omega)]; omega
          clear hpar
          obtain ⟨he1, he2, he3⟩ := HTO.out.mend HRE.out HOPS.out (by omega) HG.out (by rw [HPL.out]; simp at hd1; omega) (by omega) (by omega)
          generalize hr : append { lg with left := some q } d' p = r at *
          have HE := Lib.hid hr
          have H3 := Lib.hid he3
          clear hr he3
          have hcell := HCE.out _ HB6.out
          go_wp2_with fail
          refine (append_b w.heap.size g gd _ d' 0 1 200 200000 Ap np cp p r _ HO6.out HB6.out.size HF2.out HCH.out HC2.out (by omega) (by omega) (HYE.out _ HW6.out) HE.out).mono ?_
          rintro e w7 ⟨rfl, hbo, hb7⟩
          rw [he1, he2]
          have HO7 := Lib.hid hbo
          have HB7 := Lib.hid (HB6.out.trans hb7)
          clear hbo hb7 hcell he1 he2
          go_wp2
          go_roundw
          case rel =>
            exact ⟨t + 1, g, r.l, r.d, rfl, by go_num, by go_num, by rw [HML.out]; omega, by omega, H3.out, few_snoc HPS.out HT.out (by rw [HPL.out]; simp at hd1; omega), HO7.out, HB7.out⟩
          case measure => simp [intOf]; omega
        · have htm : (t : Int).tmod 2 = 1 := by rw [Int.tmod_eq_emod_of_nonneg (by omega)]; omega
          clear hpar
          obtain ⟨segs, d1, hop, hgood, hrows, hops1, hleft1⟩ := HTO.out.again HRE.out HOPS.out HTL.out (by omega) (by omega) (by omega) HSZ.out.1 HSZ.out.2 ks
          have HOP := Lib.hid hop
          have HGD := Lib.hid hgood
          have HF3 := Lib.hid (show Fine 0 1 (Lg.mk segs 0 sz none) from fine_of (g := ⟨segs, 0, sz, none⟩) hgood.chain hrows (by omega) rfl rfl (by omega) (by omega) HSZ.out.1 HSZ.out.2 HPS.out)
          have HHD3 := Lib.hid (show hd (Lg.mk segs 0 sz none).segs = t by show hd segs = _; rw [hd_chain1 hgood.chain, cnt, hrows, List.length_take, HML.out]; omega)
          have HC3 := Lib.hid (show Cap 200 1008019 d1 from HF3.out.cap hgood (by omega) (by omega))
          obtain ⟨he1, he2, hp3, hp4, hp5, hp6, hp7, hp8⟩ := Tore.push (l := ls) (t := t) (k := 6 * t + 2) (p := p) hgood hrows rfl rfl hops1 hleft1 HTL.out (by omega) (by rw [HPL.out]; simp at hd1; omega) (by omega) (by omega)
          generalize hr : append ⟨segs, 0, sz, none⟩ d1 p = r at *
          have HE := Lib.hid hr
          have H3 := Lib.hid (show Tore ls 0 sz (t + 1) r.l r.d from ⟨hp3, by rw [hp4, take_next HG.out], hp5, hp6, by omega, hp8⟩)
          clear hr hp3 hp4 hp5 hp6 hp7 hp8 hop hgood hrows hops1 hleft1
          go_wp2_with fail
          refine (crash_b w.heap.size gd d' A' n' c' ks 200 200000 _ HO6.out.onDisk HB6.out.size (HK.out.below HB6.out) HI.out HC2.out (by omega)).mono ?_
          rintro e w7 ⟨rfl, hbo, hb7⟩
          have HD7 := Lib.hid hbo
          have HW7 := Lib.hid (HW6.out.trans hb7)
          clear hbo hb7 HO6 HB6
          go_wp2_with fail
          refine (HN.out _).mono ?_
          rintro e w8 ⟨rfl, hb8⟩
          have HD8 := Lib.hid (HD7.out.new hb8)
          have HW8 := Lib.hid (HW7.out.trans (hb8.mono (Nat.le_trans HB.out.size HW7.out.size)))
          clear hb8 HD7
          go_wp2_with fail
          refine (open_b w.heap.size gd _ _ _ 200 200000 0 sz _ HD8.out (Nat.le_trans HB.out.size HW8.out.size) (HC2.out.crash ks) (by omega) (by omega) HOP.out).mono ?_
          rintro e w9 ⟨g2, rfl, hbo, hb9⟩
          have HO9 := Lib.hid hbo
          have HW9 := Lib.hid (HW8.out.trans hb9)
          clear hbo hb9 HD8
          go_wp2_with fail
          refine (head_b w.heap.size g2 gd _ _ 0 1 t _ HO9.out (Nat.le_trans HB.out.size HW9.out.size) HF3.out HGD.out.chain HHD3.out).mono ?_
          rintro e w10 ⟨rfl, hbo, hb10⟩
          have HO10 := Lib.hid hbo
          have HW10 := Lib.hid (HW9.out.trans hb10)
          have HB10 := Lib.hid (HB.out.trans HW10.out)
          clear hbo hb10 HO9
          have hcell := HCE.out _ HB10.out
          go_wp2_with fail
          refine (append_b w.heap.size g2 gd _ d1 0 1 200 1008019 Ap np cp p r _ HO10.out HB10.out.size HF3.out HGD.out.chain HC3.out (by omega) (by omega) (HYE.out _ HW10.out) HE.out).mono ?_
          rintro e w11 ⟨rfl, hbo, hb11⟩
          rw [he1, he2]
          have HO11 := Lib.hid hbo
          have HB11 := Lib.hid (HB10.out.trans hb11)
          clear hbo hb11 hcell he1 he2
          go_wp2
          go_roundw
          case rel =>
            exact ⟨t + 1, g2, r.l, r.d, rfl, by go_num, by go_num, by rw [HML.out]; omega, by omega, H3.out, few_snoc HPS.out HT.out (by rw [HPL.out]; simp at hd1; omega), HO11.out, HB11.out⟩
          case measure => simp [intOf]; omega
    · have HC := Lib.hid (HTO.out.cap HTL.out (by omega) HPS.out)
      obtain ⟨segs, d1, hop, hgood, hrows⟩ := HTO.out.fresh HTL.out (by omega) (by omega) (by omega) HSZ.out.1 HSZ.out.2 ks
      have HOP := Lib.hid hop
      have HGD := Lib.hid hgood
      have HF3 := Lib.hid (show Fine 0 1 (Lg.mk segs 0 sz none) from fine_of (g := ⟨segs, 0, sz, none⟩) hgood.chain hrows (by omega) rfl rfl (by omega) (by omega) HSZ.out.1 HSZ.out.2 HPS.out)
      have HHD3 := Lib.hid (show hd (Lg.mk segs 0 sz none).segs = t by show hd segs = _; rw [hd_chain1 hgood.chain, cnt, hrows, List.length_take, HML.out]; omega)
      have HLO3 := Lib.hid (show low (Lg.mk segs 0 sz none).segs = 1 from low_chain1 hgood.chain)
      clear hop hgood hrows
      rcases (show (t < m ∧ ¬ t < 20) ∨ (¬ t < m ∧ True) from if h : t < m then .inl ⟨h, fun h2 => hlt ⟨h, h2⟩⟩ else .inr ⟨h, trivial⟩) with ⟨hjm, hj3⟩ | ⟨hjm, hj3⟩
      all_goals (
        clear hlt
        go_wp2_with fail
        refine (crash_b w.heap.size gd dk A' n' c' ks 700 200000 _ HO.out.onDisk HB.out.size (HK.out.below HB.out) HI.out HC.out (by omega)).mono ?_
        rintro e w7 ⟨rfl, hbo, hb7⟩
        have HD7 := Lib.hid hbo
        have HB7 := Lib.hid (HB.out.trans hb7)
        clear hbo hb7 HO HB
        go_wp2_with fail
        refine (HN.out _).mono ?_
        rintro e w8 ⟨rfl, hb8⟩
        have HD8 := Lib.hid (HD7.out.new hb8)
        have HB8 := Lib.hid (held_two HB7.out hb8)
        clear hb8 HD7 HB7
        go_wp2_with fail
        refine (open_b w.heap.size gd _ _ _ 700 200000 0 sz _ HD8.out HB8.out.size (HC.out.crash ks) (by omega) (by omega) HOP.out).mono ?_
        rintro e w9 ⟨g2, rfl, hbo, hb9⟩
        have HO9 := Lib.hid hbo
        have HB9 := Lib.hid (HB8.out.trans hb9)
        clear hbo hb9 HD8 HB8
        go_wp2_with fail
        refine (head_b w.heap.size g2 gd _ _ 0 1 t _ HO9.out HB9.out.size HF3.out HGD.out.chain HHD3.out).mono ?_
        rintro e w10 ⟨rfl, hbo, hb10⟩
        have HO10 := Lib.hid hbo
        have HB10 := Lib.hid (HB9.out.trans hb10)
        clear hbo hb10 HO9 HB9
        go_wp2_with fail
        refine (low_b w.heap.size g2 gd _ _ 1 _ HO10.out HLO3.out).mono ?_
        rintro e w11 ⟨rfl, rfl⟩
        go_wp2
        go_ret
        exact ⟨rfl, HB10.out⟩)
end Go.Proofs.YtiealiihedkniaaGreat.Wal
