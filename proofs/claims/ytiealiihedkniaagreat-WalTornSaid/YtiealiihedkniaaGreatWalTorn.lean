/-
  The walk of WalTorn: a last file that is cut off anywhere has the entries that are whole; the log goes on behind them.
-/
import Derived.Test.YtiealiihedkniaaGreatWalLaw
namespace Go.Proofs.YtiealiihedkniaaGreat.Wal
set_option linter.unusedVariables false
set_option maxRecDepth 100000
open Go.RowKit Base WalMath
open Go.Proofs.YtiealiihedkniaaGreat.Field (modZ modZ_lt mod_any)
open Go.Proofs.YtiealiihedkniaaGreat.Disk (Turn Out DiskAt I64 Fits own_same own_type)
open DiskMath (Fl Dk)
set_option linter.ambiguousOpen false

def TornRel (w : World) (ls : List (List UInt8)) (sz : Int) (g gd : Nat) (v12 : Value) (wr : World) : Prop :=
  ∃ (t : Nat) (lg : Lg) (dk : Dk), v12 = .int .i64 t ∧ t ≤ ls.length ∧ Tore ls 5 sz t lg dk ∧ Full 5 1 lg.segs ∧ (∀ p ∈ ls.take t, p.length ≤ 1000) ∧ Both (From w.heap.size) wr g gd lg dk ∧ Below w.heap.size w wr
def ReadRel (w : World) (k g gd : Nat) (lg : Lg) (dk : Dk) (v : Value) (wr : World) : Prop := ∃ i : Nat, v = .int .i64 i ∧ i ≤ k ∧ Both (From w.heap.size) wr g gd lg dk ∧ Below w.heap.size w wr

set_option maxHeartbeats 6400000 in
theorem torn_walk (n : Int) (A : Option Addr) (m c : Nat) (ls : List (List UInt8)) (cut : Int) (A' : Option Addr) (n' c' : Nat) (p' : List UInt8) (w : World) (hr : Lists w w.heap.size A m c ls) (hp : Bytes w w.heap.size A' n' c' p') :
    Calls Tryz.prog 4 #[.int .i64 n, .slice A m c, .int .i64 cut, .slice A' n' c'] w fun e w' => e = .returned (.bool true) ∧ Below w.heap.size w w' := by
  have hml := hr.len
  have HML := Lib.hid hml
  have hle := hr.le
  have HR := Lib.hid hr
  have HP := Lib.hid hp
  have HPP := Lib.hid hp.len
  have hsz := size6_bd n
  have HSZ := Lib.hid hsz
  have HN := Lib.hid (fun w => size_any n w)
  clear hr hp hml
  generalize sizeOf6 n = sz at *
  clear hsz
  go_enter Tryz.func4, Tryz.ntmps4
  go_wp2_with fail
  refine (newdisk_any w).mono ?_
  rintro e w1 ⟨gd, rfl, hd1, hb1⟩
  have HD1 := Lib.hid hd1
  have HB1 := Lib.hid hb1
  clear hd1 hb1
  go_wp2_with fail
  refine (HN.out _).mono ?_
  rintro e w2 ⟨rfl, hb2⟩
  have HD2 := Lib.hid (HD1.out.new hb2)
  have HB2 := Lib.hid (held_two HB1.out hb2)
  clear hb2 HD1 HB1
  go_wp2_with fail
  refine (open_b w.heap.size gd _ _ _ 0 0 5 sz _ HD2.out HB2.out.size cap0 (by omega) (by omega) (open0 (by omega) (by omega) HSZ.out.1 HSZ.out.2)).mono ?_
  rintro e w3 ⟨g, rfl, hbo, hb3⟩
  have HO3 := Lib.hid hbo
  have HB3 := Lib.hid (HB2.out.trans hb3)
  clear hbo hb3 HD2 HB2
  go_wp2_with fail
  refine (awake_any _).mono ?_
  rintro e w4 ⟨rfl, hb4⟩
  have HO4 := Lib.hid (HO3.out.new hb4)
  have HB4 := Lib.hid (held_two HB3.out hb4)
  clear hb4 HO3 HB3
  by_cases hno : m = 0 ∨ 30 < m ∨ 1000 < n'
  · rcases hno with rfl | hno | hno
    · go_wp2_with (go_at_call 11; refine (awake_any _).mono ?_; rintro e w5 ⟨rfl, hb5⟩; have HB5 := Lib.hid (held_two HB4.out hb5); clear hb5)
      go_ret
      exact ⟨rfl, HB5.out⟩
    · have hm0 : ((m : Int) == 0) = false := by simp; omega
      go_wp2_with (go_at_call 11; refine (awake_any _).mono ?_; rintro e w5 ⟨rfl, hb5⟩; have HB5 := Lib.hid (held_two HB4.out hb5); clear hb5)
      go_ret
      exact ⟨rfl, HB5.out⟩
    · by_cases hm0 : m = 0
      · subst hm0
        go_wp2_with (go_at_call 11; refine (awake_any _).mono ?_; rintro e w5 ⟨rfl, hb5⟩; have HB5 := Lib.hid (held_two HB4.out hb5); clear hb5)
        go_ret
        exact ⟨rfl, HB5.out⟩
      · have hm1 : ((m : Int) == 0) = false := by simp; omega
        by_cases hm30 : 30 < m
        · go_wp2_with (go_at_call 11; refine (awake_any _).mono ?_; rintro e w5 ⟨rfl, hb5⟩; have HB5 := Lib.hid (held_two HB4.out hb5); clear hb5)
          go_ret
          exact ⟨rfl, HB5.out⟩
        · go_wp2_with (go_at_call 11; refine (awake_any _).mono ?_; rintro e w5 ⟨rfl, hb5⟩; have HB5 := Lib.hid (held_two HB4.out hb5); clear hb5)
          go_ret
          exact ⟨rfl, HB5.out⟩
  · have hm1 : ((m : Int) == 0) = false := by simp; omega
    have hm2 : decide ((30 : Int) < (m : Int)) = false := by simp; omega
    have hm3 : decide ((1000 : Int) < (n' : Int)) = false := by simp; omega
    have hm0 : 0 < m := by omega
    have hm30 : m ≤ 30 := by omega
    have HPN : Hid (n' ≤ 1000) := by show n' ≤ 1000; omega
    clear hno
    go_wp2
    clear hm1 hm2 hm3
    go_loopw [12] (fun v12 wr => TornRel w ls sz g gd v12 wr) (fun i _ => m - (intOf i).toNat)
    case atStart => exact ⟨0, _, _, rfl, Nat.zero_le _, tore0 ls 5 sz, trivial, (fun p hp => by simp at hp), HO4.out, HB4.out⟩
    case round =>
      obtain ⟨t, lg, dk, rfl, hj, htore, hfull, hps, hbo, hbel⟩ := hrel
      have HTO := Lib.hid htore
      have HFU := Lib.hid hfull
      have HPS := Lib.hid hps
      have HO := Lib.hid hbo
      have HB := Lib.hid hbel
      clear htore hps hbo hbel HO4 HB4 hfull
      rw [HML.out] at hj
      have HTL : Hid (t ≤ ls.length) := by rw [HML.out]; exact hj
      have HF := Lib.hid (fine_of HTO.out.good.chain HTO.out.rows (by omega) HTO.out.base HTO.out.size (by omega) (by omega) HSZ.out.1 HSZ.out.2 HPS.out)
      have HC := Lib.hid (HTO.out.cap HTL.out (by omega) HPS.out)
      have HCH := Lib.hid HTO.out.good.chain
      by_cases hlt : t < m
      · obtain ⟨b, off, Ap, np, cp, p, rfl, hb, hcell, hy, hget, htake⟩ := (HR.out.below HB.out).at_ hlt
        have HY := Lib.hid hy
        have HT := Lib.hid htake
        have HG := Lib.hid hget
        have hpl := hy.len
        have HPL := Lib.hid hpl
        clear hy htake hget hpl
        by_cases hbig : 1000 < np
        · go_wp2
          go_ret
          exact ⟨rfl, HB.out⟩
        · have hnp : np ≤ 1000 := by omega
          clear hbig
          obtain ⟨he1, he2, he3⟩ := HTO.out.step (by omega) HG.out (by rw [HPL.out]; exact hnp) (by omega) (by omega)
          have hfu := append_full (p := p) HTO.out.good (fun _ => ⟨rfl, HTO.out.base.symm⟩) (by omega) (by rw [HTO.out.base]; omega) (by rw [HTO.out.base]; omega) (by rw [HTO.out.base]; omega) (by rw [HPL.out]; omega) (by rw [HTO.out.cnt HTL.out]; omega) (by have := HTO.out.len HTL.out; rw [HTO.out.base]; omega) he1
          generalize hr : append lg dk p = r at *
          have HE := Lib.hid hr
          have H3 := Lib.hid he3
          have H4 := Lib.hid hfu
          clear hr he3 hfu
          go_wp2_with fail
          refine (append_b w.heap.size g gd lg dk 5 1 700 200000 Ap np cp p r _ HO.out HB.out.size HF.out HCH.out HC.out (by omega) (by omega) HY.out HE.out).mono ?_
          rintro e w6 ⟨rfl, hbo, hb6⟩
          rw [he1]
          generalize r.n = rn
          have HO6 := Lib.hid hbo
          have HB6 := Lib.hid (HB.out.trans hb6)
          clear hbo hb6 he1 he2
          go_wp2
          go_roundw
          case rel => exact ⟨t + 1, r.l, r.d, by go_num, by rw [HML.out]; omega, H3.out, H4.out, few_snoc HPS.out HT.out (by rw [HPL.out]; exact hnp), HO6.out, HB6.out⟩
          case measure => simp [intOf]; omega
      · obtain rfl : t = m := by omega
        clear hlt hj
        have hne : lg.segs ≠ [] := fun e => by
          have := HTO.out.cnt HTL.out
          rw [e] at this
          simp [cnt, rowsOf] at this
          omega
        obtain ⟨pre, s, hsg, htip, hfs, hseek, h19, hcut⟩ := cut_last HTO.out.good HTO.out.left hne (by omega) (by have := HTO.out.len HTL.out; omega)
        have HFS := Lib.hid hfs
        have HSK := Lib.hid hseek
        have HCU := Lib.hid hcut
        have HTI := Lib.hid htip
        have HSG := Lib.hid hsg
        have hpl1 : lg.segs.length = pre.length + 1 := by rw [hsg]; simp
        have hsl := HTO.out.len HTL.out
        have hfile : s.file = 5 + pre.length := htip.one.1
        have hsr : s.rows ≠ [] := by
          have h := HFU.out
          rw [hsg] at h
          have hone := full_mem h s (by simp)
          have hch := full_chain h
          intro e
          have h1 : ∀ {f x : Int} {l : List Sg}, Full f x l → ∀ u ∈ l, u.rows ≠ [] := by
            intro f x l
            induction l generalizing f x with
            | nil => intro _ u hu; cases hu
            | cons a l ih =>
              intro hf u hu
              rcases List.mem_cons.1 hu with rfl | hu
              · exact hf.2.1
              · exact ih hf.2.2 u hu
          exact h1 h s (by simp) e
        have HSR := Lib.hid hsr
        have hbl : (bytesOf s).length ≤ 200000 := HC.out.2.2 (fl s) (by rw [hfs]; simp)
        clear hfs hseek hcut htip hsg hsr hne
        generalize hL : (bytesOf s).length = L at *
        have HL := Lib.hid hL
        clear hL
        have HPRE := Lib.hid (show (img pre).length = pre.length from img_length pre)
        generalize hpp : pre.length = pl at *
        have HPL := Lib.hid hpp
        clear hpp
        have hI : I64 s.file := ⟨by omega, by omega⟩
        have HI := Lib.hid hI
        clear hI hfile
        generalize hsf : s.file = sf at *
        have HSF := Lib.hid hsf
        clear hsf
        obtain ⟨z, hz⟩ : ∃ z, z = fl s := ⟨_, rfl⟩
        have HZL := Lib.hid (show z.b.length = L by rw [hz]; unfold fl; exact HL.out)
        have HZI := Lib.hid (show z.id = sf by rw [hz]; unfold fl; exact HSF.out)
        rw [← hz] at HFS HSK
        clear hz
        go_wp2_with fail
        obtain ⟨nf, hnf⟩ : ∃ nf, nf = pl + 1 := ⟨_, rfl⟩
        refine (files_b w.heap.size g gd lg dk (img pre) z pl nf _ HO.out HB.out.size HFS.out HPRE.out hnf).mono ?_
        rintro e w6 ⟨b6, c6, rfl, hcell6, hc6, hc6', hbo, hb6⟩
        rw [HZI.out] at hcell6
        have HO6 := Lib.hid hbo
        have HB6 := Lib.hid (HB.out.trans hb6)
        clear hbo hb6 HO HB
        have hz1 : ((nf : Int) == 0) = false := by simp; omega
        have hz2 : IntKind.i64.wrap ((nf : Int) - 1) = pl := by rw [IntWalk.i64_in _ (by omega)]; omega
        have hz3 : pl < nf := by omega
        clear hnf
        go_wp2_with fail
        refine (diskread_b w.heap.size g gd lg dk sf z 700 200000 L w6 HO6.out HB6.out.size HI.out HSK.out HC.out (by decide) HZL.out).mono ?_
        rintro e w7 ⟨A7, c7, rfl, hbo, hb7⟩
        have HO7 := Lib.hid hbo
        have HB7 := Lib.hid (HB6.out.trans hb7)
        clear hbo hb7 HO6 HB6 hcell6
        have HM := Lib.hid (fun w => mod_any cut L w (by omega) (by omega))
        have hmd := modZ_lt cut (n := L) (by omega)
        generalize modZ cut L = md at *
        have hL0 : ((L : Int) == 0) = false := by simp; omega
        obtain ⟨d2, hd2⟩ : ∃ d2, DiskMath.cut dk sf (md : Int) = (0, d2) ∧ d2 = { DiskMath.tick dk with files := img pre ++ [⟨sf, (bytesOf s).take md, md⟩] } := ⟨_, HCU.out md hmd, rfl⟩
        have HC2 := Lib.hid (show Cap 701 200000 d2 by have := HC.out.cut sf (md : Int); rw [hd2.1] at this; exact this)
        have HCT := Lib.hid hd2.1
        have hleft := HTO.out.left
        obtain ⟨j, segs, d', hg, hj1, hj2, _, hj4, _⟩ := open_cut (ba := 5) (sz := sz) (d := d2) (m := md) HTI.out (by omega) (by rw [HL.out]; omega) (by rw [hd2.2, HSF.out]) (by rw [hd2.2]; show decide (dk.left = 1) = false; rw [hleft]; rfl) (by rw [hd2.2]; show dk.left - 1 = 0; omega) (Int.le_refl _) (by omega) (by omega) (by rw [HPL.out]; omega) HSZ.out.1 HSZ.out.2 (by
          have := HTO.out.cnt HTL.out
          rw [HSG.out, cnt_snoc] at this
          omega) (by
          have := HTO.out.cnt HTL.out
          rw [HSG.out, cnt_snoc] at this
          omega)
        have hcn : cnt (pre ++ [s]) = t := by rw [← HSG.out]; exact HTO.out.cnt HTL.out
        have hjt : j < t := by rw [← hcn]; exact hj2 (by rw [HL.out]; exact hmd) HSR.out
        have hrows : rowsOf segs = ls.take j := by rw [hg.rows, ← HSG.out, HTO.out.rows, List.take_take, Nat.min_eq_left (by omega)]
        have HPS2 : Hid (∀ q ∈ ls.take j, q.length ≤ 1000) := fun q hq => HPS.out q (List.mem_of_mem_take (i := j) (by rw [List.take_take, Nat.min_eq_left (by omega)]; exact hq))
        have HOP := Lib.hid hg.opens
        have HGD := Lib.hid hg.good
        have HF3 := Lib.hid (show Fine 5 1 (Lg.mk segs 5 sz none) from fine_of (g := ⟨segs, 5, sz, none⟩) hg.good.chain hrows (by omega) rfl rfl (by omega) (by omega) HSZ.out.1 HSZ.out.2 HPS2.out)
        have HHD3 := Lib.hid (show hd (Lg.mk segs 5 sz none).segs = j by show hd segs = _; rw [hd_chain1 hg.good.chain, cnt, hrows, List.length_take, HML.out]; omega)
        have HC3 := Lib.hid (show Cap 1000 1008019 d' from HF3.out.cap hg.good (by have := hg.ops; have := HC2.out.1; omega) (by have := hg.left; omega))
        obtain ⟨he1, he2, hp3, hp4, hp5, hp6, hp7, hp8⟩ := Tore.push (l := ls) (t := j) (k := 1000) (p := p') hg.good hrows rfl rfl (by have := hg.ops; have := HC2.out.1; omega) hg.left (by rw [HML.out]; omega) (by omega) (by rw [HPP.out]; exact HPN.out) (by omega) (by omega)
        generalize hr : append ⟨segs, 5, sz, none⟩ d' p' = r at *
        have HE := Lib.hid hr
        have hjl : (ls.take j).length = j := by rw [List.length_take, HML.out]; omega
        have HR5 := Lib.hid (show rowsOf r.l.segs = (ls.take j ++ [p']).take (j + 1) by rw [hp4, List.take_of_length_le (l := ls.take j ++ [p']) (by rw [List.length_append, hjl]; exact Nat.le_refl _)])
        have HR4 := Lib.hid hp4
        have HF5 := Lib.hid (show Fine 5 1 r.l from fine_of hp3.chain HR5.out (by omega) hp5 hp6 (by omega) (by omega) HSZ.out.1 HSZ.out.2 (fun q hq => by
          rcases List.mem_append.1 (List.mem_of_mem_take hq) with hq | hq
          · exact HPS2.out q hq
          · rw [List.mem_singleton] at hq
            subst hq
            rw [HPP.out]
            exact HPN.out))
        have hcn5 : cnt r.l.segs = j + 1 := by rw [cnt, hp4, List.length_append, hjl]; rfl
        have HCN5 := Lib.hid hcn5
        have HHD5 := Lib.hid (show hd r.l.segs = ((j : Int) + 1) by rw [hd_chain1 hp3.chain, hcn5]; omega)
        have HLO5 := Lib.hid (show low r.l.segs = 1 from low_chain1 hp3.chain)
        have HG5 := Lib.hid hp3
        clear hr hp3 hp4 hp5 hp6 hp7 hp8 hg hd2 hj1 hj2 hj4 hrows hcn hcn5 hjl hleft
        have hq1 : decide ((t : Int) ≤ (j : Int)) = false := by simp; omega
        have hq2 : decide ((j : Int) + 1 < 1) = false := by simp; omega
        have hq3 : decide ((t : Int) < (j : Int) + 1) = false := by simp; omega
        have hq4 : decide (t ≤ j) = false := by simp; omega
        have hq5 : decide ((j : Int) < 0) = false := by simp
        go_wp2_with fail
        refine (HM.out _).mono ?_
        rintro e w7' ⟨rfl, rfl⟩
        go_wp2_with fail
        refine (cut_b w.heap.size g gd lg dk sf md 700 200000 _ _ HO7.out HB7.out.size HC.out (by omega) HCT.out).mono ?_
        rintro e w8 ⟨rfl, hbo, hb8⟩
        have HO8 := Lib.hid hbo
        have HB8 := Lib.hid (HB7.out.trans hb8)
        clear hbo hb8 HO7 HB7
        dsimp only
        go_wp2_with fail
        refine (HN.out _).mono ?_
        rintro e w9 ⟨rfl, hb9⟩
        have HO9 := Lib.hid (HO8.out.new hb9)
        have HB9 := Lib.hid (held_two HB8.out hb9)
        clear hb9 HO8 HB8
        go_wp2_with fail
        refine (open_b w.heap.size gd _ _ _ 701 200000 5 sz _ HO9.out.onDisk HB9.out.size HC2.out (by omega) (by omega) HOP.out).mono ?_
        rintro e w10 ⟨g2, rfl, hbo, hb10⟩
        have HO10 := Lib.hid hbo
        have HB10 := Lib.hid (HB9.out.trans hb10)
        clear hbo hb10 HO9 HB9
        go_wp2_with fail
        refine (head_b w.heap.size g2 gd _ _ 5 1 j _ HO10.out HB10.out.size HF3.out HGD.out.chain HHD3.out).mono ?_
        rintro e w11 ⟨rfl, hbo, hb11⟩
        have HO11 := Lib.hid hbo
        have HB11 := Lib.hid (HB10.out.trans hb11)
        clear hbo hb11 HO10 HB10
        go_wp2_with fail
        refine (head_b w.heap.size g2 gd _ _ 5 1 j _ HO11.out HB11.out.size HF3.out HGD.out.chain HHD3.out).mono ?_
        rintro e w12 ⟨rfl, hbo, hb12⟩
        have HO12 := Lib.hid hbo
        have HB12 := Lib.hid (HB11.out.trans hb12)
        clear hbo hb12 HO11 HB11
        go_wp2_with fail
        refine (append_b w.heap.size g2 gd _ d' 5 1 1000 1008019 A' n' c' p' r _ HO12.out HB12.out.size HF3.out HGD.out.chain HC3.out (by omega) (by omega) (HP.out.below HB12.out) HE.out).mono ?_
        rintro e w13 ⟨rfl, hbo, hb13⟩
        rw [he1, he2]
        have HO13 := Lib.hid hbo
        have HB13 := Lib.hid (HB12.out.trans hb13)
        clear hbo hb13 he1 he2 HO12 HB12
        go_wp2_with fail
        refine (head_b w.heap.size g2 gd _ _ 5 1 ((j : Int) + 1) _ HO13.out HB13.out.size HF5.out HG5.out.chain HHD5.out).mono ?_
        rintro e w14 ⟨rfl, hbo, hb14⟩
        have HO14 := Lib.hid hbo
        have HB14 := Lib.hid (HB13.out.trans hb14)
        clear hbo hb14 HO13 HB13
        go_wp2
        go_loopw [23] (fun v wr => ReadRel w j g2 gd r.l r.d v wr) (fun v _ => j - (intOf v).toNat)
        case atStart => exact ⟨0, rfl, Nat.zero_le _, HO14.out, HB14.out⟩
        case round =>
          obtain ⟨i, rfl, hik, hbo, hbl⟩ := hrel
          have HOi := Lib.hid hbo
          have HBi := Lib.hid hbl
          clear hbo hbl
          by_cases hi : i < j
          · obtain ⟨b, off, Ap, np, cp, p, rfl, hb, hcell, hy, hget, _⟩ := HR.out.at_ (show i < t by omega)
            have hpl := hy.len
            have HY := Lib.hid hy
            have HEN := Lib.hid (show entry r.l.segs ((i : Int) + 1) = some p from entry_at HG5.out.chain (by omega) (by rw [HCN5.out]; omega) (by
              rw [HR4.out, show ((i : Int) + 1 - 1).toNat = i by omega, List.getElem?_append_left (by rw [List.length_take, HML.out]; omega), List.getElem?_take_of_lt hi, hget]))
            have HPL := Lib.hid hpl
            have HCE := Lib.hid (fun wx (hx : Below w.heap.size w wx) => (hx.cell (p := ⟨b, off + i, none⟩) hb).trans hcell)
            clear hy hget hpl hcell
            go_wp2_with fail
            refine (read_b w.heap.size g2 gd _ _ 5 1 ((i : Int) + 1) p np _ HOi.out HBi.out.size HF5.out HG5.out.chain HLO5.out HEN.out HPL.out).mono ?_
            rintro e w15 ⟨A15, c15, rfl, hy15, hbo, hb15⟩
            have HO15 := Lib.hid hbo
            have HB15 := Lib.hid (HBi.out.trans hb15)
            have HY15 := Lib.hid hy15
            clear hbo hb15 hy15
            have hc15 := HCE.out _ HB15.out
            go_wp2_with fail
            refine (Help.bytes_same _ _ _ _ _ _ _ _ p _ HY15.out (HY.out.below HB15.out)).mono ?_
            rintro e w16 ⟨rfl, rfl⟩
            go_wp2
            go_roundw
            case rel => exact ⟨i + 1, by go_num, by omega, HO15.out, HB15.out⟩
            case measure => simp [intOf]; omega
          · obtain rfl : i = j := by omega
            clear hi
            have HEN := Lib.hid (show entry r.l.segs ((i : Int) + 1) = some p' from entry_at HG5.out.chain (by omega) (by rw [HCN5.out]; omega) (by
              rw [HR4.out, show ((i : Int) + 1 - 1).toNat = i by omega, List.getElem?_append_right (by rw [List.length_take, HML.out]; omega), show i - (ls.take i).length = 0 by rw [List.length_take, HML.out]; omega]
              rfl))
            go_wp2_with fail
            refine (read_b w.heap.size g2 gd _ _ 5 1 ((i : Int) + 1) p' n' _ HOi.out HBi.out.size HF5.out HG5.out.chain HLO5.out HEN.out HPP.out).mono ?_
            rintro e w15 ⟨A15, c15, rfl, hy15, hbo, hb15⟩
            have HO15 := Lib.hid hbo
            have HB15 := Lib.hid (HBi.out.trans hb15)
            have HY15 := Lib.hid hy15
            clear hbo hb15 hy15
            go_wp2_with fail
            refine (Help.bytes_same _ _ _ _ _ _ _ _ p' _ HY15.out (HP.out.below HB15.out)).mono ?_
            rintro e w16 ⟨rfl, rfl⟩
            go_wp2_with fail
            refine (down_b w.heap.size g2 gd _ _ false _ HO15.out HG5.out.on).mono ?_
            rintro e w16 ⟨rfl, rfl⟩
            go_wp2
            go_ret
            exact ⟨rfl, HB15.out⟩
end Go.Proofs.YtiealiihedkniaaGreat.Wal
