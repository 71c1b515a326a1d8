/-
  The walk of the law WalTrims.
-/
import Derived.Test.YtjiicmkafidldaaGreatWalTrims
import Derived.BigQuiet
namespace Go.Proofs.YtjiicmkafidldaaGreat.Wal
set_option linter.unusedVariables false
set_option maxRecDepth 100000
open Go.RowKit Base WalMath
open Go.Proofs.YtjiicmkafidldaaGreat.Field (modZ modZ_lt mod_any)
open Go.Proofs.YtjiicmkafidldaaGreat.Disk (Turn Out DiskAt I64 Fits own_same own_type)
open DiskMath (Fl Dk)
set_option linter.ambiguousOpen false

/-- an entry that is there, read beside the elder log -/
theorem readh_some {B g g2 gd : Nat} {l l2 : Lg} {d : Dk} {f x lsn : Int} {p : List UInt8} {m : Nat} (wx : World) (h : Beside B wx g g2 gd l l2 d) (hf : Fine f x l2) (hch : Chain f x l2.segs) (hx : low l2.segs = x) (he : entry l2.segs lsn = some p) (hm : p.length = m) :
    Calls Tryz.prog 18 #[.pointer (some ⟨g2, 0, none⟩), .int .i64 lsn] wx fun e w' => ∃ A c, e = .returned (.tuple #[.slice A m c, .int .i64 0]) ∧ Bytes w' w'.heap.size A m c p ∧ Beside B w' g g2 gd l l2 d ∧ Below wx.heap.size wx w' := by
  have hfl := hf.fl
  have hf0 := hf.f0
  have hbs := h
  obtain ⟨⟨F, G, h1, h2, h3⟩, _⟩ := h
  refine (read_any G g2 gd l2 lsn wx h2 (hf.ok hch).1.2.2.2.2 (by omega) (by rw [hx]; exact chain_runs hch)).mono ?_
  intro e w' hr
  rw [he] at hr
  obtain ⟨A, c, he, ho, hb⟩ := hr
  rw [hm] at he ho
  exact ⟨A, c, he, Bytes.of_own ho, hbs.new hb, hb⟩
theorem low_either {B g g2 gd q : Nat} {l l2 : Lg} {d : Dk} {v : Int} (hq : q = g ∨ q = g2) (wx : World) (h : Beside B wx g g2 gd l l2 d) (hv : low l.segs = v) (hv2 : low l2.segs = v) :
    Calls Tryz.prog 16 #[.pointer (some ⟨q, 0, none⟩)] wx fun e w' => e = .returned (.int .i64 v) ∧ wx = w' := by
  rcases hq with rfl | rfl
  · exact lowg_any wx h hv
  · exact low_b B q gd l2 d v wx h.1 hv2
def DrewRel (W : World) (v : Value) (wx : World) : Prop := v = .bool false ∧ Below W.heap.size W wx
set_option maxHeartbeats 6400000 in
theorem trims_walk (n : Int) (A : Option Addr) (M c : Nat) (ls : List (List UInt8)) (lsn : Int) (w : World) (hr : Lists w w.heap.size A M c ls) :
    Calls Tryz.prog 6 #[.int .i64 n, .slice A M c, .int .i64 lsn] w fun e w' => e = .returned (.bool true) ∧ Below w.heap.size w w' := by
  have hml := hr.len
  have HML := Lib.hid hml
  have hle := hr.le
  have HR := Lib.hid hr
  clear hr hml
  go_enter Tryz.func6, Tryz.ntmps6
  go_wp2_with fail
  refine (newdisk_any w).mono ?_
  rintro e w1 ⟨gd, rfl, hd1, hb1⟩
  have HD1 := Lib.hid hd1
  have HB1 := Lib.hid hb1
  clear hd1 hb1
  go_wp2_with fail
  refine (open_b w.heap.size gd _ _ _ 0 0 0 64 _ HD1.out HB1.out.size cap0 (by omega) (by omega) (open0 (by omega) (by omega) (by omega) (by omega))).mono ?_
  rintro e w3 ⟨g, rfl, hbo, hb3⟩
  have HO3 := Lib.hid hbo
  have HB3 := Lib.hid (HB1.out.trans hb3)
  clear hbo hb3 HD1 HB1
  go_wp2_with fail
  refine (awake_any _).mono ?_
  rintro e w4 ⟨rfl, hb4⟩
  have HO4 := Lib.hid (HO3.out.new hb4)
  have HB4 := Lib.hid (held_two HB3.out hb4)
  clear hb4 HO3 HB3
  go_upto_region 5 with fail
  go_cut [10] (fun v wx => MinRel w4 M v wx)
  case first =>
    by_cases h40 : M ≤ 40
    · go_wp2_with fail
      go_meet
      exact ⟨M, congrArg (Value.int .i64) (by omega), h40, Nat.le_refl _, rfl⟩
    · go_wp2_with fail
      go_meet
      exact ⟨40, congrArg (Value.int .i64) (by omega), Nat.le_refl _, by omega, rfl⟩
  case rest =>
    obtain ⟨m, rfl, hm40, hmM, rfl⟩ := hcut
    go_wp2
    go_loopw [11] (fun v wr => PushRel w ls m g gd v wr) (fun i _ => m - (intOf i).toNat)
    case atStart => exact ⟨0, _, _, rfl, Nat.zero_le _, tore0 ls 0 64, (fun p hp => by simp at hp), HO4.out, HB4.out⟩
    case round =>
      obtain ⟨t, lg, dk, rfl, hj, htore, hps, hbo, hbel⟩ := hrel
      have HTO := Lib.hid htore
      have HPS := Lib.hid hps
      have HO := Lib.hid hbo
      have HB := Lib.hid hbel
      clear htore hps hbo hbel HO4 HB4
      have HTL : Hid (t ≤ ls.length) := by rw [HML.out]; show t ≤ M; omega
      have HF := Lib.hid (fine_of HTO.out.good.chain HTO.out.rows (by omega) HTO.out.base HTO.out.size (by omega) (by omega) (by omega) (by omega) HPS.out)
      have HC := Lib.hid (HTO.out.cap HTL.out (by omega) HPS.out)
      have HCH := Lib.hid HTO.out.good.chain
      by_cases hlt : t < m
      · obtain ⟨b, off, Ap, np, cp, p, rfl, hb, hcell, hy, hget, htake⟩ := (HR.out.below HB.out).at_ (show t < M by omega)
        have HY := Lib.hid hy
        have HT := Lib.hid htake
        have HG := Lib.hid hget
        have hpl := hy.len
        have HPL := Lib.hid hpl
        clear hy htake hget hpl
        by_cases hbig : 1000 < np
        · go_wp2
          go_ret
          exact ⟨rfl, HB.out⟩
        · have hnp : np ≤ 1000 := by omega
          clear hbig
          obtain ⟨he1, he2, he3⟩ := HTO.out.step (by omega) HG.out (by rw [HPL.out]; exact hnp) (by omega) (by omega)
          generalize hr : append lg dk p = r at *
          have HE := Lib.hid hr
          have H3 := Lib.hid he3
          clear hr he3
          go_wp2_with fail
          refine (append_b w.heap.size g gd lg dk 0 1 700 200000 Ap np cp p r _ HO.out HB.out.size HF.out HCH.out HC.out (by omega) (by omega) HY.out HE.out).mono ?_
          rintro e w6 ⟨rfl, hbo, hb6⟩
          rw [he1]
          generalize r.n = rn
          have HO6 := Lib.hid hbo
          have HB6 := Lib.hid (HB.out.trans hb6)
          clear hbo hb6 he1 he2
          go_wp2
          go_roundw
          case rel => exact ⟨t + 1, r.l, r.d, by go_num, by omega, H3.out, few_snoc HPS.out HT.out (by rw [HPL.out]; exact hnp), HO6.out, HB6.out⟩
          case measure => simp [intOf]; omega
      · obtain rfl : t = m := by omega
        clear hlt hj
        obtain ⟨mm, hmm⟩ : ∃ mm, mm = t + 3 := ⟨_, rfl⟩
        have HM := Lib.hid (fun w => mod_any lsn mm w (by omega) (by omega))
        have hkb := modZ_lt lsn (n := mm) (by omega)
        generalize modZ lsn mm = k at *
        obtain ⟨segs, d1, f, lo, segs2, d2, htr, hlo1, hlo2, hlo3, hlow, hhd, hsl, hsm, hch1, hrw1, hops1, hleft1, hfiles, hf0, hf1, hop, hch2, hlow2, hhd2, hrw2, hsl2⟩ := tore_trims HTO.out HTL.out (by omega) (k := k)
        have htl : (ls.take t).length = t := by rw [List.length_take, HML.out]; omega
        have hfew : ∀ q ∈ (ls.take t).drop (lo - 1), q.length ≤ 1000 := fun q hq => HPS.out q (List.mem_of_mem_drop hq)
        have HLT := Lib.hid htl
        have HF1 := Lib.hid (show Fine f lo { lg with segs := segs } from ⟨hf0, by show f + segs.length ≤ _; omega, by omega, by omega, by rw [show ({ lg with segs := segs } : Lg).base = 0 from HTO.out.base]; omega, by rw [show ({ lg with segs := segs } : Lg).base = 0 from HTO.out.base]; omega, by rw [show ({ lg with segs := segs } : Lg).size = 64 from HTO.out.size]; omega, by rw [show ({ lg with segs := segs } : Lg).size = 64 from HTO.out.size]; omega, by show ∀ p ∈ rowsOf segs, _; rw [hrw1]; exact hfew, by show cnt segs ≤ _; rw [cnt, hrw1, List.length_drop, htl]; omega⟩)
        have HF2 := Lib.hid (show Fine f lo ⟨segs2, 0, 64, none⟩ from ⟨hf0, by show f + segs2.length ≤ _; omega, by omega, by omega, by show (0 : Int) ≤ 0; omega, by show (0 : Int) ≤ 12288; omega, by show (64 : Int) ≤ 64; omega, by show (64 : Int) ≤ 65536; omega, by show ∀ p ∈ rowsOf segs2, _; rw [hrw2]; exact hfew, by show cnt segs2 ≤ _; rw [cnt, hrw2, List.length_drop, htl]; omega⟩)
        have HC1 := Lib.hid (show Cap 800 1008019 d1 from ⟨hops1, by omega, fun y hy => by
          obtain ⟨s, hs, rfl⟩ := hfiles y hy
          exact seg_bytes hs HF1.out.rows HF1.out.few⟩)
        have HTR := Lib.hid htr
        have HOP := Lib.hid hop
        have HCH1 := Lib.hid hch1
        have HCH2 := Lib.hid hch2
        have HLW := Lib.hid hlow
        have HHD := Lib.hid hhd
        have HLW2 := Lib.hid hlow2
        have HHD2 := Lib.hid hhd2
        have HRW2 := Lib.hid hrw2
        have HON := Lib.hid HTO.out.good.on
        have HCN2 := Lib.hid (show cnt segs2 = t - (lo - 1) by rw [cnt, hrw2, List.length_drop, htl])
        obtain ⟨was, hwas⟩ : ∃ was, lg.segs.length = was := ⟨_, rfl⟩
        obtain ⟨sn, hsn⟩ : ∃ sn, segs.length = sn := ⟨_, rfl⟩
        have HWAS := Lib.hid hwas
        have HSN := Lib.hid hsn
        rw [hwas, hsn] at hsl
        rw [hsn] at hsm
        have hq1 : decide ((lo : Int) < 1) = false := by simp; omega
        have hq2 : decide ((k : Int) + 1 < (lo : Int)) = false := by simp; omega
        have hq3 : decide (was < sn) = false := by simp; omega
        have hq4 : 0 < t → decide ((sn : Int) < 1) = false := fun h => by have := hsm h; simp; omega
        clear htr hop hch1 hch2 hlow hhd hlow2 hhd2 hrw1 hrw2 hsl2 hfiles hops1 hleft1 htl hfew hwas hsn hf0 hf1
        have hwr : IntKind.i64.wrap ((t : Int) + 3) = (mm : Int) := by rw [IntWalk.i64_in _ (by omega)]; omega
        have hmm2 : (t : Int) + 3 = (mm : Int) := by omega
        have hk43 : k ≤ 43 := by omega
        clear hmm hkb
        go_wp2_with fail
        refine (HM.out _).mono ?_
        rintro e w5 ⟨rfl, rfl⟩
        go_wp2_with fail
        refine (segments_b w.heap.size g gd lg dk was _ HO.out HWAS.out).mono ?_
        rintro e w5 ⟨rfl, rfl⟩
        go_upto_region 16 with fail
        go_cut [129] (fun v wx => v = .bool false ∧ Both (From w.heap.size) wx g gd { lg with segs := segs } d1 ∧ Below w.heap.size w wx)
        case first =>
          go_wp2_with fail
          refine (trim_b w.heap.size g gd lg dk 0 1 700 200000 k _ _ HO.out HB.out.size HF.out HCH.out HC.out (by omega) HON.out HTR.out).mono ?_
          rintro e w6 ⟨rfl, hbo, hb6⟩
          have HO6 := Lib.hid hbo
          have HB6 := Lib.hid (HB.out.trans hb6)
          clear hbo hb6 HO HB HTO
          dsimp only
          go_wp2_with fail
          refine (head_b w.heap.size g gd _ _ f lo t _ HO6.out HB6.out.size HF1.out HCH1.out HHD.out).mono ?_
          rintro e w7 ⟨rfl, hbo, hb7⟩
          have HO7 := Lib.hid hbo
          have HB7 := Lib.hid (HB6.out.trans hb7)
          clear hbo hb7 HO6 HB6
          go_wp2_with fail
          refine (low_b w.heap.size g gd _ _ lo _ HO7.out HLW.out).mono ?_
          rintro e w8 ⟨rfl, rfl⟩
          go_wp2_with fail
          refine (low_b w.heap.size g gd _ _ lo _ HO7.out HLW.out).mono ?_
          rintro e w8 ⟨rfl, rfl⟩
          go_wp2_with fail
          refine (segments_b w.heap.size g gd _ _ sn _ HO7.out HSN.out).mono ?_
          rintro e w8 ⟨rfl, rfl⟩
          rcases (show (t = 0 ∧ True) ∨ (0 < t ∧ decide ((sn : Int) < 1) = false) from if h : 0 < t then .inr ⟨h, hq4 h⟩ else .inl ⟨by omega, trivial⟩) with ⟨ht0, hq5⟩ | ⟨ht0, hq5⟩
          case' inl =>
            have ht1 : decide ((0 : Int) < (t : Int)) = false := by simp; omega
            have ht2 : decide (0 < t) = false := by simp; omega
            clear hq4 ht0 hq5
            go_wp2_with fail
          case' inr =>
            have ht1 : decide ((0 : Int) < (t : Int)) = true := by simp; omega
            have ht2 : decide (0 < t) = true := by simp; omega
            clear hq4
            go_wp2_with fail
            refine (segments_b w.heap.size g gd _ _ sn _ HO7.out HSN.out).mono ?_
            rintro e w8 ⟨rfl, rfl⟩
            go_wp2_with fail
          all_goals (go_meet; exact ⟨rfl, HO7.out, HB7.out⟩)
        case rest =>
          obtain ⟨rfl, hbo, hb7⟩ := hcut
          have HO7 := Lib.hid hbo
          have HB7 := Lib.hid hb7
          clear hbo hb7 HO HB HTO hq4
          go_wp2_with fail
          refine (open_two w.heap.size g gd _ _ d1 d2 800 1008019 0 64 _ HO7.out HB7.out.size HC1.out (by omega) (by omega) HOP.out).mono ?_
          rintro e w9 ⟨g2, rfl, hbs, hb9⟩
          have HS9 := Lib.hid hbs
          have HB9 := Lib.hid (HB7.out.trans hb9)
          clear hbs hb9 HO7 HB7
          have LH := Lib.hid (fun wx (hx : Below w9.heap.size w9 wx) => low_b w.heap.size g2 gd _ _ lo wx (HS9.out.new hx).1 HLW2.out)
          have LG := Lib.hid (fun wx (hx : Below w9.heap.size w9 wx) => lowg_any wx (HS9.out.new hx) HLW.out)
          have HH := Lib.hid (fun wx (hx : Below w9.heap.size w9 wx) => headh_any wx (HS9.out.new hx) HF2.out HCH2.out HHD2.out)
          have LL := Lib.hid (fun q (hq : q = g ∨ q = g2) wx (hx : Below w9.heap.size w9 wx) => low_either hq wx (HS9.out.new hx) HLW.out HLW2.out)
          clear LH LG
          go_upto_region 19 with fail
          go_cut [159] (fun v wx => DrewRel w9 v wx)
          case first =>
            have hqL : decide ((lo : Int) = (lo : Int)) = true := by simp
            have hqT : decide ((t : Int) = (t : Int)) = true := by simp
            go_region_held3 (fun w' => Below w9.heap.size w9 w')
              (first | exact held_start w9 | assumption | exact held_call (by assumption) hbc | fail)
              (first
                | (go_at_call 16; refine (LL.out _ (by first | exact .inl rfl | exact .inr rfl) _ (by assumption)).mono ?_; rintro e wc ⟨rfl, rfl⟩)
                | (go_at_call 17; refine (HH.out _ (by assumption)).mono ?_; rintro e wc ⟨rfl, hbc⟩)
                | fail)
            go_wp2_with fail
            go_meet
            exact ⟨rfl, held_call (held_start w9) hbc⟩
          case rest =>
            obtain ⟨rfl, hbc⟩ := hcut
            have HSX := Lib.hid (HS9.out.new hbc)
            have HBX := Lib.hid (held_two HB9.out hbc)
            clear hbc LL HH HS9 HB9
            go_wp2_with fail
            refine (lowg_any _ HSX.out HLW.out).mono ?_
            rintro e w10 ⟨rfl, rfl⟩
            go_wp2
            go_loopw [18] (fun v wr => TellRel w lo t g g2 gd { lg with segs := segs } ⟨segs2, 0, 64, none⟩ d2 v wr) (fun v _ => t + 1 - (intOf v).toNat)
            case atStart => exact ⟨lo, rfl, Nat.le_refl _, hlo2, HSX.out, HBX.out⟩
            case round =>
              obtain ⟨i, rfl, hil, hiu, hbs, hbl⟩ := hrel
              have HSi := Lib.hid hbs
              have HBi := Lib.hid hbl
              clear hbs hbl HSX HBX
              by_cases hi : i ≤ t
              · obtain ⟨j, hj⟩ : ∃ j, j = i - 1 := ⟨_, rfl⟩
                have hjt : j < t := by omega
                have hij : (i : Int) - 1 = (j : Int) := by omega
                have hiw : IntKind.i64.wrap ((i : Int) - 1) = (j : Int) := by rw [IntWalk.i64_in _ (by omega)]; omega
                obtain ⟨b, off, Ap, np, cp, p, rfl, hb, hcell, hy, hget, _⟩ := HR.out.at_ (show j < M by omega)
                have hpl := hy.len
                have HY := Lib.hid hy
                have HEN := Lib.hid (show entry segs2 (i : Int) = some p from entry_at HCH2.out (by omega) (by rw [HCN2.out]; omega) (by
                  rw [HRW2.out, List.getElem?_drop, show lo - 1 + ((i : Int) - (lo : Int)).toNat = j by omega, List.getElem?_take_of_lt hjt, hget]))
                have HPL := Lib.hid hpl
                have HCE := Lib.hid (fun wx (hx : Below w.heap.size w wx) => (hx.cell (p := ⟨b, off + (i - 1), none⟩) hb).trans (show w.cell? ⟨b, off + (i - 1), none⟩ = some (.slice Ap np cp) by rw [← hj]; exact hcell))
                clear hy hget hpl hcell
                go_wp2_with fail
                refine (readh_some _ HSi.out HF2.out HCH2.out HLW2.out HEN.out HPL.out).mono ?_
                rintro e w15 ⟨A15, c15, rfl, hy15, hbs, hb15⟩
                have HS15 := Lib.hid hbs
                have HB15 := Lib.hid (held_two HBi.out hb15)
                have HY15 := Lib.hid hy15
                clear hbs hb15 hy15
                have hc15 := HCE.out _ HB15.out
                go_wp2_with fail
                refine (Help.bytes_same _ _ _ _ _ _ _ _ p _ HY15.out (HY.out.below HB15.out)).mono ?_
                rintro e w16 ⟨rfl, rfl⟩
                go_wp2
                go_roundw
                case rel => exact ⟨i + 1, by go_num, by omega, by omega, HS15.out, HB15.out⟩
                case measure => simp [intOf]; omega
              · obtain rfl : i = t + 1 := by omega
                clear hi hil hiu
                obtain ⟨z, hz⟩ : ∃ z : Int, z = (lo : Int) - 1 := ⟨_, rfl⟩
                have hz1 : (lo : Int) - 1 = z := by omega
                have hz2 : IntKind.i64.wrap z = z := IntWalk.i64_in _ (by omega)
                have hz3 : IntKind.i64.wrap z < low segs2 := by rw [hz2, HLW2.out]; omega
                generalize wr = W at *
                have LG := Lib.hid (fun wx (hx : Below W.heap.size W wx) => lowg_any wx (HSi.out.new hx) HLW.out)
                have RN := Lib.hid (fun wx (hx : Below W.heap.size W wx) => readh_none wx (HSi.out.new hx) HF2.out HCH2.out hz3)
                clear hz hz2 hz3
                go_wp2_with fail
                go_region_held3 (fun w' => Below W.heap.size W w')
                  (first | exact held_start W | assumption | exact held_call (by assumption) hbc | fail)
                  (first
                    | (go_at_call 16; refine (LG.out W.drew (held_start W)).mono ?_; rintro e wc ⟨rfl, rfl⟩)
                    | (go_at_call 18; refine (RN.out W.drew (held_start W)).mono ?_; rintro e wc ⟨rfl, hbc⟩)
                    | fail)
                have HBZ := Lib.hid (held_two HBi.out (held_call (held_start W) hbc))
                clear hbc
                go_wp2_with fail
                go_ret
                exact ⟨rfl, HBZ.out⟩
end Go.Proofs.YtjiicmkafidldaaGreat.Wal
