/-
  The walk of FoldSteps: behind one transaction more each table is what it was, and its changes.
-/
import Derived.Test.YtlgdbpejefgeaaaFoldLaw1
namespace Go.Proofs.Ytlgdbpejefgeaaa.Fold
set_option linter.unusedVariables false
set_option linter.unusedSimpArgs false
set_option maxRecDepth 100000
open Go.RowKit Base IdxMath FoldMath Foot
open TxnMath (Ch Tx)
open PChg (gval Cs)
open PTx
open Lsts (Lsts)
open Idx (Rs Rz)
open Go.Proofs.Ytlgdbpejefgeaaa.Field (modZ modZ_lt mod_any)
set_option linter.ambiguousOpen false

/-- the rows wanted, on their way -/
def WantI (wS : World) (i : Nat) (cs : List Ch) (v : Value) (wr : World) : Prop := ∃ A n c, v = .slice A n c ∧ Rz wr wr.heap.size A n c (rows (i : Int) cs) ∧ Below wS.heap.size wS wr
theorem foldT_two {t : List Tx} {q n : Nat} (hn : t.length = n) (hq : q ≤ n) : foldT 2 t (q : Int) = rowsL 2 (chs t q) := by
  rw [show (2 : Int) = ((2 : Nat) : Int) from rfl, foldT_rows (by omega) (by omega), hn, held_nat hq]
set_option maxHeartbeats 6400000 in
theorem steps_walk (k : Int) (A : Option Addr) (n c : Nat) (l : List Tx) (w : World) (h : Txs w w.heap.size A n c l) (hok : ∀ x ∈ l, OkTx x) :
    Calls Try.prog 5 #[.slice A n c, .int .i64 k] w (Yes w) := by
  have HL := Lib.hid h
  have HOK := Lib.hid hok
  clear h hok
  go_enter Try.func5, Try.ntmps5
  go_wp2_with fail
  refine (ptxns_any 2 30 (by omega) (by omega) (by omega) w.heap.size A n c l w HL.out (Nat.le_refl _) (ok_play HOK.out)).mono ?_
  rintro e w1 ⟨t, A1, n1, c1, rfl, hn1, ht1, hgood, hb1⟩
  have HT1 := Lib.hid ht1
  have HGD := Lib.hid hgood
  have HB1 := Lib.hid hb1
  have hlen := ht1.len
  clear ht1 hgood hb1
  by_cases h0 : n1 = 0
  · subst h0
    go_wp2_with fail
    refine (awake_any w1).mono ?_
    rintro e w2 ⟨rfl, hb2⟩
    have HB2 : Hid (Below w.heap.size w w2) := held_two HB1.out hb2
    clear hb2
    go_wp2
    go_ret
    exact ⟨rfl, HB2.out⟩
  · have h0' : ((n1 : Int) == 0) = false := by simp; omega
    go_wp2_with fail
    refine (mod_any k n1 w1 (by omega) (by omega)).mono ?_
    rintro e w2 ⟨rfl, rfl⟩
    have hq := modZ_lt k (n := n1) (by omega)
    generalize modZ k n1 = q at hq ⊢
    have hlq := good_len HGD.out n1
    have hlen2 : (chs t n1).length < 1099511627774 := by omega
    go_wp2_with fail
    refine (fold_any 2 w1.heap.size A1 n1 c1 t q w1 HT1.out (Nat.le_refl _) (good_in64 HGD.out) hlen2).mono ?_
    rintro e w2 ⟨A2, n2, c2, rfl, hls2, hb2⟩
    rw [foldT_two hlen (by omega)] at hls2
    obtain rfl : 2 = n2 := by rw [← hls2.len, rowsL_length]
    have HS2 := Lib.hid hls2
    have HT2 := Lib.hid ((HT1.out.below hb2).more hb2.size)
    have HB2 : Hid (Below w.heap.size w w2) := held_two HB1.out hb2
    clear hls2 hb2
    go_wp2_with fail
    have hq1 : ((q : Int) + 1) = ((q + 1 : Nat) : Int) := by omega
    rw [hq1]
    refine (fold_any 2 w2.heap.size A1 n1 c1 t (q + 1 : Nat) w2 HT2.out (Nat.le_refl _) (good_in64 HGD.out) hlen2).mono ?_
    rintro e w3 ⟨A3, n3, c3, rfl, hls3, hb3⟩
    rw [foldT_two hlen (by omega)] at hls3
    obtain rfl : 2 = n3 := by rw [← hls3.len, rowsL_length]
    have HS3 := Lib.hid hls3
    have HT3 := Lib.hid ((HT2.out.below hb3).more hb3.size)
    have HS2b : Hid (Lsts Rz w3 w3.heap.size A2 2 c2 (rowsL 2 (chs t q))) := (HS2.out.below hb3 fun _ _ _ _ hh => hh.below hb3).more hb3.size fun _ _ _ _ hh => hh.more hb3.size
    have HB3 : Hid (Below w.heap.size w w3) := held_two HB2.out hb3
    clear hls3 hb3 hq1
    go_wp2_with fail
    refine (awake_any w3).mono ?_
    rintro e w4 ⟨rfl, hb4⟩
    have HT4 := Lib.hid ((HT3.out.below hb4).more hb4.size)
    have HWAS : Hid (Lsts Rz w4 w4.heap.size A2 2 c2 (rowsL 2 (chs t q))) := (HS2b.out.below hb4 fun _ _ _ _ hh => hh.below hb4).more hb4.size fun _ _ _ _ hh => hh.more hb4.size
    have HNOW : Hid (Lsts Rz w4 w4.heap.size A3 2 c3 (rowsL 2 (chs t (q + 1)))) := (HS3.out.below hb4 fun _ _ _ _ hh => hh.below hb4).more hb4.size fun _ _ _ _ hh => hh.more hb4.size
    have HB4 : Hid (Below w.heap.size w w4) := held_two HB3.out hb4
    clear hb4 HS2 HS3 HS2b HT1 HT2 HT3
    obtain ⟨b, off, x, rfl, hbB, hx, B1, m1, d1, B2, m2, d2, x0, x1, x2, x3, x4, hcs, _⟩ := HT4.out.at_ hq
    have HX := Lib.hid hx
    have HCS : Hid (∀ wx, Below w4.heap.size w4 wx → Cs wx w4.heap.size B1 m1 d1 x.chs) := fun wx hbx => Row.below hcs hbx
    have HX2 : Hid (∀ wx, Below w4.heap.size w4 wx → wx.cell? ⟨b, off + q * 5 + 2, none⟩ = some (.slice B1 m1 d1)) := fun wx hbx => (hbx.cell hbB).trans x2
    have hml := hcs.len
    have hm5 := (HGD.out q x hx).few
    have hcq := good_len HGD.out q
    clear hx hcs x0 x1 x2 x3 x4
    go_wp2_with fail
    go_loopw [9] (fun vi wr => ∃ i : Nat, vi = .int .i64 i ∧ i ≤ 2 ∧ Below w4.heap.size w4 wr) (fun vi _ => 2 - (Go.RowKit.intOf vi).toNat)
    case atStart => exact ⟨0, rfl, by omega, Below.refl _ _⟩
    case round =>
      obtain ⟨i, rfl, hi, hb⟩ := hrel
      have HB := Lib.hid hb
      have y2 := HX2.out wr hb
      clear hb
      by_cases hi2 : i < 2
      · have l1 : (i : Int) < 2 := by omega
        obtain ⟨b6, off6, A6, n6, c6, l6, rfl, hbb6, z6, hz6, hg6, _⟩ := (HWAS.out.below HB.out fun _ _ _ _ hh => hh.below HB.out).at_ hi2
        rw [rowsL_get hi2] at hg6
        obtain rfl := Option.some.inj hg6
        have HW0 : Hid (WantI w4 i (chs t q ++ x.chs.take 0) (.slice A6 n6 c6) wr) := by
          rw [List.take_zero, List.append_nil]
          exact ⟨A6, n6, c6, rfl, hz6.more HB.out.size, HB.out⟩
        clear hz6 hg6
        go_wp2_with fail
        go_loopw [10, 56] (fun vw vj wx => ∃ m : Nat, vj = .int .i64 m ∧ m ≤ m1 ∧ WantI w4 i (chs t q ++ x.chs.take m) vw wx) (fun _ vj _ => m1 - (Go.RowKit.intOf vj).toNat)
        case atStart => exact ⟨0, rfl, Nat.zero_le _, HW0.out⟩
        case round =>
          clear HW0 HB y2 z6
          obtain ⟨m, rfl, hm, A7, n7, c7, rfl, hz7, hb7⟩ := hrel
          have HZ := Lib.hid hz7
          have HB := Lib.hid hb7
          have hln := hz7.1.len
          have hle7 := hz7.1.le
          clear hz7 hb7
          by_cases hmn : m < m1
          · have l2 : (m : Int) < (m1 : Int) := by omega
            obtain ⟨b3, off3, f, rfl, hb3, c0, c1', c2', c3', hf, ht⟩ := (HCS.out wr HB.out).at_ hmn
            have hlr := rows_length (i : Int) (chs t q ++ x.chs.take m)
            rw [List.length_append, List.length_take] at hlr
            have hn7 : n7 ≤ 1099511627774 := by omega
            have HN : Hid (rows (i : Int) (chs t q ++ x.chs.take (m + 1)) = FoldMath.stepT (i : Int) (rows (i : Int) (chs t q ++ x.chs.take m)) f) := by show _ = _; rw [ht, ← List.append_assoc, rows_snoc]
            have HRI := Lib.hid (rows_rise (i : Int) (chs t q ++ x.chs.take m))
            obtain ⟨r, hr⟩ : ∃ r, r = rows (i : Int) (chs t q ++ x.chs.take m) := ⟨_, rfl⟩
            rw [← hr] at HZ HN HRI
            obtain ⟨ft, fk, fg, fv⟩ := f
            dsimp only at c0 c1' c2' c3'
            have HB1' : Hid (Below wr.heap.size wr (wr.alloc (.cells #[.int .i64 ft, .int .i64 fk, .bool fg, .string fv] 44))) := (Below.refl _ _).alloc (Nat.le_refl _) _
            have HBK : Hid (Blk (wr.alloc (.cells #[.int .i64 ft, .int .i64 fk, .bool fg, .string fv] 44)) wr.heap.size 44 #[.int .i64 ft, .int .i64 fk, .bool fg, .string fv]) := Blk.new _ _ _
            clear hf ht hr hlr hln
            by_cases h1 : ft = (i : Int)
            · subst h1
              have b1 : ((i : Int) == (i : Int)) = true := by simp
              cases fg with
              | true =>
                rw [show FoldMath.stepT (i : Int) r ⟨i, fk, true, fv⟩ = del r fk by simp [FoldMath.stepT, FoldMath.step]] at HN
                go_wp2_with fail
                refine (Idx.refdel_any wr.heap.size A7 n7 c7 r fk _ (HZ.out.below HB1'.out).1 HB1'.out.size HRI.out hn7).mono ?_
                rintro e w8 (⟨hth, A8, c8, rfl, ho8, hb8⟩ | ⟨hth, rfl, rfl⟩)
                · have HZ8 := Lib.hid (Rz.of_own ho8)
                  have HB8 : Hid (Below w4.heap.size w4 w8) := held_two (held_two HB.out HB1'.out) hb8
                  have hk8 := HBK.out.below hb8 HBK.out.lt
                  have v0 : w8.cell? ⟨wr.heap.size, 0, none⟩ = some (.int .i64 i) := hk8.cell 0
                  have v2 : w8.cell? ⟨wr.heap.size, 2, none⟩ = some (.bool true) := hk8.cell 2
                  clear ho8 hb8 hth hk8
                  go_wp2
                  go_roundw
                  case rel => exact ⟨m + 1, by go_num, by omega, A8, _, c8, rfl, by rw [HN.out]; exact HZ8.out, HB8.out⟩
                  case measure => simp [Go.RowKit.intOf]; omega
                · have HD : Hid (del r fk = r) := by show _ = _; unfold IdxMath.del; rw [if_neg (by rw [hth]; simp)]
                  clear hth
                  go_wp2
                  go_roundw
                  case rel => exact ⟨m + 1, by go_num, by omega, A7, n7, c7, rfl, by rw [HN.out, HD.out]; exact (HZ.out.below HB1'.out).more HB1'.out.size, held_two HB.out HB1'.out⟩
                  case measure => simp [Go.RowKit.intOf]; omega
              | false =>
                rw [show FoldMath.stepT (i : Int) r ⟨i, fk, false, fv⟩ = put r fk fv by simp [FoldMath.stepT, FoldMath.step]] at HN
                go_wp2_with fail
                refine (Idx.refput_any wr.heap.size A7 n7 c7 r fk fv _ (HZ.out.below HB1'.out) HB1'.out.size hn7).mono ?_
                rintro e w8 ⟨A8, c8, rfl, ho8, hb8⟩
                have HZ8 := Lib.hid (Rz.of_own ho8)
                have HB8 : Hid (Below w4.heap.size w4 w8) := held_two (held_two HB.out HB1'.out) hb8
                clear ho8 hb8
                go_wp2
                go_roundw
                case rel => exact ⟨m + 1, by go_num, by omega, A8, _, c8, rfl, by rw [HN.out]; exact HZ8.out, HB8.out⟩
                case measure => simp [Go.RowKit.intOf]; omega
            · have b1 : (ft == (i : Int)) = false := by simpa using h1
              rw [show FoldMath.stepT (i : Int) r ⟨ft, fk, fg, fv⟩ = r from if_neg h1] at HN
              go_wp2
              go_roundw
              case rel => exact ⟨m + 1, by go_num, by omega, A7, n7, c7, rfl, by rw [HN.out]; exact (HZ.out.below HB1'.out).more HB1'.out.size, held_two HB.out HB1'.out⟩
              case measure => simp [Go.RowKit.intOf]; omega
          · obtain rfl : m = m1 := by omega
            have l2 : ¬ (m : Int) < (m : Int) := by omega
            have HE : Hid (chs t q ++ x.chs.take m = chs t (q + 1)) := by show _ = _; rw [List.take_of_length_le (by omega), ← chs_succ HX.out]
            rw [HE.out] at HZ
            obtain ⟨b8, off8, A9, n9, c9, l9, rfl, _, z9, hz9, hg9, _⟩ := (HNOW.out.below HB.out fun _ _ _ _ hh => hh.below HB.out).at_ hi2
            rw [rowsL_get hi2] at hg9
            obtain rfl := Option.some.inj hg9
            have HZ9 := Lib.hid hz9
            clear hz9 hg9 hln hle7
            go_wp2_with fail
            refine (Idx.rplain_same wr.heap.size w4.heap.size A7 A9 n7 n9 c7 c9 (rows (i : Int) (chs t (q + 1))) wr HZ.out.1 HZ9.out.1 (Nat.le_refl _) HB.out.size).mono ?_
            rintro e w8 ⟨rfl, hb8⟩
            have HB8 : Hid (Below w4.heap.size w4 w8) := held_two HB.out hb8
            clear hb8
            go_wp2
            go_roundw
            case rel => exact ⟨i + 1, by go_num, by omega, HB8.out⟩
            case measure => simp [Go.RowKit.intOf]; omega
      · have l1 : ¬ (i : Int) < 2 := by omega
        have HB9 : Hid (Below w.heap.size w wr) := held_two HB4.out HB.out
        go_wp2
        go_ret
        exact ⟨rfl, HB9.out⟩
end Go.Proofs.Ytlgdbpejefgeaaa.Fold
