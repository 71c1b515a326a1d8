/-
  The walk of the statement BatchJoins: it answers true, whatever the input, and writes nothing that was there.
-/
import Derived.Test.YtlkjmdkmcaaihaaItRow
import Derived.Test.YtlkjmdkmcaaihaaRbJoin
namespace Go.Proofs.Ytlkjmdkmcaaihaa.Bt
set_option linter.unusedVariables false
set_option maxRecDepth 100000
open Go.RowKit Base FieldMath TxnMath BatchMath
open GuardMath (Gp noGp)
open Gd (Gps ov ov_append ov_one oval oel oone)
open Go.Proofs.Ytlkjmdkmcaaihaa.Field (ret_bool modZ modZ_lt mod_any)
set_option linter.ambiguousOpen false
set_option linter.unusedSimpArgs false

def JoRel (w : World) (m : Nat) (vin vlast vi : Value) (wr : World) : Prop := ∃ (k : Nat) (A : Option Addr) (c L : Nat) (ins : List It), k ≤ m ∧ k ≤ 12 ∧ vi = .int .i64 k ∧ vlast = .int .i64 (L : Int) ∧ vin = .slice A k c ∧ L ≤ 3 * k ∧ ItRow wr w.heap.size A k c ins ∧ Below w.heap.size w wr
set_option maxHeartbeats 12800000 in
theorem joins_walk (A0 : Option Addr) (n0 c0 : Nat) (l : List It) (n : Int) (w : World) (h : Its w w.heap.size A0 n0 c0 l) (hok : ∀ x ∈ l, ∀ o ∈ x.ops, o.val.size ≤ 9223372036854775807) :
    Calls Try.prog 6 #[.slice A0 n0 c0, .int .i64 n] w fun e w' => e = .returned (.bool true) ∧ Below w.heap.size w w' := by
  have hle0 := h.le
  have HR := Lib.hid h
  have HOK := Lib.hid hok
  have HMC := Lib.hid (fun w => mod_any n 5 w (by omega) (by omega))
  have hj5 := modZ_lt n (n := 5) (by omega)
  generalize modZ n 5 = j at HMC hj5
  clear h hok
  go_enter Try.func6, Try.ntmps6
  go_wp2
  go_loopw [5, 6, 7] (fun vin vl vi wr => JoRel w n0 vin vl vi wr) (fun _ _ vi _ => n0 - (intOf vi).toNat)
  case atStart => exact ⟨0, none, 0, 0, [], by omega, by omega, rfl, rfl, rfl, by omega, ItRow.nil_ _ _, Below.refl _ _⟩
  case round =>
    obtain ⟨k, A, c, L, ins, hk, hk12, rfl, rfl, rfl, hL, hrow, hbel⟩ := hrel
    have HB := Lib.hid hbel
    have HROW := Lib.hid hrow
    have hbz := hbel.size
    clear hrow hbel
    by_cases hgo : k < n0 ∧ k < 12
    · obtain ⟨hlt, hlt12⟩ := hgo
      obtain ⟨b, off, x, rfl, hbB, hget, _, hxat⟩ := (HR.out.below HB.out).at_ hlt
      obtain ⟨A1, n1, c1, A2, n2, c2, q0, q1, q2, hxin⟩ := itAt_in hxat
      have HG := Lib.hid (HOK.out x (List.mem_of_getElem? hget))
      have HX := Lib.hid hxin
      clear hget hxat hxin
      have l1 : (k : Int) < (n0 : Int) := by omega
      have l2 : (k : Int) < 12 := by omega
      have hbw : b < wr.heap.size := by omega
      go_wp2_with fail
      refine (great_any x.lsn A1 n1 c1 A2 n2 c2 wr).mono ?_
      rintro e w1 ⟨rfl, hb1⟩
      have HB1 := Lib.hid (held_two HB.out hb1)
      have HRW1 := Lib.hid (HROW.out.new hb1)
      have HX1 := Lib.hid (HX.out.below (hb1.mono hbz))
      have y0 := (hb1.cell (p := ⟨b, off + k * 3, none⟩) hbw).trans q0
      have y1 := (hb1.cell (p := ⟨b, off + k * 3 + 1, none⟩) hbw).trans q1
      have y2 := (hb1.cell (p := ⟨b, off + k * 3 + 2, none⟩) hbw).trans q2
      generalize (decide (100 < n1) || decide (300 < n2)) = g
      clear q0 q1 q2 hb1 HX HROW
      cases g with
      | true =>
        go_wp2_with fail
        refine (awake_any _).mono ?_
        rintro e w2 ⟨rfl, hb2⟩
        have HB2 := Lib.hid (held_two HB1.out hb2)
        clear hb2
        go_wp2
        go_ret
        exact ⟨rfl, HB2.out⟩
      | false =>
        go_wp2_with fail
        refine (some_any w.heap.size L (by omega) x _ w1 HX1.out HB1.out.size HG.out).mono ?_
        rintro e w2 ⟨t, T1, tn, tc, U1, un, uc, rfl, hmade, hot, hb2⟩
        unfold itv
        obtain ⟨vs, r1, r2, r3⟩ := HRW1.out.new hb2
        have HB2 := Lib.hid (held_two HB1.out hb2)
        have HXB : Hid (Blk (w2.alloc (.cells #[.int .i64 t.lsn, .slice T1 tn tc, .slice U1 un uc] 25)) w2.heap.size 25 #[.int .i64 t.lsn, .slice T1 tn tc, .slice U1 un uc]) := Blk.new _ _ _
        have HBV : Hid (Below w.heap.size w (w2.alloc (.cells #[.int .i64 t.lsn, .slice T1 tn tc, .slice U1 un uc] 25))) := HB2.out.alloc HB2.out.size _
        have HTV : Hid (ItOwn (w2.alloc (.cells #[.int .i64 t.lsn, .slice T1 tn tc, .slice U1 un uc] 25)) 0 t T1 tn tc U1 un uc) := (hot.mono (Nat.zero_le _)).keep ((Below.refl _ _).alloc (Nat.le_refl _) _)
        have HRV : Hid (ItRow (w2.alloc (.cells #[.int .i64 t.lsn, .slice T1 tn tc, .slice U1 un uc] 25)) w.heap.size A k c ins) := (HRW1.out.new hb2).new ((Below.refl _ _).alloc (Nat.le_refl _) _)
        have HNE : Hid ((Value.slice A k c).ownBlock ≠ some w2.heap.size) := fun e => by have := (r1.lt _ e).2; omega
        have hcap := (Row.of_own r1).le
        have HLO := Lib.hid hmade.low
        have HHI := Lib.hid hmade.high
        clear r1 r2 r3 hb2 hot hmade y0 y1 y2 HX1 HRW1
        go_wp2_with fail
        refine (HMC.out _).mono ?_
        rintro e w3 ⟨rfl, rfl⟩
        generalize (w2.alloc (.cells #[.int .i64 t.lsn, .slice T1 tn tc, .slice U1 un uc] 25)) = V at HXB HTV HBV HRV ⊢
        have hs5 : w.heap.size ≤ w2.heap.size := HB2.out.size
        clear HB2
        generalize w2.heap.size = s5 at HXB HNE hs5 ⊢
        by_cases hj4 : j = 4
        · subst hj4
          by_cases hk3 : k = 3
          · subst hk3
            have x0 : V.cell? ⟨s5, 0, none⟩ = some (.int .i64 t.lsn) := HXB.out.cell 0
            have x1 : V.cell? ⟨s5, 1, none⟩ = some (.slice T1 tn tc) := HXB.out.cell 1
            have x2 : V.cell? ⟨s5, 2, none⟩ = some (.slice U1 un uc) := HXB.out.cell 2
            have xf0 := HXB.out.frozen 0
            have xf1 := HXB.out.frozen 1
            have xf2 := HXB.out.frozen 2
            by_cases hL0 : L = 0
            · subst hL0
              go_upto_region 13 with fail
              have HYB : Hid (Blk (((V.setCell ⟨s5, 0, none⟩ (.int .i64 1)).setCell ⟨s5, 1, none⟩ (.slice none 0 0)).setCell ⟨s5, 2, none⟩ (.slice none 0 0)) s5 25 #[.int .i64 1, .slice none 0 0, .slice none 0 0]) := ((HXB.out.set_ 0 (.int .i64 1)).set_ 1 (.slice none 0 0)).set_ 2 (.slice none 0 0)
              have HYR : Hid (ItRow (((V.setCell ⟨s5, 0, none⟩ (.int .i64 1)).setCell ⟨s5, 1, none⟩ (.slice none 0 0)).setCell ⟨s5, 2, none⟩ (.slice none 0 0)) w.heap.size A 3 c ins) := ((HRV.out.set_ HXB.out rfl HNE.out _).set_ (HXB.out.set_ 0 (.int .i64 1)) rfl HNE.out _).set_ ((HXB.out.set_ 0 (.int .i64 1)).set_ 1 (.slice none 0 0)) rfl HNE.out _
              have HYW : Hid (Below w.heap.size w (((V.setCell ⟨s5, 0, none⟩ (.int .i64 1)).setCell ⟨s5, 1, none⟩ (.slice none 0 0)).setCell ⟨s5, 2, none⟩ (.slice none 0 0))) := ((HBV.out.setCell (by exact hs5) _).setCell (by exact hs5) _).setCell (by exact hs5) _
              clear x0 x1 x2 xf0 xf1 xf2
              generalize (((V.setCell ⟨s5, 0, none⟩ (.int .i64 1)).setCell ⟨s5, 1, none⟩ (.slice none 0 0)).setCell ⟨s5, 2, none⟩ (.slice none 0 0)) = V9 at HYB HYR HYW ⊢
              have HTY : Hid (ItOwn V9 0 ⟨1, [], []⟩ none 0 0 none 0 0) := ItOwn.nil_ _ _ _
              have x0 : V9.cell? ⟨s5, 0, none⟩ = some (.int .i64 1) := HYB.out.cell 0
              have x1 : V9.cell? ⟨s5, 1, none⟩ = some (.slice none 0 0) := HYB.out.cell 1
              have x2 : V9.cell? ⟨s5, 2, none⟩ = some (.slice none 0 0) := HYB.out.cell 2
              obtain ⟨vs, r1, r2, r3⟩ := HYR.out
              have HOW := Lib.hid r1
              have HLN := Lib.hid r2
              have HIV := Lib.hid r3
              have hvz : w.heap.size ≤ V9.heap.size := HYW.out.size
              clear r1 r2 r3
              go_wp2_with (first
                | (at_builtin
                   refine wpList_append_row rfl (.tmp 54) (.tmp 56) rfl itel w.heap.size _ 3 vs rfl (own_keep HOW.out ((Below.refl _ _).alloc (Nat.le_refl _) _)) _ _ 1 1 (itcells 1 none 0 0 none 0 0) rfl (it_one V9 1 none 0 0 none 0 0 rfl) (itcells_one _ _ _ _ _ _ _) (by omega) (by omega) (by simp; omega) ?_
                   intro A9 c9 w9 hown9 hg9 hb9
                   have HG9 : Hid (V9.grownBy w9 (Value.slice A 3 c).ownBlock) := only_trans (only_alloc (World.grownBy.refl V9 _) (.cells #[.int .i64 1, .slice none 0 0, .slice none 0 0] 25)) hg9.1 (.inl rfl)
                   have HBQ : Hid (Below w.heap.size V9 w9) := ((Below.refl _ _).alloc hvz _).trans hb9
                   have HP := Lib.hid (ItRow.push (x := ⟨1, [], []⟩) HOW.out HLN.out HIV.out hown9 HG9.out HTY.out)
                   clear hown9 hg9 hb9)
                | fail)
              go_roundw
              case rel => exact ⟨4, A9, c9, 1, ins ++ [⟨1, [], []⟩], by omega, by omega, by go_num, rfl, rfl, by omega, HP.out, HYW.out.trans HBQ.out⟩
              case measure => simp [intOf]; omega
            · have hL1 : ¬ (L : Int) = 0 := by omega
              have hL2 : 1 ≤ (L : Int) := by omega
              go_upto_region 13 with fail
              have HYB : Hid (Blk (((V.setCell ⟨s5, 0, none⟩ (.int .i64 (L : Int))).setCell ⟨s5, 1, none⟩ (.slice none 0 0)).setCell ⟨s5, 2, none⟩ (.slice none 0 0)) s5 25 #[.int .i64 (L : Int), .slice none 0 0, .slice none 0 0]) := ((HXB.out.set_ 0 (.int .i64 (L : Int))).set_ 1 (.slice none 0 0)).set_ 2 (.slice none 0 0)
              have HYR : Hid (ItRow (((V.setCell ⟨s5, 0, none⟩ (.int .i64 (L : Int))).setCell ⟨s5, 1, none⟩ (.slice none 0 0)).setCell ⟨s5, 2, none⟩ (.slice none 0 0)) w.heap.size A 3 c ins) := ((HRV.out.set_ HXB.out rfl HNE.out _).set_ (HXB.out.set_ 0 (.int .i64 (L : Int))) rfl HNE.out _).set_ ((HXB.out.set_ 0 (.int .i64 (L : Int))).set_ 1 (.slice none 0 0)) rfl HNE.out _
              have HYW : Hid (Below w.heap.size w (((V.setCell ⟨s5, 0, none⟩ (.int .i64 (L : Int))).setCell ⟨s5, 1, none⟩ (.slice none 0 0)).setCell ⟨s5, 2, none⟩ (.slice none 0 0))) := ((HBV.out.setCell (by exact hs5) _).setCell (by exact hs5) _).setCell (by exact hs5) _
              clear x0 x1 x2 xf0 xf1 xf2
              generalize (((V.setCell ⟨s5, 0, none⟩ (.int .i64 (L : Int))).setCell ⟨s5, 1, none⟩ (.slice none 0 0)).setCell ⟨s5, 2, none⟩ (.slice none 0 0)) = V9 at HYB HYR HYW ⊢
              have HTY : Hid (ItOwn V9 0 ⟨(L : Int), [], []⟩ none 0 0 none 0 0) := ItOwn.nil_ _ _ _
              have x0 : V9.cell? ⟨s5, 0, none⟩ = some (.int .i64 (L : Int)) := HYB.out.cell 0
              have x1 : V9.cell? ⟨s5, 1, none⟩ = some (.slice none 0 0) := HYB.out.cell 1
              have x2 : V9.cell? ⟨s5, 2, none⟩ = some (.slice none 0 0) := HYB.out.cell 2
              obtain ⟨vs, r1, r2, r3⟩ := HYR.out
              have HOW := Lib.hid r1
              have HLN := Lib.hid r2
              have HIV := Lib.hid r3
              have hvz : w.heap.size ≤ V9.heap.size := HYW.out.size
              clear r1 r2 r3
              go_wp2_with (first
                | (at_builtin
                   refine wpList_append_row rfl (.tmp 54) (.tmp 56) rfl itel w.heap.size _ 3 vs rfl (own_keep HOW.out ((Below.refl _ _).alloc (Nat.le_refl _) _)) _ _ 1 1 (itcells (L : Int) none 0 0 none 0 0) rfl (it_one V9 (L : Int) none 0 0 none 0 0 rfl) (itcells_one _ _ _ _ _ _ _) (by omega) (by omega) (by simp; omega) ?_
                   intro A9 c9 w9 hown9 hg9 hb9
                   have HG9 : Hid (V9.grownBy w9 (Value.slice A 3 c).ownBlock) := only_trans (only_alloc (World.grownBy.refl V9 _) (.cells #[.int .i64 (L : Int), .slice none 0 0, .slice none 0 0] 25)) hg9.1 (.inl rfl)
                   have HBQ : Hid (Below w.heap.size V9 w9) := ((Below.refl _ _).alloc hvz _).trans hb9
                   have HP := Lib.hid (ItRow.push (x := ⟨(L : Int), [], []⟩) HOW.out HLN.out HIV.out hown9 HG9.out HTY.out)
                   clear hown9 hg9 hb9)
                | fail)
              go_roundw
              case rel => exact ⟨4, A9, c9, L, ins ++ [⟨(L : Int), [], []⟩], by omega, by omega, by go_num, rfl, rfl, by omega, HP.out, HYW.out.trans HBQ.out⟩
              case measure => simp [intOf]; omega
          · have e3 : ((k : Int) == 3) = false := by simp; omega
            have e4 : ¬ (k : Int) = 3 := by omega
            have x0 : V.cell? ⟨s5, 0, none⟩ = some (.int .i64 t.lsn) := HXB.out.cell 0
            have x1 : V.cell? ⟨s5, 1, none⟩ = some (.slice T1 tn tc) := HXB.out.cell 1
            have x2 : V.cell? ⟨s5, 2, none⟩ = some (.slice U1 un uc) := HXB.out.cell 2
            obtain ⟨vs, r1, r2, r3⟩ := HRV.out
            have HOW := Lib.hid r1
            have HLN := Lib.hid r2
            have HIV := Lib.hid r3
            have hvz : w.heap.size ≤ V.heap.size := HBV.out.size
            clear r1 r2 r3
            go_wp2_with (first
              | (at_builtin
                 refine wpList_append_row rfl (.tmp 54) (.tmp 56) rfl itel w.heap.size _ k vs rfl (own_keep HOW.out ((Below.refl _ _).alloc (Nat.le_refl _) _)) _ _ 1 1 (itcells t.lsn T1 tn tc U1 un uc) rfl (it_one V t.lsn T1 tn tc U1 un uc rfl) (itcells_one _ _ _ _ _ _ _) (by omega) (by omega) (by simp; omega) ?_
                 intro A9 c9 w9 hown9 hg9 hb9
                 have HG9 : Hid (V.grownBy w9 (Value.slice A k c).ownBlock) := only_trans (only_alloc (World.grownBy.refl V _) (.cells #[.int .i64 t.lsn, .slice T1 tn tc, .slice U1 un uc] 25)) hg9.1 (.inl rfl)
                 have HBQ : Hid (Below w.heap.size V w9) := ((Below.refl _ _).alloc hvz _).trans hb9
                 have HP := Lib.hid (ItRow.push HOW.out HLN.out HIV.out hown9 HG9.out HTV.out)
                 clear hown9 hg9 hb9)
              | fail)
            go_roundw
            case rel => exact ⟨k + 1, A9, c9, t.lsn.toNat, ins ++ [t], by omega, by omega, by go_num, by rw [Int.toNat_of_nonneg (by have := HLO.out; omega)], rfl, by have := HHI.out; omega, HP.out, HBV.out.trans HBQ.out⟩
            case measure => simp [intOf]; omega
        · have e5 : ((j : Int) == 4) = false := by simp; omega
          have e6 : ¬ (j : Int) = 4 := by omega
          have x0 : V.cell? ⟨s5, 0, none⟩ = some (.int .i64 t.lsn) := HXB.out.cell 0
          have x1 : V.cell? ⟨s5, 1, none⟩ = some (.slice T1 tn tc) := HXB.out.cell 1
          have x2 : V.cell? ⟨s5, 2, none⟩ = some (.slice U1 un uc) := HXB.out.cell 2
          obtain ⟨vs, r1, r2, r3⟩ := HRV.out
          have HOW := Lib.hid r1
          have HLN := Lib.hid r2
          have HIV := Lib.hid r3
          have hvz : w.heap.size ≤ V.heap.size := HBV.out.size
          clear r1 r2 r3
          go_wp2_with (first
            | (at_builtin
               refine wpList_append_row rfl (.tmp 54) (.tmp 56) rfl itel w.heap.size _ k vs rfl (own_keep HOW.out ((Below.refl _ _).alloc (Nat.le_refl _) _)) _ _ 1 1 (itcells t.lsn T1 tn tc U1 un uc) rfl (it_one V t.lsn T1 tn tc U1 un uc rfl) (itcells_one _ _ _ _ _ _ _) (by omega) (by omega) (by simp; omega) ?_
               intro A9 c9 w9 hown9 hg9 hb9
               have HG9 : Hid (V.grownBy w9 (Value.slice A k c).ownBlock) := only_trans (only_alloc (World.grownBy.refl V _) (.cells #[.int .i64 t.lsn, .slice T1 tn tc, .slice U1 un uc] 25)) hg9.1 (.inl rfl)
               have HBQ : Hid (Below w.heap.size V w9) := ((Below.refl _ _).alloc hvz _).trans hb9
               have HP := Lib.hid (ItRow.push HOW.out HLN.out HIV.out hown9 HG9.out HTV.out)
               clear hown9 hg9 hb9)
            | fail)
          go_roundw
          case rel => exact ⟨k + 1, A9, c9, t.lsn.toNat, ins ++ [t], by omega, by omega, by go_num, by rw [Int.toNat_of_nonneg (by have := HLO.out; omega)], rfl, by have := HHI.out; omega, HP.out, HBV.out.trans HBQ.out⟩
          case measure => simp [intOf]; omega
    · have hin := HROW.out.its
      have hnc := hin.le
      have HIN := Lib.hid hin
      have HRA := Lib.hid (((HR.out.below HB.out).front (k := k) hk).more hbz)
      have hlr := HRA.out.len
      clear hin HROW
      have hor : ¬ k < n0 ∨ (k < n0 ∧ ¬ k < 12) := by omega
      rcases hor with hz | ⟨hz1, hz2⟩
      · have l1 : ¬ (k : Int) < (n0 : Int) := by omega
        obtain rfl : k = n0 := by omega
        have l4 : (k : Int) ≤ 12 := by omega
        go_wp2_with fail
        refine (join_any wr.heap.size A k c ins wr HIN.out (Nat.le_refl _) (by omega)).mono ?_
        intro e w1 he1
        obtain ⟨v1, he, hi1, hb1⟩ := he1.at_
        obtain ⟨q1, hq1⟩ : ∃ q, q = join ins := ⟨_, rfl⟩
        have HQ1 := Lib.hid hq1
        clear hq1
        rw [← HQ1.out] at he hi1
        obtain ⟨B1, n1, c1, P1, m1, k1, hv, hin1, _, _⟩ := hi1.agg
        subst hv
        subst he
        have hal : Below w1.heap.size w1 (w1.alloc (.cells #[.int .i64 (gotI q1).lsn, .slice B1 n1 c1, .slice P1 m1 k1] 25)) := (Below.refl _ _).alloc (Nat.le_refl _) _
        have hbb : Below wr.heap.size wr (w1.alloc (.cells #[.int .i64 (gotI q1).lsn, .slice B1 n1 c1, .slice P1 m1 k1] 25)) := held_two hb1 hal
        have hpz : wr.heap.size ≤ w1.heap.size := hb1.size
        replace HB := Lib.hid (held_two HB.out hbb)
        replace HIN := Lib.hid (HIN.out.below (hbb.mono (Nat.le_refl _)))
        replace HRA := Lib.hid (HRA.out.below (hbb.mono (Nat.le_refl _)))
        have HI1 := Lib.hid (hin1.below hal)
        have HZ1 : Hid (Blk (w1.alloc (.cells #[.int .i64 (gotI q1).lsn, .slice B1 n1 c1, .slice P1 m1 k1] 25)) w1.heap.size 25 #[.int .i64 (gotI q1).lsn, .slice B1 n1 c1, .slice P1 m1 k1]) := Blk.new _ _ _
        have HW1 : Hid (w1.heap.size < (w1.alloc (.cells #[.int .i64 (gotI q1).lsn, .slice B1 n1 c1, .slice P1 m1 k1] 25)).heap.size) := HZ1.out.lt
        have HWR : Hid (wr.heap.size ≤ (w1.alloc (.cells #[.int .i64 (gotI q1).lsn, .slice B1 n1 c1, .slice P1 m1 k1] 25)).heap.size) := hbb.size
        clear he1 hi1 hin1 hb1 hal hbb hpz
        go_wp2_with fail
        generalize (w1.alloc (.cells #[.int .i64 (gotI q1).lsn, .slice B1 n1 c1, .slice P1 m1 k1] 25)) = V1 at HIN HRA HB HWR HZ1 HI1 HW1 ⊢
        generalize w1.heap.size = Z1 at HZ1 HI1 HW1 ⊢
        refine (refjoin_any wr.heap.size A k c ins V1 HIN.out HWR.out (by omega)).mono ?_
        intro e w2 he2
        obtain ⟨v2, he, hi2, hb2⟩ := he2.at_
        rw [← HQ1.out] at he hi2
        obtain ⟨B2, n2, c2, P2, m2, k2, hv, hin2, _, _⟩ := hi2.agg
        subst hv
        subst he
        have hal : Below w2.heap.size w2 (w2.alloc (.cells #[.int .i64 (gotI q1).lsn, .slice B2 n2 c2, .slice P2 m2 k2] 25)) := (Below.refl _ _).alloc (Nat.le_refl _) _
        have hbb : Below V1.heap.size V1 (w2.alloc (.cells #[.int .i64 (gotI q1).lsn, .slice B2 n2 c2, .slice P2 m2 k2] 25)) := held_two hb2 hal
        have hpz : V1.heap.size ≤ w2.heap.size := hb2.size
        replace HB := Lib.hid (held_two HB.out hbb)
        replace HIN := Lib.hid (HIN.out.below (hbb.mono HWR.out))
        replace HRA := Lib.hid (HRA.out.below (hbb.mono HWR.out))
        replace HI1 := Lib.hid (HI1.out.below (hbb.mono (Nat.le_of_lt HW1.out)))
        replace HZ1 := Lib.hid (HZ1.out.below hbb HW1.out)
        have HI2 := Lib.hid (hin2.below hal)
        have HZ2 : Hid (Blk (w2.alloc (.cells #[.int .i64 (gotI q1).lsn, .slice B2 n2 c2, .slice P2 m2 k2] 25)) w2.heap.size 25 #[.int .i64 (gotI q1).lsn, .slice B2 n2 c2, .slice P2 m2 k2]) := Blk.new _ _ _
        have HW2 : Hid (w2.heap.size < (w2.alloc (.cells #[.int .i64 (gotI q1).lsn, .slice B2 n2 c2, .slice P2 m2 k2] 25)).heap.size) := HZ2.out.lt
        replace HW1 : Hid (Z1 < (w2.alloc (.cells #[.int .i64 (gotI q1).lsn, .slice B2 n2 c2, .slice P2 m2 k2] 25)).heap.size) := Nat.lt_of_lt_of_le HW1.out hbb.size
        replace HWR : Hid (wr.heap.size ≤ (w2.alloc (.cells #[.int .i64 (gotI q1).lsn, .slice B2 n2 c2, .slice P2 m2 k2] 25)).heap.size) := Nat.le_trans HWR.out hbb.size
        clear he2 hi2 hin2 hb2 hal hbb hpz
        go_wp2_with fail
        generalize (w2.alloc (.cells #[.int .i64 (gotI q1).lsn, .slice B2 n2 c2, .slice P2 m2 k2] 25)) = V2 at HIN HRA HB HWR HZ1 HZ2 HI1 HI2 HW1 HW2 ⊢
        generalize w2.heap.size = Z2 at HZ2 HI2 HW2 ⊢
        refine (join_any wr.heap.size A0 k c0 (l.take k) V2 HRA.out HWR.out (by omega)).mono ?_
        intro e w3 he3
        obtain ⟨v3, he, hi3, hb3⟩ := he3.at_
        obtain ⟨q2, hq2⟩ : ∃ q, q = join (l.take k) := ⟨_, rfl⟩
        have HQ2 := Lib.hid hq2
        clear hq2
        rw [← HQ2.out] at he hi3
        obtain ⟨B3, n3, c3, P3, m3, k3, hv, hin3, _, _⟩ := hi3.agg
        subst hv
        subst he
        have hal : Below w3.heap.size w3 (w3.alloc (.cells #[.int .i64 (gotI q2).lsn, .slice B3 n3 c3, .slice P3 m3 k3] 25)) := (Below.refl _ _).alloc (Nat.le_refl _) _
        have hbb : Below V2.heap.size V2 (w3.alloc (.cells #[.int .i64 (gotI q2).lsn, .slice B3 n3 c3, .slice P3 m3 k3] 25)) := held_two hb3 hal
        have hpz : V2.heap.size ≤ w3.heap.size := hb3.size
        replace HB := Lib.hid (held_two HB.out hbb)
        replace HIN := Lib.hid (HIN.out.below (hbb.mono HWR.out))
        replace HRA := Lib.hid (HRA.out.below (hbb.mono HWR.out))
        replace HI1 := Lib.hid (HI1.out.below (hbb.mono (Nat.le_of_lt HW1.out)))
        replace HZ1 := Lib.hid (HZ1.out.below hbb HW1.out)
        replace HI2 := Lib.hid (HI2.out.below (hbb.mono (Nat.le_of_lt HW2.out)))
        replace HZ2 := Lib.hid (HZ2.out.below hbb HW2.out)
        have HI3 := Lib.hid (hin3.below hal)
        have HZ3 : Hid (Blk (w3.alloc (.cells #[.int .i64 (gotI q2).lsn, .slice B3 n3 c3, .slice P3 m3 k3] 25)) w3.heap.size 25 #[.int .i64 (gotI q2).lsn, .slice B3 n3 c3, .slice P3 m3 k3]) := Blk.new _ _ _
        have HW3 : Hid (w3.heap.size < (w3.alloc (.cells #[.int .i64 (gotI q2).lsn, .slice B3 n3 c3, .slice P3 m3 k3] 25)).heap.size) := HZ3.out.lt
        replace HW1 : Hid (Z1 < (w3.alloc (.cells #[.int .i64 (gotI q2).lsn, .slice B3 n3 c3, .slice P3 m3 k3] 25)).heap.size) := Nat.lt_of_lt_of_le HW1.out hbb.size
        replace HW2 : Hid (Z2 < (w3.alloc (.cells #[.int .i64 (gotI q2).lsn, .slice B3 n3 c3, .slice P3 m3 k3] 25)).heap.size) := Nat.lt_of_lt_of_le HW2.out hbb.size
        replace HWR : Hid (wr.heap.size ≤ (w3.alloc (.cells #[.int .i64 (gotI q2).lsn, .slice B3 n3 c3, .slice P3 m3 k3] 25)).heap.size) := Nat.le_trans HWR.out hbb.size
        clear he3 hi3 hin3 hb3 hal hbb hpz
        go_wp2_with fail
        generalize (w3.alloc (.cells #[.int .i64 (gotI q2).lsn, .slice B3 n3 c3, .slice P3 m3 k3] 25)) = V3 at HIN HRA HB HWR HZ1 HZ2 HZ3 HI1 HI2 HI3 HW1 HW2 HW3 ⊢
        generalize w3.heap.size = Z3 at HZ3 HI3 HW3 ⊢
        refine (refjoin_any wr.heap.size A0 k c0 (l.take k) V3 HRA.out HWR.out (by omega)).mono ?_
        intro e w4 he4
        obtain ⟨v4, he, hi4, hb4⟩ := he4.at_
        rw [← HQ2.out] at he hi4
        obtain ⟨B4, n4, c4, P4, m4, k4, hv, hin4, _, _⟩ := hi4.agg
        subst hv
        subst he
        have hal : Below w4.heap.size w4 (w4.alloc (.cells #[.int .i64 (gotI q2).lsn, .slice B4 n4 c4, .slice P4 m4 k4] 25)) := (Below.refl _ _).alloc (Nat.le_refl _) _
        have hbb : Below V3.heap.size V3 (w4.alloc (.cells #[.int .i64 (gotI q2).lsn, .slice B4 n4 c4, .slice P4 m4 k4] 25)) := held_two hb4 hal
        have hpz : V3.heap.size ≤ w4.heap.size := hb4.size
        replace HB := Lib.hid (held_two HB.out hbb)
        replace HIN := Lib.hid (HIN.out.below (hbb.mono HWR.out))
        replace HRA := Lib.hid (HRA.out.below (hbb.mono HWR.out))
        replace HI1 := Lib.hid (HI1.out.below (hbb.mono (Nat.le_of_lt HW1.out)))
        replace HZ1 := Lib.hid (HZ1.out.below hbb HW1.out)
        replace HI2 := Lib.hid (HI2.out.below (hbb.mono (Nat.le_of_lt HW2.out)))
        replace HZ2 := Lib.hid (HZ2.out.below hbb HW2.out)
        replace HI3 := Lib.hid (HI3.out.below (hbb.mono (Nat.le_of_lt HW3.out)))
        replace HZ3 := Lib.hid (HZ3.out.below hbb HW3.out)
        have HI4 := Lib.hid (hin4.below hal)
        have HZ4 : Hid (Blk (w4.alloc (.cells #[.int .i64 (gotI q2).lsn, .slice B4 n4 c4, .slice P4 m4 k4] 25)) w4.heap.size 25 #[.int .i64 (gotI q2).lsn, .slice B4 n4 c4, .slice P4 m4 k4]) := Blk.new _ _ _
        have HW4 : Hid (w4.heap.size < (w4.alloc (.cells #[.int .i64 (gotI q2).lsn, .slice B4 n4 c4, .slice P4 m4 k4] 25)).heap.size) := HZ4.out.lt
        replace HW1 : Hid (Z1 < (w4.alloc (.cells #[.int .i64 (gotI q2).lsn, .slice B4 n4 c4, .slice P4 m4 k4] 25)).heap.size) := Nat.lt_of_lt_of_le HW1.out hbb.size
        replace HW2 : Hid (Z2 < (w4.alloc (.cells #[.int .i64 (gotI q2).lsn, .slice B4 n4 c4, .slice P4 m4 k4] 25)).heap.size) := Nat.lt_of_lt_of_le HW2.out hbb.size
        replace HW3 : Hid (Z3 < (w4.alloc (.cells #[.int .i64 (gotI q2).lsn, .slice B4 n4 c4, .slice P4 m4 k4] 25)).heap.size) := Nat.lt_of_lt_of_le HW3.out hbb.size
        replace HWR : Hid (wr.heap.size ≤ (w4.alloc (.cells #[.int .i64 (gotI q2).lsn, .slice B4 n4 c4, .slice P4 m4 k4] 25)).heap.size) := Nat.le_trans HWR.out hbb.size
        clear he4 hi4 hin4 hb4 hal hbb hpz
        go_wp2_with fail
        generalize (w4.alloc (.cells #[.int .i64 (gotI q2).lsn, .slice B4 n4 c4, .slice P4 m4 k4] 25)) = V4 at HIN HRA HB HWR HWR HZ1 HZ2 HZ3 HZ4 HI1 HI2 HI3 HI4 HW1 HW2 HW3 HW4 ⊢
        generalize w4.heap.size = Z4 at HZ4 HI4 HW4 ⊢
        have hw1 := HW1.out
        have hw2 := HW2.out
        have hw3 := HW3.out
        have hw4 := HW4.out
        generalize gotI q1 = r1 at HI1 HI2 HZ1 HZ2
        generalize gotI q2 = r2 at HI3 HI4 HZ3 HZ4
        generalize err q1 = e1
        generalize err q2 = e2
        clear HIN HRA HWR HW1 HW2 HW3 HW4
        refine (awake_any _).mono ?_
        rintro e w5 ⟨rfl, hb5⟩
        have hz5 := hb5.size
        replace HB := Lib.hid (held_two HB.out hb5)
        replace HI1 := Lib.hid (HI1.out.below (hb5.mono (by omega)))
        replace HZ1 := Lib.hid (HZ1.out.below hb5 hw1)
        replace HI2 := Lib.hid (HI2.out.below (hb5.mono (by omega)))
        replace HZ2 := Lib.hid (HZ2.out.below hb5 hw2)
        replace HI3 := Lib.hid (HI3.out.below (hb5.mono (by omega)))
        replace HZ3 := Lib.hid (HZ3.out.below hb5 hw3)
        replace HI4 := Lib.hid (HI4.out.below (hb5.mono (by omega)))
        replace HZ4 := Lib.hid (HZ4.out.below hb5 hw4)
        have x10 : w5.cell? ⟨Z1, 0, none⟩ = some (.int .i64 r1.lsn) := HZ1.out.cell 0
        have x11 : w5.cell? ⟨Z1, 1, none⟩ = some (.slice B1 n1 c1) := HZ1.out.cell 1
        have x12 : w5.cell? ⟨Z1, 2, none⟩ = some (.slice P1 m1 k1) := HZ1.out.cell 2
        have x20 : w5.cell? ⟨Z2, 0, none⟩ = some (.int .i64 r1.lsn) := HZ2.out.cell 0
        have x21 : w5.cell? ⟨Z2, 1, none⟩ = some (.slice B2 n2 c2) := HZ2.out.cell 1
        have x22 : w5.cell? ⟨Z2, 2, none⟩ = some (.slice P2 m2 k2) := HZ2.out.cell 2
        have x30 : w5.cell? ⟨Z3, 0, none⟩ = some (.int .i64 r2.lsn) := HZ3.out.cell 0
        have x31 : w5.cell? ⟨Z3, 1, none⟩ = some (.slice B3 n3 c3) := HZ3.out.cell 1
        have x32 : w5.cell? ⟨Z3, 2, none⟩ = some (.slice P3 m3 k3) := HZ3.out.cell 2
        have x40 : w5.cell? ⟨Z4, 0, none⟩ = some (.int .i64 r2.lsn) := HZ4.out.cell 0
        have x41 : w5.cell? ⟨Z4, 1, none⟩ = some (.slice B4 n4 c4) := HZ4.out.cell 1
        have x42 : w5.cell? ⟨Z4, 2, none⟩ = some (.slice P4 m4 k4) := HZ4.out.cell 2
        clear hb5
        go_wp2_with fail
        refine (itsame_any Z1 Z2 r1 _ _ w5 HI1.out HI2.out (by omega) (by omega)).mono ?_
        rintro e w6 ⟨rfl, hb6⟩
        have hz6 := hb6.size
        replace HB := Lib.hid (held_two HB.out hb6)
        clear x10 x11 x12 x20 x21 x22 x30 x31 x32 x40 x41 x42
        replace HI3 := Lib.hid (HI3.out.below (hb6.mono (by omega)))
        replace HZ3 := Lib.hid (HZ3.out.below hb6 (by omega))
        have x30 : w6.cell? ⟨Z3, 0, none⟩ = some (.int .i64 r2.lsn) := HZ3.out.cell 0
        have x31 : w6.cell? ⟨Z3, 1, none⟩ = some (.slice B3 n3 c3) := HZ3.out.cell 1
        have x32 : w6.cell? ⟨Z3, 2, none⟩ = some (.slice P3 m3 k3) := HZ3.out.cell 2
        replace HI4 := Lib.hid (HI4.out.below (hb6.mono (by omega)))
        replace HZ4 := Lib.hid (HZ4.out.below hb6 (by omega))
        have x40 : w6.cell? ⟨Z4, 0, none⟩ = some (.int .i64 r2.lsn) := HZ4.out.cell 0
        have x41 : w6.cell? ⟨Z4, 1, none⟩ = some (.slice B4 n4 c4) := HZ4.out.cell 1
        have x42 : w6.cell? ⟨Z4, 2, none⟩ = some (.slice P4 m4 k4) := HZ4.out.cell 2
        clear hb6
        go_wp2_with fail
        refine (itsame_any Z3 Z4 r2 _ _ w6 HI3.out HI4.out (by omega) (by omega)).mono ?_
        rintro e w7 ⟨rfl, hb7⟩
        replace HB := Lib.hid (held_two HB.out hb7)
        clear hb7
        go_wp2
        go_ret
        exact ⟨rfl, HB.out⟩
      · have l1 : (k : Int) < (n0 : Int) := by omega
        have l2 : ¬ (k : Int) < 12 := by omega
        obtain rfl : k = 12 := by omega
        have l4 : ¬ (n0 : Int) ≤ 12 := by omega
        have l5 : (12 : Int) < (n0 : Int) := by omega
        go_wp2_with fail
        refine (join_any wr.heap.size A 12 c ins wr HIN.out (Nat.le_refl _) (by omega)).mono ?_
        intro e w1 he1
        obtain ⟨v1, he, hi1, hb1⟩ := he1.at_
        obtain ⟨q1, hq1⟩ : ∃ q, q = join ins := ⟨_, rfl⟩
        have HQ1 := Lib.hid hq1
        clear hq1
        rw [← HQ1.out] at he hi1
        obtain ⟨B1, n1, c1, P1, m1, k1, hv, hin1, _, _⟩ := hi1.agg
        subst hv
        subst he
        have hal : Below w1.heap.size w1 (w1.alloc (.cells #[.int .i64 (gotI q1).lsn, .slice B1 n1 c1, .slice P1 m1 k1] 25)) := (Below.refl _ _).alloc (Nat.le_refl _) _
        have hbb : Below wr.heap.size wr (w1.alloc (.cells #[.int .i64 (gotI q1).lsn, .slice B1 n1 c1, .slice P1 m1 k1] 25)) := held_two hb1 hal
        have hpz : wr.heap.size ≤ w1.heap.size := hb1.size
        replace HB := Lib.hid (held_two HB.out hbb)
        replace HIN := Lib.hid (HIN.out.below (hbb.mono (Nat.le_refl _)))
        replace HRA := Lib.hid (HRA.out.below (hbb.mono (Nat.le_refl _)))
        have HI1 := Lib.hid (hin1.below hal)
        have HZ1 : Hid (Blk (w1.alloc (.cells #[.int .i64 (gotI q1).lsn, .slice B1 n1 c1, .slice P1 m1 k1] 25)) w1.heap.size 25 #[.int .i64 (gotI q1).lsn, .slice B1 n1 c1, .slice P1 m1 k1]) := Blk.new _ _ _
        have HW1 : Hid (w1.heap.size < (w1.alloc (.cells #[.int .i64 (gotI q1).lsn, .slice B1 n1 c1, .slice P1 m1 k1] 25)).heap.size) := HZ1.out.lt
        have HWR : Hid (wr.heap.size ≤ (w1.alloc (.cells #[.int .i64 (gotI q1).lsn, .slice B1 n1 c1, .slice P1 m1 k1] 25)).heap.size) := hbb.size
        clear he1 hi1 hin1 hb1 hal hbb hpz
        go_wp2_with fail
        generalize (w1.alloc (.cells #[.int .i64 (gotI q1).lsn, .slice B1 n1 c1, .slice P1 m1 k1] 25)) = V1 at HIN HRA HB HWR HZ1 HI1 HW1 ⊢
        generalize w1.heap.size = Z1 at HZ1 HI1 HW1 ⊢
        refine (refjoin_any wr.heap.size A 12 c ins V1 HIN.out HWR.out (by omega)).mono ?_
        intro e w2 he2
        obtain ⟨v2, he, hi2, hb2⟩ := he2.at_
        rw [← HQ1.out] at he hi2
        obtain ⟨B2, n2, c2, P2, m2, k2, hv, hin2, _, _⟩ := hi2.agg
        subst hv
        subst he
        have hal : Below w2.heap.size w2 (w2.alloc (.cells #[.int .i64 (gotI q1).lsn, .slice B2 n2 c2, .slice P2 m2 k2] 25)) := (Below.refl _ _).alloc (Nat.le_refl _) _
        have hbb : Below V1.heap.size V1 (w2.alloc (.cells #[.int .i64 (gotI q1).lsn, .slice B2 n2 c2, .slice P2 m2 k2] 25)) := held_two hb2 hal
        have hpz : V1.heap.size ≤ w2.heap.size := hb2.size
        replace HB := Lib.hid (held_two HB.out hbb)
        replace HIN := Lib.hid (HIN.out.below (hbb.mono HWR.out))
        replace HRA := Lib.hid (HRA.out.below (hbb.mono HWR.out))
        replace HI1 := Lib.hid (HI1.out.below (hbb.mono (Nat.le_of_lt HW1.out)))
        replace HZ1 := Lib.hid (HZ1.out.below hbb HW1.out)
        have HI2 := Lib.hid (hin2.below hal)
        have HZ2 : Hid (Blk (w2.alloc (.cells #[.int .i64 (gotI q1).lsn, .slice B2 n2 c2, .slice P2 m2 k2] 25)) w2.heap.size 25 #[.int .i64 (gotI q1).lsn, .slice B2 n2 c2, .slice P2 m2 k2]) := Blk.new _ _ _
        have HW2 : Hid (w2.heap.size < (w2.alloc (.cells #[.int .i64 (gotI q1).lsn, .slice B2 n2 c2, .slice P2 m2 k2] 25)).heap.size) := HZ2.out.lt
        replace HW1 : Hid (Z1 < (w2.alloc (.cells #[.int .i64 (gotI q1).lsn, .slice B2 n2 c2, .slice P2 m2 k2] 25)).heap.size) := Nat.lt_of_lt_of_le HW1.out hbb.size
        replace HWR : Hid (wr.heap.size ≤ (w2.alloc (.cells #[.int .i64 (gotI q1).lsn, .slice B2 n2 c2, .slice P2 m2 k2] 25)).heap.size) := Nat.le_trans HWR.out hbb.size
        clear he2 hi2 hin2 hb2 hal hbb hpz
        go_wp2_with fail
        generalize (w2.alloc (.cells #[.int .i64 (gotI q1).lsn, .slice B2 n2 c2, .slice P2 m2 k2] 25)) = V2 at HIN HRA HB HWR HZ1 HZ2 HI1 HI2 HW1 HW2 ⊢
        generalize w2.heap.size = Z2 at HZ2 HI2 HW2 ⊢
        refine (join_any wr.heap.size A0 12 c0 (l.take 12) V2 HRA.out HWR.out (by omega)).mono ?_
        intro e w3 he3
        obtain ⟨v3, he, hi3, hb3⟩ := he3.at_
        obtain ⟨q2, hq2⟩ : ∃ q, q = join (l.take 12) := ⟨_, rfl⟩
        have HQ2 := Lib.hid hq2
        clear hq2
        rw [← HQ2.out] at he hi3
        obtain ⟨B3, n3, c3, P3, m3, k3, hv, hin3, _, _⟩ := hi3.agg
        subst hv
        subst he
        have hal : Below w3.heap.size w3 (w3.alloc (.cells #[.int .i64 (gotI q2).lsn, .slice B3 n3 c3, .slice P3 m3 k3] 25)) := (Below.refl _ _).alloc (Nat.le_refl _) _
        have hbb : Below V2.heap.size V2 (w3.alloc (.cells #[.int .i64 (gotI q2).lsn, .slice B3 n3 c3, .slice P3 m3 k3] 25)) := held_two hb3 hal
        have hpz : V2.heap.size ≤ w3.heap.size := hb3.size
        replace HB := Lib.hid (held_two HB.out hbb)
        replace HIN := Lib.hid (HIN.out.below (hbb.mono HWR.out))
        replace HRA := Lib.hid (HRA.out.below (hbb.mono HWR.out))
        replace HI1 := Lib.hid (HI1.out.below (hbb.mono (Nat.le_of_lt HW1.out)))
        replace HZ1 := Lib.hid (HZ1.out.below hbb HW1.out)
        replace HI2 := Lib.hid (HI2.out.below (hbb.mono (Nat.le_of_lt HW2.out)))
        replace HZ2 := Lib.hid (HZ2.out.below hbb HW2.out)
        have HI3 := Lib.hid (hin3.below hal)
        have HZ3 : Hid (Blk (w3.alloc (.cells #[.int .i64 (gotI q2).lsn, .slice B3 n3 c3, .slice P3 m3 k3] 25)) w3.heap.size 25 #[.int .i64 (gotI q2).lsn, .slice B3 n3 c3, .slice P3 m3 k3]) := Blk.new _ _ _
        have HW3 : Hid (w3.heap.size < (w3.alloc (.cells #[.int .i64 (gotI q2).lsn, .slice B3 n3 c3, .slice P3 m3 k3] 25)).heap.size) := HZ3.out.lt
        replace HW1 : Hid (Z1 < (w3.alloc (.cells #[.int .i64 (gotI q2).lsn, .slice B3 n3 c3, .slice P3 m3 k3] 25)).heap.size) := Nat.lt_of_lt_of_le HW1.out hbb.size
        replace HW2 : Hid (Z2 < (w3.alloc (.cells #[.int .i64 (gotI q2).lsn, .slice B3 n3 c3, .slice P3 m3 k3] 25)).heap.size) := Nat.lt_of_lt_of_le HW2.out hbb.size
        replace HWR : Hid (wr.heap.size ≤ (w3.alloc (.cells #[.int .i64 (gotI q2).lsn, .slice B3 n3 c3, .slice P3 m3 k3] 25)).heap.size) := Nat.le_trans HWR.out hbb.size
        clear he3 hi3 hin3 hb3 hal hbb hpz
        go_wp2_with fail
        generalize (w3.alloc (.cells #[.int .i64 (gotI q2).lsn, .slice B3 n3 c3, .slice P3 m3 k3] 25)) = V3 at HIN HRA HB HWR HZ1 HZ2 HZ3 HI1 HI2 HI3 HW1 HW2 HW3 ⊢
        generalize w3.heap.size = Z3 at HZ3 HI3 HW3 ⊢
        refine (refjoin_any wr.heap.size A0 12 c0 (l.take 12) V3 HRA.out HWR.out (by omega)).mono ?_
        intro e w4 he4
        obtain ⟨v4, he, hi4, hb4⟩ := he4.at_
        rw [← HQ2.out] at he hi4
        obtain ⟨B4, n4, c4, P4, m4, k4, hv, hin4, _, _⟩ := hi4.agg
        subst hv
        subst he
        have hal : Below w4.heap.size w4 (w4.alloc (.cells #[.int .i64 (gotI q2).lsn, .slice B4 n4 c4, .slice P4 m4 k4] 25)) := (Below.refl _ _).alloc (Nat.le_refl _) _
        have hbb : Below V3.heap.size V3 (w4.alloc (.cells #[.int .i64 (gotI q2).lsn, .slice B4 n4 c4, .slice P4 m4 k4] 25)) := held_two hb4 hal
        have hpz : V3.heap.size ≤ w4.heap.size := hb4.size
        replace HB := Lib.hid (held_two HB.out hbb)
        replace HIN := Lib.hid (HIN.out.below (hbb.mono HWR.out))
        replace HRA := Lib.hid (HRA.out.below (hbb.mono HWR.out))
        replace HI1 := Lib.hid (HI1.out.below (hbb.mono (Nat.le_of_lt HW1.out)))
        replace HZ1 := Lib.hid (HZ1.out.below hbb HW1.out)
        replace HI2 := Lib.hid (HI2.out.below (hbb.mono (Nat.le_of_lt HW2.out)))
        replace HZ2 := Lib.hid (HZ2.out.below hbb HW2.out)
        replace HI3 := Lib.hid (HI3.out.below (hbb.mono (Nat.le_of_lt HW3.out)))
        replace HZ3 := Lib.hid (HZ3.out.below hbb HW3.out)
        have HI4 := Lib.hid (hin4.below hal)
        have HZ4 : Hid (Blk (w4.alloc (.cells #[.int .i64 (gotI q2).lsn, .slice B4 n4 c4, .slice P4 m4 k4] 25)) w4.heap.size 25 #[.int .i64 (gotI q2).lsn, .slice B4 n4 c4, .slice P4 m4 k4]) := Blk.new _ _ _
        have HW4 : Hid (w4.heap.size < (w4.alloc (.cells #[.int .i64 (gotI q2).lsn, .slice B4 n4 c4, .slice P4 m4 k4] 25)).heap.size) := HZ4.out.lt
        replace HW1 : Hid (Z1 < (w4.alloc (.cells #[.int .i64 (gotI q2).lsn, .slice B4 n4 c4, .slice P4 m4 k4] 25)).heap.size) := Nat.lt_of_lt_of_le HW1.out hbb.size
        replace HW2 : Hid (Z2 < (w4.alloc (.cells #[.int .i64 (gotI q2).lsn, .slice B4 n4 c4, .slice P4 m4 k4] 25)).heap.size) := Nat.lt_of_lt_of_le HW2.out hbb.size
        replace HW3 : Hid (Z3 < (w4.alloc (.cells #[.int .i64 (gotI q2).lsn, .slice B4 n4 c4, .slice P4 m4 k4] 25)).heap.size) := Nat.lt_of_lt_of_le HW3.out hbb.size
        replace HWR : Hid (wr.heap.size ≤ (w4.alloc (.cells #[.int .i64 (gotI q2).lsn, .slice B4 n4 c4, .slice P4 m4 k4] 25)).heap.size) := Nat.le_trans HWR.out hbb.size
        clear he4 hi4 hin4 hb4 hal hbb hpz
        go_wp2_with fail
        generalize (w4.alloc (.cells #[.int .i64 (gotI q2).lsn, .slice B4 n4 c4, .slice P4 m4 k4] 25)) = V4 at HIN HRA HB HWR HWR HZ1 HZ2 HZ3 HZ4 HI1 HI2 HI3 HI4 HW1 HW2 HW3 HW4 ⊢
        generalize w4.heap.size = Z4 at HZ4 HI4 HW4 ⊢
        have hw1 := HW1.out
        have hw2 := HW2.out
        have hw3 := HW3.out
        have hw4 := HW4.out
        generalize gotI q1 = r1 at HI1 HI2 HZ1 HZ2
        generalize gotI q2 = r2 at HI3 HI4 HZ3 HZ4
        generalize err q1 = e1
        generalize err q2 = e2
        clear HIN HRA HWR HW1 HW2 HW3 HW4
        refine (awake_any _).mono ?_
        rintro e w5 ⟨rfl, hb5⟩
        have hz5 := hb5.size
        replace HB := Lib.hid (held_two HB.out hb5)
        replace HI1 := Lib.hid (HI1.out.below (hb5.mono (by omega)))
        replace HZ1 := Lib.hid (HZ1.out.below hb5 hw1)
        replace HI2 := Lib.hid (HI2.out.below (hb5.mono (by omega)))
        replace HZ2 := Lib.hid (HZ2.out.below hb5 hw2)
        replace HI3 := Lib.hid (HI3.out.below (hb5.mono (by omega)))
        replace HZ3 := Lib.hid (HZ3.out.below hb5 hw3)
        replace HI4 := Lib.hid (HI4.out.below (hb5.mono (by omega)))
        replace HZ4 := Lib.hid (HZ4.out.below hb5 hw4)
        have x10 : w5.cell? ⟨Z1, 0, none⟩ = some (.int .i64 r1.lsn) := HZ1.out.cell 0
        have x11 : w5.cell? ⟨Z1, 1, none⟩ = some (.slice B1 n1 c1) := HZ1.out.cell 1
        have x12 : w5.cell? ⟨Z1, 2, none⟩ = some (.slice P1 m1 k1) := HZ1.out.cell 2
        have x20 : w5.cell? ⟨Z2, 0, none⟩ = some (.int .i64 r1.lsn) := HZ2.out.cell 0
        have x21 : w5.cell? ⟨Z2, 1, none⟩ = some (.slice B2 n2 c2) := HZ2.out.cell 1
        have x22 : w5.cell? ⟨Z2, 2, none⟩ = some (.slice P2 m2 k2) := HZ2.out.cell 2
        have x30 : w5.cell? ⟨Z3, 0, none⟩ = some (.int .i64 r2.lsn) := HZ3.out.cell 0
        have x31 : w5.cell? ⟨Z3, 1, none⟩ = some (.slice B3 n3 c3) := HZ3.out.cell 1
        have x32 : w5.cell? ⟨Z3, 2, none⟩ = some (.slice P3 m3 k3) := HZ3.out.cell 2
        have x40 : w5.cell? ⟨Z4, 0, none⟩ = some (.int .i64 r2.lsn) := HZ4.out.cell 0
        have x41 : w5.cell? ⟨Z4, 1, none⟩ = some (.slice B4 n4 c4) := HZ4.out.cell 1
        have x42 : w5.cell? ⟨Z4, 2, none⟩ = some (.slice P4 m4 k4) := HZ4.out.cell 2
        clear hb5
        go_wp2_with fail
        refine (itsame_any Z1 Z2 r1 _ _ w5 HI1.out HI2.out (by omega) (by omega)).mono ?_
        rintro e w6 ⟨rfl, hb6⟩
        have hz6 := hb6.size
        replace HB := Lib.hid (held_two HB.out hb6)
        clear x10 x11 x12 x20 x21 x22 x30 x31 x32 x40 x41 x42
        replace HI3 := Lib.hid (HI3.out.below (hb6.mono (by omega)))
        replace HZ3 := Lib.hid (HZ3.out.below hb6 (by omega))
        have x30 : w6.cell? ⟨Z3, 0, none⟩ = some (.int .i64 r2.lsn) := HZ3.out.cell 0
        have x31 : w6.cell? ⟨Z3, 1, none⟩ = some (.slice B3 n3 c3) := HZ3.out.cell 1
        have x32 : w6.cell? ⟨Z3, 2, none⟩ = some (.slice P3 m3 k3) := HZ3.out.cell 2
        replace HI4 := Lib.hid (HI4.out.below (hb6.mono (by omega)))
        replace HZ4 := Lib.hid (HZ4.out.below hb6 (by omega))
        have x40 : w6.cell? ⟨Z4, 0, none⟩ = some (.int .i64 r2.lsn) := HZ4.out.cell 0
        have x41 : w6.cell? ⟨Z4, 1, none⟩ = some (.slice B4 n4 c4) := HZ4.out.cell 1
        have x42 : w6.cell? ⟨Z4, 2, none⟩ = some (.slice P4 m4 k4) := HZ4.out.cell 2
        clear hb6
        go_wp2_with fail
        refine (itsame_any Z3 Z4 r2 _ _ w6 HI3.out HI4.out (by omega) (by omega)).mono ?_
        rintro e w7 ⟨rfl, hb7⟩
        replace HB := Lib.hid (held_two HB.out hb7)
        clear hb7
        go_wp2
        go_ret
        exact ⟨rfl, HB.out⟩
end Go.Proofs.Ytlkjmdkmcaaihaa.Bt
