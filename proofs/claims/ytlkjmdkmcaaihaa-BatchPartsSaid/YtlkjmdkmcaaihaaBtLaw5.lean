/-
  The walk of the statement BatchParts: it answers true, whatever the input, and writes nothing that was there.
-/
import Derived.Test.YtlkjmdkmcaaihaaBtSome
import Derived.Test.YtlkjmdkmcaaihaaBtRefHelp
import Derived.Test.YtlkjmdkmcaaihaaItRow
namespace Go.Proofs.Ytlkjmdkmcaaihaa.Bt
set_option linter.unusedVariables false
set_option maxRecDepth 100000
open Go.RowKit Base FieldMath TxnMath BatchMath
open GuardMath (Gp noGp)
open Gd (Gps ov ov_append ov_one oval oel oone)
open Go.Proofs.Ytlkjmdkmcaaihaa.Field (ret_bool modZ modZ_lt mod_any)
set_option linter.ambiguousOpen false
set_option linter.unusedSimpArgs false

theorem ItIn.parts {w : World} {B : Nat} {x : It} {A A' : Option Addr} {n c n' c' : Nat} (h : ItIn w B x (.agg #[.int .i64 x.lsn, .slice A n c, .slice A' n' c'])) : Gps w B A n c x.ops ∧ Nts w B A' n' c' x.notes := by
  obtain ⟨A1, n1, c1, A2, n2, c2, hv, h1, h2⟩ := h
  unfold itv at hv
  simp only [Value.agg.injEq, Array.mk.injEq, List.cons.injEq, Value.slice.injEq, true_and, and_true] at hv
  obtain ⟨⟨rfl, rfl, rfl⟩, rfl, rfl, rfl⟩ := hv
  exact ⟨h1, h2⟩
def PaRel (w : World) (m : Nat) (vin vlast vi : Value) (wr : World) : Prop := ∃ (k : Nat) (A : Option Addr) (c L : Nat) (ins : List It), k ≤ m ∧ k ≤ 12 ∧ vi = .int .i64 k ∧ vlast = .int .i64 (L : Int) ∧ vin = .slice A k c ∧ L ≤ 3 * k ∧ (L : Int) = lastLsn 0 ins ∧ Chain 0 ins ∧ ItRow wr w.heap.size A k c ins ∧ Below w.heap.size w wr
set_option maxHeartbeats 12800000 in
theorem parts_walk (A0 : Option Addr) (n0 c0 : Nat) (l : List It) (cut : Int) (w : World) (h : Its w w.heap.size A0 n0 c0 l) (hok : ∀ x ∈ l, ∀ o ∈ x.ops, o.val.size ≤ 9223372036854775807) :
    Calls Try.prog 7 #[.slice A0 n0 c0, .int .i64 cut] w fun e w' => e = .returned (.bool true) ∧ Below w.heap.size w w' := by
  have hle0 := h.le
  have HR := Lib.hid h
  have HOK := Lib.hid hok
  clear h hok
  go_enter Try.func7, Try.ntmps7
  go_wp2
  go_loopw [5, 6, 7] (fun vin vl vi wr => PaRel w n0 vin vl vi wr) (fun _ _ vi _ => n0 - (intOf vi).toNat)
  case atStart => exact ⟨0, none, 0, 0, [], by omega, by omega, rfl, rfl, rfl, by omega, rfl, trivial, ItRow.nil_ _ _, Below.refl _ _⟩
  case round =>
    obtain ⟨k, A, c, L, ins, hk, hk12, rfl, rfl, rfl, hL, hlast, hch, hrow, hbel⟩ := hrel
    have HB := Lib.hid hbel
    have HROW := Lib.hid hrow
    have HCH := Lib.hid hch
    have HLA := Lib.hid hlast
    have hbz := hbel.size
    clear hrow hbel hch hlast
    by_cases hgo : k < n0 ∧ k < 12
    · obtain ⟨hlt, hlt12⟩ := hgo
      obtain ⟨b, off, x, rfl, hbB, hget, _, hxat⟩ := (HR.out.below HB.out).at_ hlt
      obtain ⟨A1, n1, c1, A2, n2, c2, q0, q1, q2, hxin⟩ := itAt_in hxat
      have HG := Lib.hid (HOK.out x (List.mem_of_getElem? hget))
      have HX := Lib.hid hxin
      clear hget hxat hxin
      have l1 : (k : Int) < (n0 : Int) := by omega
      have l2 : (k : Int) < 12 := by omega
      go_wp2_with fail
      refine (some_any w.heap.size L (by omega) x _ wr HX.out HB.out.size HG.out).mono ?_
      rintro e w2 ⟨t, T1, tn, tc, U1, un, uc, rfl, hmade, hot, hb2⟩
      unfold itv
      have HRW2 := Lib.hid (HROW.out.new hb2)
      have HB2 := Lib.hid (held_two HB.out hb2)
      have HT2 := Lib.hid hot
      have HM2 := Lib.hid hmade
      clear hb2 hot hmade q0 q1 q2 HX HROW
      obtain ⟨vs, r1, r2, r3⟩ := HRW2.out
      have HXB : Hid (Blk (w2.alloc (.cells #[.int .i64 t.lsn, .slice T1 tn tc, .slice U1 un uc] 25)) w2.heap.size 25 #[.int .i64 t.lsn, .slice T1 tn tc, .slice U1 un uc]) := Blk.new _ _ _
      have HOW : Hid ((w2.alloc (.cells #[.int .i64 t.lsn, .slice T1 tn tc, .slice U1 un uc] 25)).ownsRow w.heap.size 25 3 (.slice A k c) k vs) := own_keep r1 ((Below.refl _ _).alloc (Nat.le_refl _) _)
      have HR3 := Lib.hid r3
      have HBV : Hid (Below w.heap.size w (w2.alloc (.cells #[.int .i64 t.lsn, .slice T1 tn tc, .slice U1 un uc] 25))) := HB2.out.alloc HB2.out.size _
      have HTV : Hid (ItOwn (w2.alloc (.cells #[.int .i64 t.lsn, .slice T1 tn tc, .slice U1 un uc] 25)) 0 t T1 tn tc U1 un uc) := (HT2.out.mono (Nat.zero_le _)).keep ((Below.refl _ _).alloc (Nat.le_refl _) _)
      have HIV : Hid (∀ (i : Nat) (y : It), ins[i]? = some y → InIt (w2.alloc (.cells #[.int .i64 t.lsn, .slice T1 tn tc, .slice U1 un uc] 25)) vs i y) := fun i y hy => (r3 i y hy).new ((Below.refl _ _).alloc (Nat.le_refl _) _)
      have HNE : Hid ((Value.slice A k c).ownBlock ≠ some w2.heap.size) := fun e => by have := (r1.lt _ e).2; omega
      have HLN := Lib.hid r2
      have hcap := (Row.of_own r1).le
      clear r1 r3 r2
      go_upto_region 8 with fail
      generalize (w2.alloc (.cells #[.int .i64 t.lsn, .slice T1 tn tc, .slice U1 un uc] 25)) = V at HXB HOW HBV HTV HIV
      generalize w2.heap.size = s5 at HXB HNE ⊢
      have HVZ : Hid (w.heap.size ≤ V.heap.size) := HBV.out.size
      have HH : Hid (∀ wx, Below w.heap.size V wx ∧ Blk wx s5 25 #[.int .i64 t.lsn, .slice T1 tn tc, .slice U1 un uc] → wx.cell? ⟨s5, 0, none⟩ = some (.int .i64 t.lsn) ∧ wx.cell? ⟨s5, 1, none⟩ = some (.slice T1 tn tc) ∧ wx.cell? ⟨s5, 2, none⟩ = some (.slice U1 un uc)) :=
        fun wx h => ⟨h.2.cell 0, h.2.cell 1, h.2.cell 2⟩
      have x0 : V.cell? ⟨s5, 0, none⟩ = some (.int .i64 t.lsn) := HXB.out.cell 0
      have x1 : V.cell? ⟨s5, 1, none⟩ = some (.slice T1 tn tc) := HXB.out.cell 1
      have x2 : V.cell? ⟨s5, 2, none⟩ = some (.slice U1 un uc) := HXB.out.cell 2
      go_wp2_with (first
        | (at_builtin
           refine wpList_append_row rfl (.tmp 36) (.tmp 38) rfl itel w.heap.size _ k vs rfl (own_keep HOW.out ((Below.refl _ _).alloc (Nat.le_refl _) _)) _ _ 1 1 (itcells t.lsn T1 tn tc U1 un uc) rfl (it_one V t.lsn T1 tn tc U1 un uc rfl) (itcells_one _ _ _ _ _ _ _) (by omega) (by omega) (by have := HVZ.out; simp; omega) ?_
           intro A9 c9 w9 hown9 hg9 hb9
           have HG9 : Hid (V.grownBy w9 (Value.slice A k c).ownBlock) := only_trans (only_alloc (World.grownBy.refl V _) (.cells #[.int .i64 t.lsn, .slice T1 tn tc, .slice U1 un uc] 25)) hg9.1 (.inl rfl)
           have HBQ : Hid (Below w.heap.size V w9) := ((Below.refl _ _).alloc HVZ.out _).trans hb9
           have HP := Lib.hid (ItRow.push HOW.out HLN.out HIV.out hown9 HG9.out HTV.out)
           clear hown9 hg9 hb9)
        | fail)
      go_roundw
      case rel => exact ⟨k + 1, A9, c9, t.lsn.toNat, ins ++ [t], by omega, by omega, by go_num, by rw [Int.toNat_of_nonneg (by have := HM2.out.low; omega)], rfl, by have := HM2.out.high; omega, by rw [lastLsn_snoc, Int.toNat_of_nonneg (by have := HM2.out.low; omega)], HCH.out.snoc (by rw [← HLA.out]; have := HM2.out.low; omega) (by rw [← HLA.out]; exact HM2.out.high) HM2.out.ops HM2.out.notes (HM2.out.may (by omega)), HP.out, HBV.out.trans HBQ.out⟩
      case measure => simp [intOf]; omega
    · have hin := HROW.out.its
      have hnc := hin.le
      have hlen := hin.len
      have HIN := Lib.hid hin
      clear hin HROW
      have hor : ¬ k < n0 ∨ (k < n0 ∧ ¬ k < 12) := by omega
      rcases hor with hz | ⟨hz1, hz2⟩
      · have l1 : ¬ (k : Int) < (n0 : Int) := by omega
        by_cases h2 : k < 2
        · have l3 : (k : Int) < 2 := by omega
          go_wp2_with fail
          refine (awake_any _).mono ?_
          rintro e w1 ⟨rfl, hb1⟩
          have HB1 := Lib.hid (held_two HB.out hb1)
          clear hb1
          go_wp2
          go_ret
          exact ⟨rfl, HB1.out⟩
        · have l3 : ¬ (k : Int) < 2 := by omega
          obtain ⟨m, hm⟩ : ∃ m, m = 1 + modZ cut (k - 1) := ⟨_, rfl⟩
          have hmm := modZ_lt cut (n := k - 1) (by omega)
          have W1 : IntKind.i64.wrap ((k : Int) - 1) = ((k - 1 : Nat) : Int) := by rw [IntWalk.i64_in _ (by omega)]; omega
          have N1 : (k : Int) - 1 = ((k - 1 : Nat) : Int) := by omega
          have W2 : IntKind.i64.wrap (1 + ((modZ cut (k - 1) : Nat) : Int)) = ((m : Nat) : Int) := by rw [IntWalk.i64_in _ (by omega), hm]; omega
          have N2 : 1 + ((modZ cut (k - 1) : Nat) : Int) = ((m : Nat) : Int) := by rw [hm]; omega
          have hmk : 1 ≤ m ∧ m < k := by omega
          have HMC := Lib.hid (fun w => mod_any cut (k - 1) w (by omega) (by omega))
          generalize modZ cut (k - 1) = q at hm hmm W2 N2 HMC
          have hJ := HCH.out.join (by intro e; rw [e] at hlen; simp at hlen; omega) (by omega)
          obtain ⟨xa, xb, hja, hjb, hjc⟩ := join_parts (l := ins.take m) (m := ins.drop m) (by intro e; have := congrArg List.length e; rw [List.length_take, hlen, List.length_nil] at this; omega) (by intro e; have := congrArg List.length e; rw [List.length_drop, hlen, List.length_nil] at this; omega) (by rw [List.take_append_drop]; exact hJ)
          generalize (⟨lastLsn 0 ins, allOps ins, allNotes ins⟩ : It) = r at hJ hjc
          have HJ := Lib.hid hJ
          have HJA := Lib.hid hja
          have HJB := Lib.hid hjb
          have HJC := Lib.hid hjc
          clear hJ hja hjb hjc hm hmm
          go_wp2_with fail
          refine (HMC.out _).mono ?_
          rintro e w1 ⟨rfl, rfl⟩
          go_wp2_with fail
          refine (join_any wr.heap.size A k c ins wr HIN.out (Nat.le_refl _) (by omega)).mono ?_
          intro e w2 he2
          obtain ⟨v2, he, hi2, hb2⟩ := he2.at_
          rw [HJ.out] at he hi2
          obtain ⟨A2, n2, c2, P2, m2, q2, hv, hin2, _, _⟩ := hi2.agg
          subst hv
          subst he
          rw [show gotI (.ok r : Except Nat It) = r from rfl, show ((err (Except.ok r : Except Nat It) : Nat) : Int) = 0 from rfl]
          rw [show gotI (.ok r : Except Nat It) = r from rfl] at hin2
          have HI2 := Lib.hid hin2
          have HB2 := Lib.hid (held_two HB.out hb2)
          have HIN2 := Lib.hid (HIN.out.below hb2)
          have HZ2 : Hid (Blk (w2.alloc (.cells #[.int .i64 r.lsn, .slice A2 n2 c2, .slice P2 m2 q2] 25)) w2.heap.size 25 #[.int .i64 r.lsn, .slice A2 n2 c2, .slice P2 m2 q2]) := Blk.new _ _ _
          have hz2 := hb2.size
          clear he2 hi2 hin2 hb2 HIN HCH
          go_wp2_with fail
          have hal : Below w2.heap.size w2 (w2.alloc (.cells #[.int .i64 r.lsn, .slice A2 n2 c2, .slice P2 m2 q2] 25)) := (Below.refl _ _).alloc (Nat.le_refl _) _
          have HIV := Lib.hid (HIN2.out.below (hal.mono hz2))
          have HRV := Lib.hid (HI2.out.below hal)
          have HBV := Lib.hid (held_two HB2.out hal)
          have hzv : wr.heap.size ≤ (w2.alloc (.cells #[.int .i64 r.lsn, .slice A2 n2 c2, .slice P2 m2 q2] 25)).heap.size := by simp; omega
          have hzw : w2.heap.size ≤ (w2.alloc (.cells #[.int .i64 r.lsn, .slice A2 n2 c2, .slice P2 m2 q2] 25)).heap.size := by simp
          clear hal HI2 HIN2
          generalize (w2.alloc (.cells #[.int .i64 r.lsn, .slice A2 n2 c2, .slice P2 m2 q2] 25)) = V2 at HZ2 HIV HRV HBV hzv hzw ⊢
          generalize w2.heap.size = Z2 at HZ2 HRV hzw hz2 ⊢
          refine (join_any wr.heap.size A m c (ins.take m) V2 (HIV.out.front (by omega)) hzv (by omega)).mono ?_
          intro e w3 he3
          obtain ⟨v3, he, hi3, hb3⟩ := he3.at_
          rw [HJA.out] at he hi3
          obtain ⟨A3, n3, c3, P3, m3, q3, hv, hin3, _, _⟩ := hi3.agg
          subst hv
          subst he
          rw [show gotI (.ok xa : Except Nat It) = xa from rfl, show ((err (Except.ok xa : Except Nat It) : Nat) : Int) = 0 from rfl]
          rw [show gotI (.ok xa : Except Nat It) = xa from rfl] at hin3
          have HB3 := Lib.hid (held_two HBV.out hb3)
          have HIN3 := Lib.hid (HIV.out.below (hb3.mono hzv))
          have HR3 := Lib.hid (HRV.out.below (hb3.mono hzw))
          have HZ3 := Lib.hid (HZ2.out.below hb3 HZ2.out.lt)
          have hz3 : wr.heap.size ≤ w3.heap.size := Nat.le_trans hzv hb3.size
          have hz23 : Z2 < w3.heap.size := HZ3.out.lt
          have HX3 : Hid (Blk (w3.alloc (.cells #[.int .i64 xa.lsn, .slice A3 n3 c3, .slice P3 m3 q3] 25)) w3.heap.size 25 #[.int .i64 xa.lsn, .slice A3 n3 c3, .slice P3 m3 q3]) := Blk.new _ _ _
          have hal : Below w3.heap.size w3 (w3.alloc (.cells #[.int .i64 xa.lsn, .slice A3 n3 c3, .slice P3 m3 q3] 25)) := (Below.refl _ _).alloc (Nat.le_refl _) _
          have HIW := Lib.hid (HIN3.out.below (hal.mono hz3))
          have HRW := Lib.hid (HR3.out.below (hal.mono (by omega)))
          have HZW := Lib.hid (HZ3.out.below hal hz23)
          have HAW := Lib.hid (hin3.below hal)
          have HBW := Lib.hid (held_two HB3.out hal)
          have hzw3 : w3.heap.size ≤ (w3.alloc (.cells #[.int .i64 xa.lsn, .slice A3 n3 c3, .slice P3 m3 q3] 25)).heap.size := by simp
          clear he3 hi3 hin3 hb3 hal HIV HRV HBV HZ2 HB2 HIN3 HR3 HZ3 HB3
          go_wp2_with fail
          generalize (w3.alloc (.cells #[.int .i64 xa.lsn, .slice A3 n3 c3, .slice P3 m3 q3] 25)) = V3 at HX3 HIW HRW HZW HAW HBW hzw3 ⊢
          generalize w3.heap.size = Z3 at HX3 HAW hzw3 hz3 hz23 ⊢
          have hct := HIW.out.cut (k := m) (by omega)
          rw [if_neg (by omega)] at hct
          have HCT := Lib.hid hct
          clear hct
          refine (join_any wr.heap.size _ (k - m) (c - m) (ins.drop m) V3 HCT.out (by omega) (by omega)).mono ?_
          intro e w4 he4
          obtain ⟨v4, he, hi4, hb4⟩ := he4.at_
          rw [HJB.out] at he hi4
          obtain ⟨A4, n4, c4, P4, m4, q4, hv, hin4, _, _⟩ := hi4.agg
          subst hv
          subst he
          rw [show gotI (.ok xb : Except Nat It) = xb from rfl, show ((err (Except.ok xb : Except Nat It) : Nat) : Int) = 0 from rfl]
          rw [show gotI (.ok xb : Except Nat It) = xb from rfl] at hin4
          have HB4 := Lib.hid (held_two HBW.out hb4)
          have HR4 := Lib.hid (HRW.out.below (hb4.mono (by omega)))
          have HA4 := Lib.hid (HAW.out.below (hb4.mono (by omega)))
          have HZ4 := Lib.hid (HZW.out.below hb4 HZW.out.lt)
          have HX4 := Lib.hid (HX3.out.below hb4 HX3.out.lt)
          have hz34 : Z3 < w4.heap.size := HX4.out.lt
          have HY4 : Hid (Blk (w4.alloc (.cells #[.int .i64 xb.lsn, .slice A4 n4 c4, .slice P4 m4 q4] 25)) w4.heap.size 25 #[.int .i64 xb.lsn, .slice A4 n4 c4, .slice P4 m4 q4]) := Blk.new _ _ _
          have hal : Below w4.heap.size w4 (w4.alloc (.cells #[.int .i64 xb.lsn, .slice A4 n4 c4, .slice P4 m4 q4] 25)) := (Below.refl _ _).alloc (Nat.le_refl _) _
          have HRU := Lib.hid (HR4.out.below (hal.mono (by omega)))
          have HAU := Lib.hid (HA4.out.below (hal.mono (by omega)))
          have HZU := Lib.hid (HZ4.out.below hal (by omega))
          have HXU := Lib.hid (HX4.out.below hal (by omega))
          have HBU := Lib.hid (held_two HB4.out hal)
          have HCU := Lib.hid (hin4.below hal)
          have hzw4 : w4.heap.size < (w4.alloc (.cells #[.int .i64 xb.lsn, .slice A4 n4 c4, .slice P4 m4 q4] 25)).heap.size := HY4.out.lt
          have x0 : w4.cell? ⟨Z3, 0, none⟩ = some (.int .i64 xa.lsn) := HX4.out.cell 0
          have x1 : w4.cell? ⟨Z3, 1, none⟩ = some (.slice A3 n3 c3) := HX4.out.cell 1
          have x2 : w4.cell? ⟨Z3, 2, none⟩ = some (.slice P3 m3 q3) := HX4.out.cell 2
          clear he4 hi4 hin4 hb4 hal HIW HRW HBW HCT HX3 HZW HAW HB4 HR4 HA4 HZ4 HX4
          have hsz : (w4.alloc (.cells #[.int .i64 xb.lsn, .slice A4 n4 c4, .slice P4 m4 q4] 25)).heap.size = w4.heap.size + 1 := by simp
          go_wp2_with fail
          generalize (w4.alloc (.cells #[.int .i64 xb.lsn, .slice A4 n4 c4, .slice P4 m4 q4] 25)) = V4 at HY4 HRU HAU HZU HXU HBU HCU hzw4 hsz ⊢
          have hl : Below V4.heap.size V4 (V4.alloc (.cells #[.int .i64 xa.lsn, .slice A3 n3 c3, .slice P3 m3 q3, .int .i64 xb.lsn, .slice A4 n4 c4, .slice P4 m4 q4] 25)) := (Below.refl _ _).alloc (Nat.le_refl _) _
          have HLB : Hid (Blk (V4.alloc (.cells #[.int .i64 xa.lsn, .slice A3 n3 c3, .slice P3 m3 q3, .int .i64 xb.lsn, .slice A4 n4 c4, .slice P4 m4 q4] 25)) V4.heap.size 25 #[.int .i64 xa.lsn, .slice A3 n3 c3, .slice P3 m3 q3, .int .i64 xb.lsn, .slice A4 n4 c4, .slice P4 m4 q4]) := Blk.new _ _ _
          have ha := (HAU.out.below (hl.mono (by omega))).parts
          have hc := (HCU.out.below (hl.mono (by omega))).parts
          have HITS := Lib.hid (its_two (B := V4.heap.size + 1) HLB.out (ha.1.more (by omega)) (ha.2.more (by omega)) (hc.1.more (by omega)) (hc.2.more (by omega)) (Nat.lt_succ_self _))
          have HRL := Lib.hid (HRU.out.below (hl.mono (by omega)))
          have HZL := Lib.hid (HZU.out.below hl (by omega))
          have HBL := Lib.hid (held_two HBU.out hl)
          clear ha hc hl HLB HRU HZU HBU HAU HCU HXU HY4 x0 x1 x2
          rw [← hsz]
          refine (join_any (V4.heap.size + 1) _ 2 2 [xa, xb] _ HITS.out (by simp) (by omega)).mono ?_
          intro e w5 he5
          obtain ⟨v5, he, hi5, hb5⟩ := he5.at_
          rw [HJC.out] at he hi5
          obtain ⟨A5, n5, c5, P5, m5, q5, hv, hin5, _, _⟩ := hi5.agg
          subst hv
          subst he
          rw [show gotI (.ok r : Except Nat It) = r from rfl, show ((err (Except.ok r : Except Nat It) : Nat) : Int) = 0 from rfl]
          rw [show gotI (.ok r : Except Nat It) = r from rfl] at hin5
          have hzz : (V4.alloc (.cells #[.int .i64 xa.lsn, .slice A3 n3 c3, .slice P3 m3 q3, .int .i64 xb.lsn, .slice A4 n4 c4, .slice P4 m4 q4] 25)).heap.size = V4.heap.size + 1 := by simp
          have HR5 := Lib.hid (HRL.out.below (hb5.mono (by omega)))
          have HZ5 := Lib.hid (HZL.out.below hb5 (by omega))
          have HB5 := Lib.hid (held_two HBL.out hb5)
          have HC5 := Lib.hid hin5
          have hz25 : Z2 < w5.heap.size := HZ5.out.lt
          have x0 : w5.cell? ⟨Z2, 0, none⟩ = some (.int .i64 r.lsn) := HZ5.out.cell 0
          have x1 : w5.cell? ⟨Z2, 1, none⟩ = some (.slice A2 n2 c2) := HZ5.out.cell 1
          have x2 : w5.cell? ⟨Z2, 2, none⟩ = some (.slice P2 m2 q2) := HZ5.out.cell 2
          clear he5 hi5 hin5 hb5 HITS HRL HZL HBL hzz hsz
          have hal : Below w5.heap.size w5 (w5.alloc (.cells #[.int .i64 r.lsn, .slice A5 n5 c5, .slice P5 m5 q5] 25)) := (Below.refl _ _).alloc (Nat.le_refl _) _
          have HD6 : Hid (Blk (w5.alloc (.cells #[.int .i64 r.lsn, .slice A5 n5 c5, .slice P5 m5 q5] 25)) w5.heap.size 25 #[.int .i64 r.lsn, .slice A5 n5 c5, .slice P5 m5 q5]) := Blk.new _ _ _
          have HR6 := Lib.hid (HR5.out.below (hal.mono (by omega)))
          have HC6 := Lib.hid (HC5.out.below hal)
          have HZ6 := Lib.hid (HZ5.out.below hal (by omega))
          have HB6 := Lib.hid (held_two HB5.out hal)
          have hz56 : w5.heap.size < (w5.alloc (.cells #[.int .i64 r.lsn, .slice A5 n5 c5, .slice P5 m5 q5] 25)).heap.size := HD6.out.lt
          clear hal x0 x1 x2 HR5 HC5 HZ5 HB5
          go_wp2_with fail
          generalize (w5.alloc (.cells #[.int .i64 r.lsn, .slice A5 n5 c5, .slice P5 m5 q5] 25)) = V5 at HD6 HR6 HC6 HZ6 HB6 hz56 ⊢
          generalize w5.heap.size = Z5 at HD6 HC6 hz25 hz56 ⊢
          refine (awake_any _).mono ?_
          rintro e w6 ⟨rfl, hb6⟩
          have HR7 := Lib.hid (HR6.out.below (hb6.mono (by omega)))
          have HC7 := Lib.hid (HC6.out.below (hb6.mono (by omega)))
          have HZ7 := Lib.hid (HZ6.out.below hb6 (by omega))
          have HD7 := Lib.hid (HD6.out.below hb6 (by omega))
          have HB7 := Lib.hid (held_two HB6.out hb6)
          have hz7 := hb6.size
          have x0 : w6.cell? ⟨Z2, 0, none⟩ = some (.int .i64 r.lsn) := HZ7.out.cell 0
          have x1 : w6.cell? ⟨Z2, 1, none⟩ = some (.slice A2 n2 c2) := HZ7.out.cell 1
          have x2 : w6.cell? ⟨Z2, 2, none⟩ = some (.slice P2 m2 q2) := HZ7.out.cell 2
          have y0 : w6.cell? ⟨Z5, 0, none⟩ = some (.int .i64 r.lsn) := HD7.out.cell 0
          have y1 : w6.cell? ⟨Z5, 1, none⟩ = some (.slice A5 n5 c5) := HD7.out.cell 1
          have y2 : w6.cell? ⟨Z5, 2, none⟩ = some (.slice P5 m5 q5) := HD7.out.cell 2
          clear hb6 HR6 HC6 HZ6 HD6 HB6
          go_wp2_with fail
          refine (itsame_any Z2 Z5 r _ _ w6 HR7.out HC7.out (by omega) (by omega)).mono ?_
          rintro e w7 ⟨rfl, hb7⟩
          have HB8 := Lib.hid (held_two HB7.out hb7)
          clear hb7
          go_wp2
          go_ret
          exact ⟨rfl, HB8.out⟩
      · have l1 : (k : Int) < (n0 : Int) := by omega
        have l2 : ¬ (k : Int) < 12 := by omega
        by_cases h2 : k < 2
        · have l3 : (k : Int) < 2 := by omega
          go_wp2_with fail
          refine (awake_any _).mono ?_
          rintro e w1 ⟨rfl, hb1⟩
          have HB1 := Lib.hid (held_two HB.out hb1)
          clear hb1
          go_wp2
          go_ret
          exact ⟨rfl, HB1.out⟩
        · have l3 : ¬ (k : Int) < 2 := by omega
          obtain ⟨m, hm⟩ : ∃ m, m = 1 + modZ cut (k - 1) := ⟨_, rfl⟩
          have hmm := modZ_lt cut (n := k - 1) (by omega)
          have W1 : IntKind.i64.wrap ((k : Int) - 1) = ((k - 1 : Nat) : Int) := by rw [IntWalk.i64_in _ (by omega)]; omega
          have N1 : (k : Int) - 1 = ((k - 1 : Nat) : Int) := by omega
          have W2 : IntKind.i64.wrap (1 + ((modZ cut (k - 1) : Nat) : Int)) = ((m : Nat) : Int) := by rw [IntWalk.i64_in _ (by omega), hm]; omega
          have N2 : 1 + ((modZ cut (k - 1) : Nat) : Int) = ((m : Nat) : Int) := by rw [hm]; omega
          have hmk : 1 ≤ m ∧ m < k := by omega
          have HMC := Lib.hid (fun w => mod_any cut (k - 1) w (by omega) (by omega))
          generalize modZ cut (k - 1) = q at hm hmm W2 N2 HMC
          have hJ := HCH.out.join (by intro e; rw [e] at hlen; simp at hlen; omega) (by omega)
          obtain ⟨xa, xb, hja, hjb, hjc⟩ := join_parts (l := ins.take m) (m := ins.drop m) (by intro e; have := congrArg List.length e; rw [List.length_take, hlen, List.length_nil] at this; omega) (by intro e; have := congrArg List.length e; rw [List.length_drop, hlen, List.length_nil] at this; omega) (by rw [List.take_append_drop]; exact hJ)
          generalize (⟨lastLsn 0 ins, allOps ins, allNotes ins⟩ : It) = r at hJ hjc
          have HJ := Lib.hid hJ
          have HJA := Lib.hid hja
          have HJB := Lib.hid hjb
          have HJC := Lib.hid hjc
          clear hJ hja hjb hjc hm hmm
          go_wp2_with fail
          refine (HMC.out _).mono ?_
          rintro e w1 ⟨rfl, rfl⟩
          go_wp2_with fail
          refine (join_any wr.heap.size A k c ins wr HIN.out (Nat.le_refl _) (by omega)).mono ?_
          intro e w2 he2
          obtain ⟨v2, he, hi2, hb2⟩ := he2.at_
          rw [HJ.out] at he hi2
          obtain ⟨A2, n2, c2, P2, m2, q2, hv, hin2, _, _⟩ := hi2.agg
          subst hv
          subst he
          rw [show gotI (.ok r : Except Nat It) = r from rfl, show ((err (Except.ok r : Except Nat It) : Nat) : Int) = 0 from rfl]
          rw [show gotI (.ok r : Except Nat It) = r from rfl] at hin2
          have HI2 := Lib.hid hin2
          have HB2 := Lib.hid (held_two HB.out hb2)
          have HIN2 := Lib.hid (HIN.out.below hb2)
          have HZ2 : Hid (Blk (w2.alloc (.cells #[.int .i64 r.lsn, .slice A2 n2 c2, .slice P2 m2 q2] 25)) w2.heap.size 25 #[.int .i64 r.lsn, .slice A2 n2 c2, .slice P2 m2 q2]) := Blk.new _ _ _
          have hz2 := hb2.size
          clear he2 hi2 hin2 hb2 HIN HCH
          go_wp2_with fail
          have hal : Below w2.heap.size w2 (w2.alloc (.cells #[.int .i64 r.lsn, .slice A2 n2 c2, .slice P2 m2 q2] 25)) := (Below.refl _ _).alloc (Nat.le_refl _) _
          have HIV := Lib.hid (HIN2.out.below (hal.mono hz2))
          have HRV := Lib.hid (HI2.out.below hal)
          have HBV := Lib.hid (held_two HB2.out hal)
          have hzv : wr.heap.size ≤ (w2.alloc (.cells #[.int .i64 r.lsn, .slice A2 n2 c2, .slice P2 m2 q2] 25)).heap.size := by simp; omega
          have hzw : w2.heap.size ≤ (w2.alloc (.cells #[.int .i64 r.lsn, .slice A2 n2 c2, .slice P2 m2 q2] 25)).heap.size := by simp
          clear hal HI2 HIN2
          generalize (w2.alloc (.cells #[.int .i64 r.lsn, .slice A2 n2 c2, .slice P2 m2 q2] 25)) = V2 at HZ2 HIV HRV HBV hzv hzw ⊢
          generalize w2.heap.size = Z2 at HZ2 HRV hzw hz2 ⊢
          refine (join_any wr.heap.size A m c (ins.take m) V2 (HIV.out.front (by omega)) hzv (by omega)).mono ?_
          intro e w3 he3
          obtain ⟨v3, he, hi3, hb3⟩ := he3.at_
          rw [HJA.out] at he hi3
          obtain ⟨A3, n3, c3, P3, m3, q3, hv, hin3, _, _⟩ := hi3.agg
          subst hv
          subst he
          rw [show gotI (.ok xa : Except Nat It) = xa from rfl, show ((err (Except.ok xa : Except Nat It) : Nat) : Int) = 0 from rfl]
          rw [show gotI (.ok xa : Except Nat It) = xa from rfl] at hin3
          have HB3 := Lib.hid (held_two HBV.out hb3)
          have HIN3 := Lib.hid (HIV.out.below (hb3.mono hzv))
          have HR3 := Lib.hid (HRV.out.below (hb3.mono hzw))
          have HZ3 := Lib.hid (HZ2.out.below hb3 HZ2.out.lt)
          have hz3 : wr.heap.size ≤ w3.heap.size := Nat.le_trans hzv hb3.size
          have hz23 : Z2 < w3.heap.size := HZ3.out.lt
          have HX3 : Hid (Blk (w3.alloc (.cells #[.int .i64 xa.lsn, .slice A3 n3 c3, .slice P3 m3 q3] 25)) w3.heap.size 25 #[.int .i64 xa.lsn, .slice A3 n3 c3, .slice P3 m3 q3]) := Blk.new _ _ _
          have hal : Below w3.heap.size w3 (w3.alloc (.cells #[.int .i64 xa.lsn, .slice A3 n3 c3, .slice P3 m3 q3] 25)) := (Below.refl _ _).alloc (Nat.le_refl _) _
          have HIW := Lib.hid (HIN3.out.below (hal.mono hz3))
          have HRW := Lib.hid (HR3.out.below (hal.mono (by omega)))
          have HZW := Lib.hid (HZ3.out.below hal hz23)
          have HAW := Lib.hid (hin3.below hal)
          have HBW := Lib.hid (held_two HB3.out hal)
          have hzw3 : w3.heap.size ≤ (w3.alloc (.cells #[.int .i64 xa.lsn, .slice A3 n3 c3, .slice P3 m3 q3] 25)).heap.size := by simp
          clear he3 hi3 hin3 hb3 hal HIV HRV HBV HZ2 HB2 HIN3 HR3 HZ3 HB3
          go_wp2_with fail
          generalize (w3.alloc (.cells #[.int .i64 xa.lsn, .slice A3 n3 c3, .slice P3 m3 q3] 25)) = V3 at HX3 HIW HRW HZW HAW HBW hzw3 ⊢
          generalize w3.heap.size = Z3 at HX3 HAW hzw3 hz3 hz23 ⊢
          have hct := HIW.out.cut (k := m) (by omega)
          rw [if_neg (by omega)] at hct
          have HCT := Lib.hid hct
          clear hct
          refine (join_any wr.heap.size _ (k - m) (c - m) (ins.drop m) V3 HCT.out (by omega) (by omega)).mono ?_
          intro e w4 he4
          obtain ⟨v4, he, hi4, hb4⟩ := he4.at_
          rw [HJB.out] at he hi4
          obtain ⟨A4, n4, c4, P4, m4, q4, hv, hin4, _, _⟩ := hi4.agg
          subst hv
          subst he
          rw [show gotI (.ok xb : Except Nat It) = xb from rfl, show ((err (Except.ok xb : Except Nat It) : Nat) : Int) = 0 from rfl]
          rw [show gotI (.ok xb : Except Nat It) = xb from rfl] at hin4
          have HB4 := Lib.hid (held_two HBW.out hb4)
          have HR4 := Lib.hid (HRW.out.below (hb4.mono (by omega)))
          have HA4 := Lib.hid (HAW.out.below (hb4.mono (by omega)))
          have HZ4 := Lib.hid (HZW.out.below hb4 HZW.out.lt)
          have HX4 := Lib.hid (HX3.out.below hb4 HX3.out.lt)
          have hz34 : Z3 < w4.heap.size := HX4.out.lt
          have HY4 : Hid (Blk (w4.alloc (.cells #[.int .i64 xb.lsn, .slice A4 n4 c4, .slice P4 m4 q4] 25)) w4.heap.size 25 #[.int .i64 xb.lsn, .slice A4 n4 c4, .slice P4 m4 q4]) := Blk.new _ _ _
          have hal : Below w4.heap.size w4 (w4.alloc (.cells #[.int .i64 xb.lsn, .slice A4 n4 c4, .slice P4 m4 q4] 25)) := (Below.refl _ _).alloc (Nat.le_refl _) _
          have HRU := Lib.hid (HR4.out.below (hal.mono (by omega)))
          have HAU := Lib.hid (HA4.out.below (hal.mono (by omega)))
          have HZU := Lib.hid (HZ4.out.below hal (by omega))
          have HXU := Lib.hid (HX4.out.below hal (by omega))
          have HBU := Lib.hid (held_two HB4.out hal)
          have HCU := Lib.hid (hin4.below hal)
          have hzw4 : w4.heap.size < (w4.alloc (.cells #[.int .i64 xb.lsn, .slice A4 n4 c4, .slice P4 m4 q4] 25)).heap.size := HY4.out.lt
          have x0 : w4.cell? ⟨Z3, 0, none⟩ = some (.int .i64 xa.lsn) := HX4.out.cell 0
          have x1 : w4.cell? ⟨Z3, 1, none⟩ = some (.slice A3 n3 c3) := HX4.out.cell 1
          have x2 : w4.cell? ⟨Z3, 2, none⟩ = some (.slice P3 m3 q3) := HX4.out.cell 2
          clear he4 hi4 hin4 hb4 hal HIW HRW HBW HCT HX3 HZW HAW HB4 HR4 HA4 HZ4 HX4
          have hsz : (w4.alloc (.cells #[.int .i64 xb.lsn, .slice A4 n4 c4, .slice P4 m4 q4] 25)).heap.size = w4.heap.size + 1 := by simp
          go_wp2_with fail
          generalize (w4.alloc (.cells #[.int .i64 xb.lsn, .slice A4 n4 c4, .slice P4 m4 q4] 25)) = V4 at HY4 HRU HAU HZU HXU HBU HCU hzw4 hsz ⊢
          have hl : Below V4.heap.size V4 (V4.alloc (.cells #[.int .i64 xa.lsn, .slice A3 n3 c3, .slice P3 m3 q3, .int .i64 xb.lsn, .slice A4 n4 c4, .slice P4 m4 q4] 25)) := (Below.refl _ _).alloc (Nat.le_refl _) _
          have HLB : Hid (Blk (V4.alloc (.cells #[.int .i64 xa.lsn, .slice A3 n3 c3, .slice P3 m3 q3, .int .i64 xb.lsn, .slice A4 n4 c4, .slice P4 m4 q4] 25)) V4.heap.size 25 #[.int .i64 xa.lsn, .slice A3 n3 c3, .slice P3 m3 q3, .int .i64 xb.lsn, .slice A4 n4 c4, .slice P4 m4 q4]) := Blk.new _ _ _
          have ha := (HAU.out.below (hl.mono (by omega))).parts
          have hc := (HCU.out.below (hl.mono (by omega))).parts
          have HITS := Lib.hid (its_two (B := V4.heap.size + 1) HLB.out (ha.1.more (by omega)) (ha.2.more (by omega)) (hc.1.more (by omega)) (hc.2.more (by omega)) (Nat.lt_succ_self _))
          have HRL := Lib.hid (HRU.out.below (hl.mono (by omega)))
          have HZL := Lib.hid (HZU.out.below hl (by omega))
          have HBL := Lib.hid (held_two HBU.out hl)
          clear ha hc hl HLB HRU HZU HBU HAU HCU HXU HY4 x0 x1 x2
          rw [← hsz]
          refine (join_any (V4.heap.size + 1) _ 2 2 [xa, xb] _ HITS.out (by simp) (by omega)).mono ?_
          intro e w5 he5
          obtain ⟨v5, he, hi5, hb5⟩ := he5.at_
          rw [HJC.out] at he hi5
          obtain ⟨A5, n5, c5, P5, m5, q5, hv, hin5, _, _⟩ := hi5.agg
          subst hv
          subst he
          rw [show gotI (.ok r : Except Nat It) = r from rfl, show ((err (Except.ok r : Except Nat It) : Nat) : Int) = 0 from rfl]
          rw [show gotI (.ok r : Except Nat It) = r from rfl] at hin5
          have hzz : (V4.alloc (.cells #[.int .i64 xa.lsn, .slice A3 n3 c3, .slice P3 m3 q3, .int .i64 xb.lsn, .slice A4 n4 c4, .slice P4 m4 q4] 25)).heap.size = V4.heap.size + 1 := by simp
          have HR5 := Lib.hid (HRL.out.below (hb5.mono (by omega)))
          have HZ5 := Lib.hid (HZL.out.below hb5 (by omega))
          have HB5 := Lib.hid (held_two HBL.out hb5)
          have HC5 := Lib.hid hin5
          have hz25 : Z2 < w5.heap.size := HZ5.out.lt
          have x0 : w5.cell? ⟨Z2, 0, none⟩ = some (.int .i64 r.lsn) := HZ5.out.cell 0
          have x1 : w5.cell? ⟨Z2, 1, none⟩ = some (.slice A2 n2 c2) := HZ5.out.cell 1
          have x2 : w5.cell? ⟨Z2, 2, none⟩ = some (.slice P2 m2 q2) := HZ5.out.cell 2
          clear he5 hi5 hin5 hb5 HITS HRL HZL HBL hzz hsz
          have hal : Below w5.heap.size w5 (w5.alloc (.cells #[.int .i64 r.lsn, .slice A5 n5 c5, .slice P5 m5 q5] 25)) := (Below.refl _ _).alloc (Nat.le_refl _) _
          have HD6 : Hid (Blk (w5.alloc (.cells #[.int .i64 r.lsn, .slice A5 n5 c5, .slice P5 m5 q5] 25)) w5.heap.size 25 #[.int .i64 r.lsn, .slice A5 n5 c5, .slice P5 m5 q5]) := Blk.new _ _ _
          have HR6 := Lib.hid (HR5.out.below (hal.mono (by omega)))
          have HC6 := Lib.hid (HC5.out.below hal)
          have HZ6 := Lib.hid (HZ5.out.below hal (by omega))
          have HB6 := Lib.hid (held_two HB5.out hal)
          have hz56 : w5.heap.size < (w5.alloc (.cells #[.int .i64 r.lsn, .slice A5 n5 c5, .slice P5 m5 q5] 25)).heap.size := HD6.out.lt
          clear hal x0 x1 x2 HR5 HC5 HZ5 HB5
          go_wp2_with fail
          generalize (w5.alloc (.cells #[.int .i64 r.lsn, .slice A5 n5 c5, .slice P5 m5 q5] 25)) = V5 at HD6 HR6 HC6 HZ6 HB6 hz56 ⊢
          generalize w5.heap.size = Z5 at HD6 HC6 hz25 hz56 ⊢
          refine (awake_any _).mono ?_
          rintro e w6 ⟨rfl, hb6⟩
          have HR7 := Lib.hid (HR6.out.below (hb6.mono (by omega)))
          have HC7 := Lib.hid (HC6.out.below (hb6.mono (by omega)))
          have HZ7 := Lib.hid (HZ6.out.below hb6 (by omega))
          have HD7 := Lib.hid (HD6.out.below hb6 (by omega))
          have HB7 := Lib.hid (held_two HB6.out hb6)
          have hz7 := hb6.size
          have x0 : w6.cell? ⟨Z2, 0, none⟩ = some (.int .i64 r.lsn) := HZ7.out.cell 0
          have x1 : w6.cell? ⟨Z2, 1, none⟩ = some (.slice A2 n2 c2) := HZ7.out.cell 1
          have x2 : w6.cell? ⟨Z2, 2, none⟩ = some (.slice P2 m2 q2) := HZ7.out.cell 2
          have y0 : w6.cell? ⟨Z5, 0, none⟩ = some (.int .i64 r.lsn) := HD7.out.cell 0
          have y1 : w6.cell? ⟨Z5, 1, none⟩ = some (.slice A5 n5 c5) := HD7.out.cell 1
          have y2 : w6.cell? ⟨Z5, 2, none⟩ = some (.slice P5 m5 q5) := HD7.out.cell 2
          clear hb6 HR6 HC6 HZ6 HD6 HB6
          go_wp2_with fail
          refine (itsame_any Z2 Z5 r _ _ w6 HR7.out HC7.out (by omega) (by omega)).mono ?_
          rintro e w7 ⟨rfl, hb7⟩
          have HB8 := Lib.hid (held_two HB7.out hb7)
          clear hb7
          go_wp2
          go_ret
          exact ⟨rfl, HB8.out⟩
end Go.Proofs.Ytlkjmdkmcaaihaa.Bt
