/-
  Contract of package batch's Join: it answers what the plain mathematics says of the items.
-/
import Derived.Test.YtlkjmdkmcaaihaaBtJoin2
import Derived.Test.YtlkjmdkmcaaihaaBtDecode
namespace Go.Proofs.Ytlkjmdkmcaaihaa.Bt
set_option linter.unusedVariables false
set_option maxRecDepth 100000
open Go.RowKit Base FieldMath TxnMath BatchMath
open GuardMath (Gp noGp)
open Gd (Gps ov ov_append ov_one ov_length ocells oval oel)
open Go.Proofs.Ytlkjmdkmcaaihaa.Field (ret_bool empty_iff)
set_option linter.ambiguousOpen false
set_option linter.unusedSimpArgs false

theorem join_nil : join [] = .error 1 := rfl
theorem join_bad {l : List It} (h : allMay l = false) : join l = .error 1 := by
  unfold join
  rw [if_pos]
  simp [h]
theorem join_much {l : List It} (h : fits_ l = false) : join l = .error 1 := by
  unfold join
  rw [if_pos]
  unfold fits_ at h
  simp only [Bool.and_eq_false_iff, decide_eq_false_iff_not] at h
  simp only [Bool.or_eq_true, decide_eq_true_eq]
  omega
theorem join_fine {l : List It} (h0 : l ≠ []) (h1 : allMay l = true) (h2 : fits_ l = true) : join l = if rising 0 l then .ok ⟨lastLsn 0 l, allOps l, allNotes l⟩ else .error 10 := by
  unfold join
  rw [if_neg]
  unfold fits_ at h2
  simp only [Bool.and_eq_true, decide_eq_true_eq] at h2
  simp only [Bool.or_eq_true, decide_eq_true_eq, List.isEmpty_iff, h1]
  simp [h0]
  omega
set_option maxHeartbeats 3200000 in
theorem join_any (B : Nat) (A : Option Addr) (n c : Nat) (l : List It) (w : World) (h : Its w B A n c l) (hB : B ≤ w.heap.size) (hn : n ≤ 1000000) :
    Calls Try.prog 23 #[.slice A n c] w (ItO w (join l)) := by
  have hle := h.le
  have HL := Lib.hid h.len
  have HX0 : Hid (Blk (w.alloc (.cells itz 25)) w.heap.size 25 itz) := Blk.new _ _ _
  have HB0 : Hid (Below w.heap.size w (w.alloc (.cells itz 25))) := (Below.refl _ _).alloc (Nat.le_refl _) _
  have HR := Lib.hid (h.below (HB0.out.mono hB))
  clear h
  by_cases h0 : n = 0
  · subst h0
    obtain rfl : l = [] := List.eq_nil_of_length_eq_zero HL.out
    have q0 : (w.alloc (.cells itz 25)).cell? ⟨w.heap.size, 0, none⟩ = some (.int .i64 0) := HX0.out.cell 0
    have q1 : (w.alloc (.cells itz 25)).cell? ⟨w.heap.size, 1, none⟩ = some (.slice none 0 0) := HX0.out.cell 1
    have q2 : (w.alloc (.cells itz 25)).cell? ⟨w.heap.size, 2, none⟩ = some (.slice none 0 0) := HX0.out.cell 2
    have HB1 := HB0
    go_enter Try.func23, Try.ntmps23
    go_wp2
    refine bodyPost_ret (v := .tuple #[itv 0 none 0 0 none 0 0, .int .i64 1]) (by simp [itv, results, Try.results23, go_sem]) rfl ?_
    exact itO_no join_nil rfl HB1.out
  have hne : l ≠ [] := fun e => h0 (by rw [← HL.out, e]; rfl)
  have HNE := Lib.hid hne
  have e0 : ((n : Int) == 0) = false := by simpa using h0
  have hn1 : 1 ≤ n := by omega
  clear h0 hne
  have C1 := Lib.hid (mayall_any B A n c l _ HR.out (Nat.le_trans hB HB0.out.size))
  go_enter Try.func23, Try.ntmps23
  cases hm : allMay l with
  | false =>
    rw [hm] at C1
    have HE := Lib.hid (join_bad hm)
    clear hm
    go_wp2_with fail
    refine C1.out.mono ?_
    rintro e w1 ⟨rfl, hb1⟩
    have HX1 := Lib.hid (HX0.out.below hb1 HX0.out.lt)
    have HB1 := Lib.hid (held_two HB0.out hb1)
    have q0 : w1.cell? ⟨w.heap.size, 0, none⟩ = some (.int .i64 0) := HX1.out.cell 0
    have q1 : w1.cell? ⟨w.heap.size, 1, none⟩ = some (.slice none 0 0) := HX1.out.cell 1
    have q2 : w1.cell? ⟨w.heap.size, 2, none⟩ = some (.slice none 0 0) := HX1.out.cell 2
    have r0 := HX1.out.frozen 0
    have r1 := HX1.out.frozen 1
    have r2 := HX1.out.frozen 2
    clear hb1 C1 HX0 HB0
    go_wp2
    refine bodyPost_ret (v := .tuple #[itv 0 none 0 0 none 0 0, .int .i64 1]) (by simp [itv, results, Try.results23, go_sem, q0, q1, q2]) rfl ?_
    exact itO_no HE.out rfl (three_below HB1.out _ _ _)
  | true =>
    rw [hm] at C1
    have HM := Lib.hid hm
    clear hm
    go_wp2_with fail
    refine C1.out.mono ?_
    rintro e w1 ⟨rfl, hb1⟩
    have HX1 := Lib.hid (HX0.out.below hb1 HX0.out.lt)
    have HR1 := Lib.hid (HR.out.below (hb1.mono (Nat.le_trans hB HB0.out.size)))
    have HB1 := Lib.hid (held_two HB0.out hb1)
    have hB1 : B ≤ w1.heap.size := Nat.le_trans hB HB1.out.size
    clear hb1 C1 HX0 HB0 HR
    have C2 := Lib.hid (fit_any B A n c l w1 HR1.out hB1 (small_of HM.out) hn)
    cases hf : fits_ l with
    | false =>
      rw [hf] at C2
      have HE := Lib.hid (join_much hf)
      clear hf
      go_wp2_with fail
      refine C2.out.mono ?_
      rintro e w2 ⟨rfl, hb2⟩
      have HX2 := Lib.hid (HX1.out.below hb2 HX1.out.lt)
      have HB2 := Lib.hid (held_two HB1.out hb2)
      have q0 : w2.cell? ⟨w.heap.size, 0, none⟩ = some (.int .i64 0) := HX2.out.cell 0
      have q1 : w2.cell? ⟨w.heap.size, 1, none⟩ = some (.slice none 0 0) := HX2.out.cell 1
      have q2 : w2.cell? ⟨w.heap.size, 2, none⟩ = some (.slice none 0 0) := HX2.out.cell 2
      have r0 := HX2.out.frozen 0
      have r1 := HX2.out.frozen 1
      have r2 := HX2.out.frozen 2
      clear hb2 C2
      go_wp2
      refine bodyPost_ret (v := .tuple #[itv 0 none 0 0 none 0 0, .int .i64 1]) (by simp [itv, results, Try.results23, go_sem, q0, q1, q2]) rfl ?_
      exact itO_no HE.out rfl (three_below HB2.out _ _ _)
    | true =>
      rw [hf] at C2
      have HJ := Lib.hid (join_fine HNE.out HM.out hf)
      have HF := Lib.hid hf
      clear hf
      go_wp2_with fail
      refine C2.out.mono ?_
      rintro e w2 ⟨rfl, hb2⟩
      have HX2 := Lib.hid (HX1.out.below hb2 HX1.out.lt)
      have HR2 := Lib.hid (HR1.out.below (hb2.mono hB1))
      have HB2 := Lib.hid (held_two HB1.out hb2)
      have hB2 : B ≤ w2.heap.size := Nat.le_trans hB HB2.out.size
      clear hb2 C2 HX1 HB1 HR1
      have C3 := Lib.hid (rise_any B A n c l w2 HR2.out hB2 HM.out hn hn1)
      cases hr : rising 0 l with
      | false =>
        rw [hr] at C3
        rw [hr] at HJ
        clear hr
        go_wp2_with fail
        refine C3.out.mono ?_
        rintro e w3 ⟨rfl, hb3⟩
        have HX3 := Lib.hid (HX2.out.below hb3 HX2.out.lt)
        have HB3 := Lib.hid (held_two HB2.out hb3)
        have q0 : w3.cell? ⟨w.heap.size, 0, none⟩ = some (.int .i64 0) := HX3.out.cell 0
        have q1 : w3.cell? ⟨w.heap.size, 1, none⟩ = some (.slice none 0 0) := HX3.out.cell 1
        have q2 : w3.cell? ⟨w.heap.size, 2, none⟩ = some (.slice none 0 0) := HX3.out.cell 2
        have r0 := HX3.out.frozen 0
        have r1 := HX3.out.frozen 1
        have r2 := HX3.out.frozen 2
        clear hb3 C3
        go_wp2
        refine bodyPost_ret (v := .tuple #[itv 0 none 0 0 none 0 0, .int .i64 10]) (by simp [itv, results, Try.results23, go_sem, q0, q1, q2]) rfl ?_
        exact itO_no (k := 10) HJ.out rfl (three_below HB3.out _ _ _)
      | true =>
        rw [hr] at C3
        rw [hr, if_pos rfl] at HJ
        clear hr
        go_wp2_with fail
        refine C3.out.mono ?_
        rintro e w3 ⟨rfl, hb3⟩
        have HX3 := Lib.hid (HX2.out.below hb3 HX2.out.lt)
        have HR3 := Lib.hid (HR2.out.below (hb3.mono hB2))
        have HB3 := Lib.hid (held_two HB2.out hb3)
        have hB3 : B ≤ w3.heap.size := Nat.le_trans hB HB3.out.size
        have hl := HF.out
        unfold fits_ at hl
        simp only [Bool.and_eq_true, decide_eq_true_eq] at hl
        clear hb3 C3
        go_wp2_with fail
        refine (joined_any B A n c l w3 HR3.out hB3 hn1 hl.1 hl.2).mono ?_
        rintro e w4 ⟨A1, n1, c1, A2, n2, c2, rfl, ho, hb4⟩
        have HX4 := Lib.hid (HX3.out.below hb4 HX3.out.lt)
        have HB4 := Lib.hid (held_two HB3.out hb4)
        have HO := Lib.hid ho
        have hz : w.heap.size < w3.heap.size := HX3.out.lt
        have q0 : w4.cell? ⟨w.heap.size, 0, none⟩ = some (.int .i64 0) := HX4.out.cell 0
        have q1 : w4.cell? ⟨w.heap.size, 1, none⟩ = some (.slice none 0 0) := HX4.out.cell 1
        have q2 : w4.cell? ⟨w.heap.size, 2, none⟩ = some (.slice none 0 0) := HX4.out.cell 2
        have r0 := HX4.out.frozen 0
        have r1 := HX4.out.frozen 1
        have r2 := HX4.out.frozen 2
        clear hb4 ho hl
        generalize hx : (⟨lastLsn 0 l, allOps l, allNotes l⟩ : It) = x at HO HJ
        have HLX : Hid (lastLsn 0 l = x.lsn) := by show _ = _; rw [← hx]
        rw [HLX.out]
        clear hx
        unfold itv
        go_wp2
        have hon := three_on w4 w.heap.size (.int .i64 x.lsn) (.slice A1 n1 c1) (.slice A2 n2 c2)
        refine bodyPost_ret (v := .tuple #[itv x.lsn A1 n1 c1 A2 n2 c2, .int .i64 0]) (by simp [itv, results, Try.results23, go_sem, q0, q1, q2]) rfl ?_
        unfold ItO
        rw [HJ.out]
        exact ⟨A1, n1, c1, A2, n2, c2, rfl, ⟨own_mono (HO.out.1.kept hon (.inr fun e => by have := (HO.out.1.lt _ e).1; omega)) (by omega), own_mono (HO.out.2.kept hon (.inr fun e => by have := (HO.out.2.lt _ e).1; omega)) (by omega)⟩, three_below HB4.out _ _ _⟩
end Go.Proofs.Ytlkjmdkmcaaihaa.Bt
