/-
  Contract of package batch's Decode: it answers what the plain mathematics says of the bytes.
-/
import Derived.Test.YtlkjmdkmcaaihaaBtItem
import Derived.Test.YtlkjmdkmcaaihaaBtMay
namespace Go.Proofs.Ytlkjmdkmcaaihaa.Bt
set_option linter.unusedVariables false
set_option maxRecDepth 100000
open Go.RowKit Base FieldMath TxnMath BatchMath
open GuardMath (Gp noGp)
open Gd (Gps ov ov_append ov_one ov_length ocells oval oel oone)
open Txn (Rd open_any done_any Opened dec_why isEnd Blk.kept)
open Go.Proofs.Ytlkjmdkmcaaihaa.Field (fv fv_append fv_one fv_length fv_get fv_take Flds ef ret_bool empty_iff Decoded)
set_option linter.ambiguousOpen false
set_option linter.unusedSimpArgs false

theorem decI_err {l : List UInt8} {k : Nat} (h : dec l = .error k) : decI l = .error k := by unfold decI; rw [h]
theorem decI_none {hl hk : Option Int} {nb : NB} {stop : Bool} (h1 : Wide hl) (h2 : Wide hk) (hb : nb.Good) {l : List UInt8} {fs : List Fld} (h : dec l = .ok fs) (hx : decF hl hk nb stop fs = none) : decI l = .error 3 := by rw [decI_any stop h1 h2 hb, h]; dsimp only; rw [hx]
theorem decI_some {hl hk : Option Int} {nb : NB} {stop : Bool} (h1 : Wide hl) (h2 : Wide hk) (hb : nb.Good) {l : List UInt8} {fs : List Fld} {x : It} (h : dec l = .ok fs) (hx : decF hl hk nb stop fs = some x) : decI l = .ok x := by rw [decI_any stop h1 h2 hb, h]; dsimp only; rw [hx]
theorem decF_off {hl hk : Option Int} {nb : NB} {stop : Bool} {fs : List Fld} (h : (rdI hl hk nb stop (some fs)).2 ≠ some []) : decF hl hk nb stop fs = none := by
  unfold decF
  rw [if_neg]
  unfold isI
  generalize (rdI hl hk nb stop (some fs)).2 = s at h
  match s with
  | none => simp
  | some [] => exact absurd rfl h
  | some (f :: r) => simp
theorem decF_bad {hl hk : Option Int} {nb : NB} {stop : Bool} {fs : List Fld} (h : may (rdI hl hk nb stop (some fs)).1 = false) : decF hl hk nb stop fs = none := by
  unfold decF
  rw [if_neg]
  unfold isI
  rw [h, Bool.and_false]
  simp
theorem decF_good {hl hk : Option Int} {nb : NB} {stop : Bool} {fs : List Fld} (h : (rdI hl hk nb stop (some fs)).2 = some []) (h1 : may (rdI hl hk nb stop (some fs)).1 = true) : decF hl hk nb stop fs = some (rdI hl hk nb stop (some fs)).1 := by
  unfold decF
  rw [if_pos]
  unfold isI
  rw [h, h1]
  rfl
theorem isEnd_some {s : Rs} (h : isEnd s = true) : s = some [] := by
  unfold isEnd at h
  split at h
  · rfl
  · cases h
theorem isEnd_not {s : Rs} (h : isEnd s = false) : s ≠ some [] := by
  rintro rfl
  cases h
theorem three_below {w W : World} (h : Below w.heap.size w W) (v0 v1 v2 : Value) : Below w.heap.size w (((W.setCell ⟨w.heap.size, 0, none⟩ v0).setCell ⟨w.heap.size, 1, none⟩ v1).setCell ⟨w.heap.size, 2, none⟩ v2) :=
  ((h.setCell (by exact Nat.le_refl _) v0).setCell (by exact Nat.le_refl _) v1).setCell (by exact Nat.le_refl _) v2
set_option maxHeartbeats 3200000 in
theorem decode_any (B : Nat) (A : Option Addr) (n c : Nat) (l : List UInt8) (w : World) (hr : Bytes w B A n c l) (hB : B ≤ w.heap.size) :
    Calls Try.prog 19 #[.slice A n c] w (ItO w (decI l)) := by
  have HR := Lib.hid hr
  clear hr
  have HX0 : Hid (Blk (w.alloc (.cells itz 25)) w.heap.size 25 itz) := Blk.new _ _ _
  have HB0 : Hid (Below w.heap.size w (w.alloc (.cells itz 25))) := (Below.refl _ _).alloc (Nat.le_refl _) _
  go_enter Try.func19, Try.ntmps19
  go_wp2_with fail
  refine (open_any B A n c l _ (HR.out.alloc hB _) (by simp; omega)).mono ?_
  intro e w1 h1
  unfold Opened at h1
  cases hd : dec l with
  | error k =>
    rw [hd] at h1
    obtain ⟨rfl, hb1⟩ := h1
    have HX1 := Lib.hid (HX0.out.below hb1 HX0.out.lt)
    have HB1 := Lib.hid (held_two HB0.out hb1)
    have q0 : w1.cell? ⟨w.heap.size, 0, none⟩ = some (.int .i64 0) := HX1.out.cell 0
    have q1 : w1.cell? ⟨w.heap.size, 1, none⟩ = some (.slice none 0 0) := HX1.out.cell 1
    have q2 : w1.cell? ⟨w.heap.size, 2, none⟩ = some (.slice none 0 0) := HX1.out.cell 2
    have r0 := HX1.out.frozen 0
    have r1 := HX1.out.frozen 1
    have r2 := HX1.out.frozen 2
    have hk0 : k ≠ 0 := by have := dec_why hd; omega
    have hk1 : ((k : Int) != 0) = true := by simp; omega
    have HD := Lib.hid (decI_err hd)
    clear hd hk0 hb1 HX0 HB0
    go_wp2
    refine bodyPost_ret (v := .tuple #[itv 0 none 0 0 none 0 0, .int .i64 k]) (by simp [itv, results, Try.results19, go_sem, q0, q1, q2]) rfl ?_
    exact itO_no HD.out rfl (three_below HB1.out _ _ _)
  | ok fs =>
    rw [hd] at h1
    obtain ⟨g, rfl, hge, hrd1, hb1⟩ := h1
    have HX1 := Lib.hid (HX0.out.below hb1 HX0.out.lt)
    have HB1 := Lib.hid (held_two HB0.out hb1)
    have HD := Lib.hid hd
    have hgl := hrd1.lt
    have hge2 : w.heap.size < g := by have : w.heap.size + 1 ≤ g := by simpa using hge
                                      omega
    have HRD1 := Lib.hid hrd1
    have hz1 : w.heap.size < w1.heap.size := HX1.out.lt
    clear hd hb1 hge hrd1 HX0 HB0
    go_wp2_with fail
    have HW2 : Hid (Rd (w1.alloc (.cells #[.pointer (some ⟨g, 0, none⟩)] 74)) g g (some fs)) := HRD1.out.alloc _
    refine (item_any g g (some fs) _ HW2.out).mono ?_
    rintro e w3 ⟨A2, n2, c2, A3, n3, c3, he, ⟨hoc, hos⟩, hrd, hg3⟩
    generalize hq : rdI none none codeB false (some fs) = q at he hoc hos hrd
    have HQ := Lib.hid hq
    clear hq
    unfold itv at he
    subst he
    have hx3 : Blk w3 w.heap.size 25 itz := Blk.kept (HX1.out.alloc _) hg3 (by omega)
    have HX3 := Lib.hid hx3
    have HP3 : Hid (Blk w3 w1.heap.size 74 #[.pointer (some ⟨g, 0, none⟩)]) := Blk.kept (Blk.new w1 _ _) hg3 (by omega)
    have hp0 : w3.cell? ⟨w1.heap.size, 0, none⟩ = some (.pointer (some ⟨g, 0, none⟩)) := HP3.out.cell 0
    have HB3 : Hid (Below w.heap.size w w3) := (HB1.out.alloc (by omega) _).grown hg3 (by simp; omega) (fun x hx => by injection hx; omega)
    have HOC := Lib.hid hoc
    have HOS := Lib.hid hos
    have HRD := Lib.hid hrd
    have hpl : w1.heap.size < w3.heap.size := HP3.out.lt
    have hR3 : w.heap.size < w3.heap.size := hx3.lt
    clear hg3 hoc hos hrd HX1 hx3 HW2 HRD1
    have qb0 : w3.cell? ⟨w.heap.size, 0, none⟩ = some (.int .i64 0) := HX3.out.cell 0
    have qb1 : w3.cell? ⟨w.heap.size, 1, none⟩ = some (.slice none 0 0) := HX3.out.cell 1
    have qb2 : w3.cell? ⟨w.heap.size, 2, none⟩ = some (.slice none 0 0) := HX3.out.cell 2
    have rb0 := HX3.out.frozen 0
    have rb1 := HX3.out.frozen 1
    have rb2 := HX3.out.frozen 2
    cases hend : isEnd q.2 with
    | false =>
      have HE := Lib.hid (decI_none wide_none wide_none codeB_good HD.out (decF_off (by rw [HQ.out]; exact isEnd_not hend)))
      have HEND := Lib.hid hend
      clear hend
      go_wp2_with fail
      refine (done_any g g q.2 _ (HRD.out.alloc _)).mono ?_
      rintro e w4 ⟨rfl, rfl⟩
      rw [HEND.out]
      go_wp2
      refine bodyPost_ret (v := .tuple #[itv 0 none 0 0 none 0 0, .int .i64 3]) (by simp [itv, results, Try.results19, go_sem, hR3, qb0, qb1, qb2]) rfl ?_
      exact itO_no HE.out rfl ((three_below HB3.out _ _ _).alloc (by simpa using HB3.out.size) _)
    | true =>
      have HEN := Lib.hid (isEnd_some hend)
      have HEND := Lib.hid hend
      clear hend
      go_wp2_with fail
      refine (done_any g g q.2 _ (HRD.out.alloc _)).mono ?_
      rintro e w4 ⟨rfl, rfl⟩
      rw [HEND.out]
      go_wp2_with fail
      refine (may_any w3.heap.size q.1.lsn A2 n2 c2 q.1.ops A3 n3 c3 q.1.notes _ (Row.alloc (Row.of_own HOC.out) (Nat.le_refl _) _) (Row.alloc (Row.of_own HOS.out) (Nat.le_refl _) _) (by simp)).mono ?_
      rintro e w5 ⟨rfl, hb5⟩
      have HX5 := Lib.hid ((HX3.out.alloc _).below hb5 (by simp; omega))
      have HB5 := Lib.hid (held_two (HB3.out.alloc HB3.out.size _) hb5)
      have HOC5 := Lib.hid (own_keep (own_keep HOC.out ((Below.refl _ _).alloc (Nat.le_refl _) _)) hb5)
      have HOS5 := Lib.hid (own_keep (own_keep HOS.out ((Below.refl _ _).alloc (Nat.le_refl _) _)) hb5)
      have hbx : Blk w5 w3.heap.size 25 #[.int .i64 q.1.lsn, .slice A2 n2 c2, .slice A3 n3 c3] := (Blk.new w3 _ _).below hb5 (by simp)
      have t0 : w5.cell? ⟨w3.heap.size, 0, none⟩ = some (.int .i64 q.1.lsn) := hbx.cell 0
      have t1 : w5.cell? ⟨w3.heap.size, 1, none⟩ = some (.slice A2 n2 c2) := hbx.cell 1
      have t2 : w5.cell? ⟨w3.heap.size, 2, none⟩ = some (.slice A3 n3 c3) := hbx.cell 2
      clear hb5 hbx qb0 qb1 qb2 rb0 rb1 rb2
      have qc0 : w5.cell? ⟨w.heap.size, 0, none⟩ = some (.int .i64 0) := HX5.out.cell 0
      have qc1 : w5.cell? ⟨w.heap.size, 1, none⟩ = some (.slice none 0 0) := HX5.out.cell 1
      have qc2 : w5.cell? ⟨w.heap.size, 2, none⟩ = some (.slice none 0 0) := HX5.out.cell 2
      have rc0 := HX5.out.frozen 0
      have rc1 := HX5.out.frozen 1
      have rc2 := HX5.out.frozen 2
      have hq1 : (⟨q.1.lsn, q.1.ops, q.1.notes⟩ : It) = q.1 := rfl
      rw [hq1]
      clear hq1
      cases hm : may q.1 with
      | true =>
        have HE := Lib.hid (decI_some wide_none wide_none codeB_good HD.out (decF_good (by rw [HQ.out, HEN.out]) (by rw [HQ.out]; exact hm)))
        rw [HQ.out] at HE
        clear hm
        go_wp2
        have hon := three_on w5 w.heap.size (.int .i64 q.1.lsn) (.slice A2 n2 c2) (.slice A3 n3 c3)
        refine bodyPost_ret (v := .tuple #[itv q.1.lsn A2 n2 c2 A3 n3 c3, .int .i64 0]) (by simp [itv, results, Try.results19, go_sem, qc0, qc1, qc2]) rfl ?_
        unfold ItO
        rw [HE.out]
        refine ⟨A2, n2, c2, A3, n3, c3, rfl, ⟨own_mono (HOC5.out.kept hon (.inr fun e => by have := (HOC5.out.lt _ e).1; simp at this; omega)) (by simp; omega), own_mono (HOS5.out.kept hon (.inr fun e => by have := (HOS5.out.lt _ e).1; simp at this; omega)) (by simp; omega)⟩, three_below HB5.out _ _ _⟩
      | false =>
        have HE := Lib.hid (decI_none wide_none wide_none codeB_good HD.out (decF_bad (by rw [HQ.out]; exact hm)))
        clear hm
        go_wp2
        refine bodyPost_ret (v := .tuple #[itv 0 none 0 0 none 0 0, .int .i64 3]) (by simp [itv, results, Try.results19, go_sem, qc0, qc1, qc2]) rfl ?_
        exact itO_no HE.out rfl (three_below HB5.out _ _ _)
end Go.Proofs.Ytlkjmdkmcaaihaa.Bt
