/-
  Contracts of the document's MayNote and MayItem.
-/
import Derived.Test.YtlkjmdkmcaaihaaBtMay
import Derived.Test.YtlkjmdkmcaaihaaTxnRefMayCh
import Derived.Deep.RegionHeld3
namespace Go.Proofs.Ytlkjmdkmcaaihaa.Bt
set_option linter.unusedVariables false
set_option maxRecDepth 100000
open Go.RowKit Base FieldMath TxnMath BatchMath
open GuardMath (Gp noGp)
open Gd (Gps ov ov_append ov_one ov_length ocells oval oel)
open Txn (all_take all_not take_all refmaychange_gr)
open Go.Proofs.Ytlkjmdkmcaaihaa.Field (ret_bool empty_iff)
set_option linter.ambiguousOpen false
set_option linter.unusedSimpArgs false

set_option maxHeartbeats 6400000 in
theorem refmaynote_gr (x : Nt) (L : Int) (hL : L ≤ 1099511627776) (w : World) :
    Calls Try.prog 34 #[ntval x, .int .i64 L] w fun e w' => e = .returned (.bool (ntMay L x)) ∧ Gr w w' := by
  obtain ⟨k, i, t, wt, a, c, d⟩ := x
  unfold ntval
  dsimp only
  have HW : Hid (Gr w (w.alloc (.cells #[.int .i64 k, .int .i64 i, .int .i64 t, .int .i64 wt, .int .i64 a, .int .i64 c, .bool d] 27))) := (Gr.refl _).alloc _
  by_cases h1 : i < 1
  · have HE := Lib.hid (nt_id (L := L) (n := ⟨k, i, t, wt, a, c, d⟩) (.inl h1))
    go_enter Try.func34, Try.ntmps34
    go_wp2
    go_ret
    exact ⟨ret_bool (a := false) HE.out.symm, HW.out⟩
  by_cases h2 : 64 < i
  · have HE := Lib.hid (nt_id (L := L) (n := ⟨k, i, t, wt, a, c, d⟩) (.inr h2))
    go_enter Try.func34, Try.ntmps34
    go_wp2
    go_ret
    exact ⟨ret_bool (a := false) HE.out.symm, HW.out⟩
  by_cases k1 : k = 1
  · subst k1
    clear HW
    go_enter Try.func34, Try.ntmps34
    go_wp2
    all_goals (
      go_ret
      refine ⟨ret_bool ?_, (Gr.refl _).alloc _⟩
      rw [nt_accept hL (by omega) (by omega)]
      unfold reqMay
      cases d
      all_goals
        first
          | (simp [*]; done)
          | (simp [*]; omega))
  by_cases k2 : k = 2
  · subst k2
    clear k1 HW
    go_enter Try.func34, Try.ntmps34
    go_wp2
    all_goals (
      go_ret
      refine ⟨ret_bool ?_, (Gr.refl _).alloc _⟩
      rw [nt_chunk (by omega) (by omega)]
      first
        | (simp [*]; done)
        | (simp [*]; omega))
  · have HE := Lib.hid (nt_kind (L := L) (n := ⟨k, i, t, wt, a, c, d⟩) k1 k2)
    have k1' : (k == 1) = false := by simpa using k1
    have k2' : (k == 2) = false := by simpa using k2
    clear k1 k2
    go_enter Try.func34, Try.ntmps34
    go_wp2
    go_ret
    exact ⟨ret_bool (a := false) HE.out.symm, HW.out⟩
theorem op_low {L : Int} {o : Gp} (h : o.lsn < 1 ∨ L < o.lsn) : opMay L o = false := by
  unfold opMay
  rcases h with h | h
  · rw [decide_eq_false (by omega), Bool.false_and]
  · rw [decide_eq_false (p := o.lsn ≤ L) (by omega), Bool.false_and, Bool.and_false]
theorem op_ch {L a b t k : Int} {g : Bool} {v : ByteArray} (h1 : 1 ≤ a) (h2 : a ≤ L) : opMay L ⟨a, t, k, g, v⟩ = Ch.may 8 ⟨t, k, g, v⟩ := by
  unfold opMay
  dsimp only
  rw [decide_eq_true h1, decide_eq_true h2, Bool.true_and, Bool.true_and]
  rfl
/-- how far a loop has come, over the box of an item -/
def BoxRel {α : Type} (w : World) (cs : Array Value) (p : α → Bool) (l : List α) (n : Nat) (i : Value) (wr : World) : Prop := ∃ k : Nat, k ≤ n ∧ i = .int .i64 k ∧ (∀ f ∈ l.take k, p f = true) ∧ Blk wr w.heap.size 25 cs ∧ Gr w wr
theorem may_long {L : Int} {l : List Gp} {m : List Nt} (h : 4096 < l.length ∨ 256 < m.length) : may ⟨L, l, m⟩ = false := by
  unfold may
  dsimp only
  rcases h with h | h
  · rw [decide_eq_false (p := l.length ≤ 4096) (by omega), Bool.false_and, Bool.and_false, Bool.and_false]
  · rw [decide_eq_false (p := m.length ≤ 256) (by omega), Bool.false_and, Bool.and_false, Bool.and_false, Bool.and_false]
theorem may_all {L : Int} {l : List Gp} {m : List Nt} (h1 : 1 ≤ L) (h2 : L ≤ 1099511627776) (h3 : l.length ≤ 4096) (h4 : m.length ≤ 256) : may ⟨L, l, m⟩ = (l.all (opMay L) && m.all (ntMay L)) := by
  rw [may_two h1 h2, decide_eq_true h3, decide_eq_true h4, Bool.true_and, Bool.true_and]
  rfl
set_option maxHeartbeats 6400000 in
theorem refmay_gr (B : Nat) (L : Int) (A : Option Addr) (n c : Nat) (l : List Gp) (A' : Option Addr) (n' c' : Nat) (m : List Nt) (w : World) (h1 : Gps w B A n c l) (h2 : Nts w B A' n' c' m) (hB : B ≤ w.heap.size) :
    Calls Try.prog 16 #[.agg #[.int .i64 L, .slice A n c, .slice A' n' c']] w fun e w' => e = .returned (.bool (may ⟨L, l, m⟩)) ∧ Gr w w' := by
  have HN := Lib.hid h1.len
  have HN' := Lib.hid h2.len
  have hle := h1.le
  have hle' := h2.le
  have HC := Lib.hid h1
  have HS := Lib.hid h2
  clear h1 h2
  have HW : Hid (Gr w (w.alloc (.cells #[.int .i64 L, .slice A n c, .slice A' n' c'] 25))) := (Gr.refl _).alloc _
  have HX : Hid (Blk (w.alloc (.cells #[.int .i64 L, .slice A n c, .slice A' n' c'] 25)) w.heap.size 25 #[.int .i64 L, .slice A n c, .slice A' n' c']) := Blk.new _ _ _
  by_cases l1 : L < 1
  · have HE := Lib.hid (may_low (l := l) (m := m) (.inl l1))
    go_enter Try.func16, Try.ntmps16
    go_wp2
    go_ret
    exact ⟨ret_bool (a := false) HE.out.symm, HW.out⟩
  by_cases l2 : 1099511627776 < L
  · have HE := Lib.hid (may_low (l := l) (m := m) (.inr l2))
    go_enter Try.func16, Try.ntmps16
    go_wp2
    go_ret
    exact ⟨ret_bool (a := false) HE.out.symm, HW.out⟩
  by_cases n1 : 4096 < n
  · have HE := Lib.hid (may_long (L := L) (l := l) (m := m) (.inl (by rw [HN.out]; exact n1)))
    go_enter Try.func16, Try.ntmps16
    go_wp2
    go_ret
    exact ⟨ret_bool (a := false) HE.out.symm, HW.out⟩
  by_cases n2 : 256 < n'
  · have HE := Lib.hid (may_long (L := L) (l := l) (m := m) (.inr (by rw [HN'.out]; exact n2)))
    go_enter Try.func16, Try.ntmps16
    go_wp2
    go_ret
    exact ⟨ret_bool (a := false) HE.out.symm, HW.out⟩
  have HE := Lib.hid (may_all (L := L) (l := l) (m := m) (by omega) (by omega) (by rw [HN.out]; omega) (by rw [HN'.out]; omega))
  go_enter Try.func16, Try.ntmps16
  go_wp2
  go_loopw [3] (fun i wr => BoxRel w #[.int .i64 L, .slice A n c, .slice A' n' c'] (opMay L) l n i wr) (fun i _ => n - (intOf i).toNat)
  case atStart => exact ⟨0, Nat.zero_le _, rfl, (fun f hf => by simp at hf), HX.out, HW.out⟩
  case round =>
    obtain ⟨k, hk, rfl, hall, hbx, hbel⟩ := hrel
    have x0 : wr.cell? ⟨w.heap.size, 0, none⟩ = some (.int .i64 L) := hbx.cell 0
    have x1 : wr.cell? ⟨w.heap.size, 1, none⟩ = some (.slice A n c) := hbx.cell 1
    have x2 : wr.cell? ⟨w.heap.size, 2, none⟩ = some (.slice A' n' c') := hbx.cell 2
    have HX1 := Lib.hid hbx
    have HA := Lib.hid hall
    have HB := Lib.hid hbel
    clear hall hbel hbx HX HW
    by_cases hlt : k < n
    · obtain ⟨b, off, f, rfl, hb, q0, q1, q2, q3, q4, hget, htake⟩ := (HC.out.below (HB.out.below.mono hB)).at_ hlt
      have HG := Lib.hid hget
      have HT := Lib.hid htake
      clear hget htake
      obtain ⟨fl, ft, fk, fg, fv⟩ := f
      dsimp only at q0 q1 q2 q3 q4
      have lk : (k : Int) < (n : Int) := by omega
      have hzw : w.heap.size < wr.heap.size := HX1.out.lt
      have HBl : Hid (Gr w (wr.alloc (.cells #[.int .i64 fl, .int .i64 ft, .int .i64 fk, .bool fg, .string fv] 29))) := HB.out.alloc _
      have HXl := Lib.hid (HX1.out.alloc (.cells #[.int .i64 fl, .int .i64 ft, .int .i64 fk, .bool fg, .string fv] 29))
      by_cases o1 : fl < 1
      · have HM := Lib.hid (op_low (L := L) (o := ⟨fl, ft, fk, fg, fv⟩) (.inl o1))
        go_wp2
        go_ret
        exact ⟨ret_bool (a := false) (by rw [HE.out, all_not HG.out HM.out]; rfl), HBl.out⟩
      by_cases o2 : L < fl
      · have HM := Lib.hid (op_low (L := L) (o := ⟨fl, ft, fk, fg, fv⟩) (.inr o2))
        go_wp2
        go_ret
        exact ⟨ret_bool (a := false) (by rw [HE.out, all_not HG.out HM.out]; rfl), HBl.out⟩
      have HQ := Lib.hid (op_ch (L := L) (a := fl) (b := 0) (t := ft) (k := fk) (g := fg) (v := fv) (by omega) (by omega))
      go_wp2_with fail
      refine (refmaychange_gr ft fk fg fv 8 _).mono ?_
      rintro e w1 ⟨rfl, hb1⟩
      rw [← HQ.out]
      have HB1 := Lib.hid (HBl.out.trans hb1)
      have HX2 := Lib.hid (HXl.out.below hb1.below HXl.out.lt)
      clear hb1
      cases hm : opMay L ⟨fl, ft, fk, fg, fv⟩ with
      | true =>
        have HM := Lib.hid hm
        clear hm
        go_wp2
        go_roundw
        case rel => exact ⟨k + 1, by omega, by go_num, take_all HA.out HT.out HM.out, HX2.out, HB1.out⟩
        case measure => simp [intOf]; omega
      | false =>
        have HM := Lib.hid hm
        clear hm
        go_wp2
        go_ret
        exact ⟨ret_bool (a := false) (by rw [HE.out, all_not HG.out HM.out]; rfl), HB1.out⟩
    · have HAL := Lib.hid (all_take (n := k) (by rw [HN.out]; omega) HA.out)
      have lk : ¬ (k : Int) < (n : Int) := by omega
      go_wp2
      go_loopw [5] (fun i wr => BoxRel w #[.int .i64 L, .slice A n c, .slice A' n' c'] (ntMay L) m n' i wr) (fun i _ => n' - (intOf i).toNat)
      case atStart => exact ⟨0, Nat.zero_le _, rfl, (fun f hf => by simp at hf), HX1.out, HB.out⟩
      case round =>
        obtain ⟨j, hj, rfl, hall, hbx, hbel⟩ := hrel
        have y0 : wr.cell? ⟨w.heap.size, 0, none⟩ = some (.int .i64 L) := hbx.cell 0
        have y2 : wr.cell? ⟨w.heap.size, 2, none⟩ = some (.slice A' n' c') := hbx.cell 2
        have HX3 := Lib.hid hbx
        have HA2 := Lib.hid hall
        have HB2 := Lib.hid hbel
        clear hall hbel hbx HX1 HB x0 x1 x2
        by_cases hlt2 : j < n'
        · obtain ⟨b, off, f, rfl, hb, q0, q1, q2, q3, q4, q5, q6, hget, htake⟩ := (HS.out.below (HB2.out.below.mono hB)).at_ hlt2
          have HG := Lib.hid hget
          have HT := Lib.hid htake
          clear hget htake
          have CM := Lib.hid (fun w => refmaynote_gr f L (by omega) w)
          unfold ntval at CM
          have lj : (j : Int) < (n' : Int) := by omega
          have hzw : w.heap.size < wr.heap.size := HX3.out.lt
          have hbw : b < wr.heap.size := by omega
          have HH : Hid (∀ wx, Gr wr wx → wx.cell? ⟨w.heap.size, 0, none⟩ = some (.int .i64 L) ∧ wx.cell? ⟨w.heap.size, 2, none⟩ = some (.slice (some ⟨b, off, none⟩) n' c') ∧ wx.cell? ⟨b, off + j * 7, none⟩ = some (.int .i64 f.kind) ∧ wx.cell? ⟨b, off + j * 7 + 1, none⟩ = some (.int .i64 f.id) ∧ wx.cell? ⟨b, off + j * 7 + 2, none⟩ = some (.int .i64 f.tbl) ∧ wx.cell? ⟨b, off + j * 7 + 3, none⟩ = some (.int .i64 f.wt) ∧ wx.cell? ⟨b, off + j * 7 + 4, none⟩ = some (.int .i64 f.at_) ∧ wx.cell? ⟨b, off + j * 7 + 5, none⟩ = some (.int .i64 f.cur) ∧ wx.cell? ⟨b, off + j * 7 + 6, none⟩ = some (.bool f.done) ∧ Gr wr wx) :=
            fun wx h => ⟨(h.below.cell hzw).trans y0, (h.below.cell hzw).trans y2, (h.below.cell hbw).trans q0, (h.below.cell hbw).trans q1, (h.below.cell hbw).trans q2, (h.below.cell hbw).trans q3, (h.below.cell hbw).trans q4, (h.below.cell hbw).trans q5, (h.below.cell hbw).trans q6, h⟩
          cases hm : ntMay L f with
          | true =>
            have HM := Lib.hid hm
            rw [hm] at CM
            clear hm
            go_upto_region 12 with fail
            go_region_held3 (fun wx => wx.cell? ⟨w.heap.size, 0, none⟩ = some (.int .i64 L) ∧ wx.cell? ⟨w.heap.size, 2, none⟩ = some (.slice (some ⟨b, off, none⟩) n' c') ∧ wx.cell? ⟨b, off + j * 7, none⟩ = some (.int .i64 f.kind) ∧ wx.cell? ⟨b, off + j * 7 + 1, none⟩ = some (.int .i64 f.id) ∧ wx.cell? ⟨b, off + j * 7 + 2, none⟩ = some (.int .i64 f.tbl) ∧ wx.cell? ⟨b, off + j * 7 + 3, none⟩ = some (.int .i64 f.wt) ∧ wx.cell? ⟨b, off + j * 7 + 4, none⟩ = some (.int .i64 f.at_) ∧ wx.cell? ⟨b, off + j * 7 + 5, none⟩ = some (.int .i64 f.cur) ∧ wx.cell? ⟨b, off + j * 7 + 6, none⟩ = some (.bool f.done) ∧ Gr wr wx)
              (first
                | exact HH.out _ ((Gr.refl wr).drew)
                | (go_split_ands; exact HH.out _ (Gr.trans (by assumption) hb1)))
              (first
                | (go_at_call 34; refine (CM.out _).mono ?_; rintro e w1 ⟨rfl, hb1⟩)
                | fail)
            all_goals (
              have HW1 : Hid (Gr wr w1) := by go_split_ands; assumption
              clear hb1
              go_wp2
              go_roundw
              case rel => exact ⟨j + 1, by omega, by go_num, take_all HA2.out HT.out HM.out, HX3.out.below HW1.out.below HX3.out.lt, HB2.out.trans HW1.out⟩
              case measure => simp [intOf]; omega)
          | false =>
            have HM := Lib.hid hm
            rw [hm] at CM
            clear hm
            go_upto_region 12 with fail
            go_region_held3 (fun wx => wx.cell? ⟨w.heap.size, 0, none⟩ = some (.int .i64 L) ∧ wx.cell? ⟨w.heap.size, 2, none⟩ = some (.slice (some ⟨b, off, none⟩) n' c') ∧ wx.cell? ⟨b, off + j * 7, none⟩ = some (.int .i64 f.kind) ∧ wx.cell? ⟨b, off + j * 7 + 1, none⟩ = some (.int .i64 f.id) ∧ wx.cell? ⟨b, off + j * 7 + 2, none⟩ = some (.int .i64 f.tbl) ∧ wx.cell? ⟨b, off + j * 7 + 3, none⟩ = some (.int .i64 f.wt) ∧ wx.cell? ⟨b, off + j * 7 + 4, none⟩ = some (.int .i64 f.at_) ∧ wx.cell? ⟨b, off + j * 7 + 5, none⟩ = some (.int .i64 f.cur) ∧ wx.cell? ⟨b, off + j * 7 + 6, none⟩ = some (.bool f.done) ∧ Gr wr wx)
              (first
                | exact HH.out _ ((Gr.refl wr).drew)
                | (go_split_ands; exact HH.out _ (Gr.trans (by assumption) hb1)))
              (first
                | (go_at_call 34; refine (CM.out _).mono ?_; rintro e w1 ⟨rfl, hb1⟩)
                | fail)
            all_goals (
              have HW1 : Hid (Gr wr w1) := by go_split_ands; assumption
              clear hb1
              go_wp2
              go_ret
              exact ⟨ret_bool (a := false) (by rw [HE.out, all_not HG.out HM.out, Bool.and_false]), HB2.out.trans HW1.out⟩)
        · have lj : ¬ (j : Int) < (n' : Int) := by omega
          go_wp2
          go_ret
          exact ⟨ret_bool (a := true) (by rw [HE.out, HAL.out, all_take (n := j) (by rw [HN'.out]; omega) HA2.out]; rfl), HB2.out⟩
theorem refmay_any (B : Nat) (L : Int) (A : Option Addr) (n c : Nat) (l : List Gp) (A' : Option Addr) (n' c' : Nat) (m : List Nt) (w : World) (h1 : Gps w B A n c l) (h2 : Nts w B A' n' c' m) (hB : B ≤ w.heap.size) :
    Calls Try.prog 16 #[.agg #[.int .i64 L, .slice A n c, .slice A' n' c']] w fun e w' => e = .returned (.bool (may ⟨L, l, m⟩)) ∧ Below w.heap.size w w' :=
  (refmay_gr B L A n c l A' n' c' m w h1 h2 hB).mono fun _ _ ⟨he, hg⟩ => ⟨he, hg.below⟩
end Go.Proofs.Ytlkjmdkmcaaihaa.Bt
