/-
  Contract of the document's Join: it answers what the plain mathematics says of the items.
-/
import Derived.Test.YtlkjmdkmcaaihaaRbMay
import Derived.Test.YtlkjmdkmcaaihaaBtJoin
import Derived.Deep.DeepCutAuto
import Derived.Test.YtlkjmdkmcaaihaaGrow
import Derived.Test.YtlkjmdkmcaaihaaRegionLast
import Derived.StillTailTactics
import Derived.BigQuiet
import Derived.BigRegion
namespace Go.Proofs.Ytlkjmdkmcaaihaa.Bt
set_option linter.unusedVariables false
set_option maxRecDepth 100000
open Go.RowKit Base FieldMath TxnMath BatchMath Last
open GuardMath (Gp noGp)
open Gd (Gps ov ov_append ov_one ov_length ocells oval oel)
open Go.Proofs.Ytlkjmdkmcaaihaa.Field (ret_bool empty_iff)
open Go.Sort (grow)
set_option linter.ambiguousOpen false
set_option linter.unusedSimpArgs false

theorem rjoin_bad {l : List It} {k : Nat} {x : It} (hx : l[k]? = some x) (h : may x = false) : join l = .error 1 := join_bad (by
  cases h2 : allMay l with
  | false => rfl
  | true =>
    have := List.all_eq_true.1 h2 x (List.mem_of_getElem? hx)
    rw [h] at this
    cases this)
theorem rjoin_much {l : List It} {k : Nat} (h : 4096 < (allOps (l.take k)).length ∨ 256 < (allNotes (l.take k)).length) : join l = .error 1 := join_much (by
  have h1 := take_len (f := (·.ops)) l k
  have h2 := take_len (f := (·.notes)) l k
  have h3 : (allOps (l.take k)).length ≤ (allOps l).length := h1
  have h4 : (allNotes (l.take k)).length ≤ (allNotes l).length := h2
  unfold fits_
  rw [Bool.and_eq_false_iff, decide_eq_false_iff_not, decide_eq_false_iff_not]
  omega)
theorem rjoin_done {l : List It} (h0 : l ≠ []) (h1 : allMay l = true) (h2 : (allOps l).length ≤ 4096) (h3 : (allNotes l).length ≤ 256) : join l = if rising 0 l then .ok ⟨lastLsn 0 l, allOps l, allNotes l⟩ else .error 10 :=
  join_fine h0 h1 (by unfold fits_; rw [decide_eq_true h2, decide_eq_true h3]; rfl)
/-- the document's Join on its way: the result's block, the joined item's block p behind it, its rows -/
def RSt (w : World) (p : Nat) (l : List It) (rise : Value) (wr : World) : Prop := ∃ A N c A' N' c', rise = .bool (rising 0 l) ∧ allMay l = true ∧ N ≤ 4096 ∧ N' ≤ 256 ∧ Blk wr p 25 #[.int .i64 (lastLsn 0 l), .slice A N c, .slice A' N' c'] ∧
  (allOps l).length = N ∧ (allNotes l).length = N' ∧ wr.ownsRow (w.heap.size + 2) 29 5 (.slice A N c) N (ov (allOps l)) ∧ wr.ownsRow (w.heap.size + 2) 27 7 (.slice A' N' c') N' (ntv (allNotes l)) ∧ Blk wr w.heap.size 25 itz ∧ Below w.heap.size w wr
def RRel (w : World) (p : Nat) (l : List It) (n : Nat) (rise i : Value) (wr : World) : Prop := ∃ k : Nat, k ≤ n ∧ i = .int .i64 k ∧ RSt w p (l.take k) rise wr
theorem blk_two (w : World) : Blk ((w.alloc (.cells itz 25)).alloc (.cells itz 25)) (w.heap.size + 1) 25 itz := by
  have h := Blk.new (w.alloc (.cells itz 25)) 25 itz
  rw [show (w.alloc (.cells itz 25)).heap.size = w.heap.size + 1 by simp] at h
  exact h
/-- the joined item's block, its rows, the result's block -/
def R2 (w : World) (cs : Array Value) (v3 : Value) (N3 : Nat) (xs : List Value) (v4 : Value) (N4 : Nat) (ys : List Value) (wr : World) : Prop :=
  Blk wr (w.heap.size + 1) 25 cs ∧ wr.ownsRow (w.heap.size + 2) 29 5 v3 N3 xs ∧ wr.ownsRow (w.heap.size + 2) 27 7 v4 N4 ys ∧ Blk wr w.heap.size 25 itz ∧ Below w.heap.size w wr
section
variable {w wr w1 : World} {cs : Array Value} {v3 v4 v' : Value} {N3 N4 N' : Nat} {xs ys zs : List Value}
theorem R2.new (h : R2 w cs v3 N3 xs v4 N4 ys wr) (hb : Below wr.heap.size wr w1) : R2 w cs v3 N3 xs v4 N4 ys w1 :=
  ⟨h.1.below hb h.1.lt, own_keep h.2.1 hb, own_keep h.2.2.1 hb, h.2.2.2.1.below hb h.2.2.2.1.lt, held_two h.2.2.2.2 hb⟩
theorem R2.store (h : R2 w cs v3 N3 xs v4 N4 ys wr) (i : Nat) (v : Value) : R2 w (cs.setIfInBounds i v) v3 N3 xs v4 N4 ys (wr.setCell ⟨w.heap.size + 1, i, none⟩ v) :=
  ⟨h.1.set_ i v, h.2.1.kept (only_setCell (World.grownBy.refl _ (some (w.heap.size + 1))) (.inl rfl) _) (.inr fun e => by have := (h.2.1.lt _ e).1; omega), h.2.2.1.kept (only_setCell (World.grownBy.refl _ (some (w.heap.size + 1))) (.inl rfl) _) (.inr fun e => by have := (h.2.2.1.lt _ e).1; omega), h.2.2.2.1.far (by simp) _, h.2.2.2.2.setCell (by simp) _⟩
theorem R2.ops (h : R2 w cs v3 N3 xs v4 N4 ys wr) (ho : w1.ownsRow (w.heap.size + 2) 29 5 v' N' zs) (hg : Grew wr v3.ownBlock w1 v') (hb : Below (w.heap.size + 2) wr w1) : R2 w cs v' N' zs v4 N4 ys w1 :=
  ⟨h.1.below hb (by omega), ho, h.2.2.1.kept hg.1 (own_types h.2.2.1 h.2.1 (by decide)), h.2.2.2.1.below hb (by omega), h.2.2.2.2.trans (hb.mono (by omega))⟩
theorem R2.nts (h : R2 w cs v3 N3 xs v4 N4 ys wr) (ho : w1.ownsRow (w.heap.size + 2) 27 7 v' N' zs) (hg : Grew wr v4.ownBlock w1 v') (hb : Below (w.heap.size + 2) wr w1) : R2 w cs v3 N3 xs v' N' zs w1 :=
  ⟨h.1.below hb (by omega), h.2.1.kept hg.1 (own_types h.2.1 h.2.2.1 (by decide)), ho, h.2.2.2.1.below hb (by omega), h.2.2.2.2.trans (hb.mono (by omega))⟩
theorem R2.lt (h : R2 w cs v3 N3 xs v4 N4 ys wr) : w.heap.size + 2 ≤ wr.heap.size := h.1.lt
end
set_option maxHeartbeats 12800000 in
theorem refjoin_any (B : Nat) (A : Option Addr) (n c : Nat) (l : List It) (w : World) (h : Its w B A n c l) (hB : B ≤ w.heap.size) (hn : n ≤ 1000000) :
    Calls Try.prog 24 #[.slice A n c] w (ItO w (join l)) := by
  have hle := h.le
  have HL := Lib.hid h.len
  have HR := Lib.hid h
  skip
  clear h
  have HX0 : Hid (Blk (w.alloc (.cells itz 25)) w.heap.size 25 itz) := Blk.new _ _ _
  have HB0 : Hid (Below w.heap.size w (w.alloc (.cells itz 25))) := (Below.refl _ _).alloc (Nat.le_refl _) _
  have HJ0 : Hid (RSt w (w.heap.size + 1) [] (.bool true) ((w.alloc (.cells itz 25)).alloc (.cells itz 25))) :=
    ⟨none, 0, 0, none, 0, 0, rfl, rfl, by omega, by omega, blk_two w, rfl, rfl, World.ownsRow_nil _ _ _ _, World.ownsRow_nil _ _ _ _, HX0.out.alloc _, HB0.out.alloc HB0.out.size _⟩
  go_enter Try.func24, Try.ntmps24
  go_wp2
  go_loopw [5, 6] (fun r i wr => RRel w (w.heap.size + 1) l n r i wr) (fun _ i _ => n - (intOf i).toNat)
  case atStart => exact ⟨0, Nat.zero_le _, rfl, HJ0.out⟩
  case round =>
    obtain ⟨k, hk, rfl, A3, N3, c3, A4, N4, c4, rfl, hma, hm3, hm4, hbx, hN3, hN4, ho3, ho4, hres, hbel⟩ := hrel
    have HMA := Lib.hid hma
    have HN3 := Lib.hid hN3
    have HN4 := Lib.hid hN4
    have HQ : Hid (R2 w #[.int .i64 (lastLsn 0 (l.take k)), .slice A3 N3 c3, .slice A4 N4 c4] (.slice A3 N3 c3) N3 (ov (allOps (l.take k))) (.slice A4 N4 c4) N4 (ntv (allNotes (l.take k))) wr) := ⟨hbx, ho3, ho4, hres, hbel⟩
    clear hma hbx hN3 hN4 ho3 ho4 hres hbel HJ0
    have hz2 := HQ.out.lt
    have hBr : B ≤ wr.heap.size := by omega
    by_cases hlt : k < n
    · obtain ⟨b, off, x, rfl, hbB, hget, htake, A5, n5, c5, A6, n6, c6, x0, x1, x2, hos, hns⟩ := (HR.out.below (HQ.out.2.2.2.2.mono hB)).at_ hlt
      have h5 := hos.len
      have h6 := hns.len
      have HG := Lib.hid hget
      have HT := Lib.hid htake
      have HT1 := Lib.hid (show allOps (l.take (k + 1)) = allOps (l.take k) ++ x.ops by rw [htake, allOps_snoc])
      have HT2 := Lib.hid (show allNotes (l.take (k + 1)) = allNotes (l.take k) ++ x.notes by rw [htake, allNotes_snoc])
      have HTL := Lib.hid (show lastLsn 0 (l.take (k + 1)) = x.lsn by rw [htake, lastLsn_snoc])
      have HTR := Lib.hid (show rising 0 (l.take (k + 1)) = (rising 0 (l.take k) && decide (lastLsn 0 (l.take k) < x.lsn)) by rw [htake, rising_snoc])
      have HTM := Lib.hid (show allMay (l.take (k + 1)) = (allMay (l.take k) && may x) by rw [htake, allMay_snoc])
      have HG1 := Lib.hid hos
      have HG2 := Lib.hid hns
      have H5 := Lib.hid h5
      have H6 := Lib.hid h6
      have hbw : b < wr.heap.size := by omega
      have hle5 := hos.le
      have hle6 := hns.le
      obtain ⟨last, hlast⟩ : ∃ last, last = lastLsn 0 (l.take k) := ⟨_, rfl⟩
      rw [← hlast] at HQ HTR
      have CM := Lib.hid (refmay_any B x.lsn A5 n5 c5 x.ops A6 n6 c6 x.notes wr.drew (hos.below ((held_start wr).mono hBr)) (hns.below ((held_start wr).mono hBr)) hBr)
      have hp1 : w.heap.size + 1 < wr.heap.size := by omega
      have HHS : Hid (∀ wx, Below wr.heap.size wr wx → wx.cell? ⟨w.heap.size + 1, 1, none⟩ = some (.slice A3 N3 c3) ∧ wx.cell? ⟨w.heap.size + 1, 2, none⟩ = some (.slice A4 N4 c4) ∧ wx.cell? ⟨b, off + k * 3, none⟩ = some (.int .i64 x.lsn) ∧ wx.cell? ⟨b, off + k * 3 + 1, none⟩ = some (.slice A5 n5 c5) ∧ wx.cell? ⟨b, off + k * 3 + 2, none⟩ = some (.slice A6 n6 c6) ∧ Below wr.heap.size wr wx) :=
        fun wx h => ⟨(h.cell (p := ⟨w.heap.size + 1, 1, none⟩) hp1).trans (HQ.out.1.cell 1), (h.cell (p := ⟨w.heap.size + 1, 2, none⟩) hp1).trans (HQ.out.1.cell 2), (h.cell hbw).trans x0, (h.cell hbw).trans x1, (h.cell hbw).trans x2, h⟩
      have lk : (k : Int) < (n : Int) := by omega
      have HXS : Hid (∀ wx, Below B wr wx → wx.cell? ⟨b, off + k * 3, none⟩ = some (.int .i64 x.lsn) ∧ wx.cell? ⟨b, off + k * 3 + 1, none⟩ = some (.slice A5 n5 c5) ∧ wx.cell? ⟨b, off + k * 3 + 2, none⟩ = some (.slice A6 n6 c6)) :=
        fun wx h => ⟨(h.cell hbB).trans x0, (h.cell hbB).trans x1, (h.cell hbB).trans x2⟩
      rw [show (⟨x.lsn, x.ops, x.notes⟩ : It) = x from rfl] at CM
      clear hget htake h5 h6 hos hns hlast x0 x1 x2
      generalize hxl : x.lsn = u at CM HTL HTR HXS HHS
      clear hxl
      cases hm : may x with
      | false =>
        have HE := Lib.hid (rjoin_bad HG.out hm)
        rw [hm] at CM
        clear hm
        have W1 := lk
        have T1 := lk
        have W2 := lk
        have T2 := lk
        go_upto_region 6 with fail
        refine Go.wp_region_held_drew (S := fun w' => w'.cell? ⟨w.heap.size + 1, 1, none⟩ = some (.slice A3 N3 c3) ∧ w'.cell? ⟨w.heap.size + 1, 2, none⟩ = some (.slice A4 N4 c4) ∧ w'.cell? ⟨b, off + k * 3, none⟩ = some (.int .i64 u) ∧ w'.cell? ⟨b, off + k * 3 + 1, none⟩ = some (.slice A5 n5 c5) ∧ w'.cell? ⟨b, off + k * 3 + 2, none⟩ = some (.slice A6 n6 c6) ∧ Below wr.heap.size wr w') (by kernel_rfl) (HHS.out _ (held_start wr)) (fun hHeld => ?_)
        refine wpAnyH_take (i := 0) (v := ?pv0) rfl (by kernel_rfl) (by kernel_rfl) (by kernel_rfl) (fun _ _ _ h => h) (Or.inl ⟨by rfl, ?py0⟩) (by assumption) ?pr0
        case py0 => (intro w hSw; (try dsimp only at hSw); obtain ⟨hs1, hs2, hs3, hs4, hs5, hs6⟩ := hSw; go_simp; try with_reducible rfl)
        try simp only [Act.put, List.getElem_toArray, List.getElem_cons_succ, List.getElem_cons_zero, List.setIfInBounds_toArray, List.set_cons_zero, List.set_cons_succ]
        refine wpAnyH_take (i := 1) (v := ?pv1) rfl (by kernel_rfl) (by kernel_rfl) (by kernel_rfl) (fun _ _ _ h => h) (Or.inl ⟨by rfl, ?py1⟩) (by assumption) ?pr1
        case py1 => (intro w hSw; (try dsimp only at hSw); obtain ⟨hs1, hs2, hs3, hs4, hs5, hs6⟩ := hSw; go_simp; try with_reducible rfl)
        try simp only [Act.put, List.getElem_toArray, List.getElem_cons_succ, List.getElem_cons_zero, List.setIfInBounds_toArray, List.set_cons_zero, List.set_cons_succ]
        refine wpAnyH_take (i := 2) (v := ?pv2) rfl (by kernel_rfl) (by kernel_rfl) (by kernel_rfl) (fun _ _ _ h => h) (Or.inl ⟨by rfl, ?py2⟩) (by assumption) ?pr2
        case py2 => (intro w hSw; (try dsimp only at hSw); obtain ⟨hs1, hs2, hs3, hs4, hs5, hs6⟩ := hSw; go_simp; try with_reducible rfl)
        try simp only [Act.put, List.getElem_toArray, List.getElem_cons_succ, List.getElem_cons_zero, List.setIfInBounds_toArray, List.set_cons_zero, List.set_cons_succ]
        refine wpAnyH_take (i := 3) (v := ?pv3) rfl (by kernel_rfl) (by kernel_rfl) (by kernel_rfl) (fun _ _ _ h => h) (Or.inl ⟨by rfl, ?py3⟩) (by assumption) ?pr3
        case py3 => (intro w hSw; (try dsimp only at hSw); obtain ⟨hs1, hs2, hs3, hs4, hs5, hs6⟩ := hSw; go_simp; try with_reducible rfl)
        try simp only [Act.put, List.getElem_toArray, List.getElem_cons_succ, List.getElem_cons_zero, List.setIfInBounds_toArray, List.set_cons_zero, List.set_cons_succ]
        refine wpAnyH_ready (rs := [4]) (by kernel_rfl) (by simp) ?_
        refine AllReadyH.cons rfl (fun K hK => ?_) AllReadyH.nil
        go_simp
        refine CM.out.mono ?_
        rintro e V1 ⟨rfl, hb5⟩
        have HBW := Lib.hid (held_two (held_start wr) hb5 : Below wr.heap.size wr V1)
        refine hK.out _ _ (HHS.out _ HBW.out) (fun hHeld => ?_)
        clear hK K hb5
        try simp only [Act.put, List.getElem_toArray, List.getElem_cons_succ, List.getElem_cons_zero, List.setIfInBounds_toArray, List.set_cons_zero, List.set_cons_succ]
        refine wpAnyH_take (i := 5) (v := ?pv5) rfl (by kernel_rfl) (by kernel_rfl) (by kernel_rfl) (fun _ _ _ h => h) (Or.inl ⟨by rfl, ?py5⟩) (by assumption) ?pr5
        case py5 => (intro w hSw; (try dsimp only at hSw); obtain ⟨hs1, hs2, hs3, hs4, hs5, hs6⟩ := hSw; go_simp; try with_reducible rfl)
        try simp only [Act.put, List.getElem_toArray, List.getElem_cons_succ, List.getElem_cons_zero, List.setIfInBounds_toArray, List.set_cons_zero, List.set_cons_succ]
        refine wpAnyH_take (i := 6) (v := ?pv6) rfl (by kernel_rfl) (by kernel_rfl) (by kernel_rfl) (fun _ _ _ h => h) (Or.inl ⟨by rfl, ?py6⟩) (by assumption) ?pr6
        case py6 => (intro w hSw; (try dsimp only at hSw); obtain ⟨hs1, hs2, hs3, hs4, hs5, hs6⟩ := hSw; go_simp; try with_reducible rfl)
        try simp only [Act.put, List.getElem_toArray, List.getElem_cons_succ, List.getElem_cons_zero, List.setIfInBounds_toArray, List.set_cons_zero, List.set_cons_succ]
        refine wpAnyH_take (i := 7) (v := undef) rfl (by kernel_rfl) (by kernel_rfl) (by kernel_rfl) (fun _ _ _ h => h) (Or.inr ⟨by rfl, rfl⟩) (by assumption) ?pr7
        try simp only [Act.put, List.getElem_toArray, List.getElem_cons_succ, List.getElem_cons_zero, List.setIfInBounds_toArray, List.set_cons_zero, List.set_cons_succ]
        refine wpAnyH_take (i := 8) (v := undef) rfl (by kernel_rfl) (by kernel_rfl) (by kernel_rfl) (fun _ _ _ h => h) (Or.inr ⟨by rfl, rfl⟩) (by assumption) ?pr8
        try simp only [Act.put, List.getElem_toArray, List.getElem_cons_succ, List.getElem_cons_zero, List.setIfInBounds_toArray, List.set_cons_zero, List.set_cons_succ]
        refine wpAnyH_take (i := 9) (v := undef) rfl (by kernel_rfl) (by kernel_rfl) (by kernel_rfl) (fun _ _ _ h => h) (Or.inr ⟨by rfl, rfl⟩) (by assumption) ?pr9
        try simp only [Act.put, List.getElem_toArray, List.getElem_cons_succ, List.getElem_cons_zero, List.setIfInBounds_toArray, List.set_cons_zero, List.set_cons_succ]
        refine wpAnyH_take (i := 10) (v := undef) rfl (by kernel_rfl) (by kernel_rfl) (by kernel_rfl) (fun _ _ _ h => h) (Or.inr ⟨by rfl, rfl⟩) (by assumption) ?pr10
        try simp only [Act.put, List.getElem_toArray, List.getElem_cons_succ, List.getElem_cons_zero, List.setIfInBounds_toArray, List.set_cons_zero, List.set_cons_succ]
        refine wpAnyH_take (i := 11) (v := undef) rfl (by kernel_rfl) (by kernel_rfl) (by kernel_rfl) (fun _ _ _ h => h) (Or.inr ⟨by rfl, rfl⟩) (by assumption) ?pr11
        try simp only [Act.put, List.getElem_toArray, List.getElem_cons_succ, List.getElem_cons_zero, List.setIfInBounds_toArray, List.set_cons_zero, List.set_cons_succ]
        refine wpAnyH_take (i := 12) (v := undef) rfl (by kernel_rfl) (by kernel_rfl) (by kernel_rfl) (fun _ _ _ h => h) (Or.inr ⟨by rfl, rfl⟩) (by assumption) ?pr12
        try simp only [Act.put, List.getElem_toArray, List.getElem_cons_succ, List.getElem_cons_zero, List.setIfInBounds_toArray, List.set_cons_zero, List.set_cons_succ]
        refine wpAnyH_take (i := 13) (v := undef) rfl (by kernel_rfl) (by kernel_rfl) (by kernel_rfl) (fun _ _ _ h => h) (Or.inr ⟨by rfl, rfl⟩) (by assumption) ?pr13
        try simp only [Act.put, List.getElem_toArray, List.getElem_cons_succ, List.getElem_cons_zero, List.setIfInBounds_toArray, List.set_cons_zero, List.set_cons_succ]
        refine wpAnyH_take (i := 14) (v := undef) rfl (by kernel_rfl) (by kernel_rfl) (by kernel_rfl) (fun _ _ _ h => h) (Or.inr ⟨by rfl, rfl⟩) (by assumption) ?pr14
        try simp only [Act.put, List.getElem_toArray, List.getElem_cons_succ, List.getElem_cons_zero, List.setIfInBounds_toArray, List.set_cons_zero, List.set_cons_succ]
        refine wpAnyH_take (i := 15) (v := undef) rfl (by kernel_rfl) (by kernel_rfl) (by kernel_rfl) (fun _ _ _ h => h) (Or.inr ⟨by rfl, rfl⟩) (by assumption) ?pr15
        try simp only [Act.put, List.getElem_toArray, List.getElem_cons_succ, List.getElem_cons_zero, List.setIfInBounds_toArray, List.set_cons_zero, List.set_cons_succ]
        refine wpAnyH_take (i := 16) (v := undef) rfl (by kernel_rfl) (by kernel_rfl) (by kernel_rfl) (fun _ _ _ h => h) (Or.inr ⟨by rfl, rfl⟩) (by assumption) ?pr16
        try simp only [Act.put, List.getElem_toArray, List.getElem_cons_succ, List.getElem_cons_zero, List.setIfInBounds_toArray, List.set_cons_zero, List.set_cons_succ]
        refine wpAnyH_take (i := 17) (v := undef) rfl (by kernel_rfl) (by kernel_rfl) (by kernel_rfl) (fun _ _ _ h => h) (Or.inr ⟨by rfl, rfl⟩) (by assumption) ?pr17
        try simp only [Act.put, List.getElem_toArray, List.getElem_cons_succ, List.getElem_cons_zero, List.setIfInBounds_toArray, List.set_cons_zero, List.set_cons_succ]
        refine wpAnyH_take (i := 18) (v := ?pv18) rfl (by kernel_rfl) (by kernel_rfl) (by kernel_rfl) (fun _ _ _ h => h) (Or.inl ⟨by rfl, ?py18⟩) (by assumption) ?pr18
        case py18 => (intro w hSw; (try dsimp only at hSw); obtain ⟨hs1, hs2, hs3, hs4, hs5, hs6⟩ := hSw; go_simp; try with_reducible rfl)
        try simp only [Act.put, List.getElem_toArray, List.getElem_cons_succ, List.getElem_cons_zero, List.setIfInBounds_toArray, List.set_cons_zero, List.set_cons_succ]
        refine wpAnyH_take (i := 19) (v := ?pv19) rfl (by kernel_rfl) (by kernel_rfl) (by kernel_rfl) (fun _ _ _ h => h) (Or.inl ⟨by rfl, ?py19⟩) (by assumption) ?pr19
        case py19 => (intro w hSw; (try dsimp only at hSw); obtain ⟨hs1, hs2, hs3, hs4, hs5, hs6⟩ := hSw; go_simp; try with_reducible rfl)
        try simp only [Act.put, List.getElem_toArray, List.getElem_cons_succ, List.getElem_cons_zero, List.setIfInBounds_toArray, List.set_cons_zero, List.set_cons_succ]
        refine wpAnyH_take (i := 20) (v := undef) rfl (by kernel_rfl) (by kernel_rfl) (by kernel_rfl) (fun _ _ _ h => h) (Or.inr ⟨by rfl, rfl⟩) (by assumption) ?pr20
        try simp only [Act.put, List.getElem_toArray, List.getElem_cons_succ, List.getElem_cons_zero, List.setIfInBounds_toArray, List.set_cons_zero, List.set_cons_succ]
        refine wpAnyH_take (i := 21) (v := undef) rfl (by kernel_rfl) (by kernel_rfl) (by kernel_rfl) (fun _ _ _ h => h) (Or.inr ⟨by rfl, rfl⟩) (by assumption) ?pr21
        try simp only [Act.put, List.getElem_toArray, List.getElem_cons_succ, List.getElem_cons_zero, List.setIfInBounds_toArray, List.set_cons_zero, List.set_cons_succ]
        refine wpAnyH_take (i := 22) (v := undef) rfl (by kernel_rfl) (by kernel_rfl) (by kernel_rfl) (fun _ _ _ h => h) (Or.inr ⟨by rfl, rfl⟩) (by assumption) ?pr22
        try simp only [Act.put, List.getElem_toArray, List.getElem_cons_succ, List.getElem_cons_zero, List.setIfInBounds_toArray, List.set_cons_zero, List.set_cons_succ]
        refine wpAnyH_take (i := 23) (v := undef) rfl (by kernel_rfl) (by kernel_rfl) (by kernel_rfl) (fun _ _ _ h => h) (Or.inr ⟨by rfl, rfl⟩) (by assumption) ?pr23
        try simp only [Act.put, List.getElem_toArray, List.getElem_cons_succ, List.getElem_cons_zero, List.setIfInBounds_toArray, List.set_cons_zero, List.set_cons_succ]
        refine wpAnyH_take (i := 24) (v := undef) rfl (by kernel_rfl) (by kernel_rfl) (by kernel_rfl) (fun _ _ _ h => h) (Or.inr ⟨by rfl, rfl⟩) (by assumption) ?pr24
        try simp only [Act.put, List.getElem_toArray, List.getElem_cons_succ, List.getElem_cons_zero, List.setIfInBounds_toArray, List.set_cons_zero, List.set_cons_succ]
        refine wpAnyH_take (i := 25) (v := undef) rfl (by kernel_rfl) (by kernel_rfl) (by kernel_rfl) (fun _ _ _ h => h) (Or.inr ⟨by rfl, rfl⟩) (by assumption) ?pr25
        try simp only [Act.put, List.getElem_toArray, List.getElem_cons_succ, List.getElem_cons_zero, List.setIfInBounds_toArray, List.set_cons_zero, List.set_cons_succ]
        refine wpAnyH_take (i := 26) (v := undef) rfl (by kernel_rfl) (by kernel_rfl) (by kernel_rfl) (fun _ _ _ h => h) (Or.inr ⟨by rfl, rfl⟩) (by assumption) ?pr26
        try simp only [Act.put, List.getElem_toArray, List.getElem_cons_succ, List.getElem_cons_zero, List.setIfInBounds_toArray, List.set_cons_zero, List.set_cons_succ]
        refine wpAnyH_take (i := 27) (v := undef) rfl (by kernel_rfl) (by kernel_rfl) (by kernel_rfl) (fun _ _ _ h => h) (Or.inr ⟨by rfl, rfl⟩) (by assumption) ?pr27
        try simp only [Act.put, List.getElem_toArray, List.getElem_cons_succ, List.getElem_cons_zero, List.setIfInBounds_toArray, List.set_cons_zero, List.set_cons_succ]
        refine wpAnyH_take (i := 28) (v := undef) rfl (by kernel_rfl) (by kernel_rfl) (by kernel_rfl) (fun _ _ _ h => h) (Or.inr ⟨by rfl, rfl⟩) (by assumption) ?pr28
        try simp only [Act.put, List.getElem_toArray, List.getElem_cons_succ, List.getElem_cons_zero, List.setIfInBounds_toArray, List.set_cons_zero, List.set_cons_succ]
        refine wpAnyH_take (i := 29) (v := undef) rfl (by kernel_rfl) (by kernel_rfl) (by kernel_rfl) (fun _ _ _ h => h) (Or.inr ⟨by rfl, rfl⟩) (by assumption) ?pr29
        try simp only [Act.put, List.getElem_toArray, List.getElem_cons_succ, List.getElem_cons_zero, List.setIfInBounds_toArray, List.set_cons_zero, List.set_cons_succ]
        refine wpAnyH_take (i := 30) (v := undef) rfl (by kernel_rfl) (by kernel_rfl) (by kernel_rfl) (fun _ _ _ h => h) (Or.inr ⟨by rfl, rfl⟩) (by assumption) ?pr30
        try simp only [Act.put, List.getElem_toArray, List.getElem_cons_succ, List.getElem_cons_zero, List.setIfInBounds_toArray, List.set_cons_zero, List.set_cons_succ]
        refine wpAnyH_take (i := 31) (v := ?pv31) rfl (by kernel_rfl) (by kernel_rfl) (by kernel_rfl) (fun _ _ _ h => h) (Or.inl ⟨by rfl, ?py31⟩) (by assumption) ?pr31
        case py31 => (intro w hSw; (try dsimp only at hSw); obtain ⟨hs1, hs2, hs3, hs4, hs5, hs6⟩ := hSw; go_simp; try with_reducible rfl)
        try simp only [Act.put, List.getElem_toArray, List.getElem_cons_succ, List.getElem_cons_zero, List.setIfInBounds_toArray, List.set_cons_zero, List.set_cons_succ]
        refine wpAnyH_done (by kernel_rfl) ?_ _
        obtain ⟨_, _, _, _, _, _⟩ := hHeld
        have HQ1 := Lib.hid (HQ.out.new HBW.out)
        have q0 : V1.cell? ⟨w.heap.size, 0, none⟩ = some (.int .i64 0) := HQ1.out.2.2.2.1.cell 0
        have q1 : V1.cell? ⟨w.heap.size, 1, none⟩ = some (.slice none 0 0) := HQ1.out.2.2.2.1.cell 1
        have q2 : V1.cell? ⟨w.heap.size, 2, none⟩ = some (.slice none 0 0) := HQ1.out.2.2.2.1.cell 2
        have r0 := HQ1.out.2.2.2.1.frozen 0
        have r1 := HQ1.out.2.2.2.1.frozen 1
        have r2 := HQ1.out.2.2.2.1.frozen 2
        go_wp2
        refine bodyPost_ret (v := .tuple #[itv 0 none 0 0 none 0 0, .int .i64 1]) (by simp [itv, results, Try.results24, go_sem, q0, q1, q2]) rfl ?_
        exact itO_no HE.out rfl (three_below HQ1.out.2.2.2.2 _ _ _)
      | true =>
        have HM := Lib.hid hm
        have hx := may_iff.1 hm
        have hn5 : n5 ≤ 4096 := by have := hx.ops; have := H5.out; omega
        have hn6 : n6 ≤ 256 := by have := hx.notes; have := H6.out; omega
        rw [hm] at CM
        clear hm hx
        have W1 : IntKind.i64.wrap ((N3 : Int) + (n5 : Int)) = (N3 : Int) + (n5 : Int) := IntWalk.i64_in _ (by omega)
        have W2 : IntKind.i64.wrap ((N4 : Int) + (n6 : Int)) = (N4 : Int) + (n6 : Int) := IntWalk.i64_in _ (by omega)
        by_cases ho : 4096 < N3 + n5
        · have HE := Lib.hid (rjoin_much (l := l) (k := k + 1) (.inl (by rw [HT1.out, List.length_append, HN3.out, H5.out]; exact ho)))
          have T1 : decide (4096 < (N3 : Int) + (n5 : Int)) = true := by rw [decide_eq_true_eq]; omega
          have T2 := lk
          go_upto_region 6 with fail
          refine Go.wp_region_held_drew (S := fun w' => w'.cell? ⟨w.heap.size + 1, 1, none⟩ = some (.slice A3 N3 c3) ∧ w'.cell? ⟨w.heap.size + 1, 2, none⟩ = some (.slice A4 N4 c4) ∧ w'.cell? ⟨b, off + k * 3, none⟩ = some (.int .i64 u) ∧ w'.cell? ⟨b, off + k * 3 + 1, none⟩ = some (.slice A5 n5 c5) ∧ w'.cell? ⟨b, off + k * 3 + 2, none⟩ = some (.slice A6 n6 c6) ∧ Below wr.heap.size wr w') (by kernel_rfl) (HHS.out _ (held_start wr)) (fun hHeld => ?_)
          refine wpAnyH_take (i := 0) (v := ?qv0) rfl (by kernel_rfl) (by kernel_rfl) (by kernel_rfl) (fun _ _ _ h => h) (Or.inl ⟨by rfl, ?qy0⟩) (by assumption) ?qr0
          case qy0 => (intro w hSw; (try dsimp only at hSw); obtain ⟨hs1, hs2, hs3, hs4, hs5, hs6⟩ := hSw; go_simp; try with_reducible rfl)
          try simp only [Act.put, List.getElem_toArray, List.getElem_cons_succ, List.getElem_cons_zero, List.setIfInBounds_toArray, List.set_cons_zero, List.set_cons_succ]
          refine wpAnyH_take (i := 1) (v := ?qv1) rfl (by kernel_rfl) (by kernel_rfl) (by kernel_rfl) (fun _ _ _ h => h) (Or.inl ⟨by rfl, ?qy1⟩) (by assumption) ?qr1
          case qy1 => (intro w hSw; (try dsimp only at hSw); obtain ⟨hs1, hs2, hs3, hs4, hs5, hs6⟩ := hSw; go_simp; try with_reducible rfl)
          try simp only [Act.put, List.getElem_toArray, List.getElem_cons_succ, List.getElem_cons_zero, List.setIfInBounds_toArray, List.set_cons_zero, List.set_cons_succ]
          refine wpAnyH_take (i := 2) (v := ?qv2) rfl (by kernel_rfl) (by kernel_rfl) (by kernel_rfl) (fun _ _ _ h => h) (Or.inl ⟨by rfl, ?qy2⟩) (by assumption) ?qr2
          case qy2 => (intro w hSw; (try dsimp only at hSw); obtain ⟨hs1, hs2, hs3, hs4, hs5, hs6⟩ := hSw; go_simp; try with_reducible rfl)
          try simp only [Act.put, List.getElem_toArray, List.getElem_cons_succ, List.getElem_cons_zero, List.setIfInBounds_toArray, List.set_cons_zero, List.set_cons_succ]
          refine wpAnyH_take (i := 3) (v := ?qv3) rfl (by kernel_rfl) (by kernel_rfl) (by kernel_rfl) (fun _ _ _ h => h) (Or.inl ⟨by rfl, ?qy3⟩) (by assumption) ?qr3
          case qy3 => (intro w hSw; (try dsimp only at hSw); obtain ⟨hs1, hs2, hs3, hs4, hs5, hs6⟩ := hSw; go_simp; try with_reducible rfl)
          try simp only [Act.put, List.getElem_toArray, List.getElem_cons_succ, List.getElem_cons_zero, List.setIfInBounds_toArray, List.set_cons_zero, List.set_cons_succ]
          refine wpAnyH_ready (rs := [4]) (by kernel_rfl) (by simp) ?_
          refine AllReadyH.cons rfl (fun K hK => ?_) AllReadyH.nil
          go_simp
          refine CM.out.mono ?_
          rintro e V1 ⟨rfl, hb5⟩
          have HBW := Lib.hid (held_two (held_start wr) hb5 : Below wr.heap.size wr V1)
          refine hK.out _ _ (HHS.out _ HBW.out) (fun hHeld => ?_)
          clear hK K hb5
          try simp only [Act.put, List.getElem_toArray, List.getElem_cons_succ, List.getElem_cons_zero, List.setIfInBounds_toArray, List.set_cons_zero, List.set_cons_succ]
          refine wpAnyH_take (i := 5) (v := ?qv5) rfl (by kernel_rfl) (by kernel_rfl) (by kernel_rfl) (fun _ _ _ h => h) (Or.inl ⟨by rfl, ?qy5⟩) (by assumption) ?qr5
          case qy5 => (intro w hSw; (try dsimp only at hSw); obtain ⟨hs1, hs2, hs3, hs4, hs5, hs6⟩ := hSw; go_simp; try with_reducible rfl)
          try simp only [Act.put, List.getElem_toArray, List.getElem_cons_succ, List.getElem_cons_zero, List.setIfInBounds_toArray, List.set_cons_zero, List.set_cons_succ]
          refine wpAnyH_take (i := 6) (v := ?qv6) rfl (by kernel_rfl) (by kernel_rfl) (by kernel_rfl) (fun _ _ _ h => h) (Or.inl ⟨by rfl, ?qy6⟩) (by assumption) ?qr6
          case qy6 => (intro w hSw; (try dsimp only at hSw); obtain ⟨hs1, hs2, hs3, hs4, hs5, hs6⟩ := hSw; go_simp; try with_reducible rfl)
          try simp only [Act.put, List.getElem_toArray, List.getElem_cons_succ, List.getElem_cons_zero, List.setIfInBounds_toArray, List.set_cons_zero, List.set_cons_succ]
          refine wpAnyH_take (i := 7) (v := ?qv7) rfl (by kernel_rfl) (by kernel_rfl) (by kernel_rfl) (fun _ _ _ h => h) (Or.inl ⟨by rfl, ?qy7⟩) (by assumption) ?qr7
          case qy7 => (intro w hSw; (try dsimp only at hSw); obtain ⟨hs1, hs2, hs3, hs4, hs5, hs6⟩ := hSw; go_simp; try with_reducible rfl)
          try simp only [Act.put, List.getElem_toArray, List.getElem_cons_succ, List.getElem_cons_zero, List.setIfInBounds_toArray, List.set_cons_zero, List.set_cons_succ]
          refine wpAnyH_take (i := 8) (v := ?qv8) rfl (by kernel_rfl) (by kernel_rfl) (by kernel_rfl) (fun _ _ _ h => h) (Or.inl ⟨by rfl, ?qy8⟩) (by assumption) ?qr8
          case qy8 => (intro w hSw; (try dsimp only at hSw); obtain ⟨hs1, hs2, hs3, hs4, hs5, hs6⟩ := hSw; go_simp; try with_reducible rfl)
          try simp only [Act.put, List.getElem_toArray, List.getElem_cons_succ, List.getElem_cons_zero, List.setIfInBounds_toArray, List.set_cons_zero, List.set_cons_succ]
          refine wpAnyH_take (i := 9) (v := ?qv9) rfl (by kernel_rfl) (by kernel_rfl) (by kernel_rfl) (fun _ _ _ h => h) (Or.inl ⟨by rfl, ?qy9⟩) (by assumption) ?qr9
          case qy9 => (intro w hSw; (try dsimp only at hSw); obtain ⟨hs1, hs2, hs3, hs4, hs5, hs6⟩ := hSw; go_simp; try with_reducible rfl)
          try simp only [Act.put, List.getElem_toArray, List.getElem_cons_succ, List.getElem_cons_zero, List.setIfInBounds_toArray, List.set_cons_zero, List.set_cons_succ]
          refine wpAnyH_take (i := 10) (v := ?qv10) rfl (by kernel_rfl) (by kernel_rfl) (by kernel_rfl) (fun _ _ _ h => h) (Or.inl ⟨by rfl, ?qy10⟩) (by assumption) ?qr10
          case qy10 => (intro w hSw; (try dsimp only at hSw); obtain ⟨hs1, hs2, hs3, hs4, hs5, hs6⟩ := hSw; go_simp; try with_reducible rfl)
          try simp only [Act.put, List.getElem_toArray, List.getElem_cons_succ, List.getElem_cons_zero, List.setIfInBounds_toArray, List.set_cons_zero, List.set_cons_succ]
          refine wpAnyH_take (i := 11) (v := ?qv11) rfl (by kernel_rfl) (by kernel_rfl) (by kernel_rfl) (fun _ _ _ h => h) (Or.inl ⟨by rfl, ?qy11⟩) (by assumption) ?qr11
          case qy11 => (intro w hSw; (try dsimp only at hSw); obtain ⟨hs1, hs2, hs3, hs4, hs5, hs6⟩ := hSw; go_simp; try with_reducible rfl)
          try simp only [Act.put, List.getElem_toArray, List.getElem_cons_succ, List.getElem_cons_zero, List.setIfInBounds_toArray, List.set_cons_zero, List.set_cons_succ]
          refine wpAnyH_take (i := 12) (v := ?qv12) rfl (by kernel_rfl) (by kernel_rfl) (by kernel_rfl) (fun _ _ _ h => h) (Or.inl ⟨by rfl, ?qy12⟩) (by assumption) ?qr12
          case qy12 => (intro w hSw; (try dsimp only at hSw); obtain ⟨hs1, hs2, hs3, hs4, hs5, hs6⟩ := hSw; go_simp; try with_reducible rfl)
          try simp only [Act.put, List.getElem_toArray, List.getElem_cons_succ, List.getElem_cons_zero, List.setIfInBounds_toArray, List.set_cons_zero, List.set_cons_succ]
          refine wpAnyH_take (i := 13) (v := ?qv13) rfl (by kernel_rfl) (by kernel_rfl) (by kernel_rfl) (fun _ _ _ h => h) (Or.inl ⟨by rfl, ?qy13⟩) (by assumption) ?qr13
          case qy13 => (intro w hSw; (try dsimp only at hSw); obtain ⟨hs1, hs2, hs3, hs4, hs5, hs6⟩ := hSw; go_simp; try with_reducible rfl)
          try simp only [Act.put, List.getElem_toArray, List.getElem_cons_succ, List.getElem_cons_zero, List.setIfInBounds_toArray, List.set_cons_zero, List.set_cons_succ]
          refine wpAnyH_take (i := 14) (v := ?qv14) rfl (by kernel_rfl) (by kernel_rfl) (by kernel_rfl) (fun _ _ _ h => h) (Or.inl ⟨by rfl, ?qy14⟩) (by assumption) ?qr14
          case qy14 => (intro w hSw; (try dsimp only at hSw); obtain ⟨hs1, hs2, hs3, hs4, hs5, hs6⟩ := hSw; go_simp; try with_reducible rfl)
          try simp only [Act.put, List.getElem_toArray, List.getElem_cons_succ, List.getElem_cons_zero, List.setIfInBounds_toArray, List.set_cons_zero, List.set_cons_succ]
          refine wpAnyH_take (i := 15) (v := ?qv15) rfl (by kernel_rfl) (by kernel_rfl) (by kernel_rfl) (fun _ _ _ h => h) (Or.inl ⟨by rfl, ?qy15⟩) (by assumption) ?qr15
          case qy15 => (intro w hSw; (try dsimp only at hSw); obtain ⟨hs1, hs2, hs3, hs4, hs5, hs6⟩ := hSw; go_simp; try with_reducible rfl)
          try simp only [Act.put, List.getElem_toArray, List.getElem_cons_succ, List.getElem_cons_zero, List.setIfInBounds_toArray, List.set_cons_zero, List.set_cons_succ]
          refine wpAnyH_take (i := 16) (v := ?qv16) rfl (by kernel_rfl) (by kernel_rfl) (by kernel_rfl) (fun _ _ _ h => h) (Or.inl ⟨by rfl, ?qy16⟩) (by assumption) ?qr16
          case qy16 => (intro w hSw; (try dsimp only at hSw); obtain ⟨hs1, hs2, hs3, hs4, hs5, hs6⟩ := hSw; go_simp; try with_reducible rfl)
          try simp only [Act.put, List.getElem_toArray, List.getElem_cons_succ, List.getElem_cons_zero, List.setIfInBounds_toArray, List.set_cons_zero, List.set_cons_succ]
          try simp only [W1, T1, W2, T2]
          refine wpAnyH_take (i := 17) (v := ?qv17) rfl (by kernel_rfl) (by kernel_rfl) (by kernel_rfl) (fun _ _ _ h => h) (Or.inl ⟨by rfl, ?qy17⟩) (by assumption) ?qr17
          case qy17 => (intro w hSw; (try dsimp only at hSw); obtain ⟨hs1, hs2, hs3, hs4, hs5, hs6⟩ := hSw; go_simp; try with_reducible rfl)
          try simp only [Act.put, List.getElem_toArray, List.getElem_cons_succ, List.getElem_cons_zero, List.setIfInBounds_toArray, List.set_cons_zero, List.set_cons_succ]
          try simp only [W1, T1, W2, T2]
          refine wpAnyH_take (i := 18) (v := ?qv18) rfl (by kernel_rfl) (by kernel_rfl) (by kernel_rfl) (fun _ _ _ h => h) (Or.inl ⟨by rfl, ?qy18⟩) (by assumption) ?qr18
          case qy18 => (intro w hSw; (try dsimp only at hSw); obtain ⟨hs1, hs2, hs3, hs4, hs5, hs6⟩ := hSw; go_simp; try with_reducible rfl)
          try simp only [Act.put, List.getElem_toArray, List.getElem_cons_succ, List.getElem_cons_zero, List.setIfInBounds_toArray, List.set_cons_zero, List.set_cons_succ]
          refine wpAnyH_take (i := 19) (v := ?qv19) rfl (by kernel_rfl) (by kernel_rfl) (by kernel_rfl) (fun _ _ _ h => h) (Or.inl ⟨by rfl, ?qy19⟩) (by assumption) ?qr19
          case qy19 => (intro w hSw; (try dsimp only at hSw); obtain ⟨hs1, hs2, hs3, hs4, hs5, hs6⟩ := hSw; go_simp; try with_reducible rfl)
          try simp only [Act.put, List.getElem_toArray, List.getElem_cons_succ, List.getElem_cons_zero, List.setIfInBounds_toArray, List.set_cons_zero, List.set_cons_succ]
          refine wpAnyH_take (i := 20) (v := undef) rfl (by kernel_rfl) (by kernel_rfl) (by kernel_rfl) (fun _ _ _ h => h) (Or.inr ⟨by rfl, rfl⟩) (by assumption) ?qr20
          try simp only [Act.put, List.getElem_toArray, List.getElem_cons_succ, List.getElem_cons_zero, List.setIfInBounds_toArray, List.set_cons_zero, List.set_cons_succ]
          refine wpAnyH_take (i := 21) (v := undef) rfl (by kernel_rfl) (by kernel_rfl) (by kernel_rfl) (fun _ _ _ h => h) (Or.inr ⟨by rfl, rfl⟩) (by assumption) ?qr21
          try simp only [Act.put, List.getElem_toArray, List.getElem_cons_succ, List.getElem_cons_zero, List.setIfInBounds_toArray, List.set_cons_zero, List.set_cons_succ]
          refine wpAnyH_take (i := 22) (v := undef) rfl (by kernel_rfl) (by kernel_rfl) (by kernel_rfl) (fun _ _ _ h => h) (Or.inr ⟨by rfl, rfl⟩) (by assumption) ?qr22
          try simp only [Act.put, List.getElem_toArray, List.getElem_cons_succ, List.getElem_cons_zero, List.setIfInBounds_toArray, List.set_cons_zero, List.set_cons_succ]
          refine wpAnyH_take (i := 23) (v := undef) rfl (by kernel_rfl) (by kernel_rfl) (by kernel_rfl) (fun _ _ _ h => h) (Or.inr ⟨by rfl, rfl⟩) (by assumption) ?qr23
          try simp only [Act.put, List.getElem_toArray, List.getElem_cons_succ, List.getElem_cons_zero, List.setIfInBounds_toArray, List.set_cons_zero, List.set_cons_succ]
          refine wpAnyH_take (i := 24) (v := undef) rfl (by kernel_rfl) (by kernel_rfl) (by kernel_rfl) (fun _ _ _ h => h) (Or.inr ⟨by rfl, rfl⟩) (by assumption) ?qr24
          try simp only [Act.put, List.getElem_toArray, List.getElem_cons_succ, List.getElem_cons_zero, List.setIfInBounds_toArray, List.set_cons_zero, List.set_cons_succ]
          refine wpAnyH_take (i := 25) (v := undef) rfl (by kernel_rfl) (by kernel_rfl) (by kernel_rfl) (fun _ _ _ h => h) (Or.inr ⟨by rfl, rfl⟩) (by assumption) ?qr25
          try simp only [Act.put, List.getElem_toArray, List.getElem_cons_succ, List.getElem_cons_zero, List.setIfInBounds_toArray, List.set_cons_zero, List.set_cons_succ]
          refine wpAnyH_take (i := 26) (v := undef) rfl (by kernel_rfl) (by kernel_rfl) (by kernel_rfl) (fun _ _ _ h => h) (Or.inr ⟨by rfl, rfl⟩) (by assumption) ?qr26
          try simp only [Act.put, List.getElem_toArray, List.getElem_cons_succ, List.getElem_cons_zero, List.setIfInBounds_toArray, List.set_cons_zero, List.set_cons_succ]
          refine wpAnyH_take (i := 27) (v := undef) rfl (by kernel_rfl) (by kernel_rfl) (by kernel_rfl) (fun _ _ _ h => h) (Or.inr ⟨by rfl, rfl⟩) (by assumption) ?qr27
          try simp only [Act.put, List.getElem_toArray, List.getElem_cons_succ, List.getElem_cons_zero, List.setIfInBounds_toArray, List.set_cons_zero, List.set_cons_succ]
          refine wpAnyH_take (i := 28) (v := undef) rfl (by kernel_rfl) (by kernel_rfl) (by kernel_rfl) (fun _ _ _ h => h) (Or.inr ⟨by rfl, rfl⟩) (by assumption) ?qr28
          try simp only [Act.put, List.getElem_toArray, List.getElem_cons_succ, List.getElem_cons_zero, List.setIfInBounds_toArray, List.set_cons_zero, List.set_cons_succ]
          refine wpAnyH_take (i := 29) (v := undef) rfl (by kernel_rfl) (by kernel_rfl) (by kernel_rfl) (fun _ _ _ h => h) (Or.inr ⟨by rfl, rfl⟩) (by assumption) ?qr29
          try simp only [Act.put, List.getElem_toArray, List.getElem_cons_succ, List.getElem_cons_zero, List.setIfInBounds_toArray, List.set_cons_zero, List.set_cons_succ]
          refine wpAnyH_take (i := 30) (v := undef) rfl (by kernel_rfl) (by kernel_rfl) (by kernel_rfl) (fun _ _ _ h => h) (Or.inr ⟨by rfl, rfl⟩) (by assumption) ?qr30
          try simp only [Act.put, List.getElem_toArray, List.getElem_cons_succ, List.getElem_cons_zero, List.setIfInBounds_toArray, List.set_cons_zero, List.set_cons_succ]
          refine wpAnyH_take (i := 31) (v := ?qv31) rfl (by kernel_rfl) (by kernel_rfl) (by kernel_rfl) (fun _ _ _ h => h) (Or.inl ⟨by rfl, ?qy31⟩) (by assumption) ?qr31
          case qy31 => (intro w hSw; (try dsimp only at hSw); obtain ⟨hs1, hs2, hs3, hs4, hs5, hs6⟩ := hSw; go_simp; try with_reducible rfl)
          try simp only [Act.put, List.getElem_toArray, List.getElem_cons_succ, List.getElem_cons_zero, List.setIfInBounds_toArray, List.set_cons_zero, List.set_cons_succ]
          refine wpAnyH_done (by kernel_rfl) ?_ _
          obtain ⟨_, _, _, _, _, _⟩ := hHeld
          have HQ1 := Lib.hid (HQ.out.new HBW.out)
          have q0 : V1.cell? ⟨w.heap.size, 0, none⟩ = some (.int .i64 0) := HQ1.out.2.2.2.1.cell 0
          have q1 : V1.cell? ⟨w.heap.size, 1, none⟩ = some (.slice none 0 0) := HQ1.out.2.2.2.1.cell 1
          have q2 : V1.cell? ⟨w.heap.size, 2, none⟩ = some (.slice none 0 0) := HQ1.out.2.2.2.1.cell 2
          have r0 := HQ1.out.2.2.2.1.frozen 0
          have r1 := HQ1.out.2.2.2.1.frozen 1
          have r2 := HQ1.out.2.2.2.1.frozen 2
          go_wp2
          refine bodyPost_ret (v := .tuple #[itv 0 none 0 0 none 0 0, .int .i64 1]) (by simp [itv, results, Try.results24, go_sem, q0, q1, q2]) rfl ?_
          exact itO_no HE.out rfl (three_below HQ1.out.2.2.2.2 _ _ _)
        have T1 : decide (4096 < (N3 : Int) + (n5 : Int)) = false := by rw [decide_eq_false_iff_not]; omega
        by_cases ho2 : 256 < N4 + n6
        · have HE := Lib.hid (rjoin_much (l := l) (k := k + 1) (.inr (by rw [HT2.out, List.length_append, HN4.out, H6.out]; exact ho2)))
          have T2 : decide (256 < (N4 : Int) + (n6 : Int)) = true := by rw [decide_eq_true_eq]; omega
          go_upto_region 6 with fail
          refine Go.wp_region_held_drew (S := fun w' => w'.cell? ⟨w.heap.size + 1, 1, none⟩ = some (.slice A3 N3 c3) ∧ w'.cell? ⟨w.heap.size + 1, 2, none⟩ = some (.slice A4 N4 c4) ∧ w'.cell? ⟨b, off + k * 3, none⟩ = some (.int .i64 u) ∧ w'.cell? ⟨b, off + k * 3 + 1, none⟩ = some (.slice A5 n5 c5) ∧ w'.cell? ⟨b, off + k * 3 + 2, none⟩ = some (.slice A6 n6 c6) ∧ Below wr.heap.size wr w') (by kernel_rfl) (HHS.out _ (held_start wr)) (fun hHeld => ?_)
          refine wpAnyH_take (i := 0) (v := ?rv0) rfl (by kernel_rfl) (by kernel_rfl) (by kernel_rfl) (fun _ _ _ h => h) (Or.inl ⟨by rfl, ?ry0⟩) (by assumption) ?rr0
          case ry0 => (intro w hSw; (try dsimp only at hSw); obtain ⟨hs1, hs2, hs3, hs4, hs5, hs6⟩ := hSw; go_simp; try with_reducible rfl)
          try simp only [Act.put, List.getElem_toArray, List.getElem_cons_succ, List.getElem_cons_zero, List.setIfInBounds_toArray, List.set_cons_zero, List.set_cons_succ]
          refine wpAnyH_take (i := 1) (v := ?rv1) rfl (by kernel_rfl) (by kernel_rfl) (by kernel_rfl) (fun _ _ _ h => h) (Or.inl ⟨by rfl, ?ry1⟩) (by assumption) ?rr1
          case ry1 => (intro w hSw; (try dsimp only at hSw); obtain ⟨hs1, hs2, hs3, hs4, hs5, hs6⟩ := hSw; go_simp; try with_reducible rfl)
          try simp only [Act.put, List.getElem_toArray, List.getElem_cons_succ, List.getElem_cons_zero, List.setIfInBounds_toArray, List.set_cons_zero, List.set_cons_succ]
          refine wpAnyH_take (i := 2) (v := ?rv2) rfl (by kernel_rfl) (by kernel_rfl) (by kernel_rfl) (fun _ _ _ h => h) (Or.inl ⟨by rfl, ?ry2⟩) (by assumption) ?rr2
          case ry2 => (intro w hSw; (try dsimp only at hSw); obtain ⟨hs1, hs2, hs3, hs4, hs5, hs6⟩ := hSw; go_simp; try with_reducible rfl)
          try simp only [Act.put, List.getElem_toArray, List.getElem_cons_succ, List.getElem_cons_zero, List.setIfInBounds_toArray, List.set_cons_zero, List.set_cons_succ]
          refine wpAnyH_take (i := 3) (v := ?rv3) rfl (by kernel_rfl) (by kernel_rfl) (by kernel_rfl) (fun _ _ _ h => h) (Or.inl ⟨by rfl, ?ry3⟩) (by assumption) ?rr3
          case ry3 => (intro w hSw; (try dsimp only at hSw); obtain ⟨hs1, hs2, hs3, hs4, hs5, hs6⟩ := hSw; go_simp; try with_reducible rfl)
          try simp only [Act.put, List.getElem_toArray, List.getElem_cons_succ, List.getElem_cons_zero, List.setIfInBounds_toArray, List.set_cons_zero, List.set_cons_succ]
          refine wpAnyH_ready (rs := [4]) (by kernel_rfl) (by simp) ?_
          refine AllReadyH.cons rfl (fun K hK => ?_) AllReadyH.nil
          go_simp
          refine CM.out.mono ?_
          rintro e V1 ⟨rfl, hb5⟩
          have HBW := Lib.hid (held_two (held_start wr) hb5 : Below wr.heap.size wr V1)
          refine hK.out _ _ (HHS.out _ HBW.out) (fun hHeld => ?_)
          clear hK K hb5
          try simp only [Act.put, List.getElem_toArray, List.getElem_cons_succ, List.getElem_cons_zero, List.setIfInBounds_toArray, List.set_cons_zero, List.set_cons_succ]
          refine wpAnyH_take (i := 5) (v := ?rv5) rfl (by kernel_rfl) (by kernel_rfl) (by kernel_rfl) (fun _ _ _ h => h) (Or.inl ⟨by rfl, ?ry5⟩) (by assumption) ?rr5
          case ry5 => (intro w hSw; (try dsimp only at hSw); obtain ⟨hs1, hs2, hs3, hs4, hs5, hs6⟩ := hSw; go_simp; try with_reducible rfl)
          try simp only [Act.put, List.getElem_toArray, List.getElem_cons_succ, List.getElem_cons_zero, List.setIfInBounds_toArray, List.set_cons_zero, List.set_cons_succ]
          refine wpAnyH_take (i := 6) (v := ?rv6) rfl (by kernel_rfl) (by kernel_rfl) (by kernel_rfl) (fun _ _ _ h => h) (Or.inl ⟨by rfl, ?ry6⟩) (by assumption) ?rr6
          case ry6 => (intro w hSw; (try dsimp only at hSw); obtain ⟨hs1, hs2, hs3, hs4, hs5, hs6⟩ := hSw; go_simp; try with_reducible rfl)
          try simp only [Act.put, List.getElem_toArray, List.getElem_cons_succ, List.getElem_cons_zero, List.setIfInBounds_toArray, List.set_cons_zero, List.set_cons_succ]
          refine wpAnyH_take (i := 7) (v := ?rv7) rfl (by kernel_rfl) (by kernel_rfl) (by kernel_rfl) (fun _ _ _ h => h) (Or.inl ⟨by rfl, ?ry7⟩) (by assumption) ?rr7
          case ry7 => (intro w hSw; (try dsimp only at hSw); obtain ⟨hs1, hs2, hs3, hs4, hs5, hs6⟩ := hSw; go_simp; try with_reducible rfl)
          try simp only [Act.put, List.getElem_toArray, List.getElem_cons_succ, List.getElem_cons_zero, List.setIfInBounds_toArray, List.set_cons_zero, List.set_cons_succ]
          refine wpAnyH_take (i := 8) (v := ?rv8) rfl (by kernel_rfl) (by kernel_rfl) (by kernel_rfl) (fun _ _ _ h => h) (Or.inl ⟨by rfl, ?ry8⟩) (by assumption) ?rr8
          case ry8 => (intro w hSw; (try dsimp only at hSw); obtain ⟨hs1, hs2, hs3, hs4, hs5, hs6⟩ := hSw; go_simp; try with_reducible rfl)
          try simp only [Act.put, List.getElem_toArray, List.getElem_cons_succ, List.getElem_cons_zero, List.setIfInBounds_toArray, List.set_cons_zero, List.set_cons_succ]
          refine wpAnyH_take (i := 9) (v := ?rv9) rfl (by kernel_rfl) (by kernel_rfl) (by kernel_rfl) (fun _ _ _ h => h) (Or.inl ⟨by rfl, ?ry9⟩) (by assumption) ?rr9
          case ry9 => (intro w hSw; (try dsimp only at hSw); obtain ⟨hs1, hs2, hs3, hs4, hs5, hs6⟩ := hSw; go_simp; try with_reducible rfl)
          try simp only [Act.put, List.getElem_toArray, List.getElem_cons_succ, List.getElem_cons_zero, List.setIfInBounds_toArray, List.set_cons_zero, List.set_cons_succ]
          refine wpAnyH_take (i := 10) (v := ?rv10) rfl (by kernel_rfl) (by kernel_rfl) (by kernel_rfl) (fun _ _ _ h => h) (Or.inl ⟨by rfl, ?ry10⟩) (by assumption) ?rr10
          case ry10 => (intro w hSw; (try dsimp only at hSw); obtain ⟨hs1, hs2, hs3, hs4, hs5, hs6⟩ := hSw; go_simp; try with_reducible rfl)
          try simp only [Act.put, List.getElem_toArray, List.getElem_cons_succ, List.getElem_cons_zero, List.setIfInBounds_toArray, List.set_cons_zero, List.set_cons_succ]
          refine wpAnyH_take (i := 11) (v := ?rv11) rfl (by kernel_rfl) (by kernel_rfl) (by kernel_rfl) (fun _ _ _ h => h) (Or.inl ⟨by rfl, ?ry11⟩) (by assumption) ?rr11
          case ry11 => (intro w hSw; (try dsimp only at hSw); obtain ⟨hs1, hs2, hs3, hs4, hs5, hs6⟩ := hSw; go_simp; try with_reducible rfl)
          try simp only [Act.put, List.getElem_toArray, List.getElem_cons_succ, List.getElem_cons_zero, List.setIfInBounds_toArray, List.set_cons_zero, List.set_cons_succ]
          refine wpAnyH_take (i := 12) (v := ?rv12) rfl (by kernel_rfl) (by kernel_rfl) (by kernel_rfl) (fun _ _ _ h => h) (Or.inl ⟨by rfl, ?ry12⟩) (by assumption) ?rr12
          case ry12 => (intro w hSw; (try dsimp only at hSw); obtain ⟨hs1, hs2, hs3, hs4, hs5, hs6⟩ := hSw; go_simp; try with_reducible rfl)
          try simp only [Act.put, List.getElem_toArray, List.getElem_cons_succ, List.getElem_cons_zero, List.setIfInBounds_toArray, List.set_cons_zero, List.set_cons_succ]
          refine wpAnyH_take (i := 13) (v := ?rv13) rfl (by kernel_rfl) (by kernel_rfl) (by kernel_rfl) (fun _ _ _ h => h) (Or.inl ⟨by rfl, ?ry13⟩) (by assumption) ?rr13
          case ry13 => (intro w hSw; (try dsimp only at hSw); obtain ⟨hs1, hs2, hs3, hs4, hs5, hs6⟩ := hSw; go_simp; try with_reducible rfl)
          try simp only [Act.put, List.getElem_toArray, List.getElem_cons_succ, List.getElem_cons_zero, List.setIfInBounds_toArray, List.set_cons_zero, List.set_cons_succ]
          refine wpAnyH_take (i := 14) (v := ?rv14) rfl (by kernel_rfl) (by kernel_rfl) (by kernel_rfl) (fun _ _ _ h => h) (Or.inl ⟨by rfl, ?ry14⟩) (by assumption) ?rr14
          case ry14 => (intro w hSw; (try dsimp only at hSw); obtain ⟨hs1, hs2, hs3, hs4, hs5, hs6⟩ := hSw; go_simp; try with_reducible rfl)
          try simp only [Act.put, List.getElem_toArray, List.getElem_cons_succ, List.getElem_cons_zero, List.setIfInBounds_toArray, List.set_cons_zero, List.set_cons_succ]
          refine wpAnyH_take (i := 15) (v := ?rv15) rfl (by kernel_rfl) (by kernel_rfl) (by kernel_rfl) (fun _ _ _ h => h) (Or.inl ⟨by rfl, ?ry15⟩) (by assumption) ?rr15
          case ry15 => (intro w hSw; (try dsimp only at hSw); obtain ⟨hs1, hs2, hs3, hs4, hs5, hs6⟩ := hSw; go_simp; try with_reducible rfl)
          try simp only [Act.put, List.getElem_toArray, List.getElem_cons_succ, List.getElem_cons_zero, List.setIfInBounds_toArray, List.set_cons_zero, List.set_cons_succ]
          refine wpAnyH_take (i := 16) (v := ?rv16) rfl (by kernel_rfl) (by kernel_rfl) (by kernel_rfl) (fun _ _ _ h => h) (Or.inl ⟨by rfl, ?ry16⟩) (by assumption) ?rr16
          case ry16 => (intro w hSw; (try dsimp only at hSw); obtain ⟨hs1, hs2, hs3, hs4, hs5, hs6⟩ := hSw; go_simp; try with_reducible rfl)
          try simp only [Act.put, List.getElem_toArray, List.getElem_cons_succ, List.getElem_cons_zero, List.setIfInBounds_toArray, List.set_cons_zero, List.set_cons_succ]
          try simp only [W1, T1, W2, T2]
          refine wpAnyH_take (i := 17) (v := ?rv17) rfl (by kernel_rfl) (by kernel_rfl) (by kernel_rfl) (fun _ _ _ h => h) (Or.inl ⟨by rfl, ?ry17⟩) (by assumption) ?rr17
          case ry17 => (intro w hSw; (try dsimp only at hSw); obtain ⟨hs1, hs2, hs3, hs4, hs5, hs6⟩ := hSw; go_simp; try with_reducible rfl)
          try simp only [Act.put, List.getElem_toArray, List.getElem_cons_succ, List.getElem_cons_zero, List.setIfInBounds_toArray, List.set_cons_zero, List.set_cons_succ]
          try simp only [W1, T1, W2, T2]
          refine wpAnyH_take (i := 18) (v := ?rv18) rfl (by kernel_rfl) (by kernel_rfl) (by kernel_rfl) (fun _ _ _ h => h) (Or.inl ⟨by rfl, ?ry18⟩) (by assumption) ?rr18
          case ry18 => (intro w hSw; (try dsimp only at hSw); obtain ⟨hs1, hs2, hs3, hs4, hs5, hs6⟩ := hSw; go_simp; try with_reducible rfl)
          try simp only [Act.put, List.getElem_toArray, List.getElem_cons_succ, List.getElem_cons_zero, List.setIfInBounds_toArray, List.set_cons_zero, List.set_cons_succ]
          refine wpAnyH_take (i := 19) (v := ?rv19) rfl (by kernel_rfl) (by kernel_rfl) (by kernel_rfl) (fun _ _ _ h => h) (Or.inl ⟨by rfl, ?ry19⟩) (by assumption) ?rr19
          case ry19 => (intro w hSw; (try dsimp only at hSw); obtain ⟨hs1, hs2, hs3, hs4, hs5, hs6⟩ := hSw; go_simp; try with_reducible rfl)
          try simp only [Act.put, List.getElem_toArray, List.getElem_cons_succ, List.getElem_cons_zero, List.setIfInBounds_toArray, List.set_cons_zero, List.set_cons_succ]
          refine wpAnyH_take (i := 20) (v := ?rv20) rfl (by kernel_rfl) (by kernel_rfl) (by kernel_rfl) (fun _ _ _ h => h) (Or.inl ⟨by rfl, ?ry20⟩) (by assumption) ?rr20
          case ry20 => (intro w hSw; (try dsimp only at hSw); obtain ⟨hs1, hs2, hs3, hs4, hs5, hs6⟩ := hSw; go_simp; try with_reducible rfl)
          try simp only [Act.put, List.getElem_toArray, List.getElem_cons_succ, List.getElem_cons_zero, List.setIfInBounds_toArray, List.set_cons_zero, List.set_cons_succ]
          refine wpAnyH_take (i := 21) (v := ?rv21) rfl (by kernel_rfl) (by kernel_rfl) (by kernel_rfl) (fun _ _ _ h => h) (Or.inl ⟨by rfl, ?ry21⟩) (by assumption) ?rr21
          case ry21 => (intro w hSw; (try dsimp only at hSw); obtain ⟨hs1, hs2, hs3, hs4, hs5, hs6⟩ := hSw; go_simp; try with_reducible rfl)
          try simp only [Act.put, List.getElem_toArray, List.getElem_cons_succ, List.getElem_cons_zero, List.setIfInBounds_toArray, List.set_cons_zero, List.set_cons_succ]
          refine wpAnyH_take (i := 22) (v := ?rv22) rfl (by kernel_rfl) (by kernel_rfl) (by kernel_rfl) (fun _ _ _ h => h) (Or.inl ⟨by rfl, ?ry22⟩) (by assumption) ?rr22
          case ry22 => (intro w hSw; (try dsimp only at hSw); obtain ⟨hs1, hs2, hs3, hs4, hs5, hs6⟩ := hSw; go_simp; try with_reducible rfl)
          try simp only [Act.put, List.getElem_toArray, List.getElem_cons_succ, List.getElem_cons_zero, List.setIfInBounds_toArray, List.set_cons_zero, List.set_cons_succ]
          refine wpAnyH_take (i := 23) (v := ?rv23) rfl (by kernel_rfl) (by kernel_rfl) (by kernel_rfl) (fun _ _ _ h => h) (Or.inl ⟨by rfl, ?ry23⟩) (by assumption) ?rr23
          case ry23 => (intro w hSw; (try dsimp only at hSw); obtain ⟨hs1, hs2, hs3, hs4, hs5, hs6⟩ := hSw; go_simp; try with_reducible rfl)
          try simp only [Act.put, List.getElem_toArray, List.getElem_cons_succ, List.getElem_cons_zero, List.setIfInBounds_toArray, List.set_cons_zero, List.set_cons_succ]
          refine wpAnyH_take (i := 24) (v := ?rv24) rfl (by kernel_rfl) (by kernel_rfl) (by kernel_rfl) (fun _ _ _ h => h) (Or.inl ⟨by rfl, ?ry24⟩) (by assumption) ?rr24
          case ry24 => (intro w hSw; (try dsimp only at hSw); obtain ⟨hs1, hs2, hs3, hs4, hs5, hs6⟩ := hSw; go_simp; try with_reducible rfl)
          try simp only [Act.put, List.getElem_toArray, List.getElem_cons_succ, List.getElem_cons_zero, List.setIfInBounds_toArray, List.set_cons_zero, List.set_cons_succ]
          refine wpAnyH_take (i := 25) (v := ?rv25) rfl (by kernel_rfl) (by kernel_rfl) (by kernel_rfl) (fun _ _ _ h => h) (Or.inl ⟨by rfl, ?ry25⟩) (by assumption) ?rr25
          case ry25 => (intro w hSw; (try dsimp only at hSw); obtain ⟨hs1, hs2, hs3, hs4, hs5, hs6⟩ := hSw; go_simp; try with_reducible rfl)
          try simp only [Act.put, List.getElem_toArray, List.getElem_cons_succ, List.getElem_cons_zero, List.setIfInBounds_toArray, List.set_cons_zero, List.set_cons_succ]
          refine wpAnyH_take (i := 26) (v := ?rv26) rfl (by kernel_rfl) (by kernel_rfl) (by kernel_rfl) (fun _ _ _ h => h) (Or.inl ⟨by rfl, ?ry26⟩) (by assumption) ?rr26
          case ry26 => (intro w hSw; (try dsimp only at hSw); obtain ⟨hs1, hs2, hs3, hs4, hs5, hs6⟩ := hSw; go_simp; try with_reducible rfl)
          try simp only [Act.put, List.getElem_toArray, List.getElem_cons_succ, List.getElem_cons_zero, List.setIfInBounds_toArray, List.set_cons_zero, List.set_cons_succ]
          refine wpAnyH_take (i := 27) (v := ?rv27) rfl (by kernel_rfl) (by kernel_rfl) (by kernel_rfl) (fun _ _ _ h => h) (Or.inl ⟨by rfl, ?ry27⟩) (by assumption) ?rr27
          case ry27 => (intro w hSw; (try dsimp only at hSw); obtain ⟨hs1, hs2, hs3, hs4, hs5, hs6⟩ := hSw; go_simp; try with_reducible rfl)
          try simp only [Act.put, List.getElem_toArray, List.getElem_cons_succ, List.getElem_cons_zero, List.setIfInBounds_toArray, List.set_cons_zero, List.set_cons_succ]
          refine wpAnyH_take (i := 28) (v := ?rv28) rfl (by kernel_rfl) (by kernel_rfl) (by kernel_rfl) (fun _ _ _ h => h) (Or.inl ⟨by rfl, ?ry28⟩) (by assumption) ?rr28
          case ry28 => (intro w hSw; (try dsimp only at hSw); obtain ⟨hs1, hs2, hs3, hs4, hs5, hs6⟩ := hSw; go_simp; try with_reducible rfl)
          try simp only [Act.put, List.getElem_toArray, List.getElem_cons_succ, List.getElem_cons_zero, List.setIfInBounds_toArray, List.set_cons_zero, List.set_cons_succ]
          refine wpAnyH_take (i := 29) (v := ?rv29) rfl (by kernel_rfl) (by kernel_rfl) (by kernel_rfl) (fun _ _ _ h => h) (Or.inl ⟨by rfl, ?ry29⟩) (by assumption) ?rr29
          case ry29 => (intro w hSw; (try dsimp only at hSw); obtain ⟨hs1, hs2, hs3, hs4, hs5, hs6⟩ := hSw; go_simp; try with_reducible rfl)
          try simp only [Act.put, List.getElem_toArray, List.getElem_cons_succ, List.getElem_cons_zero, List.setIfInBounds_toArray, List.set_cons_zero, List.set_cons_succ]
          try simp only [W1, T1, W2, T2]
          refine wpAnyH_take (i := 30) (v := ?rv30) rfl (by kernel_rfl) (by kernel_rfl) (by kernel_rfl) (fun _ _ _ h => h) (Or.inl ⟨by rfl, ?ry30⟩) (by assumption) ?rr30
          case ry30 => (intro w hSw; (try dsimp only at hSw); obtain ⟨hs1, hs2, hs3, hs4, hs5, hs6⟩ := hSw; go_simp; try with_reducible rfl)
          try simp only [Act.put, List.getElem_toArray, List.getElem_cons_succ, List.getElem_cons_zero, List.setIfInBounds_toArray, List.set_cons_zero, List.set_cons_succ]
          try simp only [W1, T1, W2, T2]
          refine wpAnyH_take (i := 31) (v := ?rv31) rfl (by kernel_rfl) (by kernel_rfl) (by kernel_rfl) (fun _ _ _ h => h) (Or.inl ⟨by rfl, ?ry31⟩) (by assumption) ?rr31
          case ry31 => (intro w hSw; (try dsimp only at hSw); obtain ⟨hs1, hs2, hs3, hs4, hs5, hs6⟩ := hSw; go_simp; try with_reducible rfl)
          try simp only [Act.put, List.getElem_toArray, List.getElem_cons_succ, List.getElem_cons_zero, List.setIfInBounds_toArray, List.set_cons_zero, List.set_cons_succ]
          refine wpAnyH_done (by kernel_rfl) ?_ _
          obtain ⟨_, _, _, _, _, _⟩ := hHeld
          have HQ1 := Lib.hid (HQ.out.new HBW.out)
          have q0 : V1.cell? ⟨w.heap.size, 0, none⟩ = some (.int .i64 0) := HQ1.out.2.2.2.1.cell 0
          have q1 : V1.cell? ⟨w.heap.size, 1, none⟩ = some (.slice none 0 0) := HQ1.out.2.2.2.1.cell 1
          have q2 : V1.cell? ⟨w.heap.size, 2, none⟩ = some (.slice none 0 0) := HQ1.out.2.2.2.1.cell 2
          have r0 := HQ1.out.2.2.2.1.frozen 0
          have r1 := HQ1.out.2.2.2.1.frozen 1
          have r2 := HQ1.out.2.2.2.1.frozen 2
          go_wp2
          refine bodyPost_ret (v := .tuple #[itv 0 none 0 0 none 0 0, .int .i64 1]) (by simp [itv, results, Try.results24, go_sem, q0, q1, q2]) rfl ?_
          exact itO_no HE.out rfl (three_below HQ1.out.2.2.2.2 _ _ _)
        have T2 : decide (256 < (N4 : Int) + (n6 : Int)) = false := by rw [decide_eq_false_iff_not]; omega
        go_upto_region 6 with fail
        refine Go.wp_region_held_drew (S := fun w' => w'.cell? ⟨w.heap.size + 1, 1, none⟩ = some (.slice A3 N3 c3) ∧ w'.cell? ⟨w.heap.size + 1, 2, none⟩ = some (.slice A4 N4 c4) ∧ w'.cell? ⟨b, off + k * 3, none⟩ = some (.int .i64 u) ∧ w'.cell? ⟨b, off + k * 3 + 1, none⟩ = some (.slice A5 n5 c5) ∧ w'.cell? ⟨b, off + k * 3 + 2, none⟩ = some (.slice A6 n6 c6) ∧ Below wr.heap.size wr w') (by kernel_rfl) (HHS.out _ (held_start wr)) (fun hHeld => ?_)
        refine wpAnyH_take (i := 0) (v := ?sv0) rfl (by kernel_rfl) (by kernel_rfl) (by kernel_rfl) (fun _ _ _ h => h) (Or.inl ⟨by rfl, ?sy0⟩) (by assumption) ?sr0
        case sy0 => (intro w hSw; (try dsimp only at hSw); obtain ⟨hs1, hs2, hs3, hs4, hs5, hs6⟩ := hSw; go_simp; try with_reducible rfl)
        try simp only [Act.put, List.getElem_toArray, List.getElem_cons_succ, List.getElem_cons_zero, List.setIfInBounds_toArray, List.set_cons_zero, List.set_cons_succ]
        refine wpAnyH_take (i := 1) (v := ?sv1) rfl (by kernel_rfl) (by kernel_rfl) (by kernel_rfl) (fun _ _ _ h => h) (Or.inl ⟨by rfl, ?sy1⟩) (by assumption) ?sr1
        case sy1 => (intro w hSw; (try dsimp only at hSw); obtain ⟨hs1, hs2, hs3, hs4, hs5, hs6⟩ := hSw; go_simp; try with_reducible rfl)
        try simp only [Act.put, List.getElem_toArray, List.getElem_cons_succ, List.getElem_cons_zero, List.setIfInBounds_toArray, List.set_cons_zero, List.set_cons_succ]
        refine wpAnyH_take (i := 2) (v := ?sv2) rfl (by kernel_rfl) (by kernel_rfl) (by kernel_rfl) (fun _ _ _ h => h) (Or.inl ⟨by rfl, ?sy2⟩) (by assumption) ?sr2
        case sy2 => (intro w hSw; (try dsimp only at hSw); obtain ⟨hs1, hs2, hs3, hs4, hs5, hs6⟩ := hSw; go_simp; try with_reducible rfl)
        try simp only [Act.put, List.getElem_toArray, List.getElem_cons_succ, List.getElem_cons_zero, List.setIfInBounds_toArray, List.set_cons_zero, List.set_cons_succ]
        refine wpAnyH_take (i := 3) (v := ?sv3) rfl (by kernel_rfl) (by kernel_rfl) (by kernel_rfl) (fun _ _ _ h => h) (Or.inl ⟨by rfl, ?sy3⟩) (by assumption) ?sr3
        case sy3 => (intro w hSw; (try dsimp only at hSw); obtain ⟨hs1, hs2, hs3, hs4, hs5, hs6⟩ := hSw; go_simp; try with_reducible rfl)
        try simp only [Act.put, List.getElem_toArray, List.getElem_cons_succ, List.getElem_cons_zero, List.setIfInBounds_toArray, List.set_cons_zero, List.set_cons_succ]
        refine wpAnyH_ready (rs := [4]) (by kernel_rfl) (by simp) ?_
        refine AllReadyH.cons rfl (fun K hK => ?_) AllReadyH.nil
        go_simp
        refine CM.out.mono ?_
        rintro e V1 ⟨rfl, hb5⟩
        have HBW := Lib.hid (held_two (held_start wr) hb5 : Below wr.heap.size wr V1)
        refine hK.out _ _ (HHS.out _ HBW.out) (fun hHeld => ?_)
        clear hK K hb5
        try simp only [Act.put, List.getElem_toArray, List.getElem_cons_succ, List.getElem_cons_zero, List.setIfInBounds_toArray, List.set_cons_zero, List.set_cons_succ]
        refine wpAnyH_take (i := 5) (v := ?sv5) rfl (by kernel_rfl) (by kernel_rfl) (by kernel_rfl) (fun _ _ _ h => h) (Or.inl ⟨by rfl, ?sy5⟩) (by assumption) ?sr5
        case sy5 => (intro w hSw; (try dsimp only at hSw); obtain ⟨hs1, hs2, hs3, hs4, hs5, hs6⟩ := hSw; go_simp; try with_reducible rfl)
        try simp only [Act.put, List.getElem_toArray, List.getElem_cons_succ, List.getElem_cons_zero, List.setIfInBounds_toArray, List.set_cons_zero, List.set_cons_succ]
        refine wpAnyH_take (i := 6) (v := ?sv6) rfl (by kernel_rfl) (by kernel_rfl) (by kernel_rfl) (fun _ _ _ h => h) (Or.inl ⟨by rfl, ?sy6⟩) (by assumption) ?sr6
        case sy6 => (intro w hSw; (try dsimp only at hSw); obtain ⟨hs1, hs2, hs3, hs4, hs5, hs6⟩ := hSw; go_simp; try with_reducible rfl)
        try simp only [Act.put, List.getElem_toArray, List.getElem_cons_succ, List.getElem_cons_zero, List.setIfInBounds_toArray, List.set_cons_zero, List.set_cons_succ]
        refine wpAnyH_take (i := 7) (v := ?sv7) rfl (by kernel_rfl) (by kernel_rfl) (by kernel_rfl) (fun _ _ _ h => h) (Or.inl ⟨by rfl, ?sy7⟩) (by assumption) ?sr7
        case sy7 => (intro w hSw; (try dsimp only at hSw); obtain ⟨hs1, hs2, hs3, hs4, hs5, hs6⟩ := hSw; go_simp; try with_reducible rfl)
        try simp only [Act.put, List.getElem_toArray, List.getElem_cons_succ, List.getElem_cons_zero, List.setIfInBounds_toArray, List.set_cons_zero, List.set_cons_succ]
        refine wpAnyH_take (i := 8) (v := ?sv8) rfl (by kernel_rfl) (by kernel_rfl) (by kernel_rfl) (fun _ _ _ h => h) (Or.inl ⟨by rfl, ?sy8⟩) (by assumption) ?sr8
        case sy8 => (intro w hSw; (try dsimp only at hSw); obtain ⟨hs1, hs2, hs3, hs4, hs5, hs6⟩ := hSw; go_simp; try with_reducible rfl)
        try simp only [Act.put, List.getElem_toArray, List.getElem_cons_succ, List.getElem_cons_zero, List.setIfInBounds_toArray, List.set_cons_zero, List.set_cons_succ]
        refine wpAnyH_take (i := 9) (v := ?sv9) rfl (by kernel_rfl) (by kernel_rfl) (by kernel_rfl) (fun _ _ _ h => h) (Or.inl ⟨by rfl, ?sy9⟩) (by assumption) ?sr9
        case sy9 => (intro w hSw; (try dsimp only at hSw); obtain ⟨hs1, hs2, hs3, hs4, hs5, hs6⟩ := hSw; go_simp; try with_reducible rfl)
        try simp only [Act.put, List.getElem_toArray, List.getElem_cons_succ, List.getElem_cons_zero, List.setIfInBounds_toArray, List.set_cons_zero, List.set_cons_succ]
        refine wpAnyH_take (i := 10) (v := ?sv10) rfl (by kernel_rfl) (by kernel_rfl) (by kernel_rfl) (fun _ _ _ h => h) (Or.inl ⟨by rfl, ?sy10⟩) (by assumption) ?sr10
        case sy10 => (intro w hSw; (try dsimp only at hSw); obtain ⟨hs1, hs2, hs3, hs4, hs5, hs6⟩ := hSw; go_simp; try with_reducible rfl)
        try simp only [Act.put, List.getElem_toArray, List.getElem_cons_succ, List.getElem_cons_zero, List.setIfInBounds_toArray, List.set_cons_zero, List.set_cons_succ]
        refine wpAnyH_take (i := 11) (v := ?sv11) rfl (by kernel_rfl) (by kernel_rfl) (by kernel_rfl) (fun _ _ _ h => h) (Or.inl ⟨by rfl, ?sy11⟩) (by assumption) ?sr11
        case sy11 => (intro w hSw; (try dsimp only at hSw); obtain ⟨hs1, hs2, hs3, hs4, hs5, hs6⟩ := hSw; go_simp; try with_reducible rfl)
        try simp only [Act.put, List.getElem_toArray, List.getElem_cons_succ, List.getElem_cons_zero, List.setIfInBounds_toArray, List.set_cons_zero, List.set_cons_succ]
        refine wpAnyH_take (i := 12) (v := ?sv12) rfl (by kernel_rfl) (by kernel_rfl) (by kernel_rfl) (fun _ _ _ h => h) (Or.inl ⟨by rfl, ?sy12⟩) (by assumption) ?sr12
        case sy12 => (intro w hSw; (try dsimp only at hSw); obtain ⟨hs1, hs2, hs3, hs4, hs5, hs6⟩ := hSw; go_simp; try with_reducible rfl)
        try simp only [Act.put, List.getElem_toArray, List.getElem_cons_succ, List.getElem_cons_zero, List.setIfInBounds_toArray, List.set_cons_zero, List.set_cons_succ]
        refine wpAnyH_take (i := 13) (v := ?sv13) rfl (by kernel_rfl) (by kernel_rfl) (by kernel_rfl) (fun _ _ _ h => h) (Or.inl ⟨by rfl, ?sy13⟩) (by assumption) ?sr13
        case sy13 => (intro w hSw; (try dsimp only at hSw); obtain ⟨hs1, hs2, hs3, hs4, hs5, hs6⟩ := hSw; go_simp; try with_reducible rfl)
        try simp only [Act.put, List.getElem_toArray, List.getElem_cons_succ, List.getElem_cons_zero, List.setIfInBounds_toArray, List.set_cons_zero, List.set_cons_succ]
        refine wpAnyH_take (i := 14) (v := ?sv14) rfl (by kernel_rfl) (by kernel_rfl) (by kernel_rfl) (fun _ _ _ h => h) (Or.inl ⟨by rfl, ?sy14⟩) (by assumption) ?sr14
        case sy14 => (intro w hSw; (try dsimp only at hSw); obtain ⟨hs1, hs2, hs3, hs4, hs5, hs6⟩ := hSw; go_simp; try with_reducible rfl)
        try simp only [Act.put, List.getElem_toArray, List.getElem_cons_succ, List.getElem_cons_zero, List.setIfInBounds_toArray, List.set_cons_zero, List.set_cons_succ]
        refine wpAnyH_take (i := 15) (v := ?sv15) rfl (by kernel_rfl) (by kernel_rfl) (by kernel_rfl) (fun _ _ _ h => h) (Or.inl ⟨by rfl, ?sy15⟩) (by assumption) ?sr15
        case sy15 => (intro w hSw; (try dsimp only at hSw); obtain ⟨hs1, hs2, hs3, hs4, hs5, hs6⟩ := hSw; go_simp; try with_reducible rfl)
        try simp only [Act.put, List.getElem_toArray, List.getElem_cons_succ, List.getElem_cons_zero, List.setIfInBounds_toArray, List.set_cons_zero, List.set_cons_succ]
        refine wpAnyH_take (i := 16) (v := ?sv16) rfl (by kernel_rfl) (by kernel_rfl) (by kernel_rfl) (fun _ _ _ h => h) (Or.inl ⟨by rfl, ?sy16⟩) (by assumption) ?sr16
        case sy16 => (intro w hSw; (try dsimp only at hSw); obtain ⟨hs1, hs2, hs3, hs4, hs5, hs6⟩ := hSw; go_simp; try with_reducible rfl)
        try simp only [Act.put, List.getElem_toArray, List.getElem_cons_succ, List.getElem_cons_zero, List.setIfInBounds_toArray, List.set_cons_zero, List.set_cons_succ]
        try simp only [W1, T1, W2, T2]
        refine wpAnyH_take (i := 17) (v := ?sv17) rfl (by kernel_rfl) (by kernel_rfl) (by kernel_rfl) (fun _ _ _ h => h) (Or.inl ⟨by rfl, ?sy17⟩) (by assumption) ?sr17
        case sy17 => (intro w hSw; (try dsimp only at hSw); obtain ⟨hs1, hs2, hs3, hs4, hs5, hs6⟩ := hSw; go_simp; try with_reducible rfl)
        try simp only [Act.put, List.getElem_toArray, List.getElem_cons_succ, List.getElem_cons_zero, List.setIfInBounds_toArray, List.set_cons_zero, List.set_cons_succ]
        try simp only [W1, T1, W2, T2]
        refine wpAnyH_take (i := 18) (v := ?sv18) rfl (by kernel_rfl) (by kernel_rfl) (by kernel_rfl) (fun _ _ _ h => h) (Or.inl ⟨by rfl, ?sy18⟩) (by assumption) ?sr18
        case sy18 => (intro w hSw; (try dsimp only at hSw); obtain ⟨hs1, hs2, hs3, hs4, hs5, hs6⟩ := hSw; go_simp; try with_reducible rfl)
        try simp only [Act.put, List.getElem_toArray, List.getElem_cons_succ, List.getElem_cons_zero, List.setIfInBounds_toArray, List.set_cons_zero, List.set_cons_succ]
        refine wpAnyH_take (i := 19) (v := ?sv19) rfl (by kernel_rfl) (by kernel_rfl) (by kernel_rfl) (fun _ _ _ h => h) (Or.inl ⟨by rfl, ?sy19⟩) (by assumption) ?sr19
        case sy19 => (intro w hSw; (try dsimp only at hSw); obtain ⟨hs1, hs2, hs3, hs4, hs5, hs6⟩ := hSw; go_simp; try with_reducible rfl)
        try simp only [Act.put, List.getElem_toArray, List.getElem_cons_succ, List.getElem_cons_zero, List.setIfInBounds_toArray, List.set_cons_zero, List.set_cons_succ]
        refine wpAnyH_take (i := 20) (v := ?sv20) rfl (by kernel_rfl) (by kernel_rfl) (by kernel_rfl) (fun _ _ _ h => h) (Or.inl ⟨by rfl, ?sy20⟩) (by assumption) ?sr20
        case sy20 => (intro w hSw; (try dsimp only at hSw); obtain ⟨hs1, hs2, hs3, hs4, hs5, hs6⟩ := hSw; go_simp; try with_reducible rfl)
        try simp only [Act.put, List.getElem_toArray, List.getElem_cons_succ, List.getElem_cons_zero, List.setIfInBounds_toArray, List.set_cons_zero, List.set_cons_succ]
        refine wpAnyH_take (i := 21) (v := ?sv21) rfl (by kernel_rfl) (by kernel_rfl) (by kernel_rfl) (fun _ _ _ h => h) (Or.inl ⟨by rfl, ?sy21⟩) (by assumption) ?sr21
        case sy21 => (intro w hSw; (try dsimp only at hSw); obtain ⟨hs1, hs2, hs3, hs4, hs5, hs6⟩ := hSw; go_simp; try with_reducible rfl)
        try simp only [Act.put, List.getElem_toArray, List.getElem_cons_succ, List.getElem_cons_zero, List.setIfInBounds_toArray, List.set_cons_zero, List.set_cons_succ]
        refine wpAnyH_take (i := 22) (v := ?sv22) rfl (by kernel_rfl) (by kernel_rfl) (by kernel_rfl) (fun _ _ _ h => h) (Or.inl ⟨by rfl, ?sy22⟩) (by assumption) ?sr22
        case sy22 => (intro w hSw; (try dsimp only at hSw); obtain ⟨hs1, hs2, hs3, hs4, hs5, hs6⟩ := hSw; go_simp; try with_reducible rfl)
        try simp only [Act.put, List.getElem_toArray, List.getElem_cons_succ, List.getElem_cons_zero, List.setIfInBounds_toArray, List.set_cons_zero, List.set_cons_succ]
        refine wpAnyH_take (i := 23) (v := ?sv23) rfl (by kernel_rfl) (by kernel_rfl) (by kernel_rfl) (fun _ _ _ h => h) (Or.inl ⟨by rfl, ?sy23⟩) (by assumption) ?sr23
        case sy23 => (intro w hSw; (try dsimp only at hSw); obtain ⟨hs1, hs2, hs3, hs4, hs5, hs6⟩ := hSw; go_simp; try with_reducible rfl)
        try simp only [Act.put, List.getElem_toArray, List.getElem_cons_succ, List.getElem_cons_zero, List.setIfInBounds_toArray, List.set_cons_zero, List.set_cons_succ]
        refine wpAnyH_take (i := 24) (v := ?sv24) rfl (by kernel_rfl) (by kernel_rfl) (by kernel_rfl) (fun _ _ _ h => h) (Or.inl ⟨by rfl, ?sy24⟩) (by assumption) ?sr24
        case sy24 => (intro w hSw; (try dsimp only at hSw); obtain ⟨hs1, hs2, hs3, hs4, hs5, hs6⟩ := hSw; go_simp; try with_reducible rfl)
        try simp only [Act.put, List.getElem_toArray, List.getElem_cons_succ, List.getElem_cons_zero, List.setIfInBounds_toArray, List.set_cons_zero, List.set_cons_succ]
        refine wpAnyH_take (i := 25) (v := ?sv25) rfl (by kernel_rfl) (by kernel_rfl) (by kernel_rfl) (fun _ _ _ h => h) (Or.inl ⟨by rfl, ?sy25⟩) (by assumption) ?sr25
        case sy25 => (intro w hSw; (try dsimp only at hSw); obtain ⟨hs1, hs2, hs3, hs4, hs5, hs6⟩ := hSw; go_simp; try with_reducible rfl)
        try simp only [Act.put, List.getElem_toArray, List.getElem_cons_succ, List.getElem_cons_zero, List.setIfInBounds_toArray, List.set_cons_zero, List.set_cons_succ]
        refine wpAnyH_take (i := 26) (v := ?sv26) rfl (by kernel_rfl) (by kernel_rfl) (by kernel_rfl) (fun _ _ _ h => h) (Or.inl ⟨by rfl, ?sy26⟩) (by assumption) ?sr26
        case sy26 => (intro w hSw; (try dsimp only at hSw); obtain ⟨hs1, hs2, hs3, hs4, hs5, hs6⟩ := hSw; go_simp; try with_reducible rfl)
        try simp only [Act.put, List.getElem_toArray, List.getElem_cons_succ, List.getElem_cons_zero, List.setIfInBounds_toArray, List.set_cons_zero, List.set_cons_succ]
        refine wpAnyH_take (i := 27) (v := ?sv27) rfl (by kernel_rfl) (by kernel_rfl) (by kernel_rfl) (fun _ _ _ h => h) (Or.inl ⟨by rfl, ?sy27⟩) (by assumption) ?sr27
        case sy27 => (intro w hSw; (try dsimp only at hSw); obtain ⟨hs1, hs2, hs3, hs4, hs5, hs6⟩ := hSw; go_simp; try with_reducible rfl)
        try simp only [Act.put, List.getElem_toArray, List.getElem_cons_succ, List.getElem_cons_zero, List.setIfInBounds_toArray, List.set_cons_zero, List.set_cons_succ]
        refine wpAnyH_take (i := 28) (v := ?sv28) rfl (by kernel_rfl) (by kernel_rfl) (by kernel_rfl) (fun _ _ _ h => h) (Or.inl ⟨by rfl, ?sy28⟩) (by assumption) ?sr28
        case sy28 => (intro w hSw; (try dsimp only at hSw); obtain ⟨hs1, hs2, hs3, hs4, hs5, hs6⟩ := hSw; go_simp; try with_reducible rfl)
        try simp only [Act.put, List.getElem_toArray, List.getElem_cons_succ, List.getElem_cons_zero, List.setIfInBounds_toArray, List.set_cons_zero, List.set_cons_succ]
        refine wpAnyH_take (i := 29) (v := ?sv29) rfl (by kernel_rfl) (by kernel_rfl) (by kernel_rfl) (fun _ _ _ h => h) (Or.inl ⟨by rfl, ?sy29⟩) (by assumption) ?sr29
        case sy29 => (intro w hSw; (try dsimp only at hSw); obtain ⟨hs1, hs2, hs3, hs4, hs5, hs6⟩ := hSw; go_simp; try with_reducible rfl)
        try simp only [Act.put, List.getElem_toArray, List.getElem_cons_succ, List.getElem_cons_zero, List.setIfInBounds_toArray, List.set_cons_zero, List.set_cons_succ]
        try simp only [W1, T1, W2, T2]
        refine wpAnyH_take (i := 30) (v := ?sv30) rfl (by kernel_rfl) (by kernel_rfl) (by kernel_rfl) (fun _ _ _ h => h) (Or.inl ⟨by rfl, ?sy30⟩) (by assumption) ?sr30
        case sy30 => (intro w hSw; (try dsimp only at hSw); obtain ⟨hs1, hs2, hs3, hs4, hs5, hs6⟩ := hSw; go_simp; try with_reducible rfl)
        try simp only [Act.put, List.getElem_toArray, List.getElem_cons_succ, List.getElem_cons_zero, List.setIfInBounds_toArray, List.set_cons_zero, List.set_cons_succ]
        try simp only [W1, T1, W2, T2]
        refine wpAnyH_take (i := 31) (v := ?sv31) rfl (by kernel_rfl) (by kernel_rfl) (by kernel_rfl) (fun _ _ _ h => h) (Or.inl ⟨by rfl, ?sy31⟩) (by assumption) ?sr31
        case sy31 => (intro w hSw; (try dsimp only at hSw); obtain ⟨hs1, hs2, hs3, hs4, hs5, hs6⟩ := hSw; go_simp; try with_reducible rfl)
        try simp only [Act.put, List.getElem_toArray, List.getElem_cons_succ, List.getElem_cons_zero, List.setIfInBounds_toArray, List.set_cons_zero, List.set_cons_succ]
        refine wpAnyH_done (by kernel_rfl) ?_ _
        have HQ1 := Lib.hid (HQ.out.new HBW.out)
        have HB1 : Hid (Below B wr V1) := HBW.out.mono hBr
        have HTM1 : Hid (allMay (l.take (k + 1)) = true) := by show _ = _; rw [HTM.out, HMA.out, HM.out]; rfl
        clear hHeld CM HHS W1 W2 T1 T2
        obtain ⟨rr, hrr⟩ : ∃ rr, rr = rising 0 (l.take k) := ⟨_, rfl⟩
        rw [← hrr] at HTR ⊢
        clear hrr
        have m0 : V1.cell? ⟨w.heap.size + 1, 0, none⟩ = some (.int .i64 last) := HQ1.out.1.cell 0
        have mf0 := HQ1.out.1.frozen 0
        obtain ⟨m1, _, _⟩ := HXS.out _ HB1.out
        have hbp : b ≠ w.heap.size + 1 := by omega
        have hpb : w.heap.size + 1 ≠ b := by omega
        cases rr
        all_goals (
          go_upto_region 8 with fail
          go_quiet (fail)
          go_upto_region 10 with fail
          have HQ10 : Hid (R2 w #[.int .i64 u, .slice A3 N3 c3, .slice A4 N4 c4] (.slice A3 N3 c3) N3 (ov (allOps (l.take k))) (.slice A4 N4 c4) N4 (ntv (allNotes (l.take k))) ((V1.drewN nq).setCell ⟨w.heap.size + 1, 0, none⟩ (.int .i64 u))) := (HQ1.out.new (below_drewN (Below.refl _ _) nq)).store 0 (.int .i64 u)
          have HB10 : Hid (Below B wr ((V1.drewN nq).setCell ⟨w.heap.size + 1, 0, none⟩ (.int .i64 u))) := (below_drewN HB1.out nq).setCell (by show B ≤ w.heap.size + 1; omega) _
          generalize ((V1.drewN nq).setCell ⟨w.heap.size + 1, 0, none⟩ (.int .i64 u)) = V10 at HQ10 HB10 ⊢
          have p1 : V10.cell? ⟨w.heap.size + 1, 1, none⟩ = some (.slice A3 N3 c3) := HQ10.out.1.cell 1
          obtain ⟨_, p2, _⟩ := HXS.out _ HB10.out
          have HQd := Lib.hid (HQ10.out.new (held_start V10))
          have HBd : Hid (Below B wr V10.drew) := HB10.out.drew
          have hzd : w.heap.size + 2 ≤ V10.drew.heap.size := HQd.out.lt
          clear m0 mf0 m1 HQ1 HB1
          refine wp_region_last_at (S := fun w' => w'.cell? ⟨w.heap.size + 1, 1, none⟩ = some (.slice A3 N3 c3) ∧ w'.cell? ⟨b, off + k * 3 + 1, none⟩ = some (.slice A5 n5 c5)) 9 _ rfl rfl (by kernel_rfl) (by kernel_rfl) (by kernel_rfl) ⟨by assumption, by assumption⟩ (fun hHeld => ?_)
          simp only [List.take_succ_cons, List.take_zero]
          refine wpAnyH_take (i := 0) (v := ?_) rfl (by kernel_rfl) (by kernel_rfl) (by kernel_rfl) (fun _ _ _ h => h) (Or.inl ⟨by rfl, ?_⟩) (by assumption) ?_
          rotate_left 1
          · (intro w hSw; (try dsimp only at hSw); obtain ⟨hSa, hSb⟩ := hSw; go_simp; try with_reducible rfl)
          try simp only [Act.put, List.getElem_toArray, List.getElem_cons_succ, List.getElem_cons_zero, List.setIfInBounds_toArray, List.set_cons_zero, List.set_cons_succ]
          refine wpAnyH_take (i := 1) (v := ?_) rfl (by kernel_rfl) (by kernel_rfl) (by kernel_rfl) (fun _ _ _ h => h) (Or.inl ⟨by rfl, ?_⟩) (by assumption) ?_
          rotate_left 1
          · (intro w hSw; (try dsimp only at hSw); obtain ⟨hSa, hSb⟩ := hSw; go_simp; try with_reducible rfl)
          try simp only [Act.put, List.getElem_toArray, List.getElem_cons_succ, List.getElem_cons_zero, List.setIfInBounds_toArray, List.set_cons_zero, List.set_cons_succ]
          refine wpAnyH_take (i := 2) (v := ?_) rfl (by kernel_rfl) (by kernel_rfl) (by kernel_rfl) (fun _ _ _ h => h) (Or.inl ⟨by rfl, ?_⟩) (by assumption) ?_
          rotate_left 1
          · (intro w hSw; (try dsimp only at hSw); obtain ⟨hSa, hSb⟩ := hSw; go_simp; try with_reducible rfl)
          try simp only [Act.put, List.getElem_toArray, List.getElem_cons_succ, List.getElem_cons_zero, List.setIfInBounds_toArray, List.set_cons_zero, List.set_cons_succ]
          refine wpAnyH_take (i := 3) (v := ?_) rfl (by kernel_rfl) (by kernel_rfl) (by kernel_rfl) (fun _ _ _ h => h) (Or.inl ⟨by rfl, ?_⟩) (by assumption) ?_
          rotate_left 1
          · (intro w hSw; (try dsimp only at hSw); obtain ⟨hSa, hSb⟩ := hSw; go_simp; try with_reducible rfl)
          try simp only [Act.put, List.getElem_toArray, List.getElem_cons_succ, List.getElem_cons_zero, List.setIfInBounds_toArray, List.set_cons_zero, List.set_cons_succ]
          refine wpAnyH_take (i := 4) (v := ?_) rfl (by kernel_rfl) (by kernel_rfl) (by kernel_rfl) (fun _ _ _ h => h) (Or.inl ⟨by rfl, ?_⟩) (by assumption) ?_
          rotate_left 1
          · (intro w hSw; (try dsimp only at hSw); obtain ⟨hSa, hSb⟩ := hSw; go_simp; try with_reducible rfl)
          try simp only [Act.put, List.getElem_toArray, List.getElem_cons_succ, List.getElem_cons_zero, List.setIfInBounds_toArray, List.set_cons_zero, List.set_cons_succ]
          refine wpAnyH_take (i := 5) (v := ?_) rfl (by kernel_rfl) (by kernel_rfl) (by kernel_rfl) (fun _ _ _ h => h) (Or.inl ⟨by rfl, ?_⟩) (by assumption) ?_
          rotate_left 1
          · (intro w hSw; (try dsimp only at hSw); obtain ⟨hSa, hSb⟩ := hSw; go_simp; try with_reducible rfl)
          try simp only [Act.put, List.getElem_toArray, List.getElem_cons_succ, List.getElem_cons_zero, List.setIfInBounds_toArray, List.set_cons_zero, List.set_cons_succ]
          refine wpAnyH_take (i := 6) (v := ?_) rfl (by kernel_rfl) (by kernel_rfl) (by kernel_rfl) (fun _ _ _ h => h) (Or.inl ⟨by rfl, ?_⟩) (by assumption) ?_
          rotate_left 1
          · (intro w hSw; (try dsimp only at hSw); obtain ⟨hSa, hSb⟩ := hSw; go_simp; try with_reducible rfl)
          try simp only [Act.put, List.getElem_toArray, List.getElem_cons_succ, List.getElem_cons_zero, List.setIfInBounds_toArray, List.set_cons_zero, List.set_cons_succ]
          refine wpAnyH_ready (rs := [7]) (by kernel_rfl) (by simp) ?_
          refine AllReadyH.cons rfl (fun K hK => ?_) AllReadyH.nil
          refine step_append_row (by rfl) (.tmp 64) (.tmp 69) (by rfl) oel (w.heap.size + 2) (.slice A3 N3 c3) N3 (ov (allOps (l.take k))) (by rfl) (HQd.out.2.1) B A5 n5 c5 (ov x.ops) (by rfl) (HG1.out.below HBd.out) (ov_one _) (by omega) (by omega) (by exact hzd) ?_
          intro A7 c7 w7 hown7 hg7 hb7
          rw [← ov_append, ← HT1.out] at hown7
          have HQ7 := Lib.hid (HQd.out.ops hown7 hg7 hb7)
          have HB7 : Hid (Below B wr w7) := HBd.out.trans (hb7.mono (by omega))
          have n1' : w7.cell? ⟨w.heap.size + 1, 1, none⟩ = some (.slice A3 N3 c3) := HQ7.out.1.cell 1
          have nf1 := HQ7.out.1.frozen 1
          obtain ⟨_, n2', _⟩ := HXS.out _ HB7.out
          clear hown7 hg7 hb7
          refine hK.out _ _ ⟨n1', n2'⟩ (fun hHeld => ?_)
          clear hK K
          try simp only [Act.put, List.getElem_toArray, List.getElem_cons_succ, List.getElem_cons_zero, List.setIfInBounds_toArray, List.set_cons_zero, List.set_cons_succ]
          refine wpAnyH_take (i := 8) (v := ?_) rfl (by kernel_rfl) (by kernel_rfl) (by kernel_rfl) (fun _ _ _ h => h) (Or.inl ⟨by rfl, ?_⟩) (by assumption) ?_
          rotate_left 1
          · (intro w hSw; (try dsimp only at hSw); obtain ⟨hSa, hSb⟩ := hSw; go_simp; try with_reducible rfl)
          try simp only [Act.put, List.getElem_toArray, List.getElem_cons_succ, List.getElem_cons_zero, List.setIfInBounds_toArray, List.set_cons_zero, List.set_cons_succ]
          refine wpAnyH_done (by kernel_rfl) ?_ _
          refine then_normal rfl ?_
          go_upto_region 11 with fail
          have HQ11 : Hid (R2 w #[.int .i64 u, .slice A7 (N3 + n5) c7, .slice A4 N4 c4] (.slice A7 (N3 + n5) c7) (N3 + n5) (ov (allOps (l.take (k + 1)))) (.slice A4 N4 c4) N4 (ntv (allNotes (l.take k))) (w7.setCell ⟨w.heap.size + 1, 1, none⟩ (.slice A7 (N3 + n5) c7))) := HQ7.out.store 1 (.slice A7 (N3 + n5) c7)
          have HB11 : Hid (Below B wr (w7.setCell ⟨w.heap.size + 1, 1, none⟩ (.slice A7 (N3 + n5) c7))) := HB7.out.setCell (by show B ≤ w.heap.size + 1; omega) _
          generalize (w7.setCell ⟨w.heap.size + 1, 1, none⟩ (.slice A7 (N3 + n5) c7)) = V11 at HQ11 HB11 ⊢
          clear HQ7 HB7 n1' n2' nf1 hHeld p1 p2 HQd HBd hzd HQ10 HB10
          have p1 : V11.cell? ⟨w.heap.size + 1, 2, none⟩ = some (.slice A4 N4 c4) := HQ11.out.1.cell 2
          obtain ⟨_, _, p2⟩ := HXS.out _ HB11.out
          have HQd := Lib.hid (HQ11.out.new (held_start V11))
          have HBd : Hid (Below B wr V11.drew) := HB11.out.drew
          have hzd : w.heap.size + 2 ≤ V11.drew.heap.size := HQd.out.lt
          refine wp_region_last_at (S := fun w' => w'.cell? ⟨w.heap.size + 1, 2, none⟩ = some (.slice A4 N4 c4) ∧ w'.cell? ⟨b, off + k * 3 + 2, none⟩ = some (.slice A6 n6 c6)) 9 _ rfl rfl (by kernel_rfl) (by kernel_rfl) (by kernel_rfl) ⟨by assumption, by assumption⟩ (fun hHeld => ?_)
          simp only [List.take_succ_cons, List.take_zero]
          refine wpAnyH_take (i := 0) (v := ?_) rfl (by kernel_rfl) (by kernel_rfl) (by kernel_rfl) (fun _ _ _ h => h) (Or.inl ⟨by rfl, ?_⟩) (by assumption) ?_
          rotate_left 1
          · (intro w hSw; (try dsimp only at hSw); obtain ⟨hSa, hSb⟩ := hSw; go_simp; try with_reducible rfl)
          try simp only [Act.put, List.getElem_toArray, List.getElem_cons_succ, List.getElem_cons_zero, List.setIfInBounds_toArray, List.set_cons_zero, List.set_cons_succ]
          refine wpAnyH_take (i := 1) (v := ?_) rfl (by kernel_rfl) (by kernel_rfl) (by kernel_rfl) (fun _ _ _ h => h) (Or.inl ⟨by rfl, ?_⟩) (by assumption) ?_
          rotate_left 1
          · (intro w hSw; (try dsimp only at hSw); obtain ⟨hSa, hSb⟩ := hSw; go_simp; try with_reducible rfl)
          try simp only [Act.put, List.getElem_toArray, List.getElem_cons_succ, List.getElem_cons_zero, List.setIfInBounds_toArray, List.set_cons_zero, List.set_cons_succ]
          refine wpAnyH_take (i := 2) (v := ?_) rfl (by kernel_rfl) (by kernel_rfl) (by kernel_rfl) (fun _ _ _ h => h) (Or.inl ⟨by rfl, ?_⟩) (by assumption) ?_
          rotate_left 1
          · (intro w hSw; (try dsimp only at hSw); obtain ⟨hSa, hSb⟩ := hSw; go_simp; try with_reducible rfl)
          try simp only [Act.put, List.getElem_toArray, List.getElem_cons_succ, List.getElem_cons_zero, List.setIfInBounds_toArray, List.set_cons_zero, List.set_cons_succ]
          refine wpAnyH_take (i := 3) (v := ?_) rfl (by kernel_rfl) (by kernel_rfl) (by kernel_rfl) (fun _ _ _ h => h) (Or.inl ⟨by rfl, ?_⟩) (by assumption) ?_
          rotate_left 1
          · (intro w hSw; (try dsimp only at hSw); obtain ⟨hSa, hSb⟩ := hSw; go_simp; try with_reducible rfl)
          try simp only [Act.put, List.getElem_toArray, List.getElem_cons_succ, List.getElem_cons_zero, List.setIfInBounds_toArray, List.set_cons_zero, List.set_cons_succ]
          refine wpAnyH_take (i := 4) (v := ?_) rfl (by kernel_rfl) (by kernel_rfl) (by kernel_rfl) (fun _ _ _ h => h) (Or.inl ⟨by rfl, ?_⟩) (by assumption) ?_
          rotate_left 1
          · (intro w hSw; (try dsimp only at hSw); obtain ⟨hSa, hSb⟩ := hSw; go_simp; try with_reducible rfl)
          try simp only [Act.put, List.getElem_toArray, List.getElem_cons_succ, List.getElem_cons_zero, List.setIfInBounds_toArray, List.set_cons_zero, List.set_cons_succ]
          refine wpAnyH_take (i := 5) (v := ?_) rfl (by kernel_rfl) (by kernel_rfl) (by kernel_rfl) (fun _ _ _ h => h) (Or.inl ⟨by rfl, ?_⟩) (by assumption) ?_
          rotate_left 1
          · (intro w hSw; (try dsimp only at hSw); obtain ⟨hSa, hSb⟩ := hSw; go_simp; try with_reducible rfl)
          try simp only [Act.put, List.getElem_toArray, List.getElem_cons_succ, List.getElem_cons_zero, List.setIfInBounds_toArray, List.set_cons_zero, List.set_cons_succ]
          refine wpAnyH_take (i := 6) (v := ?_) rfl (by kernel_rfl) (by kernel_rfl) (by kernel_rfl) (fun _ _ _ h => h) (Or.inl ⟨by rfl, ?_⟩) (by assumption) ?_
          rotate_left 1
          · (intro w hSw; (try dsimp only at hSw); obtain ⟨hSa, hSb⟩ := hSw; go_simp; try with_reducible rfl)
          try simp only [Act.put, List.getElem_toArray, List.getElem_cons_succ, List.getElem_cons_zero, List.setIfInBounds_toArray, List.set_cons_zero, List.set_cons_succ]
          refine wpAnyH_ready (rs := [7]) (by kernel_rfl) (by simp) ?_
          refine AllReadyH.cons rfl (fun K hK => ?_) AllReadyH.nil
          refine step_append_row (by rfl) (.tmp 73) (.tmp 78) (by rfl) ntel (w.heap.size + 2) (.slice A4 N4 c4) N4 (ntv (allNotes (l.take k))) (by rfl) (HQd.out.2.2.1) B A6 n6 c6 (ntv x.notes) (by rfl) (HG2.out.below HBd.out) (ntv_one _) (by omega) (by omega) (by exact hzd) ?_
          intro A8 c8 w8 hown8 hg8 hb8
          rw [← ntv_append, ← HT2.out] at hown8
          have HQ8 := Lib.hid (HQd.out.nts hown8 hg8 hb8)
          have HB8 : Hid (Below B wr w8) := HBd.out.trans (hb8.mono (by omega))
          have n1' : w8.cell? ⟨w.heap.size + 1, 2, none⟩ = some (.slice A4 N4 c4) := HQ8.out.1.cell 2
          have nf1 := HQ8.out.1.frozen 2
          obtain ⟨_, _, n2'⟩ := HXS.out _ HB8.out
          clear hown8 hg8 hb8
          refine hK.out _ _ ⟨n1', n2'⟩ (fun hHeld => ?_)
          clear hK K
          try simp only [Act.put, List.getElem_toArray, List.getElem_cons_succ, List.getElem_cons_zero, List.setIfInBounds_toArray, List.set_cons_zero, List.set_cons_succ]
          refine wpAnyH_take (i := 8) (v := ?_) rfl (by kernel_rfl) (by kernel_rfl) (by kernel_rfl) (fun _ _ _ h => h) (Or.inl ⟨by rfl, ?_⟩) (by assumption) ?_
          rotate_left 1
          · (intro w hSw; (try dsimp only at hSw); obtain ⟨hSa, hSb⟩ := hSw; go_simp; try with_reducible rfl)
          try simp only [Act.put, List.getElem_toArray, List.getElem_cons_succ, List.getElem_cons_zero, List.setIfInBounds_toArray, List.set_cons_zero, List.set_cons_succ]
          refine wpAnyH_done (by kernel_rfl) ?_ _
          refine then_normal rfl ?_
          have HQ12 : Hid (R2 w #[.int .i64 u, .slice A7 (N3 + n5) c7, .slice A8 (N4 + n6) c8] (.slice A7 (N3 + n5) c7) (N3 + n5) (ov (allOps (l.take (k + 1)))) (.slice A8 (N4 + n6) c8) (N4 + n6) (ntv (allNotes (l.take (k + 1)))) (w8.setCell ⟨w.heap.size + 1, 2, none⟩ (.slice A8 (N4 + n6) c8))) := HQ8.out.store 2 (.slice A8 (N4 + n6) c8)
          go_wp2
          go_roundw
          case rel =>
            refine ⟨k + 1, by omega, by go_num, A7, N3 + n5, c7, A8, N4 + n6, c8, ?_, HTM1.out, by omega, by omega, ?_, by rw [HT1.out, List.length_append, HN3.out, H5.out], by rw [HT2.out, List.length_append, HN4.out, H6.out], HQ12.out.2.1, HQ12.out.2.2.1, HQ12.out.2.2.2.1, HQ12.out.2.2.2.2⟩
            · rw [HTR.out]
              first
                | rfl
                | simp
            · rw [HTL.out]
              exact HQ12.out.1
          case measure => simp [intOf]; omega)
    · obtain rfl : k = n := by omega
      have hlk : l.take k = l := List.take_of_length_le (by rw [HL.out]; omega)
      rw [hlk] at HQ HMA HN3 HN4 ⊢
      have q0 : wr.cell? ⟨w.heap.size, 0, none⟩ = some (.int .i64 0) := HQ.out.2.2.2.1.cell 0
      have q1 : wr.cell? ⟨w.heap.size, 1, none⟩ = some (.slice none 0 0) := HQ.out.2.2.2.1.cell 1
      have q2 : wr.cell? ⟨w.heap.size, 2, none⟩ = some (.slice none 0 0) := HQ.out.2.2.2.1.cell 2
      have r0 := HQ.out.2.2.2.1.frozen 0
      have r1 := HQ.out.2.2.2.1.frozen 1
      have r2 := HQ.out.2.2.2.1.frozen 2
      have lkk : ¬ (k : Int) < (k : Int) := by omega
      by_cases h0 : k = 0
      · have HE : Hid (join l = .error 1) := by
          show _ = _
          have hl0 : l = [] := List.eq_nil_of_length_eq_zero (by rw [HL.out]; exact h0)
          rw [hl0]
          rfl
        have e0 : ((k : Int) == 0) = true := by simp; omega
        clear hlk
        go_wp2
        refine bodyPost_ret (v := .tuple #[itv 0 none 0 0 none 0 0, .int .i64 1]) (by simp [itv, results, Try.results24, go_sem, q0, q1, q2]) rfl ?_
        exact itO_no HE.out rfl (three_below HQ.out.2.2.2.2 _ _ _)
      have e0 : ((k : Int) == 0) = false := by simp; omega
      have hne : l ≠ [] := fun e => h0 (by rw [← HL.out, e]; rfl)
      have HJ := Lib.hid (rjoin_done hne HMA.out (by rw [HN3.out]; exact hm3) (by rw [HN4.out]; exact hm4))
      have p0 : wr.cell? ⟨w.heap.size + 1, 0, none⟩ = some (.int .i64 (lastLsn 0 l)) := HQ.out.1.cell 0
      have p1 : wr.cell? ⟨w.heap.size + 1, 1, none⟩ = some (.slice A3 N3 c3) := HQ.out.1.cell 1
      have p2 : wr.cell? ⟨w.heap.size + 1, 2, none⟩ = some (.slice A4 N4 c4) := HQ.out.1.cell 2
      generalize hL : lastLsn 0 l = L at *
      clear hlk hne
      cases hr : rising 0 l with
      | false =>
        rw [hr] at HJ
        clear hr
        go_wp2
        refine bodyPost_ret (v := .tuple #[itv 0 none 0 0 none 0 0, .int .i64 10]) (by simp [itv, results, Try.results24, go_sem, q0, q1, q2]) rfl ?_
        exact itO_no (k := 10) HJ.out rfl (three_below HQ.out.2.2.2.2 _ _ _)
      | true =>
        rw [hr, if_pos rfl] at HJ
        clear hr
        go_wp2
        have hon := three_on wr w.heap.size (.int .i64 L) (.slice A3 N3 c3) (.slice A4 N4 c4)
        refine bodyPost_ret (v := .tuple #[itv L A3 N3 c3 A4 N4 c4, .int .i64 0]) (by simp [itv, results, Try.results24, go_sem, q0, q1, q2]) rfl ?_
        unfold ItO
        rw [HJ.out]
        exact ⟨A3, N3, c3, A4, N4, c4, rfl, ⟨own_mono (HQ.out.2.1.kept hon (.inr fun e => by have := (HQ.out.2.1.lt _ e).1; omega)) (by omega), own_mono (HQ.out.2.2.1.kept hon (.inr fun e => by have := (HQ.out.2.2.1.lt _ e).1; omega)) (by omega)⟩, three_below HQ.out.2.2.2.2 _ _ _⟩
end Go.Proofs.Ytlkjmdkmcaaihaa.Bt
