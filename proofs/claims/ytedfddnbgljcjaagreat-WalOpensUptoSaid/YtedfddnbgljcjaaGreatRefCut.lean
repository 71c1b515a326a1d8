/-
  Contracts of the document's own operations on a disk: Cut, Remove, Append.
-/
import Derived.Test.YtedfddnbgljcjaaGreatRefMem
import Derived.Test.YtedfddnbgljcjaaGreatRegionLast
import Derived.Deep.DeepCutAuto
namespace Go.Proofs.YtedfddnbgljcjaaGreat.Ref
set_option maxRecDepth 100000
open Go.RowKit Base DiskMath Disk Last
set_option linter.ambiguousOpen false
set_option linter.unusedSimpArgs false

set_option maxRecDepth 100000 in
set_option maxHeartbeats 1600000 in
theorem refcut_do (F : Nat → Prop) (h : Nat) (d : Dk) (f : Int) (n : Nat) (w : World) (hr : RefAt F w h d) (hf : Fits d) (hrf : refuse d f true = 0) (hn : (n : Int) ≤ size d f) (hl : ¬ d.left = 1) (hsz : ∀ x, seek d.files f = some x → x.b.length ≤ 140737488355328) :
    Calls Tryz.prog 38 #[.pointer (some ⟨h, 0, none⟩), .int .i64 f, .int .i64 n] w (RDone F w h (cut d f n)) := by
  have HR := Lib.hid hr
  have hup := hr.up
  obtain ⟨A, c, bl, hh, hg, hb⟩ := hr
  obtain ⟨hoff, _, _, x, hx⟩ := refuse_zero hrf
  have hsize := size_seen hx
  have hnx : n ≤ x.b.length := by rw [hsize] at hn; omega
  have hxs := hsz x hx
  have hp := place_seek hup hx
  have hlt := len_of hp
  have hlen := hup.le
  have HH := Lib.hid hh
  have HB := Lib.hid hb
  have HO := Lib.hid hoff
  have HRF := Lib.hid hrf
  have HX := Lib.hid hx
  have HP := Lib.hid hp
  have HU := Lib.hid hup
  have HI := Lib.hid (show isIn d.files f = true by rw [isIn, hx]; rfl)
  have HT := Lib.hid (decide_eq_false hl)
  have HS := Lib.hid (show cut d f n = (0, { tick d with files := put d.files f (trim n) }) by rw [cut, if_pos hrf, hsize, if_neg (by omega), (told_more hl _).2, Int.toNat_natCast])
  clear hh hb hoff hx hp hup hsize hn hsz hl hrf
  go_enter Tryz.func38, Tryz.ntmps38
  go_wp2_with fail
  refine (refused_any F h d f true w HR.out).mono ?_
  rintro e w1 ⟨rfl, q, rfl⟩
  rw [HRF.out]
  go_wp2_with fail
  refine (at_any F h d f (w.drewN q) HR.out).mono ?_
  rintro e W ⟨rfl, q2, hW⟩
  rw [HI.out]
  have hbW : RBody W F d.files A c bl := by rw [← hW]; exact HB.out
  have hhW : RHead W h d A d.files.length c := by rw [← hW]; exact HH.out
  have htW : Turn F w W := by rw [← hW]; exact ((Turn.refl F w).drewN q).drewN q2
  have c0 := hhW.cells.1
  obtain ⟨g, cur, rfl, hFg, hbk, _, _, _, k2⟩ := hbW.at_ HP.out
  have HHW := Lib.hid hhW
  have HBW := Lib.hid hbW
  have HTW := Lib.hid htW
  clear hW HB HH hhW hbW htW hbk
  have hb1 : decide ((n : Int) < 0) = false := by simp
  have hb2 : decide (x.b.length < n) = false := by simp; omega
  have hb3 : decide ((x.b.length : Int) < (n : Int)) = false := by simp; omega
  generalize hm : x.b.length = m at k2 hb2 hb3 hnx hxs
  generalize (bl x.id).A = A2 at k2
  generalize (bl x.id).c = c2 at k2
  have HM := Lib.hid hm
  clear hm
  generalize hpp : place f d.files = p at *
  have HPP := Lib.hid hpp
  clear hpp
  generalize hNN : d.files.length = N at *
  have HNN := Lib.hid hNN
  clear hNN
  go_wp2_with fail
  refine (goes_any h N c _ d W HHW.out HO.out hf).mono ?_
  rintro e W2 ⟨rfl, hh2, hw2⟩
  have hb2' : RBody W2 F d.files (some ⟨g, 0, none⟩) c bl := HBW.out.head HHW.out hw2
  have ht2 : Turn F w W2 := HTW.out.trans (Turn.grown (F := F) hw2 fun k e => by injection e with e; rw [← e]; exact hg) fun _ hi => .inl hi
  have d0 := hh2.cells.1
  obtain ⟨g', cur2, hgg, _, hbk2, _, _, j1, j2⟩ := hb2'.at_ HP.out
  obtain rfl : g = g' := by injection hgg with hgg; injection hgg
  have hBx : BAt W2 F x (bl x.id) := hb2'.2.2.1 x (List.mem_of_getElem? HP.out)
  have hY := (BAt.bytes hBx).front (k := n) (by rw [HM.out]; exact hnx)
  have hYl := (BAt.bytes hBx).le
  rw [HM.out] at hYl
  rw [HM.out] at j2
  generalize hA2 : (bl x.id).A = A3 at j2 hY hYl
  generalize hC2 : (bl x.id).c = c3 at j2 hY hYl
  have hnc : (n : Int) ≤ (c3 : Int) := by omega
  have HY := Lib.hid hY
  have HH2 := Lib.hid hh2
  have HB2 := Lib.hid hb2'
  have HT2 := Lib.hid ht2
  have HK2 := Lib.hid hbk2
  clear hh2 hb2' ht2 hw2 hgg hBx hY hbk2 hA2 hC2 HHW HBW HTW c0 k2
  rw [HT.out]
  go_wp2_with fail
  refine wp_region_last_at (S := fun w' => w'.cell? ⟨h, 0, none⟩ = some (.slice (some ⟨g, 0, none⟩) N c) ∧ w'.cell? ⟨g, p * 3 + 2, none⟩ = some (.slice A3 m c3) ∧ Below W2.heap.size W2 w') 19 _ rfl rfl (by kernel_rfl) (by kernel_rfl) (by kernel_rfl) (held2 (held_start W2) d0 j2) (fun hHeld => ?_)
  simp only [List.take_succ_cons, List.take_zero]
  refine wpAnyH_take (i := 0) (v := ?av0) rfl (by kernel_rfl) (by kernel_rfl) (by kernel_rfl) (fun _ _ _ h => h) (Or.inl ⟨by rfl, ?ay0⟩) (by assumption) ?ar0
  case ay0 => (intro w hSw; (try dsimp only at hSw); go_simp; try with_reducible rfl)
  try simp only [Act.put, List.setIfInBounds_toArray, List.set_cons_zero, List.set_cons_succ]
  refine wpAnyH_take (i := 1) (v := ?av1) rfl (by kernel_rfl) (by kernel_rfl) (by kernel_rfl) (fun _ _ _ h => h) (Or.inl ⟨by rfl, ?ay1⟩) (by assumption) ?ar1
  case ay1 => (intro w hSw; (try dsimp only at hSw); go_simp; try with_reducible rfl)
  try simp only [Act.put, List.setIfInBounds_toArray, List.set_cons_zero, List.set_cons_succ]
  refine wpAnyH_take (i := 2) (v := ?av2) rfl (by kernel_rfl) (by kernel_rfl) (by kernel_rfl) (fun _ _ _ h => h) (Or.inl ⟨by rfl, ?ay2⟩) (by assumption) ?ar2
  case ay2 => (intro w hSw; (try dsimp only at hSw); go_simp; try with_reducible rfl)
  try simp only [Act.put, List.setIfInBounds_toArray, List.set_cons_zero, List.set_cons_succ]
  refine wpAnyH_take (i := 3) (v := ?av3) rfl (by kernel_rfl) (by kernel_rfl) (by kernel_rfl) (fun _ _ _ h => h) (Or.inl ⟨by rfl, ?ay3⟩) (by assumption) ?ar3
  case ay3 => (intro w hSw; (try dsimp only at hSw); go_simp; try with_reducible rfl)
  try simp only [Act.put, List.setIfInBounds_toArray, List.set_cons_zero, List.set_cons_succ]
  refine wpAnyH_take (i := 4) (v := ?av4) rfl (by kernel_rfl) (by kernel_rfl) (by kernel_rfl) (fun _ _ _ h => h) (Or.inl ⟨by rfl, ?ay4⟩) (by assumption) ?ar4
  case ay4 => (intro w hSw; (try dsimp only at hSw); go_simp; try with_reducible rfl)
  try simp only [Act.put, List.setIfInBounds_toArray, List.set_cons_zero, List.set_cons_succ]
  refine wpAnyH_take (i := 6) (v := ?av6) rfl (by kernel_rfl) (by kernel_rfl) (by kernel_rfl) (fun _ _ _ h => h) (Or.inl ⟨by rfl, ?ay6⟩) (by assumption) ?ar6
  case ay6 => (intro w hSw; (try dsimp only at hSw); go_simp; try with_reducible rfl)
  try simp only [Act.put, List.setIfInBounds_toArray, List.set_cons_zero, List.set_cons_succ]
  refine wpAnyH_take (i := 7) (v := ?av7) rfl (by kernel_rfl) (by kernel_rfl) (by kernel_rfl) (fun _ _ _ h => h) (Or.inl ⟨by rfl, ?ay7⟩) (by assumption) ?ar7
  case ay7 => (intro w hSw; (try dsimp only at hSw); go_simp; try with_reducible rfl)
  try simp only [Act.put, List.setIfInBounds_toArray, List.set_cons_zero, List.set_cons_succ]
  refine wpAnyH_take (i := 8) (v := ?av8) rfl (by kernel_rfl) (by kernel_rfl) (by kernel_rfl) (fun _ _ _ h => h) (Or.inl ⟨by rfl, ?ay8⟩) (by assumption) ?ar8
  case ay8 => (intro w hSw; (try dsimp only at hSw); go_simp; try with_reducible rfl)
  try simp only [Act.put, List.setIfInBounds_toArray, List.set_cons_zero, List.set_cons_succ]
  refine wpAnyH_take (i := 9) (v := ?av9) rfl (by kernel_rfl) (by kernel_rfl) (by kernel_rfl) (fun _ _ _ h => h) (Or.inl ⟨by rfl, ?ay9⟩) (by assumption) ?ar9
  case ay9 => (intro w hSw; (try dsimp only at hSw); go_simp; try with_reducible rfl)
  try simp only [Act.put, List.setIfInBounds_toArray, List.set_cons_zero, List.set_cons_succ]
  refine wpAnyH_take (i := 10) (v := ?av10) rfl (by kernel_rfl) (by kernel_rfl) (by kernel_rfl) (fun _ _ _ h => h) (Or.inl ⟨by rfl, ?ay10⟩) (by assumption) ?ar10
  case ay10 => (intro w hSw; (try dsimp only at hSw); go_simp; try with_reducible rfl)
  try simp only [Act.put, List.setIfInBounds_toArray, List.set_cons_zero, List.set_cons_succ]
  refine wpAnyH_take (i := 11) (v := ?av11) rfl (by kernel_rfl) (by kernel_rfl) (by kernel_rfl) (fun _ _ _ h => h) (Or.inl ⟨by rfl, ?ay11⟩) (by assumption) ?ar11
  case ay11 => (intro w hSw; (try dsimp only at hSw); go_simp; try with_reducible rfl)
  try simp only [Act.put, List.setIfInBounds_toArray, List.set_cons_zero, List.set_cons_succ]
  refine wpAnyH_take (i := 12) (v := ?av12) rfl (by kernel_rfl) (by kernel_rfl) (by kernel_rfl) (fun _ _ _ h => h) (Or.inl ⟨by rfl, ?ay12⟩) (by assumption) ?ar12
  case ay12 => (intro w hSw; (try dsimp only at hSw); go_simp; try with_reducible rfl)
  try simp only [Act.put, List.setIfInBounds_toArray, List.set_cons_zero, List.set_cons_succ]
  refine wpAnyH_take (i := 13) (v := ?av13) rfl (by kernel_rfl) (by kernel_rfl) (by kernel_rfl) (fun _ _ _ h => h) (Or.inl ⟨by rfl, ?ay13⟩) (by assumption) ?ar13
  case ay13 => (intro w hSw; (try dsimp only at hSw); go_simp; try with_reducible rfl)
  try simp only [Act.put, List.setIfInBounds_toArray, List.set_cons_zero, List.set_cons_succ]
  refine wpAnyH_take (i := 14) (v := ?av14) rfl (by kernel_rfl) (by kernel_rfl) (by kernel_rfl) (fun _ _ _ h => h) (Or.inl ⟨by rfl, ?ay14⟩) (by assumption) ?ar14
  case ay14 => (intro w hSw; (try dsimp only at hSw); go_simp; try with_reducible rfl)
  try simp only [Act.put, List.setIfInBounds_toArray, List.set_cons_zero, List.set_cons_succ]
  refine wpAnyH_take (i := 15) (v := ?av15) rfl (by kernel_rfl) (by kernel_rfl) (by kernel_rfl) (fun _ _ _ h => h) (Or.inl ⟨by rfl, ?ay15⟩) (by assumption) ?ar15
  case ay15 => (intro w hSw; (try dsimp only at hSw); go_simp; try with_reducible rfl)
  try simp only [Act.put, List.setIfInBounds_toArray, List.set_cons_zero, List.set_cons_succ]
  refine wpAnyH_ready (rs := [5]) (by kernel_rfl) (by simp) ?_
  refine AllReadyH.cons rfl (fun K hK => ?_) AllReadyH.nil
  go_simp
  refine hK.out _ _ (held2 (held_alloc_drew (held_start W2) _) d0 j2) (fun hHeld => ?_)
  clear hK K
  try simp only [Act.put, List.setIfInBounds_toArray, List.set_cons_zero, List.set_cons_succ]
  refine wpAnyH_ready (rs := [16]) (by kernel_rfl) (by simp) ?_
  refine AllReadyH.cons rfl (fun K hK => ?_) AllReadyH.nil
  refine step_append_row (by rfl) (.tmp 47) (.tmp 57) (by rfl) eb W2.heap.size (.slice (some ⟨W2.heap.size, 0, none⟩) 0 0) 0 [] (by rfl) (own_empty W2 W2.heap.size _ 1 rfl (Nat.le_refl _)) W2.heap.size A3 n c3 (bv (x.b.take n)) (by rfl) (HY.out.alloc (Nat.le_refl _) _) (bv_one _) (by omega) (by omega) (by simp [World.drew]) ?_
  intro A1 c1 w1 hown1 _ hb1
  rw [Nat.zero_add, List.nil_append] at hown1
  rw [Nat.zero_add]
  have hB1 : Below W2.heap.size W2 w1 := (held_alloc_drew (held_start W2) (.cells #[] 5)).trans hb1
  refine hK.out _ _ (held2 hB1 d0 j2) (fun hHeld => ?_)
  clear hK K
  simp only [Act.put, List.getElem_toArray, List.getElem_cons_succ, List.getElem_cons_zero, List.setIfInBounds_toArray, List.set_cons_zero, List.set_cons_succ]
  refine wpAnyH_take (i := 17) (v := ?bv17) rfl (by kernel_rfl) (by kernel_rfl) (by kernel_rfl) (fun _ _ _ h => h) (Or.inl ⟨by rfl, ?by17⟩) (by assumption) ?br17
  case by17 => (intro w hSw; (try dsimp only at hSw); go_simp; try with_reducible rfl)
  try simp only [Act.put, List.setIfInBounds_toArray, List.set_cons_zero, List.set_cons_succ]
  refine wpAnyH_take (i := 18) (v := ?bv18) rfl (by kernel_rfl) (by kernel_rfl) (by kernel_rfl) (fun _ _ _ h => h) (Or.inl ⟨by rfl, ?by18⟩) (by assumption) ?br18
  case by18 => (intro w hSw; (try dsimp only at hSw); go_simp; try with_reducible rfl)
  try simp only [Act.put, List.setIfInBounds_toArray, List.set_cons_zero, List.set_cons_succ]
  refine wpAnyH_done (by kernel_rfl) ?_ _
  refine then_normal rfl ?_
  have hrow : RRow w1 (Out F w w1) d.files (some ⟨g, 0, none⟩) c bl := (HB2.out.rrow.new hB1).mono fun _ hi => .inl hi
  have hbk1 : Blk w1 g 79 cur2 := Blk.below HK2.out hB1 (Blk.lt HK2.out)
  have hq : BAt w1 (Out F w w1) { x with b := x.b.take n } ⟨A1, c1⟩ := by
    have hln : (x.b.take n).length = n := Disk.take_len (by rw [HM.out]; exact hnx)
    refine ⟨?_, fun k hk => ?_⟩
    · show w1.ownsRow 0 5 1 (.slice A1 (x.b.take n).length c1) (x.b.take n).length (bv (x.b.take n))
      rw [hln]
      exact own_mono hown1 (Nat.zero_le _)
    · have := hown1.lt k (by rw [own_map]; exact hk)
      exact .inr ⟨Nat.le_trans HT2.out.size this.1, this.2⟩
  have hrow2 := hrow.bytes_ (Up.once HU.out) HP.out hbk1 hq
  rw [show (Bl.mk A1 c1).A = A1 from rfl, show (Bl.mk A1 c1).c = c1 from rfl, Disk.take_len (by rw [HM.out]; exact hnx)] at hrow2
  have e2 : w1.cell? ⟨g, p * 3 + 2, none⟩ = some (.slice A3 m c3) := held_cell hB1 j2
  have z2 := Blk.frozen hbk1 (p * 3 + 2)
  have hgh : h ≠ g := fun e => by
    have a := HH2.out
    have b := HK2.out
    unfold RHead Blk at a
    unfold Blk at b
    rw [e, b] at a
    cases a
  have hh4 : RHead (w1.setCell ⟨g, p * 3 + 2, none⟩ (.slice A1 n c1)) h (tick d) (some ⟨g, 0, none⟩) N c := Blk.far (Blk.below HH2.out hB1 (Blk.lt HH2.out)) hgh _
  have ht4 : Turn F w (w1.setCell ⟨g, p * 3 + 2, none⟩ (.slice A1 n c1)) := (HT2.out.trans (F' := F) (Turn.new hB1) fun _ hi => .inl hi).setCell (.inl hFg) _
  have hrow4 := hrow2.mono (F' := Out F w (w1.setCell ⟨g, p * 3 + 2, none⟩ (.slice A1 n c1))) fun i hi => Out.mono (by simp [World.setCell]) hi
  have hx4 : (d.files.set p { x with b := x.b.take n })[p]? = some { x with b := x.b.take n } := List.getElem?_set_self (by rw [HNN.out]; exact hlt)
  obtain ⟨g4, cur4, hgg, _, hbk4, _, _, f1, _⟩ := hrow4.at_ hx4
  obtain rfl : g = g4 := by injection hgg with hgg; injection hgg
  have f0 := hh4.cells.1
  have z4 := Blk.frozen hbk4 (p * 3 + 1)
  have HE : Hid (RefAt (Out F w ((w1.setCell ⟨g, p * 3 + 2, none⟩ (.slice A1 n c1)).setCell ⟨g, p * 3 + 1, none⟩ (.int .i64 (min x.safe n : Nat)))) ((w1.setCell ⟨g, p * 3 + 2, none⟩ (.slice A1 n c1)).setCell ⟨g, p * 3 + 1, none⟩ (.int .i64 (min x.safe n : Nat))) h { tick d with files := put d.files f (trim n) } ∧
      Turn F w ((w1.setCell ⟨g, p * 3 + 2, none⟩ (.slice A1 n c1)).setCell ⟨g, p * 3 + 1, none⟩ (.int .i64 (min x.safe n : Nat)))) := by
    have hl : put d.files f (trim n) = (d.files.set p { x with b := x.b.take n }).set p { x with b := x.b.take n, safe := min x.safe n } := by
      rw [place_put (trim n) HU.out HX.out, HPP.out, List.set_set]
      rfl
    have hrow5 := hrow4.safe_ hx4 hbk4 (min x.safe n)
    rw [← hl] at hrow5
    refine ⟨⟨_, c, _, ?_, .inl hg, (hrow5.body (put_up (g := trim n) (fun _ => rfl) (trim_ok n) HU.out)).mono fun i hi => Out.mono (by simp [World.setCell]) hi⟩, ht4.setCell (.inl hFg) _⟩
    show RHead _ h { tick d with files := put d.files f (trim n) } _ (put d.files f (trim n)).length c
    rw [put_length, HNN.out]
    exact Blk.far hh4 hgh _
  clear hrow hq hrow2 hh4 ht4 hrow4 hx4 hbk4 hgg hb1 hB1 hown1 hHeld hbk1 HK2 HB2 HH2 HT2 HY d0
  go_wp2_with fail
  generalize w1.setCell ⟨g, p * 3 + 2, none⟩ (.slice A1 n c1) = W4 at f0 f1 z4 HE ⊢
  have hmn : min (x.safe : Int) (n : Int) = ((min x.safe n : Nat) : Int) := by omega
  generalize min x.safe n = s1 at hmn HE
  generalize x.safe = s0 at f1 hmn
  clear e2 z2 j1 j2
  rcases Nat.lt_or_ge n s0 with hms | hms
  · have e5 : s1 = n := by omega
    subst e5
    clear hmn
    go_still_tail 17, (by kernel_rfl)
    go_wp2_with fail
    refine (told_any false _).mono ?_
    rintro e w5 ⟨rfl, rfl⟩
    go_wp2
    go_ret
    rw [HS.out]
    exact ⟨rfl, HE.out.1, ⟨HE.out.2.os, HE.out.2.tape, HE.out.2.output, HE.out.2.size, HE.out.2.block⟩⟩
  · have e5 : s1 = s0 := by omega
    subst e5
    have hms2 : ¬ n < s1 := by omega
    clear hmn hms
    go_still_tail 17, (by kernel_rfl)
    go_wp2_with fail
    refine (told_any false _).mono ?_
    rintro e w5 ⟨rfl, rfl⟩
    go_wp2
    go_ret
    rw [HS.out]
    exact ⟨rfl, HE.out.1, ⟨HE.out.2.os, HE.out.2.tape, HE.out.2.output, HE.out.2.size, HE.out.2.block⟩⟩

set_option maxRecDepth 100000 in
set_option maxHeartbeats 800000 in
theorem refcut_any (F : Nat → Prop) (h : Nat) (d : Dk) (f n : Int) (w : World) (hr : RefAt F w h d) (hf : Fits d) (hsz : ∀ x, seek d.files f = some x → x.b.length ≤ 140737488355328) :
    Calls Tryz.prog 38 #[.pointer (some ⟨h, 0, none⟩), .int .i64 f, .int .i64 n] w (RDone F w h (cut d f n)) := by
  by_cases hrf : refuse d f true = 0
  · obtain ⟨hoff, _, _, x, hx⟩ := refuse_zero hrf
    have hsize := size_seen hx
    by_cases hn : n < 0 ∨ size d f < n
    · have HS := Lib.hid (show cut d f n = (1, d) by rw [cut, if_pos hrf, if_pos hn])
      have HR := Lib.hid hr
      have hup := hr.up
      obtain ⟨A, c, bl, hh, hg, hb⟩ := hr
      have hp := place_seek hup hx
      have hlt := len_of hp
      have hlen := hup.le
      have HRF := Lib.hid hrf
      have HI := Lib.hid (show isIn d.files f = true by rw [isIn, hx]; rfl)
      have HH := Lib.hid hh
      have HB := Lib.hid hb
      have HP := Lib.hid hp
      rw [hsize] at hn
      clear hh hb hoff hx hp hup hsize hrf hsz
      go_enter Tryz.func38, Tryz.ntmps38
      go_wp2_with fail
      refine (refused_any F h d f true w HR.out).mono ?_
      rintro e w1 ⟨rfl, q, rfl⟩
      rw [HRF.out]
      go_wp2_with fail
      refine (at_any F h d f (w.drewN q) HR.out).mono ?_
      rintro e W ⟨rfl, q2, hW⟩
      rw [HI.out]
      have hbW : RBody W F d.files A c bl := by rw [← hW]; exact HB.out
      have hhW : RHead W h d A d.files.length c := by rw [← hW]; exact HH.out
      have htW : Turn F w W := by rw [← hW]; exact ((Turn.refl F w).drewN q).drewN q2
      have HE : Hid (RefAt (Out F w W) W h d ∧ Turn F w W) := ⟨⟨A, c, bl, hhW, .inl hg, hbW.mono fun _ hi => .inl hi⟩, htW⟩
      have c0 := hhW.cells.1
      obtain ⟨g, cur, rfl, hFg, hbk, _, _, _, k2⟩ := hbW.at_ HP.out
      clear hW HB HH hhW hbW htW hbk HP
      generalize (bl x.id).A = A2 at k2
      generalize (bl x.id).c = c2 at k2
      generalize x.b.length = m at k2 hn
      generalize place f d.files = p at *
      generalize d.files.length = N at *
      rcases hn with hn | hn
      · have hb1 : decide (n < 0) = true := by simpa using hn
        go_wp2
        go_ret
        rw [HS.out]
        exact ⟨rfl, HE.out⟩
      · have hb1 : decide (n < 0) = false := by simp; omega
        have hb2 : decide ((m : Int) < n) = true := by simpa using hn
        go_wp2
        go_ret
        rw [HS.out]
        exact ⟨rfl, HE.out⟩
    · obtain ⟨k, rfl⟩ := Int.eq_ofNat_of_zero_le (show 0 ≤ n by omega)
      by_cases hl : d.left = 1
      · have HS := Lib.hid (show cut d f k = (8, tick d) by rw [cut, if_pos hrf, if_neg hn, (told_one hl _).2])
        have HT := Lib.hid (decide_eq_true hl)
        have HR := Lib.hid hr
        have hup := hr.up
        obtain ⟨A, c, bl, hh, hg, hb⟩ := hr
        have hp := place_seek hup hx
        have hlt := len_of hp
        have hlen := hup.le
        have HRF := Lib.hid hrf
        have HI := Lib.hid (show isIn d.files f = true by rw [isIn, hx]; rfl)
        have HH := Lib.hid hh
        have HB := Lib.hid hb
        have HP := Lib.hid hp
        have HO := Lib.hid hoff
        rw [hsize] at hn
        have hb2 : decide (x.b.length < k) = false := by simp; omega
        have hb3 : decide ((x.b.length : Int) < (k : Int)) = false := by simp; omega
        have hb1 : decide ((k : Int) < 0) = false := by simp
        clear hh hb hoff hx hp hup hsize hrf hsz hl hn
        go_enter Tryz.func38, Tryz.ntmps38
        go_wp2_with fail
        refine (refused_any F h d f true w HR.out).mono ?_
        rintro e w1 ⟨rfl, q, rfl⟩
        rw [HRF.out]
        go_wp2_with fail
        refine (at_any F h d f (w.drewN q) HR.out).mono ?_
        rintro e W ⟨rfl, q2, hW⟩
        rw [HI.out]
        have hbW : RBody W F d.files A c bl := by rw [← hW]; exact HB.out
        have hhW : RHead W h d A d.files.length c := by rw [← hW]; exact HH.out
        have htW : Turn F w W := by rw [← hW]; exact ((Turn.refl F w).drewN q).drewN q2
        have c0 := hhW.cells.1
        have HHW := Lib.hid hhW
        have HBW := Lib.hid hbW
        have HTW := Lib.hid htW
        obtain ⟨g, cur, rfl, hFg, hbk, _, _, _, k2⟩ := hbW.at_ HP.out
        clear hW HB HH hhW hbW htW hbk HP
        generalize (bl x.id).A = A2 at k2
        generalize (bl x.id).c = c2 at k2
        generalize x.b.length = m at k2 hb2 hb3
        generalize place f d.files = p at *
        generalize hNN : d.files.length = N at *
        have HNN := Lib.hid hNN
        clear hNN
        go_wp2_with fail
        refine (goes_any h N c _ d W HHW.out HO.out hf).mono ?_
        rintro e W2 ⟨rfl, hh2, hw2⟩
        have HE : Hid (RefAt (Out F w W2) W2 h (tick d) ∧ Turn F w W2) := by
          refine ⟨⟨_, c, bl, ?_, .inl hg, (HBW.out.head HHW.out hw2).mono fun _ hi => .inl hi⟩, HTW.out.trans (Turn.grown (F := F) hw2 fun k e => by injection e with e; rw [← e]; exact hg) fun _ hi => .inl hi⟩
          show RHead _ h (tick d) _ d.files.length c
          rw [HNN.out]
          exact hh2
        clear hh2 hw2
        rw [HT.out]
        go_wp2_with fail
        refine (told_any true _).mono ?_
        rintro e w5 ⟨rfl, rfl⟩
        go_wp2
        go_ret
        rw [HS.out]
        exact ⟨rfl, HE.out⟩
      · exact refcut_do F h d f k w hr hf hrf (by omega) hl hsz
  · have HR := Lib.hid hr
    have HS := Lib.hid (cut_no (n := n) rfl hrf)
    generalize hk : refuse d f true = k at hrf HS
    have HK := Lib.hid hk
    have hne : (k != 0) = true := by simpa using hrf
    clear hr hk hsz
    go_enter Tryz.func38, Tryz.ntmps38
    go_wp2_with fail
    refine (refused_any F h d f true w HR.out).mono ?_
    rintro e w1 ⟨rfl, q, rfl⟩
    rw [HK.out]
    go_wp2
    go_ret
    rw [HS.out]
    exact RDone.no HR.out q
end Go.Proofs.YtedfddnbgljcjaaGreat.Ref

namespace Go.Proofs.YtedfddnbgljcjaaGreat.Ref
set_option maxRecDepth 100000
open Go.RowKit Base DiskMath Disk Last
set_option linter.ambiguousOpen false
set_option linter.unusedSimpArgs false

/-- where 's[k:]' of files begins -/
def cutF (A : Option Addr) (c k : Nat) : Option Addr := if c = k then A else A.map (·.add (k * 3))
set_option maxRecDepth 100000 in
theorem run_cutF (w : World) (A : Option Addr) (n c k : Nat) (hk : k ≤ n) {z : Int} (hz : z = (k : Int)) : (Instr.sliceAt 26 (.slice A n c) (some (.int .i64 z)) none none).run Tryz.prog w = .ok (.slice (cutF A c k) (n - k) (c - k)) w := by
  subst hz
  rw [run_sliceAt_slice _ _ _ _ _ _ Tryz.underlying26, run_slice_l _ _ _ _ _ Tryz.underlying26 .i64 k (by omega) (by omega)]
  have : (sizeOf (Tryz.prog.elem 26)).run Tryz.prog w = .ok 3 w := by kernel_rfl
  rw [this]
  simp [Result.andThen, sliced, cutF]

section
variable {F : Nat → Prop} {w w' : World} {l : List Fl} {A : Option Addr} {c : Nat} {bl : Int → Bl}
theorem RRow.row (hr : RRow w F l A c bl) : Row w w.heap.size 3 A l.length c (fcells l bl) := Row.of_own hr.1
theorem RRow.front (hr : RRow w F l A c bl) {k : Nat} (hk : k ≤ l.length) : Row w w.heap.size 3 A k c (fcells (l.take k) bl) := by
  have := hr.row.front hk
  rwa [fcells_take l bl k hk] at this
theorem RRow.back (hr : RRow w F l A c bl) {k : Nat} (hk : k ≤ l.length) : Row w w.heap.size 3 (cutF A c k) (l.length - k) (c - k) (fcells (l.drop k) bl) := by
  have := hr.row.cut hk
  rwa [fcells_drop l bl k hk] at this
end

set_option maxRecDepth 100000 in
set_option maxHeartbeats 1600000 in
theorem refremove_any (F : Nat → Prop) (h : Nat) (d : Dk) (f : Int) (w : World) (hr : RefAt F w h d) (hf : Fits d) :
    Calls Tryz.prog 36 #[.pointer (some ⟨h, 0, none⟩), .int .i64 f] w (RDone F w h (remove d f)) := by
  have HR := Lib.hid hr
  have hup := hr.up
  obtain ⟨A, c, bl, hh, hg, hb⟩ := hr
  by_cases hrf : refuse d f true = 0
  · obtain ⟨hoff, _, _, x, hx⟩ := refuse_zero hrf
    have hp := place_seek hup hx
    have hlt := len_of hp
    have hlen := hup.le
    have HH := Lib.hid hh
    have HB := Lib.hid hb
    have HO := Lib.hid hoff
    have HRF := Lib.hid hrf
    have HX := Lib.hid hx
    have HU := Lib.hid hup
    have HI := Lib.hid (show isIn d.files f = true by rw [isIn, hx]; rfl)
    have HDL := Lib.hid (place_del hup hx)
    clear hh hb hoff hx hp hup
    by_cases hl : d.left = 1
    · have HT := Lib.hid (decide_eq_true hl)
      have HS := Lib.hid (show remove d f = (8, tick d) by rw [remove, if_pos hrf, (told_one hl _).2])
      clear hl hrf
      go_enter Tryz.func36, Tryz.ntmps36
      go_wp2_with fail
      refine (refused_any F h d f true w HR.out).mono ?_
      rintro e w1 ⟨rfl, q, rfl⟩
      rw [HRF.out]
      go_wp2_with fail
      refine (goes_any h d.files.length c A d (w.drewN q) HH.out HO.out hf).mono ?_
      rintro e w2 ⟨rfl, hh2, hw2⟩
      have HD := Lib.hid (rticked (F := F) hh2 hg (RBody.head (w := w.drewN q) HB.out HH.out hw2) hw2)
      clear hh2 hw2
      rw [HT.out]
      go_wp2_with fail
      refine (told_any true w2).mono ?_
      rintro e w3 ⟨rfl, rfl⟩
      go_wp2
      go_ret
      rw [HS.out]
      exact ⟨rfl, HD.out.1, ⟨HD.out.2.os, HD.out.2.tape, HD.out.2.output, HD.out.2.size, HD.out.2.block⟩⟩
    · have HT := Lib.hid (decide_eq_false hl)
      have HS := Lib.hid (show remove d f = (0, { tick d with files := del d.files f }) by rw [remove, if_pos hrf, (told_more hl _).2])
      clear hl hrf
      go_enter Tryz.func36, Tryz.ntmps36
      go_wp2_with fail
      refine (refused_any F h d f true w HR.out).mono ?_
      rintro e w1 ⟨rfl, q, rfl⟩
      rw [HRF.out]
      go_wp2_with fail
      refine (goes_any h d.files.length c A d (w.drewN q) HH.out HO.out hf).mono ?_
      rintro e w2 ⟨rfl, hh2, hw2⟩
      have hb2 := RBody.head (w := w.drewN q) HB.out HH.out hw2
      have HD2 := Lib.hid (rticked (F := F) hh2 hg hb2 hw2)
      have HB2 := Lib.hid hb2
      have HH2 := Lib.hid hh2
      clear hh2 hw2 hb2
      rw [HT.out]
      go_wp2_with fail
      refine (at_any _ h (tick d) f w2 HD2.out.1).mono ?_
      rintro e W ⟨rfl, q2, hW⟩
      rw [show (tick d).files = d.files from rfl, HI.out]
      have hbW : RBody W F d.files A c bl := by rw [← hW]; exact HB2.out
      have hhW : RHead W h (tick d) A d.files.length c := by rw [← hW]; exact HH2.out
      have htW : Turn F w W := by rw [← hW]; exact ⟨HD2.out.2.os, HD2.out.2.tape, HD2.out.2.output, HD2.out.2.size, HD2.out.2.block⟩
      have c0 := hhW.cells.1
      have z0 := Blk.frozen hhW 0
      have HBW := Lib.hid hbW
      have HHW := Lib.hid hhW
      have HTW := Lib.hid htW
      have hle := (RRow.row hbW.rrow).le
      have HF1 := Lib.hid (hbW.rrow.front (k := place f d.files) (by omega))
      have HF2 := Lib.hid (hbW.rrow.back (k := place f d.files + 1) (by omega))
      clear HB2 HH2 HD2 hW HB HH hbW hhW htW
      generalize hpp : place f d.files = p at *
      have HPP := Lib.hid hpp
      clear hpp
      generalize hNN : d.files.length = N at *
      have HNN := Lib.hid hNN
      clear hNN
      have hpc : (p : Int) ≤ (c : Int) := by omega
      have hp1 : IntKind.i64.wrap ((p : Int) + 1) = (p : Int) + 1 := IntWalk.i64_in _ (by omega)
      have hsl : ∀ w, (Instr.sliceAt 26 (.slice A N c) (some (.int .i64 ((p : Int) + 1))) none none).run Tryz.prog w = .ok (.slice (cutF A c (p + 1)) (N - (p + 1)) (c - (p + 1))) w := fun w => run_cutF w A N c (p + 1) (by omega) (by omega)
      generalize cutF A c (p + 1) = A9 at hsl HF2
      go_wp2_with fail
      refine wp_region_last_at (S := fun w' => w'.cell? ⟨h, 0, none⟩ = some (.slice A N c) ∧ Below W.heap.size W w') 19 _ rfl rfl (by kernel_rfl) (by kernel_rfl) (by kernel_rfl) (held1 (held_start W) c0) (fun hHeld => ?_)
      simp only [List.take_succ_cons, List.take_zero]
      refine wpAnyH_take (i := 0) (v := ?av0) rfl (by kernel_rfl) (by kernel_rfl) (by kernel_rfl) (fun _ _ _ h => h) (Or.inl ⟨by rfl, ?ay0⟩) (by assumption) ?ar0
      case ay0 => (intro w hSw; (try dsimp only at hSw); go_simp; try with_reducible rfl)
      try simp only [Act.put, List.getElem_toArray, List.getElem_cons_succ, List.getElem_cons_zero, List.setIfInBounds_toArray, List.set_cons_zero, List.set_cons_succ]
      refine wpAnyH_take (i := 2) (v := ?av2) rfl (by kernel_rfl) (by kernel_rfl) (by kernel_rfl) (fun _ _ _ h => h) (Or.inl ⟨by rfl, ?ay2⟩) (by assumption) ?ar2
      case ay2 => (intro w hSw; (try dsimp only at hSw); go_simp; try with_reducible rfl)
      try simp only [Act.put, List.getElem_toArray, List.getElem_cons_succ, List.getElem_cons_zero, List.setIfInBounds_toArray, List.set_cons_zero, List.set_cons_succ]
      refine wpAnyH_take (i := 3) (v := ?av3) rfl (by kernel_rfl) (by kernel_rfl) (by kernel_rfl) (fun _ _ _ h => h) (Or.inl ⟨by rfl, ?ay3⟩) (by assumption) ?ar3
      case ay3 => (intro w hSw; (try dsimp only at hSw); go_simp; try with_reducible rfl)
      try simp only [Act.put, List.getElem_toArray, List.getElem_cons_succ, List.getElem_cons_zero, List.setIfInBounds_toArray, List.set_cons_zero, List.set_cons_succ]
      refine wpAnyH_take (i := 4) (v := ?av4) rfl (by kernel_rfl) (by kernel_rfl) (by kernel_rfl) (fun _ _ _ h => h) (Or.inl ⟨by rfl, ?ay4⟩) (by assumption) ?ar4
      case ay4 => (intro w hSw; (try dsimp only at hSw); go_simp; try with_reducible rfl)
      try simp only [Act.put, List.getElem_toArray, List.getElem_cons_succ, List.getElem_cons_zero, List.setIfInBounds_toArray, List.set_cons_zero, List.set_cons_succ]
      refine wpAnyH_take (i := 5) (v := ?av5) rfl (by kernel_rfl) (by kernel_rfl) (by kernel_rfl) (fun _ _ _ h => h) (Or.inl ⟨by rfl, ?ay5⟩) (by assumption) ?ar5
      case ay5 => (intro w hSw; (try dsimp only at hSw); go_simp; try with_reducible rfl)
      try simp only [Act.put, List.getElem_toArray, List.getElem_cons_succ, List.getElem_cons_zero, List.setIfInBounds_toArray, List.set_cons_zero, List.set_cons_succ]
      refine wpAnyH_take (i := 6) (v := ?av6) rfl (by kernel_rfl) (by kernel_rfl) (by kernel_rfl) (fun _ _ _ h => h) (Or.inl ⟨by rfl, ?ay6⟩) (by assumption) ?ar6
      case ay6 => (intro w hSw; (try dsimp only at hSw); go_simp; try with_reducible rfl)
      try simp only [Act.put, List.getElem_toArray, List.getElem_cons_succ, List.getElem_cons_zero, List.setIfInBounds_toArray, List.set_cons_zero, List.set_cons_succ]
      refine wpAnyH_take (i := 7) (v := ?av7) rfl (by kernel_rfl) (by kernel_rfl) (by kernel_rfl) (fun _ _ _ h => h) (Or.inl ⟨by rfl, ?ay7⟩) (by assumption) ?ar7
      case ay7 => (intro w hSw; (try dsimp only at hSw); go_simp; try with_reducible rfl)
      try simp only [Act.put, List.getElem_toArray, List.getElem_cons_succ, List.getElem_cons_zero, List.setIfInBounds_toArray, List.set_cons_zero, List.set_cons_succ]
      refine wpAnyH_take (i := 9) (v := ?av9) rfl (by kernel_rfl) (by kernel_rfl) (by kernel_rfl) (fun _ _ _ h => h) (Or.inl ⟨by rfl, ?ay9⟩) (by assumption) ?ar9
      case ay9 => (intro w hSw; (try dsimp only at hSw); go_simp; try with_reducible rfl)
      try simp only [Act.put, List.getElem_toArray, List.getElem_cons_succ, List.getElem_cons_zero, List.setIfInBounds_toArray, List.set_cons_zero, List.set_cons_succ]
      refine wpAnyH_take (i := 10) (v := ?av10) rfl (by kernel_rfl) (by kernel_rfl) (by kernel_rfl) (fun _ _ _ h => h) (Or.inl ⟨by rfl, ?ay10⟩) (by assumption) ?ar10
      case ay10 => (intro w hSw; (try dsimp only at hSw); go_simp; try with_reducible rfl)
      try simp only [Act.put, List.getElem_toArray, List.getElem_cons_succ, List.getElem_cons_zero, List.setIfInBounds_toArray, List.set_cons_zero, List.set_cons_succ]
      refine wpAnyH_take (i := 11) (v := ?av11) rfl (by kernel_rfl) (by kernel_rfl) (by kernel_rfl) (fun _ _ _ h => h) (Or.inl ⟨by rfl, ?ay11⟩) (by assumption) ?ar11
      case ay11 => (intro w hSw; (try dsimp only at hSw); go_simp; try with_reducible rfl)
      try simp only [Act.put, List.getElem_toArray, List.getElem_cons_succ, List.getElem_cons_zero, List.setIfInBounds_toArray, List.set_cons_zero, List.set_cons_succ]
      refine wpAnyH_take (i := 12) (v := ?av12) rfl (by kernel_rfl) (by kernel_rfl) (by kernel_rfl) (fun _ _ _ h => h) (Or.inl ⟨by rfl, ?ay12⟩) (by assumption) ?ar12
      case ay12 => (intro w hSw; (try dsimp only at hSw); go_simp; try with_reducible rfl)
      try simp only [Act.put, List.getElem_toArray, List.getElem_cons_succ, List.getElem_cons_zero, List.setIfInBounds_toArray, List.set_cons_zero, List.set_cons_succ]
      refine wpAnyH_take (i := 13) (v := ?av13) rfl (by kernel_rfl) (by kernel_rfl) (by kernel_rfl) (fun _ _ _ h => h) (Or.inl ⟨by rfl, ?ay13⟩) (by assumption) ?ar13
      case ay13 => (intro w hSw; (try dsimp only at hSw); go_simp; try with_reducible rfl)
      try simp only [Act.put, List.getElem_toArray, List.getElem_cons_succ, List.getElem_cons_zero, List.setIfInBounds_toArray, List.set_cons_zero, List.set_cons_succ]
      refine wpAnyH_take (i := 14) (v := ?av14) rfl (by kernel_rfl) (by kernel_rfl) (by kernel_rfl) (fun _ _ _ h => h) (Or.inl ⟨by rfl, ?ay14⟩) (by assumption) ?ar14
      case ay14 => (intro w hSw; (try dsimp only at hSw); go_simp; try with_reducible rfl)
      try simp only [Act.put, List.getElem_toArray, List.getElem_cons_succ, List.getElem_cons_zero, List.setIfInBounds_toArray, List.set_cons_zero, List.set_cons_succ]
      refine wpAnyH_take (i := 15) (v := ?av15) rfl (by kernel_rfl) (by kernel_rfl) (by kernel_rfl) (fun _ _ _ h => h) (Or.inl ⟨by rfl, ?ay15⟩) (by assumption) ?ar15
      case ay15 => (intro w hSw; (try dsimp only at hSw); go_simp; try with_reducible rfl)
      try simp only [Act.put, List.getElem_toArray, List.getElem_cons_succ, List.getElem_cons_zero, List.setIfInBounds_toArray, List.set_cons_zero, List.set_cons_succ]
      refine wpAnyH_ready (rs := [1]) (by kernel_rfl) (by simp) ?_
      refine AllReadyH.cons rfl (fun K hK => ?_) AllReadyH.nil
      go_simp
      refine hK.out _ _ (held1 (held_alloc_drew (held_start W) _) c0) (fun hHeld => ?_)
      clear hK K
      try simp only [Act.put, List.getElem_toArray, List.getElem_cons_succ, List.getElem_cons_zero, List.setIfInBounds_toArray, List.set_cons_zero, List.set_cons_succ]
      refine wpAnyH_ready (rs := [8]) (by kernel_rfl) (by simp) ?_
      refine AllReadyH.cons rfl (fun K hK => ?_) AllReadyH.nil
      refine step_append_row (by rfl) (.tmp 26) (.tmp 32) (by rfl) ef W.heap.size (.slice (some ⟨W.heap.size, 0, none⟩) 0 0) 0 [] (by rfl) (own_empty W W.heap.size _ 3 rfl (Nat.le_refl _)) W.heap.size A p c (fcells (d.files.take p) bl) (by rfl) (HF1.out.alloc (Nat.le_refl _) _) (fcells_one _ _) (by omega) (by omega) (by simp [World.drew]) ?_
      intro A1 c1 w1 hown1 _ hb1
      rw [Nat.zero_add, List.nil_append] at hown1
      rw [Nat.zero_add]
      have hB1 : Below W.heap.size W w1 := (held_alloc_drew (held_start W) (.cells #[] 79)).trans hb1
      refine hK.out _ _ (held1 hB1 c0) (fun hHeld => ?_)
      clear hK K
      try simp only [Act.put, List.getElem_toArray, List.getElem_cons_succ, List.getElem_cons_zero, List.setIfInBounds_toArray, List.set_cons_zero, List.set_cons_succ]
      refine wpAnyH_ready (rs := [16]) (by kernel_rfl) (by simp) ?_
      refine AllReadyH.cons rfl (fun K hK => ?_) AllReadyH.nil
      refine step_append_row (by rfl) (.tmp 33) (.tmp 40) (by rfl) ef W.heap.size (.slice A1 p c1) p _ (by rfl) hown1 W.heap.size A9 (N - (p + 1)) (c - (p + 1)) (fcells (d.files.drop (p + 1)) bl) (by rfl) (HF2.out.below hB1) (fcells_one _ _) (by omega) (by omega) hB1.size ?_
      intro A2 c2 w2 hown2 _ hb2
      rw [← fcells_append, ← HDL.out] at hown2
      have hB2 : Below W.heap.size W w2 := hB1.trans hb2
      obtain ⟨M, hM⟩ : ∃ M, M = p + (N - (p + 1)) := ⟨_, rfl⟩
      rw [← hM] at hown2 ⊢
      refine hK.out _ _ (held1 hB2 c0) (fun hHeld => ?_)
      clear hK K
      try simp only [Act.put, List.getElem_toArray, List.getElem_cons_succ, List.getElem_cons_zero, List.setIfInBounds_toArray, List.set_cons_zero, List.set_cons_succ]
      refine wpAnyH_take (i := 17) (v := ?bv17) rfl (by kernel_rfl) (by kernel_rfl) (by kernel_rfl) (fun _ _ _ h => h) (Or.inl ⟨by rfl, ?by17⟩) (by assumption) ?br17
      case by17 => (intro w hSw; (try dsimp only at hSw); go_simp; try with_reducible rfl)
      try simp only [Act.put, List.getElem_toArray, List.getElem_cons_succ, List.getElem_cons_zero, List.setIfInBounds_toArray, List.set_cons_zero, List.set_cons_succ]
      refine wpAnyH_take (i := 18) (v := ?bv18) rfl (by kernel_rfl) (by kernel_rfl) (by kernel_rfl) (fun _ _ _ h => h) (Or.inl ⟨by rfl, ?by18⟩) (by assumption) ?br18
      case by18 => (intro w hSw; (try dsimp only at hSw); go_simp; try with_reducible rfl)
      try simp only [Act.put, List.getElem_toArray, List.getElem_cons_succ, List.getElem_cons_zero, List.setIfInBounds_toArray, List.set_cons_zero, List.set_cons_succ]
      refine wpAnyH_done (by kernel_rfl) ?_ _
      refine then_normal rfl ?_
      have e0 : w2.cell? ⟨h, 0, none⟩ = some (.slice A N c) := held_cell hB2 c0
      have hh2 : RHead w2 h (tick d) A N c := Blk.below HHW.out hB2 (Blk.lt HHW.out)
      have z2 := Blk.frozen hh2 0
      have HE : Hid (RefAt (Out F w (w2.setCell ⟨h, 0, none⟩ (.slice A2 M c2))) (w2.setCell ⟨h, 0, none⟩ (.slice A2 M c2)) h { tick d with files := del d.files f } ∧ Turn F w (w2.setCell ⟨h, 0, none⟩ (.slice A2 M c2))) := by
        have hML : (del d.files f).length = M := by
          have := hown2.1
          rw [fcells_length] at this
          omega
        have ht : Turn F w w2 := HTW.out.trans (F' := F) (Turn.new hB2) fun _ hi => .inl hi
        have hbody : RBody w2 (Out F w w2) (del d.files f) A2 c2 bl := by
          refine ⟨?_, fun k hk => ?_, fun y hy => ?_, del_up HU.out⟩
          · rw [hML]
            exact own_mono hown2 (Nat.zero_le _)
          · have := hown2.lt k (by rw [own_map]; exact hk)
            exact .inr ⟨Nat.le_trans HTW.out.size this.1, this.2⟩
          · have hy' := HBW.out.2.2.1 y (del_mem hy).1
            exact ⟨own_keep hy'.1 hB2, fun k hk => .inl (hy'.2 k hk)⟩
        have hw : w2.grownBy (w2.setCell ⟨h, 0, none⟩ (.slice A2 M c2)) (some h) := only_set (World.grownBy.refl _ _) _ _
        refine ⟨⟨A2, c2, bl, ?_, .inl hg, (hbody.head hh2 hw).mono fun i hi => Out.mono hw.size hi⟩, ht.setCell (.inl hg) _⟩
        show RHead _ h { tick d with files := del d.files f } _ (del d.files f).length c2
        rw [hML]
        exact Blk.set_ hh2 0 (.slice A2 M c2)
      clear hown1 hb1 hB1 hown2 hb2 hM hHeld hh2 hB2 HBW HHW HTW HF1 HF2 HDL hsl hp1
      go_wp2_with fail
      refine (told_any false _).mono ?_
      rintro e w5 ⟨rfl, rfl⟩
      go_wp2
      go_ret
      rw [HS.out]
      exact ⟨rfl, HE.out.1, ⟨HE.out.2.os, HE.out.2.tape, HE.out.2.output, HE.out.2.size, HE.out.2.block⟩⟩
  · have HS := Lib.hid (remove_no rfl hrf)
    generalize hk : refuse d f true = k at hrf HS
    have HK := Lib.hid hk
    have hne : (k != 0) = true := by simpa using hrf
    clear hh hb hk hup
    go_enter Tryz.func36, Tryz.ntmps36
    go_wp2_with fail
    refine (refused_any F h d f true w HR.out).mono ?_
    rintro e w1 ⟨rfl, q, rfl⟩
    rw [HK.out]
    go_wp2
    go_ret
    rw [HS.out]
    exact RDone.no HR.out q
end Go.Proofs.YtedfddnbgljcjaaGreat.Ref

namespace Go.Proofs.YtedfddnbgljcjaaGreat.Ref
set_option maxRecDepth 100000
open Go.RowKit Base DiskMath Disk Last
set_option linter.ambiguousOpen false
set_option linter.unusedSimpArgs false

theorem place_ins_same (f : Int) : ∀ l : List Fl, place f (ins f l) = place f l
  | [] => by simp [ins, place]
  | x :: r => by
    unfold ins
    by_cases h : x.id < f
    · rw [if_pos h]
      unfold place
      rw [if_pos h, if_pos h, place_ins_same f r]
    · rw [if_neg h]
      unfold place
      rw [if_neg (by show ¬ f < f; omega), if_neg h]
/-- the file of that number, there or begun -/
theorem begun_at {l : List Fl} {f : Int} (hu : Up 0 l) (h0 : 0 ≤ f) (h1 : f < 16384) : Up 0 (begunL l f) ∧ ∃ x, seek (begunL l f) f = some x ∧ (begunL l f)[place f l]? = some x ∧ place f (begunL l f) = place f l ∧ (seek l f = some x ∨ (seek l f = none ∧ x = ⟨f, [], 0⟩)) := by
  cases hs : seek l f with
  | some x =>
    have e : begunL l f = l := by unfold begunL; exact if_neg (by rw [hs]; simp)
    rw [e]
    exact ⟨hu, x, hs, place_seek hu hs, rfl, .inl rfl⟩
  | none =>
    have e : begunL l f = ins f l := by unfold begunL; exact if_pos hs
    rw [e]
    have hu2 : Up 0 (ins f l) := ins_up h1 h0 hu (seek_none hs)
    have hs2 : seek (ins f l) f = some ⟨f, [], 0⟩ := seek_of (x := ⟨f, [], 0⟩) hu2 (ins_here f l)
    have hp := place_seek hu2 hs2
    rw [place_ins_same] at hp
    exact ⟨hu2, _, hs2, hp, place_ins_same f l, .inr ⟨rfl, rfl⟩⟩

/-- the document's disk, an operation counted, the file there or begun -/
def Mid (F : Nat → Prop) (w : World) (h : Nat) (d : Dk) (f : Int) (wx : World) : Prop :=
  ∃ A c bl, RHead wx h (tick d) A (begunL d.files f).length c ∧ RBody wx (Out F w wx) (begunL d.files f) A c bl ∧ Turn F w wx
theorem one_file (w : World) (f : Int) (bl : Int → Bl) (hb : bl f = ⟨none, 0⟩) {s : Nat} (hs : s = w.heap.size) (e : TypeId) : Row (w.alloc (.cells #[.int .i64 f, .int .i64 0, .slice none 0 0] e)) (w.heap.size + 1) 3 (some ⟨s, 0, none⟩) 1 1 (fcells [⟨f, [], 0⟩] bl) := by
  have h1 : fcells [(⟨f, [], 0⟩ : Fl)] bl = [.int .i64 f, .int .i64 0, .slice none 0 0] := by
    show fcell bl ⟨f, [], 0⟩ ++ [] = _
    unfold fcell
    rw [hb]
    rfl
  rw [h1]
  exact Row.lit w #[.int .i64 f, .int .i64 0, .slice none 0 0] e (0, 0) hs rfl (by omega)

set_option maxRecDepth 100000 in
set_option maxHeartbeats 1600000 in
theorem refappend_any (F : Nat → Prop) (h : Nat) (d : Dk) (f : Int) (B : Nat) (A0 : Option Addr) (n c0 : Nat) (b : List UInt8) (w : World) (hr : RefAt F w h d) (hf : Fits d) (hy : Bytes w B A0 n c0 b) (hB : B ≤ w.heap.size) (hA0 : 0 < n → ∀ a, A0 = some a → ¬ F a.block)
    (hn : n ≤ 140737488355328) (hsz : ∀ x, seek d.files f = some x → x.b.length + n ≤ 140737488355328) :
    Calls Tryz.prog 10 #[.pointer (some ⟨h, 0, none⟩), .int .i64 f, .slice A0 n c0] w (RDone F w h (append d f b)) := by
  have HR := Lib.hid hr
  have hup := hr.up
  obtain ⟨A, c, bl, hh, hg, hb⟩ := hr
  by_cases hrf : refuse d f false = 0
  · have hrf2 : d.off = false ∧ 0 ≤ f ∧ f < 16384 := by
      unfold refuse at hrf
      split at hrf
      · omega
      · rename_i h1
        split at hrf
        · omega
        · exact ⟨by simpa using h1, by omega, by omega⟩
    obtain ⟨hoff, h0, h1⟩ := hrf2
    obtain ⟨hu2, x, hx2, hp2, hpl2, hxx⟩ := begun_at hup h0 h1
    have hxl : x.b.length + n ≤ 140737488355328 := by
      rcases hxx with hs | ⟨_, rfl⟩
      · exact hsz x hs
      · simpa using hn
    have hlen := hup.le
    have HY := Lib.hid hy
    have HA0 := Lib.hid hA0
    have HH := Lib.hid hh
    have HB := Lib.hid hb
    have HO := Lib.hid hoff
    have HRF := Lib.hid hrf
    have HX := Lib.hid hx2
    have HP := Lib.hid hp2
    have HPL := Lib.hid hpl2
    have HU := Lib.hid hup
    have HU2 := Lib.hid hu2
    have HF := Lib.hid (show 0 ≤ f ∧ f < 16384 from ⟨h0, h1⟩)
    have HXX := Lib.hid hxx
    have HS := Lib.hid (show append d f b = (told d, { tick d with files := put (begunL d.files f) f (grow b) }) by rw [append, if_pos hrf])
    have HT := Lib.hid (show (if decide (d.left = 1) = true then (8 : Int) else 0) = told d by unfold told; by_cases e : d.left = 1 <;> simp [e])
    clear hh hb hoff hx2 hp2 hup hu2 h0 h1 hxx hpl2 hsz hrf hy hA0
    go_enter Tryz.func10, Tryz.ntmps10
    go_wp2_with fail
    refine (refused_any F h d f false w HR.out).mono ?_
    rintro e w1 ⟨rfl, q, rfl⟩
    rw [HRF.out]
    go_wp2_with fail
    refine (goes_any h d.files.length c A d (w.drewN q) HH.out HO.out hf).mono ?_
    rintro e w2 ⟨rfl, hh2, hw2⟩
    have hb2 := RBody.head (w := w.drewN q) HB.out HH.out hw2
    have HD2 := Lib.hid (rticked (F := F) hh2 hg hb2 hw2)
    have HB2 := Lib.hid hb2
    have HH2 := Lib.hid hh2
    clear hh2 hw2 hb2
    generalize decide (d.left = 1) = gn at HT ⊢
    go_wp2_with fail
    refine (at_any _ h (tick d) f w2 HD2.out.1).mono ?_
    rintro e W ⟨rfl, q2, hW⟩
    rw [show (tick d).files = d.files from rfl]
    have hbW : RBody W F d.files A c bl := by rw [← hW]; exact HB2.out
    have hhW : RHead W h (tick d) A d.files.length c := by rw [← hW]; exact HH2.out
    have htW : Turn F w W := by rw [← hW]; exact ⟨HD2.out.2.os, HD2.out.2.tape, HD2.out.2.output, HD2.out.2.size, HD2.out.2.block⟩
    have HBW := Lib.hid hbW
    have HHW := Lib.hid hhW
    have HTW := Lib.hid htW
    clear HB2 HH2 HD2 hW HB HH hbW hhW htW
    have hplt := place_le f d.files
    generalize hpp : place f d.files = p at HP HPL hplt ⊢
    have HPP := Lib.hid hpp
    clear hpp
    generalize hbn : isIn d.files f = bn
    have HBI := Lib.hid hbn
    clear hbn
    go_upto_if 27 with fail
    go_cut [] (fun wx => Mid F w h d f wx)
    case first =>
      cases bn with
      | true =>
        obtain ⟨y, hs⟩ : ∃ y, seek d.files f = some y := Option.isSome_iff_exists.1 HBI.out
        have HM : Hid (Mid F w h d f W) := by
          have e : begunL d.files f = d.files := by unfold begunL; exact if_neg (by rw [hs]; simp)
          unfold Mid
          rw [e]
          exact ⟨A, c, bl, HHW.out, HBW.out.mono fun _ hi => .inl hi, HTW.out⟩
        clear hs
        go_wp2_with fail
        go_meet
        exact HM.out
      | false =>
        have hs : seek d.files f = none := by
          have := HBI.out
          unfold isIn at this
          cases hq : seek d.files f with
          | none => rfl
          | some y => rw [hq] at this; cases this
        have HN := Lib.hid hs
        clear hs
        have c00 := HHW.out.cells.1
        have hle := (RRow.row HBW.out.rrow).le
        have hcg : ∀ m : List Fl, (∀ y ∈ m, y ∈ d.files) → fcells m bl = fcells m (updB bl f ⟨none, 0⟩) := fun m hm => fcells_congr fun y hy => by rw [updB_other _ _ (seek_none HN.out y (hm y hy))]
        have HF1 : Hid (Row W W.heap.size 3 A p c (fcells (d.files.take p) (updB bl f ⟨none, 0⟩))) := by
          rw [← hcg _ fun y hy => List.mem_of_mem_take hy]
          exact HBW.out.rrow.front hplt
        have HF2 : Hid (Row W W.heap.size 3 (cutF A c p) (d.files.length - p) (c - p) (fcells (d.files.drop p) (updB bl f ⟨none, 0⟩))) := by
          rw [← hcg _ fun y hy => List.mem_of_mem_drop hy]
          exact HBW.out.rrow.back hplt
        have HBN : Hid (begunL d.files f = d.files.take p ++ ⟨f, [], 0⟩ :: d.files.drop p) := by
          show begunL d.files f = _
          unfold begunL
          rw [if_pos HN.out, place_ins, HPP.out]
        clear hcg
        generalize hNN : d.files.length = N at *
        have HNN := Lib.hid hNN
        clear hNN
        have hpc : (p : Int) ≤ (c : Int) := by omega
        have hsl : ∀ w, (Instr.sliceAt 26 (.slice A N c) (some (.int .i64 (p : Int))) none none).run Tryz.prog w = .ok (.slice (cutF A c p) (N - p) (c - p)) w := fun w => run_cutF w A N c p (by omega) rfl
        generalize cutF A c p = A9 at hsl HF2
        have hlt : h < W.heap.size := Blk.lt HHW.out
        go_wp2_with (first
          | (at_builtin
             refine wpList_append_row rfl (.tmp 28) (.tmp 34) rfl ef W.heap.size _ 0 [] rfl (own_empty _ _ _ _ rfl (Nat.le_refl _)) W.heap.size A p c (fcells (d.files.take p) (updB bl f ⟨none, 0⟩)) rfl (HF1.out.alloc (Nat.le_refl _) _) (fcells_one _ _) (by omega) (by omega) (by simp) ?_
             intro A1 c1 w3 hown1 _ hb1
             rw [Nat.zero_add, List.nil_append] at hown1
             rw [Nat.zero_add]
             have HO1 := Lib.hid hown1
             have HB1 := Lib.hid (((Below.refl W.heap.size W).alloc (Nat.le_refl _) _).trans hb1)
             clear hown1 hb1)
          | (at_builtin
             refine wpList_append_row rfl (.tmp 36) (.tmp 39) rfl ef W.heap.size _ p (fcells (d.files.take p) (updB bl f ⟨none, 0⟩)) rfl (HO1.out.alloc _) _ _ 1 1 (fcells [⟨f, [], 0⟩] (updB bl f ⟨none, 0⟩)) rfl (one_file w3 f _ (updB_same _ _ _) rfl _) (fcells_one _ _) (by omega) (by omega) (by have := HB1.out.size; simp; omega) ?_
             intro A2 c2 w4 hown2 _ hb2
             rw [← fcells_append] at hown2
             have HO2 := Lib.hid hown2
             have HB3 := Lib.hid ((HB1.out.alloc HB1.out.size _).trans hb2)
             have c04 : w4.cell? ⟨h, 0, none⟩ = some (.slice A N c) := held_cell HB3.out c00
             clear hown2 hb2)
          | (at_builtin
             refine wpList_append_row rfl (.tmp 42) (.tmp 48) rfl ef W.heap.size _ (p + 1) _ rfl HO2.out W.heap.size A9 (N - p) (c - p) (fcells (d.files.drop p) (updB bl f ⟨none, 0⟩)) rfl (HF2.out.below HB3.out) (fcells_one _ _) (by omega) (by omega) HB3.out.size ?_
             intro A3 c3 w5 hown3 _ hb3
             rw [← fcells_append, List.append_assoc, List.singleton_append, ← HBN.out] at hown3
             have HO3 := Lib.hid hown3
             have HB4 := Lib.hid (HB3.out.trans hb3)
             have hh5 : RHead w5 h (tick d) A N c := Blk.below HHW.out HB4.out (Blk.lt HHW.out)
             have c05 := hh5.cells.1
             have z05 := Blk.frozen hh5 0
             have HH5 := Lib.hid hh5
             clear hown3 hb3 hh5)
          | fail)
        go_meet
        have hML : (begunL d.files f).length = p + 1 + (N - p) := by
          have := HO3.out.1
          rw [fcells_length] at this
          omega
        have ht : Turn F w w5 := HTW.out.trans (F' := F) (Turn.new HB4.out) fun _ hi => .inl hi
        have hbody : RBody w5 (Out F w w5) (begunL d.files f) A3 c3 (updB bl f ⟨none, 0⟩) := by
          refine ⟨?_, fun k hk => ?_, fun y hy => ?_, HU2.out⟩
          · rw [hML]
            exact own_mono HO3.out (Nat.zero_le _)
          · have := HO3.out.lt k (by rw [own_map]; exact hk)
            exact .inr ⟨Nat.le_trans HTW.out.size this.1, this.2⟩
          · have hy2 : y = ⟨f, [], 0⟩ ∨ y ∈ d.files := by
              unfold begunL at hy
              rw [if_pos HN.out] at hy
              exact ins_mem hy
            rcases hy2 with rfl | hy2
            · show BAt _ _ _ (updB bl f ⟨none, 0⟩ f)
              rw [updB_same]
              exact ⟨World.ownsRow_nil _ _ _ _, fun g hg => by cases hg⟩
            · rw [updB_other _ _ (seek_none HN.out y hy2)]
              have hy' := HBW.out.2.2.1 y hy2
              exact ⟨own_keep hy'.1 HB4.out, fun k hk => .inl (hy'.2 k hk)⟩
        have hw : w5.grownBy (w5.setCell ⟨h, 0, none⟩ (.slice A3 (p + 1 + (N - p)) c3)) (some h) := only_set (World.grownBy.refl _ _) _ _
        refine ⟨A3, c3, updB bl f ⟨none, 0⟩, ?_, (hbody.head HH5.out hw).mono fun i hi => Out.mono hw.size hi, ht.setCell (.inl hg) _⟩
        rw [hML]
        exact Blk.set_ HH5.out 0 (.slice A3 (p + 1 + (N - p)) c3)
    case rest =>
      clear HBW HHW HTW hplt
      obtain ⟨A1, c1, bl1, hh1, hb1, ht1⟩ := hcut
      have hu2 := HU2.out.le
      have hlt := len_of HP.out
      have hY1 : Bytes wc B A0 n c0 b := by
        refine ⟨HY.out.1, HY.out.2.1, HY.out.2.2.1, fun hn0 => ?_⟩
        obtain ⟨bb, off, e, hbb, hcc⟩ := HY.out.2.2.2 hn0
        refine ⟨bb, off, e, hbb, fun j u hu => ?_⟩
        rw [ht1.cell (p := ⟨bb, off + j, none⟩) (by dsimp only; omega) (by exact HA0.out hn0 ⟨bb, off, none⟩ e)]
        exact hcc j u hu
      have hB1 : B ≤ wc.heap.size := Nat.le_trans hB ht1.size
      have d0 := hh1.cells.1
      obtain ⟨g, cur, rfl, hFg, hbk, _, _, _, j2⟩ := hb1.at_ HP.out
      have hBx : BAt wc (Out F w wc) x (bl1 x.id) := hb1.2.2.1 x (List.mem_of_getElem? HP.out)
      have hYx := BAt.bytes hBx
      generalize hm : x.b.length = m at hYx j2 hxl
      generalize (bl1 x.id).A = A3 at j2 hYx
      generalize (bl1 x.id).c = c3 at j2 hYx
      have HM := Lib.hid hm
      have HYx := Lib.hid hYx
      have HY1 := Lib.hid hY1
      have HH1 := Lib.hid hh1
      have HB1 := Lib.hid hb1
      have HT1 := Lib.hid ht1
      have HK1 := Lib.hid hbk
      clear hm hYx hY1 hh1 hb1 ht1 hbk hBx HY
      generalize hNN : (begunL d.files f).length = N at *
      have HNN := Lib.hid hNN
      clear hNN
      go_wp2_with fail
      refine wp_region_last_at (S := fun w' => w'.cell? ⟨h, 0, none⟩ = some (.slice (some ⟨g, 0, none⟩) N c1) ∧ w'.cell? ⟨g, p * 3 + 2, none⟩ = some (.slice A3 m c3) ∧ Below wc.heap.size wc w') 19 _ rfl rfl (by kernel_rfl) (by kernel_rfl) (by kernel_rfl) (held2 (held_start wc) d0 j2) (fun hHeld => ?_)
      simp only [List.take_succ_cons, List.take_zero]
      refine wpAnyH_take (i := 0) (v := ?av0) rfl (by kernel_rfl) (by kernel_rfl) (by kernel_rfl) (fun _ _ _ h => h) (Or.inl ⟨by rfl, ?ay0⟩) (by assumption) ?ar0
      case ay0 => (intro w hSw; (try dsimp only at hSw); go_simp; try with_reducible rfl)
      try simp only [Act.put, List.getElem_toArray, List.getElem_cons_succ, List.getElem_cons_zero, List.setIfInBounds_toArray, List.set_cons_zero, List.set_cons_succ]
      refine wpAnyH_take (i := 1) (v := ?av1) rfl (by kernel_rfl) (by kernel_rfl) (by kernel_rfl) (fun _ _ _ h => h) (Or.inl ⟨by rfl, ?ay1⟩) (by assumption) ?ar1
      case ay1 => (intro w hSw; (try dsimp only at hSw); go_simp; try with_reducible rfl)
      try simp only [Act.put, List.getElem_toArray, List.getElem_cons_succ, List.getElem_cons_zero, List.setIfInBounds_toArray, List.set_cons_zero, List.set_cons_succ]
      refine wpAnyH_take (i := 2) (v := ?av2) rfl (by kernel_rfl) (by kernel_rfl) (by kernel_rfl) (fun _ _ _ h => h) (Or.inl ⟨by rfl, ?ay2⟩) (by assumption) ?ar2
      case ay2 => (intro w hSw; (try dsimp only at hSw); go_simp; try with_reducible rfl)
      try simp only [Act.put, List.getElem_toArray, List.getElem_cons_succ, List.getElem_cons_zero, List.setIfInBounds_toArray, List.set_cons_zero, List.set_cons_succ]
      refine wpAnyH_take (i := 3) (v := ?av3) rfl (by kernel_rfl) (by kernel_rfl) (by kernel_rfl) (fun _ _ _ h => h) (Or.inl ⟨by rfl, ?ay3⟩) (by assumption) ?ar3
      case ay3 => (intro w hSw; (try dsimp only at hSw); go_simp; try with_reducible rfl)
      try simp only [Act.put, List.getElem_toArray, List.getElem_cons_succ, List.getElem_cons_zero, List.setIfInBounds_toArray, List.set_cons_zero, List.set_cons_succ]
      refine wpAnyH_take (i := 4) (v := ?av4) rfl (by kernel_rfl) (by kernel_rfl) (by kernel_rfl) (fun _ _ _ h => h) (Or.inl ⟨by rfl, ?ay4⟩) (by assumption) ?ar4
      case ay4 => (intro w hSw; (try dsimp only at hSw); go_simp; try with_reducible rfl)
      try simp only [Act.put, List.getElem_toArray, List.getElem_cons_succ, List.getElem_cons_zero, List.setIfInBounds_toArray, List.set_cons_zero, List.set_cons_succ]
      refine wpAnyH_take (i := 6) (v := ?av6) rfl (by kernel_rfl) (by kernel_rfl) (by kernel_rfl) (fun _ _ _ h => h) (Or.inl ⟨by rfl, ?ay6⟩) (by assumption) ?ar6
      case ay6 => (intro w hSw; (try dsimp only at hSw); go_simp; try with_reducible rfl)
      try simp only [Act.put, List.getElem_toArray, List.getElem_cons_succ, List.getElem_cons_zero, List.setIfInBounds_toArray, List.set_cons_zero, List.set_cons_succ]
      refine wpAnyH_take (i := 7) (v := ?av7) rfl (by kernel_rfl) (by kernel_rfl) (by kernel_rfl) (fun _ _ _ h => h) (Or.inl ⟨by rfl, ?ay7⟩) (by assumption) ?ar7
      case ay7 => (intro w hSw; (try dsimp only at hSw); go_simp; try with_reducible rfl)
      try simp only [Act.put, List.getElem_toArray, List.getElem_cons_succ, List.getElem_cons_zero, List.setIfInBounds_toArray, List.set_cons_zero, List.set_cons_succ]
      refine wpAnyH_take (i := 8) (v := ?av8) rfl (by kernel_rfl) (by kernel_rfl) (by kernel_rfl) (fun _ _ _ h => h) (Or.inl ⟨by rfl, ?ay8⟩) (by assumption) ?ar8
      case ay8 => (intro w hSw; (try dsimp only at hSw); go_simp; try with_reducible rfl)
      try simp only [Act.put, List.getElem_toArray, List.getElem_cons_succ, List.getElem_cons_zero, List.setIfInBounds_toArray, List.set_cons_zero, List.set_cons_succ]
      refine wpAnyH_take (i := 9) (v := ?av9) rfl (by kernel_rfl) (by kernel_rfl) (by kernel_rfl) (fun _ _ _ h => h) (Or.inl ⟨by rfl, ?ay9⟩) (by assumption) ?ar9
      case ay9 => (intro w hSw; (try dsimp only at hSw); go_simp; try with_reducible rfl)
      try simp only [Act.put, List.getElem_toArray, List.getElem_cons_succ, List.getElem_cons_zero, List.setIfInBounds_toArray, List.set_cons_zero, List.set_cons_succ]
      refine wpAnyH_take (i := 10) (v := ?av10) rfl (by kernel_rfl) (by kernel_rfl) (by kernel_rfl) (fun _ _ _ h => h) (Or.inl ⟨by rfl, ?ay10⟩) (by assumption) ?ar10
      case ay10 => (intro w hSw; (try dsimp only at hSw); go_simp; try with_reducible rfl)
      try simp only [Act.put, List.getElem_toArray, List.getElem_cons_succ, List.getElem_cons_zero, List.setIfInBounds_toArray, List.set_cons_zero, List.set_cons_succ]
      refine wpAnyH_take (i := 11) (v := ?av11) rfl (by kernel_rfl) (by kernel_rfl) (by kernel_rfl) (fun _ _ _ h => h) (Or.inl ⟨by rfl, ?ay11⟩) (by assumption) ?ar11
      case ay11 => (intro w hSw; (try dsimp only at hSw); go_simp; try with_reducible rfl)
      try simp only [Act.put, List.getElem_toArray, List.getElem_cons_succ, List.getElem_cons_zero, List.setIfInBounds_toArray, List.set_cons_zero, List.set_cons_succ]
      refine wpAnyH_take (i := 12) (v := ?av12) rfl (by kernel_rfl) (by kernel_rfl) (by kernel_rfl) (fun _ _ _ h => h) (Or.inl ⟨by rfl, ?ay12⟩) (by assumption) ?ar12
      case ay12 => (intro w hSw; (try dsimp only at hSw); go_simp; try with_reducible rfl)
      try simp only [Act.put, List.getElem_toArray, List.getElem_cons_succ, List.getElem_cons_zero, List.setIfInBounds_toArray, List.set_cons_zero, List.set_cons_succ]
      refine wpAnyH_take (i := 13) (v := ?av13) rfl (by kernel_rfl) (by kernel_rfl) (by kernel_rfl) (fun _ _ _ h => h) (Or.inl ⟨by rfl, ?ay13⟩) (by assumption) ?ar13
      case ay13 => (intro w hSw; (try dsimp only at hSw); go_simp; try with_reducible rfl)
      try simp only [Act.put, List.getElem_toArray, List.getElem_cons_succ, List.getElem_cons_zero, List.setIfInBounds_toArray, List.set_cons_zero, List.set_cons_succ]
      refine wpAnyH_take (i := 15) (v := ?av15) rfl (by kernel_rfl) (by kernel_rfl) (by kernel_rfl) (fun _ _ _ h => h) (Or.inl ⟨by rfl, ?ay15⟩) (by assumption) ?ar15
      case ay15 => (intro w hSw; (try dsimp only at hSw); go_simp; try with_reducible rfl)
      try simp only [Act.put, List.getElem_toArray, List.getElem_cons_succ, List.getElem_cons_zero, List.setIfInBounds_toArray, List.set_cons_zero, List.set_cons_succ]
      refine wpAnyH_ready (rs := [5]) (by kernel_rfl) (by simp) ?_
      refine AllReadyH.cons rfl (fun K hK => ?_) AllReadyH.nil
      go_simp
      refine hK.out _ _ (held2 (held_alloc_drew (held_start wc) _) d0 j2) (fun hHeld => ?_)
      clear hK K
      try simp only [Act.put, List.getElem_toArray, List.getElem_cons_succ, List.getElem_cons_zero, List.setIfInBounds_toArray, List.set_cons_zero, List.set_cons_succ]
      refine wpAnyH_ready (rs := [14]) (by kernel_rfl) (by simp) ?_
      refine AllReadyH.cons rfl (fun K hK => ?_) AllReadyH.nil
      refine step_append_row (by rfl) (.tmp 57) (.tmp 65) (by rfl) eb wc.heap.size (.slice (some ⟨wc.heap.size, 0, none⟩) 0 0) 0 [] (by rfl) (own_empty wc wc.heap.size _ 1 rfl (Nat.le_refl _)) wc.heap.size A3 m c3 (bv x.b) (by rfl) (HYx.out.alloc (Nat.le_refl _) _) (bv_one _) (by omega) (by omega) (by simp [World.drew]) ?_
      intro A4 c4 w4 hown4 _ hb4
      rw [Nat.zero_add, List.nil_append] at hown4
      rw [Nat.zero_add]
      have hB4 : Below wc.heap.size wc w4 := (held_alloc_drew (held_start wc) (.cells #[] 5)).trans hb4
      refine hK.out _ _ (held2 hB4 d0 j2) (fun hHeld => ?_)
      clear hK K
      try simp only [Act.put, List.getElem_toArray, List.getElem_cons_succ, List.getElem_cons_zero, List.setIfInBounds_toArray, List.set_cons_zero, List.set_cons_succ]
      refine wpAnyH_ready (rs := [16]) (by kernel_rfl) (by simp) ?_
      refine AllReadyH.cons rfl (fun K hK => ?_) AllReadyH.nil
      refine step_append_row (by rfl) (.tmp 66) (.tmp 67) (by rfl) eb wc.heap.size (.slice A4 m c4) m (bv x.b) (by rfl) hown4 B A0 n c0 (bv b) (by rfl) (HY1.out.below (hB4.mono hB1)) (bv_one _) (by omega) (by omega) hB4.size ?_
      intro A5 c5 w5 hown5 _ hb5
      rw [← bv_append] at hown5
      have hB5 : Below wc.heap.size wc w5 := hB4.trans hb5
      refine hK.out _ _ (held2 hB5 d0 j2) (fun hHeld => ?_)
      clear hK K
      try simp only [Act.put, List.getElem_toArray, List.getElem_cons_succ, List.getElem_cons_zero, List.setIfInBounds_toArray, List.set_cons_zero, List.set_cons_succ]
      refine wpAnyH_take (i := 17) (v := ?bv17) rfl (by kernel_rfl) (by kernel_rfl) (by kernel_rfl) (fun _ _ _ h => h) (Or.inl ⟨by rfl, ?by17⟩) (by assumption) ?br17
      case by17 => (intro w hSw; (try dsimp only at hSw); go_simp; try with_reducible rfl)
      try simp only [Act.put, List.getElem_toArray, List.getElem_cons_succ, List.getElem_cons_zero, List.setIfInBounds_toArray, List.set_cons_zero, List.set_cons_succ]
      refine wpAnyH_take (i := 18) (v := ?bv18) rfl (by kernel_rfl) (by kernel_rfl) (by kernel_rfl) (fun _ _ _ h => h) (Or.inl ⟨by rfl, ?by18⟩) (by assumption) ?br18
      case by18 => (intro w hSw; (try dsimp only at hSw); go_simp; try with_reducible rfl)
      try simp only [Act.put, List.getElem_toArray, List.getElem_cons_succ, List.getElem_cons_zero, List.setIfInBounds_toArray, List.set_cons_zero, List.set_cons_succ]
      refine wpAnyH_done (by kernel_rfl) ?_ _
      refine then_normal rfl ?_
      have hln : (x.b ++ b).length = m + n := by have := hown5.1; rw [bv_length, Nat.mul_one] at this; exact this
      have hrow : RRow w5 (Out F w w5) (begunL d.files f) (some ⟨g, 0, none⟩) c1 bl1 := (HB1.out.rrow.new hB5).mono fun _ hi => Out.mono hB5.size hi
      have hbk5 : Blk w5 g 79 cur := Blk.below HK1.out hB5 (Blk.lt HK1.out)
      have hq : BAt w5 (Out F w w5) { x with b := x.b ++ b } ⟨A5, c5⟩ := by
        refine ⟨?_, fun k hk => ?_⟩
        · show w5.ownsRow 0 5 1 (.slice A5 (x.b ++ b).length c5) (x.b ++ b).length (bv (x.b ++ b))
          rw [hln]
          exact own_mono hown5 (Nat.zero_le _)
        · have := hown5.lt k (by rw [own_map]; exact hk)
          exact .inr ⟨Nat.le_trans HT1.out.size this.1, this.2⟩
      have hrow2 := hrow.bytes_ (Up.once HU2.out) HP.out hbk5 hq
      rw [show (Bl.mk A5 c5).A = A5 from rfl, show (Bl.mk A5 c5).c = c5 from rfl, hln] at hrow2
      have e2 : w5.cell? ⟨g, p * 3 + 2, none⟩ = some (.slice A3 m c3) := held_cell hB5 j2
      have z2 := Blk.frozen hbk5 (p * 3 + 2)
      have hgh : h ≠ g := fun e => by
        have a := HH1.out
        have b := HK1.out
        unfold RHead Blk at a
        unfold Blk at b
        rw [e, b] at a
        cases a
      have hFw : F g ∨ w.heap.size ≤ g := hFg.imp id fun h => h.1
      have HE : Hid (RefAt (Out F w (w5.setCell ⟨g, p * 3 + 2, none⟩ (.slice A5 (m + n) c5))) (w5.setCell ⟨g, p * 3 + 2, none⟩ (.slice A5 (m + n) c5)) h { tick d with files := put (begunL d.files f) f (grow b) } ∧ Turn F w (w5.setCell ⟨g, p * 3 + 2, none⟩ (.slice A5 (m + n) c5))) := by
        have hl : put (begunL d.files f) f (grow b) = (begunL d.files f).set p { x with b := x.b ++ b } := by
          rw [place_put (grow b) HU2.out HX.out, HPL.out]
          rfl
        rw [← hl] at hrow2
        have ht : Turn F w w5 := HT1.out.trans (F' := F) (Turn.new hB5) fun _ hi => .inl hi
        refine ⟨⟨_, c1, _, ?_, .inl hg, (hrow2.body (put_up (g := grow b) (fun _ => rfl) (grow_ok b) HU2.out)).mono fun i hi => Out.mono (by simp [World.setCell]) hi⟩, ht.setCell hFw _⟩
        show RHead _ h { tick d with files := put (begunL d.files f) f (grow b) } _ (put (begunL d.files f) f (grow b)).length c1
        rw [put_length, HNN.out]
        exact Blk.far (Blk.below HH1.out hB5 (Blk.lt HH1.out)) hgh _
      clear hrow hq hrow2 hb4 hB4 hown4 hb5 hB5 hown5 hHeld hbk5 HK1 HB1 HH1 HT1 HYx HY1 d0 hln
      go_wp2_with fail
      refine (told_any gn _).mono ?_
      rintro e w6 ⟨rfl, rfl⟩
      rw [HT.out]
      go_wp2
      go_ret
      rw [HS.out]
      exact ⟨rfl, HE.out.1, ⟨HE.out.2.os, HE.out.2.tape, HE.out.2.output, HE.out.2.size, HE.out.2.block⟩⟩
  · have HS := Lib.hid (show append d f b = (refuse d f false, d) by rw [append, if_neg hrf])
    generalize hk : refuse d f false = k at hrf HS
    have HK := Lib.hid hk
    have hne : (k != 0) = true := by simpa using hrf
    clear hh hb hk hup hsz hy hA0
    go_enter Tryz.func10, Tryz.ntmps10
    go_wp2_with fail
    refine (refused_any F h d f false w HR.out).mono ?_
    rintro e w1 ⟨rfl, q, rfl⟩
    rw [HK.out]
    go_wp2
    go_ret
    rw [HS.out]
    exact RDone.no HR.out q
end Go.Proofs.YtedfddnbgljcjaaGreat.Ref
