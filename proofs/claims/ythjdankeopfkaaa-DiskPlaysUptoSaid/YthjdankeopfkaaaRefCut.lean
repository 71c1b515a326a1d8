/-
  The contract of the document's own Cut.
-/
import Derived.Test.YthjdankeopfkaaaRefOps
import Derived.Test.YthjdankeopfkaaaRegionLast
namespace Go.Proofs.Ythjdankeopfkaaa.Ref
open Go.RowKit Base DiskMath Disk Last
set_option linter.ambiguousOpen false
set_option linter.unusedSimpArgs false

set_option maxRecDepth 100000 in
set_option maxHeartbeats 1600000 in
theorem refcut_do (F : Nat → Prop) (h : Nat) (d : Dk) (f : Int) (n : Nat) (w : World) (hr : RefAt F w h d) (hf : Fits d) (hrf : refuse d f true = 0) (hn : (n : Int) ≤ size d f) (hl : ¬ d.left = 1) (hsz : ∀ x, seek d.files f = some x → x.b.length ≤ 140737488355328) :
    Calls Try.prog 35 #[.pointer (some ⟨h, 0, none⟩), .int .i64 f, .int .i64 n] w (RDone F w h (cut d f n)) := by
  have HR := Lib.hid hr
  have hup := hr.up
  obtain ⟨A, c, bl, hh, hg, hb⟩ := hr
  obtain ⟨hoff, _, _, x, hx⟩ := refuse_zero hrf
  have hsize := size_seen hx
  have hnx : n ≤ x.b.length := by rw [hsize] at hn; omega
  have hxs := hsz x hx
  have hp := place_seek hup hx
  have hlt := len_of hp
  have hlen := hup.le
  have HH := Lib.hid hh
  have HB := Lib.hid hb
  have HO := Lib.hid hoff
  have HRF := Lib.hid hrf
  have HX := Lib.hid hx
  have HP := Lib.hid hp
  have HU := Lib.hid hup
  have HI := Lib.hid (show isIn d.files f = true by rw [isIn, hx]; rfl)
  have HT := Lib.hid (decide_eq_false hl)
  have HS := Lib.hid (show cut d f n = (0, { tick d with files := put d.files f (trim n) }) by rw [cut, if_pos hrf, hsize, if_neg (by omega), (told_more hl _).2, Int.toNat_natCast])
  clear hh hb hoff hx hp hup hsize hn hsz hl hrf
  go_enter Try.func35, Try.ntmps35
  go_wp2_with fail
  refine (refused_any F h d f true w HR.out).mono ?_
  rintro e w1 ⟨rfl, q, rfl⟩
  rw [HRF.out]
  go_wp2_with fail
  refine (at_any F h d f (w.drewN q) HR.out).mono ?_
  rintro e W ⟨rfl, q2, hW⟩
  rw [HI.out]
  have hbW : RBody W F d.files A c bl := by rw [← hW]; exact HB.out
  have hhW : RHead W h d A d.files.length c := by rw [← hW]; exact HH.out
  have htW : Turn F w W := by rw [← hW]; exact ((Turn.refl F w).drewN q).drewN q2
  have c0 := hhW.cells.1
  obtain ⟨g, cur, rfl, hFg, hbk, _, _, _, k2⟩ := hbW.at_ HP.out
  have HHW := Lib.hid hhW
  have HBW := Lib.hid hbW
  have HTW := Lib.hid htW
  clear hW HB HH hhW hbW htW hbk
  have hb1 : decide ((n : Int) < 0) = false := by simp
  have hb2 : decide (x.b.length < n) = false := by simp; omega
  have hb3 : decide ((x.b.length : Int) < (n : Int)) = false := by simp; omega
  generalize hm : x.b.length = m at k2 hb2 hb3 hnx hxs
  generalize (bl x.id).A = A2 at k2
  generalize (bl x.id).c = c2 at k2
  have HM := Lib.hid hm
  clear hm
  generalize hpp : place f d.files = p at *
  have HPP := Lib.hid hpp
  clear hpp
  generalize hNN : d.files.length = N at *
  have HNN := Lib.hid hNN
  clear hNN
  go_wp2_with fail
  refine (goes_any h N c _ d W HHW.out HO.out hf).mono ?_
  rintro e W2 ⟨rfl, hh2, hw2⟩
  have hb2' : RBody W2 F d.files (some ⟨g, 0, none⟩) c bl := HBW.out.head HHW.out hw2
  have ht2 : Turn F w W2 := HTW.out.trans (Turn.grown (F := F) hw2 fun k e => by injection e with e; rw [← e]; exact hg) fun _ hi => .inl hi
  have d0 := hh2.cells.1
  obtain ⟨g', cur2, hgg, _, hbk2, _, _, j1, j2⟩ := hb2'.at_ HP.out
  obtain rfl : g = g' := by injection hgg with hgg; injection hgg
  have hBx : BAt W2 F x (bl x.id) := hb2'.2.2.1 x (List.mem_of_getElem? HP.out)
  have hY := (BAt.bytes hBx).front (k := n) (by rw [HM.out]; exact hnx)
  have hYl := (BAt.bytes hBx).le
  rw [HM.out] at hYl
  rw [HM.out] at j2
  generalize hA2 : (bl x.id).A = A3 at j2 hY hYl
  generalize hC2 : (bl x.id).c = c3 at j2 hY hYl
  have hnc : (n : Int) ≤ (c3 : Int) := by omega
  have HY := Lib.hid hY
  have HH2 := Lib.hid hh2
  have HB2 := Lib.hid hb2'
  have HT2 := Lib.hid ht2
  have HK2 := Lib.hid hbk2
  clear hh2 hb2' ht2 hw2 hgg hBx hY hbk2 hA2 hC2 HHW HBW HTW c0 k2
  rw [HT.out]
  go_wp2_with fail
  refine wp_region_last_at (S := fun w' => w'.cell? ⟨h, 0, none⟩ = some (.slice (some ⟨g, 0, none⟩) N c) ∧ w'.cell? ⟨g, p * 3 + 2, none⟩ = some (.slice A3 m c3) ∧ Below W2.heap.size W2 w') 19 _ rfl rfl (by kernel_rfl) (by kernel_rfl) (by kernel_rfl) (held2 (held_start W2) d0 j2) (fun hHeld => ?_)
  simp only [List.take_succ_cons, List.take_zero]
  refine wpAnyH_take (i := 0) (v := ?av0) rfl (by kernel_rfl) (by kernel_rfl) (by kernel_rfl) (fun _ _ _ h => h) (Or.inl ⟨by rfl, ?ay0⟩) (by assumption) ?ar0
  case ay0 => (intro w hSw; (try dsimp only at hSw); go_simp; try with_reducible rfl)
  try simp only [Act.put, List.setIfInBounds_toArray, List.set_cons_zero, List.set_cons_succ]
  refine wpAnyH_take (i := 1) (v := ?av1) rfl (by kernel_rfl) (by kernel_rfl) (by kernel_rfl) (fun _ _ _ h => h) (Or.inl ⟨by rfl, ?ay1⟩) (by assumption) ?ar1
  case ay1 => (intro w hSw; (try dsimp only at hSw); go_simp; try with_reducible rfl)
  try simp only [Act.put, List.setIfInBounds_toArray, List.set_cons_zero, List.set_cons_succ]
  refine wpAnyH_take (i := 2) (v := ?av2) rfl (by kernel_rfl) (by kernel_rfl) (by kernel_rfl) (fun _ _ _ h => h) (Or.inl ⟨by rfl, ?ay2⟩) (by assumption) ?ar2
  case ay2 => (intro w hSw; (try dsimp only at hSw); go_simp; try with_reducible rfl)
  try simp only [Act.put, List.setIfInBounds_toArray, List.set_cons_zero, List.set_cons_succ]
  refine wpAnyH_take (i := 3) (v := ?av3) rfl (by kernel_rfl) (by kernel_rfl) (by kernel_rfl) (fun _ _ _ h => h) (Or.inl ⟨by rfl, ?ay3⟩) (by assumption) ?ar3
  case ay3 => (intro w hSw; (try dsimp only at hSw); go_simp; try with_reducible rfl)
  try simp only [Act.put, List.setIfInBounds_toArray, List.set_cons_zero, List.set_cons_succ]
  refine wpAnyH_take (i := 4) (v := ?av4) rfl (by kernel_rfl) (by kernel_rfl) (by kernel_rfl) (fun _ _ _ h => h) (Or.inl ⟨by rfl, ?ay4⟩) (by assumption) ?ar4
  case ay4 => (intro w hSw; (try dsimp only at hSw); go_simp; try with_reducible rfl)
  try simp only [Act.put, List.setIfInBounds_toArray, List.set_cons_zero, List.set_cons_succ]
  refine wpAnyH_take (i := 6) (v := ?av6) rfl (by kernel_rfl) (by kernel_rfl) (by kernel_rfl) (fun _ _ _ h => h) (Or.inl ⟨by rfl, ?ay6⟩) (by assumption) ?ar6
  case ay6 => (intro w hSw; (try dsimp only at hSw); go_simp; try with_reducible rfl)
  try simp only [Act.put, List.setIfInBounds_toArray, List.set_cons_zero, List.set_cons_succ]
  refine wpAnyH_take (i := 7) (v := ?av7) rfl (by kernel_rfl) (by kernel_rfl) (by kernel_rfl) (fun _ _ _ h => h) (Or.inl ⟨by rfl, ?ay7⟩) (by assumption) ?ar7
  case ay7 => (intro w hSw; (try dsimp only at hSw); go_simp; try with_reducible rfl)
  try simp only [Act.put, List.setIfInBounds_toArray, List.set_cons_zero, List.set_cons_succ]
  refine wpAnyH_take (i := 8) (v := ?av8) rfl (by kernel_rfl) (by kernel_rfl) (by kernel_rfl) (fun _ _ _ h => h) (Or.inl ⟨by rfl, ?ay8⟩) (by assumption) ?ar8
  case ay8 => (intro w hSw; (try dsimp only at hSw); go_simp; try with_reducible rfl)
  try simp only [Act.put, List.setIfInBounds_toArray, List.set_cons_zero, List.set_cons_succ]
  refine wpAnyH_take (i := 9) (v := ?av9) rfl (by kernel_rfl) (by kernel_rfl) (by kernel_rfl) (fun _ _ _ h => h) (Or.inl ⟨by rfl, ?ay9⟩) (by assumption) ?ar9
  case ay9 => (intro w hSw; (try dsimp only at hSw); go_simp; try with_reducible rfl)
  try simp only [Act.put, List.setIfInBounds_toArray, List.set_cons_zero, List.set_cons_succ]
  refine wpAnyH_take (i := 10) (v := ?av10) rfl (by kernel_rfl) (by kernel_rfl) (by kernel_rfl) (fun _ _ _ h => h) (Or.inl ⟨by rfl, ?ay10⟩) (by assumption) ?ar10
  case ay10 => (intro w hSw; (try dsimp only at hSw); go_simp; try with_reducible rfl)
  try simp only [Act.put, List.setIfInBounds_toArray, List.set_cons_zero, List.set_cons_succ]
  refine wpAnyH_take (i := 11) (v := ?av11) rfl (by kernel_rfl) (by kernel_rfl) (by kernel_rfl) (fun _ _ _ h => h) (Or.inl ⟨by rfl, ?ay11⟩) (by assumption) ?ar11
  case ay11 => (intro w hSw; (try dsimp only at hSw); go_simp; try with_reducible rfl)
  try simp only [Act.put, List.setIfInBounds_toArray, List.set_cons_zero, List.set_cons_succ]
  refine wpAnyH_take (i := 12) (v := ?av12) rfl (by kernel_rfl) (by kernel_rfl) (by kernel_rfl) (fun _ _ _ h => h) (Or.inl ⟨by rfl, ?ay12⟩) (by assumption) ?ar12
  case ay12 => (intro w hSw; (try dsimp only at hSw); go_simp; try with_reducible rfl)
  try simp only [Act.put, List.setIfInBounds_toArray, List.set_cons_zero, List.set_cons_succ]
  refine wpAnyH_take (i := 13) (v := ?av13) rfl (by kernel_rfl) (by kernel_rfl) (by kernel_rfl) (fun _ _ _ h => h) (Or.inl ⟨by rfl, ?ay13⟩) (by assumption) ?ar13
  case ay13 => (intro w hSw; (try dsimp only at hSw); go_simp; try with_reducible rfl)
  try simp only [Act.put, List.setIfInBounds_toArray, List.set_cons_zero, List.set_cons_succ]
  refine wpAnyH_take (i := 14) (v := ?av14) rfl (by kernel_rfl) (by kernel_rfl) (by kernel_rfl) (fun _ _ _ h => h) (Or.inl ⟨by rfl, ?ay14⟩) (by assumption) ?ar14
  case ay14 => (intro w hSw; (try dsimp only at hSw); go_simp; try with_reducible rfl)
  try simp only [Act.put, List.setIfInBounds_toArray, List.set_cons_zero, List.set_cons_succ]
  refine wpAnyH_take (i := 15) (v := ?av15) rfl (by kernel_rfl) (by kernel_rfl) (by kernel_rfl) (fun _ _ _ h => h) (Or.inl ⟨by rfl, ?ay15⟩) (by assumption) ?ar15
  case ay15 => (intro w hSw; (try dsimp only at hSw); go_simp; try with_reducible rfl)
  try simp only [Act.put, List.setIfInBounds_toArray, List.set_cons_zero, List.set_cons_succ]
  refine wpAnyH_ready (rs := [5]) (by kernel_rfl) (by simp) ?_
  refine AllReadyH.cons rfl (fun K hK => ?_) AllReadyH.nil
  go_simp
  refine hK.out _ _ (held2 (held_alloc_drew (held_start W2) _) d0 j2) (fun hHeld => ?_)
  clear hK K
  try simp only [Act.put, List.setIfInBounds_toArray, List.set_cons_zero, List.set_cons_succ]
  refine wpAnyH_ready (rs := [16]) (by kernel_rfl) (by simp) ?_
  refine AllReadyH.cons rfl (fun K hK => ?_) AllReadyH.nil
  refine step_append_row (by rfl) (.tmp 47) (.tmp 57) (by rfl) eb W2.heap.size (.slice (some ⟨W2.heap.size, 0, none⟩) 0 0) 0 [] (by rfl) (own_empty W2 W2.heap.size _ 1 rfl (Nat.le_refl _)) W2.heap.size A3 n c3 (bv (x.b.take n)) (by rfl) (HY.out.alloc (Nat.le_refl _) _) (bv_one _) (by omega) (by omega) (by simp [World.drew]) ?_
  intro A1 c1 w1 hown1 _ hb1
  rw [Nat.zero_add, List.nil_append] at hown1
  rw [Nat.zero_add]
  have hB1 : Below W2.heap.size W2 w1 := (held_alloc_drew (held_start W2) (.cells #[] 5)).trans hb1
  refine hK.out _ _ (held2 hB1 d0 j2) (fun hHeld => ?_)
  clear hK K
  simp only [Act.put, List.getElem_toArray, List.getElem_cons_succ, List.getElem_cons_zero, List.setIfInBounds_toArray, List.set_cons_zero, List.set_cons_succ]
  refine wpAnyH_take (i := 17) (v := ?bv17) rfl (by kernel_rfl) (by kernel_rfl) (by kernel_rfl) (fun _ _ _ h => h) (Or.inl ⟨by rfl, ?by17⟩) (by assumption) ?br17
  case by17 => (intro w hSw; (try dsimp only at hSw); go_simp; try with_reducible rfl)
  try simp only [Act.put, List.setIfInBounds_toArray, List.set_cons_zero, List.set_cons_succ]
  refine wpAnyH_take (i := 18) (v := ?bv18) rfl (by kernel_rfl) (by kernel_rfl) (by kernel_rfl) (fun _ _ _ h => h) (Or.inl ⟨by rfl, ?by18⟩) (by assumption) ?br18
  case by18 => (intro w hSw; (try dsimp only at hSw); go_simp; try with_reducible rfl)
  try simp only [Act.put, List.setIfInBounds_toArray, List.set_cons_zero, List.set_cons_succ]
  refine wpAnyH_done (by kernel_rfl) ?_ _
  refine then_normal rfl ?_
  have hrow : RRow w1 (Out F w w1) d.files (some ⟨g, 0, none⟩) c bl := (HB2.out.rrow.new hB1).mono fun _ hi => .inl hi
  have hbk1 : Blk w1 g 64 cur2 := Blk.below HK2.out hB1 (Blk.lt HK2.out)
  have hq : BAt w1 (Out F w w1) { x with b := x.b.take n } ⟨A1, c1⟩ := by
    have hln : (x.b.take n).length = n := Disk.take_len (by rw [HM.out]; exact hnx)
    refine ⟨?_, fun k hk => ?_⟩
    · show w1.ownsRow 0 5 1 (.slice A1 (x.b.take n).length c1) (x.b.take n).length (bv (x.b.take n))
      rw [hln]
      exact own_mono hown1 (Nat.zero_le _)
    · have := hown1.lt k (by rw [own_map]; exact hk)
      exact .inr ⟨Nat.le_trans HT2.out.size this.1, this.2⟩
  have hrow2 := hrow.bytes_ (Up.once HU.out) HP.out hbk1 hq
  rw [show (Bl.mk A1 c1).A = A1 from rfl, show (Bl.mk A1 c1).c = c1 from rfl, Disk.take_len (by rw [HM.out]; exact hnx)] at hrow2
  have e2 : w1.cell? ⟨g, p * 3 + 2, none⟩ = some (.slice A3 m c3) := held_cell hB1 j2
  have z2 := Blk.frozen hbk1 (p * 3 + 2)
  have hgh : h ≠ g := fun e => by
    have a := HH2.out
    have b := HK2.out
    unfold RHead Blk at a
    unfold Blk at b
    rw [e, b] at a
    cases a
  have hh4 : RHead (w1.setCell ⟨g, p * 3 + 2, none⟩ (.slice A1 n c1)) h (tick d) (some ⟨g, 0, none⟩) N c := Blk.far (Blk.below HH2.out hB1 (Blk.lt HH2.out)) hgh _
  have ht4 : Turn F w (w1.setCell ⟨g, p * 3 + 2, none⟩ (.slice A1 n c1)) := (HT2.out.trans (F' := F) (Turn.new hB1) fun _ hi => .inl hi).setCell (.inl hFg) _
  have hrow4 := hrow2.mono (F' := Out F w (w1.setCell ⟨g, p * 3 + 2, none⟩ (.slice A1 n c1))) fun i hi => Out.mono (by simp [World.setCell]) hi
  have hx4 : (d.files.set p { x with b := x.b.take n })[p]? = some { x with b := x.b.take n } := List.getElem?_set_self (by rw [HNN.out]; exact hlt)
  obtain ⟨g4, cur4, hgg, _, hbk4, _, _, f1, _⟩ := hrow4.at_ hx4
  obtain rfl : g = g4 := by injection hgg with hgg; injection hgg
  have f0 := hh4.cells.1
  have z4 := Blk.frozen hbk4 (p * 3 + 1)
  have HE : Hid (RefAt (Out F w ((w1.setCell ⟨g, p * 3 + 2, none⟩ (.slice A1 n c1)).setCell ⟨g, p * 3 + 1, none⟩ (.int .i64 (min x.safe n : Nat)))) ((w1.setCell ⟨g, p * 3 + 2, none⟩ (.slice A1 n c1)).setCell ⟨g, p * 3 + 1, none⟩ (.int .i64 (min x.safe n : Nat))) h { tick d with files := put d.files f (trim n) } ∧
      Turn F w ((w1.setCell ⟨g, p * 3 + 2, none⟩ (.slice A1 n c1)).setCell ⟨g, p * 3 + 1, none⟩ (.int .i64 (min x.safe n : Nat)))) := by
    have hl : put d.files f (trim n) = (d.files.set p { x with b := x.b.take n }).set p { x with b := x.b.take n, safe := min x.safe n } := by
      rw [place_put (trim n) HU.out HX.out, HPP.out, List.set_set]
      rfl
    have hrow5 := hrow4.safe_ hx4 hbk4 (min x.safe n)
    rw [← hl] at hrow5
    refine ⟨⟨_, c, _, ?_, .inl hg, (hrow5.body (put_up (g := trim n) (fun _ => rfl) (trim_ok n) HU.out)).mono fun i hi => Out.mono (by simp [World.setCell]) hi⟩, ht4.setCell (.inl hFg) _⟩
    show RHead _ h { tick d with files := put d.files f (trim n) } _ (put d.files f (trim n)).length c
    rw [put_length, HNN.out]
    exact Blk.far hh4 hgh _
  clear hrow hq hrow2 hh4 ht4 hrow4 hx4 hbk4 hgg hb1 hB1 hown1 hHeld hbk1 HK2 HB2 HH2 HT2 HY d0
  go_wp2_with fail
  generalize w1.setCell ⟨g, p * 3 + 2, none⟩ (.slice A1 n c1) = W4 at f0 f1 z4 HE ⊢
  have hmn : min (x.safe : Int) (n : Int) = ((min x.safe n : Nat) : Int) := by omega
  generalize min x.safe n = s1 at hmn HE
  generalize x.safe = s0 at f1 hmn
  clear e2 z2 j1 j2
  rcases Nat.lt_or_ge n s0 with hms | hms
  · have e5 : s1 = n := by omega
    subst e5
    clear hmn
    go_still_tail 17, (by kernel_rfl)
    go_wp2_with fail
    refine (told_any false _).mono ?_
    rintro e w5 ⟨rfl, rfl⟩
    go_wp2
    go_ret
    rw [HS.out]
    exact ⟨rfl, HE.out.1, ⟨HE.out.2.os, HE.out.2.tape, HE.out.2.output, HE.out.2.size, HE.out.2.block⟩⟩
  · have e5 : s1 = s0 := by omega
    subst e5
    have hms2 : ¬ n < s1 := by omega
    clear hmn hms
    go_still_tail 17, (by kernel_rfl)
    go_wp2_with fail
    refine (told_any false _).mono ?_
    rintro e w5 ⟨rfl, rfl⟩
    go_wp2
    go_ret
    rw [HS.out]
    exact ⟨rfl, HE.out.1, ⟨HE.out.2.os, HE.out.2.tape, HE.out.2.output, HE.out.2.size, HE.out.2.block⟩⟩

set_option maxRecDepth 100000 in
set_option maxHeartbeats 800000 in
theorem refcut_any (F : Nat → Prop) (h : Nat) (d : Dk) (f n : Int) (w : World) (hr : RefAt F w h d) (hf : Fits d) (hsz : ∀ x, seek d.files f = some x → x.b.length ≤ 140737488355328) :
    Calls Try.prog 35 #[.pointer (some ⟨h, 0, none⟩), .int .i64 f, .int .i64 n] w (RDone F w h (cut d f n)) := by
  by_cases hrf : refuse d f true = 0
  · obtain ⟨hoff, _, _, x, hx⟩ := refuse_zero hrf
    have hsize := size_seen hx
    by_cases hn : n < 0 ∨ size d f < n
    · have HS := Lib.hid (show cut d f n = (1, d) by rw [cut, if_pos hrf, if_pos hn])
      have HR := Lib.hid hr
      have hup := hr.up
      obtain ⟨A, c, bl, hh, hg, hb⟩ := hr
      have hp := place_seek hup hx
      have hlt := len_of hp
      have hlen := hup.le
      have HRF := Lib.hid hrf
      have HI := Lib.hid (show isIn d.files f = true by rw [isIn, hx]; rfl)
      have HH := Lib.hid hh
      have HB := Lib.hid hb
      have HP := Lib.hid hp
      rw [hsize] at hn
      clear hh hb hoff hx hp hup hsize hrf hsz
      go_enter Try.func35, Try.ntmps35
      go_wp2_with fail
      refine (refused_any F h d f true w HR.out).mono ?_
      rintro e w1 ⟨rfl, q, rfl⟩
      rw [HRF.out]
      go_wp2_with fail
      refine (at_any F h d f (w.drewN q) HR.out).mono ?_
      rintro e W ⟨rfl, q2, hW⟩
      rw [HI.out]
      have hbW : RBody W F d.files A c bl := by rw [← hW]; exact HB.out
      have hhW : RHead W h d A d.files.length c := by rw [← hW]; exact HH.out
      have htW : Turn F w W := by rw [← hW]; exact ((Turn.refl F w).drewN q).drewN q2
      have HE : Hid (RefAt (Out F w W) W h d ∧ Turn F w W) := ⟨⟨A, c, bl, hhW, .inl hg, hbW.mono fun _ hi => .inl hi⟩, htW⟩
      have c0 := hhW.cells.1
      obtain ⟨g, cur, rfl, hFg, hbk, _, _, _, k2⟩ := hbW.at_ HP.out
      clear hW HB HH hhW hbW htW hbk HP
      generalize (bl x.id).A = A2 at k2
      generalize (bl x.id).c = c2 at k2
      generalize x.b.length = m at k2 hn
      generalize place f d.files = p at *
      generalize d.files.length = N at *
      rcases hn with hn | hn
      · have hb1 : decide (n < 0) = true := by simpa using hn
        go_wp2
        go_ret
        rw [HS.out]
        exact ⟨rfl, HE.out⟩
      · have hb1 : decide (n < 0) = false := by simp; omega
        have hb2 : decide ((m : Int) < n) = true := by simpa using hn
        go_wp2
        go_ret
        rw [HS.out]
        exact ⟨rfl, HE.out⟩
    · obtain ⟨k, rfl⟩ := Int.eq_ofNat_of_zero_le (show 0 ≤ n by omega)
      by_cases hl : d.left = 1
      · have HS := Lib.hid (show cut d f k = (8, tick d) by rw [cut, if_pos hrf, if_neg hn, (told_one hl _).2])
        have HT := Lib.hid (decide_eq_true hl)
        have HR := Lib.hid hr
        have hup := hr.up
        obtain ⟨A, c, bl, hh, hg, hb⟩ := hr
        have hp := place_seek hup hx
        have hlt := len_of hp
        have hlen := hup.le
        have HRF := Lib.hid hrf
        have HI := Lib.hid (show isIn d.files f = true by rw [isIn, hx]; rfl)
        have HH := Lib.hid hh
        have HB := Lib.hid hb
        have HP := Lib.hid hp
        have HO := Lib.hid hoff
        rw [hsize] at hn
        have hb2 : decide (x.b.length < k) = false := by simp; omega
        have hb3 : decide ((x.b.length : Int) < (k : Int)) = false := by simp; omega
        have hb1 : decide ((k : Int) < 0) = false := by simp
        clear hh hb hoff hx hp hup hsize hrf hsz hl hn
        go_enter Try.func35, Try.ntmps35
        go_wp2_with fail
        refine (refused_any F h d f true w HR.out).mono ?_
        rintro e w1 ⟨rfl, q, rfl⟩
        rw [HRF.out]
        go_wp2_with fail
        refine (at_any F h d f (w.drewN q) HR.out).mono ?_
        rintro e W ⟨rfl, q2, hW⟩
        rw [HI.out]
        have hbW : RBody W F d.files A c bl := by rw [← hW]; exact HB.out
        have hhW : RHead W h d A d.files.length c := by rw [← hW]; exact HH.out
        have htW : Turn F w W := by rw [← hW]; exact ((Turn.refl F w).drewN q).drewN q2
        have c0 := hhW.cells.1
        have HHW := Lib.hid hhW
        have HBW := Lib.hid hbW
        have HTW := Lib.hid htW
        obtain ⟨g, cur, rfl, hFg, hbk, _, _, _, k2⟩ := hbW.at_ HP.out
        clear hW HB HH hhW hbW htW hbk HP
        generalize (bl x.id).A = A2 at k2
        generalize (bl x.id).c = c2 at k2
        generalize x.b.length = m at k2 hb2 hb3
        generalize place f d.files = p at *
        generalize hNN : d.files.length = N at *
        have HNN := Lib.hid hNN
        clear hNN
        go_wp2_with fail
        refine (goes_any h N c _ d W HHW.out HO.out hf).mono ?_
        rintro e W2 ⟨rfl, hh2, hw2⟩
        have HE : Hid (RefAt (Out F w W2) W2 h (tick d) ∧ Turn F w W2) := by
          refine ⟨⟨_, c, bl, ?_, .inl hg, (HBW.out.head HHW.out hw2).mono fun _ hi => .inl hi⟩, HTW.out.trans (Turn.grown (F := F) hw2 fun k e => by injection e with e; rw [← e]; exact hg) fun _ hi => .inl hi⟩
          show RHead _ h (tick d) _ d.files.length c
          rw [HNN.out]
          exact hh2
        clear hh2 hw2
        rw [HT.out]
        go_wp2_with fail
        refine (told_any true _).mono ?_
        rintro e w5 ⟨rfl, rfl⟩
        go_wp2
        go_ret
        rw [HS.out]
        exact ⟨rfl, HE.out⟩
      · exact refcut_do F h d f k w hr hf hrf (by omega) hl hsz
  · have HR := Lib.hid hr
    have HS := Lib.hid (cut_no (n := n) rfl hrf)
    generalize hk : refuse d f true = k at hrf HS
    have HK := Lib.hid hk
    have hne : (k != 0) = true := by simpa using hrf
    clear hr hk hsz
    go_enter Try.func35, Try.ntmps35
    go_wp2_with fail
    refine (refused_any F h d f true w HR.out).mono ?_
    rintro e w1 ⟨rfl, q, rfl⟩
    rw [HK.out]
    go_wp2
    go_ret
    rw [HS.out]
    exact RDone.no HR.out q
end Go.Proofs.Ythjdankeopfkaaa.Ref
