/-
  The contract of the document's own Remove.
-/
import Derived.Test.YthjdankeopfkaaaRefCut
namespace Go.Proofs.Ythjdankeopfkaaa.Ref
open Go.RowKit Base DiskMath Disk Last
set_option linter.ambiguousOpen false
set_option linter.unusedSimpArgs false

/-- where 's[k:]' of files begins -/
def cutF (A : Option Addr) (c k : Nat) : Option Addr := if c = k then A else A.map (·.add (k * 3))
set_option maxRecDepth 100000 in
theorem run_cutF (w : World) (A : Option Addr) (n c k : Nat) (hk : k ≤ n) {z : Int} (hz : z = (k : Int)) : (Instr.sliceAt 26 (.slice A n c) (some (.int .i64 z)) none none).run Try.prog w = .ok (.slice (cutF A c k) (n - k) (c - k)) w := by
  subst hz
  rw [run_sliceAt_slice _ _ _ _ _ _ Try.underlying26, run_slice_l _ _ _ _ _ Try.underlying26 .i64 k (by omega) (by omega)]
  have : (sizeOf (Try.prog.elem 26)).run Try.prog w = .ok 3 w := by kernel_rfl
  rw [this]
  simp [Result.andThen, sliced, cutF]

section
variable {F : Nat → Prop} {w w' : World} {l : List Fl} {A : Option Addr} {c : Nat} {bl : Int → Bl}
theorem RRow.row (hr : RRow w F l A c bl) : Row w w.heap.size 3 A l.length c (fcells l bl) := Row.of_own hr.1
theorem RRow.front (hr : RRow w F l A c bl) {k : Nat} (hk : k ≤ l.length) : Row w w.heap.size 3 A k c (fcells (l.take k) bl) := by
  have := hr.row.front hk
  rwa [fcells_take l bl k hk] at this
theorem RRow.back (hr : RRow w F l A c bl) {k : Nat} (hk : k ≤ l.length) : Row w w.heap.size 3 (cutF A c k) (l.length - k) (c - k) (fcells (l.drop k) bl) := by
  have := hr.row.cut hk
  rwa [fcells_drop l bl k hk] at this
end

set_option maxRecDepth 100000 in
set_option maxHeartbeats 1600000 in
theorem refremove_any (F : Nat → Prop) (h : Nat) (d : Dk) (f : Int) (w : World) (hr : RefAt F w h d) (hf : Fits d) :
    Calls Try.prog 36 #[.pointer (some ⟨h, 0, none⟩), .int .i64 f] w (RDone F w h (remove d f)) := by
  have HR := Lib.hid hr
  have hup := hr.up
  obtain ⟨A, c, bl, hh, hg, hb⟩ := hr
  by_cases hrf : refuse d f true = 0
  · obtain ⟨hoff, _, _, x, hx⟩ := refuse_zero hrf
    have hp := place_seek hup hx
    have hlt := len_of hp
    have hlen := hup.le
    have HH := Lib.hid hh
    have HB := Lib.hid hb
    have HO := Lib.hid hoff
    have HRF := Lib.hid hrf
    have HX := Lib.hid hx
    have HU := Lib.hid hup
    have HI := Lib.hid (show isIn d.files f = true by rw [isIn, hx]; rfl)
    have HDL := Lib.hid (place_del hup hx)
    clear hh hb hoff hx hp hup
    by_cases hl : d.left = 1
    · have HT := Lib.hid (decide_eq_true hl)
      have HS := Lib.hid (show remove d f = (8, tick d) by rw [remove, if_pos hrf, (told_one hl _).2])
      clear hl hrf
      go_enter Try.func36, Try.ntmps36
      go_wp2_with fail
      refine (refused_any F h d f true w HR.out).mono ?_
      rintro e w1 ⟨rfl, q, rfl⟩
      rw [HRF.out]
      go_wp2_with fail
      refine (goes_any h d.files.length c A d (w.drewN q) HH.out HO.out hf).mono ?_
      rintro e w2 ⟨rfl, hh2, hw2⟩
      have HD := Lib.hid (rticked (F := F) hh2 hg (RBody.head (w := w.drewN q) HB.out HH.out hw2) hw2)
      clear hh2 hw2
      rw [HT.out]
      go_wp2_with fail
      refine (told_any true w2).mono ?_
      rintro e w3 ⟨rfl, rfl⟩
      go_wp2
      go_ret
      rw [HS.out]
      exact ⟨rfl, HD.out.1, ⟨HD.out.2.os, HD.out.2.tape, HD.out.2.output, HD.out.2.size, HD.out.2.block⟩⟩
    · have HT := Lib.hid (decide_eq_false hl)
      have HS := Lib.hid (show remove d f = (0, { tick d with files := del d.files f }) by rw [remove, if_pos hrf, (told_more hl _).2])
      clear hl hrf
      go_enter Try.func36, Try.ntmps36
      go_wp2_with fail
      refine (refused_any F h d f true w HR.out).mono ?_
      rintro e w1 ⟨rfl, q, rfl⟩
      rw [HRF.out]
      go_wp2_with fail
      refine (goes_any h d.files.length c A d (w.drewN q) HH.out HO.out hf).mono ?_
      rintro e w2 ⟨rfl, hh2, hw2⟩
      have hb2 := RBody.head (w := w.drewN q) HB.out HH.out hw2
      have HD2 := Lib.hid (rticked (F := F) hh2 hg hb2 hw2)
      have HB2 := Lib.hid hb2
      have HH2 := Lib.hid hh2
      clear hh2 hw2 hb2
      rw [HT.out]
      go_wp2_with fail
      refine (at_any _ h (tick d) f w2 HD2.out.1).mono ?_
      rintro e W ⟨rfl, q2, hW⟩
      rw [show (tick d).files = d.files from rfl, HI.out]
      have hbW : RBody W F d.files A c bl := by rw [← hW]; exact HB2.out
      have hhW : RHead W h (tick d) A d.files.length c := by rw [← hW]; exact HH2.out
      have htW : Turn F w W := by rw [← hW]; exact ⟨HD2.out.2.os, HD2.out.2.tape, HD2.out.2.output, HD2.out.2.size, HD2.out.2.block⟩
      have c0 := hhW.cells.1
      have z0 := Blk.frozen hhW 0
      have HBW := Lib.hid hbW
      have HHW := Lib.hid hhW
      have HTW := Lib.hid htW
      have hle := (RRow.row hbW.rrow).le
      have HF1 := Lib.hid (hbW.rrow.front (k := place f d.files) (by omega))
      have HF2 := Lib.hid (hbW.rrow.back (k := place f d.files + 1) (by omega))
      clear HB2 HH2 HD2 hW HB HH hbW hhW htW
      generalize hpp : place f d.files = p at *
      have HPP := Lib.hid hpp
      clear hpp
      generalize hNN : d.files.length = N at *
      have HNN := Lib.hid hNN
      clear hNN
      have hpc : (p : Int) ≤ (c : Int) := by omega
      have hp1 : IntKind.i64.wrap ((p : Int) + 1) = (p : Int) + 1 := IntWalk.i64_in _ (by omega)
      have hsl : ∀ w, (Instr.sliceAt 26 (.slice A N c) (some (.int .i64 ((p : Int) + 1))) none none).run Try.prog w = .ok (.slice (cutF A c (p + 1)) (N - (p + 1)) (c - (p + 1))) w := fun w => run_cutF w A N c (p + 1) (by omega) (by omega)
      generalize cutF A c (p + 1) = A9 at hsl HF2
      go_wp2_with fail
      refine wp_region_last_at (S := fun w' => w'.cell? ⟨h, 0, none⟩ = some (.slice A N c) ∧ Below W.heap.size W w') 19 _ rfl rfl (by kernel_rfl) (by kernel_rfl) (by kernel_rfl) (held1 (held_start W) c0) (fun hHeld => ?_)
      simp only [List.take_succ_cons, List.take_zero]
      refine wpAnyH_take (i := 0) (v := ?av0) rfl (by kernel_rfl) (by kernel_rfl) (by kernel_rfl) (fun _ _ _ h => h) (Or.inl ⟨by rfl, ?ay0⟩) (by assumption) ?ar0
      case ay0 => (intro w hSw; (try dsimp only at hSw); go_simp; try with_reducible rfl)
      try simp only [Act.put, List.getElem_toArray, List.getElem_cons_succ, List.getElem_cons_zero, List.setIfInBounds_toArray, List.set_cons_zero, List.set_cons_succ]
      refine wpAnyH_take (i := 2) (v := ?av2) rfl (by kernel_rfl) (by kernel_rfl) (by kernel_rfl) (fun _ _ _ h => h) (Or.inl ⟨by rfl, ?ay2⟩) (by assumption) ?ar2
      case ay2 => (intro w hSw; (try dsimp only at hSw); go_simp; try with_reducible rfl)
      try simp only [Act.put, List.getElem_toArray, List.getElem_cons_succ, List.getElem_cons_zero, List.setIfInBounds_toArray, List.set_cons_zero, List.set_cons_succ]
      refine wpAnyH_take (i := 3) (v := ?av3) rfl (by kernel_rfl) (by kernel_rfl) (by kernel_rfl) (fun _ _ _ h => h) (Or.inl ⟨by rfl, ?ay3⟩) (by assumption) ?ar3
      case ay3 => (intro w hSw; (try dsimp only at hSw); go_simp; try with_reducible rfl)
      try simp only [Act.put, List.getElem_toArray, List.getElem_cons_succ, List.getElem_cons_zero, List.setIfInBounds_toArray, List.set_cons_zero, List.set_cons_succ]
      refine wpAnyH_take (i := 4) (v := ?av4) rfl (by kernel_rfl) (by kernel_rfl) (by kernel_rfl) (fun _ _ _ h => h) (Or.inl ⟨by rfl, ?ay4⟩) (by assumption) ?ar4
      case ay4 => (intro w hSw; (try dsimp only at hSw); go_simp; try with_reducible rfl)
      try simp only [Act.put, List.getElem_toArray, List.getElem_cons_succ, List.getElem_cons_zero, List.setIfInBounds_toArray, List.set_cons_zero, List.set_cons_succ]
      refine wpAnyH_take (i := 5) (v := ?av5) rfl (by kernel_rfl) (by kernel_rfl) (by kernel_rfl) (fun _ _ _ h => h) (Or.inl ⟨by rfl, ?ay5⟩) (by assumption) ?ar5
      case ay5 => (intro w hSw; (try dsimp only at hSw); go_simp; try with_reducible rfl)
      try simp only [Act.put, List.getElem_toArray, List.getElem_cons_succ, List.getElem_cons_zero, List.setIfInBounds_toArray, List.set_cons_zero, List.set_cons_succ]
      refine wpAnyH_take (i := 6) (v := ?av6) rfl (by kernel_rfl) (by kernel_rfl) (by kernel_rfl) (fun _ _ _ h => h) (Or.inl ⟨by rfl, ?ay6⟩) (by assumption) ?ar6
      case ay6 => (intro w hSw; (try dsimp only at hSw); go_simp; try with_reducible rfl)
      try simp only [Act.put, List.getElem_toArray, List.getElem_cons_succ, List.getElem_cons_zero, List.setIfInBounds_toArray, List.set_cons_zero, List.set_cons_succ]
      refine wpAnyH_take (i := 7) (v := ?av7) rfl (by kernel_rfl) (by kernel_rfl) (by kernel_rfl) (fun _ _ _ h => h) (Or.inl ⟨by rfl, ?ay7⟩) (by assumption) ?ar7
      case ay7 => (intro w hSw; (try dsimp only at hSw); go_simp; try with_reducible rfl)
      try simp only [Act.put, List.getElem_toArray, List.getElem_cons_succ, List.getElem_cons_zero, List.setIfInBounds_toArray, List.set_cons_zero, List.set_cons_succ]
      refine wpAnyH_take (i := 9) (v := ?av9) rfl (by kernel_rfl) (by kernel_rfl) (by kernel_rfl) (fun _ _ _ h => h) (Or.inl ⟨by rfl, ?ay9⟩) (by assumption) ?ar9
      case ay9 => (intro w hSw; (try dsimp only at hSw); go_simp; try with_reducible rfl)
      try simp only [Act.put, List.getElem_toArray, List.getElem_cons_succ, List.getElem_cons_zero, List.setIfInBounds_toArray, List.set_cons_zero, List.set_cons_succ]
      refine wpAnyH_take (i := 10) (v := ?av10) rfl (by kernel_rfl) (by kernel_rfl) (by kernel_rfl) (fun _ _ _ h => h) (Or.inl ⟨by rfl, ?ay10⟩) (by assumption) ?ar10
      case ay10 => (intro w hSw; (try dsimp only at hSw); go_simp; try with_reducible rfl)
      try simp only [Act.put, List.getElem_toArray, List.getElem_cons_succ, List.getElem_cons_zero, List.setIfInBounds_toArray, List.set_cons_zero, List.set_cons_succ]
      refine wpAnyH_take (i := 11) (v := ?av11) rfl (by kernel_rfl) (by kernel_rfl) (by kernel_rfl) (fun _ _ _ h => h) (Or.inl ⟨by rfl, ?ay11⟩) (by assumption) ?ar11
      case ay11 => (intro w hSw; (try dsimp only at hSw); go_simp; try with_reducible rfl)
      try simp only [Act.put, List.getElem_toArray, List.getElem_cons_succ, List.getElem_cons_zero, List.setIfInBounds_toArray, List.set_cons_zero, List.set_cons_succ]
      refine wpAnyH_take (i := 12) (v := ?av12) rfl (by kernel_rfl) (by kernel_rfl) (by kernel_rfl) (fun _ _ _ h => h) (Or.inl ⟨by rfl, ?ay12⟩) (by assumption) ?ar12
      case ay12 => (intro w hSw; (try dsimp only at hSw); go_simp; try with_reducible rfl)
      try simp only [Act.put, List.getElem_toArray, List.getElem_cons_succ, List.getElem_cons_zero, List.setIfInBounds_toArray, List.set_cons_zero, List.set_cons_succ]
      refine wpAnyH_take (i := 13) (v := ?av13) rfl (by kernel_rfl) (by kernel_rfl) (by kernel_rfl) (fun _ _ _ h => h) (Or.inl ⟨by rfl, ?ay13⟩) (by assumption) ?ar13
      case ay13 => (intro w hSw; (try dsimp only at hSw); go_simp; try with_reducible rfl)
      try simp only [Act.put, List.getElem_toArray, List.getElem_cons_succ, List.getElem_cons_zero, List.setIfInBounds_toArray, List.set_cons_zero, List.set_cons_succ]
      refine wpAnyH_take (i := 14) (v := ?av14) rfl (by kernel_rfl) (by kernel_rfl) (by kernel_rfl) (fun _ _ _ h => h) (Or.inl ⟨by rfl, ?ay14⟩) (by assumption) ?ar14
      case ay14 => (intro w hSw; (try dsimp only at hSw); go_simp; try with_reducible rfl)
      try simp only [Act.put, List.getElem_toArray, List.getElem_cons_succ, List.getElem_cons_zero, List.setIfInBounds_toArray, List.set_cons_zero, List.set_cons_succ]
      refine wpAnyH_take (i := 15) (v := ?av15) rfl (by kernel_rfl) (by kernel_rfl) (by kernel_rfl) (fun _ _ _ h => h) (Or.inl ⟨by rfl, ?ay15⟩) (by assumption) ?ar15
      case ay15 => (intro w hSw; (try dsimp only at hSw); go_simp; try with_reducible rfl)
      try simp only [Act.put, List.getElem_toArray, List.getElem_cons_succ, List.getElem_cons_zero, List.setIfInBounds_toArray, List.set_cons_zero, List.set_cons_succ]
      refine wpAnyH_ready (rs := [1]) (by kernel_rfl) (by simp) ?_
      refine AllReadyH.cons rfl (fun K hK => ?_) AllReadyH.nil
      go_simp
      refine hK.out _ _ (held1 (held_alloc_drew (held_start W) _) c0) (fun hHeld => ?_)
      clear hK K
      try simp only [Act.put, List.getElem_toArray, List.getElem_cons_succ, List.getElem_cons_zero, List.setIfInBounds_toArray, List.set_cons_zero, List.set_cons_succ]
      refine wpAnyH_ready (rs := [8]) (by kernel_rfl) (by simp) ?_
      refine AllReadyH.cons rfl (fun K hK => ?_) AllReadyH.nil
      refine step_append_row (by rfl) (.tmp 26) (.tmp 32) (by rfl) ef W.heap.size (.slice (some ⟨W.heap.size, 0, none⟩) 0 0) 0 [] (by rfl) (own_empty W W.heap.size _ 3 rfl (Nat.le_refl _)) W.heap.size A p c (fcells (d.files.take p) bl) (by rfl) (HF1.out.alloc (Nat.le_refl _) _) (fcells_one _ _) (by omega) (by omega) (by simp [World.drew]) ?_
      intro A1 c1 w1 hown1 _ hb1
      rw [Nat.zero_add, List.nil_append] at hown1
      rw [Nat.zero_add]
      have hB1 : Below W.heap.size W w1 := (held_alloc_drew (held_start W) (.cells #[] 64)).trans hb1
      refine hK.out _ _ (held1 hB1 c0) (fun hHeld => ?_)
      clear hK K
      try simp only [Act.put, List.getElem_toArray, List.getElem_cons_succ, List.getElem_cons_zero, List.setIfInBounds_toArray, List.set_cons_zero, List.set_cons_succ]
      refine wpAnyH_ready (rs := [16]) (by kernel_rfl) (by simp) ?_
      refine AllReadyH.cons rfl (fun K hK => ?_) AllReadyH.nil
      refine step_append_row (by rfl) (.tmp 33) (.tmp 40) (by rfl) ef W.heap.size (.slice A1 p c1) p _ (by rfl) hown1 W.heap.size A9 (N - (p + 1)) (c - (p + 1)) (fcells (d.files.drop (p + 1)) bl) (by rfl) (HF2.out.below hB1) (fcells_one _ _) (by omega) (by omega) hB1.size ?_
      intro A2 c2 w2 hown2 _ hb2
      rw [← fcells_append, ← HDL.out] at hown2
      have hB2 : Below W.heap.size W w2 := hB1.trans hb2
      obtain ⟨M, hM⟩ : ∃ M, M = p + (N - (p + 1)) := ⟨_, rfl⟩
      rw [← hM] at hown2 ⊢
      refine hK.out _ _ (held1 hB2 c0) (fun hHeld => ?_)
      clear hK K
      try simp only [Act.put, List.getElem_toArray, List.getElem_cons_succ, List.getElem_cons_zero, List.setIfInBounds_toArray, List.set_cons_zero, List.set_cons_succ]
      refine wpAnyH_take (i := 17) (v := ?bv17) rfl (by kernel_rfl) (by kernel_rfl) (by kernel_rfl) (fun _ _ _ h => h) (Or.inl ⟨by rfl, ?by17⟩) (by assumption) ?br17
      case by17 => (intro w hSw; (try dsimp only at hSw); go_simp; try with_reducible rfl)
      try simp only [Act.put, List.getElem_toArray, List.getElem_cons_succ, List.getElem_cons_zero, List.setIfInBounds_toArray, List.set_cons_zero, List.set_cons_succ]
      refine wpAnyH_take (i := 18) (v := ?bv18) rfl (by kernel_rfl) (by kernel_rfl) (by kernel_rfl) (fun _ _ _ h => h) (Or.inl ⟨by rfl, ?by18⟩) (by assumption) ?br18
      case by18 => (intro w hSw; (try dsimp only at hSw); go_simp; try with_reducible rfl)
      try simp only [Act.put, List.getElem_toArray, List.getElem_cons_succ, List.getElem_cons_zero, List.setIfInBounds_toArray, List.set_cons_zero, List.set_cons_succ]
      refine wpAnyH_done (by kernel_rfl) ?_ _
      refine then_normal rfl ?_
      have e0 : w2.cell? ⟨h, 0, none⟩ = some (.slice A N c) := held_cell hB2 c0
      have hh2 : RHead w2 h (tick d) A N c := Blk.below HHW.out hB2 (Blk.lt HHW.out)
      have z2 := Blk.frozen hh2 0
      have HE : Hid (RefAt (Out F w (w2.setCell ⟨h, 0, none⟩ (.slice A2 M c2))) (w2.setCell ⟨h, 0, none⟩ (.slice A2 M c2)) h { tick d with files := del d.files f } ∧ Turn F w (w2.setCell ⟨h, 0, none⟩ (.slice A2 M c2))) := by
        have hML : (del d.files f).length = M := by
          have := hown2.1
          rw [fcells_length] at this
          omega
        have ht : Turn F w w2 := HTW.out.trans (F' := F) (Turn.new hB2) fun _ hi => .inl hi
        have hbody : RBody w2 (Out F w w2) (del d.files f) A2 c2 bl := by
          refine ⟨?_, fun k hk => ?_, fun y hy => ?_, del_up HU.out⟩
          · rw [hML]
            exact own_mono hown2 (Nat.zero_le _)
          · have := hown2.lt k (by rw [own_map]; exact hk)
            exact .inr ⟨Nat.le_trans HTW.out.size this.1, this.2⟩
          · have hy' := HBW.out.2.2.1 y (del_mem hy).1
            exact ⟨own_keep hy'.1 hB2, fun k hk => .inl (hy'.2 k hk)⟩
        have hw : w2.grownBy (w2.setCell ⟨h, 0, none⟩ (.slice A2 M c2)) (some h) := only_set (World.grownBy.refl _ _) _ _
        refine ⟨⟨A2, c2, bl, ?_, .inl hg, (hbody.head hh2 hw).mono fun i hi => Out.mono hw.size hi⟩, ht.setCell (.inl hg) _⟩
        show RHead _ h { tick d with files := del d.files f } _ (del d.files f).length c2
        rw [hML]
        exact Blk.set_ hh2 0 (.slice A2 M c2)
      clear hown1 hb1 hB1 hown2 hb2 hM hHeld hh2 hB2 HBW HHW HTW HF1 HF2 HDL hsl hp1
      go_wp2_with fail
      refine (told_any false _).mono ?_
      rintro e w5 ⟨rfl, rfl⟩
      go_wp2
      go_ret
      rw [HS.out]
      exact ⟨rfl, HE.out.1, ⟨HE.out.2.os, HE.out.2.tape, HE.out.2.output, HE.out.2.size, HE.out.2.block⟩⟩
  · have HS := Lib.hid (remove_no rfl hrf)
    generalize hk : refuse d f true = k at hrf HS
    have HK := Lib.hid hk
    have hne : (k != 0) = true := by simpa using hrf
    clear hh hb hk hup
    go_enter Try.func36, Try.ntmps36
    go_wp2_with fail
    refine (refused_any F h d f true w HR.out).mono ?_
    rintro e w1 ⟨rfl, q, rfl⟩
    rw [HK.out]
    go_wp2
    go_ret
    rw [HS.out]
    exact RDone.no HR.out q
end Go.Proofs.Ythjdankeopfkaaa.Ref
