/-
  The contract of package disk's Append.
-/
import Derived.Test.YtedfddnbgljcjaaGreatDiskOps
namespace Go.Proofs.YtedfddnbgljcjaaGreat.Disk
set_option maxRecDepth 100000
open Go.RowKit Base DiskMath
set_option linter.ambiguousOpen false

/-- a file's row has grown, and its block was written -/
theorem Body.grew {w w1 : World} {F : Nat → Prop} {l : List Fl} {m : Nat} {pl : Int → Pl} {f : Int} {x : Fl} {b : List UInt8} {A : Option Addr} {k c : Nat} (h : Body w F l m pl) (hx : seek l f = some x) (hown : w1.ownsRow 0 5 1 (.slice A k c) k (bv (x.b ++ b)))
    (hG : Grew w (pl f).row w1 (.slice A k c)) : Body (w1.setCell ⟨(pl f).p, 0, none⟩ (.slice A k c)) (Out F w w1) (put l f (grow b)) m (upd pl f ⟨(pl f).p, A, c⟩) ∧ Turn F w (w1.setCell ⟨(pl f).p, 0, none⟩ (.slice A k c)) := by
  obtain rfl : (x.b ++ b).length = k := by have := hown.1; rw [bv_length, Nat.mul_one] at this; exact this
  have hX := h.2.2.1.1 x (seek_mem hx).1
  rw [(seek_mem hx).2] at hX
  have hp1 : w1.heap[(pl f).p]? = w.heap[(pl f).p]? := hG.1.block _ (Blk.lt hX.1) fun e => by
    obtain ⟨cur, hcur⟩ := own_type hX.2.2.1 (g := (pl f).p) (by rw [row_own]; exact e.symm)
    have a := hX.1
    unfold Blk at a
    rw [hcur] at a
    cases a
  have hpb : Blk w1 (pl f).p 73 #[.slice (pl f).A x.b.length (pl f).c, .int .i64 x.safe] := hp1.trans hX.1
  have hrow : ∀ g, (Pl.mk (pl f).p A c).row = some g → Out F w w1 g := fun g hg => by
    rw [← row_own _ (x.b ++ b).length c] at hg
    obtain ⟨cur, hcur⟩ := own_type hown hg
    rcases hG.2 with e | e
    · exact .inl (hX.2.2.2 g (by rw [← e]; exact hg))
    · exact .inr ⟨e g hg, (Array.getElem?_eq_some_iff.1 hcur).1⟩
  constructor
  · refine h.turn hx (t := grow b) (fun _ => rfl) (grow_ok b) (fun i hi hp hr => ?_) ⟨?_, .inl hX.2.1, ?_, hrow⟩ rfl ?_ fun _ hi => .inl hi
    · exact (Below.heap_setCell _ _ _ _ hp).trans (hG.1.block i hi hr)
    · exact Blk.set_ hpb 0 _
    · refine own_same hown fun g hg => Below.heap_setCell _ _ _ _ fun e => ?_
      obtain ⟨cur, hcur⟩ := own_type hown hg
      unfold Blk at hpb
      dsimp only at e
      rw [← e, hcur] at hpb
      cases hpb
    · rcases hG.2 with e | e
      · refine .inl ?_
        rw [← e, ← row_own _ (x.b ++ b).length c]
      · refine .inr fun g hg => e g ?_
        rw [← row_own _ (x.b ++ b).length c] at hg
        exact hg
  · exact (Turn.grown (F := F) hG.1 hX.2.2.2).setCell (.inl hX.2.1) _

theorem Head.grew {w w1 : World} {F : Nat → Prop} {l : List Fl} {m g : Nat} {d : Dk} {pl : Int → Pl} {f : Int} {x : Fl} {v : Value} (hh : Head w g d m) (h : Body w F l m pl) (hx : seek l f = some x) (hG : Grew w (pl f).row w1 v) (u : Value) :
    Head (w1.setCell ⟨(pl f).p, 0, none⟩ u) g d m := by
  have hX := h.2.2.1.1 x (seek_mem hx).1
  rw [(seek_mem hx).2] at hX
  refine Blk.far (Blk.grown hh hG.1 fun e => ?_) (fun e => ?_) _
  · obtain ⟨cur, hcur⟩ := own_type hX.2.2.1 (g := g) (by rw [row_own]; exact e.symm)
    unfold Head Blk at hh
    rw [hcur] at hh
    cases hh
  · dsimp only at e
    have a := hX.1
    unfold Blk at a
    unfold Head Blk at hh
    rw [← e, hh] at a
    cases a
/-- the file's block, as the append left it -/
theorem file_grew {w w1 : World} {F : Nat → Prop} {l : List Fl} {m : Nat} {pl : Int → Pl} {f : Int} {x : Fl} {v : Value} (h : Body w F l m pl) (hx : seek l f = some x) (hG : Grew w (pl f).row w1 v) :
    Blk w1 (pl f).p 73 #[.slice (pl f).A x.b.length (pl f).c, .int .i64 x.safe] := by
  have hX := h.2.2.1.1 x (seek_mem hx).1
  rw [(seek_mem hx).2] at hX
  refine Blk.grown hX.1 hG.1 fun e => ?_
  obtain ⟨cur, hcur⟩ := own_type hX.2.2.1 (g := (pl f).p) (by rw [row_own]; exact e.symm)
  have a := hX.1
  unfold Blk at a
  rw [hcur] at a
  cases a

theorem refuse_false {d : Dk} {f : Int} (h : refuse d f true ≠ 5) : refuse d f false = refuse d f true := by
  unfold refuse at *
  split
  · rfl
  · rename_i h1
    rw [if_neg h1] at h
    split
    · rfl
    · rename_i h2
      rw [if_neg h2] at h
      split at h
      · exact absurd rfl h
      · rename_i h3
        rw [if_neg h3, if_neg (by simp)]
theorem append_no {d : Dk} {f k : Int} {b : List UInt8} (h : refuse d f true = k) (hk : k ≠ 0) (h5 : k ≠ 5) : append d f b = (k, d) := by
  have := refuse_false (d := d) (f := f) (by rw [h]; exact h5)
  rw [append, this, h, if_neg hk]
theorem append_yes {d : Dk} {f : Int} {b : List UInt8} {x : Fl} (h : refuse d f true = 0) (hx : seek d.files f = some x) : append d f b = (told d, { tick d with files := put d.files f (grow b) }) := by
  have := refuse_false (d := d) (f := f) (by rw [h]; omega)
  have hb : begunL d.files f = d.files := by unfold begunL; exact if_neg (by rw [hx]; simp)
  rw [append, this, h, if_pos rfl, hb]
theorem refuse_five {d : Dk} {f : Int} (h : refuse d f true = 5) : d.off = false ∧ 0 ≤ f ∧ f < 16384 ∧ seek d.files f = none ∧ refuse d f false = 0 := by
  unfold refuse at h
  split at h
  · omega
  · rename_i h1
    split at h
    · omega
    · rename_i h2
      split at h
      · rename_i h3
        refine ⟨by simpa using h1, by omega, by omega, h3.2, ?_⟩
        rw [refuse, if_neg h1, if_neg h2, if_neg (by simp)]
      · omega
theorem append_new {d : Dk} {f : Int} {b : List UInt8} (h : refuse d f true = 5) : append d f b = (told d, { tick d with files := put (ins f d.files) f (grow b) }) := by
  obtain ⟨_, _, _, h4, h5⟩ := refuse_five h
  have hb : begunL d.files f = ins f d.files := by unfold begunL; exact if_pos h4
  rw [append, h5, if_pos rfl, hb]

/-- .. and then an operation was counted -/
theorem appended {F : Nat → Prop} {w w1 w2 : World} {g m : Nat} {pl : Int → Pl} {d : Dk} {l : List Fl} (hh : Head w1 g d m) (hh2 : Head w2 g (tick d) m) (hg : F g) (hb : Body w1 (Out F w w1) l m pl) (ht : Turn F w w1) (hw : w1.grownBy w2 (some g)) :
    DiskAt (Out F w w2) w2 g { tick d with files := l } ∧ Turn F w w2 := by
  refine ⟨⟨m, pl, hh2, .inl hg, (hb.head hh hw).mono fun i hi => Out.mono hw.size hi⟩, ?_⟩
  exact ht.trans (Turn.grown (F := F) hw fun k e => by injection e with e; rw [← e]; exact hg) fun _ hi => .inl hi

/-- a map has no cells: to write it turns none -/
theorem cells_map {w w1 w2 : World} {m : Nat} {o : Obj} (h1 : w1 = w.alloc o) (hg : w1.grownBy w2 (some m)) (hm : ∃ es cl, w.heap[m]? = some (.map es cl)) (hm2 : ∃ es cl, w2.heap[m]? = some (.map es cl)) (p : Addr) (hp : p.block < w.heap.size) : w2.cell? p = w.cell? p := by
  subst h1
  by_cases e : p.block = m
  · obtain ⟨es, cl, h⟩ := hm
    obtain ⟨es2, cl2, h2⟩ := hm2
    rw [← e] at h h2
    simp [World.cell?, h, h2]
  · exact World.cell?_of_block ((hg.block _ (by simp; omega) fun e1 => e (by injection e1)).trans (Below.heap_alloc w o _ hp))
set_option maxHeartbeats 800000 in
theorem append_any (F : Nat → Prop) (g : Nat) (d : Dk) (f : Int) (B : Nat) (A : Option Addr) (n c : Nat) (b : List UInt8) (w : World) (h : DiskAt F w g d) (hf : Fits d) (hr : Bytes w B A n c b) (hB : B ≤ w.heap.size)
    (hn : n ≤ 140737488355328) (hsz : ∀ x, seek d.files f = some x → x.b.length + n ≤ 140737488355328) :
    Calls Tryz.prog 9 #[.pointer (some ⟨g, 0, none⟩), .int .i64 f, .slice A n c] w (Done F w g (append d f b)) := by
  have HR := Lib.hid hr
  clear hr
  obtain ⟨m, pl, hh, hg, hb⟩ := h
  by_cases hr : refuse d f true = 0
  · obtain ⟨hoff, h0, h1, x, hx⟩ := refuse_zero hr
    have hlen := hsz x hx
    have HS := Lib.hid (append_yes (b := b) hr hx)
    have HX := Lib.hid hx
    have HH := Lib.hid hh
    have HB := Lib.hid hb
    have HO := Lib.hid hoff
    have HF : Hid (FileAt w F x (pl f)) := by
      have hX := hb.2.2.1.1 x (seek_mem hx).1
      rwa [(seek_mem hx).2] at hX
    have c0 : w.cell? ⟨(pl f).p, 0, none⟩ = some (.slice (pl f).A x.b.length (pl f).c) := Blk.cell HF.out.1 0
    clear hh hb hx hoff h0 h1 hr hsz
    go_enter Tryz.func9, Tryz.ntmps9
    go_wp2_with fail
    refine (find_yes F g m pl d f x w HH.out HB.out HO.out HX.out).mono ?_
    rintro e w' ⟨rfl, rfl⟩
    go_wp2_with (first
      | (at_builtin
         refine wpList_append_row rfl (.tmp 32) (.tmp 33) rfl eb 0 (.slice (pl f).A x.b.length (pl f).c) x.b.length (bv x.b) rfl HF.out.2.2.1 B A n c (bv b) rfl HR.out (bv_one _) (by omega) (by omega) (Nat.zero_le _) ?_
         intro A1 c1 w1 hown1 hg1 _
         rw [← bv_append] at hown1
         rw [row_own] at hg1
         have hbk := file_grew HB.out HX.out hg1
         have k0 : w1.cell? ⟨(pl f).p, 0, none⟩ = some (.slice (pl f).A x.b.length (pl f).c) := Blk.cell hbk 0
         have z0 := Blk.frozen hbk 0
         have HD1 := Lib.hid (HB.out.grew HX.out hown1 hg1)
         have HH1 := Lib.hid (HH.out.grew HB.out HX.out hg1 (.slice A1 (x.b.length + n) c1))
         clear hown1 hg1 hbk)
      | fail)
    refine (spend_any g m d _ HH1.out HO.out hf).mono ?_
    rintro e w3 ⟨rfl, hh3, hw3⟩
    have HD := Lib.hid (appended HH1.out hh3 hg (HD1.out.1.mono fun i hi => Out.mono (by simp [World.setCell]) hi) HD1.out.2 hw3)
    clear hh3 hw3
    go_wp2
    go_ret
    rw [HS.out]
    exact ⟨rfl, HD.out⟩
  · by_cases h5 : refuse d f true = 5
    · obtain ⟨hoff, h0, h1, hx, _⟩ := refuse_five h5
      have HS := Lib.hid (append_new (b := b) h5)
      have HI : Hid (I64 f) := ⟨by omega, by omega⟩
      have HH := Lib.hid hh
      have HB := Lib.hid hb
      have HO := Lib.hid hoff
      have H5 := Lib.hid h5
      have HX := Lib.hid hx
      have HF := Lib.hid (show 0 ≤ f ∧ f < 16384 from ⟨h0, h1⟩)
      have hlt : g < w.heap.size := Blk.lt hh
      have c3 := hh.cells.2.2.2
      have hroom := hb.2.2.2.le
      clear hh hb hx hoff h0 h1 hr hsz h5
      go_enter Tryz.func9, Tryz.ntmps9
      go_wp2_with fail
      refine (find_no F g m pl d f 5 w HH.out HB.out H5.out (by omega)).mono ?_
      rintro e w' ⟨rfl, rfl⟩
      go_wp2_with (first
        | (at_mapUpdate
           refine wpList_mapUpdate_own _ rfl _ _ _ 49 rfl 3 69 (Maps.int_keyed Tryz.underlying3) Tryz.underlying49 rd m _ _ rfl (HB.out.2.1.alloc _) (by unfold maxLen; omega) (.int .i64 f) (.pointer (some ⟨w.heap.size, 0, none⟩)) _ rfl rfl (key_of HI.out) (.lit (.int .i64 w.heap.size)) [] rfl ?_
           intro w2 hown2 hg2
           have hB2 := HB.out.begin (F' := Out F w w2) HF.out.1 HF.out.2 HX.out rfl rfl hown2 hg2 (fun _ hi => .inl hi) (.inr ⟨Nat.le_refl _, by have := hg2.size; simp at this; omega⟩)
           have hx2 : seek (ins f d.files) f = some ⟨f, [], 0⟩ := seek_of (x := ⟨f, [], 0⟩) hB2.2.2.2 (ins_here f _)
           have hF2 : FileAt w2 (Out F w w2) ⟨f, [], 0⟩ ⟨w.heap.size, none, 0⟩ := by
             have := hB2.2.2.1.1 _ (ins_here f d.files)
             dsimp only at this
             rwa [upd_same] at this
           have hc2 := cells_map rfl hg2 (map_obj HB.out) (map_obj hB2)
           have hR2 : Bytes w2 B A n c b := Row.keep HR.out fun p hp => hc2 p (by omega)
           have hgm : some g ≠ some m := fun e => by
             injection e with e
             obtain ⟨es, cl, hm⟩ := map_obj HB.out
             have a := HH.out
             unfold Head Blk at a
             rw [e, hm] at a
             cases a
           have HT2 : Hid (Turn F w w2) := ((Turn.refl F w).alloc _).trans (Turn.grown (F := F) hg2 fun k e => by injection e with e; rw [← e]; exact HB.out.1) fun _ hi => .inl hi
           have HH2 : Hid (Head w2 g d m) := Blk.grown (Blk.alloc HH.out _) hg2 hgm
           have HB2 := Lib.hid hB2
           have HF2 := Lib.hid hF2
           have HR2 := Lib.hid hR2
           have HX2 := Lib.hid hx2
           have c0 : w2.cell? ⟨w.heap.size, 0, none⟩ = some (.slice none 0 0) := Blk.cell hF2.1 0
           clear hB2 hx2 hF2 hc2 hR2 hgm hown2 hg2)
        | (at_builtin
           refine wpList_append_row rfl (.tmp 32) (.tmp 33) rfl eb 0 (.slice none 0 0) 0 [] rfl HF2.out.2.2.1 B A n c (bv b) rfl HR2.out (bv_one _) (by omega) (by omega) (Nat.zero_le _) ?_
           intro A1 c1 w3 hown1 hg1 _
           have hown2 : w3.ownsRow 0 5 1 (.slice A1 (0 + n) c1) (0 + n) (bv ([] ++ b)) := hown1
           have hg2 : Grew w2 (upd pl f ⟨w.heap.size, none, 0⟩ f).row w3 (.slice A1 (0 + n) c1) := by rw [upd_same]; exact hg1
           have hbk := file_grew HB2.out HX2.out hg2
           have HD1 := HB2.out.grew HX2.out hown2 hg2
           have HH1 := HH2.out.grew HB2.out HX2.out hg2 (.slice A1 (0 + n) c1)
           rw [upd_same] at hbk HD1 HH1
           rw [Nat.zero_add] at HD1 HH1 ⊢
           dsimp only at hbk HD1 HH1
           have HD2 := Lib.hid HD1
           have HH3 := Lib.hid HH1
           have k0 : w3.cell? ⟨w.heap.size, 0, none⟩ = some (.slice none 0 0) := Blk.cell hbk 0
           have z0 := Blk.frozen hbk 0
           clear hown1 hg1 hown2 hg2 hbk HD1 HH1)
        | fail)
      refine (spend_any g m d _ HH3.out HO.out hf).mono ?_
      rintro e w4 ⟨rfl, hh3, hw3⟩
      have HD := Lib.hid (appended HH3.out hh3 hg (HD2.out.1.mono fun i hi => Out.two HT2.out (Out.mono (w1 := w3) (by simp [World.setCell]) hi) HD2.out.2.size) (HT2.out.two HD2.out.2) hw3)
      clear hh3 hw3
      go_wp2
      go_ret
      rw [HS.out]
      exact ⟨rfl, HD.out⟩
    · have HS := Lib.hid (append_no (b := b) rfl hr h5)
      generalize hk : refuse d f true = k at hr HS h5
      have HK := Lib.hid hk
      have HH := Lib.hid hh
      have HB := Lib.hid hb
      have hne : (k == 5) = false := by simpa using h5
      have hne2 : (k != 0) = true := by simpa using hr
      clear hh hb hk hsz
      go_enter Tryz.func9, Tryz.ntmps9
      go_wp2_with fail
      refine (find_no F g m pl d f k w HH.out HB.out HK.out hr).mono ?_
      rintro e w' ⟨rfl, rfl⟩
      go_wp2
      go_ret
      rw [HS.out]
      exact Done.no ⟨m, pl, HH.out, hg, HB.out⟩
end Go.Proofs.YtedfddnbgljcjaaGreat.Disk
