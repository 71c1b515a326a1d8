/-
  Texts of one proof: TblFits, TblFits2.
-/
import Derived.Test.YtefnmnpfecfdaaaGreatPf35
set_option linter.all false
set_option maxRecDepth 100000
set_option maxHeartbeats 12800000
open Go.Lib (hid)
namespace Go.Proofs.YtefnmnpfecfdaaaGreat
namespace Tbl
open Go.RowKit Base IdxMath Foot Idx
open PChg (gcells gval gv gv_cons gv_length gv_get Cs)
def z8 : Array Value := #[.int .i64 0,.int .i64 0,.int .i64 0,.int .i64 0,.int .i64 0,.int .i64 0,.int .i64 0,.int .i64 0]
theorem grArr_zero (T : List (List Rw)) : grArr T T = z8 := by unfold grArr z8; simp only [gr_self]
theorem gr_bd {T T1 : List (List Rw)} {M : Nat} (h : Most T M) (h1 : Most T1 M) (j : Nat) : -(M : Int) <= gr T T1 j /\ gr T T1 j <= M := by
 have a := h j
 have b := h1 j
 unfold gr
 omega
theorem grArr_down {T T1 : List (List Rw)} {c : Cg} {i : Nat} (hc : isT T1 c.tbl = true) (hi : c.tbl = (i : Int)) (hi8 : i < 8) (ht : there (tab T1 c.tbl) c.key = true) (hg : c.gone = true) : grArr T (do1 T1 c) = (grArr T T1).setIfInBounds i (.int .i64 (gr T T1 i - 1)) := by
 rw [grArr_set (T1 := T1) hi8 (fun j _ hj => by rw [gr_do1 hc hi,if_neg hj]; omega),gr_do1 hc hi,if_pos rfl,if_pos ⟨ht,hg⟩]
 rfl
theorem grArr_up {T T1 : List (List Rw)} {c : Cg} {i : Nat} (hc : isT T1 c.tbl = true) (hi : c.tbl = (i : Int)) (hi8 : i < 8) (ht : there (tab T1 c.tbl) c.key = false) (hg : c.gone = false) : grArr T (do1 T1 c) = (grArr T T1).setIfInBounds i (.int .i64 (gr T T1 i + 1)) := by
 rw [grArr_set (T1 := T1) hi8 (fun j _ hj => by rw [gr_do1 hc hi,if_neg hj]; omega),gr_do1 hc hi,if_pos rfl,if_neg (by rw [ht]; simp),if_pos ⟨ht,hg⟩]
theorem grArr_keep {T T1 : List (List Rw)} {c : Cg} {i : Nat} (hc : isT T1 c.tbl = true) (hi : c.tbl = (i : Int)) (h : there (tab T1 c.tbl) c.key ≠ c.gone) : grArr T (do1 T1 c) = grArr T T1 := by
 refine grArr_ext fun j _ => ?_
 rw [gr_do1 hc hi]
 split
 ·rw [if_neg (fun e => h (by rw [e.1,e.2])),if_neg (fun e => h (by rw [e.1,e.2]))]; omega
 ·omega
def GrRel (w : World) (T : List (List Rw)) (l : List Cg) (n : Nat) (vi : Value) (wr : World) : Prop :=
 ∃ (k : Nat) (f : Int -> Int -> Option Bool),vi = .int .i64 k /\ k <= n /\ Seen wr (w.heap.size + 2) k f /\ MapIs T (doAll T (l.take k)) f /\ Blk wr (w.heap.size + 1) 239 (grArr T (doAll T (l.take k))) /\ Blk wr w.heap.size 239 z8 /\ Below w.heap.size w wr
theorem growth_any (F : Nat -> Prop) (p : Nat) (T : List (List Rw)) (M : Nat) (A : Option Addr) (n c : Nat) (l : List Cg) (w : World) (h : SetAt w F p T) (hl : Cs w w.heap.size A n c l) (hall : allT T l = true) (hkeys : ∀ f ∈ l,In64 f.key) (hM : Most T M) (hsz : M + n <= 1099511627774) :
 Calls Tryz.prog 167 #[.pointer (some ⟨p,0,none⟩),.slice A n c] w fun e w' => e = .returned (.agg (grArr T (doAll T l))) /\ Below w.heap.size w w' := by
 have hle := hl.le
 have HC := hid hl
 have HLEN := hid hl.len
 have HS := hid h
 have HRI := hid h.rises
 have HALL := hid hall
 have HKEYS := hid hkeys
 have HM := hid hM
 clear h hl hall hkeys hM
 have hmm := @run_makeMap Tryz.prog
 go_enter Tryz.func167,Tryz.ntmps167
 go_wp2
 have HB0 : Hid (Below w.heap.size w (((w.alloc (.cells z8 239)).alloc (.cells z8 239)).alloc (.map #[] 0))) := (((Below.refl _ _).alloc (Nat.le_refl _) _).alloc (by simp) _).alloc (by simp; omega) _
 have HX0 : Hid (Blk (((w.alloc (.cells z8 239)).alloc (.cells z8 239)).alloc (.map #[] 0)) w.heap.size 239 z8) := ((Blk.new w _ _).alloc _).alloc _
 have HY0 := hid (show Blk (((w.alloc (.cells z8 239)).alloc (.cells z8 239)).alloc (.map #[] 0)) (w.heap.size + 1) 239 z8 by have := (Blk.new (w.alloc (.cells z8 239)) 239 z8).alloc (.map #[] 0); simpa using this)
 have HZ0 := hid (show Seen (((w.alloc (.cells z8 239)).alloc (.cells z8 239)).alloc (.map #[] 0)) (w.heap.size + 2) 0 (fun _ _ => none) by have := Seen.made ((w.alloc (.cells z8 239)).alloc (.cells z8 239)); simpa using this)
 have S1 : Hid (GrRel w T l n (.int .i64 0) (((w.alloc (.cells z8 239)).alloc (.cells z8 239)).alloc (.map #[] 0))) :=
  ⟨0,_,rfl,Nat.zero_le _,HZ0.out,fun a k => rfl,by rw [show grArr T (doAll T (l.take 0)) = z8 from grArr_zero T]; exact HY0.out,HX0.out,HB0.out⟩
 clear HB0 HX0 HY0 HZ0
 go_loopw [15,8,9,10,11] (fun vi _ _ _ _ wr => GrRel w T l n vi wr) (fun vi _ _ _ _ _ => n - (RowKit.intOf vi).toNat)
 case atStart => exact S1.out
 case round =>
  obtain ⟨k,f,rfl,hk,hseen,hmap,hgr,hz,hbel⟩ := hrel
  by_cases hkn : k < n
  ·have l1 : (k : Int) < (n : Int) := by omega
   obtain ⟨b,off,g,rfl,hbB,c0,c1,c2,c3,hg,ht⟩ := (HC.out.below hbel).at_ hkn
   have HGK := hid (HKEYS.out g (List.mem_of_getElem? hg))
   have hgt := allT_at HALL.out hg
   have HT1 := hid ((isT_doAll T (l.take k) g.tbl).trans hgt)
   have HRI1 : Hid (Rises (doAll T (l.take k))) := HRI.out.doAll _ (allT_sub HALL.out (List.take_sublist _ _))
   have HNEW : Hid (doAll T (l.take (k + 1)) = do1 (doAll T (l.take k)) g) := by show _ = _; rw [ht,doAll_snoc]
   have HMO : Hid (Most (doAll T (l.take k)) (M + n)) := (most_doAll HM.out _ (allT_sub HALL.out (List.take_sublist _ _))).mono (by rw [List.length_take]; omega)
   obtain ⟨ft,fk,fg,fv⟩ := g
   dsimp only at c0 c1 c2 c3 hgt
   obtain ⟨i,rfl,hi⟩ := isT_nat hgt
   have hi8 : i < 8 := by obtain ⟨b',ps,G,hX⟩ := HS.out; have := hX.most; omega
   have HSb0 := hid ((HS.out.new hbel))
   generalize hT1 : doAll T (l.take k) = T1 at *
   obtain ⟨gi0,hgi⟩ : ∃ gi0,gi0 = gr T T1 i := ⟨_,rfl⟩
   have hb2 : Below wr.heap.size wr ((wr.alloc (.cells #[.int .i64 i,.int .i64 fk,.bool fg,.string fv] 64)).alloc (.cells #[.int .i64 i,.int .i64 fk] 279)) := ((Below.refl _ _).alloc (Nat.le_refl _) _).alloc (by simp) _
   have HE0 := hid ((Blk.new wr 64 #[.int .i64 i,.int .i64 fk,.bool fg,.string fv]).alloc (.cells #[.int .i64 i,.int .i64 fk] 279))
   have HP0 := hid (show Blk ((wr.alloc (.cells #[.int .i64 i,.int .i64 fk,.bool fg,.string fv] 64)).alloc (.cells #[.int .i64 i,.int .i64 fk] 279)) (wr.heap.size + 1) 279 #[.int .i64 i,.int .i64 fk] by have := Blk.new (wr.alloc (.cells #[.int .i64 i,.int .i64 fk,.bool fg,.string fv] 64)) 279 #[.int .i64 i,.int .i64 fk]; simpa using this)
   have HSE0 := hid (hseen.same (hb2.block _ hseen.lt))
   have HG0 := hid (hgr.below hb2 hgr.lt)
   have HZ0 := hid (hz.below hb2 hz.lt)
   have HBW0 := hid (held_two hbel hb2)
   have HSb := hid (HSb0.out.new hb2)
   have HMAP := hid hmap
   have HN8 : Hid (wr.heap.size ≠ w.heap.size + 1 /\ wr.heap.size + 1 ≠ w.heap.size + 1) := ⟨by have := hgr.lt; omega,by have := hgr.lt; omega⟩
   have HI64 : Hid (In64 (i : Int)) := ⟨by omega,by omega⟩
   have hsl : w.heap.size + 2 < wr.heap.size := hseen.lt
   clear hseen hmap hgr hz hbel hb2 HSb0 hg ht hT1 hgt
   cases hf : f i fk with
   | some v =>
     have HWAS : Hid (v = there (tab T1 (i : Int)) fk) := by have := HMAP.out i fk; rw [hf] at this; exact this
     have HF := hid hf
     clear hf
     go_upto_region 10 with (first | (at_lookup; refine wpList_seen_look _ rfl _ _ rfl (w.heap.size + 2) k f i fk rfl HSE0.out rfl HI64.out HGK.out v true (by rw [HF.out]; rfl) (by rw [HF.out]; rfl) ?_) | fail)
     generalize ((wr.alloc (.cells #[.int .i64 i,.int .i64 fk,.bool fg,.string fv] 64)).alloc (.cells #[.int .i64 i,.int .i64 fk] 279)) = wt at *
     have HE := HE0; have HP := HP0; have HSE := HSE0; have HG := HG0; have HZ := HZ0; have HBW := HBW0
     obtain ⟨s8,hs8⟩ : ∃ s8,s8 = wr.heap.size := ⟨_,rfl⟩
     obtain ⟨s9,hs9⟩ : ∃ s9,s9 = wr.heap.size + 1 := ⟨_,rfl⟩
     rw [<- hs9,<- hs8] at HN8
     rw [<- hs9] at HP
     rw [<- hs8] at HE
     rw [<- hs9,<- hs8]
     clear hs8 hs9 HE0 HP0 HSE0 HG0 HZ0 HBW0
     have HGI : Hid (gr T T1 i = gi0) := hgi.symm
     clear hgi
     obtain ⟨was,hwv⟩ : ∃ was,was = v := ⟨_,rfl⟩
     rw [<- hwv] at HWAS
     rw [<- hwv]
     clear hwv HF
     have HKC := hid (show wt.cell? ⟨w.heap.size + 1,i,none⟩ = some (.int .i64 (gr T T1 i)) by rw [HG.out.cell,grArr_get T T1 hi8])
     have hkc := HKC.out
     have hfz := HG.out.frozen i
     have hbd := gr_bd (HM.out.mono (show M <= M + n by omega)) HMO.out i
     have hi8' : (i : Int) < 8 := by omega
     have e0 : wt.cell? ⟨s8,0,none⟩ = some (.int .i64 i) := HE.out.cell 0
     have e1 : wt.cell? ⟨s8,1,none⟩ = some (.int .i64 fk) := HE.out.cell 1
     have e2 : wt.cell? ⟨s8,2,none⟩ = some (.bool fg) := HE.out.cell 2
     have e3 : wt.cell? ⟨s8,3,none⟩ = some (.string fv) := HE.out.cell 3
     have p0 : wt.cell? ⟨s9,0,none⟩ = some (.int .i64 i) := HP.out.cell 0
     have p1 : wt.cell? ⟨s9,1,none⟩ = some (.int .i64 fk) := HP.out.cell 1
     have ne8 : s8 ≠ w.heap.size + 1 := HN8.out.1
     have ne9 : s9 ≠ w.heap.size + 1 := HN8.out.2
     have ne8' : w.heap.size + 1 ≠ s8 := fun e => HN8.out.1 e.symm
     have ne9' : w.heap.size + 1 ≠ s9 := fun e => HN8.out.2 e.symm
     rw [HGI.out] at hkc hbd
     clear HKC
     cases hwas : was <;> cases hfg : fg
     case true.true =>
      subst hwas hfg
      have HA := hid (grArr_down (T := T) (c := ⟨i,fk,true,fv⟩) HT1.out rfl hi8 HWAS.out.symm rfl)
      rw [HGI.out] at HA
      go_wp2_with (first | (at_mapUpdate; refine wpList_seen_put _ rfl _ _ _ rfl (w.heap.size + 2) k f i fk false rfl (HSE.out.kept (only_setCell (World.grownBy.refl _ (some (w.heap.size + 1))) (.inl rfl) _) (by simp)) (by omega) rfl rfl HI64.out HGK.out ?_; intro w9 hs9 hg9; have HS9 := hid (And.intro hs9 hg9); clear hs9 hg9) | fail)
      refine ⟨⟨k + 1,_,by rw [Int.natCast_add]; rfl,hkn,HS9.out.1,by rw [HNEW.out]; exact HMAP.out.step HRI1.out HT1.out,by rw [HNEW.out,HA.out]; exact (HG.out.set_ i _).grown HS9.out.2 (by simp),(HZ.out.far (by simp) _).grown HS9.out.2 (by simp),(HBW.out.setCell (by simp) _).grown HS9.out.2 (by have := HBW.out.size; simpa using this) (fun x hx => by injection hx; omega)⟩,by simp only [RowKit.intOf,Int.toNat_natCast]; omega⟩
     case false.false =>
      subst hwas hfg
      have HA := hid (grArr_up (T := T) (c := ⟨i,fk,false,fv⟩) HT1.out rfl hi8 HWAS.out.symm rfl)
      rw [HGI.out] at HA
      go_wp2_with (first | (at_mapUpdate; refine wpList_seen_put _ rfl _ _ _ rfl (w.heap.size + 2) k f i fk true rfl (HSE.out.kept (only_setCell (World.grownBy.refl _ (some (w.heap.size + 1))) (.inl rfl) _) (by simp)) (by omega) rfl rfl HI64.out HGK.out ?_; intro w9 hs9 hg9; have HS9 := hid (And.intro hs9 hg9); clear hs9 hg9) | fail)
      refine ⟨⟨k + 1,_,by rw [Int.natCast_add]; rfl,hkn,HS9.out.1,by rw [HNEW.out]; exact HMAP.out.step HRI1.out HT1.out,by rw [HNEW.out,HA.out]; exact (HG.out.set_ i _).grown HS9.out.2 (by simp),(HZ.out.far (by simp) _).grown HS9.out.2 (by simp),(HBW.out.setCell (by simp) _).grown HS9.out.2 (by have := HBW.out.size; simpa using this) (fun x hx => by injection hx; omega)⟩,by simp only [RowKit.intOf,Int.toNat_natCast]; omega⟩
     case true.false =>
      subst hwas hfg
      have HA := hid (grArr_keep (T := T) (c := ⟨i,fk,false,fv⟩) HT1.out rfl (by rw [<- HWAS.out]; simp))
      go_wp2_with (first | (at_mapUpdate; refine wpList_seen_put _ rfl _ _ _ rfl (w.heap.size + 2) k f i fk true rfl HSE.out (by omega) rfl rfl HI64.out HGK.out ?_; intro w9 hs9 hg9; have HS9 := hid (And.intro hs9 hg9); clear hs9 hg9) | fail)
      refine ⟨⟨k + 1,_,by rw [Int.natCast_add]; rfl,hkn,HS9.out.1,by rw [HNEW.out]; exact HMAP.out.step HRI1.out HT1.out,by rw [HNEW.out,HA.out]; exact HG.out.grown HS9.out.2 (by simp),HZ.out.grown HS9.out.2 (by simp),HBW.out.grown HS9.out.2 HBW.out.size (fun x hx => by injection hx; omega)⟩,by simp only [RowKit.intOf,Int.toNat_natCast]; omega⟩
     case false.true =>
      subst hwas hfg
      have HA := hid (grArr_keep (T := T) (c := ⟨i,fk,true,fv⟩) HT1.out rfl (by rw [<- HWAS.out]; simp))
      go_wp2_with (first | (at_mapUpdate; refine wpList_seen_put _ rfl _ _ _ rfl (w.heap.size + 2) k f i fk false rfl HSE.out (by omega) rfl rfl HI64.out HGK.out ?_; intro w9 hs9 hg9; have HS9 := hid (And.intro hs9 hg9); clear hs9 hg9) | fail)
      refine ⟨⟨k + 1,_,by rw [Int.natCast_add]; rfl,hkn,HS9.out.1,by rw [HNEW.out]; exact HMAP.out.step HRI1.out HT1.out,by rw [HNEW.out,HA.out]; exact HG.out.grown HS9.out.2 (by simp),HZ.out.grown HS9.out.2 (by simp),HBW.out.grown HS9.out.2 HBW.out.size (fun x hx => by injection hx; omega)⟩,by simp only [RowKit.intOf,Int.toNat_natCast]; omega⟩
   | none =>
     have HWAS0 : Hid (there (tab T (i : Int)) fk = there (tab T1 (i : Int)) fk) := by have := HMAP.out i fk; rw [hf] at this; exact this
     have HF := hid hf
     clear hf
     obtain ⟨bb,ps,G,hX⟩ := HSb.out
     obtain ⟨q,l0,e1,e2,d1,hq0⟩ := hX.get hi
     have d0 : ((wr.alloc (.cells #[.int .i64 i,.int .i64 fk,.bool fg,.string fv] 64)).alloc (.cells #[.int .i64 i,.int .i64 fk] 279)).cell? ⟨p,0,none⟩ = some (.slice (some ⟨bb,0,none⟩) T.length T.length) := hX.box.cell 0
     have d2 : ((wr.alloc (.cells #[.int .i64 i,.int .i64 fk,.bool fg,.string fv] 64)).alloc (.cells #[.int .i64 i,.int .i64 fk] 279)).cell? ⟨bb,i,none⟩ = some (.pointer (some ⟨q,0,none⟩)) := d1
     have b0 : ((wr.alloc (.cells #[.int .i64 i,.int .i64 fk,.bool fg,.string fv] 64)).alloc (.cells #[.int .i64 i,.int .i64 fk] 279)).cell? ⟨wr.heap.size,0,none⟩ = some (.int .i64 i) := HE0.out.cell 0
     have b1 : ((wr.alloc (.cells #[.int .i64 i,.int .i64 fk,.bool fg,.string fv] 64)).alloc (.cells #[.int .i64 i,.int .i64 fk] 279)).cell? ⟨wr.heap.size,1,none⟩ = some (.int .i64 fk) := HE0.out.cell 1
     have HQ := hid hq0
     have HTB : Hid ((IdxMath.get l0 fk).isSome = there (tab T1 (i : Int)) fk) := by show _ = _; rw [there_get hq0.rise,<- HWAS0.out,tab_get hi e2]
     have hs0 : l0.length <= 1099511627775 := by have := HM.out (i : Int); rw [tab_get hi e2] at this; omega
     have hi2 : (i : Int) < (T.length : Int) := by omega
     clear hX d1 hq0 e1 e2 HWAS0
     go_upto_region 9 with (first | (at_lookup; refine wpList_seen_look _ rfl _ _ rfl (w.heap.size + 2) k f i fk rfl HSE0.out rfl HI64.out HGK.out false false (by rw [HF.out]; rfl) (by rw [HF.out]; rfl) ?_) | fail)
     generalize ((wr.alloc (.cells #[.int .i64 i,.int .i64 fk,.bool fg,.string fv] 64)).alloc (.cells #[.int .i64 i,.int .i64 fk] 279)) = wb at *
     go_region_with (first
      | (go_at_call 213; refine (Idx.get_any (G i) q l0 fk _ (by exact HQ.out) hs0).mono ?_; rintro e w2 ⟨rfl,hb2⟩; have HB2 := hid hb2; clear hb2)
      | fail)
     all_goals (
      have hbw := held_two (held_start wb) HB2.out
      have HE := hid (HE0.out.below hbw HE0.out.lt)
      have HP := hid (HP0.out.below hbw HP0.out.lt)
      have HSE := hid (HSE0.out.same (hbw.block _ HSE0.out.lt))
      have HG := hid (HG0.out.below hbw HG0.out.lt)
      have HZ := hid (HZ0.out.below hbw HZ0.out.lt)
      have HBW := hid (held_two HBW0.out hbw)
      obtain ⟨s8,hs8⟩ : ∃ s8,s8 = wr.heap.size := ⟨_,rfl⟩
      obtain ⟨s9,hs9⟩ : ∃ s9,s9 = wr.heap.size + 1 := ⟨_,rfl⟩
      rw [<- hs9,<- hs8] at HN8
      rw [<- hs9] at HP
      rw [<- hs8] at HE
      rw [<- hs9,<- hs8,HTB.out]
      obtain ⟨was,hwas0⟩ : ∃ was,was = there (tab T1 (i : Int)) fk := ⟨_,rfl⟩
      have HWAS := hid hwas0
      rw [<- hwas0]
      clear hs8 hs9 HE0 HP0 HSE0 HG0 HZ0 HBW0 hbw HB2 d0 d2 b0 b1 HQ HSb hwas0 HTB
      have HGI : Hid (gr T T1 i = gi0) := hgi.symm
      clear hgi
      go_upto_region 10 with fail
      generalize hwt : w2 = wt at *
      clear hwt
      have HKC := hid (show wt.cell? ⟨w.heap.size + 1,i,none⟩ = some (.int .i64 (gr T T1 i)) by rw [HG.out.cell,grArr_get T T1 hi8])
      have hkc := HKC.out
      have hfz := HG.out.frozen i
      have hbd := gr_bd (HM.out.mono (show M <= M + n by omega)) HMO.out i
      have hi8' : (i : Int) < 8 := by omega
      have e0 : wt.cell? ⟨s8,0,none⟩ = some (.int .i64 i) := HE.out.cell 0
      have e1 : wt.cell? ⟨s8,1,none⟩ = some (.int .i64 fk) := HE.out.cell 1
      have e2 : wt.cell? ⟨s8,2,none⟩ = some (.bool fg) := HE.out.cell 2
      have e3 : wt.cell? ⟨s8,3,none⟩ = some (.string fv) := HE.out.cell 3
      have p0 : wt.cell? ⟨s9,0,none⟩ = some (.int .i64 i) := HP.out.cell 0
      have p1 : wt.cell? ⟨s9,1,none⟩ = some (.int .i64 fk) := HP.out.cell 1
      have ne8 : s8 ≠ w.heap.size + 1 := HN8.out.1
      have ne9 : s9 ≠ w.heap.size + 1 := HN8.out.2
      have ne8' : w.heap.size + 1 ≠ s8 := fun e => HN8.out.1 e.symm
      have ne9' : w.heap.size + 1 ≠ s9 := fun e => HN8.out.2 e.symm
      rw [HGI.out] at hkc hbd
      clear HKC
      cases hwas : was <;> cases hfg : fg
      case true.true =>
       subst hwas hfg
       have HA := hid (grArr_down (T := T) (c := ⟨i,fk,true,fv⟩) HT1.out rfl hi8 HWAS.out.symm rfl)
       rw [HGI.out] at HA
       go_wp2_with (first | (at_mapUpdate; refine wpList_seen_put _ rfl _ _ _ rfl (w.heap.size + 2) k f i fk false rfl (HSE.out.kept (only_setCell (World.grownBy.refl _ (some (w.heap.size + 1))) (.inl rfl) _) (by simp)) (by omega) rfl rfl HI64.out HGK.out ?_; intro w9 hs9 hg9; have HS9 := hid (And.intro hs9 hg9); clear hs9 hg9) | fail)
       refine ⟨⟨k + 1,_,by rw [Int.natCast_add]; rfl,hkn,HS9.out.1,by rw [HNEW.out]; exact HMAP.out.step HRI1.out HT1.out,by rw [HNEW.out,HA.out]; exact (HG.out.set_ i _).grown HS9.out.2 (by simp),(HZ.out.far (by simp) _).grown HS9.out.2 (by simp),(HBW.out.setCell (by simp) _).grown HS9.out.2 (by have := HBW.out.size; simpa using this) (fun x hx => by injection hx; omega)⟩,by simp only [RowKit.intOf,Int.toNat_natCast]; omega⟩
      case false.false =>
       subst hwas hfg
       have HA := hid (grArr_up (T := T) (c := ⟨i,fk,false,fv⟩) HT1.out rfl hi8 HWAS.out.symm rfl)
       rw [HGI.out] at HA
       go_wp2_with (first | (at_mapUpdate; refine wpList_seen_put _ rfl _ _ _ rfl (w.heap.size + 2) k f i fk true rfl (HSE.out.kept (only_setCell (World.grownBy.refl _ (some (w.heap.size + 1))) (.inl rfl) _) (by simp)) (by omega) rfl rfl HI64.out HGK.out ?_; intro w9 hs9 hg9; have HS9 := hid (And.intro hs9 hg9); clear hs9 hg9) | fail)
       refine ⟨⟨k + 1,_,by rw [Int.natCast_add]; rfl,hkn,HS9.out.1,by rw [HNEW.out]; exact HMAP.out.step HRI1.out HT1.out,by rw [HNEW.out,HA.out]; exact (HG.out.set_ i _).grown HS9.out.2 (by simp),(HZ.out.far (by simp) _).grown HS9.out.2 (by simp),(HBW.out.setCell (by simp) _).grown HS9.out.2 (by have := HBW.out.size; simpa using this) (fun x hx => by injection hx; omega)⟩,by simp only [RowKit.intOf,Int.toNat_natCast]; omega⟩
      case true.false =>
       subst hwas hfg
       have HA := hid (grArr_keep (T := T) (c := ⟨i,fk,false,fv⟩) HT1.out rfl (by rw [<- HWAS.out]; simp))
       go_wp2_with (first | (at_mapUpdate; refine wpList_seen_put _ rfl _ _ _ rfl (w.heap.size + 2) k f i fk true rfl HSE.out (by omega) rfl rfl HI64.out HGK.out ?_; intro w9 hs9 hg9; have HS9 := hid (And.intro hs9 hg9); clear hs9 hg9) | fail)
       refine ⟨⟨k + 1,_,by rw [Int.natCast_add]; rfl,hkn,HS9.out.1,by rw [HNEW.out]; exact HMAP.out.step HRI1.out HT1.out,by rw [HNEW.out,HA.out]; exact HG.out.grown HS9.out.2 (by simp),HZ.out.grown HS9.out.2 (by simp),HBW.out.grown HS9.out.2 HBW.out.size (fun x hx => by injection hx; omega)⟩,by simp only [RowKit.intOf,Int.toNat_natCast]; omega⟩
      case false.true =>
       subst hwas hfg
       have HA := hid (grArr_keep (T := T) (c := ⟨i,fk,true,fv⟩) HT1.out rfl (by rw [<- HWAS.out]; simp))
       go_wp2_with (first | (at_mapUpdate; refine wpList_seen_put _ rfl _ _ _ rfl (w.heap.size + 2) k f i fk false rfl HSE.out (by omega) rfl rfl HI64.out HGK.out ?_; intro w9 hs9 hg9; have HS9 := hid (And.intro hs9 hg9); clear hs9 hg9) | fail)
       refine ⟨⟨k + 1,_,by rw [Int.natCast_add]; rfl,hkn,HS9.out.1,by rw [HNEW.out]; exact HMAP.out.step HRI1.out HT1.out,by rw [HNEW.out,HA.out]; exact HG.out.grown HS9.out.2 (by simp),HZ.out.grown HS9.out.2 (by simp),HBW.out.grown HS9.out.2 HBW.out.size (fun x hx => by injection hx; omega)⟩,by simp only [RowKit.intOf,Int.toNat_natCast]; omega⟩)
  ·have l1 : decide ((k : Int) < (n : Int)) = false := decide_eq_false (by omega)
   have hlk : l.take k = l := List.take_of_length_le (by rw [HLEN.out]; omega)
   rw [hlk] at hgr
   generalize hA : grArr T (doAll T l) = ga at *
   have HA := hid hA
   have hgs : ga = #[.int .i64 (gr T (doAll T l) 0),.int .i64 (gr T (doAll T l) 1),.int .i64 (gr T (doAll T l) 2),.int .i64 (gr T (doAll T l) 3),.int .i64 (gr T (doAll T l) 4),.int .i64 (gr T (doAll T l) 5),.int .i64 (gr T (doAll T l) 6),.int .i64 (gr T (doAll T l) 7)] := hA.symm
   generalize gr T (doAll T l) 0 = g0 at *
   generalize gr T (doAll T l) 1 = g1 at *
   generalize gr T (doAll T l) 2 = g2 at *
   generalize gr T (doAll T l) 3 = g3 at *
   generalize gr T (doAll T l) 4 = g4 at *
   generalize gr T (doAll T l) 5 = g5 at *
   generalize gr T (doAll T l) 6 = g6 at *
   generalize gr T (doAll T l) 7 = g7 at *
   subst hgs
   have q0 : wr.cell? ⟨w.heap.size + 1,0,none⟩ = some (.int .i64 g0) := hgr.cell 0
   have q1 : wr.cell? ⟨w.heap.size + 1,1,none⟩ = some (.int .i64 g1) := hgr.cell 1
   have q2 : wr.cell? ⟨w.heap.size + 1,2,none⟩ = some (.int .i64 g2) := hgr.cell 2
   have q3 : wr.cell? ⟨w.heap.size + 1,3,none⟩ = some (.int .i64 g3) := hgr.cell 3
   have q4 : wr.cell? ⟨w.heap.size + 1,4,none⟩ = some (.int .i64 g4) := hgr.cell 4
   have q5 : wr.cell? ⟨w.heap.size + 1,5,none⟩ = some (.int .i64 g5) := hgr.cell 5
   have q6 : wr.cell? ⟨w.heap.size + 1,6,none⟩ = some (.int .i64 g6) := hgr.cell 6
   have q7 : wr.cell? ⟨w.heap.size + 1,7,none⟩ = some (.int .i64 g7) := hgr.cell 7
   have z0 : wr.cell? ⟨w.heap.size,0,none⟩ = some (.int .i64 0) := hz.cell 0
   have z1 : wr.cell? ⟨w.heap.size,1,none⟩ = some (.int .i64 0) := hz.cell 1
   have z2 : wr.cell? ⟨w.heap.size,2,none⟩ = some (.int .i64 0) := hz.cell 2
   have z3 : wr.cell? ⟨w.heap.size,3,none⟩ = some (.int .i64 0) := hz.cell 3
   have z4 : wr.cell? ⟨w.heap.size,4,none⟩ = some (.int .i64 0) := hz.cell 4
   have z5 : wr.cell? ⟨w.heap.size,5,none⟩ = some (.int .i64 0) := hz.cell 5
   have z6 : wr.cell? ⟨w.heap.size,6,none⟩ = some (.int .i64 0) := hz.cell 6
   have z7 : wr.cell? ⟨w.heap.size,7,none⟩ = some (.int .i64 0) := hz.cell 7
   have y0 := hz.frozen 0
   have y1 := hz.frozen 1
   have y2 := hz.frozen 2
   have y3 := hz.frozen 3
   have y4 := hz.frozen 4
   have y5 := hz.frozen 5
   have y6 := hz.frozen 6
   have y7 := hz.frozen 7
   have HBE := hid hbel
   clear hseen hmap hgr hz hbel hA hlk S1
   go_wp2
   refine bodyPost_ret (v := .agg #[.int .i64 g0,.int .i64 g1,.int .i64 g2,.int .i64 g3,.int .i64 g4,.int .i64 g5,.int .i64 g6,.int .i64 g7]) (by simp [results,Tryz.results167,go_sem,z0,z1,z2,z3,z4,z5,z6,z7]) rfl ⟨by rw [HA.out],?_⟩
   exact (((((((HBE.out.setCell (by exact Nat.le_refl _) _).setCell (by exact Nat.le_refl _) _).setCell (by exact Nat.le_refl _) _).setCell (by exact Nat.le_refl _) _).setCell (by exact Nat.le_refl _) _).setCell (by exact Nat.le_refl _) _).setCell (by exact Nat.le_refl _) _).setCell (by exact Nat.le_refl _) _
end Tbl
namespace Tbl
open Go.RowKit Base IdxMath Foot Idx
open PChg (gcells gval gv gv_cons gv_length gv_get Cs)
def small (T : List (List Rw)) (k : Nat) : Bool := (List.range k).all fun j => decide ((tab T (j : Int)).length <= 1000)
def fitsT (T : List (List Rw)) (l : List Cg) : Bool := allT T l && small (doAll T l) T.length
theorem small_succ (T : List (List Rw)) (k : Nat) : small T (k + 1) = (small T k && decide ((tab T (k : Int)).length <= 1000)) := by simp [small,List.range_succ]
theorem small_not {T : List (List Rw)} {k n : Nat} (h : k < n) (hk : ¬ (tab T (k : Int)).length <= 1000) : small T n = false := by
 unfold small
 rw [List.all_eq_false]
 exact ⟨k,List.mem_range.2 h,by simpa using hk⟩
theorem fits_any (F : Nat -> Prop) (p : Nat) (T : List (List Rw)) (M : Nat) (A : Option Addr) (n c : Nat) (l : List Cg) (w : World) (h : SetAt w F p T) (hl : Cs w w.heap.size A n c l) (hkeys : ∀ f ∈ l,In64 f.key) (hM : Most T M) (hsz : M + n <= 1099511627774) :
 Calls Tryz.prog 102 #[.pointer (some ⟨p,0,none⟩),.slice A n c] w fun e w' => e = .returned (.bool (fitsT T l)) /\ Below w.heap.size w w' := by
 have HH := hid (hasAll_any F p T A n c l w h hl)
 have HC := hid hl
 have HS := hid h
 have HKEYS := hid hkeys
 have HM := hid hM
 have HLEN := hid hl.len
 clear h hl hkeys hM
 cases ht : allT T l with
 | false =>
   have HT := hid ht
   clear ht
   go_enter Tryz.func102,Tryz.ntmps102
   go_wp2_with fail
   refine HH.out.mono ?_
   rintro e w1 ⟨rfl,hb⟩
   rw [HT.out]
   have HB1 := hid hb
   clear hb
   go_wp2
   go_ret
   exact ⟨by unfold fitsT; rw [HT.out]; rfl,HB1.out⟩
 | true =>
   have HT := hid ht
   clear ht
   go_enter Tryz.func102,Tryz.ntmps102
   go_wp2_with fail
   refine HH.out.mono ?_
   rintro e w1 ⟨rfl,hb⟩
   rw [HT.out]
   have HB1 := hid hb
   clear hb
   go_wp2_with fail
   refine (growth_any F p T M A n c l w1 (HS.out.new HB1.out) ((HC.out.below HB1.out).more HB1.out.size) HT.out HKEYS.out HM.out hsz).mono ?_
   rintro e w2 ⟨rfl,hb2⟩
   have HB2 := hid (held_two HB1.out hb2)
   have HMO : Hid (Most (doAll T l) (M + n)) := (most_doAll HM.out _ HT.out).mono (by rw [HLEN.out]; omega)
   have HFT : Hid (fitsT T l = small (doAll T l) T.length) := by show _ = _; unfold fitsT; rw [HT.out]; rfl
   generalize doAll T l = T1 at *
   unfold grArr
   have hset := HS.out.new HB2.out
   obtain ⟨bb,ps,G,hX⟩ := hset
   have hpl := hX.box.lt
   have hbl := hX.row.lt
   have HX := hid hX
   have d0 : w2.cell? ⟨p,0,none⟩ = some (.slice (some ⟨bb,0,none⟩) T.length T.length) := hX.box.cell 0
   have HG2 := hid (Blk.new w2 239 (grArr T T1))
   have HB2' : Hid (Below w.heap.size w (w2.alloc (.cells (grArr T T1) 239))) := HB2.out.alloc HB2.out.size _
   have hb23 : Below w2.heap.size w2 (w2.alloc (.cells (grArr T T1) 239)) := (Below.refl _ _).alloc (Nat.le_refl _) _
   have S1 : Hid (Below w2.heap.size w2 (w2.alloc (.cells (grArr T T1) 239)) /\ Blk (w2.alloc (.cells (grArr T T1) 239)) w2.heap.size 239 (grArr T T1)) := ⟨hb23,HG2.out⟩
   have hm8 : T.length <= 8 := hX.most
   clear hX hb2 HH hb23
   go_wp2
   go_loopw [20,7,6] (fun vi _ _ wr => ∃ k : Nat,vi = .int .i64 k /\ k <= T.length /\ small T1 k = true /\ Below w2.heap.size w2 wr /\ Blk wr w2.heap.size 239 (grArr T T1)) (fun vi _ _ _ => T.length - (RowKit.intOf vi).toNat)
   case atStart => exact ⟨0,rfl,Nat.zero_le _,rfl,S1.out.1,S1.out.2⟩
   case round =>
    obtain ⟨k,rfl,hk,hsm,hbw,hgb⟩ := hrel
    by_cases hkn : k < T.length
    ·have l1 : (k : Int) < (T.length : Int) := by omega
     have hX := HX.out.keep hbw.size (fun i hi _ => hbw.block i hi)
     obtain ⟨q,l0,e1,e2,d1,hq0⟩ := hX.get hkn
     have c1 : wr.cell? ⟨bb,k,none⟩ = some (.pointer (some ⟨q,0,none⟩)) := d1
     have hgk : wr.cell? ⟨w2.heap.size,k,none⟩ = some (.int .i64 (gr T T1 k)) := by rw [hgb.cell,grArr_get T T1 (by omega)]
     have hkc : (wr.alloc (.cells #[.pointer (some ⟨q,0,none⟩)] 122)).cell? ⟨w2.heap.size,k,none⟩ = some (.int .i64 (gr T T1 k)) := by rw [(hgb.alloc _).cell,grArr_get T T1 (by omega)]
     have hx0 : (wr.alloc (.cells #[.pointer (some ⟨q,0,none⟩)] 122)).cell? ⟨wr.heap.size,0,none⟩ = some (.pointer (some ⟨q,0,none⟩)) := (Blk.new wr _ _).cell 0
     have hb3 : Below wr.heap.size wr (wr.alloc (.cells #[.pointer (some ⟨q,0,none⟩)] 122)) := (Below.refl _ _).alloc (Nat.le_refl _) _
     have HL : Hid (∀ m,Calls Tryz.prog 168 #[.pointer (some ⟨q,0,none⟩)] ((wr.alloc (.cells #[.pointer (some ⟨q,0,none⟩)] 122)).drewN m) fun e w'' => e = .returned (.int .i64 l0.length) /\ ∃ j,w'' = (wr.alloc (.cells #[.pointer (some ⟨q,0,none⟩)] 122)).drewN j) :=
      fun m => (Idx.len_any (G k) q l0 _ ((hq0.mono (fun i _ h => h.1)).new (below_drewN hb3 m))).mono fun e w'' h => ⟨h.1,m,h.2.symm⟩
     have HSUM : Hid ((l0.length : Int) + gr T T1 k = (tab T1 (k : Int)).length) := by show _ = _; unfold gr; rw [tab_get hkn e2]; omega
     have hs1 : (l0.length : Int) <= 1099511627774 := by have := HM.out (k : Int); rw [tab_get hkn e2] at this; omega
     have hs2 := HMO.out (k : Int)
     have HB3 := hid (hbw.trans (hb3.mono hbw.size))
     have HG3 := hid (hgb.alloc (.cells #[.pointer (some ⟨q,0,none⟩)] 122))
     have HSM := hid hsm
     have hgl := hgb.lt
     have hneq : w2.heap.size ≠ wr.heap.size := by omega
     clear d1 hq0 e1 e2 hX hb3 hsm hbw hgb
     obtain ⟨gk,hgk'⟩ : ∃ gk,gk = gr T T1 k := ⟨_,rfl⟩
     rw [<- hgk'] at hgk hkc HSUM
     clear hgk'
     obtain ⟨n0,hn0⟩ : ∃ n0 : Nat,n0 = l0.length := ⟨_,rfl⟩
     rw [<- hn0] at HSUM hs1 HL
     have HSUM2 : (n0 : Int) + gk = (tab T1 (k : Int)).length := HSUM.out
     have hw : IntKind.i64.wrap ((n0 : Int) + gk) = (n0 : Int) + gk := IntWalk.i64_in _ (by omega)
     clear hn0 HSUM
     by_cases h1000 : (tab T1 (k : Int)).length <= 1000
     ·have HS2 : Hid (small T1 (k + 1) = true) := by show _ = _; rw [small_succ,HSM.out]; simpa using h1000
      have hq : ¬ (1000 : Int) < (n0 : Int) + gk := by omega
      have hqd : decide ((1000 : Int) < (n0 : Int) + gk) = false := decide_eq_false hq
      generalize (tab T1 (k : Int)).length = tl at *
      go_upto_region 7 with fail
      go_quiet (first | (go_at_call 168; exact HL.out _))
      go_wp2
      refine ⟨⟨k + 1,by rw [Int.natCast_add]; rfl,hkn,HS2.out,below_drewN HB3.out _,HG3.out⟩,by simp only [RowKit.intOf,Int.toNat_natCast]; omega⟩
     ·have HS2 := hid (small_not hkn h1000)
      have hq : (1000 : Int) < (n0 : Int) + gk := by omega
      have hqd : decide ((1000 : Int) < (n0 : Int) + gk) = true := decide_eq_true hq
      generalize (tab T1 (k : Int)).length = tl at *
      go_upto_region 7 with fail
      go_quiet (first | (go_at_call 168; exact HL.out _))
      go_wp2
      go_ret
      exact ⟨by rw [HFT.out,HS2.out]; rfl,(HB2.out.trans (HB3.out.mono HB2.out.size)).trans (below_drewN (Below.refl _ _) _)⟩
    ·have l1 : decide ((k : Int) < (T.length : Int)) = false := decide_eq_false (by omega)
     obtain rfl : k = T.length := by omega
     have HSM := hid hsm
     have HB3 := hid (HB2.out.trans (hbw.mono HB2.out.size))
     clear hsm hbw hgb
     go_wp2
     go_ret
     exact ⟨by rw [HFT.out,HSM.out]; rfl,HB3.out⟩
end Tbl
end Go.Proofs.YtefnmnpfecfdaaaGreat
