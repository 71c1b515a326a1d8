/-
  Texts of one proof: SrcAdd, ImgMay.
-/
import Derived.Test.YtefnmnpfecfdaaaGreatPk36
set_option linter.all false
set_option maxRecDepth 100000
set_option maxHeartbeats 6400000
open Go.Lib (hid)
namespace Go.Proofs.YtefnmnpfecfdaaaGreat
namespace Src
open Go.RowKit Base
open Foot (Turn Out)
open DiskMath (Fl Dk)
open WalMath (Lg Sg Cap)
open SrcMath (Sc mayS Pa ent)
open TxnMath (Tx Ch)
open Wal (Both New Did Win)
open Tbl (SetAt fitsT)
open Txn (Chs Sigs txv TxIn)
open Field (ret_bool)
def Put (T : Nat -> Prop) (w : World) (s p g gd : Nat) (r : Pa) (e : Ending) (w' : World) : Prop := e = .returned (.tuple #[.int .i64 r.n,.int .i64 r.e]) /\ SrcAt T w' s p g gd r.s r.d /\ Turn T w w'
def putM (S : Sc) (d : Dk) (t : Tx) : Pa := if mayS S.T.length { t with lsn := 1 } = true then SrcMath.put S d (fitsT S.T t.chs) t else ⟨0,1,S,d⟩
theorem may_next {t : Tx} (h : Tx.may { t with lsn := 1 } = true) {n : Int} (h1 : 1 <= n) (h2 : n <= 1099511627776) : Tx.may { t with lsn := n } = true := by
 unfold Tx.may at h ⊢
 rw [Bool.and_eq_true] at h ⊢
 refine ⟨?_,h.2⟩
 show TxnMath.mayLsn n = true
 unfold TxnMath.mayLsn
 rw [decide_eq_true h1,decide_eq_true h2]
 rfl
theorem put_down {S : Sc} {d : Dk} {f : Bool} {t : Tx} (h : d.off = true) : SrcMath.put S d f t = ⟨0,8,S,d⟩ := by unfold SrcMath.put; rw [if_pos h]
theorem put_full {S : Sc} {d : Dk} {f : Bool} {t : Tx} (h : d.off = false) (hf : f = false \/ WalMath.hd S.l.segs = 1099511627776) : SrcMath.put S d f t = ⟨0,7,S,d⟩ := by unfold SrcMath.put; rw [if_neg (by rw [h]; simp),if_pos hf]
theorem put_some {S : Sc} {d : Dk} {f : Bool} {t : Tx} (h : d.off = false) (hf : ¬ (f = false \/ WalMath.hd S.l.segs = 1099511627776)) {a : WalMath.An} (ha : WalMath.append S.l d (ent { t with lsn := WalMath.hd S.l.segs + 1 }) = a) :
 SrcMath.put S d f t = if a.e = 0 then ⟨a.n,0,{ S with l := a.l,T := Tbl.doAll S.T t.chs },a.d⟩ else ⟨0,a.e,{ S with l := a.l },a.d⟩ := by
 unfold SrcMath.put
 rw [if_neg (by rw [h]; simp),if_neg hf,ha]
theorem add_any (T : Nat -> Prop) (s p g gd : Nat) (S : Sc) (d : Dk) (k M MT : Nat) (lsn0 kind mark : Int) (A : Option Addr) (n c : Nat) (l : List Ch) (A' : Option Addr) (n' c' : Nat) (m : List ByteArray) (w : World) (h : SrcAt T w s p g gd S d) (hT : New T w) (ho : LOk S.l) (hc : Cap k M d) (hk : k <= 1000000) (hM : M <= 35184372088832) (hmost : Tbl.Most S.T MT) (hMT : MT <= 100000000)
 (h1 : Chs w w.heap.size A n c l) (hl1 : Lies (fun i => ¬ T i) A n) (h2 : Sigs w w.heap.size A' n' c' m) (hl2 : Lies (fun i => ¬ T i) A' n') :
 Calls Tryz.prog 42 #[.pointer (some ⟨s,0,none⟩),txv lsn0 kind mark A n c A' n' c'] w (Put T w s p g gd (putM S d ⟨lsn0,kind,l,m,mark⟩)) := by
 have hsl := h.lt
 have hlen := h1.len
 have HLEN := hid hlen
 have HS := hid h
 have HT := hid hT
 have HO := hid ho
 have HC := hid hc
 have HMO := hid hmost
 have HLI := hid hl1
 have hbd := Wal.hd_bd ho.ok.2.2.2.2
 have HW : Hid (Below w.heap.size w (w.alloc (.cells #[.int .i64 1,.int .i64 kind,.slice A n c,.slice A' n' c',.int .i64 mark] 39))) := (Below.refl _ _).alloc (Nat.le_refl _) _
 have HX : Hid (Blk (w.alloc (.cells #[.int .i64 1,.int .i64 kind,.slice A n c,.slice A' n' c',.int .i64 mark] 39)) w.heap.size 39 #[.int .i64 1,.int .i64 kind,.slice A n c,.slice A' n' c',.int .i64 mark]) := Blk.new _ _ _
 have HR1 := hid h1
 have HR2 := hid h2
 have HMY := hid (fun wx (hx : Below w.heap.size w wx) => may_any T s p g gd S d wx.heap.size 1 kind mark A n c l A' n' c' m wx (h.new hx) (Row.more (Row.below h1 hx) hx.size) (Row.more (Row.below h2 hx) hx.size) (Nat.le_refl _))
 have HHD := hid (fun wx (hx : Below w.heap.size w wx) => head_any T s p g gd S d wx (h.new hx) ho)
 obtain ⟨F,hd,_⟩ := h.dsk
 have HDN := hid (fun wx (hx : Below w.heap.size w wx) => Disk.down_any F gd d wx (hd.new hx))
 obtain ⟨K,hset,_⟩ := h.set
 have HFI := hid (fun wx (hx : Below w.heap.size w wx) (hkeys : ∀ f ∈ l,Tbl.In64 f.key) (hn : n <= 1000000) => Tbl.fits_any K p S.T MT A n c l wx (hset.new hx) (Row.more (Row.below h1 hx) hx.size) hkeys hmost (by omega))
 have HCL := hid (fun wx (hx : Below w.heap.size w wx) => (h.new hx).cells)
 clear h hT ho hc hmost hl1 hl2 h1 h2 hd hset hlen
 unfold txv at HMY ⊢
 cases hm : mayS S.T.length ⟨1,kind,l,m,mark⟩ with
 | false =>
   have HE := hid (show putM S d ⟨lsn0,kind,l,m,mark⟩ = ⟨0,1,S,d⟩ by unfold putM; rw [if_neg]; show ¬ mayS S.T.length ⟨1,kind,l,m,mark⟩ = true; rw [hm]; simp)
   rw [hm] at HMY
   rw [HE.out]
   clear hm HFI HHD HDN
   go_enter Tryz.func42,Tryz.ntmps42
   go_wp2_with fail
   refine (HMY.out _ HW.out).mono ?_
   rintro e w1 ⟨rfl,hb⟩
   have HB := hid (held_two HW.out hb)
   clear hb
   go_wp2
   go_ret2
   exact ⟨rfl,HS.out.new HB.out,Turn.new HB.out⟩
 | true =>
   have hmx : Tx.may ⟨1,kind,l,m,mark⟩ = true := by unfold mayS at hm; rw [Bool.and_eq_true] at hm; exact hm.1
   have hmt : ∀ c ∈ l,0 <= c.tbl /\ c.tbl < (S.T.length : Int) := fun c hc => by
    have h3 := SrcMath.may_tbl hmx c hc
    rw [SrcMath.mayS_of hmx] at hm
    have h4 := List.all_eq_true.1 hm c hc
    rw [decide_eq_true_eq] at h4
    exact ⟨h3.1,h4⟩
   have hn16 : n <= 16 := by
    have := (TxnMath.may_of hmx).chs
    rw [<- HLEN.out]
    exact this
   have HMT := hid hmt
   have HMX := hid hmx
   have HE := hid (show putM S d ⟨lsn0,kind,l,m,mark⟩ = SrcMath.put S d (fitsT S.T l) ⟨lsn0,kind,l,m,mark⟩ by unfold putM; rw [if_pos]; show mayS S.T.length ⟨1,kind,l,m,mark⟩ = true; rw [hm])
   have HFT := hid (fun wx (hx : Below w.heap.size w wx) => HFI.out wx hx (fun c hc => ⟨(SrcMath.may_tbl hmx c hc).2.2.1,(SrcMath.may_tbl hmx c hc).2.2.2⟩) (by omega))
   rw [hm] at HMY
   rw [HE.out]
   clear hm HFI hmt hmx HE
   cases hoff : d.off with
   | true =>
     rw [put_down hoff]
     rw [hoff] at HDN
     clear hoff HFT HHD
     go_enter Tryz.func42,Tryz.ntmps42
     go_wp2_with fail
     refine (HMY.out _ HW.out).mono ?_
     rintro e w1 ⟨rfl,hb⟩
     have HB := hid (held_two HW.out hb)
     have c1 := (HCL.out _ HB.out).2.1
     clear hb
     go_wp2_with fail
     refine (HDN.out _ HB.out).mono ?_
     rintro e w2 ⟨rfl,rfl⟩
     go_wp2
     go_ret2
     exact ⟨rfl,HS.out.new HB.out,Turn.new HB.out⟩
   | false =>
     rw [hoff] at HDN
     have HOFF := hid hoff
     clear hoff
     go_enter Tryz.func42,Tryz.ntmps42
     go_wp2_with fail
     refine (HMY.out _ HW.out).mono ?_
     rintro e w1 ⟨rfl,hb⟩
     have HB := hid (held_two HW.out hb)
     have HX1 := hid (HX.out.below hb (by simp))
     have c1 := (HCL.out _ HB.out).2.1
     have hz1 : w.heap.size < w1.heap.size := HX1.out.lt
     clear hb
     go_wp2_with fail
     refine (HDN.out _ HB.out).mono ?_
     rintro e w2 ⟨rfl,rfl⟩
     clear c1
     generalize hf : fitsT S.T l = fi at *
     have HFI := hid hf
     generalize hh : WalMath.hd S.l.segs = hd at *
     have HHH := hid hh
     clear hf hh
     have c0 := (HCL.out _ HB.out).1
     have x2 : w1.cell? ⟨w.heap.size,2,none⟩ = some (.slice A n c) := HX1.out.cell 2
     have HCUT : Hid (∀ wx,Below w1.heap.size w1 wx -> Below w.heap.size w wx /\ wx.cell? ⟨s,0,none⟩ = some (.pointer (some ⟨p,0,none⟩)) /\ wx.cell? ⟨w.heap.size,2,none⟩ = some (.slice A n c)) := fun wx hx => ⟨held_two HB.out hx,(HCL.out _ (held_two HB.out hx)).1,(hx.cell (p := ⟨w.heap.size,2,none⟩) hz1).trans x2⟩
     go_upto_region 6 with fail
     go_cut [32] (fun v wx => v = .bool (!fi || decide (hd = 1099511627776)) /\ Below w1.heap.size w1 wx)
     case first =>
      have HSS : Hid (∀ wx,Below w1.heap.size w1 wx -> wx.cell? ⟨s,0,none⟩ = some (.pointer (some ⟨p,0,none⟩)) /\ wx.cell? ⟨w.heap.size,2,none⟩ = some (.slice A n c) /\ Below w1.heap.size w1 wx) := fun wx hx => ⟨(HCUT.out wx hx).2.1,(HCUT.out wx hx).2.2,hx⟩
      have HD1 : Hid (Below w1.heap.size w1 w1.drew) := (Below.refl w1.heap.size w1).drew
      refine Go.wp_region_held_drew (S := fun w' => w'.cell? ⟨s,0,none⟩ = some (.pointer (some ⟨p,0,none⟩)) /\ w'.cell? ⟨w.heap.size,2,none⟩ = some (.slice A n c) /\ Below w1.heap.size w1 w') (by kernel_rfl) (HSS.out _ HD1.out) (fun hHeld => ?_)
      refine wpAnyH_take (i := 0) (v := ?cv0) rfl (by kernel_rfl) (by kernel_rfl) (by kernel_rfl) (fun _ _ _ h => h) (Or.inl ⟨by rfl,?cy0⟩) (by assumption) ?cr0
      case cy0 => (intro w hSw; (try dsimp only at hSw); go_simp; try with_reducible rfl)
      try simp only [Act.put,Base.px]
      refine wpAnyH_take (i := 1) (v := ?cv1) rfl (by kernel_rfl) (by kernel_rfl) (by kernel_rfl) (fun _ _ _ h => h) (Or.inl ⟨by rfl,?cy1⟩) (by assumption) ?cr1
      case cy1 => (intro w hSw; (try dsimp only at hSw); go_simp; try with_reducible rfl)
      try simp only [Act.put,Base.px]
      refine wpAnyH_take (i := 2) (v := ?cv2) rfl (by kernel_rfl) (by kernel_rfl) (by kernel_rfl) (fun _ _ _ h => h) (Or.inl ⟨by rfl,?cy2⟩) (by assumption) ?cr2
      case cy2 => (intro w hSw; (try dsimp only at hSw); go_simp; try with_reducible rfl)
      try simp only [Act.put,Base.px]
      refine wpAnyH_take (i := 3) (v := ?cv3) rfl (by kernel_rfl) (by kernel_rfl) (by kernel_rfl) (fun _ _ _ h => h) (Or.inl ⟨by rfl,?cy3⟩) (by assumption) ?cr3
      case cy3 => (intro w hSw; (try dsimp only at hSw); go_simp; try with_reducible rfl)
      try simp only [Act.put,Base.px]
      refine wpAnyH_take (i := 4) (v := ?cv4) rfl (by kernel_rfl) (by kernel_rfl) (by kernel_rfl) (fun _ _ _ h => h) (Or.inl ⟨by rfl,?cy4⟩) (by assumption) ?cr4
      case cy4 => (intro w hSw; (try dsimp only at hSw); go_simp; try with_reducible rfl)
      try simp only [Act.put,Base.px]
      refine wpAnyH_take (i := 5) (v := ?cv5) rfl (by kernel_rfl) (by kernel_rfl) (by kernel_rfl) (fun _ _ _ h => h) (Or.inl ⟨by rfl,?cy5⟩) (by assumption) ?cr5
      case cy5 => (intro w hSw; (try dsimp only at hSw); go_simp; try with_reducible rfl)
      try simp only [Act.put,Base.px]
      refine wpAnyH_ready (rs := [6]) (by kernel_rfl) (by simp) ?_
      refine AllReadyH.cons rfl (fun K hK => ?_) AllReadyH.nil
      go_simp
      go_at_call 102
      refine (HFT.out _ (HCUT.out _ HD1.out).1).mono ?_
      rintro e wx ⟨rfl,hb2⟩
      have HB2 := hid (held_two HD1.out hb2)
      clear hb2
      refine hK.out _ _ (HSS.out _ HB2.out) (fun hHeld => ?_)
      clear hK K
      try simp only [Act.put,Base.px]
      cases fi with
      | false =>
        refine wpAnyH_take (i := 7) (v := ?dv7) rfl (by kernel_rfl) (by kernel_rfl) (by kernel_rfl) (fun _ _ _ h => h) (Or.inl ⟨by rfl,?dy7⟩) (by assumption) ?dr7
        case dy7 => (intro w hSw; (try dsimp only at hSw); go_simp; try with_reducible rfl)
        try simp only [Act.put,Base.px]
        refine wpAnyH_take (i := 8) (v := ?dv8) rfl (by kernel_rfl) (by kernel_rfl) (by kernel_rfl) (fun _ _ _ h => h) (Or.inl ⟨by rfl,?dy8⟩) (by assumption) ?dr8
        case dy8 => (intro w hSw; (try dsimp only at hSw); go_simp; try with_reducible rfl)
        try simp only [Act.put,Base.px]
        refine wpAnyH_take (i := 9) (v := undef) rfl (by kernel_rfl) (by kernel_rfl) (by kernel_rfl) (fun _ _ _ h => h) (Or.inr ⟨by rfl,rfl⟩) (by assumption) ?dr9
        try simp only [Act.put,Base.px]
        refine wpAnyH_ready (rs := [10]) (by kernel_rfl) (by simp) ?_
        refine AllReadyH.cons rfl (fun K hK => ?_) AllReadyH.nil
        rw [if_neg (by exact Bool.noConfusion)]
        refine hK.out _ _ (HSS.out _ HB2.out) (fun hHeld => ?_)
        clear hK K
        try simp only [Act.put,Base.px]
        refine wpAnyH_take (i := 11) (v := undef) rfl (by kernel_rfl) (by kernel_rfl) (by kernel_rfl) (fun _ _ _ h => h) (Or.inr ⟨by rfl,rfl⟩) (by assumption) ?dr11
        try simp only [Act.put,Base.px]
        refine wpAnyH_take (i := 12) (v := ?dv12) rfl (by kernel_rfl) (by kernel_rfl) (by kernel_rfl) (fun _ _ _ h => h) (Or.inl ⟨by rfl,?dy12⟩) (by assumption) ?dr12
        case dy12 => (intro w hSw; (try dsimp only at hSw); go_simp; try with_reducible rfl)
        try simp only [Act.put,Base.px]
        refine wpAnyH_done (by kernel_rfl) ?_ _
        go_wp2_with fail
        go_meet
        exact ⟨rfl,HB2.out⟩
      | true =>
        refine wpAnyH_take (i := 7) (v := ?ev7) rfl (by kernel_rfl) (by kernel_rfl) (by kernel_rfl) (fun _ _ _ h => h) (Or.inl ⟨by rfl,?ey7⟩) (by assumption) ?er7
        case ey7 => (intro w hSw; (try dsimp only at hSw); go_simp; try with_reducible rfl)
        try simp only [Act.put,Base.px]
        refine wpAnyH_take (i := 8) (v := ?ev8) rfl (by kernel_rfl) (by kernel_rfl) (by kernel_rfl) (fun _ _ _ h => h) (Or.inl ⟨by rfl,?ey8⟩) (by assumption) ?er8
        case ey8 => (intro w hSw; (try dsimp only at hSw); go_simp; try with_reducible rfl)
        try simp only [Act.put,Base.px]
        refine wpAnyH_take (i := 9) (v := ?ev9) rfl (by kernel_rfl) (by kernel_rfl) (by kernel_rfl) (fun _ _ _ h => h) (Or.inl ⟨by rfl,?ey9⟩) (by assumption) ?er9
        case ey9 => (intro w hSw; (try dsimp only at hSw); go_simp; try with_reducible rfl)
        try simp only [Act.put,Base.px]
        refine wpAnyH_ready (rs := [10]) (by kernel_rfl) (by simp) ?_
        refine AllReadyH.cons rfl (fun K hK => ?_) AllReadyH.nil
        go_simp
        go_at_call 17
        refine (HHD.out _ (HCUT.out _ HB2.out).1).mono ?_
        rintro e wy ⟨rfl,hb3⟩
        have HB3 := hid (held_two HB2.out hb3)
        clear hb3
        refine hK.out _ _ (HSS.out _ HB3.out) (fun hHeld => ?_)
        clear hK K
        try simp only [Act.put,Base.px]
        refine wpAnyH_take (i := 11) (v := ?ev11) rfl (by kernel_rfl) (by kernel_rfl) (by kernel_rfl) (fun _ _ _ h => h) (Or.inl ⟨by rfl,?ey11⟩) (by assumption) ?er11
        case ey11 => (intro w hSw; (try dsimp only at hSw); go_simp; try with_reducible rfl)
        try simp only [Act.put,Base.px]
        refine wpAnyH_take (i := 12) (v := ?ev12) rfl (by kernel_rfl) (by kernel_rfl) (by kernel_rfl) (fun _ _ _ h => h) (Or.inl ⟨by rfl,?ey12⟩) (by assumption) ?er12
        case ey12 => (intro w hSw; (try dsimp only at hSw); go_simp; try with_reducible rfl)
        try simp only [Act.put,Base.px]
        refine wpAnyH_done (by kernel_rfl) ?_ _
        go_wp2_with fail
        go_meet
        exact ⟨rfl,HB3.out⟩
     case rest =>
     obtain ⟨rfl,hbc⟩ := hcut
     have HBC := hid (held_two HB.out hbc)
     have HX2 := hid (HX1.out.below hbc hz1)
     rename_i wc
     by_cases hq : fi = false \/ hd = 1099511627776
     ·have HPF := hid (put_full (S := S) (d := d) (f := fi) (t := ⟨lsn0,kind,l,m,mark⟩) HOFF.out (by rw [HHH.out]; exact hq))
      have hv : (!fi || decide (hd = 1099511627776)) = true := by rcases hq with rfl | rfl <;> simp
      rw [hv]
      clear hq hv hbc c0 x2
      go_wp2
      go_ret2
      rw [HPF.out]
      exact ⟨rfl,HS.out.new HBC.out,Turn.new HBC.out⟩
     ·have hv : (!fi || decide (hd = 1099511627776)) = false := by simp at hq ⊢; exact hq
      have HPUT := hid (fun a (ha : WalMath.append S.l d (ent ⟨hd + 1,kind,l,m,mark⟩) = a) => put_some (S := S) (d := d) (f := fi) (t := ⟨lsn0,kind,l,m,mark⟩) HOFF.out (by rw [HHH.out]; exact hq) (a := a) (by rw [HHH.out]; exact ha))
      have hlt : hd < 1099511627776 := by
       have : hd ≠ 1099511627776 := fun e => hq (.inr e)
       omega
      rw [hv]
      clear hq hv hbc c0 x2
      have x0 := HX2.out.frozen 0
      have xs := HX2.out.lt
      go_wp2_with fail
      refine (HHD.out _ HBC.out).mono ?_
      rintro e w3 ⟨rfl,hb3⟩
      have HX3 := hid (HX2.out.below hb3 HX2.out.lt)
      have HB3 := hid (held_two HBC.out hb3)
      clear hb3 x0
      have x0 := HX3.out.frozen 0
      have y0 : w3.cell? ⟨w.heap.size,0,none⟩ = some (.int .i64 1) := HX3.out.cell 0
      go_upto_region 9 with fail
      have HX4 : Hid (Blk (w3.setCell ⟨w.heap.size,0,none⟩ (.int .i64 (hd + 1))) w.heap.size 39 #[.int .i64 (hd + 1),.int .i64 kind,.slice A n c,.slice A' n' c',.int .i64 mark]) := HX3.out.set_ 0 _
      have HB4 : Hid (Below w.heap.size w (w3.setCell ⟨w.heap.size,0,none⟩ (.int .i64 (hd + 1)))) := HB3.out.setCell (by exact Nat.le_refl _) _
      generalize w3.setCell ⟨w.heap.size,0,none⟩ (.int .i64 (hd + 1)) = w4 at HX4 HB4 ⊢
      have z0 : w4.cell? ⟨w.heap.size,0,none⟩ = some (.int .i64 (hd + 1)) := HX4.out.cell 0
      have z1 : w4.cell? ⟨w.heap.size,1,none⟩ = some (.int .i64 kind) := HX4.out.cell 1
      have z2 : w4.cell? ⟨w.heap.size,2,none⟩ = some (.slice A n c) := HX4.out.cell 2
      have z3 : w4.cell? ⟨w.heap.size,3,none⟩ = some (.slice A' n' c') := HX4.out.cell 3
      have z4 : w4.cell? ⟨w.heap.size,4,none⟩ = some (.int .i64 mark) := HX4.out.cell 4
      have HMN := hid (may_next (t := ⟨1,kind,l,m,mark⟩) HMX.out (n := hd + 1) (by omega) (by omega))
      go_wp2_with fail
      refine (Txn.encode_any w4.heap.size (hd + 1) kind mark A n c l A' n' c' m w4 (Row.more (Row.below HR1.out HB4.out) HB4.out.size) (Row.more (Row.below HR2.out HB4.out) HB4.out.size) (Nat.le_refl _)).mono ?_
      intro e w5 hen
      obtain ⟨Ab,cb,rfl,hown,hb5⟩ := Txn.encT_val hen HMN.out
      clear hen
      have HB5 := hid (held_two HB4.out hb5)
      have HX5 := hid (HX4.out.below hb5 HX4.out.lt)
      have HYB := hid hown
      have hz5 := hb5.size
      have hx5 := HX5.out.lt
      clear hb5 hown z0 z1 z2 z3 z4
      have c2 := (HCL.out _ HB5.out).2.2.1
      have hww := HS.out.win HB5.out
      have hnw := new_win HT.out HB5.out.size
      obtain ⟨L,hbo,hnl,hLT,hLs,hback⟩ := hww.logs hnw
      have HLL := hid hLT
      have HBK := hback
      have hbl : Bytes w5 w5.heap.size Ab (FieldMath.encZ (TxnMath.flds ⟨hd + 1,kind,l,m,mark⟩)).length cb (ent ⟨hd + 1,kind,l,m,mark⟩) := Bytes.of_own HYB.out
      have hlb : Lies (fun i => ¬ L i) Ab (FieldMath.encZ (TxnMath.flds ⟨hd + 1,kind,l,m,mark⟩)).length := by
       intro hn0 b off e hLb
       have hob : (Value.slice Ab (FieldMath.encZ (TxnMath.flds ⟨hd + 1,kind,l,m,mark⟩)).length cb).ownBlock = some b := by rw [e]; rfl
       have h3 := HYB.out.lt b hob
       have h4 := hLT b h3.2 hLb
       have h5 : b < w.heap.size \/ w5.heap.size <= b := h4.2
       have h6 := HB4.out.size
       have h7 := h3.1
       have h8 := h3.2
       omega
      have HAP := hid (Wal.append_any L g gd S.l d k M Ab _ cb (ent ⟨hd + 1,kind,l,m,mark⟩) w5 hbo hnl HO.out.ok HO.out.small HO.out.len HC.out (by omega) hM hbl hlb)
      generalize (FieldMath.encZ (TxnMath.flds ⟨hd + 1,kind,l,m,mark⟩)).length = nb at *
      generalize hap : WalMath.append S.l d (ent ⟨hd + 1,kind,l,m,mark⟩) = ap at *
      have HPA := hid (HPUT.out ap rfl)
      clear HPUT hap hbo hnl hLT hLs hback hww hnw hbl hlb HYB
      go_wp2_with fail
      refine HAP.out.mono ?_
      rintro e w6 ⟨rfl,hbo6,ht6⟩
      obtain ⟨hs6,ht6'⟩ := HBK.out _ _ _ hbo6 ht6
      have HS6 := hid hs6
      have HT6 := hid ht6'
      have HTU : Hid (Turn T w w6) := (Turn.new HB5.out).trans ht6' fun i hi => .inl hi.1
      clear hbo6 ht6 hs6 HAP HBK HLL c2
      by_cases hae : ap.e = 0
      ·have HPB : Hid (SrcMath.put S d fi ⟨lsn0,kind,l,m,mark⟩ = ⟨ap.n,0,{ S with l := ap.l,T := Tbl.doAll S.T l },ap.d⟩) := by show _ = _; rw [HPA.out,if_pos hae]
       rw [hae]
       have x2 : w6.cell? ⟨w.heap.size,2,none⟩ = some (.slice A n c) := by
        refine (World.cell?_of_block (a := ⟨w.heap.size,2,none⟩) (ht6'.block _ hx5 fun hw => ?_)).trans (HX5.out.cell 2)
        have : w.heap.size < w.heap.size \/ w5.heap.size <= w.heap.size := hw.2
        omega
       have c0 := HS6.out.cells.1
       have hnw6 : New (Win T w.heap.size w5.heap.size) w6 := Wal.New.le (new_win HT.out HB5.out.size) ht6'.size
       obtain ⟨K2,hset,hK2,hbk2⟩ := HS6.out.sets hnw6
       have hcs6 : Chs w6 w6.heap.size A n c l := by
        refine row_turn (T := Win T w.heap.size w5.heap.size) (Row.more (Row.below HR1.out HB5.out) HB5.out.size) ?_ ht6'
        intro hn0 b off e hw
        exact HLI.out hn0 b off e hw.1
       have hlK : Lies (fun i => ¬ K2 i) A n := fun hn0 b off e hw => HLI.out hn0 b off e (hK2 b hw).1.1
       have HAY := hid (fun j => Tbl.apply_set K2 p S.T MT A n c l (w6.drewN j) (hset.new (below_drewN (Below.refl _ _) j)) (fun wr hr => row_turn (w := w6) hcs6 hlK ⟨hr.os,hr.tape,hr.output,hr.size,hr.block⟩) HMO.out (by omega))
       have HAL : Hid (Tbl.allT S.T l = true) := SrcMath.all_is HMT.out
       have HAP2 : Hid (Tbl.appl S.T l = Tbl.doAll S.T l) := SrcMath.appl_is HMT.out
       clear ht6' hcs6 hlK hset hK2
       generalize ap.n = an at *
       go_upto_region 13 with fail
       go_still_tail 6,(by kernel_rfl)
       go_wp2_with fail
       refine (HAY.out 1).mono ?_
       rintro e w7 ⟨rfl,h7,h8⟩
       have H7 := hid (And.intro h7 h8)
       clear h7 h8
       go_wp2
       go_ret2
       obtain ⟨h9,h10⟩ := hbk2.out w7 _ H7.out.1 ⟨H7.out.2.os,H7.out.2.tape,H7.out.2.output,H7.out.2.size,H7.out.2.block⟩
       rw [HAP2.out] at h9
       rw [HPB.out]
       exact ⟨rfl,h9.mono fun i hi => hi.1,HTU.out.trans (h10.mono fun i hi => hi.1) fun i hi => .inl hi⟩
      ·have hne : (ap.e != 0) = true := by simpa using hae
       have HPB : Hid (SrcMath.put S d fi ⟨lsn0,kind,l,m,mark⟩ = ⟨0,ap.e,{ S with l := ap.l },ap.d⟩) := by show _ = _; rw [HPA.out,if_neg hae]
       clear ht6' hae
       go_wp2
       go_ret2
       rw [HPB.out]
       exact ⟨rfl,HS6.out.mono fun i hi => hi.1,HTU.out⟩
theorem commit_any (T : Nat -> Prop) (s p g gd : Nat) (S : Sc) (d : Dk) (k M MT : Nat) (A : Option Addr) (n c : Nat) (l : List Ch) (A' : Option Addr) (n' c' : Nat) (m : List ByteArray) (w : World) (h : SrcAt T w s p g gd S d) (hT : New T w) (ho : LOk S.l) (hc : Cap k M d) (hk : k <= 1000000) (hM : M <= 35184372088832) (hmost : Tbl.Most S.T MT) (hMT : MT <= 100000000)
 (h1 : Chs w w.heap.size A n c l) (hl1 : Lies (fun i => ¬ T i) A n) (h2 : Sigs w w.heap.size A' n' c' m) (hl2 : Lies (fun i => ¬ T i) A' n') :
 Calls Tryz.prog 14 #[.pointer (some ⟨s,0,none⟩),.slice A' n' c',.slice A n c] w (Put T w s p g gd (putM S d ⟨0,1,l,m,0⟩)) := by
 have HA := hid (add_any T s p g gd S d k M MT 0 1 0 A n c l A' n' c' m w h hT ho hc hk hM hmost hMT h1 hl1 h2 hl2)
 unfold txv at HA
 generalize putM S d ⟨0,1,l,m,0⟩ = r at *
 clear h hT ho hc hmost h1 hl1 h2 hl2
 go_enter Tryz.func14,Tryz.ntmps14
 go_wp2_with fail
 refine HA.out.mono ?_
 rintro e w1 ⟨rfl,h3,h4⟩
 have H3 := hid h3
 have H4 := hid h4
 clear h3 h4
 go_wp2
 go_ret2
 exact ⟨rfl,H3.out,H4.out⟩
end Src
namespace Img
open Go.RowKit Base
open ImgMath
open IdxMath (Rw)
open Lsts (Lsts)
def Tabs (w : World) (B : Nat) (A : Option Addr) (n c : Nat) (T : List (List Rw)) : Prop := Lsts Idx.Rs w B A n c T
section
variable {w w' : World} {B B' n c : Nat} {A : Option Addr} {T : List (List Rw)}
theorem Tabs.len (h : Tabs w B A n c T) : T.length = n := Lsts.len h
theorem Tabs.le (h : Tabs w B A n c T) : n <= c /\ c <= 9223372036854775807 := Lsts.le h
theorem Tabs.below (h : Tabs w B A n c T) (hb : Below B w w') : Tabs w' B A n c T := Lsts.below h hb fun _ _ _ _ hr => hr.below hb
theorem Tabs.at_ (h : Tabs w B A n c T) {k : Nat} (hk : k < n) :
 ∃ b off A' n' c' l,A = some ⟨b,off,none⟩ /\ b < B /\ w.cell? ⟨b,off + k,none⟩ = some (.slice A' n' c') /\ Idx.Rs w B A' n' c' l /\ T[k]? = some l /\ T.take (k + 1) = T.take k ++ [l] := Lsts.at_ h hk
end
theorem drop_at {α : Type} {l : List α} {k : Nat} {x : α} (h : l[k]? = some x) : l.drop k = x :: l.drop (k + 1) := by
 have hk : k < l.length := (List.getElem?_eq_some_iff.1 h).1
 rw [List.getElem?_eq_getElem hk] at h
 injection h with h
 rw [List.drop_eq_getElem_cons hk,h]
theorem ret_b {a b : Bool} (h : a = b) : Ending.returned (.bool a) = .returned (.bool b) := by rw [h]
theorem rises_no {m : Int} {x : Rw} {r : List Rw} (h : ¬ (m < x.key /\ x.key <= 1099511627776 /\ x.val.size <= 32)) : risesFrom m (x :: r) = false := by
 rw [rises_cons,Bool.eq_false_iff]
 intro h1
 simp only [Bool.and_eq_true,decide_eq_true_eq] at h1
 exact h ⟨h1.1,h1.2.1,h1.2.2.1⟩
theorem rises_yes {m : Int} {x : Rw} {r : List Rw} (h : m < x.key /\ x.key <= 1099511627776 /\ x.val.size <= 32) : risesFrom m (x :: r) = risesFrom x.key r := by
 rw [rises_cons,decide_eq_true h.1,decide_eq_true h.2.1,decide_eq_true h.2.2]
 rfl
def MtRel (w : World) (n : Nat) (l : List Rw) (vi vm : Value) (wr : World) : Prop := ∃ (k : Nat) (m : Int),vi = .int .i64 k /\ vm = .int .i64 m /\ k <= n /\ risesFrom 0 l = risesFrom m (l.drop k) /\ Below w.heap.size w wr
theorem mayTable_any (B : Nat) (A : Option Addr) (n c : Nat) (l : List Rw) (w : World) (h : Idx.Rs w B A n c l) (hB : B <= w.heap.size) :
 Calls Tryz.prog 228 #[.slice A n c] w fun e w' => e = .returned (.bool (mayTab l)) /\ Below w.heap.size w w' := by
 have hle := h.le
 have HL := hid h.len
 have HR := hid h
 by_cases h1000 : 1000 < n
 ·have HE := hid (show mayTab l = false by unfold mayTab; rw [decide_eq_false (by rw [h.len]; omega)]; rfl)
  clear h
  go_enter Tryz.func228,Tryz.ntmps228
  go_wp2
  go_ret
  exact ⟨ret_b (a := false) HE.out.symm,Below.refl _ _⟩
 ·have HE := hid (show mayTab l = risesFrom 0 l by unfold mayTab; rw [decide_eq_true (by rw [h.len]; omega)]; rfl)
  clear h
  go_enter Tryz.func228,Tryz.ntmps228
  go_wp2
  go_loopw [11,3,5] (fun vi vm _ wr => MtRel w n l vi vm wr) (fun vi _ _ _ => n - (RowKit.intOf vi).toNat)
  case atStart => exact ⟨0,0,rfl,rfl,Nat.zero_le _,rfl,Below.refl _ _⟩
  case round =>
   obtain ⟨k,m,rfl,rfl,hk,hris,hbel⟩ := hrel
   have HRI := hid hris
   have HB := hid hbel
   clear hris hbel
   by_cases hlt : k < n
   ·obtain ⟨b,off,x,rfl,hb,c0,c1,hget,_⟩ := (HR.out.below (HB.out.mono hB)).at_ hlt
    have HD := hid (drop_at hget)
    obtain ⟨xk,xv⟩ := x
    dsimp only at c0 c1
    clear hget
    have HBx : Hid (Below w.heap.size w (wr.alloc (.cells #[.int .i64 xk,.string xv] 52))) := HB.out.alloc HB.out.size _
    have l1 : (k : Int) < (n : Int) := by omega
    by_cases h1 : m < xk
    ·by_cases h2 : xk <= 1099511627776
     ·by_cases h3 : xv.size <= 32
      ·have HS := hid (rises_yes (x := ⟨xk,xv⟩) (r := l.drop (k + 1)) ⟨h1,h2,h3⟩)
       go_wp2
       go_roundw
       case rel => exact ⟨k + 1,xk,by go_num,rfl,by omega,by rw [HRI.out,HD.out,HS.out],HBx.out⟩
       case measure => simp [RowKit.intOf]; omega
      ·have HS := hid (rises_no (m := m) (x := ⟨xk,xv⟩) (r := l.drop (k + 1)) (fun e => h3 e.2.2))
       go_wp2
       go_ret
       exact ⟨ret_b (a := false) (by rw [HE.out,HRI.out,HD.out,HS.out]),HBx.out⟩
     ·have HS := hid (rises_no (m := m) (x := ⟨xk,xv⟩) (r := l.drop (k + 1)) (fun e => h2 e.2.1))
      go_wp2
      go_ret
      exact ⟨ret_b (a := false) (by rw [HE.out,HRI.out,HD.out,HS.out]),HBx.out⟩
    ·have HS := hid (rises_no (m := m) (x := ⟨xk,xv⟩) (r := l.drop (k + 1)) (fun e => h1 e.1))
     go_wp2
     go_ret
     exact ⟨ret_b (a := false) (by rw [HE.out,HRI.out,HD.out,HS.out]),HBx.out⟩
   ·have HN : Hid (risesFrom 0 l = true) := by show _ = _; rw [HRI.out,List.drop_of_length_le (by rw [HL.out]; omega)]; rfl
    go_wp2
    go_ret
    exact ⟨ret_b (a := true) (by rw [HE.out,HN.out]),HB.out⟩
theorem may_mk (lsn : Int) (T : List (List Rw)) (h1 : 0 <= lsn) (h2 : lsn <= 1099511627776) (h3 : 1 <= T.length) (h4 : T.length <= 8) : (Im.mk lsn T).may = T.all mayTab := by
 unfold Im.may
 dsimp only
 rw [decide_eq_true h1,decide_eq_true h2,decide_eq_true h3,decide_eq_true h4]
 rfl
theorem may_not (lsn : Int) (T : List (List Rw)) (h : ¬ (0 <= lsn /\ lsn <= 1099511627776 /\ 1 <= T.length /\ T.length <= 8)) : (Im.mk lsn T).may = false := by
 rw [Bool.eq_false_iff]
 intro h1
 have := may_of h1
 exact h ⟨this.lsn.1,this.lsn.2,this.tabs.1,this.tabs.2⟩
theorem all_end {α : Type} {l : List α} {p : α -> Bool} {n : Nat} (hl : l.length <= n) (h : (l.take n).all p = true) : l.all p = true := by rwa [List.take_of_length_le hl] at h
theorem all_no {α : Type} {l : List α} {p : α -> Bool} {k : Nat} {f : α} (hg : l[k]? = some f) (h : p f = false) : l.all p = false := by
 rw [Bool.eq_false_iff]
 intro h2
 rw [List.all_eq_true.1 h2 f (List.mem_of_getElem? hg)] at h
 cases h
theorem all_step {α : Type} {l : List α} {p : α -> Bool} {k : Nat} {f : α} (h : (l.take k).all p = true) (e : l.take (k + 1) = l.take k ++ [f]) (hf : p f = true) : (l.take (k + 1)).all p = true := by rw [e]; simp [h,hf]
def MyRel (w : World) (n : Nat) (T : List (List Rw)) (vi : Value) (wr : World) : Prop := ∃ k : Nat,vi = .int .i64 k /\ k <= n /\ (T.take k).all mayTab = true /\ Below w.heap.size w wr
theorem may_any (B : Nat) (lsn : Int) (A : Option Addr) (n c : Nat) (T : List (List Rw)) (w : World) (h : Tabs w B A n c T) (hB : B <= w.heap.size) :
 Calls Tryz.prog 176 #[.int .i64 lsn,.slice A n c] w fun e w' => e = .returned (.bool (Im.mk lsn T).may) /\ Below w.heap.size w w' := by
 have hle := h.le
 have HL := hid h.len
 have HR := hid h
 clear h
 by_cases h0 : lsn < 0
 ·have HE := hid (may_not lsn T (fun e => by omega))
  go_enter Tryz.func176,Tryz.ntmps176
  go_wp2
  go_ret
  exact ⟨ret_b (a := false) HE.out.symm,Below.refl _ _⟩
 by_cases h1 : 1099511627776 < lsn
 ·have HE := hid (may_not lsn T (fun e => by omega))
  go_enter Tryz.func176,Tryz.ntmps176
  go_wp2
  go_ret
  exact ⟨ret_b (a := false) HE.out.symm,Below.refl _ _⟩
 by_cases h2 : n < 1
 ·have HE := hid (may_not lsn T (fun e => by have := HL.out; omega))
  go_enter Tryz.func176,Tryz.ntmps176
  go_wp2
  go_ret
  exact ⟨ret_b (a := false) HE.out.symm,Below.refl _ _⟩
 by_cases h3 : 8 < n
 ·have HE := hid (may_not lsn T (fun e => by have := HL.out; omega))
  go_enter Tryz.func176,Tryz.ntmps176
  go_wp2
  go_ret
  exact ⟨ret_b (a := false) HE.out.symm,Below.refl _ _⟩
 have HE := hid (may_mk lsn T (by omega) (by omega) (by have := HL.out; omega) (by have := HL.out; omega))
 go_enter Tryz.func176,Tryz.ntmps176
 go_wp2
 go_loopw [23,6] (fun vi _ wr => MyRel w n T vi wr) (fun vi _ _ => n - (RowKit.intOf vi).toNat)
 case atStart => exact ⟨0,rfl,Nat.zero_le _,rfl,Below.refl _ _⟩
 case round =>
  obtain ⟨k,rfl,hk,hall,hbel⟩ := hrel
  have HA := hid hall
  have HB := hid hbel
  clear hall hbel
  by_cases hlt : k < n
  ·obtain ⟨b,off,A',n',c',l,rfl,hb,c0,hrs,hget,htake⟩ := (HR.out.below (HB.out.mono hB)).at_ hlt
   have HG := hid hget
   have HT := hid htake
   have HRS := hid hrs
   have l1 : (k : Int) < (n : Int) := by omega
   clear hget htake hrs
   go_wp2_with fail
   refine (mayTable_any B A' n' c' l wr HRS.out (Nat.le_trans hB HB.out.size)).mono ?_
   rintro e w1 ⟨rfl,hb1⟩
   have HB1 := hid (held_two HB.out hb1)
   clear hb1
   cases hm : mayTab l with
   | true =>
     have HM := hid (all_step HA.out HT.out hm)
     go_wp2
     go_roundw
     case rel => exact ⟨k + 1,by go_num,by omega,HM.out,HB1.out⟩
     case measure => simp [RowKit.intOf]; omega
   | false =>
     have HM := hid (all_no HG.out hm)
     go_wp2
     go_ret
     exact ⟨ret_b (a := false) (by rw [HE.out,HM.out]),HB1.out⟩
  ·have HM := hid (all_end (l := T) (n := k) (by rw [HL.out]; omega) HA.out)
   go_wp2
   go_ret
   exact ⟨ret_b (a := true) (by rw [HE.out,HM.out]),HB.out⟩
end Img
end Go.Proofs.YtefnmnpfecfdaaaGreat
