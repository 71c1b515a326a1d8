/-
  Texts of one proof: SrcSave, SrcFind.
-/
import Derived.Test.YtefnmnpfecfdaaaGreatPk40
set_option linter.all false
set_option maxRecDepth 100000
set_option maxHeartbeats 6400000
open Go.Lib (hid)
namespace Go.Proofs.YtefnmnpfecfdaaaGreat
namespace Src
open Go.RowKit Base
open Foot (Turn Out)
open DiskMath (Fl Dk)
open WalMath (Lg Sg Cap)
open SrcMath (Sc other lay)
open ImgMath (Im imgB)
open IdxMath (Rw)
open Wal (New Win)
open Disk (DiskAt I64)
open Img (EncI Tabs)
open Idx (NewRows rv)
open Tbl (tab)
def SavK (w : World) (T : List (List Rw)) (tb n k : Nat) (wr : World) : Prop := ∃ arr : Array Value,Blk wr tb 53 arr /\ arr.size = n /\ (∀ (i : Nat) l,i < k -> T[i]? = some l -> ∃ A' n' c',arr[i]? = some (.slice A' n' c') /\ wr.ownsRow (tb + 1) 52 2 (.slice A' n' c') n' (rv l)) /\ Below w.heap.size w wr
theorem erw : Elem Tryz.prog 48 53 1 24 (.slice none 0 0) := .of (by rfl) (by rfl) rfl (by omega)
theorem SavK.start {w w1 : World} {T : List (List Rw)} {n : Nat} (ho : w1.ownsRow w.heap.size 53 1 (.slice (some ⟨w.heap.size,0,none⟩) n n) n (List.replicate n (.slice none 0 0))) (hb : Below w.heap.size w w1) (hn : 1 <= n) : SavK w T w.heap.size n 0 w1 := by
 rcases ho.2 with ⟨hv,h0⟩ | ⟨b,cap,cur,hv,hbase,hg,h1,h2,h3,h4⟩
 ·omega
 ·simp only [Value.slice.injEq,Option.some.injEq,Addr.mk.injEq] at hv
  obtain ⟨⟨rfl,_⟩,_,rfl⟩ := hv
  exact ⟨cur,hg,by omega,fun i l hi _ => absurd hi (by omega),hb⟩
theorem SavK.tabs {w wr : World} {T : List (List Rw)} {tb n : Nat} (h : SavK w T tb n n wr) (hn : T.length = n) (h8 : n <= 8) : Tabs wr wr.heap.size (some ⟨tb,0,none⟩) n n T := by
 obtain ⟨arr,hb,hs,hr,_⟩ := h
 refine ⟨arr.toList,⟨by rw [Array.length_toList,hs,Nat.mul_one],Nat.le_refl _,by omega,fun _ => ⟨tb,0,rfl,hb.lt,fun i u hu => ?_⟩⟩,by rw [Array.length_toList,hs,hn],fun i v l hv hl => ?_⟩
 ·rw [hb.cell,Nat.zero_add,<- Array.getElem?_toList]
  exact hu
 ·have hi : i < n := by
   have := (List.getElem?_eq_some_iff.1 hl).1
   omega
  obtain ⟨A',n',c',e,ho⟩ := hr i l hi hl
  rw [Array.getElem?_toList,e] at hv
  injection hv with hv
  exact ⟨A',n',c',hv.symm,Idx.Rs.of_own ho⟩
theorem SavK.step {w wr w2 : World} {T : List (List Rw)} {tb n k : Nat} {l : List Rw} {A : Option Addr} {m c : Nat} (h : SavK w T tb n k wr) (hk : k < n) (hl : T[k]? = some l) (hw : w.heap.size <= tb) (ho : w2.ownsRow wr.heap.size 52 2 (.slice A m c) m (rv l)) (hb2 : Below wr.heap.size wr w2) :
 SavK w T tb n (k + 1) (w2.setCell ⟨tb,k,none⟩ (.slice A m c)) := by
 obtain ⟨arr,hb,hs,hr,hbel⟩ := h
 have hbl := hb.lt
 have hg : w2.grownBy (w2.setCell ⟨tb,k,none⟩ (.slice A m c)) (some tb) := only_setCell (p := ⟨tb,k,none⟩) (World.grownBy.refl w2 (some tb)) (.inl rfl) _
 have hb3 := hb.below hb2 hbl
 refine ⟨arr.setIfInBounds k (.slice A m c),hb3.set_ k _,by rw [Array.size_setIfInBounds,hs],fun i l2 hi hl2 => ?_,(hbel.trans (hb2.mono hbel.size)).setCell (by exact hw) _⟩
 by_cases hik : i = k
 ·subst hik
  rw [hl] at hl2
  injection hl2 with hl2
  subst hl2
  exact ⟨A,m,c,by rw [Array.getElem?_setIfInBounds_self_of_lt (by omega)],Img.own_off (own_mono ho (by omega)) (by omega) hg⟩
 ·obtain ⟨A',n',c',e,ho'⟩ := hr i l2 (by omega) hl2
  exact ⟨A',n',c',by rw [Array.getElem?_setIfInBounds_ne (by omega)]; exact e,Img.own_off (own_keep ho' hb2) (by omega) hg⟩
theorem lay_on {d : Dk} {f : Int} {b : List UInt8} (h : (lay d f b).1 = 0) : (lay d f b).2.off = false := by
 unfold lay at h ⊢
 split
 ·next h1 =>
  rw [if_pos h1] at h
  unfold DiskMath.sync at h ⊢
  split
  ·next h2 =>
   rw [if_pos h2] at h
   unfold DiskMath.oper at h ⊢
   split
   ·next h3 => rw [if_pos h3] at h; cases h
   ·next h3 => exact decide_eq_false h3
  ·next h2 =>
   rw [if_neg h2] at h
   exact absurd h h2
 ·next h1 =>
  rw [if_neg h1] at h
  exact absurd h h1
theorem encI_ok {w w' : World} {x : Im} {e : Ending} (h : EncI w x e w') (hm : x.may = true) : ∃ A n c,e = .returned (.tuple #[.slice A n c,.int .i64 0]) /\ w'.ownsRow w.heap.size 5 1 (.slice A n c) n (bv (imgB x)) /\ Below w.heap.size w w' := by
 obtain ⟨A,n,c,he,ho,hb⟩ := h
 have : ImgMath.encI x = .ok (imgB x) := by unfold ImgMath.encI; rw [if_pos hm]
 rw [this] at he ho
 exact ⟨A,n,c,he,ho,hb⟩
theorem save_any (T : Nat -> Prop) (s p g gd : Nat) (S : Sc) (d : Dk) (k M : Nat) (w : World) (h : SrcAt T w s p g gd S d) (hT : New T w) (ho : LOk S.l) (hc : Cap k M d) (hk : k <= 1000000) (hM : M <= 35184372088832) (hmay : (Im.mk (WalMath.hd S.l.segs) S.T).may = true) :
 Calls Tryz.prog 44 #[.pointer (some ⟨s,0,none⟩)] w (Wrote T w s p g gd S d (WalMath.hd S.l.segs) (imgB ⟨WalMath.hd S.l.segs,S.T⟩)) := by
 have HS := hid h
 have HT := hid hT
 have HC := hid hc
 have HMAY := hid hmay
 have hit := SrcMath.imTabs_of hmay
 have HIT := hid hit
 obtain ⟨hn1,hn8⟩ : 1 <= S.T.length /\ S.T.length <= 8 := by
  have h2 := hmay
  unfold Im.may at h2
  simp only [Bool.and_eq_true,decide_eq_true_eq] at h2
  omega
 have hsl := h.lt
 have HCL := hid (fun wx (hx : Below w.heap.size w wx) => (h.new hx).cells)
 have HHD := hid (fun wx (hx : Below w.heap.size w wx) => head_any T s p g gd S d wx (h.new hx) ho)
 obtain ⟨K,hset,_⟩ := h.set
 have HTA := hid (Tbl.tables_any K p S.T w hset)
 have HRO := hid (fun wx (hx : Below w.heap.size w wx) (t : Int) => Tbl.rows_any K p S.T t wx (hset.new hx) (Nat.le_trans (SrcMath.most_tabs hit.few t) (by omega)))
 have c0 := h.cells.1
 have HLEN : Hid (S.T.length = S.T.length) := rfl
 generalize hN : S.T.length = n at *
 have HN := hid hN
 generalize hhh : WalMath.hd S.l.segs = hd at *
 clear h hT ho hc hmay hit hset hN HLEN
 go_enter Tryz.func44,Tryz.ntmps44
 go_wp2_with fail
 refine HTA.out.mono ?_
 rintro e w1 ⟨rfl,rfl⟩
 clear HTA
 go_wp2_with (first
  | (refine wpList_make_elem _ rfl (.tmp 11) (.tmp 11) rfl erw w.heap.size .i64 .i64 _ _ n rfl rfl rfl rfl (by omega) (by omega) (Nat.le_refl _) ?_
     intro w1 ho1 hb1
     replace ho1 : w1.ownsRow w.heap.size 53 1 (.slice (some ⟨w.heap.size,0,none⟩) n n) n (madeCells #[.slice none 0 0] (n * 1)).toList := ho1
     rw [Nat.mul_one,toList_madeCells_one] at ho1
     have HP : Hid (SavK w S.T w.heap.size n 0 w1) := SavK.start ho1 hb1 hn1
     clear ho1 hb1)
  | fail)
 go_loopw [15] (fun vi wr => ∃ k : Nat,vi = .int .i64 k /\ k <= n /\ SavK w S.T w.heap.size n k wr) (fun vi _ => n - (RowKit.intOf vi).toNat)
 case atStart => exact ⟨0,rfl,Nat.zero_le _,HP.out⟩
 case round =>
  clear HP c0
  obtain ⟨i,rfl,hi,hsv⟩ := hrel
  have HV := hid hsv
  obtain ⟨arr,hblk,hsz,_,hbel⟩ := hsv
  have HB := hid hbel
  by_cases hin : i < n
  ·have c0 := (HCL.out _ hbel).1
   obtain ⟨li,hget⟩ : ∃ li,S.T[i]? = some li := ⟨_,List.getElem?_eq_getElem (by rw [HN.out]; exact hin)⟩
   have htab : tab S.T (i : Int) = li := Tbl.tab_get (by rw [HN.out]; exact hin) hget
   have HRI := hid (HRO.out wr hbel (i : Int))
   rw [htab] at HRI
   have HG := hid hget
   have hlt : w.heap.size < wr.heap.size := hblk.lt
   have hfz := hblk.frozen i
   have HA := hid hblk
   clear hblk hbel hget htab
   go_wp2_with fail
   refine HRI.out.mono ?_
   rintro e w2 ⟨A2,c2,rfl,ho2,hb2⟩
   have HV2 := hid (HV.out.step hin HG.out (Nat.le_refl _) ho2 hb2)
   have hblk2 := HA.out.below hb2 HA.out.lt
   have hfz2 := hblk2.frozen i
   obtain ⟨uu,huu⟩ : ∃ uu,arr[i]? = some uu := ⟨_,Array.getElem?_eq_getElem (by omega)⟩
   have hcz2 : w2.cell? ⟨w.heap.size,i,none⟩ = some uu := (hblk2.cell i).trans huu
   clear ho2 hb2 hfz hblk2 c0 HRI huu hsz
   go_wp2
   go_roundw
   case rel => exact ⟨i + 1,by go_num,by omega,HV2.out⟩
   case measure => simp [RowKit.intOf]; omega
  ·obtain rfl : i = n := by omega
   clear hblk hsz hbel
   have HTB := hid (HV.out.tabs HN.out hn8)
   go_wp2_with fail
   refine (HHD.out _ HB.out).mono ?_
   rintro e w2 ⟨rfl,hb2⟩
   have HB2 := hid (held_two HB.out hb2)
   have HTB2 := hid (HTB.out.below hb2)
   have hz2 := hb2.size
   clear hb2
   go_wp2_with fail
   refine (Img.encode_any _ hd _ _ _ S.T w2 HTB2.out hz2).mono ?_
   intro e w3 hen
   obtain ⟨Ab,nb,cb,rfl,hob,hb3⟩ := encI_ok hen HMAY.out
   have HB3 := hid (held_two HB2.out hb3)
   have hnb : nb <= 1048584 := by
    have h1 := (Bytes.of_own hob).len
    have h2 := SrcMath.imgB_len HMAY.out
    omega
   have HYB := hid (own_mono hob HB2.out.size)
   have hsw := HS.out.win HB3.out
   have HSW := hid hsw
   have HNW := hid (new_win HT.out HB3.out.size)
   have HWR : Hid (∀ wx,Below w3.heap.size w3 wx -> Calls Tryz.prog 107 #[.pointer (some ⟨s,3,none⟩),.int .i64 hd,.slice Ab nb cb] wx (Wrote (Win T w.heap.size w3.heap.size) wx s p g gd S d hd (imgB ⟨hd,S.T⟩))) := fun wx hx =>
    write_any (Win T w.heap.size w3.heap.size) s p g gd S d hd k M Ab nb cb _ wx (HSW.out.new hx) (HNW.out.le hx.size) HC.out hk hM (Bytes.of_own (own_keep HYB.out hx)) (fun hn0 b off e hw => by
     have h3 := HYB.out.lt b (by rw [e]; rfl)
     have h5 : b < w.heap.size \/ w3.heap.size <= b := hw.2
     have h7 := h3.1
     have h8 := h3.2
     omega) (by omega)
   generalize imgB ⟨hd,S.T⟩ = ib at *
   clear hen hob hb3 hsw HTB HTB2
   go_upto_region 10 with fail
   go_region_with (first
    | (go_at_call 17; refine (HHD.out _ (by first | exact HB3.out | exact below_drewN HB3.out _)).mono ?_; rintro e w4 ⟨rfl,hb4⟩; have HB4 : Hid (Below w3.heap.size w3 w4) := (by first | exact hb4 | exact held_two ((Below.refl w3.heap.size w3).drew) hb4 | exact held_two (below_drewN (Below.refl w3.heap.size w3) _) hb4); clear hb4)
    | (go_at_call 107; refine (HWR.out _ HB4.out).mono ?_; rintro e w5 ⟨rfl,h5,h6⟩; have H5 := hid (And.intro h5 h6); clear h5 h6)
    | fail)
   all_goals (
    go_wp2
    go_ret
    exact ⟨rfl,H5.out.1.mono fun i hi => hi.1,(Turn.new (held_two HB3.out HB4.out)).trans H5.out.2 fun i hi => .inl hi.1⟩)
def Trimmed (T : Nat -> Prop) (w : World) (s p g gd : Nat) (r : Int × Sc × Dk) (e : Ending) (w' : World) : Prop := e = .returned (.int .i64 r.1) /\ SrcAt T w' s p g gd r.2.1 r.2.2 /\ Turn T w w'
theorem logtrim (T : Nat -> Prop) (s p g gd : Nat) (S : Sc) (d : Dk) (lsn : Int) (k M : Nat) (w : World) (h : SrcAt T w s p g gd S d) (hT : New T w) (ho : LOk S.l) (hc : Cap k M d) (hk : k <= 1000000) (hoff : d.off = false) :
 Calls Tryz.prog 45 #[.pointer (some ⟨g,0,none⟩),.int .i64 lsn] w (Trimmed T w s p g gd (SrcMath.trims S d lsn)) := by
 obtain ⟨L,hbo,hnl,_,_,hback⟩ := h.logs hT
 refine (Wal.trim_on L g gd S.l d k M lsn w hbo hnl ho.ok.2.2.2.2 ho.len hc hk hoff).mono ?_
 rintro e w' ⟨h1,h2,h3⟩
 exact ⟨h1,hback.out _ _ _ h2 h3⟩
theorem trim_any (T : Nat -> Prop) (s p g gd : Nat) (S : Sc) (d : Dk) (lsn : Int) (k M : Nat) (w : World) (h : SrcAt T w s p g gd S d) (hT : New T w) (ho : LOk S.l) (hc : Cap k M d) (hk : k <= 100000) (hM : M <= 17592186044416) (hmay : (Im.mk (WalMath.hd S.l.segs) S.T).may = true) :
 Calls Tryz.prog 15 #[.pointer (some ⟨s,0,none⟩),.int .i64 lsn] w (Trimmed T w s p g gd (SrcMath.trim S d lsn)) := by
 have HS := hid h
 have HT := hid hT
 have HO := hid ho
 have hsl := h.lt
 have HCL := hid (fun wx (hx : Below w.heap.size w wx) => (h.new hx).cells)
 have HHD := hid (fun wx (hx : Below w.heap.size w wx) => head_any T s p g gd S d wx (h.new hx) ho)
 have HIM := hid (fun wx (hx : Below w.heap.size w wx) => image_any T s p g gd S d wx (h.new hx))
 have HSV := hid (fun wx (hx : Below w.heap.size w wx) => save_any T s p g gd S d k M wx (h.new hx) (hT.le hx.size) ho hc (by omega) (by omega) hmay)
 have HLT := hid (fun (hoff : d.off = false) wx (hx : Below w.heap.size w wx) => logtrim T s p g gd S d lsn k M wx (h.new hx) (hT.le hx.size) ho hc (by omega) hoff)
 have hcl := SrcMath.cap_lay hc (other S.file) (imgB ⟨WalMath.hd S.l.segs,S.T⟩)
 have HCL2 := hid hcl
 obtain ⟨F,hd0,_⟩ := h.dsk
 have HDN := hid (fun wx (hx : Below w.heap.size w wx) => Disk.down_any F gd d wx (hd0.new hx))
 have hbb := Wal.hd_bd ho.ok.2.2.2.2
 have HE : Hid (SrcMath.trim S d lsn = if lsn < 0 \/ WalMath.hd S.l.segs < lsn then (1,S,d) else if d.off then (8,S,d) else if lsn <= S.lsn then SrcMath.trims S d lsn
  else if (lay d (other S.file) (imgB ⟨WalMath.hd S.l.segs,S.T⟩)).1 = 0 then SrcMath.trims { S with file := other S.file,lsn := WalMath.hd S.l.segs } (lay d (other S.file) (imgB ⟨WalMath.hd S.l.segs,S.T⟩)).2 lsn
  else ((lay d (other S.file) (imgB ⟨WalMath.hd S.l.segs,S.T⟩)).1,S,(lay d (other S.file) (imgB ⟨WalMath.hd S.l.segs,S.T⟩)).2)) := rfl
 rw [HE.out]
 clear HE h hT ho hc hmay hd0 hcl
 generalize hhh : WalMath.hd S.l.segs = hd at *
 have HHH := hid hhh
 clear hhh
 by_cases hneg : lsn < 0
 ·rw [if_pos (.inl hneg)]
  go_enter Tryz.func15,Tryz.ntmps15
  go_wp2
  go_ret
  exact ⟨rfl,HS.out,Turn.refl _ _⟩
 by_cases hgt : hd < lsn
 ·rw [if_pos (.inr hgt)]
  go_enter Tryz.func15,Tryz.ntmps15
  go_wp2_with fail
  refine (HHD.out _ (Below.refl _ _)).mono ?_
  rintro e w1 ⟨rfl,hb⟩
  have HB := hid hb
  clear hb
  go_wp2
  go_ret
  exact ⟨rfl,HS.out.new HB.out,Turn.new HB.out⟩
 rw [if_neg (by omega)]
 cases hoff : d.off with
 | true =>
   rw [if_pos rfl]
   rw [hoff] at HDN
   clear hoff HLT
   go_enter Tryz.func15,Tryz.ntmps15
   go_wp2_with fail
   refine (HHD.out _ (Below.refl _ _)).mono ?_
   rintro e w1 ⟨rfl,hb⟩
   have HB := hid hb
   have c1 := (HCL.out _ hb).2.1
   clear hb
   go_wp2_with fail
   refine (HDN.out _ HB.out).mono ?_
   rintro e w2 ⟨rfl,rfl⟩
   go_wp2
   go_ret
   exact ⟨rfl,HS.out.new HB.out,Turn.new HB.out⟩
 | false =>
   rw [if_neg (by simp)]
   rw [hoff] at HDN
   have HLT2 := hid (HLT.out hoff)
   clear hoff HLT
   by_cases hle : lsn <= S.lsn
   ·rw [if_pos hle]
    have hd1 : decide (S.lsn < lsn) = false := decide_eq_false (by omega)
    generalize SrcMath.trims S d lsn = r at *
    generalize S.lsn = sl at *
    go_enter Tryz.func15,Tryz.ntmps15
    go_wp2_with fail
    refine (HHD.out _ (Below.refl _ _)).mono ?_
    rintro e w1 ⟨rfl,hb⟩
    have HB := hid hb
    have c1 := (HCL.out _ hb).2.1
    have c2 := (HCL.out _ hb).2.2.1
    clear hb
    go_wp2_with fail
    refine (HDN.out _ HB.out).mono ?_
    rintro e w2 ⟨rfl,rfl⟩
    go_wp2_with fail
    refine (HIM.out _ HB.out).mono ?_
    rintro e w2 ⟨rfl,rfl⟩
    go_wp2_with fail
    refine (HLT2.out _ HB.out).mono ?_
    rintro e w3 ⟨rfl,h1,h2⟩
    have H1 := hid (And.intro h1 h2)
    clear h1 h2
    go_wp2
    go_ret
    exact ⟨rfl,H1.out.1,(Turn.new HB.out).trans H1.out.2 fun i hi => .inl hi⟩
   ·rw [if_neg hle]
    have hd1 : decide (S.lsn < lsn) = true := decide_eq_true (by omega)
    by_cases hl0 : (lay d (other S.file) (imgB ⟨hd,S.T⟩)).1 = 0
    ·rw [if_pos hl0]
     have HON := hid (lay_on hl0)
     have HL0 := hid hl0
     have HWS : Hid (wrote S d hd (imgB ⟨hd,S.T⟩) = { S with file := other S.file,lsn := hd }) := by show _ = _; unfold wrote; rw [if_pos hl0]
     have HLG := hid (fun wx (h1 : SrcAt T wx s p g gd { S with file := other S.file,lsn := hd } (lay d (other S.file) (imgB ⟨hd,S.T⟩)).2) (h2 : w.heap.size <= wx.heap.size) => logtrim T s p g gd _ _ lsn (k + 3) _ wx h1 (HT.out.le h2) HO.out HCL2.out (by omega) HON.out)
     generalize SrcMath.trims { S with file := other S.file,lsn := hd } (lay d (other S.file) (imgB ⟨hd,S.T⟩)).2 lsn = r at *
     have HZ := hid hl0
     clear hl0 HLT2
     go_enter Tryz.func15,Tryz.ntmps15
     go_wp2_with fail
     refine (HHD.out _ (Below.refl _ _)).mono ?_
     rintro e w1 ⟨rfl,hb⟩
     have HB := hid hb
     have c1 := (HCL.out _ hb).2.1
     clear hb
     go_wp2_with fail
     refine (HDN.out _ HB.out).mono ?_
     rintro e w2 ⟨rfl,rfl⟩
     go_wp2_with fail
     refine (HIM.out _ HB.out).mono ?_
     rintro e w2 ⟨rfl,rfl⟩
     clear c1
     go_wp2_with fail
     refine (HSV.out _ HB.out).mono ?_
     rintro e w3 ⟨rfl,h1,h2⟩
     rw [HWS.out] at h1
     rw [HZ.out]
     have H1 := hid (And.intro h1 h2)
     have c2 := h1.cells.2.2.1
     have HLG2 := hid (HLG.out w3 h1 (Nat.le_trans HB.out.size h2.size))
     clear h1 h2
     go_wp2_with fail
     refine HLG2.out.mono ?_
     rintro e w4 ⟨rfl,h1,h2⟩
     have H2 := hid (And.intro h1 h2)
     clear h1 h2
     go_wp2
     go_ret
     exact ⟨rfl,H2.out.1,((Turn.new HB.out).trans H1.out.2 fun i hi => .inl hi).trans H2.out.2 fun i hi => .inl hi⟩
    ·rw [if_neg hl0]
     have HWS : Hid (wrote S d hd (imgB ⟨hd,S.T⟩) = S) := by show _ = _; unfold wrote; rw [if_neg hl0]
     have hne : ((lay d (other S.file) (imgB ⟨hd,S.T⟩)).1 != 0) = true := by simpa using hl0
     unfold Wrote at HSV
     generalize lay d (other S.file) (imgB ⟨hd,S.T⟩) = r at *
     clear hl0 HLT2
     go_enter Tryz.func15,Tryz.ntmps15
     go_wp2_with fail
     refine (HHD.out _ (Below.refl _ _)).mono ?_
     rintro e w1 ⟨rfl,hb⟩
     have HB := hid hb
     have c1 := (HCL.out _ hb).2.1
     clear hb
     go_wp2_with fail
     refine (HDN.out _ HB.out).mono ?_
     rintro e w2 ⟨rfl,rfl⟩
     go_wp2_with fail
     refine (HIM.out _ HB.out).mono ?_
     rintro e w2 ⟨rfl,rfl⟩
     clear c1
     go_wp2_with fail
     refine (HSV.out _ HB.out).mono ?_
     rintro e w3 ⟨rfl,h1,h2⟩
     rw [HWS.out] at h1
     have H1 := hid (And.intro h1 h2)
     clear h1 h2
     go_wp2
     go_ret
     exact ⟨rfl,H1.out.1,(Turn.new HB.out).trans H1.out.2 fun i hi => .inl hi⟩
end Src
namespace Src
open Go.RowKit Base
open Foot (Turn Out)
open DiskMath (Fl Dk)
open WalMath (Lg Sg Cap)
open SrcMath (Sc imgAt newest fileOf lsnOf other)
open ImgMath (Im decI)
open IdxMath (Rw)
open Disk (DiskAt I64)
open Img (OwnTabs)
def nw (n : Nat) (d : Dk) : Nat -> Option (Int × Im)
 | 0 => none
 | 1 => (imgAt n d 0).map fun i => (0,i)
 | _ => newest n d
theorem nw_step (n : Nat) (d : Dk) {k : Nat} (hk : k < 2) : nw n d (k + 1) = match imgAt n d (k : Int) with
 | none => nw n d k
 | some i => if nw n d k = none \/ lsnOf (nw n d k) < i.lsn then some ((k : Int),i) else nw n d k := by
 obtain rfl | rfl : k = 0 \/ k = 1 := by omega
 ·show (imgAt n d 0).map (fun i => ((0 : Int),i)) = match imgAt n d 0 with | none => none | some i => if (none : Option (Int × Im)) = none \/ _ then some ((0 : Int),i) else none
  cases imgAt n d 0 with
  | none => rfl
  | some i => simp
 ·show newest n d = match imgAt n d 1 with | none => (imgAt n d 0).map (fun i => ((0 : Int),i)) | some i => if (imgAt n d 0).map (fun i => ((0 : Int),i)) = none \/ lsnOf ((imgAt n d 0).map fun i => ((0 : Int),i)) < i.lsn then some ((1 : Int),i) else (imgAt n d 0).map fun i => ((0 : Int),i)
  unfold newest
  cases h0 : imgAt n d 0 with
  | none =>
    cases h1 : imgAt n d 1 with
    | none => rfl
    | some b => simp
  | some a =>
    cases h1 : imgAt n d 1 with
    | none => rfl
    | some b => simp [lsnOf]
def NewV (base : Nat) (w : World) (v : Value) : Option (Int × Im) -> Prop
 | none => v = .slice none 0 0
 | some (f,i) => ∃ a n c,v = .slice (some a) n c /\ OwnTabs w base (some a) n c i.tabs
def FindAt (T : Nat -> Prop) (w : World) (s p g gd : Nat) (l : Lg) (T0 : List (List Rw)) (d : Dk) (im : Option (Int × Im)) (v : Value) (w' : World) : Prop := NewV w.heap.size w' v im /\ SrcAt T w' s p g gd ⟨l,T0,fileOf im,lsnOf im⟩ d /\ w.grownBy w' (some s)
theorem own_some {w : World} {base n c : Nat} {A : Option Addr} {T : List (List Rw)} (h : OwnTabs w base A n c T) (hn : 0 < n) : ∃ a,A = some a := by
 cases A with
 | some a => exact ⟨a,rfl⟩
 | none =>
   exfalso
   obtain ⟨b,off,e,_⟩ := h.tabs.choose_spec.1.2.2.2 hn
   cases e
theorem NewV.keep {base : Nat} {w w' : World} {v : Value} {im : Option (Int × Im)} (h : NewV base w v im) (hb : Below w.heap.size w w') : NewV base w' v im := by
 cases im with
 | none => exact h
 | some x =>
   obtain ⟨a,n,c,e,ho⟩ := h
   exact ⟨a,n,c,e,ho.keep hb⟩
theorem file64 {n : Nat} {d : Dk} (k : Nat) (hk : k < 2) : I64 (k : Int) := ⟨by omega,by omega⟩
theorem find_any (T : Nat -> Prop) (s p g gd : Nat) (l : Lg) (T0 : List (List Rw)) (d : Dk) (n k M : Nat) (w : World) (h : SrcAt T w s p g gd ⟨l,T0,-1,0⟩ d) (hc : Cap k M d) (hM : M <= 140737488355328) (hn : 1 <= n) :
 Calls Tryz.prog 97 #[.pointer (some ⟨s,3,none⟩),.int .i64 n] w fun e w' => ∃ v,e = .returned v /\ FindAt T w s p g gd l T0 d (newest n d) v w' := by
 have hsl := h.lt
 have HS := hid h
 have HC := hid hc
 clear h hc
 go_enter Tryz.func97,Tryz.ntmps97
 go_wp2_with fail
 refine (other_any 0 w).mono ?_
 rintro e w1 ⟨rfl,rfl⟩
 have HO1 := hid (show other 0 = 1 from rfl)
 rw [HO1.out]
 have hq : Blk (w.alloc (.cells #[.int .i64 0,.int .i64 1] 3)) w.heap.size 3 #[.int .i64 0,.int .i64 1] := Blk.new _ _ _
 have HQ := hid hq
 have hg1 : w.grownBy (w.alloc (.cells #[.int .i64 0,.int .i64 1] 3)) (some s) := only_alloc (World.grownBy.refl _ _) _
 have HG1 := hid hg1
 have HS1 := hid (HS.out.new ((Below.refl w.heap.size w).alloc (Nat.le_refl _) (.cells #[.int .i64 0,.int .i64 1] 3)))
 clear hq hg1
 go_wp2
 go_loopw [5,14] (fun v5 v14 wr => ∃ k : Nat,v14 = .int .i64 k /\ k <= 2 /\ FindAt T w s p g gd l T0 d (nw n d k) v5 wr /\ Blk wr w.heap.size 3 #[.int .i64 0,.int .i64 1]) (fun _ v14 _ => 2 - (RowKit.intOf v14).toNat)
 case atStart => exact ⟨0,rfl,by omega,⟨rfl,HS1.out,HG1.out⟩,HQ.out⟩
 case round =>
  obtain ⟨k,rfl,hk,hfa,hblk⟩ := hrel
  have HF := hid hfa
  have HB := hid hblk
  have hsr : s < wr.heap.size := hfa.2.1.lt
  have hneq : w.heap.size ≠ s := by omega
  have hql := hblk.lt
  by_cases hlt : k < 2
  ·have hcell : wr.cell? ⟨w.heap.size,k,none⟩ = some (.int .i64 k) := by
    rw [hblk.cell]
    obtain rfl | rfl : k = 0 \/ k = 1 := by omega
    ·rfl
    ·rfl
   have HST := hid (nw_step n d hlt)
   have HGO := hid (good_any T s p g gd _ d (k : Int) n _ M wr hfa.2.1 (file64 (n := n) (d := d) k hlt) HC.out hM)
   clear hfa hblk
   generalize hga : imgAt n d (k : Int) = ga at *
   have HGA := hid hga
   clear hga
   cases ga with
   | none =>
     have HST2 : Hid (nw n d (k + 1) = nw n d k) := HST.out
     go_wp2_with fail
     refine HGO.out.mono ?_
     rintro e w2 ⟨rfl,hb2⟩
     have HF2 : Hid (FindAt T w s p g gd l T0 d (nw n d k) u5 w2) := ⟨HF.out.1.keep hb2,HF.out.2.1.new hb2,only_trans HF.out.2.2 (only_of_below hb2 (some s)) (.inl rfl)⟩
     have HB2 := hid (HB.out.below hb2 hql)
     clear hb2 HGO HST
     go_wp2
     go_roundw
     case rel => exact ⟨k + 1,by go_num,by omega,by rw [HST2.out]; exact HF2.out,HB2.out⟩
     case measure => simp [RowKit.intOf]; omega
   | some i =>
     have hil := SrcMath.imgAt_lsn HGA.out
     have hit := SrcMath.imgAt_tabs HGA.out
     have HIT := hid hit
     clear hit
     generalize hnk : nw n d k = nk at *
     have CO := hid (fun wx => other_any (k : Int) wx)
     have HNX : Hid (other (k : Int) = other (fileOf (some ((k : Int),i)))) := rfl
     have c4 := HF.out.2.1.cells.2.2.2.2.1
     dsimp only at c4
     have HD : Hid (∀ (wx : World) (a : Addr) (n2 c2 : Nat),FindAt T w s p g gd l T0 d nk u5 wx -> OwnTabs wx w.heap.size (some a) n2 c2 i.tabs -> FindAt T w s p g gd l T0 d (some ((k : Int),i)) (.slice (some a) n2 c2) ((wx.setCell ⟨s,4,none⟩ (.int .i64 i.lsn)).setCell ⟨s,5,none⟩ (.int .i64 (other (k : Int))))) := fun wx a n2 c2 hf ho => by
      have hg2 : wx.grownBy ((wx.setCell ⟨s,4,none⟩ (.int .i64 i.lsn)).setCell ⟨s,5,none⟩ (.int .i64 (other (k : Int)))) (some s) := only_setCell (p := ⟨s,5,none⟩) (only_setCell (p := ⟨s,4,none⟩) (World.grownBy.refl wx (some s)) (.inl rfl) _) (.inl rfl) _
      refine ⟨⟨a,n2,c2,rfl,ho.off hsl hg2⟩,hf.2.1.boxes rfl rfl (fun j hj hjs => hg2.block j hj fun e => hjs (Option.some.inj e)) hg2.size ?_,only_trans hf.2.2 hg2 (.inl rfl)⟩
      exact (hf.2.1.box.set_ 4 (.int .i64 i.lsn)).set_ 5 (.int .i64 (other (k : Int)))
     cases nk with
     | none =>
       have HST2 : Hid (nw n d (k + 1) = some ((k : Int),i)) := by have := HST.out; simp at this; exact this
       have hv5 : u5 = .slice none 0 0 := HF.out.1
       subst hv5
       clear c4
       have hnil : ∀ w,(binOp .eql 48 (.slice none 0 0) (.slice none 0 0)).run Tryz.prog w = .ok (.bool true) w := fun w => Lib.run_eql_slice_nil (P := Tryz.prog) w 48 53 none 0 0 0 0 Tryz.underlying48
       go_wp2_with fail
       refine HGO.out.mono ?_
       rintro e w2 ⟨A2,n2,c2,rfl,ho2,hb2⟩
       obtain ⟨a2,rfl⟩ := own_some ho2 (by rw [<- ho2.len,HIT.out.2]; exact hn)
       have HOW := hid (ho2.mono HF.out.2.2.size)
       have HF2 : Hid (FindAt T w s p g gd l T0 d none (.slice none 0 0) w2) := ⟨rfl,HF.out.2.1.new hb2,only_trans HF.out.2.2 (only_of_below hb2 (some s)) (.inl rfl)⟩
       have HB2 := hid (HB.out.below hb2 hql)
       have f4 := HF2.out.2.1.box.frozen 4
       have f5 := HF2.out.2.1.box.frozen 5
       have d4 := HF2.out.2.1.cells.2.2.2.2.1
       have d5 := HF2.out.2.1.cells.2.2.2.2.2
       dsimp only at d4 d5
       clear hb2 ho2 HGO HST
       go_wp2_with fail
       refine (CO.out _).mono ?_
       rintro e w3 ⟨rfl,rfl⟩
       go_wp2
       go_roundw
       case rel => exact ⟨k + 1,by go_num,by omega,by rw [HST2.out]; exact HD.out _ _ _ _ HF2.out HOW.out,HB2.out.grown (only_setCell (p := ⟨s,5,none⟩) (only_setCell (p := ⟨s,4,none⟩) (World.grownBy.refl w2 (some s)) (.inl rfl) _) (.inl rfl) _) (by simpa using hneq)⟩
       case measure => simp [RowKit.intOf]; omega
     | some x =>
       obtain ⟨xf,xi⟩ := x
       obtain ⟨a5,n5,c5,rfl,ho5⟩ := HF.out.1
       clear ho5
       have hnil : ∀ w,(binOp .eql 48 (.slice (some a5) n5 c5) (.slice none 0 0)).run Tryz.prog w = .ok (.bool false) w := fun w => Lib.run_eql_slice_nil (P := Tryz.prog) w 48 53 (some a5) n5 c5 0 0 Tryz.underlying48
       by_cases hlx : xi.lsn < i.lsn
       ·have HST2 : Hid (nw n d (k + 1) = some ((k : Int),i)) := by have := HST.out; simp [lsnOf,hlx] at this; exact this
        have hd1 : decide (xi.lsn < i.lsn) = true := decide_eq_true hlx
        go_wp2_with fail
        refine HGO.out.mono ?_
        rintro e w2 ⟨A2,n2,c2,rfl,ho2,hb2⟩
        obtain ⟨a2,rfl⟩ := own_some ho2 (by rw [<- ho2.len,HIT.out.2]; exact hn)
        have HOW := hid (ho2.mono HF.out.2.2.size)
        have HF2 : Hid (FindAt T w s p g gd l T0 d (some (xf,xi)) (.slice (some a5) n5 c5) w2) := ⟨HF.out.1.keep hb2,HF.out.2.1.new hb2,only_trans HF.out.2.2 (only_of_below hb2 (some s)) (.inl rfl)⟩
        have HB2 := hid (HB.out.below hb2 hql)
        have f4 := HF2.out.2.1.box.frozen 4
        have f5 := HF2.out.2.1.box.frozen 5
        have d4 : w2.cell? ⟨s,4,none⟩ = some (.int .i64 xi.lsn) := HF2.out.2.1.cells.2.2.2.2.1
        have d5 := HF2.out.2.1.cells.2.2.2.2.2
        dsimp only at d5
        clear hb2 ho2 HGO HST c4
        go_wp2_with fail
        refine (CO.out _).mono ?_
        rintro e w3 ⟨rfl,rfl⟩
        go_wp2
        go_roundw
        case rel => exact ⟨k + 1,by go_num,by omega,by rw [HST2.out]; exact HD.out _ _ _ _ HF2.out HOW.out,HB2.out.grown (only_setCell (p := ⟨s,5,none⟩) (only_setCell (p := ⟨s,4,none⟩) (World.grownBy.refl w2 (some s)) (.inl rfl) _) (.inl rfl) _) (by simpa using hneq)⟩
        case measure => simp [RowKit.intOf]; omega
       ·have HST2 : Hid (nw n d (k + 1) = some (xf,xi)) := by have := HST.out; simp [lsnOf,hlx] at this; exact this
        have hd1 : decide (xi.lsn < i.lsn) = false := decide_eq_false hlx
        go_wp2_with fail
        refine HGO.out.mono ?_
        rintro e w2 ⟨A2,n2,c2,rfl,ho2,hb2⟩
        have HF2 : Hid (FindAt T w s p g gd l T0 d (some (xf,xi)) (.slice (some a5) n5 c5) w2) := ⟨HF.out.1.keep hb2,HF.out.2.1.new hb2,only_trans HF.out.2.2 (only_of_below hb2 (some s)) (.inl rfl)⟩
        have HB2 := hid (HB.out.below hb2 hql)
        have d4 : w2.cell? ⟨s,4,none⟩ = some (.int .i64 xi.lsn) := HF2.out.2.1.cells.2.2.2.2.1
        clear hb2 ho2 HGO HST c4
        go_wp2
        go_roundw
        case rel => exact ⟨k + 1,by go_num,by omega,by rw [HST2.out]; exact HF2.out,HB2.out⟩
        case measure => simp [RowKit.intOf]; omega
  ·obtain rfl : k = 2 := by omega
   have HF2 : Hid (FindAt T w s p g gd l T0 d (newest n d) u5 wr) := HF.out
   go_wp2
   go_ret
   exact ⟨_,rfl,HF2.out⟩
end Src
end Go.Proofs.YtefnmnpfecfdaaaGreat
