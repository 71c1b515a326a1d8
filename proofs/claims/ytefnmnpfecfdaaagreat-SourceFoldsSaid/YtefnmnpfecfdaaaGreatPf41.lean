/-
  Texts of one proof: SrcFind, SrcLoad.
-/
import Derived.Test.YtefnmnpfecfdaaaGreatPf38
set_option linter.all false
set_option maxRecDepth 100000
set_option maxHeartbeats 12800000
open Go.Lib (hid)
namespace Go.Proofs.YtefnmnpfecfdaaaGreat
namespace Src
open Go.RowKit Base
open Foot (Turn Out)
open DiskMath (Fl Dk)
open WalMath (Lg Sg Cap)
open SrcMath (Sc imgAt newest fileOf lsnOf other)
open ImgMath (Im decI)
open IdxMath (Rw)
open Disk (DiskAt I64)
open Img (OwnTabs)
def nw (n : Nat) (d : Dk) : Nat -> Option (Int × Im)
 | 0 => none
 | 1 => (imgAt n d 0).map fun i => (0,i)
 | _ => newest n d
theorem nw_step (n : Nat) (d : Dk) {k : Nat} (hk : k < 2) : nw n d (k + 1) = match imgAt n d (k : Int) with
 | none => nw n d k
 | some i => if nw n d k = none \/ lsnOf (nw n d k) < i.lsn then some ((k : Int),i) else nw n d k := by
 obtain rfl | rfl : k = 0 \/ k = 1 := by omega
 ·show (imgAt n d 0).map (fun i => ((0 : Int),i)) = match imgAt n d 0 with | none => none | some i => if (none : Option (Int × Im)) = none \/ _ then some ((0 : Int),i) else none
  cases imgAt n d 0 with
  | none => rfl
  | some i => simp
 ·show newest n d = match imgAt n d 1 with | none => (imgAt n d 0).map (fun i => ((0 : Int),i)) | some i => if (imgAt n d 0).map (fun i => ((0 : Int),i)) = none \/ lsnOf ((imgAt n d 0).map fun i => ((0 : Int),i)) < i.lsn then some ((1 : Int),i) else (imgAt n d 0).map fun i => ((0 : Int),i)
  unfold newest
  cases h0 : imgAt n d 0 with
  | none =>
    cases h1 : imgAt n d 1 with
    | none => rfl
    | some b => simp
  | some a =>
    cases h1 : imgAt n d 1 with
    | none => rfl
    | some b => simp [lsnOf]
def NewV (base : Nat) (w : World) (v : Value) : Option (Int × Im) -> Prop
 | none => v = .slice none 0 0
 | some (f,i) => ∃ a n c,v = .slice (some a) n c /\ OwnTabs w base (some a) n c i.tabs
def FindAt (T : Nat -> Prop) (w : World) (s p g gd : Nat) (l : Lg) (T0 : List (List Rw)) (d : Dk) (im : Option (Int × Im)) (v : Value) (w' : World) : Prop := NewV w.heap.size w' v im /\ SrcAt T w' s p g gd ⟨l,T0,fileOf im,lsnOf im⟩ d /\ w.grownBy w' (some s)
theorem own_some {w : World} {base n c : Nat} {A : Option Addr} {T : List (List Rw)} (h : OwnTabs w base A n c T) (hn : 0 < n) : ∃ a,A = some a := by
 cases A with
 | some a => exact ⟨a,rfl⟩
 | none =>
   exfalso
   obtain ⟨b,off,e,_⟩ := h.tabs.choose_spec.1.2.2.2 hn
   cases e
theorem NewV.keep {base : Nat} {w w' : World} {v : Value} {im : Option (Int × Im)} (h : NewV base w v im) (hb : Below w.heap.size w w') : NewV base w' v im := by
 cases im with
 | none => exact h
 | some x =>
   obtain ⟨a,n,c,e,ho⟩ := h
   exact ⟨a,n,c,e,ho.keep hb⟩
theorem file64 {n : Nat} {d : Dk} (k : Nat) (hk : k < 2) : I64 (k : Int) := ⟨by omega,by omega⟩
theorem find_any (T : Nat -> Prop) (s p g gd : Nat) (l : Lg) (T0 : List (List Rw)) (d : Dk) (n k M : Nat) (w : World) (h : SrcAt T w s p g gd ⟨l,T0,-1,0⟩ d) (hc : Cap k M d) (hM : M <= 140737488355328) (hn : 1 <= n) :
 Calls Tryz.prog 97 #[.pointer (some ⟨s,3,none⟩),.int .i64 n] w fun e w' => ∃ v,e = .returned v /\ FindAt T w s p g gd l T0 d (newest n d) v w' := by
 have hsl := h.lt
 have HS := hid h
 have HC := hid hc
 clear h hc
 go_enter Tryz.func97,Tryz.ntmps97
 go_wp2_with fail
 refine (other_any 0 w).mono ?_
 rintro e w1 ⟨rfl,rfl⟩
 have HO1 := hid (show other 0 = 1 from rfl)
 rw [HO1.out]
 have hq : Blk (w.alloc (.cells #[.int .i64 0,.int .i64 1] 3)) w.heap.size 3 #[.int .i64 0,.int .i64 1] := Blk.new _ _ _
 have HQ := hid hq
 have hg1 : w.grownBy (w.alloc (.cells #[.int .i64 0,.int .i64 1] 3)) (some s) := only_alloc (World.grownBy.refl _ _) _
 have HG1 := hid hg1
 have HS1 := hid (HS.out.new ((Below.refl w.heap.size w).alloc (Nat.le_refl _) (.cells #[.int .i64 0,.int .i64 1] 3)))
 clear hq hg1
 go_wp2
 go_loopw [5,14] (fun v5 v14 wr => ∃ k : Nat,v14 = .int .i64 k /\ k <= 2 /\ FindAt T w s p g gd l T0 d (nw n d k) v5 wr /\ Blk wr w.heap.size 3 #[.int .i64 0,.int .i64 1]) (fun _ v14 _ => 2 - (RowKit.intOf v14).toNat)
 case atStart => exact ⟨0,rfl,by omega,⟨rfl,HS1.out,HG1.out⟩,HQ.out⟩
 case round =>
  obtain ⟨k,rfl,hk,hfa,hblk⟩ := hrel
  have HF := hid hfa
  have HB := hid hblk
  have hsr : s < wr.heap.size := hfa.2.1.lt
  have hneq : w.heap.size ≠ s := by omega
  have hql := hblk.lt
  by_cases hlt : k < 2
  ·have hcell : wr.cell? ⟨w.heap.size,k,none⟩ = some (.int .i64 k) := by
    rw [hblk.cell]
    obtain rfl | rfl : k = 0 \/ k = 1 := by omega
    ·rfl
    ·rfl
   have HST := hid (nw_step n d hlt)
   have HGO := hid (good_any T s p g gd _ d (k : Int) n _ M wr hfa.2.1 (file64 (n := n) (d := d) k hlt) HC.out hM)
   clear hfa hblk
   generalize hga : imgAt n d (k : Int) = ga at *
   have HGA := hid hga
   clear hga
   cases ga with
   | none =>
     have HST2 : Hid (nw n d (k + 1) = nw n d k) := HST.out
     go_wp2_with fail
     refine HGO.out.mono ?_
     rintro e w2 ⟨rfl,hb2⟩
     have HF2 : Hid (FindAt T w s p g gd l T0 d (nw n d k) u5 w2) := ⟨HF.out.1.keep hb2,HF.out.2.1.new hb2,only_trans HF.out.2.2 (only_of_below hb2 (some s)) (.inl rfl)⟩
     have HB2 := hid (HB.out.below hb2 hql)
     clear hb2 HGO HST
     go_wp2
     go_roundw
     case rel => exact ⟨k + 1,by go_num,by omega,by rw [HST2.out]; exact HF2.out,HB2.out⟩
     case measure => simp [RowKit.intOf]; omega
   | some i =>
     have hil := SrcMath.imgAt_lsn HGA.out
     have hit := SrcMath.imgAt_tabs HGA.out
     have HIT := hid hit
     clear hit
     generalize hnk : nw n d k = nk at *
     have CO := hid (fun wx => other_any (k : Int) wx)
     have HNX : Hid (other (k : Int) = other (fileOf (some ((k : Int),i)))) := rfl
     have c4 := HF.out.2.1.cells.2.2.2.2.1
     dsimp only at c4
     have HD : Hid (∀ (wx : World) (a : Addr) (n2 c2 : Nat),FindAt T w s p g gd l T0 d nk u5 wx -> OwnTabs wx w.heap.size (some a) n2 c2 i.tabs -> FindAt T w s p g gd l T0 d (some ((k : Int),i)) (.slice (some a) n2 c2) ((wx.setCell ⟨s,4,none⟩ (.int .i64 i.lsn)).setCell ⟨s,5,none⟩ (.int .i64 (other (k : Int))))) := fun wx a n2 c2 hf ho => by
      have hg2 : wx.grownBy ((wx.setCell ⟨s,4,none⟩ (.int .i64 i.lsn)).setCell ⟨s,5,none⟩ (.int .i64 (other (k : Int)))) (some s) := only_setCell (p := ⟨s,5,none⟩) (only_setCell (p := ⟨s,4,none⟩) (World.grownBy.refl wx (some s)) (.inl rfl) _) (.inl rfl) _
      refine ⟨⟨a,n2,c2,rfl,ho.off hsl hg2⟩,hf.2.1.boxes rfl rfl (fun j hj hjs => hg2.block j hj fun e => hjs (Option.some.inj e)) hg2.size ?_,only_trans hf.2.2 hg2 (.inl rfl)⟩
      exact (hf.2.1.box.set_ 4 (.int .i64 i.lsn)).set_ 5 (.int .i64 (other (k : Int)))
     cases nk with
     | none =>
       have HST2 : Hid (nw n d (k + 1) = some ((k : Int),i)) := by have := HST.out; simp at this; exact this
       have hv5 : u5 = .slice none 0 0 := HF.out.1
       subst hv5
       clear c4
       have hnil : ∀ w,(binOp .eql 48 (.slice none 0 0) (.slice none 0 0)).run Tryz.prog w = .ok (.bool true) w := fun w => Lib.run_eql_slice_nil (P := Tryz.prog) w 48 53 none 0 0 0 0 Tryz.underlying48
       go_wp2_with fail
       refine HGO.out.mono ?_
       rintro e w2 ⟨A2,n2,c2,rfl,ho2,hb2⟩
       obtain ⟨a2,rfl⟩ := own_some ho2 (by rw [<- ho2.len,HIT.out.2]; exact hn)
       have HOW := hid (ho2.mono HF.out.2.2.size)
       have HF2 : Hid (FindAt T w s p g gd l T0 d none (.slice none 0 0) w2) := ⟨rfl,HF.out.2.1.new hb2,only_trans HF.out.2.2 (only_of_below hb2 (some s)) (.inl rfl)⟩
       have HB2 := hid (HB.out.below hb2 hql)
       have f4 := HF2.out.2.1.box.frozen 4
       have f5 := HF2.out.2.1.box.frozen 5
       have d4 := HF2.out.2.1.cells.2.2.2.2.1
       have d5 := HF2.out.2.1.cells.2.2.2.2.2
       dsimp only at d4 d5
       clear hb2 ho2 HGO HST
       go_wp2_with fail
       refine (CO.out _).mono ?_
       rintro e w3 ⟨rfl,rfl⟩
       go_wp2
       go_roundw
       case rel => exact ⟨k + 1,by go_num,by omega,by rw [HST2.out]; exact HD.out _ _ _ _ HF2.out HOW.out,HB2.out.grown (only_setCell (p := ⟨s,5,none⟩) (only_setCell (p := ⟨s,4,none⟩) (World.grownBy.refl w2 (some s)) (.inl rfl) _) (.inl rfl) _) (by simpa using hneq)⟩
       case measure => simp [RowKit.intOf]; omega
     | some x =>
       obtain ⟨xf,xi⟩ := x
       obtain ⟨a5,n5,c5,rfl,ho5⟩ := HF.out.1
       clear ho5
       have hnil : ∀ w,(binOp .eql 48 (.slice (some a5) n5 c5) (.slice none 0 0)).run Tryz.prog w = .ok (.bool false) w := fun w => Lib.run_eql_slice_nil (P := Tryz.prog) w 48 53 (some a5) n5 c5 0 0 Tryz.underlying48
       by_cases hlx : xi.lsn < i.lsn
       ·have HST2 : Hid (nw n d (k + 1) = some ((k : Int),i)) := by have := HST.out; simp [lsnOf,hlx] at this; exact this
        have hd1 : decide (xi.lsn < i.lsn) = true := decide_eq_true hlx
        go_wp2_with fail
        refine HGO.out.mono ?_
        rintro e w2 ⟨A2,n2,c2,rfl,ho2,hb2⟩
        obtain ⟨a2,rfl⟩ := own_some ho2 (by rw [<- ho2.len,HIT.out.2]; exact hn)
        have HOW := hid (ho2.mono HF.out.2.2.size)
        have HF2 : Hid (FindAt T w s p g gd l T0 d (some (xf,xi)) (.slice (some a5) n5 c5) w2) := ⟨HF.out.1.keep hb2,HF.out.2.1.new hb2,only_trans HF.out.2.2 (only_of_below hb2 (some s)) (.inl rfl)⟩
        have HB2 := hid (HB.out.below hb2 hql)
        have f4 := HF2.out.2.1.box.frozen 4
        have f5 := HF2.out.2.1.box.frozen 5
        have d4 : w2.cell? ⟨s,4,none⟩ = some (.int .i64 xi.lsn) := HF2.out.2.1.cells.2.2.2.2.1
        have d5 := HF2.out.2.1.cells.2.2.2.2.2
        dsimp only at d5
        clear hb2 ho2 HGO HST c4
        go_wp2_with fail
        refine (CO.out _).mono ?_
        rintro e w3 ⟨rfl,rfl⟩
        go_wp2
        go_roundw
        case rel => exact ⟨k + 1,by go_num,by omega,by rw [HST2.out]; exact HD.out _ _ _ _ HF2.out HOW.out,HB2.out.grown (only_setCell (p := ⟨s,5,none⟩) (only_setCell (p := ⟨s,4,none⟩) (World.grownBy.refl w2 (some s)) (.inl rfl) _) (.inl rfl) _) (by simpa using hneq)⟩
        case measure => simp [RowKit.intOf]; omega
       ·have HST2 : Hid (nw n d (k + 1) = some (xf,xi)) := by have := HST.out; simp [lsnOf,hlx] at this; exact this
        have hd1 : decide (xi.lsn < i.lsn) = false := decide_eq_false hlx
        go_wp2_with fail
        refine HGO.out.mono ?_
        rintro e w2 ⟨A2,n2,c2,rfl,ho2,hb2⟩
        have HF2 : Hid (FindAt T w s p g gd l T0 d (some (xf,xi)) (.slice (some a5) n5 c5) w2) := ⟨HF.out.1.keep hb2,HF.out.2.1.new hb2,only_trans HF.out.2.2 (only_of_below hb2 (some s)) (.inl rfl)⟩
        have HB2 := hid (HB.out.below hb2 hql)
        have d4 : w2.cell? ⟨s,4,none⟩ = some (.int .i64 xi.lsn) := HF2.out.2.1.cells.2.2.2.2.1
        clear hb2 ho2 HGO HST c4
        go_wp2
        go_roundw
        case rel => exact ⟨k + 1,by go_num,by omega,by rw [HST2.out]; exact HF2.out,HB2.out⟩
        case measure => simp [RowKit.intOf]; omega
  ·obtain rfl : k = 2 := by omega
   have HF2 : Hid (FindAt T w s p g gd l T0 d (newest n d) u5 wr) := HF.out
   go_wp2
   go_ret
   exact ⟨_,rfl,HF2.out⟩
end Src
namespace Src
open Go.RowKit Base
open Foot (Turn Out)
open DiskMath (Fl Dk)
open WalMath (Lg Sg Cap rowsOf)
open SrcMath (Sc mayS imgAt newest fileOf lsnOf other reads entry above begun)
open ImgMath (Im)
open TxnMath (Tx Ch)
open IdxMath (Rw)
open Wal (New Win DiskT)
open Disk (DiskAt I64)
open Tbl (SetAt)
open Txn (Chs Sigs txv)
open Img (OwnTabs Tabs)
def Loaded (T : Nat -> Prop) (w : World) (s p g gd : Nat) (l : Lg) (d : Dk) (file lsn : Int) (r : Option (List (List Rw))) (e : Ending) (w' : World) : Prop := match r with
 | none => e = .returned (.bool false) /\ DiskT T w' gd d /\ Turn T w w'
 | some T' => e = .returned (.bool true) /\ SrcAt T w' s p g gd ⟨l,T',file,lsn⟩ d /\ Turn T w w'
def RepRel (T : Nat -> Prop) (w : World) (s p g gd : Nat) (l : Lg) (T0 : List (List Rw)) (d : Dk) (file lsn : Int) (lo : Int) (cnt n : Nat) (v3 : Value) (wr : World) : Prop :=
 ∃ (i : Nat) (ts : List Tx),v3 = .int .i64 (lo + i) /\ i <= cnt /\ reads n lo ((rowsOf l.segs).take i) = some ts /\ ts.length = i /\ Tbl.Most (above lsn T0 ts) (1000 + 16 * i) /\ SrcAt T wr s p g gd ⟨l,above lsn T0 ts,file,lsn⟩ d /\ Turn T w wr
theorem hd_cnt {l : Lg} (ho : LOk l) : WalMath.hd l.segs = WalMath.low l.segs + (rowsOf l.segs).length - 1 := by
 by_cases h : l.segs = []
 ·rw [h]; rfl
 ·exact WalMath.runs_hd ho.runs h
theorem entry_get {l : Lg} (ho : LOk l) {i : Nat} (hi : i < (rowsOf l.segs).length) : Wal.entry l.segs (WalMath.low l.segs + i) = (rowsOf l.segs)[i]? := by
 have := hd_cnt ho
 unfold Wal.entry
 rw [if_pos ⟨by omega,by omega⟩,show (WalMath.low l.segs + (i : Int) - WalMath.low l.segs).toNat = i by omega]
theorem low_bd {l : Lg} (ho : LOk l) : 1 <= WalMath.low l.segs := by
 have h := ho.ok.2.2.2.2
 cases hs : l.segs with
 | nil => exact Int.le_refl _
 | cons x r => rw [hs] at h; exact (h x List.mem_cons_self).2.2.1
theorem replay_any (T : Nat -> Prop) (s p g gd : Nat) (l : Lg) (T0 : List (List Rw)) (d : Dk) (file lsn : Int) (n : Nat) (w : World) (h : SrcAt T w s p g gd ⟨l,T0,file,lsn⟩ d) (hT : New T w) (ho : LOk l) (hn : T0.length = n) (hmost : Tbl.Most T0 1000) (hfew : (rowsOf l.segs).length <= 1000000) :
 Calls Tryz.prog 99 #[.pointer (some ⟨s,0,none⟩)] w (Loaded T w s p g gd l d file lsn ((reads n (WalMath.low l.segs) (rowsOf l.segs)).map (above lsn T0))) := by
 have HS := hid h
 have HT := hid hT
 have HO := hid ho
 have hbd := Wal.hd_bd ho.ok.2.2.2.2
 have hcn := hd_cnt ho
 have hlb := low_bd ho
 have HEG := hid (fun i (hi : i < (rowsOf l.segs).length) => entry_get ho hi)
 have HLO := hid (low_any T s p g gd _ d w h)
 have HHD := hid (fun wx T1 (hx : SrcAt T wx s p g gd ⟨l,T1,file,lsn⟩ d) => head_any T s p g gd _ d wx hx ho)
 have HIM := hid (fun wx T1 (hx : SrcAt T wx s p g gd ⟨l,T1,file,lsn⟩ d) => image_any T s p g gd _ d wx hx)
 have HRD := hid (fun wx T1 i (hx : SrcAt T wx s p g gd ⟨l,T1,file,lsn⟩ d) => read_any T s p g gd _ d (WalMath.low l.segs + (i : Nat)) wx hx ho)
 dsimp only at HLO HHD HRD HIM
 generalize hlo : WalMath.low l.segs = lo at *
 generalize hhd : WalMath.hd l.segs = hd at *
 generalize hcc : (rowsOf l.segs).length = cnt at *
 have HCC := hid hcc
 clear h hT ho hlo hhd hcc
 go_enter Tryz.func99,Tryz.ntmps99
 go_wp2_with fail
 refine HLO.out.mono ?_
 rintro e w1 ⟨rfl,rfl⟩
 clear HLO
 go_wp2
 go_loopw [3] (fun v3 wr => RepRel T w s p g gd l T0 d file lsn lo cnt n v3 wr) (fun v3 _ => (hd + 1 - RowKit.intOf v3).toNat)
 case atStart => exact ⟨0,[],by simp,Nat.zero_le _,by rw [List.take_zero]; rfl,rfl,by simpa [SrcMath.above_nil] using hmost,by rw [SrcMath.above_nil]; exact HS.out,Turn.refl _ _⟩
 case round =>
  obtain ⟨i,ts,rfl,hi,hts,htl,hmo,hsr,htu⟩ := hrel
  have HTS := hid hts
  have HMO := hid hmo
  have HSR := hid hsr
  have HTU := hid htu
  clear hts hmo hsr htu hmost HS
  have HTN := hid (HT.out.le HTU.out.size)
  go_wp2_with fail
  refine (HHD.out _ _ HSR.out).mono ?_
  rintro e w1 ⟨rfl,hb1⟩
  have HS1 := hid (HSR.out.new hb1)
  have HT1 : Hid (Turn T w w1) := HTU.out.trans (F' := T) (Turn.new hb1) fun i hi => .inl hi
  clear hb1
  by_cases hlt : i < cnt
  ·have l1 : lo + (i : Int) <= hd := by omega
   obtain ⟨b,hb⟩ : ∃ b,(rowsOf l.segs)[i]? = some b := ⟨_,List.getElem?_eq_getElem (by rw [HCC.out]; exact hlt)⟩
   have HRI := hid (HRD.out w1 _ i HS1.out)
   rw [HEG.out i hlt,hb] at HRI
   have HSN := hid (fun t (ht : entry n (lo + (i : Int)) b = some t) => SrcMath.reads_snoc HTS.out (b := b) (t := t) (by rw [List.length_take,HCC.out,Nat.min_eq_left (by omega)]; exact ht))
   have HTK : Hid ((rowsOf l.segs).take (i + 1) = (rowsOf l.segs).take i ++ [b]) := by show _ = _; rw [List.take_succ,hb]; rfl
   have HNO := hid (fun (ht : entry n (lo + (i : Int)) b = none) => show reads n lo (rowsOf l.segs) = none by
    have h3 := SrcMath.reads_stop (n := n) (x := lo) (l := (rowsOf l.segs).take i) (b := b) (r := (rowsOf l.segs).drop (i + 1)) (by rw [List.length_take,HCC.out,Nat.min_eq_left (by omega)]; exact ht)
    obtain ⟨h4,h5⟩ := List.getElem?_eq_some_iff.1 hb
    rwa [<- h5,<- List.drop_eq_getElem_cons h4,List.take_append_drop] at h3)
   have HEI := hid (SrcMath.entry_is (n := n) (num := lo + (i : Int)) (b := b))
   clear hb
   go_wp2_with fail
   refine HRI.out.mono ?_
   intro e w2 hr2
   replace hr2 : Txn.DecO w1 b e w2 := hr2
   unfold Txn.DecO at hr2
   cases hdt : TxnMath.decT b with
   | error er =>
     rw [hdt] at HEI
     have HER := hid (HNO.out HEI.out)
     rw [hdt] at hr2
     obtain ⟨A,nn,c,A',n',c',rfl,hchs,hsigs,hb2⟩ := hr2
     have herr : ((er : Int) != 0) = true := by
      have := SrcMath.decT_err hdt
      simp
      omega
     have HSD := hid (HS1.out.new hb2)
     have HTD : Hid (Turn T w w2) := HT1.out.trans (F' := T) (Turn.new hb2) fun i hi => .inl hi
     clear hchs hsigs hb2 hdt HRI HNO HSN
     simp only [FieldMath.err]
     unfold txv
     go_wp2
     go_ret
     rw [HER.out]
     exact ⟨rfl,HSD.out.onDisk.new ((Below.refl _ _).alloc (Nat.le_refl _) _),HTD.out.alloc _⟩
   | ok t =>
     rw [hdt] at HEI hr2
     obtain ⟨A,nn,c,A',n',c',rfl,hochs,hosigs,hb2⟩ := hr2
     have hchs : Chs w2 w2.heap.size A nn c (Txn.gotX (.ok t : Except Nat Tx)).chs := Row.of_own hochs
     have hsigs : Sigs w2 w2.heap.size A' n' c' (Txn.gotX (.ok t : Except Nat Tx)).sigs := Row.of_own hosigs
     have HOWN : Hid (∀ b,(Value.slice A nn c).ownBlock = some b -> w1.heap.size <= b /\ b < w2.heap.size) := fun b e => hochs.lt b e
     have hmt := (TxnMath.decT_ok hdt).1
     have HMT := hid hmt
     have HS2 := hid (HS1.out.new hb2)
     have HT2 : Hid (Turn T w w2) := HT1.out.trans (F' := T) (Turn.new hb2) fun i hi => .inl hi
     have HCH := hid hchs
     have HSG := hid hsigs
     have HB2 := hid hb2
     have hnl : nn <= 16 := by
      have h1 := (TxnMath.may_of hmt).chs
      have h2 := hchs.len
      have h3 : (Txn.gotX (.ok t : Except Nat Tx)).chs = t.chs := rfl
      rw [h3] at h2
      omega
     clear hchs hsigs hochs hosigs hb2 hdt hmt HRI
     have HEI2 : Hid (entry n (lo + (i : Int)) b = if t.lsn = lo + (i : Int) /\ mayS n t = true then some t else none) := HEI.out
     clear HEI
     simp only [FieldMath.err,Txn.gotX] at HCH HSG ⊢
     unfold txv
     obtain ⟨tl,tk,tc,tg,tm⟩ := t
     dsimp only at *
     have HX : Hid (Blk (w2.alloc (.cells #[.int .i64 tl,.int .i64 tk,.slice A nn c,.slice A' n' c',.int .i64 tm] 39)) w2.heap.size 39 #[.int .i64 tl,.int .i64 tk,.slice A nn c,.slice A' n' c',.int .i64 tm]) := Blk.new _ _ _
     have HBX : Hid (Below w2.heap.size w2 (w2.alloc (.cells #[.int .i64 tl,.int .i64 tk,.slice A nn c,.slice A' n' c',.int .i64 tm] 39))) := (Below.refl _ _).alloc (Nat.le_refl _) _
     have HSX := hid (HS2.out.new HBX.out)
     have HTX : Hid (Turn T w (w2.alloc (.cells #[.int .i64 tl,.int .i64 tk,.slice A nn c,.slice A' n' c',.int .i64 tm] 39))) := HT2.out.alloc _
     by_cases htl2 : tl = lo + (i : Int)
     ·subst htl2
      have HMY := hid (may_any T s p g gd _ d w2.heap.size (lo + (i : Int)) tk tm A nn c tc A' n' c' tg _ HSX.out (HCH.out.below HBX.out) (HSG.out.below HBX.out) HBX.out.size)
      dsimp only at HMY
      rw [show (above lsn T0 ts).length = n by rw [SrcMath.above_length]; exact hn] at HMY
      unfold txv at HMY
      cases hmy : mayS n ⟨lo + (i : Int),tk,tc,tg,tm⟩ with
      | false =>
        have HER := hid (HNO.out (by rw [HEI2.out,if_neg (by rw [hmy]; simp)]))
        rw [hmy] at HMY
        clear hmy HNO HSN HEI2
        go_wp2_with fail
        refine HMY.out.mono ?_
        rintro e w3 ⟨rfl,hb3⟩
        have HSD := hid (HSX.out.new hb3)
        have HTD : Hid (Turn T w w3) := HTX.out.trans (F' := T) (Turn.new hb3) fun i hi => .inl hi
        clear hb3
        go_wp2
        go_ret
        rw [HER.out]
        exact ⟨rfl,HSD.out.onDisk,HTD.out⟩
      | true =>
        have HER := hid (HSN.out _ (by rw [HEI2.out,if_pos ⟨rfl,hmy⟩]))
        have htb : ∀ c ∈ tc,0 <= c.tbl /\ c.tbl < ((above lsn T0 ts).length : Int) := fun c hc => by
         have h3 := SrcMath.may_tbl HMT.out c hc
         rw [SrcMath.mayS_of HMT.out] at hmy
         have h4 := List.all_eq_true.1 hmy c hc
         rw [decide_eq_true_eq] at h4
         rw [SrcMath.above_length,hn]
         exact ⟨h3.1,h4⟩
        have HTB := hid htb
        rw [hmy] at HMY
        clear hmy HNO HSN HEI2 htb
        go_wp2_with fail
        refine HMY.out.mono ?_
        rintro e w3 ⟨rfl,hb3⟩
        have HX3 := hid (HX.out.below hb3 (by simp))
        have HS3 := hid (HSX.out.new hb3)
        have HT3 : Hid (Turn T w w3) := HTX.out.trans (F' := T) (Turn.new hb3) fun i hi => .inl hi
        have HB3 : Hid (Below w1.heap.size w1 w3) := held_two (held_two HB2.out HBX.out) hb3
        have HB23 : Hid (Below w2.heap.size w2 w3) := held_two HBX.out hb3
        clear hb3 HX HSX HTX HBX HMY
        go_wp2_with fail
        refine (HIM.out _ _ HS3.out).mono ?_
        rintro e w4 ⟨rfl,rfl⟩
        have HSN2 : Hid (reads n lo ((rowsOf l.segs).take (i + 1)) = some (ts ++ [⟨lo + (i : Int),tk,tc,tg,tm⟩])) := by show _ = _; rw [HTK.out]; exact HER.out
        have HAB := hid (SrcMath.above_snoc (L := lsn) (T := T0) (ts := ts) (t := ⟨lo + (i : Int),tk,tc,tg,tm⟩))
        by_cases hls : lsn < lo + (i : Int)
        ·have HAB2 : Hid (above lsn T0 (ts ++ [⟨lo + (i : Int),tk,tc,tg,tm⟩]) = Tbl.doAll (above lsn T0 ts) tc) := by show _ = _; rw [HAB.out,if_pos hls]
         have HM2 : Hid (Tbl.Most (Tbl.doAll (above lsn T0 ts) tc) (1000 + 16 * (i + 1))) := SrcMath.most_doAll HMO.out HTB.out (by
          have h1 := (TxnMath.may_of HMT.out).chs
          dsimp only at h1
          omega)
         have hd1 : decide (lsn < lo + (i : Int)) = true := decide_eq_true hls
         have c0 := HS3.out.cells.1
         have x2 : w3.cell? ⟨w2.heap.size,2,none⟩ = some (.slice A nn c) := HX3.out.cell 2
         have hsw : SrcAt (Win T w1.heap.size w3.heap.size) w3 s p g gd ⟨l,above lsn T0 ts,file,lsn⟩ d := HS1.out.win HB3.out
         have hnw : New (Win T w1.heap.size w3.heap.size) w3 := new_win (HT.out.le HT1.out.size) HB3.out.size
         obtain ⟨K2,hset,hK2,hbk2⟩ := hsw.sets hnw
         have hlK : Lies (fun j => ¬ K2 j) A nn := fun hn0 b off e hw => by
          have h3 := HOWN.out b (by rw [e]; rfl)
          have h4 : b < w1.heap.size \/ w3.heap.size <= b := (hK2 b hw).1.2
          have h5 := HB23.out.size
          omega
         have hcs3 : Chs w3 w3.heap.size A nn c tc := Row.more (Row.below HCH.out HB23.out) HB23.out.size
         have HAY := hid (fun j => Tbl.apply_set K2 p (above lsn T0 ts) (1000 + 16 * i) A nn c tc (w3.drewN j) (hset.new (below_drewN (Below.refl _ _) j)) (fun wr hr => row_turn (w := w3) hcs3 hlK ⟨hr.os,hr.tape,hr.output,hr.size,hr.block⟩) HMO.out (by omega))
         have HAP2 : Hid (Tbl.appl (above lsn T0 ts) tc = Tbl.doAll (above lsn T0 ts) tc) := SrcMath.appl_is HTB.out
         clear hset hK2 hlK hcs3 hsw hnw
         go_upto_region 8 with fail
         go_still_tail 6,(by kernel_rfl)
         go_wp2_with fail
         refine (HAY.out 1).mono ?_
         rintro e w7 ⟨rfl,h7,h8⟩
         obtain ⟨h9,h10⟩ := hbk2.out w7 _ h7 ⟨h8.os,h8.tape,h8.output,h8.size,h8.block⟩
         rw [HAP2.out] at h9
         have H9 := hid (h9.mono fun i (hi : Win T w1.heap.size w3.heap.size i) => hi.1)
         have H10 : Hid (Turn T w w7) := HT3.out.trans (h10.mono fun i hi => hi.1) fun i hi => .inl hi
         clear h7 h8 h9 h10
         go_wp2
         go_roundw
         case rel => exact ⟨i + 1,_,by go_num,by omega,HSN2.out,by rw [List.length_append,htl]; rfl,by rw [HAB2.out]; exact HM2.out,by rw [HAB2.out]; exact H9.out,H10.out⟩
         case measure => simp [RowKit.intOf]; omega
        ·have HAB2 : Hid (above lsn T0 (ts ++ [⟨lo + (i : Int),tk,tc,tg,tm⟩]) = above lsn T0 ts) := by show _ = _; rw [HAB.out,if_neg hls]
         have hd1 : decide (lsn < lo + (i : Int)) = false := decide_eq_false hls
         go_wp2
         go_roundw
         case rel => exact ⟨i + 1,_,by go_num,by omega,HSN2.out,by rw [List.length_append,htl]; rfl,by rw [HAB2.out]; exact fun t => Nat.le_trans (HMO.out t) (by omega),by rw [HAB2.out]; exact HS3.out,HT3.out⟩
         case measure => simp [RowKit.intOf]; omega
     ·have HER := hid (HNO.out (by rw [HEI2.out,if_neg (fun e => htl2 e.1)]))
      have hne : (tl != lo + (i : Int)) = true := by simpa using htl2
      clear htl2 HNO HSN HEI2
      go_wp2
      go_ret
      rw [HER.out]
      exact ⟨rfl,HSX.out.onDisk,HTX.out⟩
  ·obtain rfl : i = cnt := by omega
   have l1 : ¬ lo + (i : Int) <= hd := by omega
   have HRS : Hid (reads n lo (rowsOf l.segs) = some ts) := by
    have := HTS.out
    rwa [List.take_of_length_le (by rw [HCC.out]; exact Nat.le_refl _)] at this
   go_wp2
   go_ret
   rw [HRS.out]
   exact ⟨rfl,HS1.out,HT1.out⟩
end Src
end Go.Proofs.YtefnmnpfecfdaaaGreat
