/-
  Texts of one proof: SrcLoad, SrcOpenC.
-/
import Derived.Test.YtefnmnpfecfdaaaGreatPk41
set_option linter.all false
set_option maxRecDepth 100000
set_option maxHeartbeats 12800000
open Go.Lib (hid)
namespace Go.Proofs.YtefnmnpfecfdaaaGreat
namespace Src
open Go.RowKit Base
open Foot (Turn Out)
open DiskMath (Fl Dk)
open WalMath (Lg Sg Cap rowsOf)
open SrcMath (Sc mayS imgAt newest fileOf lsnOf other reads entry above begun)
open ImgMath (Im)
open TxnMath (Tx Ch)
open IdxMath (Rw)
open Wal (New Win DiskT)
open Disk (DiskAt I64)
open Tbl (SetAt)
open Txn (Chs Sigs txv TxIn)
open Img (OwnTabs Tabs)
def Loaded (T : Nat -> Prop) (w : World) (s p g gd : Nat) (l : Lg) (d : Dk) (file lsn : Int) (r : Option (List (List Rw))) (e : Ending) (w' : World) : Prop := match r with
 | none => e = .returned (.bool false) /\ DiskT T w' gd d /\ Turn T w w'
 | some T' => e = .returned (.bool true) /\ SrcAt T w' s p g gd ⟨l,T',file,lsn⟩ d /\ Turn T w w'
def RepRel (T : Nat -> Prop) (w : World) (s p g gd : Nat) (l : Lg) (T0 : List (List Rw)) (d : Dk) (file lsn : Int) (lo : Int) (cnt n : Nat) (v3 : Value) (wr : World) : Prop :=
 ∃ (i : Nat) (ts : List Tx),v3 = .int .i64 (lo + i) /\ i <= cnt /\ reads n lo ((rowsOf l.segs).take i) = some ts /\ ts.length = i /\ Tbl.Most (above lsn T0 ts) (1000 + 16 * i) /\ SrcAt T wr s p g gd ⟨l,above lsn T0 ts,file,lsn⟩ d /\ Turn T w wr
theorem hd_cnt {l : Lg} (ho : LOk l) : WalMath.hd l.segs = WalMath.low l.segs + (rowsOf l.segs).length - 1 := by
 by_cases h : l.segs = []
 ·rw [h]; rfl
 ·exact WalMath.runs_hd ho.runs h
theorem entry_get {l : Lg} (ho : LOk l) {i : Nat} (hi : i < (rowsOf l.segs).length) : Wal.entry l.segs (WalMath.low l.segs + i) = (rowsOf l.segs)[i]? := by
 have := hd_cnt ho
 unfold Wal.entry
 rw [if_pos ⟨by omega,by omega⟩,show (WalMath.low l.segs + (i : Int) - WalMath.low l.segs).toNat = i by omega]
theorem low_bd {l : Lg} (ho : LOk l) : 1 <= WalMath.low l.segs := by
 have h := ho.ok.2.2.2.2
 cases hs : l.segs with
 | nil => exact Int.le_refl _
 | cons x r => rw [hs] at h; exact (h x List.mem_cons_self).2.2.1
theorem replay_any (T : Nat -> Prop) (s p g gd : Nat) (l : Lg) (T0 : List (List Rw)) (d : Dk) (file lsn : Int) (n : Nat) (w : World) (h : SrcAt T w s p g gd ⟨l,T0,file,lsn⟩ d) (hT : New T w) (ho : LOk l) (hn : T0.length = n) (hmost : Tbl.Most T0 1000) (hfew : (rowsOf l.segs).length <= 1000000) :
 Calls Tryz.prog 99 #[.pointer (some ⟨s,0,none⟩)] w (Loaded T w s p g gd l d file lsn ((reads n (WalMath.low l.segs) (rowsOf l.segs)).map (above lsn T0))) := by
 have HS := hid h
 have HT := hid hT
 have HO := hid ho
 have hbd := Wal.hd_bd ho.ok.2.2.2.2
 have hcn := hd_cnt ho
 have hlb := low_bd ho
 have HEG := hid (fun i (hi : i < (rowsOf l.segs).length) => entry_get ho hi)
 have HLO := hid (low_any T s p g gd _ d w h)
 have HHD := hid (fun wx T1 (hx : SrcAt T wx s p g gd ⟨l,T1,file,lsn⟩ d) => head_any T s p g gd _ d wx hx ho)
 have HIM := hid (fun wx T1 (hx : SrcAt T wx s p g gd ⟨l,T1,file,lsn⟩ d) => image_any T s p g gd _ d wx hx)
 have HRD := hid (fun wx T1 i (hx : SrcAt T wx s p g gd ⟨l,T1,file,lsn⟩ d) => read_any T s p g gd _ d (WalMath.low l.segs + (i : Nat)) wx hx ho)
 dsimp only at HLO HHD HRD HIM
 generalize hlo : WalMath.low l.segs = lo at *
 generalize hhd : WalMath.hd l.segs = hd at *
 generalize hcc : (rowsOf l.segs).length = cnt at *
 have HCC := hid hcc
 clear h hT ho hlo hhd hcc
 go_enter Tryz.func99,Tryz.ntmps99
 go_wp2_with fail
 refine HLO.out.mono ?_
 rintro e w1 ⟨rfl,rfl⟩
 clear HLO
 go_wp2
 go_loopw [3] (fun v3 wr => RepRel T w s p g gd l T0 d file lsn lo cnt n v3 wr) (fun v3 _ => (hd + 1 - RowKit.intOf v3).toNat)
 case atStart => exact ⟨0,[],by simp,Nat.zero_le _,by rw [List.take_zero]; rfl,rfl,by simpa [SrcMath.above_nil] using hmost,by rw [SrcMath.above_nil]; exact HS.out,Turn.refl _ _⟩
 case round =>
  obtain ⟨i,ts,rfl,hi,hts,htl,hmo,hsr,htu⟩ := hrel
  have HTS := hid hts
  have HMO := hid hmo
  have HSR := hid hsr
  have HTU := hid htu
  clear hts hmo hsr htu hmost HS
  have HTN := hid (HT.out.le HTU.out.size)
  go_wp2_with fail
  refine (HHD.out _ _ HSR.out).mono ?_
  rintro e w1 ⟨rfl,hb1⟩
  have HS1 := hid (HSR.out.new hb1)
  have HT1 : Hid (Turn T w w1) := HTU.out.trans (F' := T) (Turn.new hb1) fun i hi => .inl hi
  clear hb1
  by_cases hlt : i < cnt
  ·have l1 : lo + (i : Int) <= hd := by omega
   obtain ⟨b,hb⟩ : ∃ b,(rowsOf l.segs)[i]? = some b := ⟨_,List.getElem?_eq_getElem (by rw [HCC.out]; exact hlt)⟩
   have HRI := hid (HRD.out w1 _ i HS1.out)
   rw [HEG.out i hlt,hb] at HRI
   have HSN := hid (fun t (ht : entry n (lo + (i : Int)) b = some t) => SrcMath.reads_snoc HTS.out (b := b) (t := t) (by rw [List.length_take,HCC.out,Nat.min_eq_left (by omega)]; exact ht))
   have HTK : Hid ((rowsOf l.segs).take (i + 1) = (rowsOf l.segs).take i ++ [b]) := by show _ = _; rw [List.take_succ,hb]; rfl
   have HNO := hid (fun (ht : entry n (lo + (i : Int)) b = none) => show reads n lo (rowsOf l.segs) = none by
    have h3 := SrcMath.reads_stop (n := n) (x := lo) (l := (rowsOf l.segs).take i) (b := b) (r := (rowsOf l.segs).drop (i + 1)) (by rw [List.length_take,HCC.out,Nat.min_eq_left (by omega)]; exact ht)
    obtain ⟨h4,h5⟩ := List.getElem?_eq_some_iff.1 hb
    rwa [<- h5,<- List.drop_eq_getElem_cons h4,List.take_append_drop] at h3)
   have HEI := hid (SrcMath.entry_is (n := n) (num := lo + (i : Int)) (b := b))
   clear hb
   go_wp2_with fail
   refine HRI.out.mono ?_
   intro e w2 hr2
   replace hr2 : Txn.DecO w1 b e w2 := hr2
   unfold Txn.DecO at hr2
   cases hdt : TxnMath.decT b with
   | error er =>
     rw [hdt] at HEI
     have HER := hid (HNO.out HEI.out)
     rw [hdt] at hr2
     obtain ⟨A,nn,c,A',n',c',rfl,hchs,hsigs,hb2⟩ := hr2
     have herr : ((er : Int) != 0) = true := by
      have := SrcMath.decT_err hdt
      simp
      omega
     have HSD := hid (HS1.out.new hb2)
     have HTD : Hid (Turn T w w2) := HT1.out.trans (F' := T) (Turn.new hb2) fun i hi => .inl hi
     clear hchs hsigs hb2 hdt HRI HNO HSN
     simp only [FieldMath.err]
     unfold txv
     go_wp2
     go_ret
     rw [HER.out]
     exact ⟨rfl,HSD.out.onDisk.new ((Below.refl _ _).alloc (Nat.le_refl _) _),HTD.out.alloc _⟩
   | ok t =>
     rw [hdt] at HEI hr2
     obtain ⟨A,nn,c,A',n',c',rfl,hochs,hosigs,hb2⟩ := hr2
     have hchs : Chs w2 w2.heap.size A nn c (Txn.gotX (.ok t : Except Nat Tx)).chs := Row.of_own hochs
     have hsigs : Sigs w2 w2.heap.size A' n' c' (Txn.gotX (.ok t : Except Nat Tx)).sigs := Row.of_own hosigs
     have HOWN : Hid (∀ b,(Value.slice A nn c).ownBlock = some b -> w1.heap.size <= b /\ b < w2.heap.size) := fun b e => hochs.lt b e
     have hmt := (TxnMath.decT_ok hdt).1
     have HMT := hid hmt
     have HS2 := hid (HS1.out.new hb2)
     have HT2 : Hid (Turn T w w2) := HT1.out.trans (F' := T) (Turn.new hb2) fun i hi => .inl hi
     have HCH := hid hchs
     have HSG := hid hsigs
     have HB2 := hid hb2
     have hnl : nn <= 16 := by
      have h1 := (TxnMath.may_of hmt).chs
      have h2 := hchs.len
      have h3 : (Txn.gotX (.ok t : Except Nat Tx)).chs = t.chs := rfl
      rw [h3] at h2
      omega
     clear hchs hsigs hochs hosigs hb2 hdt hmt HRI
     have HEI2 : Hid (entry n (lo + (i : Int)) b = if t.lsn = lo + (i : Int) /\ mayS n t = true then some t else none) := HEI.out
     clear HEI
     simp only [FieldMath.err,Txn.gotX] at HCH HSG ⊢
     unfold txv
     obtain ⟨tl,tk,tc,tg,tm⟩ := t
     dsimp only at *
     have HX : Hid (Blk (w2.alloc (.cells #[.int .i64 tl,.int .i64 tk,.slice A nn c,.slice A' n' c',.int .i64 tm] 39)) w2.heap.size 39 #[.int .i64 tl,.int .i64 tk,.slice A nn c,.slice A' n' c',.int .i64 tm]) := Blk.new _ _ _
     have HBX : Hid (Below w2.heap.size w2 (w2.alloc (.cells #[.int .i64 tl,.int .i64 tk,.slice A nn c,.slice A' n' c',.int .i64 tm] 39))) := (Below.refl _ _).alloc (Nat.le_refl _) _
     have HSX := hid (HS2.out.new HBX.out)
     have HTX : Hid (Turn T w (w2.alloc (.cells #[.int .i64 tl,.int .i64 tk,.slice A nn c,.slice A' n' c',.int .i64 tm] 39))) := HT2.out.alloc _
     by_cases htl2 : tl = lo + (i : Int)
     ·subst htl2
      have HMY := hid (may_any T s p g gd _ d w2.heap.size (lo + (i : Int)) tk tm A nn c tc A' n' c' tg _ HSX.out (HCH.out.below HBX.out) (HSG.out.below HBX.out) HBX.out.size)
      dsimp only at HMY
      rw [show (above lsn T0 ts).length = n by rw [SrcMath.above_length]; exact hn] at HMY
      unfold txv at HMY
      cases hmy : mayS n ⟨lo + (i : Int),tk,tc,tg,tm⟩ with
      | false =>
        have HER := hid (HNO.out (by rw [HEI2.out,if_neg (by rw [hmy]; simp)]))
        rw [hmy] at HMY
        clear hmy HNO HSN HEI2
        go_wp2_with fail
        refine HMY.out.mono ?_
        rintro e w3 ⟨rfl,hb3⟩
        have HSD := hid (HSX.out.new hb3)
        have HTD : Hid (Turn T w w3) := HTX.out.trans (F' := T) (Turn.new hb3) fun i hi => .inl hi
        clear hb3
        go_wp2
        go_ret
        rw [HER.out]
        exact ⟨rfl,HSD.out.onDisk,HTD.out⟩
      | true =>
        have HER := hid (HSN.out _ (by rw [HEI2.out,if_pos ⟨rfl,hmy⟩]))
        have htb : ∀ c ∈ tc,0 <= c.tbl /\ c.tbl < ((above lsn T0 ts).length : Int) := fun c hc => by
         have h3 := SrcMath.may_tbl HMT.out c hc
         rw [SrcMath.mayS_of HMT.out] at hmy
         have h4 := List.all_eq_true.1 hmy c hc
         rw [decide_eq_true_eq] at h4
         rw [SrcMath.above_length,hn]
         exact ⟨h3.1,h4⟩
        have HTB := hid htb
        rw [hmy] at HMY
        clear hmy HNO HSN HEI2 htb
        go_wp2_with fail
        refine HMY.out.mono ?_
        rintro e w3 ⟨rfl,hb3⟩
        have HX3 := hid (HX.out.below hb3 (by simp))
        have HS3 := hid (HSX.out.new hb3)
        have HT3 : Hid (Turn T w w3) := HTX.out.trans (F' := T) (Turn.new hb3) fun i hi => .inl hi
        have HB3 : Hid (Below w1.heap.size w1 w3) := held_two (held_two HB2.out HBX.out) hb3
        have HB23 : Hid (Below w2.heap.size w2 w3) := held_two HBX.out hb3
        clear hb3 HX HSX HTX HBX HMY
        go_wp2_with fail
        refine (HIM.out _ _ HS3.out).mono ?_
        rintro e w4 ⟨rfl,rfl⟩
        have HSN2 : Hid (reads n lo ((rowsOf l.segs).take (i + 1)) = some (ts ++ [⟨lo + (i : Int),tk,tc,tg,tm⟩])) := by show _ = _; rw [HTK.out]; exact HER.out
        have HAB := hid (SrcMath.above_snoc (L := lsn) (T := T0) (ts := ts) (t := ⟨lo + (i : Int),tk,tc,tg,tm⟩))
        by_cases hls : lsn < lo + (i : Int)
        ·have HAB2 : Hid (above lsn T0 (ts ++ [⟨lo + (i : Int),tk,tc,tg,tm⟩]) = Tbl.doAll (above lsn T0 ts) tc) := by show _ = _; rw [HAB.out,if_pos hls]
         have HM2 : Hid (Tbl.Most (Tbl.doAll (above lsn T0 ts) tc) (1000 + 16 * (i + 1))) := SrcMath.most_doAll HMO.out HTB.out (by
          have h1 := (TxnMath.may_of HMT.out).chs
          dsimp only at h1
          omega)
         have hd1 : decide (lsn < lo + (i : Int)) = true := decide_eq_true hls
         have c0 := HS3.out.cells.1
         have x2 : w3.cell? ⟨w2.heap.size,2,none⟩ = some (.slice A nn c) := HX3.out.cell 2
         have hsw : SrcAt (Win T w1.heap.size w3.heap.size) w3 s p g gd ⟨l,above lsn T0 ts,file,lsn⟩ d := HS1.out.win HB3.out
         have hnw : New (Win T w1.heap.size w3.heap.size) w3 := new_win (HT.out.le HT1.out.size) HB3.out.size
         obtain ⟨K2,hset,hK2,hbk2⟩ := hsw.sets hnw
         have hlK : Lies (fun j => ¬ K2 j) A nn := fun hn0 b off e hw => by
          have h3 := HOWN.out b (by rw [e]; rfl)
          have h4 : b < w1.heap.size \/ w3.heap.size <= b := (hK2 b hw).1.2
          have h5 := HB23.out.size
          omega
         have hcs3 : Chs w3 w3.heap.size A nn c tc := Row.more (Row.below HCH.out HB23.out) HB23.out.size
         have HAY := hid (fun j => Tbl.apply_set K2 p (above lsn T0 ts) (1000 + 16 * i) A nn c tc (w3.drewN j) (hset.new (below_drewN (Below.refl _ _) j)) (fun wr hr => row_turn (w := w3) hcs3 hlK ⟨hr.os,hr.tape,hr.output,hr.size,hr.block⟩) HMO.out (by omega))
         have HAP2 : Hid (Tbl.appl (above lsn T0 ts) tc = Tbl.doAll (above lsn T0 ts) tc) := SrcMath.appl_is HTB.out
         clear hset hK2 hlK hcs3 hsw hnw
         go_upto_region 8 with fail
         go_still_tail 6,(by kernel_rfl)
         go_wp2_with fail
         refine (HAY.out 1).mono ?_
         rintro e w7 ⟨rfl,h7,h8⟩
         obtain ⟨h9,h10⟩ := hbk2.out w7 _ h7 ⟨h8.os,h8.tape,h8.output,h8.size,h8.block⟩
         rw [HAP2.out] at h9
         have H9 := hid (h9.mono fun i (hi : Win T w1.heap.size w3.heap.size i) => hi.1)
         have H10 : Hid (Turn T w w7) := HT3.out.trans (h10.mono fun i hi => hi.1) fun i hi => .inl hi
         clear h7 h8 h9 h10
         go_wp2
         go_roundw
         case rel => exact ⟨i + 1,_,by go_num,by omega,HSN2.out,by rw [List.length_append,htl]; rfl,by rw [HAB2.out]; exact HM2.out,by rw [HAB2.out]; exact H9.out,H10.out⟩
         case measure => simp [RowKit.intOf]; omega
        ·have HAB2 : Hid (above lsn T0 (ts ++ [⟨lo + (i : Int),tk,tc,tg,tm⟩]) = above lsn T0 ts) := by show _ = _; rw [HAB.out,if_neg hls]
         have hd1 : decide (lsn < lo + (i : Int)) = false := decide_eq_false hls
         go_wp2
         go_roundw
         case rel => exact ⟨i + 1,_,by go_num,by omega,HSN2.out,by rw [List.length_append,htl]; rfl,by rw [HAB2.out]; exact fun t => Nat.le_trans (HMO.out t) (by omega),by rw [HAB2.out]; exact HS3.out,HT3.out⟩
         case measure => simp [RowKit.intOf]; omega
     ·have HER := hid (HNO.out (by rw [HEI2.out,if_neg (fun e => htl2 e.1)]))
      have hne : (tl != lo + (i : Int)) = true := by simpa using htl2
      clear htl2 HNO HSN HEI2
      go_wp2
      go_ret
      rw [HER.out]
      exact ⟨rfl,HSX.out.onDisk,HTX.out⟩
  ·obtain rfl : i = cnt := by omega
   have l1 : ¬ lo + (i : Int) <= hd := by omega
   have HRS : Hid (reads n lo (rowsOf l.segs) = some ts) := by
    have := HTS.out
    rwa [List.take_of_length_le (by rw [HCC.out]; exact Nat.le_refl _)] at this
   go_wp2
   go_ret
   rw [HRS.out]
   exact ⟨rfl,HS1.out,HT1.out⟩
end Src
namespace Src
open Go.RowKit Base
open Foot (Turn Out)
open DiskMath (Fl Dk)
open WalMath (Lg Sg Cap rowsOf)
open SrcMath (Sc So imgAt newest fileOf lsnOf other reads above tabs)
open ImgMath (Im)
open IdxMath (Rw)
open Wal (New Win DiskT Both)
open Tbl (SetAt)
open Img (OwnTabs Tabs)
theorem OwnTabs.turn {T : Nat -> Prop} {w w' : World} {base n c : Nat} {A : Option Addr} {R : List (List Rw)} (h : Img.OwnTabs w base A n c R) (ht : Turn T w w') (hT : ∀ j,base <= j -> j < w.heap.size -> ¬ T j) : Img.OwnTabs w' base A n c R := by
 obtain ⟨vs,h1,h2,h3⟩ := h
 refine ⟨vs,Foot.own_same h1 fun b e => ht.block b (h1.lt b e).2 (hT b (h1.lt b e).1 (h1.lt b e).2),h2,fun i v l hv hl => ?_⟩
 obtain ⟨A',n',c',e,ho⟩ := h3 i v l hv hl
 exact ⟨A',n',c',e,Foot.own_same ho fun b e => ht.block b (ho.lt b e).2 (hT b (ho.lt b e).1 (ho.lt b e).2)⟩
def LdRel (T : Nat -> Prop) (w : World) (s p g gd : Nat) (l : Lg) (R T0 : List (List Rw)) (d : Dk) (file lsn : Int) (n : Nat) (vi : Value) (wr : World) : Prop := ∃ k : Nat,vi = .int .i64 k /\ k <= n /\ SrcAt T wr s p g gd ⟨l,R.take k ++ T0.drop k,file,lsn⟩ d /\ Turn T w wr
theorem Loaded.mono {T T' : Nat -> Prop} {w w' : World} {s p g gd : Nat} {l : Lg} {d : Dk} {file lsn : Int} {r : Option (List (List Rw))} {e : Ending} {w0 : World} (h : Loaded T w s p g gd l d file lsn r e w') (hT : ∀ i,T i -> T' i) (ht : Turn T' w0 w) : Loaded T' w0 s p g gd l d file lsn r e w' := by
 cases r with
 | none =>
   obtain ⟨h1,⟨F,h2,h3⟩,h4⟩ := h
   exact ⟨h1,⟨F,h2,fun i hi => ⟨hT i (h3 i hi).1,(h3 i hi).2⟩⟩,ht.trans (h4.mono hT) fun i hi => .inl hi⟩
 | some T1 =>
   obtain ⟨h1,h2,h4⟩ := h
   exact ⟨h1,h2.mono hT,ht.trans (h4.mono hT) fun i hi => .inl hi⟩
theorem newest_tabs {n : Nat} {d : Dk} {f : Int} {i : Im} (h : newest n d = some (f,i)) : SrcMath.ImTabs i.tabs /\ i.tabs.length = n /\ 0 <= i.lsn /\ i.lsn <= 1099511627776 := by
 unfold newest at h
 have fin : ∀ {f0 : Int},imgAt n d f0 = some i -> SrcMath.ImTabs i.tabs /\ i.tabs.length = n /\ 0 <= i.lsn /\ i.lsn <= 1099511627776 := fun h0 => ⟨(SrcMath.imgAt_tabs h0).1,(SrcMath.imgAt_tabs h0).2,SrcMath.imgAt_lsn h0⟩
 cases h0 : imgAt n d 0 with
 | none =>
   rw [h0] at h
   cases h1 : imgAt n d 1 with
   | none => rw [h1] at h; cases h
   | some b =>
     rw [h1] at h
     injection h with h
     injection h with _ h
     subst h
     exact fin h1
 | some a =>
   rw [h0] at h
   cases h1 : imgAt n d 1 with
   | none =>
     rw [h1] at h
     injection h with h
     injection h with _ h
     subst h
     exact fin h0
   | some b =>
     rw [h1] at h
     dsimp only at h
     split at h
     ·injection h with h
      injection h with _ h
      subst h
      exact fin h1
     ·injection h with h
      injection h with _ h
      subst h
      exact fin h0
def loadM (l : Lg) (n : Nat) (im : Option (Int × Im)) : Option (List (List Rw)) := if WalMath.hd l.segs < lsnOf im \/ lsnOf im + 1 < WalMath.low l.segs then none else (reads n (WalMath.low l.segs) (rowsOf l.segs)).map (above (lsnOf im) (SrcMath.begun n im))
theorem load_any (T : Nat -> Prop) (s p g gd : Nat) (l : Lg) (d : Dk) (n k M : Nat) (w : World) (h : SrcAt T w s p g gd ⟨l,List.replicate n [],-1,0⟩ d) (hT : New T w) (ho : LOk l) (hn1 : 1 <= n) (hn8 : n <= 8) (hc : Cap k M d) (hM : M <= 140737488355328) (hfew : (rowsOf l.segs).length <= 1000000) :
 Calls Tryz.prog 38 #[.pointer (some ⟨s,0,none⟩)] w (Loaded T w s p g gd l d (fileOf (newest n d)) (lsnOf (newest n d)) (loadM l n (newest n d))) := by
 have hsl := h.lt
 have c0 := h.cells.1
 have HT := hid hT
 have HO := hid ho
 have HS := hid h
 have hbd := Wal.hd_bd ho.ok.2.2.2.2
 have hlb := low_bd ho
 have hlh := hd_cnt ho
 obtain ⟨K,hset,_⟩ := h.set
 have HD1 : Hid (Below w.heap.size w w.drew) := (Below.refl w.heap.size w).drew
 have HTA := hid (Tbl.tables_any K p _ w.drew (hset.new HD1.out))
 dsimp only at HTA
 rw [List.length_replicate] at HTA
 have HFI := hid (find_any (fun j => T j /\ j < w.heap.size) s p g gd l (List.replicate n []) d n k M w.drew (h.old.new HD1.out) hc hM hn1)
 have HIM := hid (fun (T1 : Nat -> Prop) wx R f1 l1 (hx : SrcAt T1 wx s p g gd ⟨l,R,f1,l1⟩ d) => image_any T1 s p g gd _ d wx hx)
 have HHD := hid (fun (T1 : Nat -> Prop) wx R f1 l1 (hx : SrcAt T1 wx s p g gd ⟨l,R,f1,l1⟩ d) => head_any T1 s p g gd _ d wx hx ho)
 have HLO := hid (fun (T1 : Nat -> Prop) wx R f1 l1 (hx : SrcAt T1 wx s p g gd ⟨l,R,f1,l1⟩ d) => low_any T1 s p g gd _ d wx hx)
 dsimp only at HIM HHD HLO
 have HIB : Hid (0 <= lsnOf (newest n d) /\ lsnOf (newest n d) <= 1099511627776 /\ (∀ f i,newest n d = some (f,i) -> SrcMath.ImTabs i.tabs /\ i.tabs.length = n)) := by
  cases hq : newest n d with
  | none => exact ⟨Int.le_refl 0,by show (0 : Int) <= _; omega,fun f i e => by cases e⟩
  | some x =>
    obtain ⟨f,i⟩ := x
    have := newest_tabs hq
    exact ⟨this.2.2.1,this.2.2.2,fun f' i' e => by injection e with e; injection e with _ e; subst e; exact ⟨this.1,this.2.1⟩⟩
 generalize newest n d = im at *
 have hib := HIB.out.1
 have hib2 := HIB.out.2.1
 obtain ⟨ls,hls⟩ : ∃ ls,lsnOf im = ls := ⟨_,rfl⟩
 obtain ⟨fi,hfi⟩ : ∃ fi,fileOf im = fi := ⟨_,rfl⟩
 have HLM : Hid (loadM l n im = if WalMath.hd l.segs < ls \/ ls + 1 < WalMath.low l.segs then none else (reads n (WalMath.low l.segs) (rowsOf l.segs)).map (above ls (SrcMath.begun n im))) := by show _ = _; unfold loadM; rw [hls]
 rw [hls,hfi]
 rw [hls] at hib hib2
 have HFA : Hid (∀ v w',FindAt (fun j => T j /\ j < w.heap.size) w.drew s p g gd l (List.replicate n []) d im v w' -> NewV w.heap.size w' v im /\ SrcAt (fun j => T j /\ j < w.heap.size) w' s p g gd ⟨l,List.replicate n [],fi,ls⟩ d /\ w.grownBy w' (some s)) := fun v w' hf => by
  obtain ⟨h1,h2,h3⟩ := hf
  rw [hls,hfi] at h2
  exact ⟨h1,h2,only_of_drew h3⟩
 clear h hT ho hset hls hfi hc
 generalize hhd : WalMath.hd l.segs = hd at *
 generalize hlo : WalMath.low l.segs = lo at *
 have HLW := hid hlo
 clear hhd hlo
 go_enter Tryz.func38,Tryz.ntmps38
 go_upto_region 1 with fail
 refine Go.wp_region_held_drew (S := fun w' => w'.cell? ⟨s,0,none⟩ = some (.pointer (some ⟨p,0,none⟩))) (by kernel_rfl) ((HD1.out.cell (p := ⟨s,0,none⟩) hsl).trans c0) (fun hHeld => ?_)
 refine wpAnyH_take (i := 0) (v := ?cv0) rfl (by kernel_rfl) (by kernel_rfl) (by kernel_rfl) (fun _ _ _ h => h) (Or.inl ⟨by rfl,?cy0⟩) (by assumption) ?cr0
 case cy0 => (intro w hSw; (try dsimp only at hSw); go_simp; try with_reducible rfl)
 try simp only [Act.put,Base.px]
 refine wpAnyH_take (i := 1) (v := ?cv1) rfl (by kernel_rfl) (by kernel_rfl) (by kernel_rfl) (fun _ _ _ h => h) (Or.inl ⟨by rfl,?cy1⟩) (by assumption) ?cr1
 case cy1 => (intro w hSw; (try dsimp only at hSw); go_simp; try with_reducible rfl)
 try simp only [Act.put,Base.px]
 refine wpAnyH_take (i := 2) (v := ?cv2) rfl (by kernel_rfl) (by kernel_rfl) (by kernel_rfl) (fun _ _ _ h => h) (Or.inl ⟨by rfl,?cy2⟩) (by assumption) ?cr2
 case cy2 => (intro w hSw; (try dsimp only at hSw); go_simp; try with_reducible rfl)
 try simp only [Act.put,Base.px]
 refine wpAnyH_take (i := 3) (v := ?cv3) rfl (by kernel_rfl) (by kernel_rfl) (by kernel_rfl) (fun _ _ _ h => h) (Or.inl ⟨by rfl,?cy3⟩) (by assumption) ?cr3
 case cy3 => (intro w hSw; (try dsimp only at hSw); go_simp; try with_reducible rfl)
 try simp only [Act.put,Base.px]
 refine wpAnyH_take (i := 4) (v := ?cv4) rfl (by kernel_rfl) (by kernel_rfl) (by kernel_rfl) (fun _ _ _ h => h) (Or.inl ⟨by rfl,?cy4⟩) (by assumption) ?cr4
 case cy4 => (intro w hSw; (try dsimp only at hSw); go_simp; try with_reducible rfl)
 try simp only [Act.put,Base.px]
 refine wpAnyH_take (i := 5) (v := ?cv5) rfl (by kernel_rfl) (by kernel_rfl) (by kernel_rfl) (fun _ _ _ h => h) (Or.inl ⟨by rfl,?cy5⟩) (by assumption) ?cr5
 case cy5 => (intro w hSw; (try dsimp only at hSw); go_simp; try with_reducible rfl)
 try simp only [Act.put,Base.px]
 refine wpAnyH_take (i := 6) (v := ?cv6) rfl (by kernel_rfl) (by kernel_rfl) (by kernel_rfl) (fun _ _ _ h => h) (Or.inl ⟨by rfl,?cy6⟩) (by assumption) ?cr6
 case cy6 => (intro w hSw; (try dsimp only at hSw); go_simp; try with_reducible rfl)
 try simp only [Act.put,Base.px]
 refine wpAnyH_ready (rs := [7]) (by kernel_rfl) (by simp) ?_
 refine AllReadyH.cons rfl (fun K hK => ?_) AllReadyH.nil
 go_simp
 go_at_call 40
 refine HTA.out.mono ?_
 rintro e wx ⟨rfl,rfl⟩
 refine hK.out _ _ ((HD1.out.cell (p := ⟨s,0,none⟩) hsl).trans c0) (fun hHeld => ?_)
 clear hK K
 try simp only [Act.put,Base.px]
 refine wpAnyH_ready (rs := [8]) (by kernel_rfl) (by simp) ?_
 refine AllReadyH.cons rfl (fun K hK => ?_) AllReadyH.nil
 go_simp
 go_at_call 97
 refine HFI.out.mono ?_
 rintro e w1 ⟨v,rfl,hfa⟩
 obtain ⟨h1,h2,h3⟩ := HFA.out _ _ hfa
 have HNV := hid h1
 have HS1 := hid h2
 have HG1 := hid h3
 have hz1 := h3.size
 refine hK.out _ _ (h2.cells.1) (fun hHeld => ?_)
 clear hK K h1 h2 h3 hfa HTA HFI HFA
 try simp only [Act.put,Base.px]
 refine wpAnyH_take (i := 9) (v := ?dv9) rfl (by kernel_rfl) (by kernel_rfl) (by kernel_rfl) (fun _ _ _ h => h) (Or.inl ⟨by rfl,?dy9⟩) (by assumption) ?dr9
 case dy9 => (intro w hSw; (try dsimp only at hSw); go_simp; try with_reducible rfl)
 try simp only [Act.put,Base.px]
 refine wpAnyH_done (by kernel_rfl) ?_ _
 have HT1 : Hid (Turn T w w1) := Turn.grown HG1.out fun j hj => by
  injection hj with hj
  subst hj
  obtain ⟨L,K,hP⟩ := HS.out
  exact hP.inS
 clear c0
 by_cases hb1 : hd < ls
 ·have HL2 : Hid (loadM l n im = none) := by show _ = _; rw [HLM.out,if_pos (.inl hb1)]
  clear HLM
  go_wp2_with fail
  refine (HIM.out _ _ _ _ _ HS1.out).mono ?_
  rintro e w2 ⟨rfl,rfl⟩
  go_wp2_with fail
  refine (HHD.out _ _ _ _ _ HS1.out).mono ?_
  rintro e w2 ⟨rfl,hb⟩
  have HB := hid hb
  clear hb
  go_wp2
  go_ret
  rw [HL2.out]
  exact ⟨rfl,((HS1.out.new HB.out).mono fun i hi => hi.1).onDisk,HT1.out.trans (F' := T) (Turn.new HB.out) fun i hi => .inl hi⟩
 by_cases hb2 : ls + 1 < lo
 ·have HL2 : Hid (loadM l n im = none) := by show _ = _; rw [HLM.out,if_pos (.inr hb2)]
  clear HLM
  go_wp2_with fail
  refine (HIM.out _ _ _ _ _ HS1.out).mono ?_
  rintro e w2 ⟨rfl,rfl⟩
  go_wp2_with fail
  refine (HHD.out _ _ _ _ _ HS1.out).mono ?_
  rintro e w2 ⟨rfl,hb⟩
  have HB := hid hb
  have HS2 := hid (HS1.out.new hb)
  clear hb
  go_wp2_with fail
  refine (HLO.out _ _ _ _ _ HS2.out).mono ?_
  rintro e w3 ⟨rfl,rfl⟩
  go_wp2_with fail
  refine (HIM.out _ _ _ _ _ HS2.out).mono ?_
  rintro e w3 ⟨rfl,rfl⟩
  go_wp2
  go_ret
  rw [HL2.out]
  exact ⟨rfl,((HS1.out.new HB.out).mono fun i hi => hi.1).onDisk,HT1.out.trans (F' := T) (Turn.new HB.out) fun i hi => .inl hi⟩
 have HL2 : Hid (loadM l n im = (reads n lo (rowsOf l.segs)).map (above ls (SrcMath.begun n im))) := by show _ = _; rw [HLM.out,if_neg (by omega)]
 clear HLM
 go_wp2_with fail
 refine (HIM.out _ _ _ _ _ HS1.out).mono ?_
 rintro e w2 ⟨rfl,rfl⟩
 go_wp2_with fail
 refine (HHD.out _ _ _ _ _ HS1.out).mono ?_
 rintro e w2 ⟨rfl,hb⟩
 have HB := hid hb
 have HS2 : Hid (SrcAt (Win T w.heap.size w2.heap.size) w2 s p g gd ⟨l,List.replicate n [],fi,ls⟩ d) := (HS1.out.new hb).mono fun i hi => ⟨hi.1,.inl hi.2⟩
 have HN2 : Hid (New (Win T w.heap.size w2.heap.size) w2) := fun i hi => ⟨HT.out i (by have := hb.size; omega),.inr hi⟩
 have HV2 := hid (HNV.out.keep hb)
 have HT2 : Hid (Turn T w w2) := HT1.out.trans (F' := T) (Turn.new hb) fun i hi => .inl hi
 clear hb HS1 HNV HT1 HG1
 go_wp2_with fail
 refine (HLO.out _ _ _ _ _ HS2.out).mono ?_
 rintro e w3 ⟨rfl,rfl⟩
 go_wp2_with fail
 refine (HIM.out _ _ _ _ _ HS2.out).mono ?_
 rintro e w3 ⟨rfl,rfl⟩
 cases im with
 | none =>
   have hv : v = .slice none 0 0 := HV2.out
   subst hv
   have HRP := hid (replay_any _ s p g gd l (List.replicate n []) d fi ls n w2 HS2.out HN2.out HO.out (by simp) (SrcMath.most_tabs fun r hr => by rw [(List.mem_replicate.1 hr).2]; simp) hfew)
   rw [HLW.out] at HRP
   have HBG : Hid (SrcMath.begun n none = List.replicate n []) := rfl
   have HTT := hid HT2.out
   generalize (List.replicate n [] : List (List Rw)) = RR at HRP HBG
   go_wp2
   go_loopw [30] (fun vi wr => vi = .int .i64 0 /\ wr = w2) (fun _ _ => 0)
   case atStart => exact ⟨rfl,rfl⟩
   case round =>
    obtain ⟨rfl,rfl⟩ := hrel
    go_wp2_with fail
    refine HRP.out.mono ?_
    intro e w4 hl
    replace hl := hl.mono (T' := T) (w0 := w) (fun i hi => hi.1) HTT.out
    rw [HBG.out] at HL2
    generalize (reads n lo (rowsOf l.segs)).map (above ls RR) = r at hl HL2
    cases r with
    | none =>
      obtain ⟨rfl,h2,h3⟩ := hl
      have H2 := hid h2
      have H3 := hid h3
      clear h2 h3
      go_wp2
      go_ret
      rw [HL2.out]
      exact ⟨rfl,H2.out,H3.out⟩
    | some r =>
      obtain ⟨rfl,h2,h3⟩ := hl
      have H2 := hid h2
      have H3 := hid h3
      clear h2 h3
      go_wp2
      go_ret
      rw [HL2.out]
      exact ⟨rfl,H2.out,H3.out⟩
 | some x =>
   obtain ⟨f,i⟩ := x
   obtain ⟨a,n',c',rfl,hot⟩ := HV2.out
   have hit := HIB.out.2.2 f i rfl
   have HIT := hid hit.1
   have hln := hot.len
   have hin := hit.2
   obtain rfl : n' = n := by omega
   have HOT := hid hot
   have HBG : Hid (SrcMath.begun n' (some (f,i)) = i.tabs) := rfl
   generalize i.tabs = RR at *
   have HRL := hid hin
   have HOR : Hid (∀ wr,Turn (Win T w.heap.size w2.heap.size) w2 wr -> OwnTabs wr w.heap.size (some a) n' c' RR) := fun wr ht => OwnTabs.turn HOT.out ht fun j h1 h2 hj => by
    have : j < w.heap.size \/ w2.heap.size <= j := hj.2
    omega
   have HLD := hid (fun wr R (h1 : SrcAt (Win T w.heap.size w2.heap.size) wr s p g gd ⟨l,R,fi,ls⟩ d) (h2 : w2.heap.size <= wr.heap.size) => h1.sets (HN2.out.le h2))
   have HRPA := hid (fun wr R (h1 : SrcAt (Win T w.heap.size w2.heap.size) wr s p g gd ⟨l,R,fi,ls⟩ d) (h2 : w2.heap.size <= wr.heap.size) (h3 : R.length = n') (h4 : Tbl.Most R 1000) => replay_any _ s p g gd l R d fi ls n' wr h1 (HN2.out.le h2) HO.out h3 h4 hfew)
   rw [HLW.out] at HRPA
   clear hot hit hln hin
   go_wp2
   go_loopw [30,4,5] (fun vi _ _ wr => LdRel (Win T w.heap.size w2.heap.size) w2 s p g gd l RR (List.replicate n' []) d fi ls n' vi wr) (fun vi _ _ _ => n' - (RowKit.intOf vi).toNat)
   case atStart => exact ⟨0,rfl,Nat.zero_le _,by simpa using HS2.out,Turn.refl _ _⟩
   case round =>
    obtain ⟨kk,rfl,hk,hsr,htu⟩ := hrel
    have HSR := hid hsr
    have HTU := hid htu
    have hzr := htu.size
    by_cases hlt : kk < n'
    ·obtain ⟨b,off,A',m',d',rr,hae,hb,hcell,hrs,hget,htake⟩ := (HOR.out wr htu).tabs.at_ hlt
     obtain rfl : a = ⟨b,off,none⟩ := Option.some.inj hae
     have HGET := hid hget
     have c0 := hsr.cells.1
     obtain ⟨K2,hset,hK2,hback⟩ := HLD.out wr _ hsr hzr
     have hmlen : rr.length = m' := hrs.len
     have hfr := HIT.out.few rr (List.mem_of_getElem? hget)
     have HLO2 := hid (Tbl.load_any K2 p _ (kk : Int) A' m' d' rr wr hset hrs (by omega))
     have HBK := hback
     have HNX := hid (SrcMath.load_next (T := List.replicate n' []) HIT.out.rise (by rw [HRL.out,List.length_replicate]) hget)
     clear hset hK2 hback hrs hget htake hmlen hfr hsr htu
     go_wp2_with fail
     refine HLO2.out.mono ?_
     rintro e w4 ⟨rfl,h4,h5⟩
     obtain ⟨h6,h7⟩ := HBK.out _ _ h4 h5
     rw [HNX.out] at h6
     have H6 := hid h6
     have H7 : Hid (Turn (Win T w.heap.size w2.heap.size) w2 w4) := HTU.out.trans h7 fun i hi => .inl hi
     clear h4 h5 h6 h7 hcell c0
     go_wp2
     go_roundw
     case rel => exact ⟨kk + 1,by go_num,by omega,H6.out,H7.out⟩
     case measure => simp [RowKit.intOf]; omega
    ·obtain rfl : kk = n' := by omega
     have hse : RR.take kk ++ (List.replicate kk ([] : List Rw)).drop kk = RR := by
      rw [List.take_of_length_le (by rw [HRL.out]; exact Nat.le_refl _),List.drop_of_length_le (by simp),List.append_nil]
     rw [hse] at hsr
     have HRP := hid (HRPA.out wr RR hsr hzr HRL.out (SrcMath.most_tabs HIT.out.few))
     have HTT : Hid (Turn T w wr) := HT2.out.trans (F' := T) (htu.mono fun i hi => hi.1) fun i hi => .inl hi
     clear hse hsr htu
     go_wp2_with fail
     refine HRP.out.mono ?_
     intro e w4 hl
     replace hl := hl.mono (T' := T) (w0 := w) (fun i hi => hi.1) HTT.out
     rw [HBG.out] at HL2
     generalize (reads kk lo (rowsOf l.segs)).map (above ls RR) = r at hl HL2
     cases r with
     | none =>
       obtain ⟨rfl,h2,h3⟩ := hl
       have H2 := hid h2
       have H3 := hid h3
       clear h2 h3
       go_wp2
       go_ret
       rw [HL2.out]
       exact ⟨rfl,H2.out,H3.out⟩
     | some r =>
       obtain ⟨rfl,h2,h3⟩ := hl
       have H2 := hid h2
       have H3 := hid h3
       clear h2 h3
       go_wp2
       go_ret
       rw [HL2.out]
       exact ⟨rfl,H2.out,H3.out⟩
end Src
end Go.Proofs.YtefnmnpfecfdaaaGreat
