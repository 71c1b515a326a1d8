/-
  SourceChunks: a table read chunk by chunk, each behind the last key of the one ahead, is the table; the law answers true and writes nothing that was there. No condition.
-/
import Derived.Test.YtefnmnpfecfdaaaGreatPc39
import Derived.ShutString
set_option linter.all false
set_option maxRecDepth 100000
set_option maxHeartbeats 25600000
open Go.Lib (hid)
namespace Go.Proofs.YtefnmnpfecfdaaaGreat
namespace Src
open Go.RowKit Base
open Foot (Turn Out)
open DiskMath (Fl Dk)
open WalMath (Lg Sg Cap rowsOf)
open SrcMath (Sc mayS imgAt newest fileOf lsnOf other reads entry above begun)
open ImgMath (Im)
open TxnMath (Tx Ch)
open IdxMath (Rw)
open Wal (New Win DiskT)
open Disk (DiskAt I64)
open Tbl (SetAt)
open Txn (Chs Sigs txv)
open Img (OwnTabs Tabs)
def Loaded (T : Nat -> Prop) (w : World) (s p g gd : Nat) (l : Lg) (d : Dk) (file lsn : Int) (r : Option (List (List Rw))) (e : Ending) (w' : World) : Prop := match r with
 | none => e = .returned (.bool false) /\ DiskT T w' gd d /\ Turn T w w'
 | some T' => e = .returned (.bool true) /\ SrcAt T w' s p g gd ⟨l,T',file,lsn⟩ d /\ Turn T w w'
def RepRel (T : Nat -> Prop) (w : World) (s p g gd : Nat) (l : Lg) (T0 : List (List Rw)) (d : Dk) (file lsn : Int) (lo : Int) (cnt n : Nat) (v3 : Value) (wr : World) : Prop :=
 ∃ (i : Nat) (ts : List Tx),v3 = .int .i64 (lo + i) /\ i <= cnt /\ reads n lo ((rowsOf l.segs).take i) = some ts /\ ts.length = i /\ Tbl.Most (above lsn T0 ts) (1000 + 16 * i) /\ SrcAt T wr s p g gd ⟨l,above lsn T0 ts,file,lsn⟩ d /\ Turn T w wr
theorem hd_cnt {l : Lg} (ho : LOk l) : WalMath.hd l.segs = WalMath.low l.segs + (rowsOf l.segs).length - 1 := by
 by_cases h : l.segs = []
 ·rw [h]; rfl
 ·exact WalMath.runs_hd ho.runs h
theorem entry_get {l : Lg} (ho : LOk l) {i : Nat} (hi : i < (rowsOf l.segs).length) : Wal.entry l.segs (WalMath.low l.segs + i) = (rowsOf l.segs)[i]? := by
 have := hd_cnt ho
 unfold Wal.entry
 rw [if_pos ⟨by omega,by omega⟩,show (WalMath.low l.segs + (i : Int) - WalMath.low l.segs).toNat = i by omega]
theorem low_bd {l : Lg} (ho : LOk l) : 1 <= WalMath.low l.segs := by
 have h := ho.ok.2.2.2.2
 cases hs : l.segs with
 | nil => exact Int.le_refl _
 | cons x r => rw [hs] at h; exact (h x List.mem_cons_self).2.2.1
theorem replay_any (T : Nat -> Prop) (s p g gd : Nat) (l : Lg) (T0 : List (List Rw)) (d : Dk) (file lsn : Int) (n : Nat) (w : World) (h : SrcAt T w s p g gd ⟨l,T0,file,lsn⟩ d) (hT : New T w) (ho : LOk l) (hn : T0.length = n) (hmost : Tbl.Most T0 1000) (hfew : (rowsOf l.segs).length <= 1000000) :
 Calls Tryz.prog 99 #[.pointer (some ⟨s,0,none⟩)] w (Loaded T w s p g gd l d file lsn ((reads n (WalMath.low l.segs) (rowsOf l.segs)).map (above lsn T0))) := by
 have HS := hid h
 have HT := hid hT
 have HO := hid ho
 have hbd := Wal.hd_bd ho.ok.2.2.2.2
 have hcn := hd_cnt ho
 have hlb := low_bd ho
 have HEG := hid (fun i (hi : i < (rowsOf l.segs).length) => entry_get ho hi)
 have HLO := hid (low_any T s p g gd _ d w h)
 have HHD := hid (fun wx T1 (hx : SrcAt T wx s p g gd ⟨l,T1,file,lsn⟩ d) => head_any T s p g gd _ d wx hx ho)
 have HIM := hid (fun wx T1 (hx : SrcAt T wx s p g gd ⟨l,T1,file,lsn⟩ d) => image_any T s p g gd _ d wx hx)
 have HRD := hid (fun wx T1 i (hx : SrcAt T wx s p g gd ⟨l,T1,file,lsn⟩ d) => read_any T s p g gd _ d (WalMath.low l.segs + (i : Nat)) wx hx ho)
 dsimp only at HLO HHD HRD HIM
 generalize hlo : WalMath.low l.segs = lo at *
 generalize hhd : WalMath.hd l.segs = hd at *
 generalize hcc : (rowsOf l.segs).length = cnt at *
 have HCC := hid hcc
 clear h hT ho hlo hhd hcc
 go_enter Tryz.func99,Tryz.ntmps99
 go_wp2_with fail
 refine HLO.out.mono ?_
 rintro e w1 ⟨rfl,rfl⟩
 clear HLO
 go_wp2
 go_loopw [3] (fun v3 wr => RepRel T w s p g gd l T0 d file lsn lo cnt n v3 wr) (fun v3 _ => (hd + 1 - RowKit.intOf v3).toNat)
 case atStart => exact ⟨0,[],by simp,Nat.zero_le _,by rw [List.take_zero]; rfl,rfl,by simpa [SrcMath.above_nil] using hmost,by rw [SrcMath.above_nil]; exact HS.out,Turn.refl _ _⟩
 case round =>
  obtain ⟨i,ts,rfl,hi,hts,htl,hmo,hsr,htu⟩ := hrel
  have HTS := hid hts
  have HMO := hid hmo
  have HSR := hid hsr
  have HTU := hid htu
  clear hts hmo hsr htu hmost HS
  have HTN := hid (HT.out.le HTU.out.size)
  go_wp2_with fail
  refine (HHD.out _ _ HSR.out).mono ?_
  rintro e w1 ⟨rfl,hb1⟩
  have HS1 := hid (HSR.out.new hb1)
  have HT1 : Hid (Turn T w w1) := HTU.out.trans (F' := T) (Turn.new hb1) fun i hi => .inl hi
  clear hb1
  by_cases hlt : i < cnt
  ·have l1 : lo + (i : Int) <= hd := by omega
   obtain ⟨b,hb⟩ : ∃ b,(rowsOf l.segs)[i]? = some b := ⟨_,List.getElem?_eq_getElem (by rw [HCC.out]; exact hlt)⟩
   have HRI := hid (HRD.out w1 _ i HS1.out)
   rw [HEG.out i hlt,hb] at HRI
   have HSN := hid (fun t (ht : entry n (lo + (i : Int)) b = some t) => SrcMath.reads_snoc HTS.out (b := b) (t := t) (by rw [List.length_take,HCC.out,Nat.min_eq_left (by omega)]; exact ht))
   have HTK : Hid ((rowsOf l.segs).take (i + 1) = (rowsOf l.segs).take i ++ [b]) := by show _ = _; rw [List.take_succ,hb]; rfl
   have HNO := hid (fun (ht : entry n (lo + (i : Int)) b = none) => show reads n lo (rowsOf l.segs) = none by
    have h3 := SrcMath.reads_stop (n := n) (x := lo) (l := (rowsOf l.segs).take i) (b := b) (r := (rowsOf l.segs).drop (i + 1)) (by rw [List.length_take,HCC.out,Nat.min_eq_left (by omega)]; exact ht)
    obtain ⟨h4,h5⟩ := List.getElem?_eq_some_iff.1 hb
    rwa [<- h5,<- List.drop_eq_getElem_cons h4,List.take_append_drop] at h3)
   have HEI := hid (SrcMath.entry_is (n := n) (num := lo + (i : Int)) (b := b))
   clear hb
   go_wp2_with fail
   refine HRI.out.mono ?_
   intro e w2 hr2
   replace hr2 : Txn.DecO w1 b e w2 := hr2
   unfold Txn.DecO at hr2
   cases hdt : TxnMath.decT b with
   | error er =>
     rw [hdt] at HEI
     have HER := hid (HNO.out HEI.out)
     rw [hdt] at hr2
     obtain ⟨A,nn,c,A',n',c',rfl,hchs,hsigs,hb2⟩ := hr2
     have herr : ((er : Int) != 0) = true := by
      have := SrcMath.decT_err hdt
      simp
      omega
     have HSD := hid (HS1.out.new hb2)
     have HTD : Hid (Turn T w w2) := HT1.out.trans (F' := T) (Turn.new hb2) fun i hi => .inl hi
     clear hchs hsigs hb2 hdt HRI HNO HSN
     simp only [FieldMath.err]
     unfold txv
     go_wp2
     go_ret
     rw [HER.out]
     exact ⟨rfl,HSD.out.onDisk.new ((Below.refl _ _).alloc (Nat.le_refl _) _),HTD.out.alloc _⟩
   | ok t =>
     rw [hdt] at HEI hr2
     obtain ⟨A,nn,c,A',n',c',rfl,hochs,hosigs,hb2⟩ := hr2
     have hchs : Chs w2 w2.heap.size A nn c (Txn.gotX (.ok t : Except Nat Tx)).chs := Row.of_own hochs
     have hsigs : Sigs w2 w2.heap.size A' n' c' (Txn.gotX (.ok t : Except Nat Tx)).sigs := Row.of_own hosigs
     have HOWN : Hid (∀ b,(Value.slice A nn c).ownBlock = some b -> w1.heap.size <= b /\ b < w2.heap.size) := fun b e => hochs.lt b e
     have hmt := (TxnMath.decT_ok hdt).1
     have HMT := hid hmt
     have HS2 := hid (HS1.out.new hb2)
     have HT2 : Hid (Turn T w w2) := HT1.out.trans (F' := T) (Turn.new hb2) fun i hi => .inl hi
     have HCH := hid hchs
     have HSG := hid hsigs
     have HB2 := hid hb2
     have hnl : nn <= 16 := by
      have h1 := (TxnMath.may_of hmt).chs
      have h2 := hchs.len
      have h3 : (Txn.gotX (.ok t : Except Nat Tx)).chs = t.chs := rfl
      rw [h3] at h2
      omega
     clear hchs hsigs hochs hosigs hb2 hdt hmt HRI
     have HEI2 : Hid (entry n (lo + (i : Int)) b = if t.lsn = lo + (i : Int) /\ mayS n t = true then some t else none) := HEI.out
     clear HEI
     simp only [FieldMath.err,Txn.gotX] at HCH HSG ⊢
     unfold txv
     obtain ⟨tl,tk,tc,tg,tm⟩ := t
     dsimp only at *
     have HX : Hid (Blk (w2.alloc (.cells #[.int .i64 tl,.int .i64 tk,.slice A nn c,.slice A' n' c',.int .i64 tm] 39)) w2.heap.size 39 #[.int .i64 tl,.int .i64 tk,.slice A nn c,.slice A' n' c',.int .i64 tm]) := Blk.new _ _ _
     have HBX : Hid (Below w2.heap.size w2 (w2.alloc (.cells #[.int .i64 tl,.int .i64 tk,.slice A nn c,.slice A' n' c',.int .i64 tm] 39))) := (Below.refl _ _).alloc (Nat.le_refl _) _
     have HSX := hid (HS2.out.new HBX.out)
     have HTX : Hid (Turn T w (w2.alloc (.cells #[.int .i64 tl,.int .i64 tk,.slice A nn c,.slice A' n' c',.int .i64 tm] 39))) := HT2.out.alloc _
     by_cases htl2 : tl = lo + (i : Int)
     ·subst htl2
      have HMY := hid (may_any T s p g gd _ d w2.heap.size (lo + (i : Int)) tk tm A nn c tc A' n' c' tg _ HSX.out (HCH.out.below HBX.out) (HSG.out.below HBX.out) HBX.out.size)
      dsimp only at HMY
      rw [show (above lsn T0 ts).length = n by rw [SrcMath.above_length]; exact hn] at HMY
      unfold txv at HMY
      cases hmy : mayS n ⟨lo + (i : Int),tk,tc,tg,tm⟩ with
      | false =>
        have HER := hid (HNO.out (by rw [HEI2.out,if_neg (by rw [hmy]; simp)]))
        rw [hmy] at HMY
        clear hmy HNO HSN HEI2
        go_wp2_with fail
        refine HMY.out.mono ?_
        rintro e w3 ⟨rfl,hb3⟩
        have HSD := hid (HSX.out.new hb3)
        have HTD : Hid (Turn T w w3) := HTX.out.trans (F' := T) (Turn.new hb3) fun i hi => .inl hi
        clear hb3
        go_wp2
        go_ret
        rw [HER.out]
        exact ⟨rfl,HSD.out.onDisk,HTD.out⟩
      | true =>
        have HER := hid (HSN.out _ (by rw [HEI2.out,if_pos ⟨rfl,hmy⟩]))
        have htb : ∀ c ∈ tc,0 <= c.tbl /\ c.tbl < ((above lsn T0 ts).length : Int) := fun c hc => by
         have h3 := SrcMath.may_tbl HMT.out c hc
         rw [SrcMath.mayS_of HMT.out] at hmy
         have h4 := List.all_eq_true.1 hmy c hc
         rw [decide_eq_true_eq] at h4
         rw [SrcMath.above_length,hn]
         exact ⟨h3.1,h4⟩
        have HTB := hid htb
        rw [hmy] at HMY
        clear hmy HNO HSN HEI2 htb
        go_wp2_with fail
        refine HMY.out.mono ?_
        rintro e w3 ⟨rfl,hb3⟩
        have HX3 := hid (HX.out.below hb3 (by simp))
        have HS3 := hid (HSX.out.new hb3)
        have HT3 : Hid (Turn T w w3) := HTX.out.trans (F' := T) (Turn.new hb3) fun i hi => .inl hi
        have HB3 : Hid (Below w1.heap.size w1 w3) := held_two (held_two HB2.out HBX.out) hb3
        have HB23 : Hid (Below w2.heap.size w2 w3) := held_two HBX.out hb3
        clear hb3 HX HSX HTX HBX HMY
        go_wp2_with fail
        refine (HIM.out _ _ HS3.out).mono ?_
        rintro e w4 ⟨rfl,rfl⟩
        have HSN2 : Hid (reads n lo ((rowsOf l.segs).take (i + 1)) = some (ts ++ [⟨lo + (i : Int),tk,tc,tg,tm⟩])) := by show _ = _; rw [HTK.out]; exact HER.out
        have HAB := hid (SrcMath.above_snoc (L := lsn) (T := T0) (ts := ts) (t := ⟨lo + (i : Int),tk,tc,tg,tm⟩))
        by_cases hls : lsn < lo + (i : Int)
        ·have HAB2 : Hid (above lsn T0 (ts ++ [⟨lo + (i : Int),tk,tc,tg,tm⟩]) = Tbl.doAll (above lsn T0 ts) tc) := by show _ = _; rw [HAB.out,if_pos hls]
         have HM2 : Hid (Tbl.Most (Tbl.doAll (above lsn T0 ts) tc) (1000 + 16 * (i + 1))) := SrcMath.most_doAll HMO.out HTB.out (by
          have h1 := (TxnMath.may_of HMT.out).chs
          dsimp only at h1
          omega)
         have hd1 : decide (lsn < lo + (i : Int)) = true := decide_eq_true hls
         have c0 := HS3.out.cells.1
         have x2 : w3.cell? ⟨w2.heap.size,2,none⟩ = some (.slice A nn c) := HX3.out.cell 2
         have hsw : SrcAt (Win T w1.heap.size w3.heap.size) w3 s p g gd ⟨l,above lsn T0 ts,file,lsn⟩ d := HS1.out.win HB3.out
         have hnw : New (Win T w1.heap.size w3.heap.size) w3 := new_win (HT.out.le HT1.out.size) HB3.out.size
         obtain ⟨K2,hset,hK2,hbk2⟩ := hsw.sets hnw
         have hlK : Lies (fun j => ¬ K2 j) A nn := fun hn0 b off e hw => by
          have h3 := HOWN.out b (by rw [e]; rfl)
          have h4 : b < w1.heap.size \/ w3.heap.size <= b := (hK2 b hw).1.2
          have h5 := HB23.out.size
          omega
         have hcs3 : Chs w3 w3.heap.size A nn c tc := Row.more (Row.below HCH.out HB23.out) HB23.out.size
         have HAY := hid (fun j => Tbl.apply_set K2 p (above lsn T0 ts) (1000 + 16 * i) A nn c tc (w3.drewN j) (hset.new (below_drewN (Below.refl _ _) j)) (fun wr hr => row_turn (w := w3) hcs3 hlK ⟨hr.os,hr.tape,hr.output,hr.size,hr.block⟩) HMO.out (by omega))
         have HAP2 : Hid (Tbl.appl (above lsn T0 ts) tc = Tbl.doAll (above lsn T0 ts) tc) := SrcMath.appl_is HTB.out
         clear hset hK2 hlK hcs3 hsw hnw
         go_upto_region 8 with fail
         go_still_tail 6,(by kernel_rfl)
         go_wp2_with fail
         refine (HAY.out 1).mono ?_
         rintro e w7 ⟨rfl,h7,h8⟩
         obtain ⟨h9,h10⟩ := hbk2.out w7 _ h7 ⟨h8.os,h8.tape,h8.output,h8.size,h8.block⟩
         rw [HAP2.out] at h9
         have H9 := hid (h9.mono fun i (hi : Win T w1.heap.size w3.heap.size i) => hi.1)
         have H10 : Hid (Turn T w w7) := HT3.out.trans (h10.mono fun i hi => hi.1) fun i hi => .inl hi
         clear h7 h8 h9 h10
         go_wp2
         go_roundw
         case rel => exact ⟨i + 1,_,by go_num,by omega,HSN2.out,by rw [List.length_append,htl]; rfl,by rw [HAB2.out]; exact HM2.out,by rw [HAB2.out]; exact H9.out,H10.out⟩
         case measure => simp [RowKit.intOf]; omega
        ·have HAB2 : Hid (above lsn T0 (ts ++ [⟨lo + (i : Int),tk,tc,tg,tm⟩]) = above lsn T0 ts) := by show _ = _; rw [HAB.out,if_neg hls]
         have hd1 : decide (lsn < lo + (i : Int)) = false := decide_eq_false hls
         go_wp2
         go_roundw
         case rel => exact ⟨i + 1,_,by go_num,by omega,HSN2.out,by rw [List.length_append,htl]; rfl,by rw [HAB2.out]; exact fun t => Nat.le_trans (HMO.out t) (by omega),by rw [HAB2.out]; exact HS3.out,HT3.out⟩
         case measure => simp [RowKit.intOf]; omega
     ·have HER := hid (HNO.out (by rw [HEI2.out,if_neg (fun e => htl2 e.1)]))
      have hne : (tl != lo + (i : Int)) = true := by simpa using htl2
      clear htl2 HNO HSN HEI2
      go_wp2
      go_ret
      rw [HER.out]
      exact ⟨rfl,HSX.out.onDisk,HTX.out⟩
  ·obtain rfl : i = cnt := by omega
   have l1 : ¬ lo + (i : Int) <= hd := by omega
   have HRS : Hid (reads n lo (rowsOf l.segs) = some ts) := by
    have := HTS.out
    rwa [List.take_of_length_le (by rw [HCC.out]; exact Nat.le_refl _)] at this
   go_wp2
   go_ret
   rw [HRS.out]
   exact ⟨rfl,HS1.out,HT1.out⟩
end Src
namespace Src
open Go.RowKit Base
open Foot (Turn Out)
open DiskMath (Fl Dk)
open WalMath (Lg Sg Cap rowsOf)
open SrcMath (Sc So imgAt newest fileOf lsnOf other reads above tabs)
open ImgMath (Im)
open IdxMath (Rw)
open Wal (New Win DiskT Both)
open Tbl (SetAt)
open Img (OwnTabs Tabs)
theorem OwnTabs.turn {T : Nat -> Prop} {w w' : World} {base n c : Nat} {A : Option Addr} {R : List (List Rw)} (h : Img.OwnTabs w base A n c R) (ht : Turn T w w') (hT : ∀ j,base <= j -> j < w.heap.size -> ¬ T j) : Img.OwnTabs w' base A n c R := by
 obtain ⟨vs,h1,h2,h3⟩ := h
 refine ⟨vs,Foot.own_same h1 fun b e => ht.block b (h1.lt b e).2 (hT b (h1.lt b e).1 (h1.lt b e).2),h2,fun i v l hv hl => ?_⟩
 obtain ⟨A',n',c',e,ho⟩ := h3 i v l hv hl
 exact ⟨A',n',c',e,Foot.own_same ho fun b e => ht.block b (ho.lt b e).2 (hT b (ho.lt b e).1 (ho.lt b e).2)⟩
def LdRel (T : Nat -> Prop) (w : World) (s p g gd : Nat) (l : Lg) (R T0 : List (List Rw)) (d : Dk) (file lsn : Int) (n : Nat) (vi : Value) (wr : World) : Prop := ∃ k : Nat,vi = .int .i64 k /\ k <= n /\ SrcAt T wr s p g gd ⟨l,R.take k ++ T0.drop k,file,lsn⟩ d /\ Turn T w wr
theorem Loaded.mono {T T' : Nat -> Prop} {w w' : World} {s p g gd : Nat} {l : Lg} {d : Dk} {file lsn : Int} {r : Option (List (List Rw))} {e : Ending} {w0 : World} (h : Loaded T w s p g gd l d file lsn r e w') (hT : ∀ i,T i -> T' i) (ht : Turn T' w0 w) : Loaded T' w0 s p g gd l d file lsn r e w' := by
 cases r with
 | none =>
   obtain ⟨h1,⟨F,h2,h3⟩,h4⟩ := h
   exact ⟨h1,⟨F,h2,fun i hi => ⟨hT i (h3 i hi).1,(h3 i hi).2⟩⟩,ht.trans (h4.mono hT) fun i hi => .inl hi⟩
 | some T1 =>
   obtain ⟨h1,h2,h4⟩ := h
   exact ⟨h1,h2.mono hT,ht.trans (h4.mono hT) fun i hi => .inl hi⟩
theorem newest_tabs {n : Nat} {d : Dk} {f : Int} {i : Im} (h : newest n d = some (f,i)) : SrcMath.ImTabs i.tabs /\ i.tabs.length = n /\ 0 <= i.lsn /\ i.lsn <= 1099511627776 := by
 unfold newest at h
 have fin : ∀ {f0 : Int},imgAt n d f0 = some i -> SrcMath.ImTabs i.tabs /\ i.tabs.length = n /\ 0 <= i.lsn /\ i.lsn <= 1099511627776 := fun h0 => ⟨(SrcMath.imgAt_tabs h0).1,(SrcMath.imgAt_tabs h0).2,SrcMath.imgAt_lsn h0⟩
 cases h0 : imgAt n d 0 with
 | none =>
   rw [h0] at h
   cases h1 : imgAt n d 1 with
   | none => rw [h1] at h; cases h
   | some b =>
     rw [h1] at h
     injection h with h
     injection h with _ h
     subst h
     exact fin h1
 | some a =>
   rw [h0] at h
   cases h1 : imgAt n d 1 with
   | none =>
     rw [h1] at h
     injection h with h
     injection h with _ h
     subst h
     exact fin h0
   | some b =>
     rw [h1] at h
     dsimp only at h
     split at h
     ·injection h with h
      injection h with _ h
      subst h
      exact fin h1
     ·injection h with h
      injection h with _ h
      subst h
      exact fin h0
def loadM (l : Lg) (n : Nat) (im : Option (Int × Im)) : Option (List (List Rw)) := if WalMath.hd l.segs < lsnOf im \/ lsnOf im + 1 < WalMath.low l.segs then none else (reads n (WalMath.low l.segs) (rowsOf l.segs)).map (above (lsnOf im) (SrcMath.begun n im))
theorem load_any (T : Nat -> Prop) (s p g gd : Nat) (l : Lg) (d : Dk) (n k M : Nat) (w : World) (h : SrcAt T w s p g gd ⟨l,List.replicate n [],-1,0⟩ d) (hT : New T w) (ho : LOk l) (hn1 : 1 <= n) (hn8 : n <= 8) (hc : Cap k M d) (hM : M <= 140737488355328) (hfew : (rowsOf l.segs).length <= 1000000) :
 Calls Tryz.prog 38 #[.pointer (some ⟨s,0,none⟩)] w (Loaded T w s p g gd l d (fileOf (newest n d)) (lsnOf (newest n d)) (loadM l n (newest n d))) := by
 have hsl := h.lt
 have c0 := h.cells.1
 have HT := hid hT
 have HO := hid ho
 have HS := hid h
 have hbd := Wal.hd_bd ho.ok.2.2.2.2
 have hlb := low_bd ho
 have hlh := hd_cnt ho
 obtain ⟨K,hset,_⟩ := h.set
 have HD1 : Hid (Below w.heap.size w w.drew) := (Below.refl w.heap.size w).drew
 have HTA := hid (Tbl.tables_any K p _ w.drew (hset.new HD1.out))
 dsimp only at HTA
 rw [List.length_replicate] at HTA
 have HFI := hid (find_any (fun j => T j /\ j < w.heap.size) s p g gd l (List.replicate n []) d n k M w.drew (h.old.new HD1.out) hc hM hn1)
 have HIM := hid (fun (T1 : Nat -> Prop) wx R f1 l1 (hx : SrcAt T1 wx s p g gd ⟨l,R,f1,l1⟩ d) => image_any T1 s p g gd _ d wx hx)
 have HHD := hid (fun (T1 : Nat -> Prop) wx R f1 l1 (hx : SrcAt T1 wx s p g gd ⟨l,R,f1,l1⟩ d) => head_any T1 s p g gd _ d wx hx ho)
 have HLO := hid (fun (T1 : Nat -> Prop) wx R f1 l1 (hx : SrcAt T1 wx s p g gd ⟨l,R,f1,l1⟩ d) => low_any T1 s p g gd _ d wx hx)
 dsimp only at HIM HHD HLO
 have HIB : Hid (0 <= lsnOf (newest n d) /\ lsnOf (newest n d) <= 1099511627776 /\ (∀ f i,newest n d = some (f,i) -> SrcMath.ImTabs i.tabs /\ i.tabs.length = n)) := by
  cases hq : newest n d with
  | none => exact ⟨Int.le_refl 0,by show (0 : Int) <= _; omega,fun f i e => by cases e⟩
  | some x =>
    obtain ⟨f,i⟩ := x
    have := newest_tabs hq
    exact ⟨this.2.2.1,this.2.2.2,fun f' i' e => by injection e with e; injection e with _ e; subst e; exact ⟨this.1,this.2.1⟩⟩
 generalize newest n d = im at *
 have hib := HIB.out.1
 have hib2 := HIB.out.2.1
 obtain ⟨ls,hls⟩ : ∃ ls,lsnOf im = ls := ⟨_,rfl⟩
 obtain ⟨fi,hfi⟩ : ∃ fi,fileOf im = fi := ⟨_,rfl⟩
 have HLM : Hid (loadM l n im = if WalMath.hd l.segs < ls \/ ls + 1 < WalMath.low l.segs then none else (reads n (WalMath.low l.segs) (rowsOf l.segs)).map (above ls (SrcMath.begun n im))) := by show _ = _; unfold loadM; rw [hls]
 rw [hls,hfi]
 rw [hls] at hib hib2
 have HFA : Hid (∀ v w',FindAt (fun j => T j /\ j < w.heap.size) w.drew s p g gd l (List.replicate n []) d im v w' -> NewV w.heap.size w' v im /\ SrcAt (fun j => T j /\ j < w.heap.size) w' s p g gd ⟨l,List.replicate n [],fi,ls⟩ d /\ w.grownBy w' (some s)) := fun v w' hf => by
  obtain ⟨h1,h2,h3⟩ := hf
  rw [hls,hfi] at h2
  exact ⟨h1,h2,only_of_drew h3⟩
 clear h hT ho hset hls hfi hc
 generalize hhd : WalMath.hd l.segs = hd at *
 generalize hlo : WalMath.low l.segs = lo at *
 have HLW := hid hlo
 clear hhd hlo
 go_enter Tryz.func38,Tryz.ntmps38
 go_upto_region 1 with fail
 refine Go.wp_region_held_drew (S := fun w' => w'.cell? ⟨s,0,none⟩ = some (.pointer (some ⟨p,0,none⟩))) (by kernel_rfl) ((HD1.out.cell (p := ⟨s,0,none⟩) hsl).trans c0) (fun hHeld => ?_)
 refine wpAnyH_take (i := 0) (v := ?cv0) rfl (by kernel_rfl) (by kernel_rfl) (by kernel_rfl) (fun _ _ _ h => h) (Or.inl ⟨by rfl,?cy0⟩) (by assumption) ?cr0
 case cy0 => (intro w hSw; (try dsimp only at hSw); go_simp; try with_reducible rfl)
 try simp only [Act.put,Base.px]
 refine wpAnyH_take (i := 1) (v := ?cv1) rfl (by kernel_rfl) (by kernel_rfl) (by kernel_rfl) (fun _ _ _ h => h) (Or.inl ⟨by rfl,?cy1⟩) (by assumption) ?cr1
 case cy1 => (intro w hSw; (try dsimp only at hSw); go_simp; try with_reducible rfl)
 try simp only [Act.put,Base.px]
 refine wpAnyH_take (i := 2) (v := ?cv2) rfl (by kernel_rfl) (by kernel_rfl) (by kernel_rfl) (fun _ _ _ h => h) (Or.inl ⟨by rfl,?cy2⟩) (by assumption) ?cr2
 case cy2 => (intro w hSw; (try dsimp only at hSw); go_simp; try with_reducible rfl)
 try simp only [Act.put,Base.px]
 refine wpAnyH_take (i := 3) (v := ?cv3) rfl (by kernel_rfl) (by kernel_rfl) (by kernel_rfl) (fun _ _ _ h => h) (Or.inl ⟨by rfl,?cy3⟩) (by assumption) ?cr3
 case cy3 => (intro w hSw; (try dsimp only at hSw); go_simp; try with_reducible rfl)
 try simp only [Act.put,Base.px]
 refine wpAnyH_take (i := 4) (v := ?cv4) rfl (by kernel_rfl) (by kernel_rfl) (by kernel_rfl) (fun _ _ _ h => h) (Or.inl ⟨by rfl,?cy4⟩) (by assumption) ?cr4
 case cy4 => (intro w hSw; (try dsimp only at hSw); go_simp; try with_reducible rfl)
 try simp only [Act.put,Base.px]
 refine wpAnyH_take (i := 5) (v := ?cv5) rfl (by kernel_rfl) (by kernel_rfl) (by kernel_rfl) (fun _ _ _ h => h) (Or.inl ⟨by rfl,?cy5⟩) (by assumption) ?cr5
 case cy5 => (intro w hSw; (try dsimp only at hSw); go_simp; try with_reducible rfl)
 try simp only [Act.put,Base.px]
 refine wpAnyH_take (i := 6) (v := ?cv6) rfl (by kernel_rfl) (by kernel_rfl) (by kernel_rfl) (fun _ _ _ h => h) (Or.inl ⟨by rfl,?cy6⟩) (by assumption) ?cr6
 case cy6 => (intro w hSw; (try dsimp only at hSw); go_simp; try with_reducible rfl)
 try simp only [Act.put,Base.px]
 refine wpAnyH_ready (rs := [7]) (by kernel_rfl) (by simp) ?_
 refine AllReadyH.cons rfl (fun K hK => ?_) AllReadyH.nil
 go_simp
 go_at_call 40
 refine HTA.out.mono ?_
 rintro e wx ⟨rfl,rfl⟩
 refine hK.out _ _ ((HD1.out.cell (p := ⟨s,0,none⟩) hsl).trans c0) (fun hHeld => ?_)
 clear hK K
 try simp only [Act.put,Base.px]
 refine wpAnyH_ready (rs := [8]) (by kernel_rfl) (by simp) ?_
 refine AllReadyH.cons rfl (fun K hK => ?_) AllReadyH.nil
 go_simp
 go_at_call 97
 refine HFI.out.mono ?_
 rintro e w1 ⟨v,rfl,hfa⟩
 obtain ⟨h1,h2,h3⟩ := HFA.out _ _ hfa
 have HNV := hid h1
 have HS1 := hid h2
 have HG1 := hid h3
 have hz1 := h3.size
 refine hK.out _ _ (h2.cells.1) (fun hHeld => ?_)
 clear hK K h1 h2 h3 hfa HTA HFI HFA
 try simp only [Act.put,Base.px]
 refine wpAnyH_take (i := 9) (v := ?dv9) rfl (by kernel_rfl) (by kernel_rfl) (by kernel_rfl) (fun _ _ _ h => h) (Or.inl ⟨by rfl,?dy9⟩) (by assumption) ?dr9
 case dy9 => (intro w hSw; (try dsimp only at hSw); go_simp; try with_reducible rfl)
 try simp only [Act.put,Base.px]
 refine wpAnyH_done (by kernel_rfl) ?_ _
 have HT1 : Hid (Turn T w w1) := Turn.grown HG1.out fun j hj => by
  injection hj with hj
  subst hj
  obtain ⟨L,K,hP⟩ := HS.out
  exact hP.inS
 clear c0
 by_cases hb1 : hd < ls
 ·have HL2 : Hid (loadM l n im = none) := by show _ = _; rw [HLM.out,if_pos (.inl hb1)]
  clear HLM
  go_wp2_with fail
  refine (HIM.out _ _ _ _ _ HS1.out).mono ?_
  rintro e w2 ⟨rfl,rfl⟩
  go_wp2_with fail
  refine (HHD.out _ _ _ _ _ HS1.out).mono ?_
  rintro e w2 ⟨rfl,hb⟩
  have HB := hid hb
  clear hb
  go_wp2
  go_ret
  rw [HL2.out]
  exact ⟨rfl,((HS1.out.new HB.out).mono fun i hi => hi.1).onDisk,HT1.out.trans (F' := T) (Turn.new HB.out) fun i hi => .inl hi⟩
 by_cases hb2 : ls + 1 < lo
 ·have HL2 : Hid (loadM l n im = none) := by show _ = _; rw [HLM.out,if_pos (.inr hb2)]
  clear HLM
  go_wp2_with fail
  refine (HIM.out _ _ _ _ _ HS1.out).mono ?_
  rintro e w2 ⟨rfl,rfl⟩
  go_wp2_with fail
  refine (HHD.out _ _ _ _ _ HS1.out).mono ?_
  rintro e w2 ⟨rfl,hb⟩
  have HB := hid hb
  have HS2 := hid (HS1.out.new hb)
  clear hb
  go_wp2_with fail
  refine (HLO.out _ _ _ _ _ HS2.out).mono ?_
  rintro e w3 ⟨rfl,rfl⟩
  go_wp2_with fail
  refine (HIM.out _ _ _ _ _ HS2.out).mono ?_
  rintro e w3 ⟨rfl,rfl⟩
  go_wp2
  go_ret
  rw [HL2.out]
  exact ⟨rfl,((HS1.out.new HB.out).mono fun i hi => hi.1).onDisk,HT1.out.trans (F' := T) (Turn.new HB.out) fun i hi => .inl hi⟩
 have HL2 : Hid (loadM l n im = (reads n lo (rowsOf l.segs)).map (above ls (SrcMath.begun n im))) := by show _ = _; rw [HLM.out,if_neg (by omega)]
 clear HLM
 go_wp2_with fail
 refine (HIM.out _ _ _ _ _ HS1.out).mono ?_
 rintro e w2 ⟨rfl,rfl⟩
 go_wp2_with fail
 refine (HHD.out _ _ _ _ _ HS1.out).mono ?_
 rintro e w2 ⟨rfl,hb⟩
 have HB := hid hb
 have HS2 : Hid (SrcAt (Win T w.heap.size w2.heap.size) w2 s p g gd ⟨l,List.replicate n [],fi,ls⟩ d) := (HS1.out.new hb).mono fun i hi => ⟨hi.1,.inl hi.2⟩
 have HN2 : Hid (New (Win T w.heap.size w2.heap.size) w2) := fun i hi => ⟨HT.out i (by have := hb.size; omega),.inr hi⟩
 have HV2 := hid (HNV.out.keep hb)
 have HT2 : Hid (Turn T w w2) := HT1.out.trans (F' := T) (Turn.new hb) fun i hi => .inl hi
 clear hb HS1 HNV HT1 HG1
 go_wp2_with fail
 refine (HLO.out _ _ _ _ _ HS2.out).mono ?_
 rintro e w3 ⟨rfl,rfl⟩
 go_wp2_with fail
 refine (HIM.out _ _ _ _ _ HS2.out).mono ?_
 rintro e w3 ⟨rfl,rfl⟩
 cases im with
 | none =>
   have hv : v = .slice none 0 0 := HV2.out
   subst hv
   have HRP := hid (replay_any _ s p g gd l (List.replicate n []) d fi ls n w2 HS2.out HN2.out HO.out (by simp) (SrcMath.most_tabs fun r hr => by rw [(List.mem_replicate.1 hr).2]; simp) hfew)
   rw [HLW.out] at HRP
   have HBG : Hid (SrcMath.begun n none = List.replicate n []) := rfl
   have HTT := hid HT2.out
   generalize (List.replicate n [] : List (List Rw)) = RR at HRP HBG
   go_wp2
   go_loopw [30] (fun vi wr => vi = .int .i64 0 /\ wr = w2) (fun _ _ => 0)
   case atStart => exact ⟨rfl,rfl⟩
   case round =>
    obtain ⟨rfl,rfl⟩ := hrel
    go_wp2_with fail
    refine HRP.out.mono ?_
    intro e w4 hl
    replace hl := hl.mono (T' := T) (w0 := w) (fun i hi => hi.1) HTT.out
    rw [HBG.out] at HL2
    generalize (reads n lo (rowsOf l.segs)).map (above ls RR) = r at hl HL2
    cases r with
    | none =>
      obtain ⟨rfl,h2,h3⟩ := hl
      have H2 := hid h2
      have H3 := hid h3
      clear h2 h3
      go_wp2
      go_ret
      rw [HL2.out]
      exact ⟨rfl,H2.out,H3.out⟩
    | some r =>
      obtain ⟨rfl,h2,h3⟩ := hl
      have H2 := hid h2
      have H3 := hid h3
      clear h2 h3
      go_wp2
      go_ret
      rw [HL2.out]
      exact ⟨rfl,H2.out,H3.out⟩
 | some x =>
   obtain ⟨f,i⟩ := x
   obtain ⟨a,n',c',rfl,hot⟩ := HV2.out
   have hit := HIB.out.2.2 f i rfl
   have HIT := hid hit.1
   have hln := hot.len
   have hin := hit.2
   obtain rfl : n' = n := by omega
   have HOT := hid hot
   have HBG : Hid (SrcMath.begun n' (some (f,i)) = i.tabs) := rfl
   generalize i.tabs = RR at *
   have HRL := hid hin
   have HOR : Hid (∀ wr,Turn (Win T w.heap.size w2.heap.size) w2 wr -> OwnTabs wr w.heap.size (some a) n' c' RR) := fun wr ht => OwnTabs.turn HOT.out ht fun j h1 h2 hj => by
    have : j < w.heap.size \/ w2.heap.size <= j := hj.2
    omega
   have HLD := hid (fun wr R (h1 : SrcAt (Win T w.heap.size w2.heap.size) wr s p g gd ⟨l,R,fi,ls⟩ d) (h2 : w2.heap.size <= wr.heap.size) => h1.sets (HN2.out.le h2))
   have HRPA := hid (fun wr R (h1 : SrcAt (Win T w.heap.size w2.heap.size) wr s p g gd ⟨l,R,fi,ls⟩ d) (h2 : w2.heap.size <= wr.heap.size) (h3 : R.length = n') (h4 : Tbl.Most R 1000) => replay_any _ s p g gd l R d fi ls n' wr h1 (HN2.out.le h2) HO.out h3 h4 hfew)
   rw [HLW.out] at HRPA
   clear hot hit hln hin
   go_wp2
   go_loopw [30,4,5] (fun vi _ _ wr => LdRel (Win T w.heap.size w2.heap.size) w2 s p g gd l RR (List.replicate n' []) d fi ls n' vi wr) (fun vi _ _ _ => n' - (RowKit.intOf vi).toNat)
   case atStart => exact ⟨0,rfl,Nat.zero_le _,by simpa using HS2.out,Turn.refl _ _⟩
   case round =>
    obtain ⟨kk,rfl,hk,hsr,htu⟩ := hrel
    have HSR := hid hsr
    have HTU := hid htu
    have hzr := htu.size
    by_cases hlt : kk < n'
    ·obtain ⟨b,off,A',m',d',rr,hae,hb,hcell,hrs,hget,htake⟩ := (HOR.out wr htu).tabs.at_ hlt
     obtain rfl : a = ⟨b,off,none⟩ := Option.some.inj hae
     have HGET := hid hget
     have c0 := hsr.cells.1
     obtain ⟨K2,hset,hK2,hback⟩ := HLD.out wr _ hsr hzr
     have hmlen : rr.length = m' := hrs.len
     have hfr := HIT.out.few rr (List.mem_of_getElem? hget)
     have HLO2 := hid (Tbl.load_any K2 p _ (kk : Int) A' m' d' rr wr hset hrs (by omega))
     have HBK := hback
     have HNX := hid (SrcMath.load_next (T := List.replicate n' []) HIT.out.rise (by rw [HRL.out,List.length_replicate]) hget)
     clear hset hK2 hback hrs hget htake hmlen hfr hsr htu
     go_wp2_with fail
     refine HLO2.out.mono ?_
     rintro e w4 ⟨rfl,h4,h5⟩
     obtain ⟨h6,h7⟩ := HBK.out _ _ h4 h5
     rw [HNX.out] at h6
     have H6 := hid h6
     have H7 : Hid (Turn (Win T w.heap.size w2.heap.size) w2 w4) := HTU.out.trans h7 fun i hi => .inl hi
     clear h4 h5 h6 h7 hcell c0
     go_wp2
     go_roundw
     case rel => exact ⟨kk + 1,by go_num,by omega,H6.out,H7.out⟩
     case measure => simp [RowKit.intOf]; omega
    ·obtain rfl : kk = n' := by omega
     have hse : RR.take kk ++ (List.replicate kk ([] : List Rw)).drop kk = RR := by
      rw [List.take_of_length_le (by rw [HRL.out]; exact Nat.le_refl _),List.drop_of_length_le (by simp),List.append_nil]
     rw [hse] at hsr
     have HRP := hid (HRPA.out wr RR hsr hzr HRL.out (SrcMath.most_tabs HIT.out.few))
     have HTT : Hid (Turn T w wr) := HT2.out.trans (F' := T) (htu.mono fun i hi => hi.1) fun i hi => .inl hi
     clear hse hsr htu
     go_wp2_with fail
     refine HRP.out.mono ?_
     intro e w4 hl
     replace hl := hl.mono (T' := T) (w0 := w) (fun i hi => hi.1) HTT.out
     rw [HBG.out] at HL2
     generalize (reads kk lo (rowsOf l.segs)).map (above ls RR) = r at hl HL2
     cases r with
     | none =>
       obtain ⟨rfl,h2,h3⟩ := hl
       have H2 := hid h2
       have H3 := hid h3
       clear h2 h3
       go_wp2
       go_ret
       rw [HL2.out]
       exact ⟨rfl,H2.out,H3.out⟩
     | some r =>
       obtain ⟨rfl,h2,h3⟩ := hl
       have H2 := hid h2
       have H3 := hid h3
       clear h2 h3
       go_wp2
       go_ret
       rw [HL2.out]
       exact ⟨rfl,H2.out,H3.out⟩
end Src
namespace Src
open Go.RowKit Base
open Foot (Turn Out)
open DiskMath (Fl Dk)
open WalMath (Lg Sg Cap rowsOf)
open SrcMath (Sc So newest fileOf lsnOf)
open IdxMath (Rw)
open Wal (New Win DiskT Both)
open Tbl (SetAt)
def OpenR (T : Nat -> Prop) (w : World) (gd : Nat) (r : So) (e : Ending) (w' : World) : Prop := match r.s with
 | none => e = .returned (.tuple #[.pointer none,.int .i64 r.e]) /\ DiskT T w' gd r.d /\ Turn T w w'
 | some S => ∃ s p g,e = .returned (.tuple #[.pointer (some ⟨s,0,none⟩),.int .i64 0]) /\ SrcAt T w' s p g gd S r.d /\ Turn T w w'
theorem open_bad {d : Dk} {n size : Int} (h : ¬ (1 <= n /\ n <= 8)) : SrcMath.open_ d n size = ⟨1,none,d⟩ := by unfold SrcMath.open_; rw [if_pos (by omega)]
theorem open_nolog {d d' : Dk} {n size e : Int} (h : 1 <= n /\ n <= 8) (ho : WalMath.open_ d 16 size = ⟨e,none,d'⟩) : SrcMath.open_ d n size = ⟨e,none,d'⟩ := by unfold SrcMath.open_; rw [if_neg (by omega),ho]
theorem open_err {d d' : Dk} {ba sz er : Int} (h : WalMath.open_ d ba sz = ⟨er,none,d'⟩) : er ≠ 0 := by
 unfold WalMath.open_ at h
 split at h
 ·injection h with h; omega
 ·split at h
  ·injection h with h; omega
  ·split at h
   ·injection h with h; omega
   ·unfold WalMath.mended at h
    split at h
    ·injection h with _ h; cases h
    ·next h1 => injection h with h; rw [<- h]; exact h1
theorem open_log {d d' : Dk} {n : Nat} {size e : Int} {l : Lg} (h1 : 1 <= n) (h8 : n <= 8) (ho : WalMath.open_ d 16 size = ⟨e,some l,d'⟩) (hs : ∀ s ∈ l.segs,Wal.SgOk s) :
 SrcMath.open_ d (n : Int) size = match loadM l n (newest n d') with
  | none => ⟨3,none,d'⟩
  | some T => ⟨0,some ⟨l,T,fileOf (newest n d'),lsnOf (newest n d')⟩,d'⟩ := by
 have hlow : 1 <= WalMath.low l.segs := by
  cases hq : l.segs with
  | nil => exact Int.le_refl _
  | cons x r => rw [hq] at hs; exact (hs x List.mem_cons_self).2.2.1
 unfold SrcMath.open_
 rw [if_neg (by omega),ho]
 dsimp only
 rw [show ((n : Int)).toNat = n from rfl]
 unfold loadM
 generalize newest n d' = im
 cases hr : SrcMath.reads n (WalMath.low l.segs) (rowsOf l.segs) with
 | none =>
   dsimp only
   by_cases hb : WalMath.hd l.segs < lsnOf im \/ lsnOf im + 1 < WalMath.low l.segs
   ·rw [if_pos hb]
   ·rw [if_neg hb]; rfl
 | some ts =>
   dsimp only
   by_cases hb : WalMath.hd l.segs < lsnOf im \/ lsnOf im + 1 < WalMath.low l.segs
   ·rw [if_pos hb,if_pos hb]
   ·rw [if_neg hb,if_neg hb]
    have : ∀ t ∈ ts,1 <= t.lsn := fun t ht => by
     have := SrcMath.reads_lsn hr t ht
     omega
    show _ = (⟨0,some ⟨l,SrcMath.above (lsnOf im) (SrcMath.begun n im) ts,fileOf im,lsnOf im⟩,d'⟩ : So)
    rw [SrcMath.tabs_is this]
theorem open_any (T : Nat -> Prop) (gd : Nat) (d : Dk) (k M : Nat) (n size : Int) (w : World) (h : DiskT T w gd d) (hT : New T w) (hc : Cap k M d) (hk : k <= 1000000) (hM : M <= 35184372088832) (hok : ∀ l,(WalMath.open_ d 16 size).l = some l -> LOk l /\ (rowsOf l.segs).length <= 1000000) :
 Calls Tryz.prog 8 #[.pointer (some ⟨gd,0,none⟩),.int .i64 n,.int .i64 size] w (OpenR T w gd (SrcMath.open_ d n size)) := by
 have HT := hid hT
 have HD := hid h
 have HC := hid hc
 have hc2 := hc.open__ 16 size
 have HC2 := hid hc2
 have HOK := hid hok
 clear h hT hc hc2 hok
 by_cases hn : 1 <= n /\ n <= 8
 ·obtain ⟨m,rfl⟩ := Int.eq_ofNat_of_zero_le (show 0 <= n by omega)
  have hm1 : 1 <= m := by omega
  have hm8 : m <= 8 := by omega
  go_enter Tryz.func8,Tryz.ntmps8
  go_wp2_with fail
  refine (Tbl.new_any (m : Int) w).mono ?_
  intro e w1 hmade
  unfold Tbl.Made at hmade
  rw [if_pos hn] at hmade
  obtain ⟨p,rfl,hset,hb1⟩ := hmade
  rw [Int.toNat_natCast] at hset
  have HSET := hid hset
  have HB1 := hid hb1
  have HD1 : Hid (DiskT (Win T w.heap.size w1.heap.size) w1 gd d) := by
   obtain ⟨F,h1,h2⟩ := HD.out
   exact ⟨F,h1.new hb1,fun i hi => ⟨⟨(h2 i hi).1,.inl (h2 i hi).2⟩,Nat.lt_of_lt_of_le (h2 i hi).2 hb1.size⟩⟩
  have HN1 := hid (new_win HT.out hb1.size)
  clear hset hb1
  go_wp2_with fail
  refine (Wal.open_any _ gd d k M 16 size w1 HD1.out HN1.out HC.out hk hM).mono ?_
  generalize hop : WalMath.open_ d 16 size = op at HOK HC2
  obtain ⟨er,ol,d'⟩ := op
  intro e w2 ho
  cases ol with
  | none =>
    have HE := hid (open_nolog hn hop)
    obtain ⟨rfl,h1,h2⟩ := ho
    have H1 : Hid (DiskT T w2 gd d') := by
     obtain ⟨F,h3,h4⟩ := h1
     exact ⟨F,h3,fun i hi => ⟨(h4 i hi).1.1,(h4 i hi).2⟩⟩
    have H2 : Hid (Turn T w w2) := (Turn.new HB1.out).trans (h2.mono fun i hi => hi.1) fun i hi => .inl hi
    have herr : (er != 0) = true := by simpa using open_err hop
    clear h1 h2
    go_wp2
    go_ret2
    rw [HE.out]
    exact ⟨rfl,H1.out,H2.out⟩
  | some l =>
    obtain ⟨g,rfl,hbo,hsg,h2⟩ := ho
    have HE := hid (open_log hm1 hm8 hop hsg)
    obtain ⟨hlok,hfew⟩ := HOK.out l rfl
    have HL := hid hlok
    have hz2 := h2.size
    have hz1 := HB1.out.size
    have H2 : Hid (Turn T w w2) := (Turn.new HB1.out).trans (h2.mono fun i hi => hi.1) fun i hi => .inl hi
    have HSR : Hid (SrcAt T (w2.alloc (.cells (scells p g gd ⟨l,List.replicate m [],-1,0⟩) 60)) w2.heap.size p g gd ⟨l,List.replicate m [],-1,0⟩ d') := by
     have hb3 : Below w2.heap.size w2 (w2.alloc (.cells (scells p g gd ⟨l,List.replicate m [],-1,0⟩) 60)) := (Below.refl _ _).alloc (Nat.le_refl _) _
     have hs2 : SetAt w2 (fun i => w.heap.size <= i /\ i < w1.heap.size) p (List.replicate m []) := HSET.out.keep hz2 fun i hi hk => h2.block i hi fun hw => by
      have : i < w.heap.size \/ w1.heap.size <= i := hw.2
      omega
     obtain ⟨F,G,h3,h4,h5,h6,h7⟩ := hbo
     refine ⟨fun i => Win T w.heap.size w1.heap.size i /\ i < w2.heap.size,fun i => w.heap.size <= i /\ i < w1.heap.size,Both.new ⟨F,G,h3,h4,h5,fun i hi => ⟨⟨(h6 i hi).1,(h6 i hi).2⟩,(h6 i hi).2⟩,fun i hi => ⟨⟨(h7 i hi).1,(h7 i hi).2⟩,(h7 i hi).2⟩⟩ hb3,hs2.new hb3,Blk.new _ _ _,fun i hi => ⟨hi.1.1,by simp; omega⟩,fun i hi => ⟨HT.out i hi.1,by simp; omega⟩,HT.out _ (by omega),fun i hi => ⟨fun hk => ?_,?_⟩,?_⟩
     ·have : i < w.heap.size \/ w1.heap.size <= i := hi.1.2
      omega
     ·exact Nat.ne_of_lt hi.2
     ·omega
    have HLO := hid (load_any T w2.heap.size p g gd l d' m (k + 1) M _ HSR.out (HT.out.le (by simp; omega)) hlok hm1 hm8 HC2.out (by omega) hfew)
    have H3 : Hid (Turn T w (w2.alloc (.cells (scells p g gd ⟨l,List.replicate m [],-1,0⟩) 60))) := H2.out.alloc _
    unfold scells SrcMath.other at HLO H3
    dsimp only at HLO H3
    rw [if_neg (show ¬ (-1 : Int) = 0 by decide)] at HLO H3
    clear hbo hsg h2 hlok hfew HSR
    generalize loadM l m (newest m d') = lm at *
    go_wp2_with fail
    refine HLO.out.mono ?_
    intro e w3 hl
    cases lm with
    | none =>
      obtain ⟨rfl,h4,h5⟩ := hl
      have H4 := hid h4
      have H5 : Hid (Turn T w w3) := H3.out.trans h5 fun i hi => .inl hi
      clear h4 h5
      go_wp2
      go_ret2
      rw [HE.out]
      exact ⟨rfl,H4.out,H5.out⟩
    | some T' =>
      obtain ⟨rfl,h4,h5⟩ := hl
      have H4 := hid h4
      have H5 : Hid (Turn T w w3) := H3.out.trans h5 fun i hi => .inl hi
      clear h4 h5
      go_wp2
      go_ret2
      rw [HE.out]
      exact ⟨_,p,g,rfl,H4.out,H5.out⟩
 ·have HE := hid (open_bad (d := d) (size := size) hn)
  go_enter Tryz.func8,Tryz.ntmps8
  go_wp2_with fail
  refine (Tbl.new_any n w).mono ?_
  intro e w1 hmade
  unfold Tbl.Made at hmade
  rw [if_neg hn] at hmade
  obtain ⟨rfl,rfl⟩ := hmade
  go_wp2
  go_ret2
  rw [HE.out]
  exact ⟨rfl,HD.out,Turn.refl _ _⟩
end Src
namespace SrcMath
open IdxMath TxnMath FoldMath PartMath
open ImgMath (Im imgB)
open DiskMath (Fl Dk Up)
open WalMath (Lg Sg rowsOf)
section
variable {n : Nat} {l r : List Tx} {sz : Int} {j : Nat} {s : Sc} {d : Dk} {f : Int} {x : Nat}
theorem chs_more {k : Nat} (hk : k <= l.length) : chs (l ++ r) k = chs l k := by
 unfold chs
 rw [List.take_append_of_le_length hk]
theorem tt_more {k : Nat} (hk : k <= l.length) : tt n (l ++ r) k = tt n l k := by
 unfold tt
 rw [chs_more hk]
theorem ents_more {k : Nat} (hk : k <= l.length) : (ents (l ++ r)).take k = (ents l).take k := by
 unfold ents
 rw [List.map_append,List.take_append_of_le_length (by rw [List.length_map]; exact hk)]
theorem Sound.more (h : Sound n l sz j s d f x) : Sound n (l ++ r) sz j s d f x :=
 ⟨h.log,h.size,h.left,h.full,h.files,by rw [ents_more h.le]; exact h.rows,by rw [List.length_append]; have := h.le; omega,h.lo,h.at_,h.nil,by rw [tt_more h.le]; exact h.T,h.up⟩
theorem Imgs.behind {file lsn : Int} (h : Imgs n l x j file lsn d) (hj : j <= l.length) : Imgs n (l ++ r) x j file lsn d := by
 rcases h with h | ⟨L,h1,h2,h3,h4,h5,h6⟩
 ·exact .inl h
 ·have is : ∀ {o : Int} {L' : Nat},L' <= L -> IsIm n l d o L' -> IsIm n (l ++ r) d o L' := fun {o L'} hL hi => by
   unfold IsIm at hi ⊢
   rw [tt_more (by omega)]
   exact hi
  refine .inr ⟨L,h1,h2,h3,h4,is (Nat.le_refl _) h5,?_⟩
  rcases h6 with h6 | ⟨L',h7,h8⟩
  ·exact .inl h6
  ·exact .inr ⟨L',h7,is (by omega) h8⟩
theorem Fine.snoc (h : Fine n l) {t : Tx} (h1 : t.lsn = (l.length : Int) + 1) (h2 : t.may = true) (h3 : ∀ c ∈ t.chs,0 <= c.tbl /\ c.tbl < (n : Int)) : Fine n (l ++ [t]) := by
 refine ⟨fun i y hy => ?_,fun y hy => ?_,fun y hy => ?_⟩
 ·rcases Nat.lt_or_ge i l.length with hi | hi
  ·rw [List.getElem?_append_left hi] at hy
   exact h.lsn i y hy
  ·have hi2 : i = l.length := by
    have := (List.getElem?_eq_some_iff.1 hy).1
    rw [List.length_append] at this
    simp at this
    omega
   subst hi2
   rw [List.getElem?_append_right (Nat.le_refl _),Nat.sub_self] at hy
   simp only [List.getElem?_cons_zero,Option.some.injEq] at hy
   subst hy
   exact h1
 ·rcases List.mem_append.1 hy with hy | hy
  ·exact h.may y hy
  ·rw [List.mem_singleton] at hy
   subst hy
   exact h2
 ·rcases List.mem_append.1 hy with hy | hy
  ·exact h.tbl y hy
  ·rw [List.mem_singleton] at hy
   subst hy
   exact h3
theorem Fine.nil (n : Nat) : Fine n [] := ⟨(fun i x h => by simp at h),(fun x h => by cases h),(fun x h => by cases h)⟩
end
structure Lot (n : Nat) (l : List Tx) : Prop where
 fine : Fine n l
 few : ∀ x ∈ l,x.chs.length <= 8
 len : l.length <= 40
section
variable {n : Nat} {l : List Tx}
theorem Lot.sigs (h : Lot n l) : ∀ x ∈ l,x.sigs.length <= 2 := fun x hx => (may_of (h.fine.may x hx)).sigs
theorem chs_few {k m : Nat} (h : ∀ x ∈ l,x.chs.length <= m) : (chs l k).length <= m * k := by
 induction k with
 | zero => rw [chs_zero]; simp
 | succ k ih =>
   cases hx : l[k]? with
   | none =>
     have e : chs l (k + 1) = chs l k := by
      unfold chs
      rw [List.take_of_length_le (by have := List.getElem?_eq_none_iff.1 hx; omega),List.take_of_length_le (List.getElem?_eq_none_iff.1 hx)]
     rw [e,Nat.mul_succ]; omega
   | some x =>
     rw [chs_succ hx,List.length_append,Nat.mul_succ]
     have := h x (List.mem_of_getElem? hx)
     omega
theorem Lot.chs (h : Lot n l) (k : Nat) : (FoldMath.chs l k).length <= 320 := by
 have h1 := chs_le (l := l) (k := k)
 have h2 := chs_few (l := l) (k := l.length) h.few
 have h3 := h.len
 have : 8 * l.length <= 8 * 40 := Nat.mul_le_mul_left 8 h3
 omega
theorem Lot.mayI (h : Lot n l) (hn1 : 1 <= n) (hn8 : n <= 8) : MayI n l := mayI_of hn1 hn8 h.fine (by have := h.chs l.length; omega) (by have := h.len; omega)
theorem Lot.ent (h : Lot n l) : ∀ x ∈ l,(ent x).length <= 629 := fun x hx => by
 have h1 := ent_len (h.fine.may x hx)
 have h2 := h.few x hx
 have h3 := h.sigs x hx
 omega
theorem tt_most (h : Lot n l) (k : Nat) : ∀ r ∈ tt n l k,r.length <= 320 := fun r hr => by
 obtain ⟨i,_,rfl⟩ := List.mem_map.1 hr
 exact Nat.le_trans (rows_length _ _) (h.chs k)
theorem tab_small {T : List (List Rw)} {m : Nat} (h : ∀ r ∈ T,r.length <= m) : Tbl.Most T m := fun t => by
 unfold Tbl.tab
 split
 ·cases hx : T[t.toNat]? with
  | none => simp
  | some l => exact h l (List.mem_of_getElem? hx)
 ·simp
theorem fits_tt {l : List Tx} {k : Nat} {x : Tx} (h : Lot n l) (hx : l[k]? = some x) : Tbl.fitsT (tt n l k) x.chs = true := by
 have hlen : (tt n l k).length = n := tt_length n l k
 unfold Tbl.fitsT
 rw [all_is (by rw [hlen]; exact h.fine.tbl x (List.mem_of_getElem? hx)),tt_succ h.fine hx,Bool.true_and]
 unfold Tbl.small
 refine List.all_eq_true.2 fun j _ => decide_eq_true ?_
 exact Nat.le_trans (tab_small (tt_most h (k + 1)) (j : Int)) (by omega)
end
end SrcMath
namespace Src
open Go.RowKit Base
open Foot (Turn Out)
open DiskMath (Fl Dk Becalmed)
open WalMath (Lg Sg Cap rowsOf)
open SrcMath (Sc Sound Imgs Lot Half Ends Anew mayS tt)
open TxnMath (Tx Ch)
open IdxMath (Rw)
open Wal (New Win DiskT)
open Txn (Chs Sigs)
theorem lok_of {l : List Tx} {n : Nat} {g : Lg} {f : Int} {x k : Nat} {sz : Int} (hl : Lot n l) (hc : WalMath.Chain f x g.segs) (hb : g.base = 16) (hs : g.size = sz) (hs0 : 64 <= sz) (hs1 : sz <= 65536) (hf : 16 <= f) (hfn : f + g.segs.length <= 16384) (hx : 1 <= x) (hx2 : x <= 1000) (hr : rowsOf g.segs = ((SrcMath.ents l).take k).drop (x - 1)) (hlow : WalMath.low g.segs = (x : Int)) : LOk g /\ (rowsOf g.segs).length <= 40 := by
 have hrl : (rowsOf g.segs).length <= 40 := by
  rw [hr,List.length_drop,List.length_take,SrcMath.ents,List.length_map]
  have := hl.len
  omega
 have hF : Wal.Fine f x g := ⟨by omega,hfn,by omega,by omega,by omega,by omega,by omega,by omega,fun p hp => by
  rw [hr] at hp
  have h1 := List.mem_of_mem_take (List.mem_of_mem_drop hp)
  obtain ⟨t,ht,rfl⟩ := List.mem_map.1 h1
  have := hl.ent t ht
  omega,by show (rowsOf g.segs).length <= 1000; omega⟩
 have h2 := hF.ok hc
 exact ⟨⟨h2.1,h2.2,by omega,by rw [hlow]; exact WalMath.chain_runs hc⟩,hrl⟩
theorem Sound.lok {n : Nat} {l : List Tx} {sz : Int} {j : Nat} {S : Sc} {d : Dk} {f : Int} {x : Nat} (h : Sound n l sz j S d f x) (hl : Lot n l) (hs0 : 64 <= sz) (hs1 : sz <= 65536) : LOk S.l := by
 have h1 := h.lo
 have h2 := h.le
 have h3 := hl.len
 have h4 := h.at_
 exact (lok_of hl (WalMath.full_chain h.full) h.log.at_ h.size hs0 hs1 h4.1 (by omega) h1.1 (by omega) h.rows h.low).1
structure Live (T : Nat -> Prop) (w : World) (s p g gd : Nat) (n : Nat) (l : List Tx) (sz : Int) (k M : Nat) (x : Nat) (S : Sc) (d : Dk) : Prop where
 at_ : SrcAt T w s p g gd S d
 sound : ∃ f,Sound n l sz l.length S d f x
 imgs : Imgs n l x l.length S.file S.lsn d
 lot : Lot n l
 cap : Cap k M d
 on : d.off = false
section
variable {T T' : Nat -> Prop} {w w' : World} {s p g gd n k M x : Nat} {l : List Tx} {sz : Int} {S : Sc} {d : Dk}
theorem Live.new (h : Live T w s p g gd n l sz k M x S d) (hb : Below w.heap.size w w') : Live T w' s p g gd n l sz k M x S d := ⟨h.at_.new hb,h.sound,h.imgs,h.lot,h.cap,h.on⟩
theorem Live.mono (h : Live T w s p g gd n l sz k M x S d) (hT : ∀ i,T i -> T' i) : Live T' w s p g gd n l sz k M x S d := ⟨h.at_.mono hT,h.sound,h.imgs,h.lot,h.cap,h.on⟩
theorem Live.win (h : Live T w s p g gd n l sz k M x S d) (hb : Below w.heap.size w w') : Live (Win T w.heap.size w'.heap.size) w' s p g gd n l sz k M x S d := ⟨h.at_.win hb,h.sound,h.imgs,h.lot,h.cap,h.on⟩
theorem Live.tabs (h : Live T w s p g gd n l sz k M x S d) : S.T = tt n l l.length := by
 obtain ⟨f,h⟩ := h.sound
 exact h.T
theorem Live.hd (h : Live T w s p g gd n l sz k M x S d) : WalMath.hd S.l.segs = (l.length : Int) := by
 obtain ⟨f,h⟩ := h.sound
 exact h.hd
theorem Live.low (h : Live T w s p g gd n l sz k M x S d) : WalMath.low S.l.segs = (x : Int) := by
 obtain ⟨f,h⟩ := h.sound
 exact h.low
theorem Live.lok (h : Live T w s p g gd n l sz k M x S d) (hs0 : 64 <= sz) (hs1 : sz <= 65536) : LOk S.l := by
 obtain ⟨f,h1⟩ := h.sound
 exact Sound.lok h1 h.lot hs0 hs1
end
def Committed (T : Nat -> Prop) (w : World) (s p g gd n : Nat) (l : List Tx) (t : Tx) (sz : Int) (k M x : Nat) (lf : Nat) (e : Ending) (w' : World) : Prop := ∃ S' d',Turn T w w' /\ SrcAt T w' s p g gd S' d' /\ Cap (k + 3) (M + 656) d' /\
 ((e = .returned (.tuple #[.int .i64 ((l.length : Int) + 1),.int .i64 0]) /\ Live T w' s p g gd n (l ++ [t]) sz (k + 3) (M + 656) x S' d' /\ d'.left = lf - 2) \/
  (e = .returned (.tuple #[.int .i64 0,.int .i64 8]) /\ Half n (l ++ [t]) sz l.length x d' /\ lf ≠ 0))
theorem commit_live (T : Nat -> Prop) (s p g gd n : Nat) (l : List Tx) (sz : Int) (k M x : Nat) (S : Sc) (d : Dk) (A : Option Addr) (m c : Nat) (cs : List Ch) (A' : Option Addr) (m' c' : Nat) (sg : List ByteArray) (w : World) (h : Live T w s p g gd n l sz k M x S d) (hT : New T w) (hn1 : 1 <= n) (hn8 : n <= 8) (hs0 : 64 <= sz) (hs1 : sz <= 65536) (hk : k <= 100000) (hM : M <= 1000000000)
 (hll : l.length <= 39) (h1 : Chs w w.heap.size A m c cs) (hl1 : Lies (fun i => ¬ T i) A m) (h2 : Sigs w w.heap.size A' m' c' sg) (hl2 : Lies (fun i => ¬ T i) A' m') (hcs : ∀ c ∈ cs,c.may (n : Int) = true) (hcl : cs.length <= 8) (hsl : sg.length <= 2) (hss : ∀ f ∈ sg,f.size <= 40) :
 Calls Tryz.prog 14 #[.pointer (some ⟨s,0,none⟩),.slice A' m' c',.slice A m c] w (Committed T w s p g gd n l ⟨(l.length : Int) + 1,1,cs,sg,0⟩ sz k M x d.left) := by
 have hch : ∀ c ∈ cs,0 <= c.tbl /\ c.tbl < (n : Int) /\ c.may 8 = true := fun c hc => by
  have h3 := hcs c hc
  unfold TxnMath.Ch.may at h3 ⊢
  simp only [Bool.and_eq_true,decide_eq_true_eq] at h3 ⊢
  obtain ⟨a1,a2,a3,a4,a5⟩ := h3
  exact ⟨a1,a2,a1,by omega,a3,a4,a5⟩
 have hmay : ∀ q : Int,1 <= q -> q <= 1099511627776 -> Tx.may ⟨q,1,cs,sg,0⟩ = true := fun q hq1 hq2 => by
  unfold TxnMath.Tx.may TxnMath.mayLsn TxnMath.mayChs TxnMath.maySigs
  rw [decide_eq_true hq1,decide_eq_true hq2,if_pos rfl,decide_eq_true (show cs.length <= 16 by omega),decide_eq_true hsl,List.all_eq_true.2 fun c hc => (hch c hc).2.2,List.all_eq_true.2 fun f hf => decide_eq_true (hss f hf)]
  rfl
 have hlot : Lot n (l ++ [⟨(l.length : Int) + 1,1,cs,sg,0⟩]) := by
  refine ⟨h.lot.fine.snoc rfl (hmay _ (by omega) (by omega)) fun c hc => ⟨(hch c hc).1,(hch c hc).2.1⟩,fun y hy => ?_,by rw [List.length_append]; simp; omega⟩
  rcases List.mem_append.1 hy with hy | hy
  ·exact h.lot.few y hy
  ·rw [List.mem_singleton] at hy
   subst hy
   exact hcl
 have hTT := h.tabs
 have hmost : Tbl.Most S.T 320 := by rw [hTT]; exact SrcMath.tab_small (SrcMath.tt_most h.lot _)
 refine (commit_any T s p g gd S d k M 320 A m c cs A' m' c' sg w h.at_ hT (h.lok hs0 hs1) h.cap (by omega) (by omega) hmost (by omega) h1 hl1 h2 hl2).mono ?_
 have hlenT : S.T.length = n := by rw [hTT]; exact SrcMath.tt_length n l _
 have hgl : (l ++ [(⟨(l.length : Int) + 1,1,cs,sg,0⟩ : Tx)])[l.length]? = some ⟨(l.length : Int) + 1,1,cs,sg,0⟩ := by rw [List.getElem?_append_right (Nat.le_refl _),Nat.sub_self]; rfl
 have hfit : Tbl.fitsT S.T cs = true := by
  have := SrcMath.fits_tt hlot hgl
  rw [SrcMath.tt_more (Nat.le_refl _)] at this
  rw [hTT]
  exact this
 have hput : putM S d ⟨0,1,cs,sg,0⟩ = SrcMath.put S d true ⟨0,1,cs,sg,0⟩ := by
  unfold putM
  rw [if_pos,hfit]
  show mayS S.T.length ⟨1,1,cs,sg,0⟩ = true
  unfold SrcMath.mayS
  rw [hmay 1 (by omega) (by omega),hlenT,List.all_eq_true.2 hcs]
  rfl
 rw [hput]
 have hcap : Cap (k + 3) (M + 656) (SrcMath.put S d true ⟨0,1,cs,sg,0⟩).d := (SrcMath.cap_put h.cap S true (t := ⟨0,1,cs,sg,0⟩) (P := 629) fun q => by
  have h5 : (SrcMath.ent (⟨(l.length : Int) + 1,1,cs,sg,0⟩ : Tx)).length = (SrcMath.ent (⟨q,1,cs,sg,0⟩ : Tx)).length := by
   unfold SrcMath.ent FieldMath.encZ TxnMath.flds
   simp only [List.flatMap_append,List.flatMap_cons,List.length_append,SrcMath.encF_num,List.flatMap_nil,List.length_nil,FieldMath.big_length,List.length_cons]
  have h6 := hlot.ent _ (List.mem_of_getElem? hgl)
  show (SrcMath.ent (⟨q,1,cs,sg,0⟩ : Tx)).length <= 629
  omega).mono (by omega) (by omega)
 obtain ⟨f,hsd⟩ := h.sound
 have hp := SrcMath.Sound.put (t := ⟨0,1,cs,sg,0⟩) (Sound.more (r := [⟨(l.length : Int) + 1,1,cs,sg,0⟩]) hsd) h.on hn1 hn8 hlot.fine (hlot.mayI hn1 hn8) (by have := hlot.len; omega) hs0 hs1 (SrcMath.Imgs.behind h.imgs (Nat.le_refl _)) hgl rfl (by have := hlot.ent _ (List.mem_of_getElem? hgl); omega)
 have hcalm := fun (hl : d.left = 0) => SrcMath.calm_put (d := d) ⟨hl,h.on⟩ S true ⟨0,1,cs,sg,0⟩
 rintro e w' ⟨he,hsr,htu⟩
 rcases hp with ⟨S',d',hq,hs',hi',ho',_,hle⟩ | ⟨S',d',hq,hST,hhalf,_,_⟩
 ·rw [hq] at he hsr hcap
  refine ⟨S',d',htu,hsr,hcap,.inl ⟨he,⟨hsr,⟨f,?_⟩,?_,hlot,hcap,ho'⟩,hle⟩⟩
  ·rw [List.length_append]; exact hs'
  ·rw [List.length_append]; exact hi'
 ·rw [hq] at he hsr hcap
  refine ⟨S',d',htu,hsr,hcap,.inr ⟨he,hhalf,fun hl => ?_⟩⟩
  have := (hcalm hl).1
  rw [hq] at this
  exact this rfl
end Src
namespace PTx
open Go.RowKit Base TxnMath
open PChg (Cs)
theorem lit_one {w : World} {b : Nat} {T : TypeId} {x : Ch} (h : Blk w b T #[.int .i64 x.tbl,.int .i64 x.key,.bool x.gone,.string x.val]) : Cs w w.heap.size (some ⟨b,0,none⟩) 1 1 [x] := by
 refine ⟨rfl,by omega,by omega,fun _ => ⟨b,0,rfl,h.lt,fun j u hu => ?_⟩⟩
 rw [h.cell,Nat.zero_add]
 have : (PChg.gv [x])[j]? = #[Value.int .i64 x.tbl,.int .i64 x.key,.bool x.gone,.string x.val][j]? := by simp [PChg.gv,PChg.gcells]
 rw [<- this]
 exact hu
end PTx
namespace Src
open Go.RowKit Base
open Foot (Turn Out)
open DiskMath (Fl Dk Becalmed)
open WalMath (Lg Sg Cap rowsOf)
open SrcMath (Sc Sound Imgs Lot Half Ends Anew mayS tt)
open ImgMath (Im imgB)
open TxnMath (Tx Ch)
open IdxMath (Rw)
open Wal (New Win DiskT From)
open Txn (Chs Sigs)
theorem trim_lsn {s : Sc} {d : Dk} {lsn : Int} (hoff : d.off = false) (h0 : 0 <= lsn) (h1 : lsn <= WalMath.hd s.l.segs) (h : (SrcMath.trim s d lsn).1 = 0) : (SrcMath.trim s d lsn).2.1.lsn = if lsn <= s.lsn then s.lsn else WalMath.hd s.l.segs := by
 unfold SrcMath.trim at h ⊢
 rw [if_neg (by omega),if_neg (by rw [hoff]; simp)] at h ⊢
 by_cases hl : lsn <= s.lsn
 ·rw [if_pos hl,if_pos hl]
  rfl
 ·rw [if_neg hl] at h ⊢
  rw [if_neg hl]
  by_cases hl0 : (SrcMath.lay d (SrcMath.other s.file) (imgB ⟨WalMath.hd s.l.segs,s.T⟩)).1 = 0
  ·rw [if_pos hl0]
   rfl
  ·rw [if_neg hl0] at h
   exact absurd h hl0
theorem Imgs.bd {n x j : Nat} {l : List Tx} {file lsn : Int} {d : Dk} (h : Imgs n l x j file lsn d) : 0 <= lsn /\ lsn <= j := by
 rcases h with ⟨_,h,_⟩ | ⟨L,_,h,h2,_⟩
 ·omega
 ·omega
def TrimmedL (T : Nat -> Prop) (w : World) (s p g gd n : Nat) (l : List Tx) (sz : Int) (k M x : Nat) (lf : Nat) (lsn sl : Int) (e : Ending) (w' : World) : Prop := ∃ S' d',∃ x' : Nat,Turn T w w' /\ SrcAt T w' s p g gd S' d' /\ Cap (k + 43) (M + 1048584) d' /\ x <= x' /\ (x' : Int) <= max (x : Int) (lsn + 1) /\
 ((e = .returned (.int .i64 0) /\ Live T w' s p g gd n l sz (k + 43) (M + 1048584) x' S' d' /\ d'.left <= lf /\ S'.lsn = if lsn <= sl then sl else (l.length : Int)) \/
  (e = .returned (.int .i64 8) /\ SrcMath.Ends n l sz l.length x' d' /\ lf ≠ 0))
theorem trim_live (T : Nat -> Prop) (s p g gd n : Nat) (l : List Tx) (sz : Int) (k M x : Nat) (S : Sc) (d : Dk) (lsn : Int) (w : World) (h : Live T w s p g gd n l sz k M x S d) (hT : New T w) (hn1 : 1 <= n) (hn8 : n <= 8) (hs0 : 64 <= sz) (hs1 : sz <= 65536) (hk : k <= 90000) (hM : M <= 1000000000) (h0 : 0 <= lsn) (h1 : lsn <= l.length) :
 Calls Tryz.prog 15 #[.pointer (some ⟨s,0,none⟩),.int .i64 lsn] w (TrimmedL T w s p g gd n l sz k M x d.left lsn S.lsn) := by
 have hmI := h.lot.mayI hn1 hn8
 have hmay : (Im.mk (WalMath.hd S.l.segs) S.T).may = true := by
  rw [h.hd,h.tabs]
  exact hmI _ (Nat.le_refl _)
 refine (trim_any T s p g gd S d lsn k M w h.at_ hT (h.lok hs0 hs1) h.cap (by omega) (by omega) hmay).mono ?_
 rintro e w' ⟨he,hsr,htu⟩
 obtain ⟨f,hsd⟩ := h.sound
 have hlen : S.l.segs.length <= 40 := by
  have h2 := hsd.at_
  have h3 := h.lot.len
  omega
 have hcap : Cap (k + 43) (M + 1048584) (SrcMath.trim S d lsn).2.2 := (SrcMath.cap_trim h.cap S lsn (P := 1048584) (SrcMath.imgB_len hmay)).mono (by omega) (Nat.le_refl _)
 have hls := trim_lsn (s := S) (lsn := lsn) h.on h0 (by rw [h.hd]; exact h1)
 have hcalm := fun (hl : d.left = 0) => (SrcMath.calm_trim (d := d) ⟨hl,h.on⟩ S lsn).1
 obtain ⟨er,S',d',x',hq,hxx,hx,hop,hle,hcase⟩ := hsd.trim h.on hn1 hn8 h.lot.fine hmI (by have := h.lot.len; omega) hs0 hs1 h.imgs h0 h1
 rw [hq] at he hsr hcap hls hcalm
 refine ⟨S',d',x',htu,hsr,hcap,hxx,hx,?_⟩
 rcases hcase with ⟨rfl,ho',f',hs',hi'⟩ | ⟨rfl,hends⟩
 ·refine .inl ⟨he,⟨hsr,⟨f',hs'⟩,hi',h.lot,hcap,ho'⟩,hle,?_⟩
  have := hls rfl
  rw [h.hd] at this
  exact this
 ·exact .inr ⟨he,hends,fun hl => hcalm hl rfl⟩
theorem Lot.nil (n : Nat) : Lot n [] := ⟨SrcMath.Fine.nil n,(fun x hx => by cases hx),by simp⟩
theorem logopen0 {sz : Int} (hs0 : 64 <= sz) (hs1 : sz <= 65536) : WalMath.open_ DiskMath.none_ 16 sz = ⟨0,some ⟨[],16,sz,none⟩,DiskMath.none_⟩ := Wal.open0 (by omega) (by omega) hs0 hs1
theorem open_live (T : Nat -> Prop) (gd n : Nat) (sz : Int) (w : World) (h : DiskT T w gd DiskMath.none_) (hT : New T w) (hn1 : 1 <= n) (hn8 : n <= 8) (hs0 : 64 <= sz) (hs1 : sz <= 65536) :
 Calls Tryz.prog 8 #[.pointer (some ⟨gd,0,none⟩),.int .i64 n,.int .i64 sz] w fun e w' => ∃ s p g S,e = .returned (.tuple #[.pointer (some ⟨s,0,none⟩),.int .i64 0]) /\ Live T w' s p g gd n [] sz 0 0 1 S DiskMath.none_ /\ Turn T w w' := by
 obtain ⟨ho,hsd,him⟩ := SrcMath.sound0 (sz := sz) hn1 hn8 [] hs0 hs1
 refine (open_any T gd DiskMath.none_ 0 0 n sz w h hT Wal.cap0 (by omega) (by omega) fun g hg => ?_).mono ?_
 ·rw [logopen0 hs0 hs1] at hg
  injection hg with hg
  subst hg
  exact ⟨Sound.lok hsd (Lot.nil n) hs0 hs1,by simp [rowsOf]⟩
 ·intro e w' hr
  rw [ho] at hr
  obtain ⟨s,p,g,he,hsr,htu⟩ := hr
  exact ⟨s,p,g,_,he,⟨hsr,⟨16,hsd⟩,him,Lot.nil n,Wal.cap0,rfl⟩,htu⟩
theorem new_from {B : Nat} {w : World} (hB : B <= w.heap.size) : New (From B) w := fun i hi => Nat.le_trans hB hi
theorem turn_from {T : Nat -> Prop} {B : Nat} {w w' : World} (h : Turn T w w') (hT : ∀ i,T i -> B <= i) (hB : B <= w.heap.size) : Below B w w' := h.below hT hB
theorem newdisk_any (w : World) : Calls Tryz.prog 7 #[] w fun e w' => ∃ g,e = .returned (.pointer (some ⟨g,0,none⟩)) /\ DiskT (From w.heap.size) w' g DiskMath.none_ /\ Below w.heap.size w w' := Wal.newdisk_any w
theorem awake_any (w : World) : Calls Tryz.prog 10 #[] w fun e w' => e = .returned (.bool true) /\ Below w.heap.size w w' := by
 go_enter Tryz.func10,Tryz.ntmps10
 go_wp2_with fail
 refine (newdisk_any w).mono ?_
 rintro e w1 ⟨gd,rfl,hd1,hb1⟩
 have HD1 := hid hd1
 have HB1 := hid hb1
 clear hd1 hb1
 go_wp2_with fail
 refine (open_live (From w.heap.size) gd 1 64 w1 HD1.out (new_from HB1.out.size) (by omega) (by omega) (by omega) (by omega)).mono ?_
 rintro e w2 ⟨s,p,g,S,rfl,hl2,ht2⟩
 have HL2 := hid hl2
 have HB2 := hid (HB1.out.trans (turn_from ht2 (fun i hi => hi) HB1.out.size))
 clear hl2 ht2 HD1 HB1
 have hb3 : Below w2.heap.size w2 (w2.alloc (.cells #[.int .i64 0,.int .i64 5,.bool false,.string ⟨#[97]⟩] 64)) := (Below.refl _ _).alloc (Nat.le_refl _) _
 have HB3 := hid hb3
 have HK3 : Hid (Blk (w2.alloc (.cells #[.int .i64 0,.int .i64 5,.bool false,.string ⟨#[97]⟩] 64)) w2.heap.size 64 #[.int .i64 0,.int .i64 5,.bool false,.string ⟨#[97]⟩]) := Blk.new _ _ _
 clear hb3
 have HCM := hid (commit_live (Win (From w.heap.size) w2.heap.size (w2.alloc (.cells #[.int .i64 0,.int .i64 5,.bool false,.string ⟨#[97]⟩] 64)).heap.size) s p g gd 1 [] 64 0 0 1 S DiskMath.none_ (some ⟨w2.heap.size,0,none⟩) 1 1 [⟨0,5,false,⟨#[97]⟩⟩] none 0 0 [] _ (HL2.out.win HB3.out) (new_win (new_from HB2.out.size) HB3.out.size) (by omega) (by omega) (by omega) (by omega) (by omega) (by omega) (by simp)
  (PTx.lit_one (x := ⟨0,5,false,⟨#[97]⟩⟩) HK3.out) (fun _ b off e hw => by
    injection e with e
    injection e with e
    have h2 : b < w2.heap.size \/ _ <= b := hw.2
    have h3 := HK3.out.lt
    omega) (Row.nil_ _ _ _) (fun hn => absurd hn (by omega)) (fun c hc => by rw [List.mem_singleton] at hc; subst hc; rfl) (by simp) (by simp) (fun f hf => by cases hf))
 go_wp2_with fail
 refine HCM.out.mono ?_
 rintro e w4 ⟨S4,d4,ht4,_,_,⟨rfl,hl4,hlf⟩ | ⟨_,_,hne⟩⟩
 rotate_left
 ·exact absurd rfl hne
 have HT4 : Hid (Below w.heap.size w w4) := HB2.out.trans ((HB3.out.mono HB2.out.size).trans (turn_from ht4 (fun i hi => hi.1) (Nat.le_trans HB2.out.size HB3.out.size)))
 have HL4 := hid (hl4.mono (T' := From w.heap.size) fun i hi => hi.1)
 have HLF := hid hlf
 clear ht4 hl4 hlf HCM HK3 HB3 HL2 HB2
 have hlok := HL4.out.lok (by omega) (by omega)
 have hlow := HL4.out.low
 have hrd := read_any _ s p g gd _ _ 1 w4 HL4.out.at_ hlok
 have hent : Wal.entry S4.l.segs 1 = some (SrcMath.ent ⟨1,1,[⟨0,5,false,⟨#[97]⟩⟩],[],0⟩) := by
  obtain ⟨f,hs⟩ := HL4.out.sound
  have h1 := entry_get hlok (i := 0) (by rw [hs.rows]; simp [SrcMath.ents])
  rw [hlow] at h1
  have h2 : ((1 : Nat) : Int) + ((0 : Nat) : Int) = 1 := rfl
  rw [h2,hs.rows] at h1
  exact h1
 rw [hent] at hrd
 have HRD := hid hrd
 have HDE := hid (TxnMath.decT_enc (t := ⟨1,1,[⟨0,5,false,⟨#[97]⟩⟩],[],0⟩) rfl)
 clear hlok hlow hrd hent
 go_wp2_with fail
 refine HRD.out.mono ?_
 intro e w5 hr
 replace hr : Txn.DecO w4 _ e w5 := hr
 unfold Txn.DecO SrcMath.ent at hr
 rw [HDE.out] at hr
 obtain ⟨A,n,c,A',n',c',rfl,h1,h2,hb5⟩ := hr
 have hn1 : n = 1 := by have := h1.1; simp [Txn.gotX,Txn.cv,Txn.ccells] at this; omega
 subst hn1
 have HB5 := hid hb5
 have HL5 := hid (HL4.out.new hb5)
 have HT5 := hid (HT4.out.trans (hb5.mono HT4.out.size))
 clear h1 h2 hb5 HRD
 simp only [Txn.gotX,FieldMath.err]
 unfold Txn.txv
 have HTR := hid (fun wx (hx : Below w5.heap.size w5 wx) => trim_live (From w.heap.size) s p g gd 1 _ 64 _ _ 1 S4 d4 1 wx (HL5.out.new hx) (new_from (Nat.le_trans HT5.out.size hx.size)) (by omega) (by omega) (by omega) (by omega) (by omega) (by omega) (by omega) (by simp))
 go_wp2_with fail
 refine (HTR.out _ ((Below.refl _ _).alloc (Nat.le_refl _) _)).mono ?_
 rintro e w6 ⟨S6,d6,x6,ht6,_,_,_,_,⟨rfl,hl6,hlf6,hls6⟩ | ⟨_,_,hne⟩⟩
 rotate_left
 ·exact absurd (by rw [HLF.out]; rfl) hne
 have hls7 : S6.lsn = 1 := by
  have h3 := Imgs.bd HL4.out.imgs
  simp at hls6 h3
  split at hls6
  ·omega
  ·exact hls6
 have HT6 : Hid (Below w.heap.size w w6) := (HT5.out.alloc HT5.out.size _).trans (turn_from ht6 (fun i hi => hi) (Nat.le_trans HT5.out.size (by simp)))
 have HL6 := hid hl6
 have c0 := hl6.at_.cells.1
 have hTb := hl6.tabs
 obtain ⟨K,hset,_⟩ := hl6.at_.set
 have hT1 : S6.T.length = 1 := by rw [hTb]; exact SrcMath.tt_length 1 _ _
 have HTA := hid (Tbl.tables_any K p S6.T w6 hset)
 rw [hT1] at HTA
 have HIM := hid (image_any _ s p g gd _ _ w6 hl6.at_)
 rw [hls7] at HIM
 clear ht6 hl6 hlf6 hls6 hls7 hTb hset hT1
 go_wp2_with fail
 refine HIM.out.mono ?_
 rintro e w7 ⟨rfl,rfl⟩
 go_wp2_with fail
 refine HTA.out.mono ?_
 rintro e w7 ⟨rfl,rfl⟩
 go_wp2
 go_ret
 exact ⟨rfl,HT6.out⟩
end Src
namespace Src
open Go.RowKit Base
open Foot (Turn Out)
open DiskMath (Fl Dk)
open SrcMath (Sc Lot tt)
open TxnMath (Tx Ch)
open IdxMath (Rw Rise aft)
open Wal (New Win DiskT From)
open Txn (Chs Sigs)
open PChg (Cs gv SomeCh pchanges_any)
open Lsts (Lsts)
open Idx (NewRows rv rv_append rv_one er Rs)
open Field (modZ modZ_lt mod_any)
theorem win_lies {T : Nat -> Prop} {w w1 : World} {A : Option Addr} {n c : Nat} {e : TypeId} {sz : Nat} {vs : List Value} (h : w1.ownsRow w.heap.size e sz (.slice A n c) n vs) : Lies (fun i => ¬ Win T w.heap.size w1.heap.size i) A n := fun _ b off ea hw => by
 have h1 := h.lt b (by rw [ea]; rfl)
 have h2 : b < w.heap.size \/ w1.heap.size <= b := hw.2
 omega
def ChRel (w : World) (s p g gd : Nat) (vi : Value) (wr : World) : Prop := ∃ (i : Nat) (T : Nat -> Prop) (ts : List Tx) (S : Sc) (d : Dk),vi = .int .i64 i /\ i <= 20 /\ ts.length = i /\ Live T wr s p g gd 1 ts 1000 (3 * i) (656 * i) 1 S d /\ New T wr /\ (∀ j,T j -> w.heap.size <= j) /\ d.left = 0 /\ Below w.heap.size w wr
def PcRel (w2 : World) (k : Nat) (R : List Rw) (va vk vi : Value) (wr : World) : Prop := ∃ (i j : Nat) (A : Option Addr) (c : Nat) (a : Int),vi = .int .i64 i /\ va = .slice A j c /\ vk = .int .i64 a /\ i <= j /\ j <= R.length /\ aft R a = j /\ wr.ownsRow w2.heap.size 52 2 (.slice A j c) j (rv (R.take j)) /\ Below w2.heap.size w2 wr
theorem aft_low {l : List Rw} {k : Int} (h : ∀ x ∈ l,k < x.key) : aft l k = 0 := by
 cases l with
 | nil => rfl
 | cons x r =>
   have h1 := h x List.mem_cons_self
   have hlt : ¬ x.key < k := by omega
   have hne : x.key ≠ k := by omega
   simp [aft,IdxMath.there,IdxMath.pos,hlt,hne]
theorem rows_key {l : List Tx} (h : Lot 1 l) (t : Int) (k : Nat) : ∀ x ∈ FoldMath.rows t (FoldMath.chs l k),0 < x.key := fun x hx => by
 obtain ⟨c,hc,_,e,_⟩ := FoldMath.rows_mem hx
 obtain ⟨y,hy,hcy⟩ := List.mem_flatMap.1 hc
 have := (TxnMath.chmay_of ((TxnMath.may_of (h.fine.may y (List.mem_of_mem_take hy))).ch c hcy)).key
 omega
theorem chunks_walk (A : Option Addr) (n c : Nat) (L : List (List Ch)) (nn : Int) (w : World) (h : Lsts Cs w w.heap.size A n c L) (hin : ∀ l ∈ L,Tbl.In1 l) :
 Calls Tryz.prog 5 #[.slice A n c,.int .i64 nn] w fun e w' => e = .returned (.bool true) /\ Below w.heap.size w w' := by
 have HL := hid h
 have HI := hid hin
 have hle := h.le
 clear h hin
 obtain ⟨k,hk⟩ : ∃ k,k = modZ nn 5 := ⟨_,rfl⟩
 have hk5 : k < 5 := by rw [hk]; exact modZ_lt nn (by omega)
 have HK := hid hk
 obtain ⟨kk,hkk⟩ : ∃ kk,kk = 1 + k := ⟨_,rfl⟩
 have ekk : (1 : Int) + (k : Int) = (kk : Int) := by omega
 have hkk5 : 1 <= kk /\ kk <= 5 := by omega
 clear hk hkk hk5
 go_enter Tryz.func5,Tryz.ntmps5
 go_wp2_with fail
 refine (newdisk_any w).mono ?_
 rintro e w1 ⟨gd,rfl,hd1,hb1⟩
 have HD1 := hid hd1
 have HB1 := hid hb1
 clear hd1 hb1
 go_wp2_with fail
 refine (open_live (From w.heap.size) gd 1 1000 w1 HD1.out (new_from HB1.out.size) (by omega) (by omega) (by omega) (by omega)).mono ?_
 rintro e w2 ⟨s,p,g,S,rfl,hl2,ht2⟩
 have HB2 := hid (HB1.out.trans (turn_from ht2 (fun i hi => hi) HB1.out.size))
 have HL2 := hid hl2
 clear hl2 ht2 HD1 HB1
 go_wp2_with fail
 refine (awake_any w2).mono ?_
 rintro e w3 ⟨rfl,hb3⟩
 have HB3 := hid (HB2.out.trans (hb3.mono HB2.out.size))
 have HL3 := hid (HL2.out.new hb3)
 clear hb3 HB2 HL2
 go_wp2
 go_loopw [7] (fun vi wr => ChRel w s p g gd vi wr) (fun vi _ => 20 - (RowKit.intOf vi).toNat)
 case atStart => exact ⟨0,From w.heap.size,[],S,_,rfl,by omega,rfl,HL3.out,new_from HB3.out.size,fun j hj => hj,rfl,HB3.out⟩
 case round =>
  clear HL3 HB3
  obtain ⟨i,T,ts,S,d,rfl,hi20,htl,hlv,hnew,hTB,hlf,hbel⟩ := hrel
  have HLV := hid hlv
  have HNW := hid hnew
  have HTB := hid hTB
  have HLF := hid hlf
  have HBE := hid hbel
  have HTL := hid htl
  clear hlv hnew hTB hlf hbel
  by_cases hgo : i < n /\ i < 20
  ·obtain ⟨hlt,hlt2⟩ := hgo
   obtain ⟨b,off,A1,n1,c1,l1,rfl,hb,hcell,hcs,hget,_⟩ := (HL.out.below HBE.out fun _ _ _ _ hh => Row.below hh HBE.out).at_ hlt
   have hok := HI.out l1 (List.mem_of_getElem? hget)
   have HCS := hid hcs
   have HOK := hid hok
   clear hcs hok hget
   go_wp2_with fail
   refine (pchanges_any 1 8 (by omega) (by omega) (by omega) w.heap.size A1 n1 c1 l1 wr HCS.out HBE.out.size (fun f hf => (HOK.out f hf).2)).mono ?_
   rintro e w4 ⟨cs,A4,n4,c4,rfl,hn4,ho4,hm4,hb4⟩
   have hcl4 : cs.length <= 8 := by have := ho4.1; rw [PChg.gv_length] at this; omega
   have hlw := HLV.out.win hb4
   have HCM := hid (commit_live (Win T wr.heap.size w4.heap.size) s p g gd 1 ts 1000 (3 * i) (656 * i) 1 S d A4 n4 c4 cs none 0 0 [] w4 hlw (new_win HNW.out hb4.size) (by omega) (by omega) (by omega) (by omega) (by omega) (by omega) (by omega) (Row.of_own ho4) (win_lies ho4) (Row.nil_ _ _ _) (fun hn => absurd hn (by omega)) hm4 hcl4 (by simp) (fun f hf => by cases hf))
   have HB4 := hid (HBE.out.trans (hb4.mono HBE.out.size))
   have HWB : Hid (∀ j,Win T wr.heap.size w4.heap.size j -> w.heap.size <= j) := fun j hj => HTB.out j hj.1
   have HNW4 := hid (new_win HNW.out hb4.size)
   clear ho4 hm4 hb4 hlw
   go_wp2_with fail
   refine HCM.out.mono ?_
   rintro e w5 ⟨S5,d5,ht5,_,_,⟨rfl,hl5,hlf5⟩ | ⟨_,_,hne⟩⟩
   rotate_left
   ·exact absurd HLF.out hne
   have H5 : Hid (Live (Win T wr.heap.size w4.heap.size) w5 s p g gd 1 (ts ++ [⟨(ts.length : Int) + 1,1,cs,[],0⟩]) 1000 (3 * (i + 1)) (656 * (i + 1)) 1 S5 d5) := hl5
   have HB5 := hid (HB4.out.trans (turn_from ht5 HWB.out HB4.out.size))
   have HN5 := hid (HNW4.out.le ht5.size)
   have HF5 : Hid (d5.left = 0) := by show _ = _; rw [hlf5,HLF.out]
   clear ht5 hl5 hlf5 HCM HCS HOK hcell
   go_wp2
   go_roundw
   case rel => exact ⟨i + 1,_,_,S5,d5,by go_num,by omega,by rw [List.length_append,HTL.out]; rfl,H5.out,HN5.out,HWB.out,HF5.out,HB5.out⟩
   case measure => simp [RowKit.intOf]; omega
  ·generalize wr = wo at *
   have hTb := HLV.out.tabs
   have htab : Tbl.tab S.T 0 = FoldMath.rows 0 (FoldMath.chs ts ts.length) := by
    rw [hTb]
    exact Tbl.tab_get (i := 0) (by rw [SrcMath.tt_length]; omega) (SrcMath.ttC_get (by omega) _)
   obtain ⟨R,hR⟩ : ∃ R,FoldMath.rows 0 (FoldMath.chs ts ts.length) = R := ⟨_,rfl⟩
   have HRM : Hid (Rise R) := by rw [<- hR]; exact FoldMath.rows_rise _ _
   have hRl : R.length <= 160 := by
    rw [<- hR]
    have h1 := FoldMath.rows_length 0 (FoldMath.chs ts ts.length)
    have h2 := SrcMath.chs_few (l := ts) (k := ts.length) HLV.out.lot.few
    rw [HTL.out] at h1 h2
    have : 8 * i <= 8 * 20 := Nat.mul_le_mul_left 8 hi20
    rw [HTL.out]
    omega
   have HA0 : Hid (aft R 0 = 0) := aft_low (by rw [<- hR]; exact rows_key HLV.out.lot 0 _)
   rw [hR] at htab
   have HTAB := hid htab
   clear hTb htab hR
   have HCK := hid (fun wx a (hx : Below wo.heap.size wo wx) => chunk_any T s p g gd S d wx 0 a (kk : Int) (HLV.out.at_.new hx) (by rw [HTAB.out]; omega))
   rw [HTAB.out] at HCK
   obtain ⟨K,hset,_⟩ := HLV.out.at_.set
   have HRO := hid (fun wx (hx : Below wo.heap.size wo wx) => Tbl.rows_any K p S.T 0 wx (hset.new hx) (by rw [HTAB.out]; omega))
   rw [HTAB.out] at HRO
   have HC0 := hid (fun wx (hx : Below wo.heap.size wo wx) => (HLV.out.at_.new hx).cells.1)
   clear hset
   rcases (show (i < n /\ ¬ i < 20) \/ (¬ i < n /\ True) from if h : i < n then .inl ⟨h,fun h2 => hgo ⟨h,h2⟩⟩ else .inr ⟨h,trivial⟩) with ⟨hq1,hq2⟩ | ⟨hq1,hq2⟩
   all_goals (
    clear hgo
    go_wp2_with fail
    refine (mod_any nn 5 wo (by omega) (by omega)).mono ?_
    rintro e w4 ⟨rfl,rfl⟩
    rw [<- HK.out]
    have S0 : Hid (PcRel wo kk R (.slice none 0 0) (.int .i64 0) (.int .i64 0) wo) := ⟨0,0,none,0,0,rfl,rfl,rfl,Nat.le_refl _,Nat.zero_le _,HA0.out,by rw [List.take_zero]; exact World.ownsRow_nil _ _ _ _,Below.refl _ _⟩
    go_wp2
    go_loopw [11,12,13] (fun va vk vi wx => PcRel wo kk R va vk vi wx) (fun _ _ vi _ => 300 - (RowKit.intOf vi).toNat)
    case atStart => exact S0.out
    case round =>
     obtain ⟨q,j,A4,c4,a,rfl,rfl,rfl,hqj,hjR,haft,hown,hbr⟩ := hrel
     have HO := hid hown
     have HBR := hid hbr
     have l300 : (q : Int) < 300 := by omega
     obtain ⟨hr1,hr2⟩ := Idx.after_len HRM.out a kk
     rw [haft] at hr1 hr2
     have HR12 := hid (And.intro hr1 hr2)
     have HCA := hid (HCK.out _ a hbr)
     clear hown hbr haft hr1
     go_wp2_with fail
     refine HCA.out.mono ?_
     clear HCA
     generalize IdxMath.after R a (kk : Int) = r at *
     rintro e w5 ⟨A5,c5,rfl,ho5,hb5⟩
     obtain ⟨m,hm⟩ : ∃ m,m = r.length := ⟨_,rfl⟩
     rw [<- hm] at ho5 hr2 ⊢
     have HM := hid hm
     have HO5 := hid (own_keep HO.out hb5)
     have HB5 := hid (HBR.out.trans (hb5.mono HBR.out.size))
     have HN5 := hid ho5
     have HRS := hid (Rs.of_own ho5)
     have hmk : m <= kk := by omega
     have hjm : j + m <= R.length := by omega
     have hend0 : m < kk -> j + m = R.length := by omega
     have HTK : Hid (R.take j ++ r = R.take (j + m)) := by
      show _ = _
      have e := HR12.out.1
      have e2 : r = (R.drop j).take m := by
       rw [e]
       rcases Nat.le_total kk (R.length - j) with h | h
       ·rw [show m = kk by have := hr2; omega]
       ·rw [List.take_of_length_le (by rw [List.length_drop]; exact h),List.take_of_length_le (by rw [List.length_drop]; omega)]
      rw [e2]
      exact (List.take_add ..).symm
     have HOL := hid (fun g hg => Foot.own_lt (g := g) HO.out hg)
     have HSZ := hid hb5.size
     clear hm hb5 ho5 hr2
     by_cases hmlt : m < kk
     ·have hend : j + m = R.length := hend0 hmlt
      rw [hend,List.take_length] at HTK
      have HEND := hid hend
      clear hend hend0
      go_wp2_with (first
       | (at_builtin
          refine wpList_append_row rfl (.tmp 63) (.tmp 64) rfl er wo.heap.size (.slice A4 j c4) j (rv (R.take j)) rfl HO5.out w5.heap.size A5 m c5 (rv r) rfl HRS.out (rv_one _) (by omega) (by omega) HB5.out.size ?_
          intro A6 c6 w6 hown6 hgr6 hb6
          rw [<- rv_append,HTK.out,HEND.out] at hown6
          have HO6 := hid hown6
          have HB6 := hid (HB5.out.trans hb6)
          have c0 := HC0.out _ HB6.out
          clear hown6 hgr6 hb6)
       | fail)
      refine (HRO.out _ HB6.out).mono ?_
      rintro e w7 ⟨A7,c7,rfl,ho7,hb7⟩
      have HO7 := hid (Rs.of_own ho7)
      have HO6' := hid (Rs.of_own (own_keep HO6.out hb7))
      have HB7 := hid (HB6.out.trans (hb7.mono HB6.out.size))
      clear ho7 hb7 c0
      go_wp2_with fail
      rw [HEND.out]
      refine (Idx.rplain_same _ _ A6 A7 R.length R.length c6 c7 R w7 HO6'.out HO7.out (Nat.le_refl _) (Nat.le_refl _)).mono ?_
      rintro e w8 ⟨rfl,hb8⟩
      have HB8 := hid (HBE.out.trans ((HB7.out.trans (hb8.mono HB7.out.size)).mono HBE.out.size))
      clear hb8
      go_wp2
      go_ret
      exact ⟨rfl,HB8.out⟩
     ·obtain rfl : m = kk := by omega
      obtain ⟨mp,hmp⟩ : ∃ mp,m = mp + 1 := ⟨m - 1,by omega⟩
      obtain ⟨y,hy⟩ : ∃ y,r[mp]? = some y := ⟨_,List.getElem?_eq_getElem (by rw [<- HM.out]; omega)⟩
      have hyM : R[j + mp]? = some y := by
       have e := HR12.out.1
       rw [e,List.getElem?_take_of_lt (by omega),List.getElem?_drop] at hy
       exact hy
      have HAY := hid (Idx.aft_at HRM.out hyM)
      obtain ⟨b5,off5,y',hA5,hb5b,d0,_,hy',_⟩ := HRS.out.at_ (k := mp) (by omega)
      obtain rfl : y = y' := by rw [hy] at hy'; injection hy'
      have hnew : wr.heap.size <= b5 := (HN5.out.lt b5 (by rw [hA5]; rfl)).1
      subst hA5
      have q1 : (mp : Int) < (m : Int) := by omega
      have ekm : (m : Int) - 1 = (mp : Int) := by omega
      have HMP := hid hmp
      clear hy hyM hy' hend0 hmp
      go_wp2_with (first
       | (at_builtin
          refine wpList_append_row rfl (.tmp 63) (.tmp 64) rfl er wo.heap.size (.slice A4 j c4) j (rv (R.take j)) rfl HO5.out w5.heap.size (some ⟨b5,off5,none⟩) m c5 (rv r) rfl HRS.out (rv_one _) (by omega) (by omega) HB5.out.size ?_
          intro A6 c6 w6 hown6 hgr6 hb6
          rw [<- rv_append,HTK.out] at hown6
          have HO6 := hid hown6
          have HB6 := hid (HB5.out.trans hb6)
          have d6 := (hgr6.cell (p := ⟨b5,off5 + mp * 2,none⟩) hb5b (by intro e; have := HOL.out b5 e.symm; omega)).trans d0
          clear hown6 hgr6 hb6)
       | fail)
      go_roundw
      case rel => exact ⟨q + 1,j + m,A6,c6,y.key,by go_num,rfl,rfl,by have := HMP.out; omega,hjm,by rw [HAY.out]; have := HMP.out; omega,HO6.out,HB6.out⟩
      case measure => simp [RowKit.intOf]; omega)
end Src
end Go.Proofs.YtefnmnpfecfdaaaGreat
namespace Go.Proofs.YtefnmnpfecfdaaaGreat.sourceChunks
open Go.ChangeShapes Go.WideShapes Go.ChangeAt Go.RowKit
open Go.ChangeMaps (open_string shut_string)
set_option linter.unusedVariables false
theorem own : ownKnob Tryz.prog.godebug = none := by kernel_rfl
theorem laidOut : laidOutB Tryz.prog = true := by kernel_rfl
set_option maxRecDepth 100000 in
theorem lifted (os : Os) (started : os.Started) (H : Type) (enc : TypeId × Value → H) :
 ReturnsInHanded {} Tryz.checked os 5 .any (Rows.sourceChunksSpec.pre6 enc Tryz.prog Tryz.f5 Rows.sourceChunksRow.domain false) (Rows.sourceChunksSpec.post enc Tryz.prog Tryz.f5 false true false false) := by
 refine returnsInHanded_of_change (C := Tryz.checked) own started (by kernel_rfl) Tryz.func5
  (ChangeSpec.witness6 (enc := enc) (C := Tryz.checked) false ⟨#[], #[.slice none 0 0, .int .i64 0], []⟩ 8 (by kernel_rfl) (by kernel_rfl) (by kernel_rfl) (by kernel_rfl)) ?_
 intro W base args ds gs before hval0 hW hcnd _
 have hval : ∀ (j : Nat) t v, Tryz.f5.params[j]? = some t → args[j]? = some v → Value.okWide Tryz.prog W .any base t v := hval0
 have hW' := hW
 obtain ⟨p, q, hA0, hV, rfl, hfz, hnd⟩ := hW
 have hA : DataW.TrodAll enc Tryz.prog W 0 (fun _ => true) true Tryz.f5.params.toList args.toList ds p := hA0
 rw [Tryz.params5] at hA hval
 obtain ⟨v0, vs0, d0, ds0, p0, q0, hargs, rfl, rfl, h0, r0⟩ := trodAll_cons hA
 obtain ⟨v1, vs1, d1, ds1, p1, q1, rfl, rfl, rfl, h1, r1⟩ := trodAll_cons r0
 obtain ⟨rfl, rfl, rfl⟩ := trodAll_nil r1
 obtain rfl : args = #[v0, v1] := by cases args; simp_all
 obtain ⟨rfl, rfl⟩ := trodVars_none hV
 obtain ⟨a0, len0, cap0, rfl⟩ := okWide_slice Tryz.underlying22 (hval 0 22 v0 rfl rfl)
 have k0 := h0
 have lt0 : ∀ x ∈ p0, x.block < W.heap.size := by obtain ⟨m, hm⟩ := k0; exact DataW.trod_lt m _ _ _ hm
 obtain ⟨l0, w0⟩ := Tbl.open_lists h0
 obtain ⟨a1, rfl, rfl, rfl, w1⟩ := open_int Tryz.underlying3 (hval 1 3 v1 rfl rfl) h1
 clear hA0 hval0
 refine (Src.chunks_walk a0 len0 cap0 l0 a1 W w0.1 w0.2).mono fun e W' ⟨he, bel⟩ => ?_
 subst he
 exact ⟨_, rfl, _, _, _, [], _, [], hW', trodAll_mk1 (shut_bool Tryz.underlying4 _), (trodAll_cons_mk (Below.trod laidOut (by kernel_rfl) (of_decide_eq_true (by kernel_rfl)) k0 bel lt0) (trodAll_cons_mk (shut_int Tryz.underlying3 w1) trodAll_mk0)), rfl, bel.frame _, fun h => by cases h⟩
theorem over : Rows.sourceChunksRow.holds Tryz.pinned (OpenSpec.ofChange Rows.sourceChunksSpec) :=
 OpenClaim.holds_of_wide 5 Tryz.f5 rfl rfl rfl rfl rfl rfl rfl ⟨rfl, rfl, rfl, rfl, rfl⟩ rfl rfl rfl rfl rfl (by kernel_rfl) Tryz.func5 (by kernel_rfl)
  (of_decide_eq_true (by kernel_rfl)) (by unfold Func.isWrapper; first | (rw [if_pos (by decide +kernel)]; kernel_rfl) | (rw [if_neg (by decide +kernel)]; exact ⟨rfl, rfl⟩))
  (fun os started H enc _ => lifted os started H enc)
end Go.Proofs.YtefnmnpfecfdaaaGreat.sourceChunks
namespace Go.Proofs.YtefnmnpfecfdaaaGreat
theorem sourceChunks_holds : Rows.SourceChunksSaid := sourceChunks.over
end Go.Proofs.YtefnmnpfecfdaaaGreat
#print axioms Go.Proofs.YtefnmnpfecfdaaaGreat.sourceChunks_holds
