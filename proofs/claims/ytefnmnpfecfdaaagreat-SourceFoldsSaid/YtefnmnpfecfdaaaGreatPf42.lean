/-
  Texts of one proof: SrcOpenC, SrcOpened.
-/
import Derived.Test.YtefnmnpfecfdaaaGreatPf41
set_option linter.all false
set_option maxRecDepth 100000
set_option maxHeartbeats 12800000
open Go.Lib (hid)
namespace Go.Proofs.YtefnmnpfecfdaaaGreat
namespace Src
open Go.RowKit Base
open Foot (Turn Out)
open DiskMath (Fl Dk)
open WalMath (Lg Sg Cap rowsOf)
open SrcMath (Sc So imgAt newest fileOf lsnOf other reads above tabs)
open ImgMath (Im)
open IdxMath (Rw)
open Wal (New Win DiskT Both)
open Tbl (SetAt)
open Img (OwnTabs Tabs)
theorem OwnTabs.turn {T : Nat -> Prop} {w w' : World} {base n c : Nat} {A : Option Addr} {R : List (List Rw)} (h : Img.OwnTabs w base A n c R) (ht : Turn T w w') (hT : ∀ j,base <= j -> j < w.heap.size -> ¬ T j) : Img.OwnTabs w' base A n c R := by
 obtain ⟨vs,h1,h2,h3⟩ := h
 refine ⟨vs,Foot.own_same h1 fun b e => ht.block b (h1.lt b e).2 (hT b (h1.lt b e).1 (h1.lt b e).2),h2,fun i v l hv hl => ?_⟩
 obtain ⟨A',n',c',e,ho⟩ := h3 i v l hv hl
 exact ⟨A',n',c',e,Foot.own_same ho fun b e => ht.block b (ho.lt b e).2 (hT b (ho.lt b e).1 (ho.lt b e).2)⟩
def LdRel (T : Nat -> Prop) (w : World) (s p g gd : Nat) (l : Lg) (R T0 : List (List Rw)) (d : Dk) (file lsn : Int) (n : Nat) (vi : Value) (wr : World) : Prop := ∃ k : Nat,vi = .int .i64 k /\ k <= n /\ SrcAt T wr s p g gd ⟨l,R.take k ++ T0.drop k,file,lsn⟩ d /\ Turn T w wr
theorem Loaded.mono {T T' : Nat -> Prop} {w w' : World} {s p g gd : Nat} {l : Lg} {d : Dk} {file lsn : Int} {r : Option (List (List Rw))} {e : Ending} {w0 : World} (h : Loaded T w s p g gd l d file lsn r e w') (hT : ∀ i,T i -> T' i) (ht : Turn T' w0 w) : Loaded T' w0 s p g gd l d file lsn r e w' := by
 cases r with
 | none =>
   obtain ⟨h1,⟨F,h2,h3⟩,h4⟩ := h
   exact ⟨h1,⟨F,h2,fun i hi => ⟨hT i (h3 i hi).1,(h3 i hi).2⟩⟩,ht.trans (h4.mono hT) fun i hi => .inl hi⟩
 | some T1 =>
   obtain ⟨h1,h2,h4⟩ := h
   exact ⟨h1,h2.mono hT,ht.trans (h4.mono hT) fun i hi => .inl hi⟩
theorem newest_tabs {n : Nat} {d : Dk} {f : Int} {i : Im} (h : newest n d = some (f,i)) : SrcMath.ImTabs i.tabs /\ i.tabs.length = n /\ 0 <= i.lsn /\ i.lsn <= 1099511627776 := by
 unfold newest at h
 have fin : ∀ {f0 : Int},imgAt n d f0 = some i -> SrcMath.ImTabs i.tabs /\ i.tabs.length = n /\ 0 <= i.lsn /\ i.lsn <= 1099511627776 := fun h0 => ⟨(SrcMath.imgAt_tabs h0).1,(SrcMath.imgAt_tabs h0).2,SrcMath.imgAt_lsn h0⟩
 cases h0 : imgAt n d 0 with
 | none =>
   rw [h0] at h
   cases h1 : imgAt n d 1 with
   | none => rw [h1] at h; cases h
   | some b =>
     rw [h1] at h
     injection h with h
     injection h with _ h
     subst h
     exact fin h1
 | some a =>
   rw [h0] at h
   cases h1 : imgAt n d 1 with
   | none =>
     rw [h1] at h
     injection h with h
     injection h with _ h
     subst h
     exact fin h0
   | some b =>
     rw [h1] at h
     dsimp only at h
     split at h
     ·injection h with h
      injection h with _ h
      subst h
      exact fin h1
     ·injection h with h
      injection h with _ h
      subst h
      exact fin h0
def loadM (l : Lg) (n : Nat) (im : Option (Int × Im)) : Option (List (List Rw)) := if WalMath.hd l.segs < lsnOf im \/ lsnOf im + 1 < WalMath.low l.segs then none else (reads n (WalMath.low l.segs) (rowsOf l.segs)).map (above (lsnOf im) (SrcMath.begun n im))
theorem load_any (T : Nat -> Prop) (s p g gd : Nat) (l : Lg) (d : Dk) (n k M : Nat) (w : World) (h : SrcAt T w s p g gd ⟨l,List.replicate n [],-1,0⟩ d) (hT : New T w) (ho : LOk l) (hn1 : 1 <= n) (hn8 : n <= 8) (hc : Cap k M d) (hM : M <= 140737488355328) (hfew : (rowsOf l.segs).length <= 1000000) :
 Calls Tryz.prog 38 #[.pointer (some ⟨s,0,none⟩)] w (Loaded T w s p g gd l d (fileOf (newest n d)) (lsnOf (newest n d)) (loadM l n (newest n d))) := by
 have hsl := h.lt
 have c0 := h.cells.1
 have HT := hid hT
 have HO := hid ho
 have HS := hid h
 have hbd := Wal.hd_bd ho.ok.2.2.2.2
 have hlb := low_bd ho
 have hlh := hd_cnt ho
 obtain ⟨K,hset,_⟩ := h.set
 have HD1 : Hid (Below w.heap.size w w.drew) := (Below.refl w.heap.size w).drew
 have HTA := hid (Tbl.tables_any K p _ w.drew (hset.new HD1.out))
 dsimp only at HTA
 rw [List.length_replicate] at HTA
 have HFI := hid (find_any (fun j => T j /\ j < w.heap.size) s p g gd l (List.replicate n []) d n k M w.drew (h.old.new HD1.out) hc hM hn1)
 have HIM := hid (fun (T1 : Nat -> Prop) wx R f1 l1 (hx : SrcAt T1 wx s p g gd ⟨l,R,f1,l1⟩ d) => image_any T1 s p g gd _ d wx hx)
 have HHD := hid (fun (T1 : Nat -> Prop) wx R f1 l1 (hx : SrcAt T1 wx s p g gd ⟨l,R,f1,l1⟩ d) => head_any T1 s p g gd _ d wx hx ho)
 have HLO := hid (fun (T1 : Nat -> Prop) wx R f1 l1 (hx : SrcAt T1 wx s p g gd ⟨l,R,f1,l1⟩ d) => low_any T1 s p g gd _ d wx hx)
 dsimp only at HIM HHD HLO
 have HIB : Hid (0 <= lsnOf (newest n d) /\ lsnOf (newest n d) <= 1099511627776 /\ (∀ f i,newest n d = some (f,i) -> SrcMath.ImTabs i.tabs /\ i.tabs.length = n)) := by
  cases hq : newest n d with
  | none => exact ⟨Int.le_refl 0,by show (0 : Int) <= _; omega,fun f i e => by cases e⟩
  | some x =>
    obtain ⟨f,i⟩ := x
    have := newest_tabs hq
    exact ⟨this.2.2.1,this.2.2.2,fun f' i' e => by injection e with e; injection e with _ e; subst e; exact ⟨this.1,this.2.1⟩⟩
 generalize newest n d = im at *
 have hib := HIB.out.1
 have hib2 := HIB.out.2.1
 obtain ⟨ls,hls⟩ : ∃ ls,lsnOf im = ls := ⟨_,rfl⟩
 obtain ⟨fi,hfi⟩ : ∃ fi,fileOf im = fi := ⟨_,rfl⟩
 have HLM : Hid (loadM l n im = if WalMath.hd l.segs < ls \/ ls + 1 < WalMath.low l.segs then none else (reads n (WalMath.low l.segs) (rowsOf l.segs)).map (above ls (SrcMath.begun n im))) := by show _ = _; unfold loadM; rw [hls]
 rw [hls,hfi]
 rw [hls] at hib hib2
 have HFA : Hid (∀ v w',FindAt (fun j => T j /\ j < w.heap.size) w.drew s p g gd l (List.replicate n []) d im v w' -> NewV w.heap.size w' v im /\ SrcAt (fun j => T j /\ j < w.heap.size) w' s p g gd ⟨l,List.replicate n [],fi,ls⟩ d /\ w.grownBy w' (some s)) := fun v w' hf => by
  obtain ⟨h1,h2,h3⟩ := hf
  rw [hls,hfi] at h2
  exact ⟨h1,h2,only_of_drew h3⟩
 clear h hT ho hset hls hfi hc
 generalize hhd : WalMath.hd l.segs = hd at *
 generalize hlo : WalMath.low l.segs = lo at *
 have HLW := hid hlo
 clear hhd hlo
 go_enter Tryz.func38,Tryz.ntmps38
 go_upto_region 1 with fail
 refine Go.wp_region_held_drew (S := fun w' => w'.cell? ⟨s,0,none⟩ = some (.pointer (some ⟨p,0,none⟩))) (by kernel_rfl) ((HD1.out.cell (p := ⟨s,0,none⟩) hsl).trans c0) (fun hHeld => ?_)
 refine wpAnyH_take (i := 0) (v := ?cv0) rfl (by kernel_rfl) (by kernel_rfl) (by kernel_rfl) (fun _ _ _ h => h) (Or.inl ⟨by rfl,?cy0⟩) (by assumption) ?cr0
 case cy0 => (intro w hSw; (try dsimp only at hSw); go_simp; try with_reducible rfl)
 try simp only [Act.put,Base.px]
 refine wpAnyH_take (i := 1) (v := ?cv1) rfl (by kernel_rfl) (by kernel_rfl) (by kernel_rfl) (fun _ _ _ h => h) (Or.inl ⟨by rfl,?cy1⟩) (by assumption) ?cr1
 case cy1 => (intro w hSw; (try dsimp only at hSw); go_simp; try with_reducible rfl)
 try simp only [Act.put,Base.px]
 refine wpAnyH_take (i := 2) (v := ?cv2) rfl (by kernel_rfl) (by kernel_rfl) (by kernel_rfl) (fun _ _ _ h => h) (Or.inl ⟨by rfl,?cy2⟩) (by assumption) ?cr2
 case cy2 => (intro w hSw; (try dsimp only at hSw); go_simp; try with_reducible rfl)
 try simp only [Act.put,Base.px]
 refine wpAnyH_take (i := 3) (v := ?cv3) rfl (by kernel_rfl) (by kernel_rfl) (by kernel_rfl) (fun _ _ _ h => h) (Or.inl ⟨by rfl,?cy3⟩) (by assumption) ?cr3
 case cy3 => (intro w hSw; (try dsimp only at hSw); go_simp; try with_reducible rfl)
 try simp only [Act.put,Base.px]
 refine wpAnyH_take (i := 4) (v := ?cv4) rfl (by kernel_rfl) (by kernel_rfl) (by kernel_rfl) (fun _ _ _ h => h) (Or.inl ⟨by rfl,?cy4⟩) (by assumption) ?cr4
 case cy4 => (intro w hSw; (try dsimp only at hSw); go_simp; try with_reducible rfl)
 try simp only [Act.put,Base.px]
 refine wpAnyH_take (i := 5) (v := ?cv5) rfl (by kernel_rfl) (by kernel_rfl) (by kernel_rfl) (fun _ _ _ h => h) (Or.inl ⟨by rfl,?cy5⟩) (by assumption) ?cr5
 case cy5 => (intro w hSw; (try dsimp only at hSw); go_simp; try with_reducible rfl)
 try simp only [Act.put,Base.px]
 refine wpAnyH_take (i := 6) (v := ?cv6) rfl (by kernel_rfl) (by kernel_rfl) (by kernel_rfl) (fun _ _ _ h => h) (Or.inl ⟨by rfl,?cy6⟩) (by assumption) ?cr6
 case cy6 => (intro w hSw; (try dsimp only at hSw); go_simp; try with_reducible rfl)
 try simp only [Act.put,Base.px]
 refine wpAnyH_ready (rs := [7]) (by kernel_rfl) (by simp) ?_
 refine AllReadyH.cons rfl (fun K hK => ?_) AllReadyH.nil
 go_simp
 go_at_call 40
 refine HTA.out.mono ?_
 rintro e wx ⟨rfl,rfl⟩
 refine hK.out _ _ ((HD1.out.cell (p := ⟨s,0,none⟩) hsl).trans c0) (fun hHeld => ?_)
 clear hK K
 try simp only [Act.put,Base.px]
 refine wpAnyH_ready (rs := [8]) (by kernel_rfl) (by simp) ?_
 refine AllReadyH.cons rfl (fun K hK => ?_) AllReadyH.nil
 go_simp
 go_at_call 97
 refine HFI.out.mono ?_
 rintro e w1 ⟨v,rfl,hfa⟩
 obtain ⟨h1,h2,h3⟩ := HFA.out _ _ hfa
 have HNV := hid h1
 have HS1 := hid h2
 have HG1 := hid h3
 have hz1 := h3.size
 refine hK.out _ _ (h2.cells.1) (fun hHeld => ?_)
 clear hK K h1 h2 h3 hfa HTA HFI HFA
 try simp only [Act.put,Base.px]
 refine wpAnyH_take (i := 9) (v := ?dv9) rfl (by kernel_rfl) (by kernel_rfl) (by kernel_rfl) (fun _ _ _ h => h) (Or.inl ⟨by rfl,?dy9⟩) (by assumption) ?dr9
 case dy9 => (intro w hSw; (try dsimp only at hSw); go_simp; try with_reducible rfl)
 try simp only [Act.put,Base.px]
 refine wpAnyH_done (by kernel_rfl) ?_ _
 have HT1 : Hid (Turn T w w1) := Turn.grown HG1.out fun j hj => by
  injection hj with hj
  subst hj
  obtain ⟨L,K,hP⟩ := HS.out
  exact hP.inS
 clear c0
 by_cases hb1 : hd < ls
 ·have HL2 : Hid (loadM l n im = none) := by show _ = _; rw [HLM.out,if_pos (.inl hb1)]
  clear HLM
  go_wp2_with fail
  refine (HIM.out _ _ _ _ _ HS1.out).mono ?_
  rintro e w2 ⟨rfl,rfl⟩
  go_wp2_with fail
  refine (HHD.out _ _ _ _ _ HS1.out).mono ?_
  rintro e w2 ⟨rfl,hb⟩
  have HB := hid hb
  clear hb
  go_wp2
  go_ret
  rw [HL2.out]
  exact ⟨rfl,((HS1.out.new HB.out).mono fun i hi => hi.1).onDisk,HT1.out.trans (F' := T) (Turn.new HB.out) fun i hi => .inl hi⟩
 by_cases hb2 : ls + 1 < lo
 ·have HL2 : Hid (loadM l n im = none) := by show _ = _; rw [HLM.out,if_pos (.inr hb2)]
  clear HLM
  go_wp2_with fail
  refine (HIM.out _ _ _ _ _ HS1.out).mono ?_
  rintro e w2 ⟨rfl,rfl⟩
  go_wp2_with fail
  refine (HHD.out _ _ _ _ _ HS1.out).mono ?_
  rintro e w2 ⟨rfl,hb⟩
  have HB := hid hb
  have HS2 := hid (HS1.out.new hb)
  clear hb
  go_wp2_with fail
  refine (HLO.out _ _ _ _ _ HS2.out).mono ?_
  rintro e w3 ⟨rfl,rfl⟩
  go_wp2_with fail
  refine (HIM.out _ _ _ _ _ HS2.out).mono ?_
  rintro e w3 ⟨rfl,rfl⟩
  go_wp2
  go_ret
  rw [HL2.out]
  exact ⟨rfl,((HS1.out.new HB.out).mono fun i hi => hi.1).onDisk,HT1.out.trans (F' := T) (Turn.new HB.out) fun i hi => .inl hi⟩
 have HL2 : Hid (loadM l n im = (reads n lo (rowsOf l.segs)).map (above ls (SrcMath.begun n im))) := by show _ = _; rw [HLM.out,if_neg (by omega)]
 clear HLM
 go_wp2_with fail
 refine (HIM.out _ _ _ _ _ HS1.out).mono ?_
 rintro e w2 ⟨rfl,rfl⟩
 go_wp2_with fail
 refine (HHD.out _ _ _ _ _ HS1.out).mono ?_
 rintro e w2 ⟨rfl,hb⟩
 have HB := hid hb
 have HS2 : Hid (SrcAt (Win T w.heap.size w2.heap.size) w2 s p g gd ⟨l,List.replicate n [],fi,ls⟩ d) := (HS1.out.new hb).mono fun i hi => ⟨hi.1,.inl hi.2⟩
 have HN2 : Hid (New (Win T w.heap.size w2.heap.size) w2) := fun i hi => ⟨HT.out i (by have := hb.size; omega),.inr hi⟩
 have HV2 := hid (HNV.out.keep hb)
 have HT2 : Hid (Turn T w w2) := HT1.out.trans (F' := T) (Turn.new hb) fun i hi => .inl hi
 clear hb HS1 HNV HT1 HG1
 go_wp2_with fail
 refine (HLO.out _ _ _ _ _ HS2.out).mono ?_
 rintro e w3 ⟨rfl,rfl⟩
 go_wp2_with fail
 refine (HIM.out _ _ _ _ _ HS2.out).mono ?_
 rintro e w3 ⟨rfl,rfl⟩
 cases im with
 | none =>
   have hv : v = .slice none 0 0 := HV2.out
   subst hv
   have HRP := hid (replay_any _ s p g gd l (List.replicate n []) d fi ls n w2 HS2.out HN2.out HO.out (by simp) (SrcMath.most_tabs fun r hr => by rw [(List.mem_replicate.1 hr).2]; simp) hfew)
   rw [HLW.out] at HRP
   have HBG : Hid (SrcMath.begun n none = List.replicate n []) := rfl
   have HTT := hid HT2.out
   generalize (List.replicate n [] : List (List Rw)) = RR at HRP HBG
   go_wp2
   go_loopw [30] (fun vi wr => vi = .int .i64 0 /\ wr = w2) (fun _ _ => 0)
   case atStart => exact ⟨rfl,rfl⟩
   case round =>
    obtain ⟨rfl,rfl⟩ := hrel
    go_wp2_with fail
    refine HRP.out.mono ?_
    intro e w4 hl
    replace hl := hl.mono (T' := T) (w0 := w) (fun i hi => hi.1) HTT.out
    rw [HBG.out] at HL2
    generalize (reads n lo (rowsOf l.segs)).map (above ls RR) = r at hl HL2
    cases r with
    | none =>
      obtain ⟨rfl,h2,h3⟩ := hl
      have H2 := hid h2
      have H3 := hid h3
      clear h2 h3
      go_wp2
      go_ret
      rw [HL2.out]
      exact ⟨rfl,H2.out,H3.out⟩
    | some r =>
      obtain ⟨rfl,h2,h3⟩ := hl
      have H2 := hid h2
      have H3 := hid h3
      clear h2 h3
      go_wp2
      go_ret
      rw [HL2.out]
      exact ⟨rfl,H2.out,H3.out⟩
 | some x =>
   obtain ⟨f,i⟩ := x
   obtain ⟨a,n',c',rfl,hot⟩ := HV2.out
   have hit := HIB.out.2.2 f i rfl
   have HIT := hid hit.1
   have hln := hot.len
   have hin := hit.2
   obtain rfl : n' = n := by omega
   have HOT := hid hot
   have HBG : Hid (SrcMath.begun n' (some (f,i)) = i.tabs) := rfl
   generalize i.tabs = RR at *
   have HRL := hid hin
   have HOR : Hid (∀ wr,Turn (Win T w.heap.size w2.heap.size) w2 wr -> OwnTabs wr w.heap.size (some a) n' c' RR) := fun wr ht => OwnTabs.turn HOT.out ht fun j h1 h2 hj => by
    have : j < w.heap.size \/ w2.heap.size <= j := hj.2
    omega
   have HLD := hid (fun wr R (h1 : SrcAt (Win T w.heap.size w2.heap.size) wr s p g gd ⟨l,R,fi,ls⟩ d) (h2 : w2.heap.size <= wr.heap.size) => h1.sets (HN2.out.le h2))
   have HRPA := hid (fun wr R (h1 : SrcAt (Win T w.heap.size w2.heap.size) wr s p g gd ⟨l,R,fi,ls⟩ d) (h2 : w2.heap.size <= wr.heap.size) (h3 : R.length = n') (h4 : Tbl.Most R 1000) => replay_any _ s p g gd l R d fi ls n' wr h1 (HN2.out.le h2) HO.out h3 h4 hfew)
   rw [HLW.out] at HRPA
   clear hot hit hln hin
   go_wp2
   go_loopw [30,4,5] (fun vi _ _ wr => LdRel (Win T w.heap.size w2.heap.size) w2 s p g gd l RR (List.replicate n' []) d fi ls n' vi wr) (fun vi _ _ _ => n' - (RowKit.intOf vi).toNat)
   case atStart => exact ⟨0,rfl,Nat.zero_le _,by simpa using HS2.out,Turn.refl _ _⟩
   case round =>
    obtain ⟨kk,rfl,hk,hsr,htu⟩ := hrel
    have HSR := hid hsr
    have HTU := hid htu
    have hzr := htu.size
    by_cases hlt : kk < n'
    ·obtain ⟨b,off,A',m',d',rr,hae,hb,hcell,hrs,hget,htake⟩ := (HOR.out wr htu).tabs.at_ hlt
     obtain rfl : a = ⟨b,off,none⟩ := Option.some.inj hae
     have HGET := hid hget
     have c0 := hsr.cells.1
     obtain ⟨K2,hset,hK2,hback⟩ := HLD.out wr _ hsr hzr
     have hmlen : rr.length = m' := hrs.len
     have hfr := HIT.out.few rr (List.mem_of_getElem? hget)
     have HLO2 := hid (Tbl.load_any K2 p _ (kk : Int) A' m' d' rr wr hset hrs (by omega))
     have HBK := hback
     have HNX := hid (SrcMath.load_next (T := List.replicate n' []) HIT.out.rise (by rw [HRL.out,List.length_replicate]) hget)
     clear hset hK2 hback hrs hget htake hmlen hfr hsr htu
     go_wp2_with fail
     refine HLO2.out.mono ?_
     rintro e w4 ⟨rfl,h4,h5⟩
     obtain ⟨h6,h7⟩ := HBK.out _ _ h4 h5
     rw [HNX.out] at h6
     have H6 := hid h6
     have H7 : Hid (Turn (Win T w.heap.size w2.heap.size) w2 w4) := HTU.out.trans h7 fun i hi => .inl hi
     clear h4 h5 h6 h7 hcell c0
     go_wp2
     go_roundw
     case rel => exact ⟨kk + 1,by go_num,by omega,H6.out,H7.out⟩
     case measure => simp [RowKit.intOf]; omega
    ·obtain rfl : kk = n' := by omega
     have hse : RR.take kk ++ (List.replicate kk ([] : List Rw)).drop kk = RR := by
      rw [List.take_of_length_le (by rw [HRL.out]; exact Nat.le_refl _),List.drop_of_length_le (by simp),List.append_nil]
     rw [hse] at hsr
     have HRP := hid (HRPA.out wr RR hsr hzr HRL.out (SrcMath.most_tabs HIT.out.few))
     have HTT : Hid (Turn T w wr) := HT2.out.trans (F' := T) (htu.mono fun i hi => hi.1) fun i hi => .inl hi
     clear hse hsr htu
     go_wp2_with fail
     refine HRP.out.mono ?_
     intro e w4 hl
     replace hl := hl.mono (T' := T) (w0 := w) (fun i hi => hi.1) HTT.out
     rw [HBG.out] at HL2
     generalize (reads kk lo (rowsOf l.segs)).map (above ls RR) = r at hl HL2
     cases r with
     | none =>
       obtain ⟨rfl,h2,h3⟩ := hl
       have H2 := hid h2
       have H3 := hid h3
       clear h2 h3
       go_wp2
       go_ret
       rw [HL2.out]
       exact ⟨rfl,H2.out,H3.out⟩
     | some r =>
       obtain ⟨rfl,h2,h3⟩ := hl
       have H2 := hid h2
       have H3 := hid h3
       clear h2 h3
       go_wp2
       go_ret
       rw [HL2.out]
       exact ⟨rfl,H2.out,H3.out⟩
end Src
namespace Src
open Go.RowKit Base
open Foot (Turn Out)
open DiskMath (Fl Dk)
open WalMath (Lg Sg Cap rowsOf)
open SrcMath (Sc So newest fileOf lsnOf)
open IdxMath (Rw)
open Wal (New Win DiskT Both)
open Tbl (SetAt)
def OpenR (T : Nat -> Prop) (w : World) (gd : Nat) (r : So) (e : Ending) (w' : World) : Prop := match r.s with
 | none => e = .returned (.tuple #[.pointer none,.int .i64 r.e]) /\ DiskT T w' gd r.d /\ Turn T w w'
 | some S => ∃ s p g,e = .returned (.tuple #[.pointer (some ⟨s,0,none⟩),.int .i64 0]) /\ SrcAt T w' s p g gd S r.d /\ Turn T w w'
theorem open_bad {d : Dk} {n size : Int} (h : ¬ (1 <= n /\ n <= 8)) : SrcMath.open_ d n size = ⟨1,none,d⟩ := by unfold SrcMath.open_; rw [if_pos (by omega)]
theorem open_nolog {d d' : Dk} {n size e : Int} (h : 1 <= n /\ n <= 8) (ho : WalMath.open_ d 16 size = ⟨e,none,d'⟩) : SrcMath.open_ d n size = ⟨e,none,d'⟩ := by unfold SrcMath.open_; rw [if_neg (by omega),ho]
theorem open_err {d d' : Dk} {ba sz er : Int} (h : WalMath.open_ d ba sz = ⟨er,none,d'⟩) : er ≠ 0 := by
 unfold WalMath.open_ at h
 split at h
 ·injection h with h; omega
 ·split at h
  ·injection h with h; omega
  ·split at h
   ·injection h with h; omega
   ·unfold WalMath.mended at h
    split at h
    ·injection h with _ h; cases h
    ·next h1 => injection h with h; rw [<- h]; exact h1
theorem open_log {d d' : Dk} {n : Nat} {size e : Int} {l : Lg} (h1 : 1 <= n) (h8 : n <= 8) (ho : WalMath.open_ d 16 size = ⟨e,some l,d'⟩) (hs : ∀ s ∈ l.segs,Wal.SgOk s) :
 SrcMath.open_ d (n : Int) size = match loadM l n (newest n d') with
  | none => ⟨3,none,d'⟩
  | some T => ⟨0,some ⟨l,T,fileOf (newest n d'),lsnOf (newest n d')⟩,d'⟩ := by
 have hlow : 1 <= WalMath.low l.segs := by
  cases hq : l.segs with
  | nil => exact Int.le_refl _
  | cons x r => rw [hq] at hs; exact (hs x List.mem_cons_self).2.2.1
 unfold SrcMath.open_
 rw [if_neg (by omega),ho]
 dsimp only
 rw [show ((n : Int)).toNat = n from rfl]
 unfold loadM
 generalize newest n d' = im
 cases hr : SrcMath.reads n (WalMath.low l.segs) (rowsOf l.segs) with
 | none =>
   dsimp only
   by_cases hb : WalMath.hd l.segs < lsnOf im \/ lsnOf im + 1 < WalMath.low l.segs
   ·rw [if_pos hb]
   ·rw [if_neg hb]; rfl
 | some ts =>
   dsimp only
   by_cases hb : WalMath.hd l.segs < lsnOf im \/ lsnOf im + 1 < WalMath.low l.segs
   ·rw [if_pos hb,if_pos hb]
   ·rw [if_neg hb,if_neg hb]
    have : ∀ t ∈ ts,1 <= t.lsn := fun t ht => by
     have := SrcMath.reads_lsn hr t ht
     omega
    show _ = (⟨0,some ⟨l,SrcMath.above (lsnOf im) (SrcMath.begun n im) ts,fileOf im,lsnOf im⟩,d'⟩ : So)
    rw [SrcMath.tabs_is this]
theorem open_any (T : Nat -> Prop) (gd : Nat) (d : Dk) (k M : Nat) (n size : Int) (w : World) (h : DiskT T w gd d) (hT : New T w) (hc : Cap k M d) (hk : k <= 1000000) (hM : M <= 35184372088832) (hok : ∀ l,(WalMath.open_ d 16 size).l = some l -> LOk l /\ (rowsOf l.segs).length <= 1000000) :
 Calls Tryz.prog 8 #[.pointer (some ⟨gd,0,none⟩),.int .i64 n,.int .i64 size] w (OpenR T w gd (SrcMath.open_ d n size)) := by
 have HT := hid hT
 have HD := hid h
 have HC := hid hc
 have hc2 := hc.open__ 16 size
 have HC2 := hid hc2
 have HOK := hid hok
 clear h hT hc hc2 hok
 by_cases hn : 1 <= n /\ n <= 8
 ·obtain ⟨m,rfl⟩ := Int.eq_ofNat_of_zero_le (show 0 <= n by omega)
  have hm1 : 1 <= m := by omega
  have hm8 : m <= 8 := by omega
  go_enter Tryz.func8,Tryz.ntmps8
  go_wp2_with fail
  refine (Tbl.new_any (m : Int) w).mono ?_
  intro e w1 hmade
  unfold Tbl.Made at hmade
  rw [if_pos hn] at hmade
  obtain ⟨p,rfl,hset,hb1⟩ := hmade
  rw [Int.toNat_natCast] at hset
  have HSET := hid hset
  have HB1 := hid hb1
  have HD1 : Hid (DiskT (Win T w.heap.size w1.heap.size) w1 gd d) := by
   obtain ⟨F,h1,h2⟩ := HD.out
   exact ⟨F,h1.new hb1,fun i hi => ⟨⟨(h2 i hi).1,.inl (h2 i hi).2⟩,Nat.lt_of_lt_of_le (h2 i hi).2 hb1.size⟩⟩
  have HN1 := hid (new_win HT.out hb1.size)
  clear hset hb1
  go_wp2_with fail
  refine (Wal.open_any _ gd d k M 16 size w1 HD1.out HN1.out HC.out hk hM).mono ?_
  generalize hop : WalMath.open_ d 16 size = op at HOK HC2
  obtain ⟨er,ol,d'⟩ := op
  intro e w2 ho
  cases ol with
  | none =>
    have HE := hid (open_nolog hn hop)
    obtain ⟨rfl,h1,h2⟩ := ho
    have H1 : Hid (DiskT T w2 gd d') := by
     obtain ⟨F,h3,h4⟩ := h1
     exact ⟨F,h3,fun i hi => ⟨(h4 i hi).1.1,(h4 i hi).2⟩⟩
    have H2 : Hid (Turn T w w2) := (Turn.new HB1.out).trans (h2.mono fun i hi => hi.1) fun i hi => .inl hi
    have herr : (er != 0) = true := by simpa using open_err hop
    clear h1 h2
    go_wp2
    go_ret2
    rw [HE.out]
    exact ⟨rfl,H1.out,H2.out⟩
  | some l =>
    obtain ⟨g,rfl,hbo,hsg,h2⟩ := ho
    have HE := hid (open_log hm1 hm8 hop hsg)
    obtain ⟨hlok,hfew⟩ := HOK.out l rfl
    have HL := hid hlok
    have hz2 := h2.size
    have hz1 := HB1.out.size
    have H2 : Hid (Turn T w w2) := (Turn.new HB1.out).trans (h2.mono fun i hi => hi.1) fun i hi => .inl hi
    have HSR : Hid (SrcAt T (w2.alloc (.cells (scells p g gd ⟨l,List.replicate m [],-1,0⟩) 60)) w2.heap.size p g gd ⟨l,List.replicate m [],-1,0⟩ d') := by
     have hb3 : Below w2.heap.size w2 (w2.alloc (.cells (scells p g gd ⟨l,List.replicate m [],-1,0⟩) 60)) := (Below.refl _ _).alloc (Nat.le_refl _) _
     have hs2 : SetAt w2 (fun i => w.heap.size <= i /\ i < w1.heap.size) p (List.replicate m []) := HSET.out.keep hz2 fun i hi hk => h2.block i hi fun hw => by
      have : i < w.heap.size \/ w1.heap.size <= i := hw.2
      omega
     obtain ⟨F,G,h3,h4,h5,h6,h7⟩ := hbo
     refine ⟨fun i => Win T w.heap.size w1.heap.size i /\ i < w2.heap.size,fun i => w.heap.size <= i /\ i < w1.heap.size,Both.new ⟨F,G,h3,h4,h5,fun i hi => ⟨⟨(h6 i hi).1,(h6 i hi).2⟩,(h6 i hi).2⟩,fun i hi => ⟨⟨(h7 i hi).1,(h7 i hi).2⟩,(h7 i hi).2⟩⟩ hb3,hs2.new hb3,Blk.new _ _ _,fun i hi => ⟨hi.1.1,by simp; omega⟩,fun i hi => ⟨HT.out i hi.1,by simp; omega⟩,HT.out _ (by omega),fun i hi => ⟨fun hk => ?_,?_⟩,?_⟩
     ·have : i < w.heap.size \/ w1.heap.size <= i := hi.1.2
      omega
     ·exact Nat.ne_of_lt hi.2
     ·omega
    have HLO := hid (load_any T w2.heap.size p g gd l d' m (k + 1) M _ HSR.out (HT.out.le (by simp; omega)) hlok hm1 hm8 HC2.out (by omega) hfew)
    have H3 : Hid (Turn T w (w2.alloc (.cells (scells p g gd ⟨l,List.replicate m [],-1,0⟩) 60))) := H2.out.alloc _
    unfold scells SrcMath.other at HLO H3
    dsimp only at HLO H3
    rw [if_neg (show ¬ (-1 : Int) = 0 by decide)] at HLO H3
    clear hbo hsg h2 hlok hfew HSR
    generalize loadM l m (newest m d') = lm at *
    go_wp2_with fail
    refine HLO.out.mono ?_
    intro e w3 hl
    cases lm with
    | none =>
      obtain ⟨rfl,h4,h5⟩ := hl
      have H4 := hid h4
      have H5 : Hid (Turn T w w3) := H3.out.trans h5 fun i hi => .inl hi
      clear h4 h5
      go_wp2
      go_ret2
      rw [HE.out]
      exact ⟨rfl,H4.out,H5.out⟩
    | some T' =>
      obtain ⟨rfl,h4,h5⟩ := hl
      have H4 := hid h4
      have H5 : Hid (Turn T w w3) := H3.out.trans h5 fun i hi => .inl hi
      clear h4 h5
      go_wp2
      go_ret2
      rw [HE.out]
      exact ⟨_,p,g,rfl,H4.out,H5.out⟩
 ·have HE := hid (open_bad (d := d) (size := size) hn)
  go_enter Tryz.func8,Tryz.ntmps8
  go_wp2_with fail
  refine (Tbl.new_any n w).mono ?_
  intro e w1 hmade
  unfold Tbl.Made at hmade
  rw [if_neg hn] at hmade
  obtain ⟨rfl,rfl⟩ := hmade
  go_wp2
  go_ret2
  rw [HE.out]
  exact ⟨rfl,HD.out,Turn.refl _ _⟩
end Src
end Go.Proofs.YtefnmnpfecfdaaaGreat
