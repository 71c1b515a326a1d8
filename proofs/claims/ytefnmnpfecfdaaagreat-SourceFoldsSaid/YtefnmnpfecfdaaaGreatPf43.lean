/-
  Texts of one proof: SrcLive, SrcLaw, PlaySig, PlayTxns.
-/
import Derived.Test.YtefnmnpfecfdaaaGreatPf40
import Derived.Test.YtefnmnpfecfdaaaGreatPf42
set_option linter.all false
set_option maxRecDepth 100000
set_option maxHeartbeats 12800000
open Go.Lib (hid)
namespace Go.Proofs.YtefnmnpfecfdaaaGreat
namespace SrcMath
open IdxMath TxnMath FoldMath PartMath
open ImgMath (Im imgB)
open DiskMath (Fl Dk Up)
open WalMath (Lg Sg rowsOf)
section
variable {n : Nat} {l r : List Tx} {sz : Int} {j : Nat} {s : Sc} {d : Dk} {f : Int} {x : Nat}
theorem chs_more {k : Nat} (hk : k <= l.length) : chs (l ++ r) k = chs l k := by
 unfold chs
 rw [List.take_append_of_le_length hk]
theorem tt_more {k : Nat} (hk : k <= l.length) : tt n (l ++ r) k = tt n l k := by
 unfold tt
 rw [chs_more hk]
theorem ents_more {k : Nat} (hk : k <= l.length) : (ents (l ++ r)).take k = (ents l).take k := by
 unfold ents
 rw [List.map_append,List.take_append_of_le_length (by rw [List.length_map]; exact hk)]
theorem Sound.more (h : Sound n l sz j s d f x) : Sound n (l ++ r) sz j s d f x :=
 ⟨h.log,h.size,h.left,h.full,h.files,by rw [ents_more h.le]; exact h.rows,by rw [List.length_append]; have := h.le; omega,h.lo,h.at_,h.nil,by rw [tt_more h.le]; exact h.T,h.up⟩
theorem Imgs.behind {file lsn : Int} (h : Imgs n l x j file lsn d) (hj : j <= l.length) : Imgs n (l ++ r) x j file lsn d := by
 rcases h with h | ⟨L,h1,h2,h3,h4,h5,h6⟩
 ·exact .inl h
 ·have is : ∀ {o : Int} {L' : Nat},L' <= L -> IsIm n l d o L' -> IsIm n (l ++ r) d o L' := fun {o L'} hL hi => by
   unfold IsIm at hi ⊢
   rw [tt_more (by omega)]
   exact hi
  refine .inr ⟨L,h1,h2,h3,h4,is (Nat.le_refl _) h5,?_⟩
  rcases h6 with h6 | ⟨L',h7,h8⟩
  ·exact .inl h6
  ·exact .inr ⟨L',h7,is (by omega) h8⟩
theorem Fine.snoc (h : Fine n l) {t : Tx} (h1 : t.lsn = (l.length : Int) + 1) (h2 : t.may = true) (h3 : ∀ c ∈ t.chs,0 <= c.tbl /\ c.tbl < (n : Int)) : Fine n (l ++ [t]) := by
 refine ⟨fun i y hy => ?_,fun y hy => ?_,fun y hy => ?_⟩
 ·rcases Nat.lt_or_ge i l.length with hi | hi
  ·rw [List.getElem?_append_left hi] at hy
   exact h.lsn i y hy
  ·have hi2 : i = l.length := by
    have := (List.getElem?_eq_some_iff.1 hy).1
    rw [List.length_append] at this
    simp at this
    omega
   subst hi2
   rw [List.getElem?_append_right (Nat.le_refl _),Nat.sub_self] at hy
   simp only [List.getElem?_cons_zero,Option.some.injEq] at hy
   subst hy
   exact h1
 ·rcases List.mem_append.1 hy with hy | hy
  ·exact h.may y hy
  ·rw [List.mem_singleton] at hy
   subst hy
   exact h2
 ·rcases List.mem_append.1 hy with hy | hy
  ·exact h.tbl y hy
  ·rw [List.mem_singleton] at hy
   subst hy
   exact h3
theorem Fine.nil (n : Nat) : Fine n [] := ⟨(fun i x h => by simp at h),(fun x h => by cases h),(fun x h => by cases h)⟩
end
structure Lot (n : Nat) (l : List Tx) : Prop where
 fine : Fine n l
 few : ∀ x ∈ l,x.chs.length <= 8
 len : l.length <= 40
section
variable {n : Nat} {l : List Tx}
theorem Lot.sigs (h : Lot n l) : ∀ x ∈ l,x.sigs.length <= 2 := fun x hx => (may_of (h.fine.may x hx)).sigs
theorem chs_few {k m : Nat} (h : ∀ x ∈ l,x.chs.length <= m) : (chs l k).length <= m * k := by
 induction k with
 | zero => rw [chs_zero]; simp
 | succ k ih =>
   cases hx : l[k]? with
   | none =>
     have e : chs l (k + 1) = chs l k := by
      unfold chs
      rw [List.take_of_length_le (by have := List.getElem?_eq_none_iff.1 hx; omega),List.take_of_length_le (List.getElem?_eq_none_iff.1 hx)]
     rw [e,Nat.mul_succ]; omega
   | some x =>
     rw [chs_succ hx,List.length_append,Nat.mul_succ]
     have := h x (List.mem_of_getElem? hx)
     omega
theorem Lot.chs (h : Lot n l) (k : Nat) : (FoldMath.chs l k).length <= 320 := by
 have h1 := chs_le (l := l) (k := k)
 have h2 := chs_few (l := l) (k := l.length) h.few
 have h3 := h.len
 have : 8 * l.length <= 8 * 40 := Nat.mul_le_mul_left 8 h3
 omega
theorem Lot.mayI (h : Lot n l) (hn1 : 1 <= n) (hn8 : n <= 8) : MayI n l := mayI_of hn1 hn8 h.fine (by have := h.chs l.length; omega) (by have := h.len; omega)
theorem Lot.ent (h : Lot n l) : ∀ x ∈ l,(ent x).length <= 629 := fun x hx => by
 have h1 := ent_len (h.fine.may x hx)
 have h2 := h.few x hx
 have h3 := h.sigs x hx
 omega
theorem tt_most (h : Lot n l) (k : Nat) : ∀ r ∈ tt n l k,r.length <= 320 := fun r hr => by
 obtain ⟨i,_,rfl⟩ := List.mem_map.1 hr
 exact Nat.le_trans (rows_length _ _) (h.chs k)
theorem tab_small {T : List (List Rw)} {m : Nat} (h : ∀ r ∈ T,r.length <= m) : Tbl.Most T m := fun t => by
 unfold Tbl.tab
 split
 ·cases hx : T[t.toNat]? with
  | none => simp
  | some l => exact h l (List.mem_of_getElem? hx)
 ·simp
theorem fits_tt {l : List Tx} {k : Nat} {x : Tx} (h : Lot n l) (hx : l[k]? = some x) : Tbl.fitsT (tt n l k) x.chs = true := by
 have hlen : (tt n l k).length = n := tt_length n l k
 unfold Tbl.fitsT
 rw [all_is (by rw [hlen]; exact h.fine.tbl x (List.mem_of_getElem? hx)),tt_succ h.fine hx,Bool.true_and]
 unfold Tbl.small
 refine List.all_eq_true.2 fun j _ => decide_eq_true ?_
 exact Nat.le_trans (tab_small (tt_most h (k + 1)) (j : Int)) (by omega)
end
end SrcMath
namespace Src
open Go.RowKit Base
open Foot (Turn Out)
open DiskMath (Fl Dk Becalmed)
open WalMath (Lg Sg Cap rowsOf)
open SrcMath (Sc Sound Imgs Lot Half Ends Anew mayS tt)
open TxnMath (Tx Ch)
open IdxMath (Rw)
open Wal (New Win DiskT)
open Txn (Chs Sigs)
theorem lok_of {l : List Tx} {n : Nat} {g : Lg} {f : Int} {x k : Nat} {sz : Int} (hl : Lot n l) (hc : WalMath.Chain f x g.segs) (hb : g.base = 16) (hs : g.size = sz) (hs0 : 64 <= sz) (hs1 : sz <= 65536) (hf : 16 <= f) (hfn : f + g.segs.length <= 16384) (hx : 1 <= x) (hx2 : x <= 1000) (hr : rowsOf g.segs = ((SrcMath.ents l).take k).drop (x - 1)) (hlow : WalMath.low g.segs = (x : Int)) : LOk g /\ (rowsOf g.segs).length <= 40 := by
 have hrl : (rowsOf g.segs).length <= 40 := by
  rw [hr,List.length_drop,List.length_take,SrcMath.ents,List.length_map]
  have := hl.len
  omega
 have hF : Wal.Fine f x g := ⟨by omega,hfn,by omega,by omega,by omega,by omega,by omega,by omega,fun p hp => by
  rw [hr] at hp
  have h1 := List.mem_of_mem_take (List.mem_of_mem_drop hp)
  obtain ⟨t,ht,rfl⟩ := List.mem_map.1 h1
  have := hl.ent t ht
  omega,by show (rowsOf g.segs).length <= 1000; omega⟩
 have h2 := hF.ok hc
 exact ⟨⟨h2.1,h2.2,by omega,by rw [hlow]; exact WalMath.chain_runs hc⟩,hrl⟩
theorem Sound.lok {n : Nat} {l : List Tx} {sz : Int} {j : Nat} {S : Sc} {d : Dk} {f : Int} {x : Nat} (h : Sound n l sz j S d f x) (hl : Lot n l) (hs0 : 64 <= sz) (hs1 : sz <= 65536) : LOk S.l := by
 have h1 := h.lo
 have h2 := h.le
 have h3 := hl.len
 have h4 := h.at_
 exact (lok_of hl (WalMath.full_chain h.full) h.log.at_ h.size hs0 hs1 h4.1 (by omega) h1.1 (by omega) h.rows h.low).1
structure Live (T : Nat -> Prop) (w : World) (s p g gd : Nat) (n : Nat) (l : List Tx) (sz : Int) (k M : Nat) (x : Nat) (S : Sc) (d : Dk) : Prop where
 at_ : SrcAt T w s p g gd S d
 sound : ∃ f,Sound n l sz l.length S d f x
 imgs : Imgs n l x l.length S.file S.lsn d
 lot : Lot n l
 cap : Cap k M d
 on : d.off = false
section
variable {T T' : Nat -> Prop} {w w' : World} {s p g gd n k M x : Nat} {l : List Tx} {sz : Int} {S : Sc} {d : Dk}
theorem Live.new (h : Live T w s p g gd n l sz k M x S d) (hb : Below w.heap.size w w') : Live T w' s p g gd n l sz k M x S d := ⟨h.at_.new hb,h.sound,h.imgs,h.lot,h.cap,h.on⟩
theorem Live.mono (h : Live T w s p g gd n l sz k M x S d) (hT : ∀ i,T i -> T' i) : Live T' w s p g gd n l sz k M x S d := ⟨h.at_.mono hT,h.sound,h.imgs,h.lot,h.cap,h.on⟩
theorem Live.win (h : Live T w s p g gd n l sz k M x S d) (hb : Below w.heap.size w w') : Live (Win T w.heap.size w'.heap.size) w' s p g gd n l sz k M x S d := ⟨h.at_.win hb,h.sound,h.imgs,h.lot,h.cap,h.on⟩
theorem Live.tabs (h : Live T w s p g gd n l sz k M x S d) : S.T = tt n l l.length := by
 obtain ⟨f,h⟩ := h.sound
 exact h.T
theorem Live.hd (h : Live T w s p g gd n l sz k M x S d) : WalMath.hd S.l.segs = (l.length : Int) := by
 obtain ⟨f,h⟩ := h.sound
 exact h.hd
theorem Live.low (h : Live T w s p g gd n l sz k M x S d) : WalMath.low S.l.segs = (x : Int) := by
 obtain ⟨f,h⟩ := h.sound
 exact h.low
theorem Live.lok (h : Live T w s p g gd n l sz k M x S d) (hs0 : 64 <= sz) (hs1 : sz <= 65536) : LOk S.l := by
 obtain ⟨f,h1⟩ := h.sound
 exact Sound.lok h1 h.lot hs0 hs1
end
def Committed (T : Nat -> Prop) (w : World) (s p g gd n : Nat) (l : List Tx) (t : Tx) (sz : Int) (k M x : Nat) (lf : Nat) (e : Ending) (w' : World) : Prop := ∃ S' d',Turn T w w' /\ SrcAt T w' s p g gd S' d' /\ Cap (k + 3) (M + 656) d' /\
 ((e = .returned (.tuple #[.int .i64 ((l.length : Int) + 1),.int .i64 0]) /\ Live T w' s p g gd n (l ++ [t]) sz (k + 3) (M + 656) x S' d' /\ d'.left = lf - 2) \/
  (e = .returned (.tuple #[.int .i64 0,.int .i64 8]) /\ Half n (l ++ [t]) sz l.length x d' /\ lf ≠ 0))
theorem commit_live (T : Nat -> Prop) (s p g gd n : Nat) (l : List Tx) (sz : Int) (k M x : Nat) (S : Sc) (d : Dk) (A : Option Addr) (m c : Nat) (cs : List Ch) (A' : Option Addr) (m' c' : Nat) (sg : List ByteArray) (w : World) (h : Live T w s p g gd n l sz k M x S d) (hT : New T w) (hn1 : 1 <= n) (hn8 : n <= 8) (hs0 : 64 <= sz) (hs1 : sz <= 65536) (hk : k <= 100000) (hM : M <= 1000000000)
 (hll : l.length <= 39) (h1 : Chs w w.heap.size A m c cs) (hl1 : Lies (fun i => ¬ T i) A m) (h2 : Sigs w w.heap.size A' m' c' sg) (hl2 : Lies (fun i => ¬ T i) A' m') (hcs : ∀ c ∈ cs,c.may (n : Int) = true) (hcl : cs.length <= 8) (hsl : sg.length <= 2) (hss : ∀ f ∈ sg,f.size <= 40) :
 Calls Tryz.prog 14 #[.pointer (some ⟨s,0,none⟩),.slice A' m' c',.slice A m c] w (Committed T w s p g gd n l ⟨(l.length : Int) + 1,1,cs,sg,0⟩ sz k M x d.left) := by
 have hch : ∀ c ∈ cs,0 <= c.tbl /\ c.tbl < (n : Int) /\ c.may 8 = true := fun c hc => by
  have h3 := hcs c hc
  unfold TxnMath.Ch.may at h3 ⊢
  simp only [Bool.and_eq_true,decide_eq_true_eq] at h3 ⊢
  obtain ⟨a1,a2,a3,a4,a5⟩ := h3
  exact ⟨a1,a2,a1,by omega,a3,a4,a5⟩
 have hmay : ∀ q : Int,1 <= q -> q <= 1099511627776 -> Tx.may ⟨q,1,cs,sg,0⟩ = true := fun q hq1 hq2 => by
  unfold TxnMath.Tx.may TxnMath.mayLsn TxnMath.mayChs TxnMath.maySigs
  rw [decide_eq_true hq1,decide_eq_true hq2,if_pos rfl,decide_eq_true (show cs.length <= 16 by omega),decide_eq_true hsl,List.all_eq_true.2 fun c hc => (hch c hc).2.2,List.all_eq_true.2 fun f hf => decide_eq_true (hss f hf)]
  rfl
 have hlot : Lot n (l ++ [⟨(l.length : Int) + 1,1,cs,sg,0⟩]) := by
  refine ⟨h.lot.fine.snoc rfl (hmay _ (by omega) (by omega)) fun c hc => ⟨(hch c hc).1,(hch c hc).2.1⟩,fun y hy => ?_,by rw [List.length_append]; simp; omega⟩
  rcases List.mem_append.1 hy with hy | hy
  ·exact h.lot.few y hy
  ·rw [List.mem_singleton] at hy
   subst hy
   exact hcl
 have hTT := h.tabs
 have hmost : Tbl.Most S.T 320 := by rw [hTT]; exact SrcMath.tab_small (SrcMath.tt_most h.lot _)
 refine (commit_any T s p g gd S d k M 320 A m c cs A' m' c' sg w h.at_ hT (h.lok hs0 hs1) h.cap (by omega) (by omega) hmost (by omega) h1 hl1 h2 hl2).mono ?_
 have hlenT : S.T.length = n := by rw [hTT]; exact SrcMath.tt_length n l _
 have hgl : (l ++ [(⟨(l.length : Int) + 1,1,cs,sg,0⟩ : Tx)])[l.length]? = some ⟨(l.length : Int) + 1,1,cs,sg,0⟩ := by rw [List.getElem?_append_right (Nat.le_refl _),Nat.sub_self]; rfl
 have hfit : Tbl.fitsT S.T cs = true := by
  have := SrcMath.fits_tt hlot hgl
  rw [SrcMath.tt_more (Nat.le_refl _)] at this
  rw [hTT]
  exact this
 have hput : putM S d ⟨0,1,cs,sg,0⟩ = SrcMath.put S d true ⟨0,1,cs,sg,0⟩ := by
  unfold putM
  rw [if_pos,hfit]
  show mayS S.T.length ⟨1,1,cs,sg,0⟩ = true
  unfold SrcMath.mayS
  rw [hmay 1 (by omega) (by omega),hlenT,List.all_eq_true.2 hcs]
  rfl
 rw [hput]
 have hcap : Cap (k + 3) (M + 656) (SrcMath.put S d true ⟨0,1,cs,sg,0⟩).d := (SrcMath.cap_put h.cap S true (t := ⟨0,1,cs,sg,0⟩) (P := 629) fun q => by
  have h5 : (SrcMath.ent (⟨(l.length : Int) + 1,1,cs,sg,0⟩ : Tx)).length = (SrcMath.ent (⟨q,1,cs,sg,0⟩ : Tx)).length := by
   unfold SrcMath.ent FieldMath.encZ TxnMath.flds
   simp only [List.flatMap_append,List.flatMap_cons,List.length_append,SrcMath.encF_num,List.flatMap_nil,List.length_nil,FieldMath.big_length,List.length_cons]
  have h6 := hlot.ent _ (List.mem_of_getElem? hgl)
  show (SrcMath.ent (⟨q,1,cs,sg,0⟩ : Tx)).length <= 629
  omega).mono (by omega) (by omega)
 obtain ⟨f,hsd⟩ := h.sound
 have hp := SrcMath.Sound.put (t := ⟨0,1,cs,sg,0⟩) (Sound.more (r := [⟨(l.length : Int) + 1,1,cs,sg,0⟩]) hsd) h.on hn1 hn8 hlot.fine (hlot.mayI hn1 hn8) (by have := hlot.len; omega) hs0 hs1 (SrcMath.Imgs.behind h.imgs (Nat.le_refl _)) hgl rfl (by have := hlot.ent _ (List.mem_of_getElem? hgl); omega)
 have hcalm := fun (hl : d.left = 0) => SrcMath.calm_put (d := d) ⟨hl,h.on⟩ S true ⟨0,1,cs,sg,0⟩
 rintro e w' ⟨he,hsr,htu⟩
 rcases hp with ⟨S',d',hq,hs',hi',ho',_,hle⟩ | ⟨S',d',hq,hST,hhalf,_,_⟩
 ·rw [hq] at he hsr hcap
  refine ⟨S',d',htu,hsr,hcap,.inl ⟨he,⟨hsr,⟨f,?_⟩,?_,hlot,hcap,ho'⟩,hle⟩⟩
  ·rw [List.length_append]; exact hs'
  ·rw [List.length_append]; exact hi'
 ·rw [hq] at he hsr hcap
  refine ⟨S',d',htu,hsr,hcap,.inr ⟨he,hhalf,fun hl => ?_⟩⟩
  have := (hcalm hl).1
  rw [hq] at this
  exact this rfl
end Src
namespace Src
open Go.RowKit Base
open Foot (Turn Out)
open DiskMath (Fl Dk Becalmed)
open WalMath (Lg Sg Cap rowsOf)
open SrcMath (Sc Sound Imgs Lot Half Ends Anew mayS tt)
open ImgMath (Im imgB)
open TxnMath (Tx Ch)
open IdxMath (Rw)
open Wal (New Win DiskT From)
open Txn (Chs Sigs)
theorem trim_lsn {s : Sc} {d : Dk} {lsn : Int} (hoff : d.off = false) (h0 : 0 <= lsn) (h1 : lsn <= WalMath.hd s.l.segs) (h : (SrcMath.trim s d lsn).1 = 0) : (SrcMath.trim s d lsn).2.1.lsn = if lsn <= s.lsn then s.lsn else WalMath.hd s.l.segs := by
 unfold SrcMath.trim at h ⊢
 rw [if_neg (by omega),if_neg (by rw [hoff]; simp)] at h ⊢
 by_cases hl : lsn <= s.lsn
 ·rw [if_pos hl,if_pos hl]
  rfl
 ·rw [if_neg hl] at h ⊢
  rw [if_neg hl]
  by_cases hl0 : (SrcMath.lay d (SrcMath.other s.file) (imgB ⟨WalMath.hd s.l.segs,s.T⟩)).1 = 0
  ·rw [if_pos hl0]
   rfl
  ·rw [if_neg hl0] at h
   exact absurd h hl0
theorem Imgs.bd {n x j : Nat} {l : List Tx} {file lsn : Int} {d : Dk} (h : Imgs n l x j file lsn d) : 0 <= lsn /\ lsn <= j := by
 rcases h with ⟨_,h,_⟩ | ⟨L,_,h,h2,_⟩
 ·omega
 ·omega
def TrimmedL (T : Nat -> Prop) (w : World) (s p g gd n : Nat) (l : List Tx) (sz : Int) (k M x : Nat) (lf : Nat) (lsn sl : Int) (e : Ending) (w' : World) : Prop := ∃ S' d',∃ x' : Nat,Turn T w w' /\ SrcAt T w' s p g gd S' d' /\ Cap (k + 43) (M + 1048584) d' /\ x <= x' /\ (x' : Int) <= max (x : Int) (lsn + 1) /\
 ((e = .returned (.int .i64 0) /\ Live T w' s p g gd n l sz (k + 43) (M + 1048584) x' S' d' /\ d'.left <= lf /\ S'.lsn = if lsn <= sl then sl else (l.length : Int)) \/
  (e = .returned (.int .i64 8) /\ SrcMath.Ends n l sz l.length x' d' /\ lf ≠ 0))
theorem trim_live (T : Nat -> Prop) (s p g gd n : Nat) (l : List Tx) (sz : Int) (k M x : Nat) (S : Sc) (d : Dk) (lsn : Int) (w : World) (h : Live T w s p g gd n l sz k M x S d) (hT : New T w) (hn1 : 1 <= n) (hn8 : n <= 8) (hs0 : 64 <= sz) (hs1 : sz <= 65536) (hk : k <= 90000) (hM : M <= 1000000000) (h0 : 0 <= lsn) (h1 : lsn <= l.length) :
 Calls Tryz.prog 15 #[.pointer (some ⟨s,0,none⟩),.int .i64 lsn] w (TrimmedL T w s p g gd n l sz k M x d.left lsn S.lsn) := by
 have hmI := h.lot.mayI hn1 hn8
 have hmay : (Im.mk (WalMath.hd S.l.segs) S.T).may = true := by
  rw [h.hd,h.tabs]
  exact hmI _ (Nat.le_refl _)
 refine (trim_any T s p g gd S d lsn k M w h.at_ hT (h.lok hs0 hs1) h.cap (by omega) (by omega) hmay).mono ?_
 rintro e w' ⟨he,hsr,htu⟩
 obtain ⟨f,hsd⟩ := h.sound
 have hlen : S.l.segs.length <= 40 := by
  have h2 := hsd.at_
  have h3 := h.lot.len
  omega
 have hcap : Cap (k + 43) (M + 1048584) (SrcMath.trim S d lsn).2.2 := (SrcMath.cap_trim h.cap S lsn (P := 1048584) (SrcMath.imgB_len hmay)).mono (by omega) (Nat.le_refl _)
 have hls := trim_lsn (s := S) (lsn := lsn) h.on h0 (by rw [h.hd]; exact h1)
 have hcalm := fun (hl : d.left = 0) => (SrcMath.calm_trim (d := d) ⟨hl,h.on⟩ S lsn).1
 obtain ⟨er,S',d',x',hq,hxx,hx,hop,hle,hcase⟩ := hsd.trim h.on hn1 hn8 h.lot.fine hmI (by have := h.lot.len; omega) hs0 hs1 h.imgs h0 h1
 rw [hq] at he hsr hcap hls hcalm
 refine ⟨S',d',x',htu,hsr,hcap,hxx,hx,?_⟩
 rcases hcase with ⟨rfl,ho',f',hs',hi'⟩ | ⟨rfl,hends⟩
 ·refine .inl ⟨he,⟨hsr,⟨f',hs'⟩,hi',h.lot,hcap,ho'⟩,hle,?_⟩
  have := hls rfl
  rw [h.hd] at this
  exact this
 ·exact .inr ⟨he,hends,fun hl => hcalm hl rfl⟩
theorem Lot.nil (n : Nat) : Lot n [] := ⟨SrcMath.Fine.nil n,(fun x hx => by cases hx),by simp⟩
theorem logopen0 {sz : Int} (hs0 : 64 <= sz) (hs1 : sz <= 65536) : WalMath.open_ DiskMath.none_ 16 sz = ⟨0,some ⟨[],16,sz,none⟩,DiskMath.none_⟩ := Wal.open0 (by omega) (by omega) hs0 hs1
theorem open_live (T : Nat -> Prop) (gd n : Nat) (sz : Int) (w : World) (h : DiskT T w gd DiskMath.none_) (hT : New T w) (hn1 : 1 <= n) (hn8 : n <= 8) (hs0 : 64 <= sz) (hs1 : sz <= 65536) :
 Calls Tryz.prog 8 #[.pointer (some ⟨gd,0,none⟩),.int .i64 n,.int .i64 sz] w fun e w' => ∃ s p g S,e = .returned (.tuple #[.pointer (some ⟨s,0,none⟩),.int .i64 0]) /\ Live T w' s p g gd n [] sz 0 0 1 S DiskMath.none_ /\ Turn T w w' := by
 obtain ⟨ho,hsd,him⟩ := SrcMath.sound0 (sz := sz) hn1 hn8 [] hs0 hs1
 refine (open_any T gd DiskMath.none_ 0 0 n sz w h hT Wal.cap0 (by omega) (by omega) fun g hg => ?_).mono ?_
 ·rw [logopen0 hs0 hs1] at hg
  injection hg with hg
  subst hg
  exact ⟨Sound.lok hsd (Lot.nil n) hs0 hs1,by simp [rowsOf]⟩
 ·intro e w' hr
  rw [ho] at hr
  obtain ⟨s,p,g,he,hsr,htu⟩ := hr
  exact ⟨s,p,g,_,he,⟨hsr,⟨16,hsd⟩,him,Lot.nil n,Wal.cap0,rfl⟩,htu⟩
theorem new_from {B : Nat} {w : World} (hB : B <= w.heap.size) : New (From B) w := fun i hi => Nat.le_trans hB hi
theorem turn_from {T : Nat -> Prop} {B : Nat} {w w' : World} (h : Turn T w w') (hT : ∀ i,T i -> B <= i) (hB : B <= w.heap.size) : Below B w w' := h.below hT hB
theorem newdisk_any (w : World) : Calls Tryz.prog 7 #[] w fun e w' => ∃ g,e = .returned (.pointer (some ⟨g,0,none⟩)) /\ DiskT (From w.heap.size) w' g DiskMath.none_ /\ Below w.heap.size w w' := Wal.newdisk_any w
theorem awake_any (w : World) : Calls Tryz.prog 10 #[] w fun e w' => e = .returned (.bool true) /\ Below w.heap.size w w' := by
 go_enter Tryz.func10,Tryz.ntmps10
 go_wp2_with fail
 refine (newdisk_any w).mono ?_
 rintro e w1 ⟨gd,rfl,hd1,hb1⟩
 have HD1 := hid hd1
 have HB1 := hid hb1
 clear hd1 hb1
 go_wp2_with fail
 refine (open_live (From w.heap.size) gd 1 64 w1 HD1.out (new_from HB1.out.size) (by omega) (by omega) (by omega) (by omega)).mono ?_
 rintro e w2 ⟨s,p,g,S,rfl,hl2,ht2⟩
 have HL2 := hid hl2
 have HB2 := hid (HB1.out.trans (turn_from ht2 (fun i hi => hi) HB1.out.size))
 clear hl2 ht2 HD1 HB1
 have hb3 : Below w2.heap.size w2 (w2.alloc (.cells #[.int .i64 0,.int .i64 5,.bool false,.string ⟨#[97]⟩] 64)) := (Below.refl _ _).alloc (Nat.le_refl _) _
 have HB3 := hid hb3
 have HK3 : Hid (Blk (w2.alloc (.cells #[.int .i64 0,.int .i64 5,.bool false,.string ⟨#[97]⟩] 64)) w2.heap.size 64 #[.int .i64 0,.int .i64 5,.bool false,.string ⟨#[97]⟩]) := Blk.new _ _ _
 clear hb3
 have HCM := hid (commit_live (Win (From w.heap.size) w2.heap.size (w2.alloc (.cells #[.int .i64 0,.int .i64 5,.bool false,.string ⟨#[97]⟩] 64)).heap.size) s p g gd 1 [] 64 0 0 1 S DiskMath.none_ (some ⟨w2.heap.size,0,none⟩) 1 1 [⟨0,5,false,⟨#[97]⟩⟩] none 0 0 [] _ (HL2.out.win HB3.out) (new_win (new_from HB2.out.size) HB3.out.size) (by omega) (by omega) (by omega) (by omega) (by omega) (by omega) (by simp)
  (PTx.lit_one (x := ⟨0,5,false,⟨#[97]⟩⟩) HK3.out) (fun _ b off e hw => by
    injection e with e
    injection e with e
    have h2 : b < w2.heap.size \/ _ <= b := hw.2
    have h3 := HK3.out.lt
    omega) (Row.nil_ _ _ _) (fun hn => absurd hn (by omega)) (fun c hc => by rw [List.mem_singleton] at hc; subst hc; rfl) (by simp) (by simp) (fun f hf => by cases hf))
 go_wp2_with fail
 refine HCM.out.mono ?_
 rintro e w4 ⟨S4,d4,ht4,_,_,⟨rfl,hl4,hlf⟩ | ⟨_,_,hne⟩⟩
 rotate_left
 ·exact absurd rfl hne
 have HT4 : Hid (Below w.heap.size w w4) := HB2.out.trans ((HB3.out.mono HB2.out.size).trans (turn_from ht4 (fun i hi => hi.1) (Nat.le_trans HB2.out.size HB3.out.size)))
 have HL4 := hid (hl4.mono (T' := From w.heap.size) fun i hi => hi.1)
 have HLF := hid hlf
 clear ht4 hl4 hlf HCM HK3 HB3 HL2 HB2
 have hlok := HL4.out.lok (by omega) (by omega)
 have hlow := HL4.out.low
 have hrd := read_any _ s p g gd _ _ 1 w4 HL4.out.at_ hlok
 have hent : Wal.entry S4.l.segs 1 = some (SrcMath.ent ⟨1,1,[⟨0,5,false,⟨#[97]⟩⟩],[],0⟩) := by
  obtain ⟨f,hs⟩ := HL4.out.sound
  have h1 := entry_get hlok (i := 0) (by rw [hs.rows]; simp [SrcMath.ents])
  rw [hlow] at h1
  have h2 : ((1 : Nat) : Int) + ((0 : Nat) : Int) = 1 := rfl
  rw [h2,hs.rows] at h1
  exact h1
 rw [hent] at hrd
 have HRD := hid hrd
 have HDE := hid (TxnMath.decT_enc (t := ⟨1,1,[⟨0,5,false,⟨#[97]⟩⟩],[],0⟩) rfl)
 clear hlok hlow hrd hent
 go_wp2_with fail
 refine HRD.out.mono ?_
 intro e w5 hr
 replace hr : Txn.DecO w4 _ e w5 := hr
 unfold Txn.DecO SrcMath.ent at hr
 rw [HDE.out] at hr
 obtain ⟨A,n,c,A',n',c',rfl,h1,h2,hb5⟩ := hr
 have hn1 : n = 1 := by have := h1.1; simp [Txn.gotX,Txn.cv,Txn.ccells] at this; omega
 subst hn1
 have HB5 := hid hb5
 have HL5 := hid (HL4.out.new hb5)
 have HT5 := hid (HT4.out.trans (hb5.mono HT4.out.size))
 clear h1 h2 hb5 HRD
 simp only [Txn.gotX,FieldMath.err]
 unfold Txn.txv
 have HTR := hid (fun wx (hx : Below w5.heap.size w5 wx) => trim_live (From w.heap.size) s p g gd 1 _ 64 _ _ 1 S4 d4 1 wx (HL5.out.new hx) (new_from (Nat.le_trans HT5.out.size hx.size)) (by omega) (by omega) (by omega) (by omega) (by omega) (by omega) (by omega) (by simp))
 go_wp2_with fail
 refine (HTR.out _ ((Below.refl _ _).alloc (Nat.le_refl _) _)).mono ?_
 rintro e w6 ⟨S6,d6,x6,ht6,_,_,_,_,⟨rfl,hl6,hlf6,hls6⟩ | ⟨_,_,hne⟩⟩
 rotate_left
 ·exact absurd (by rw [HLF.out]; rfl) hne
 have hls7 : S6.lsn = 1 := by
  have h3 := Imgs.bd HL4.out.imgs
  simp at hls6 h3
  split at hls6
  ·omega
  ·exact hls6
 have HT6 : Hid (Below w.heap.size w w6) := (HT5.out.alloc HT5.out.size _).trans (turn_from ht6 (fun i hi => hi) (Nat.le_trans HT5.out.size (by simp)))
 have HL6 := hid hl6
 have c0 := hl6.at_.cells.1
 have hTb := hl6.tabs
 obtain ⟨K,hset,_⟩ := hl6.at_.set
 have hT1 : S6.T.length = 1 := by rw [hTb]; exact SrcMath.tt_length 1 _ _
 have HTA := hid (Tbl.tables_any K p S6.T w6 hset)
 rw [hT1] at HTA
 have HIM := hid (image_any _ s p g gd _ _ w6 hl6.at_)
 rw [hls7] at HIM
 clear ht6 hl6 hlf6 hls6 hls7 hTb hset hT1
 go_wp2_with fail
 refine HIM.out.mono ?_
 rintro e w7 ⟨rfl,rfl⟩
 go_wp2_with fail
 refine HTA.out.mono ?_
 rintro e w7 ⟨rfl,rfl⟩
 go_wp2
 go_ret
 exact ⟨rfl,HT6.out⟩
end Src
namespace PTx
open Go.RowKit Base TxnMath
open Field (cut_any)
theorem empty_iff (s : ByteArray) : s.toList.isEmpty = decide (s.size = 0) := by
 rw [ByteArray.toList_eq]
 show _ = decide (s.data.size = 0)
 rw [<- Array.length_toList]
 cases s.data.toList with
 | nil => rfl
 | cons a b => simp
theorem one_byte_str (x : Int) (w : World) (s : Nat) (hs : s = w.heap.size) : (convert 68 9 (.slice (some ⟨s,0,none⟩) 1 1)).run Tryz.prog (w.alloc (.cells #[.int .u8 x] 5)) = .ok (.string (strOfNums [x])) (w.alloc (.cells #[.int .u8 x] 5)) := by
 subst hs
 exact run_convert_bytes_arg (P := Tryz.prog) _ 68 5 Tryz.underlying68 Tryz.underlying5 w.heap.size 0 1 1 [x] rfl (fun i hi => by
  obtain rfl : i = 0 := by omega
  simp) 9 Tryz.underlying9
theorem strOfNums_one (x : Int) : (strOfNums [x]).size = 1 := rfl
def MadeSig (w : World) (e : Ending) (w' : World) : Prop := ∃ s : ByteArray,e = .returned (.string s) /\ s.size <= 40 /\ Below w.heap.size w w'
theorem psignal_any (N : Nat) (hN : 1 <= N) (hN8 : N <= 1000) (s : ByteArray) (w : World) (hs : s.size <= 9223372036854775807) :
 Calls Tryz.prog 62 #[.string s,.int .i64 N] w (MadeSig w) := by
 by_cases h0 : s.size = 0
 ·have h1 : s.toList.isEmpty = true := by rw [empty_iff]; simpa using h0
  go_enter Tryz.func62,Tryz.ntmps62
  go_wp2
  go_ret
  exact ⟨⟨#[115,110,97,112,115,104,111,116,32,48]⟩,rfl,by decide,Below.refl _ _⟩
 ·have h1 : s.toList.isEmpty = false := by rw [empty_iff]; simpa using h0
  have hpos : 0 < s.size := by omega
  have hcv : (str (s.data.toList.take 40)).size <= 40 := by rw [str_size,List.length_take]; omega
  have CV := hid (fun w => cut_any s 40 w hs (by omega))
  have HCV := hid hcv
  have hx : s[0].toNat < 256 := s[0].toNat_lt
  clear hcv h0
  go_enter Tryz.func62,Tryz.ntmps62
  go_upto_if 14 with fail
  generalize s[0].toNat = b at hx
  have hc1 : ∀ x : Int,(convert 68 9 (.slice (some ⟨w.heap.size,0,none⟩) 1 1)).run Tryz.prog (w.alloc (.cells #[.int .u8 x] 5)) = .ok (.string (strOfNums [x])) (w.alloc (.cells #[.int .u8 x] 5)) := fun x => one_byte_str x w _ rfl
  have hc2 : ∀ x y : Int,(convert 68 9 (.slice (some ⟨w.heap.size + 1,0,none⟩) 1 1)).run Tryz.prog ((w.alloc (.cells #[.int .u8 y] 5)).alloc (.cells #[.int .u8 x] 5)) = .ok (.string (strOfNums [x])) ((w.alloc (.cells #[.int .u8 y] 5)).alloc (.cells #[.int .u8 x] 5)) := fun x y => one_byte_str x (w.alloc (.cells #[.int .u8 y] 5)) _ (by simp)
  have hn0 : ¬ ((N : Int) = 0) := by omega
  have hn1 : ¬ (N = 0) := by omega
  by_cases h3 : (b : Int) % 4 = 3
  ·have t3 : ((b : Int) % 4 == 3) = true := by simpa using h3
   go_wp2_with fail
   refine (CV.out _).mono ?_
   rintro e w1 ⟨rfl,rfl⟩
   go_wp2
   go_ret
   exact ⟨_,rfl,HCV.out,Below.refl _ _⟩
  ·have t3 : ((b : Int) % 4 == 3) = false := by simpa using h3
   by_cases h4 : 0 < (b : Int) % 4
   ·go_wp2
    go_ret
    exact ⟨_,rfl,by
     rw [ByteArray.size_append,ByteArray.size_append,ByteArray.size_append,strOfNums_one,strOfNums_one]
     decide,((Below.refl _ _).alloc (Nat.le_refl _) _).alloc (by simp) _⟩
   ·go_wp2
    go_ret
    exact ⟨_,rfl,by
     rw [ByteArray.size_append,strOfNums_one]
     decide,(Below.refl _ _).alloc (Nat.le_refl _) _⟩
end PTx
namespace PTx
open Go.RowKit Base TxnMath
open PChg (Cs gv gcells pchanges_any all_snoc)
open Field (modZ modZ_lt mod_any bigZ bigZ_lt playbig_any cut_any)
def sv (l : List ByteArray) : List Value := l.map .string
theorem sv_one (l : List ByteArray) : ∀ u ∈ sv l,u.oneCell' = true := by
 intro u hu
 obtain ⟨f,_,rfl⟩ := List.mem_map.1 hu
 rfl
theorem estr : Elem Tryz.prog 37 9 1 16 (.string ⟨#[]⟩) := Elem.of Tryz.underlying37 (by kernel_rfl) rfl (by omega)
theorem one_str (w : World) (f : ByteArray) {s : Nat} (hs : s = w.heap.size) : Row (w.alloc (.cells #[.string f] 9)) (w.heap.size + 1) 1 (some ⟨s,0,none⟩) 1 1 (sv [f]) :=
 Row.lit w #[.string f] _ (0,0) hs rfl (by omega)
def SomeSig (M : Nat) (w : World) (e : Ending) (w' : World) : Prop := ∃ (l : List ByteArray) (A : Option Addr) (n c : Nat),e = .returned (.slice A n c) /\ n <= M /\ w'.ownsRow w.heap.size 9 1 (.slice A n c) n (sv l) /\ (∀ f ∈ l,f.size <= 40) /\ Below w.heap.size w w'
def SigRel (M : Nat) (w : World) (n : Nat) (v i : Value) (wr : World) : Prop := ∃ (k : Nat) (l : List ByteArray) (A : Option Addr) (c : Nat),k <= n /\ k <= M /\ i = .int .i64 k /\ v = .slice A k c /\ wr.ownsRow w.heap.size 9 1 (.slice A k c) k (sv l) /\ (∀ f ∈ l,f.size <= 40) /\ Below w.heap.size w wr
theorem psignals_any (N M : Nat) (hN : 1 <= N) (hN8 : N <= 1000) (hM : M <= 1000) (B : Nat) (A : Option Addr) (n c : Nat) (l : List ByteArray) (w : World) (h : Ss w B A n c l) (hB : B <= w.heap.size) (hok : ∀ f ∈ l,f.size <= 9223372036854775807) :
 Calls Tryz.prog 24 #[.slice A n c,.int .i64 N,.int .i64 M] w (SomeSig M w) := by
 have hle : n <= c /\ c <= 9223372036854775807 := Row.le h
 have HR := hid h
 have HOK := hid hok
 clear h hok
 go_enter Tryz.func24,Tryz.ntmps24
 go_wp2
 go_loopw [7,8] (fun v i wr => SigRel M w n v i wr) (fun _ i _ => n - (RowKit.intOf i).toNat)
 case atStart => exact ⟨0,[],none,0,by omega,by omega,rfl,rfl,World.ownsRow_nil _ _ _ _,(fun f hf => by cases hf),Below.refl _ _⟩
 case round =>
  obtain ⟨k,pre,A1,c1,hk,hk5,rfl,rfl,hown,hall,hbel⟩ := hrel
  have HO := hid hown
  have HA := hid hall
  have HB := hid hbel
  have hz := hbel.size
  clear hown hall hbel
  by_cases hgo : k < n /\ k < M
  ·obtain ⟨hlt,hlt5⟩ := hgo
   obtain ⟨b,off,f,rfl,hb,q0,hget,_⟩ := (Ss.at_ (Row.below HR.out (HB.out.mono hB)) hlt)
   have HG := hid (HOK.out f (List.mem_of_getElem? hget))
   clear hget
   have l1 : (k : Int) < (n : Int) := by omega
   have l2 : (k : Int) < (M : Int) := by omega
   go_wp2_with fail
   refine (psignal_any N hN hN8 f _ HG.out).mono ?_
   rintro e w2 ⟨f2,rfl,hm2,hb2⟩
   have HM2 := hid hm2
   have HB2 := hid (held_call HB.out hb2 : Below w.heap.size w w2)
   have HO2 := hid (own_keep HO.out hb2)
   have hz2 : w.heap.size <= w2.heap.size := HB2.out.size
   clear hm2 hb2
   go_wp2_with (first
    | (at_builtin
       refine wpList_append_row rfl (.tmp 20) (.tmp 27) rfl estr w.heap.size _ k (sv pre) rfl (own_keep HO2.out ((Below.refl _ _).alloc (Nat.le_refl _) _)) _ _ 1 1 (sv [f2]) rfl (one_str w2 f2 rfl) (sv_one _) (by omega) (by omega) (by simp; omega) ?_
       intro A3 c3 w3 hown3 _ hb3
       rw [show sv pre ++ sv [f2] = sv (pre ++ [f2]) from List.map_append.symm] at hown3
       have HO3 := hid hown3
       have HB3 := hid ((HB2.out.alloc hz2 _).trans hb3)
       clear hown3 hb3)
    | fail)
   go_roundw
   case rel => exact ⟨k + 1,pre ++ [f2],A3,c3,by omega,by omega,by go_num,rfl,HO3.out,all_snoc HA.out HM2.out,HB3.out⟩
   case measure => simp [RowKit.intOf]; omega
  ·by_cases hkn : k < n
   all_goals
    have h5 : k < n -> ¬ k < M := fun h h5 => hgo ⟨h,h5⟩
    clear hgo
   ·have l1 : (k : Int) < (n : Int) := by omega
    have l2 : ¬ (k : Int) < (M : Int) := by omega
    go_wp2
    go_ret
    exact ⟨pre,A1,k,c1,rfl,hk5,HO.out,HA.out,HB.out⟩
   ·have l1 : ¬ (k : Int) < (n : Int) := by omega
    go_wp2
    go_ret
    exact ⟨pre,A1,k,c1,rfl,hk5,HO.out,HA.out,HB.out⟩
theorem etx : Elem Tryz.prog 32 39 5 72 (.agg #[.int .i64 0,.int .i64 0,.slice none 0 0,.slice none 0 0,.int .i64 0]) := Elem.of Tryz.underlying32 (by kernel_rfl) rfl (by omega)
def tcells (lsn kind mark : Int) (A : Option Addr) (n c : Nat) (A' : Option Addr) (n' c' : Nat) : List Value := [.int .i64 lsn,.int .i64 kind,.slice A n c,.slice A' n' c',.int .i64 mark]
theorem tcells_one (lsn kind mark : Int) (A : Option Addr) (n c : Nat) (A' : Option Addr) (n' c' : Nat) : ∀ u ∈ tcells lsn kind mark A n c A' n' c',u.oneCell' = true := by
 intro u hu
 simp only [tcells,List.mem_cons,List.not_mem_nil,or_false] at hu
 rcases hu with rfl | rfl | rfl | rfl | rfl <;> rfl
theorem one_tx (w : World) (lsn kind mark : Int) (A : Option Addr) (n c : Nat) (A' : Option Addr) (n' c' : Nat) {s : Nat} (hs : s = w.heap.size) : Row (w.alloc (.cells #[.int .i64 lsn,.int .i64 kind,.slice A n c,.slice A' n' c',.int .i64 mark] 39)) (w.heap.size + 1) 5 (some ⟨s,0,none⟩) 1 1 (tcells lsn kind mark A n c A' n' c') :=
 Row.lit w #[.int .i64 lsn,.int .i64 kind,.slice A n c,.slice A' n' c',.int .i64 mark] _ (0,0) hs rfl (by omega)
section
variable {w w' : World} {base k c : Nat} {A : Option Addr} {l : List Tx}
theorem own_other {base' n n' : Nat} {e e' : TypeId} {size size' : Nat} {v v' : Value} {xs xs' : List Value} (h : w.ownsRow base e size v n xs) (h' : w.ownsRow base' e' size' v' n' xs') (hne : e ≠ e') (hg : w.grownBy w' v'.ownBlock) : w'.ownsRow base e size v n xs :=
 h.kept hg (by
  rcases own_types h h' hne with h0 | h0
  ·exact .inl h0
  ·exact .inr h0)
theorem chg_ne : (64 : TypeId) ≠ 39 := by decide
theorem str_ne : (9 : TypeId) ≠ 39 := by decide
end
end PTx
end Go.Proofs.YtefnmnpfecfdaaaGreat
