/-
  Texts of one proof: SrcMem, WalRead, TxnMem.
-/
import Derived.Test.YtefnmnpfecfdaaaGreatPk29
import Derived.Test.YtefnmnpfecfdaaaGreatPk30
set_option linter.all false
set_option maxRecDepth 100000
set_option maxHeartbeats 3200000
open Go.Lib (hid)
namespace Go.Proofs.YtefnmnpfecfdaaaGreat
namespace Src
open Go.RowKit Base
open Foot (Turn Out)
open DiskMath (Fl Dk)
open WalMath (Lg Sg Cap)
open SrcMath (Sc)
open Wal (Both New LogAt DiskT SgOk Ok Small Win)
open Disk (DiskAt)
open Tbl (SetAt)
structure LOk (l : Lg) : Prop where
 ok : Ok l
 small : Small l
 len : l.segs.length <= 16384
 runs : WalMath.Runs (WalMath.low l.segs) l.segs
def scells (p g gd : Nat) (S : Sc) : Array Value := #[.pointer (some ⟨p,0,none⟩),.pointer (some ⟨gd,0,none⟩),.pointer (some ⟨g,0,none⟩),.pointer (some ⟨gd,0,none⟩),.int .i64 S.lsn,.int .i64 (SrcMath.other S.file)]
structure Parts (T : Nat -> Prop) (w : World) (s p g gd : Nat) (S : Sc) (d : Dk) (L K : Nat -> Prop) : Prop where
 log : Both L w g gd S.l d
 set : SetAt w K p S.T
 box : Blk w s 60 (scells p g gd S)
 inL : ∀ i,L i -> T i /\ i < w.heap.size
 inK : ∀ i,K i -> T i /\ i < w.heap.size
 inS : T s
 apart : ∀ i,L i -> ¬ K i /\ i ≠ s
 sK : ¬ K s
def SrcAt (T : Nat -> Prop) (w : World) (s p g gd : Nat) (S : Sc) (d : Dk) : Prop := ∃ L K,Parts T w s p g gd S d L K
section
variable {T T' L K : Nat -> Prop} {w w' w'' : World} {s p g gd : Nat} {S : Sc} {d d' : Dk}
theorem Both.keep {l : Lg} (h : Wal.Both L w g gd l d) (hL : ∀ i,L i -> i < w.heap.size) (hz : w.heap.size <= w'.heap.size) (hk : ∀ i,i < w.heap.size -> L i -> w'.heap[i]? = w.heap[i]?) : Wal.Both L w' g gd l d := by
 obtain ⟨F,G,h1,h2,h3,h4,h5⟩ := h
 exact ⟨F,G,h1.keep fun i hi hf => hk i hi (h4 i hf).1,h2.keep hz fun i hi hg => hk i hi (h5 i hg).1,h3,fun i hi => ⟨(h4 i hi).1,Nat.lt_of_lt_of_le (h4 i hi).2 hz⟩,fun i hi => ⟨(h5 i hi).1,Nat.lt_of_lt_of_le (h5 i hi).2 hz⟩⟩
theorem SrcAt.new (h : SrcAt T w s p g gd S d) (hb : Below w.heap.size w w') : SrcAt T w' s p g gd S d := by
 obtain ⟨L,K,h⟩ := h
 exact ⟨L,K,h.log.new hb,h.set.new hb,(hb.block s h.box.lt).trans h.box,fun i hi => ⟨(h.inL i hi).1,Nat.lt_of_lt_of_le (h.inL i hi).2 hb.size⟩,fun i hi => ⟨(h.inK i hi).1,Nat.lt_of_lt_of_le (h.inK i hi).2 hb.size⟩,h.inS,h.apart,h.sK⟩
theorem SrcAt.mono (h : SrcAt T w s p g gd S d) (hT : ∀ i,T i -> T' i) : SrcAt T' w s p g gd S d := by
 obtain ⟨L,K,h⟩ := h
 exact ⟨L,K,h.log,h.set,h.box,fun i hi => ⟨hT i (h.inL i hi).1,(h.inL i hi).2⟩,fun i hi => ⟨hT i (h.inK i hi).1,(h.inK i hi).2⟩,hT s h.inS,h.apart,h.sK⟩
theorem SrcAt.lt (h : SrcAt T w s p g gd S d) : s < w.heap.size := by
 obtain ⟨L,K,h⟩ := h
 exact h.box.lt
theorem SrcAt.box (h : SrcAt T w s p g gd S d) : Blk w s 60 (scells p g gd S) := by
 obtain ⟨L,K,h⟩ := h
 exact h.box
theorem SrcAt.set (h : SrcAt T w s p g gd S d) : ∃ K,SetAt w K p S.T /\ ∀ i,K i -> T i /\ i < w.heap.size := by
 obtain ⟨L,K,h⟩ := h
 exact ⟨K,h.set,h.inK⟩
theorem SrcAt.log (h : SrcAt T w s p g gd S d) : ∃ G,LogAt G w g gd S.l /\ ∀ i,G i -> T i /\ i < w.heap.size := by
 obtain ⟨L,K,h⟩ := h
 obtain ⟨F,G,h1,h2,h3,h4,h5⟩ := h.log
 exact ⟨G,h2,fun i hi => h.inL i (h5 i hi).1⟩
theorem SrcAt.dsk (h : SrcAt T w s p g gd S d) : ∃ F,DiskAt F w gd d /\ ∀ i,F i -> T i /\ i < w.heap.size := by
 obtain ⟨L,K,h⟩ := h
 obtain ⟨F,G,h1,h2,h3,h4,h5⟩ := h.log
 exact ⟨F,h1,fun i hi => h.inL i (h4 i hi).1⟩
theorem SrcAt.onDisk (h : SrcAt T w s p g gd S d) : DiskT T w gd d := h.dsk
theorem SrcAt.logs (h : SrcAt T w s p g gd S d) (hT : New T w) : ∃ L,Both L w g gd S.l d /\ New L w /\ (∀ i,i < w.heap.size -> L i -> T i) /\ (∀ i,L i -> i ≠ s) /\ Hid (∀ w' l' d',Both L w' g gd l' d' -> Turn L w w' -> SrcAt T w' s p g gd { S with l := l' } d' /\ Turn T w w') := by
 obtain ⟨L,K,h⟩ := h
 have hs := h.box.lt
 refine ⟨fun i => L i \/ w.heap.size <= i,?_,fun i hi => .inr hi,fun i hi hl => ?_,fun i hi => ?_,fun w' l' d' hb ht => ⟨⟨fun i => (L i \/ w.heap.size <= i) /\ i < w'.heap.size,K,?_,?_,?_,?_,?_,h.inS,?_,h.sK⟩,?_⟩⟩
 ·obtain ⟨F,G,h1,h2,h3,h4,h5⟩ := h.log
  exact ⟨F,G,h1,h2,h3,fun i hi => ⟨.inl (h4 i hi).1,(h4 i hi).2⟩,fun i hi => ⟨.inl (h5 i hi).1,(h5 i hi).2⟩⟩
 ·rcases hl with hl | hl
  ·exact (h.inL i hl).1
  ·omega
 ·rcases hi with hi | hi
  ·exact (h.apart i hi).2
  ·omega
 ·obtain ⟨F,G,h1,h2,h3,h4,h5⟩ := hb
  exact ⟨F,G,h1,h2,h3,fun i hi => ⟨⟨(h4 i hi).1,(h4 i hi).2⟩,(h4 i hi).2⟩,fun i hi => ⟨⟨(h5 i hi).1,(h5 i hi).2⟩,(h5 i hi).2⟩⟩
 ·exact h.set.keep ht.size fun i hi hk => ht.block i hi fun hl => by
   rcases hl with hl | hl
   ·exact (h.apart i hl).1 hk
   ·omega
 ·refine (ht.block s hs fun hl => ?_).trans h.box
  rcases hl with hl | hl
  ·exact (h.apart s hl).2 rfl
  ·omega
 ·rintro i ⟨hl | hl,h2⟩
  ·exact ⟨(h.inL i hl).1,h2⟩
  ·exact ⟨hT i hl,h2⟩
 ·exact fun i hi => ⟨(h.inK i hi).1,Nat.lt_of_lt_of_le (h.inK i hi).2 ht.size⟩
 ·rintro i ⟨hl | hl,h2⟩
  ·exact h.apart i hl
  ·exact ⟨fun hk => by have := (h.inK i hk).2; omega,by omega⟩
 ·exact ht.mono fun i hi => by
   rcases hi with hl | hl
   ·exact (h.inL i hl).1
   ·exact hT i hl
theorem SrcAt.disks (h : SrcAt T w s p g gd S d) (hT : New T w) : ∃ F,DiskAt F w gd d /\ (∀ i,F i -> T i /\ i < w.heap.size /\ i ≠ s) /\ Hid (∀ w' d',DiskAt (Out F w w') w' gd d' -> Turn F w w' -> SrcAt T w' s p g gd S d' /\ Turn T w w') := by
 obtain ⟨L,h1,h2,h3,h4,h5⟩ := h.logs hT
 obtain ⟨F,k1,k2,k3⟩ := h1.disk h2
 exact ⟨F,k1,fun i hi => ⟨h3 i (k2 i hi).2 (k2 i hi).1,(k2 i hi).2,h4 i (k2 i hi).1⟩,fun w' d' a b => h5.out w' S.l d' (k3.out w' d' a b).1 (k3.out w' d' a b).2⟩
theorem SrcAt.sets (h : SrcAt T w s p g gd S d) (hT : New T w) : ∃ K,SetAt w K p S.T /\ (∀ i,K i -> T i /\ i < w.heap.size /\ i ≠ s) /\ Hid (∀ w' T',SetAt w' (Out K w w') p T' -> Turn K w w' -> SrcAt T w' s p g gd { S with T := T' } d /\ Turn T w w') := by
 obtain ⟨L,K,h⟩ := h
 have hs := h.box.lt
 refine ⟨K,h.set,fun i hi => ⟨(h.inK i hi).1,(h.inK i hi).2,fun e => h.sK (e ▸ hi)⟩,fun w' T' hb ht => ⟨⟨L,Out K w w',?_,hb,?_,?_,?_,h.inS,?_,?_⟩,ht.mono fun i hi => (h.inK i hi).1⟩⟩
 ·exact Both.keep h.log (fun i hi => (h.inL i hi).2) ht.size fun i hi hl => ht.block i hi (h.apart i hl).1
 ·exact (ht.block s hs h.sK).trans h.box
 ·exact fun i hi => ⟨(h.inL i hi).1,Nat.lt_of_lt_of_le (h.inL i hi).2 ht.size⟩
 ·rintro i (hi | hi)
  ·exact ⟨(h.inK i hi).1,Nat.lt_of_lt_of_le (h.inK i hi).2 ht.size⟩
  ·exact ⟨hT i hi.1,hi.2⟩
 ·intro i hi
  refine ⟨?_,(h.apart i hi).2⟩
  rintro (hk | hk)
  ·exact (h.apart i hi).1 hk
  ·have := (h.inL i hi).2
   omega
 ·rintro (hk | hk)
  ·exact h.sK hk
  ·omega
theorem SrcAt.boxes (h : SrcAt T w s p g gd S d) {S' : Sc} (hl : S'.l = S.l) (hT : S'.T = S.T) (hk : ∀ i,i < w.heap.size -> i ≠ s -> w'.heap[i]? = w.heap[i]?) (hz : w.heap.size <= w'.heap.size) (hb : Blk w' s 60 (scells p g gd S')) : SrcAt T w' s p g gd S' d := by
 obtain ⟨L,K,h⟩ := h
 refine ⟨L,K,?_,?_,hb,fun i hi => ⟨(h.inL i hi).1,Nat.lt_of_lt_of_le (h.inL i hi).2 hz⟩,fun i hi => ⟨(h.inK i hi).1,Nat.lt_of_lt_of_le (h.inK i hi).2 hz⟩,h.inS,h.apart,h.sK⟩
 ·rw [hl]
  exact Both.keep h.log (fun i hi => (h.inL i hi).2) hz fun i hi hL => hk i hi (h.apart i hL).2
 ·rw [hT]
  exact h.set.keep hz fun i hi hK => hk i hi fun e => h.sK (e ▸ hK)
theorem SrcAt.cells (h : SrcAt T w s p g gd S d) : w.cell? ⟨s,0,none⟩ = some (.pointer (some ⟨p,0,none⟩)) /\ w.cell? ⟨s,1,none⟩ = some (.pointer (some ⟨gd,0,none⟩)) /\ w.cell? ⟨s,2,none⟩ = some (.pointer (some ⟨g,0,none⟩)) /\ w.cell? ⟨s,3,none⟩ = some (.pointer (some ⟨gd,0,none⟩)) /\ w.cell? ⟨s,4,none⟩ = some (.int .i64 S.lsn) /\ w.cell? ⟨s,5,none⟩ = some (.int .i64 (SrcMath.other S.file)) := by
 have hb := h.box
 exact ⟨hb.cell 0,hb.cell 1,hb.cell 2,hb.cell 3,hb.cell 4,hb.cell 5⟩
end
theorem row_turn {T : Nat -> Prop} {w w' : World} {sz n c : Nat} {A : Option Addr} {vs : List Value} (h : Row w w.heap.size sz A n c vs) (hl : Lies (fun i => ¬ T i) A n) (ht : Turn T w w') : Row w' w'.heap.size sz A n c vs :=
 ⟨h.1,h.2.1,h.2.2.1,fun hn => by
  obtain ⟨b,off,e,hb,hc⟩ := h.2.2.2 hn
  exact ⟨b,off,e,Nat.lt_of_lt_of_le hb ht.size,fun j u hu => (World.cell?_of_block (ht.block b hb (hl hn b off e))).trans (hc j u hu)⟩⟩
theorem SrcAt.win {T : Nat -> Prop} {w w' : World} {s p g gd : Nat} {S : Sc} {d : Dk} (h : SrcAt T w s p g gd S d) (hb : Below w.heap.size w w') : SrcAt (Win T w.heap.size w'.heap.size) w' s p g gd S d := by
 obtain ⟨L,K,h⟩ := h
 exact ⟨L,K,h.log.new hb,h.set.new hb,(hb.block s h.box.lt).trans h.box,fun i hi => ⟨⟨(h.inL i hi).1,.inl (h.inL i hi).2⟩,Nat.lt_of_lt_of_le (h.inL i hi).2 hb.size⟩,fun i hi => ⟨⟨(h.inK i hi).1,.inl (h.inK i hi).2⟩,Nat.lt_of_lt_of_le (h.inK i hi).2 hb.size⟩,⟨h.inS,.inl h.box.lt⟩,h.apart,h.sK⟩
theorem SrcAt.old {T : Nat -> Prop} {w : World} {s p g gd : Nat} {S : Sc} {d : Dk} (h : SrcAt T w s p g gd S d) : SrcAt (fun i => T i /\ i < w.heap.size) w s p g gd S d := by
 obtain ⟨L,K,h⟩ := h
 exact ⟨L,K,h.log,h.set,h.box,fun i hi => ⟨h.inL i hi,(h.inL i hi).2⟩,fun i hi => ⟨h.inK i hi,(h.inK i hi).2⟩,⟨h.inS,h.box.lt⟩,h.apart,h.sK⟩
theorem new_win {T : Nat -> Prop} {w w' : World} (h : New T w) (hz : w.heap.size <= w'.heap.size) : New (Win T w.heap.size w'.heap.size) w' := fun i hi => ⟨h i (Nat.le_trans hz hi),.inr hi⟩
end Src
namespace Wal
open Go.RowKit Base WalMath
open Go.Sort (grow)
open Disk (DiskAt I64 Fits)
open Foot (Turn Out)
open DiskMath (Fl Dk)
theorem above_any (G : Nat -> Prop) (g gd : Nat) (l : Lg) (lsn : Int) (i p q : Nat) (s : Sg) (w : World) (h : LogAt G w g gd l) (hs : l.segs[i]? = some s) (hp : w.cell? ⟨p,0,none⟩ = some (.pointer (some ⟨g,0,none⟩))) (hq : w.cell? ⟨q,0,none⟩ = some (.int .i64 lsn)) :
 Calls Tryz.prog 115 #[.int .i64 i,.pointer (some ⟨p,0,none⟩),.pointer (some ⟨q,0,none⟩)] w fun e w' => e = .returned (.bool (decide (lsn < s.first))) /\ ∃ m,w' = w.drewN m := by
 obtain ⟨A,n,c,qs,lp,h⟩ := h
 have c0 := h.cells.1
 obtain ⟨b,q,rfl,_,_,hb,hpn,⟨hnc,hcm⟩,_,k0,k1,k2,k3⟩ := h.at_ hs
 clear h hs k0 k2 k3
 generalize s.first = x at *
 go_enter Tryz.func115,Tryz.ntmps115
 go_wp2
 go_quiet (fail)
 go_wp2
 go_ret
 exact ⟨rfl,nq,rfl⟩
theorem count_upto (n k : Nat) (p : Nat -> Bool) (hk : k < n) (h1 : ∀ i,i <= k -> p i = false) (h2 : ∀ i,k < i -> i < n -> p i = true) : (List.range n).countP (fun i => !p i) = k + 1 := by
 induction n with
 | zero => omega
 | succ n ih =>
   rw [List.range_succ,List.countP_append,List.countP_singleton]
   by_cases hkn : k = n
   ·subst hkn
    rw [h1 k (Nat.le_refl _)]
    have : (List.range k).countP (fun i => !p i) = k := by
     have := List.countP_eq_length (p := fun i => !p i) (l := List.range k)
     rw [List.length_range] at this
     rw [this]
     intro a ha
     rw [List.mem_range] at ha
     simp [h1 a (by omega)]
    rw [this]
    simp
   ·rw [ih (by omega) (fun i hi hin => h2 i hi (by omega)),h2 n (by omega) (by omega)]
    simp
theorem below_grow (w : World) (q : Nat) (os : Array Obj) : Below w.heap.size w (grow (w.drewN q) os) := Go.Proofs.below_grown_sl _ _ _ _ (Nat.le_refl _)
def firstAt (l : List Sg) (i : Nat) : Int := ((l[i]?).map Sg.first).getD 0
theorem search_any (G : Nat -> Prop) (g gd : Nat) (l : Lg) (lsn : Int) (k p q : Nat) (w : World) (h : LogAt G w g gd l) (hp : w.cell? ⟨p,0,none⟩ = some (.pointer (some ⟨g,0,none⟩))) (hq : w.cell? ⟨q,0,none⟩ = some (.int .i64 lsn)) (hN : l.segs.length <= 16384) (hk : k < l.segs.length)
 (hbs : ∀ (j : Nat) (t : Sg),l.segs[j]? = some t -> (j <= k -> t.first <= lsn) /\ (k < j -> lsn < t.first)) :
 Calls Tryz.prog 114 #[.int .i64 l.segs.length,.func (.func 115) #[] #[.pointer (some ⟨p,0,none⟩),.pointer (some ⟨q,0,none⟩)]] w fun e w' => e = .returned (.int .i64 (k + 1 : Nat)) /\ Below w.heap.size w w' := by
 have eg : ∀ args w,(callFunc 115 args).run Tryz.prog w = .ok (.enter 115 args) w := enters_of Tryz.func115 (by kernel_rfl) rfl
 have hat : ∀ i,i < l.segs.length -> ∃ t,l.segs[i]? = some t /\ firstAt l.segs i = t.first := fun i hi => ⟨l.segs[i],List.getElem?_eq_getElem hi,by rw [firstAt,List.getElem?_eq_getElem hi]; rfl⟩
 have hc := Go.Proofs.Any.sort_Search Tryz.searchA 115 #[.pointer (some ⟨p,0,none⟩),.pointer (some ⟨q,0,none⟩)] l.segs.length (fun i => decide (lsn < firstAt l.segs i)) w eg (by omega)
  (fun m os i hi => by
    obtain ⟨t,ht,hf⟩ := hat i hi
    have hb := below_grow w m os
    refine (above_any G g gd l lsn i p q t _ (h.new hb) ht (held_cell hb hp) (held_cell hb hq)).mono ?_
    rintro e w' ⟨rfl,r,rfl⟩
    exact ⟨by rw [hf],r,#[],by simp⟩)
  (fun a b hab hb hpa => by
    obtain ⟨t,ht,hf⟩ := hat a (by omega)
    obtain ⟨u,hu,hg⟩ := hat b hb
    rw [hf] at hpa
    rw [hg]
    simp only [decide_eq_true_eq] at hpa ⊢
    have h1 := hbs a t ht
    have h2 := hbs b u hu
    rcases Nat.lt_or_ge k b with hkb | hkb
    ·exact h2.2 hkb
    ·have := h1.1 (by omega); omega)
 change Calls Tryz.prog 114 _ _ _ at hc
 refine hc.mono ?_
 rintro e w' ⟨rfl,r,os,rfl⟩
 refine ⟨?_,below_grow w r os⟩
 rw [count_upto l.segs.length k _ hk (fun i hi => ?_) (fun i hi hin => ?_)]
 ·obtain ⟨t,ht,hf⟩ := hat i (by omega)
  rw [hf]
  have := (hbs i t ht).1 hi
  simpa using this
 ·obtain ⟨t,ht,hf⟩ := hat i hin
  rw [hf]
  have := (hbs i t ht).2 hi
  simpa using this
theorem readyes_any (G : Nat -> Prop) (g gd : Nat) (l : Lg) (lsn : Int) (k : Nat) (s : Sg) (p : List UInt8) (w : World) (h : LogAt G w g gd l) (ho : ∀ s ∈ l.segs,SgOk s) (hN : l.segs.length <= 16384) (hlo : low l.segs <= lsn) (hhi : lsn <= hd l.segs)
 (hs : l.segs[k]? = some s) (h0 : s.first <= lsn) (h1 : lsn - s.first < s.rows.length) (hp : s.rows[(lsn - s.first).toNat]? = some p) (hbs : ∀ (j : Nat) (t : Sg),l.segs[j]? = some t -> (j <= k -> t.first <= lsn) /\ (k < j -> lsn < t.first)) :
 Calls Tryz.prog 50 #[.pointer (some ⟨g,0,none⟩),.int .i64 lsn] w (ReadS w (some p)) := by
 have HL := hid h
 have HO := hid ho
 have HS := hid hs
 have HBS := hid hbs
 have HP := hid hp
 have hsk := ho s (List.mem_of_getElem? hs)
 have hpl : p.length <= 1048576 := hsk.2.2.2.2.2 p (List.mem_of_getElem? hp)
 obtain ⟨_,_,hf1,hf2,_,_⟩ := hsk
 clear h ho hs hbs hp
 have HW : Hid (Below w.heap.size w ((w.alloc (.cells #[.pointer (some ⟨g,0,none⟩)] 179)).alloc (.cells #[.int .i64 lsn] 2))) := ((Below.refl _ _).alloc (Nat.le_refl _) _).alloc (by simp) _
 have hc0 : ((w.alloc (.cells #[.pointer (some ⟨g,0,none⟩)] 179)).alloc (.cells #[.int .i64 lsn] 2)).cell? ⟨w.heap.size,0,none⟩ = some (.pointer (some ⟨g,0,none⟩)) := by simp
 have hc1 : ((w.alloc (.cells #[.pointer (some ⟨g,0,none⟩)] 179)).alloc (.cells #[.int .i64 lsn] 2)).cell? ⟨w.heap.size + 1,0,none⟩ = some (.int .i64 lsn) := by simp
 have hd1 : decide (lsn < low l.segs) = false := by simpa using hlo
 have hd2 : decide (hd l.segs < lsn) = false := by simpa using hhi
 clear hlo hhi
 generalize hlo : low l.segs = lo at hd1
 generalize hhi : hd l.segs = hi at hd2
 have HLO := hid hlo
 have HHI := hid hhi
 clear hlo hhi
 go_enter Tryz.func50,Tryz.ntmps50
 go_wp2_with fail
 generalize (w.alloc (.cells #[.pointer (some ⟨g,0,none⟩)] 179)).alloc (.cells #[.int .i64 lsn] 2) = W at hc0 hc1 HW ⊢
 generalize hs0 : w.heap.size = s0 at hc0 hc1
 have HS0 := hid hs0
 clear hs0
 have HLW := hid (HL.out.new HW.out)
 go_region_held3 (fun w' => w'.cell? ⟨s0,0,none⟩ = some (.pointer (some ⟨g,0,none⟩)) /\ w'.cell? ⟨s0 + 1,0,none⟩ = some (.int .i64 lsn) /\ Below W.heap.size W w')
  (first
    | exact held2 (held_start W) hc0 hc1
    | assumption
    | (go_split_ands; exact held2 (held_call (by assumption) hbc) hc0 hc1)
    | fail)
  (first
    | (go_at_call 49; go_split_ands; refine (low_any G g gd l _ (HLW.out.new (by assumption))).mono ?_; rintro e wc ⟨rfl,rfl⟩; rw [HLO.out])
    | (go_at_call 48; go_split_ands; refine (head_any G g gd l _ (HLW.out.new (by assumption)) HO.out).mono ?_; rintro e wc ⟨rfl,hbc⟩; rw [HHI.out])
    | fail)
 have HB2 := hid (held_call (held_start W) hbc)
 clear hbc hd1 hd2
 have HL2 := hid (HLW.out.new HB2.out)
 have e0 := held_cell HB2.out hc0
 have e1 := held_cell HB2.out hc1
 have HE0 := hid e0
 have HE1 := hid e1
 have HB3 := hid (held_two HW.out HB2.out)
 clear hc0 hc1 HW HB2 HLW
 obtain ⟨A,n,c,qs,lp,hL⟩ := HL2.out
 have c0 := hL.cells.1
 have hlen := hL.len
 obtain ⟨b,q,rfl,_,_,hb,hpn,⟨hnc,hcm⟩,hE,k0,k1,k2,k3⟩ := hL.at_ HS.out
 have HEn := hid hE
 have HSE := hid (search_any G g gd l lsn k s0 (s0 + 1) _ HL2.out e0 e1 hN (by rw [hlen]; exact hpn) HBS.out)
 rw [hlen] at HSE
 clear hL hE hlen
 have hwk : IntKind.i64.wrap ((k + 1 : Nat) - 1 : Int) = k := by rw [IntWalk.i64_in _ (by omega)]; omega
 generalize wc = w2 at *
 go_wp2_with fail
 refine HSE.out.mono ?_
 rintro e w3 ⟨rfl,hb3⟩
 have HB4 := hid (held_two HB3.out hb3)
 replace e0 := held_cell hb3 e0
 replace e1 := held_cell hb3 e1
 replace c0 := held_cell hb3 c0
 replace k0 := held_cell hb3 k0
 replace k1 := held_cell hb3 k1
 replace k2 := held_cell hb3 k2
 replace k3 := held_cell hb3 k3
 have HEn3 := hid (HEn.out.below hb3)
 clear hb3 HEn HSE
 obtain ⟨j,hj⟩ := Int.eq_ofNat_of_zero_le (show 0 <= lsn - s.first by omega)
 have hjr : j < s.rows.length := by omega
 obtain ⟨b2,o2,A4,n4,c4,p4,hA4,hb4,hcell4,hy4,hget4,_⟩ := HEn3.out.lists.at_ (k := j) hjr
 have hpp : p4 = p := by
  have := HP.out
  rw [hj,Int.toNat_natCast,hget4] at this
  exact Option.some.inj this
 subst hpp
 have hn4 := hy4.len
 rw [hA4] at k2
 have hlen4 := HEn3.out.lists.le
 have HY4 := hid hy4
 have hwj : IntKind.i64.wrap (lsn - s.first) = j := by rw [IntWalk.i64_in _ (by omega)]; exact hj
 have hp4 : n4 <= 140737488355328 := by omega
 clear hA4 hget4 hy4 HP HBS HS HL HO HLO HHI HE0 HE1 hN HEn3 HL2
 generalize s.rows.length = r at *
 generalize s.file = f at *
 generalize s.first = x at *
 generalize s.size = z at *
 generalize q.c = cq at *
 subst hn4
 have e1' : ∀ o,(w3.alloc o).cell? ⟨s0 + 1,0,none⟩ = some (.int .i64 lsn) := fun o => Lib.cell?_alloc_some o e1
 have hcell5 : ∀ o,(w3.alloc o).cell? ⟨b2,o2 + j,none⟩ = some (.slice A4 p4.length c4) := fun o => Lib.cell?_alloc_some o hcell4
 go_wp2_with fail
 refine (Disk.clone_any w3.heap.size A4 _ c4 p4 _ (HY4.out.alloc (Nat.le_refl _) _) (by simp) hp4).mono ?_
 rintro e w4 ⟨A5,c5,rfl,hown5,hb5⟩
 have HO5 := hid (own_mono hown5 (Nat.le_trans HB4.out.size (by simp)))
 have HB5 := hid (held_two (held_alloc HB4.out _) hb5)
 clear hown5 hb5
 go_wp2
 go_ret2
 exact ⟨A5,c5,rfl,HO5.out,HB5.out⟩
theorem read_any (G : Nat -> Prop) (g gd : Nat) (l : Lg) (lsn : Int) (w : World) (h : LogAt G w g gd l) (ho : ∀ s ∈ l.segs,SgOk s) (hN : l.segs.length <= 16384) (hr : Runs (low l.segs) l.segs) :
 Calls Tryz.prog 50 #[.pointer (some ⟨g,0,none⟩),.int .i64 lsn] w (ReadS w (entry l.segs lsn)) := by
 unfold entry
 by_cases hn : low l.segs <= lsn /\ lsn <= hd l.segs
 ·rw [if_pos hn]
  have h0 : l.segs ≠ [] := fun e => by
   rw [e] at hn
   have a : low [] = 1 := rfl
   have b : hd [] = 0 := rfl
   omega
  have hh := runs_hd hr h0
  obtain ⟨k,s,h1,h2,h3,h4,h5⟩ := runs_at hr hn.1 (by omega)
  have hlt : (lsn - s.first).toNat < s.rows.length := by omega
  rw [List.getElem?_eq_getElem hlt] at h4
  rw [<- h4]
  exact readyes_any G g gd l lsn k s _ w h ho hN hn.1 hn.2 h1 h2 h3 (List.getElem?_eq_getElem hlt) h5
 ·rw [if_neg hn]
  exact readno_any G g gd l lsn w h ho hn
end Wal
namespace Txn
open Go.RowKit Base FieldMath TxnMath
open Field (ret_bool empty_iff)
def ccells (c : Ch) : List Value := [.int .i64 c.tbl,.int .i64 c.key,.bool c.gone,.string c.val]
def cv (l : List Ch) : List Value := l.flatMap ccells
theorem cv_append (l m : List Ch) : cv (l ++ m) = cv l ++ cv m := List.flatMap_append
theorem cv_length (l : List Ch) : (cv l).length = l.length * 4 := by
 induction l with
 | nil => rfl
 | cons f l ih =>
   show (ccells f ++ cv l).length = _
   rw [List.length_append,ih,List.length_cons]
   show 4 + l.length * 4 = _
   omega
theorem cv_one (l : List Ch) : ∀ u ∈ cv l,u.oneCell' = true := by
 intro u hu
 obtain ⟨f,_,hf⟩ := List.mem_flatMap.1 hu
 simp only [ccells,List.mem_cons,List.not_mem_nil,or_false] at hf
 rcases hf with rfl | rfl | rfl | rfl <;> rfl
theorem cv_get (l : List Ch) (k : Nat) (f : Ch) (h : l[k]? = some f) (i : Nat) (hi : i < 4) : (cv l)[k * 4 + i]? = (ccells f)[i]? := by
 induction l generalizing k with
 | nil => simp at h
 | cons g l ih =>
   show (ccells g ++ cv l)[k * 4 + i]? = _
   cases k with
   | zero =>
     simp only [List.getElem?_cons_zero,Option.some.injEq] at h
     subst h
     rw [List.getElem?_append_left (by show 0 * 4 + i < 4; omega)]
     congr 1
     omega
   | succ k =>
     rw [List.getElem?_cons_succ] at h
     rw [List.getElem?_append_right (by show 4 <= (k + 1) * 4 + i; omega),<- ih k h]
     congr 1
     show (k + 1) * 4 + i - 4 = _
     omega
def Chs (w : World) (B : Nat) (A : Option Addr) (n c : Nat) (l : List Ch) : Prop := Row w B 4 A n c (cv l)
def sv (l : List ByteArray) : List Value := l.map .string
theorem sv_one (l : List ByteArray) : ∀ u ∈ sv l,u.oneCell' = true := by
 intro u hu
 obtain ⟨f,_,rfl⟩ := List.mem_map.1 hu
 rfl
def Sigs (w : World) (B : Nat) (A : Option Addr) (n c : Nat) (l : List ByteArray) : Prop := Row w B 1 A n c (sv l)
section
variable {w w' : World} {B B' n c : Nat} {A : Option Addr} {l : List Ch} {m : List ByteArray}
theorem Chs.len (h : Chs w B A n c l) : l.length = n := by have := h.1; rw [cv_length] at this; omega
theorem Chs.le (h : Chs w B A n c l) : n <= c /\ c <= 9223372036854775807 := ⟨h.2.1,h.2.2.1⟩
theorem Chs.below (h : Chs w B A n c l) (hb : Below B w w') : Chs w' B A n c l := Row.below h hb
theorem Chs.at_ (h : Chs w B A n c l) {k : Nat} (hk : k < n) :
 ∃ b off f,A = some ⟨b,off,none⟩ /\ b < B /\ w.cell? ⟨b,off + k * 4,none⟩ = some (.int .i64 f.tbl) /\ w.cell? ⟨b,off + k * 4 + 1,none⟩ = some (.int .i64 f.key) /\ w.cell? ⟨b,off + k * 4 + 2,none⟩ = some (.bool f.gone) /\ w.cell? ⟨b,off + k * 4 + 3,none⟩ = some (.string f.val) /\
   l[k]? = some f /\ l.take (k + 1) = l.take k ++ [f] := by
 obtain ⟨b,off,e,hb,hc⟩ := h.2.2.2 (by omega)
 have hl : k < l.length := by rw [h.len]; exact hk
 have hg : l[k]? = some l[k] := List.getElem?_eq_getElem hl
 refine ⟨b,off,l[k],e,hb,?_,?_,?_,?_,hg,List.take_succ_eq_append_getElem hl⟩
 ·exact hc (k * 4 + 0) _ (by rw [cv_get l k _ hg 0 (by omega)]; rfl)
 ·exact hc (k * 4 + 1) _ (by rw [cv_get l k _ hg 1 (by omega)]; rfl)
 ·exact hc (k * 4 + 2) _ (by rw [cv_get l k _ hg 2 (by omega)]; rfl)
 ·exact hc (k * 4 + 3) _ (by rw [cv_get l k _ hg 3 (by omega)]; rfl)
theorem Sigs.len (h : Sigs w B A n c m) : m.length = n := by have := h.1; rw [sv,List.length_map] at this; omega
theorem Sigs.le (h : Sigs w B A n c m) : n <= c /\ c <= 9223372036854775807 := ⟨h.2.1,h.2.2.1⟩
theorem Sigs.below (h : Sigs w B A n c m) (hb : Below B w w') : Sigs w' B A n c m := Row.below h hb
theorem Sigs.at_ (h : Sigs w B A n c m) {k : Nat} (hk : k < n) :
 ∃ b off s,A = some ⟨b,off,none⟩ /\ b < B /\ w.cell? ⟨b,off + k,none⟩ = some (.string s) /\ m[k]? = some s /\ m.take (k + 1) = m.take k ++ [s] := by
 obtain ⟨b,off,e,hb,hc⟩ := h.2.2.2 (by omega)
 have hl : k < m.length := by rw [h.len]; exact hk
 have hg : m[k]? = some m[k] := List.getElem?_eq_getElem hl
 exact ⟨b,off,m[k],e,hb,hc k _ (by rw [sv,List.getElem?_map,hg]; rfl),hg,List.take_succ_eq_append_getElem hl⟩
end
def chv (c : Ch) : Value := .agg #[.int .i64 c.tbl,.int .i64 c.key,.bool c.gone,.string c.val]
def txv (lsn kind mark : Int) (A : Option Addr) (n c : Nat) (A' : Option Addr) (n' c' : Nat) : Value := .agg #[.int .i64 lsn,.int .i64 kind,.slice A n c,.slice A' n' c',.int .i64 mark]
theorem mayLsn_any (n : Int) (w : World) : Calls Tryz.prog 188 #[.int .i64 n] w fun e w' => e = .returned (.bool (mayLsn n)) /\ w = w' := by
 by_cases h1 : 1 <= n
 ·have HE := hid (show decide (n <= 1099511627776) = mayLsn n by unfold mayLsn; rw [decide_eq_true h1,Bool.true_and])
  go_enter Tryz.func188,Tryz.ntmps188
  go_wp2
  go_ret
  exact ⟨ret_bool HE.out,rfl⟩
 ·have HE := hid (show false = mayLsn n by unfold mayLsn; rw [decide_eq_false h1,Bool.false_and])
  go_enter Tryz.func188,Tryz.ntmps188
  go_wp2
  go_ret
  exact ⟨ret_bool HE.out,rfl⟩
theorem maychange_any (t k : Int) (g : Bool) (v : ByteArray) (n : Int) (w : World) : Calls Tryz.prog 165 #[.agg #[.int .i64 t,.int .i64 k,.bool g,.string v],.int .i64 n] w fun e w' => e = .returned (.bool (Ch.may n ⟨t,k,g,v⟩)) /\ Below w.heap.size w w' := by
 by_cases h1 : t < 0
 ·go_enter Tryz.func165,Tryz.ntmps165
  go_wp2
  go_ret
  exact ⟨ret_bool (by simp [Ch.may]; omega),(Below.refl _ _).alloc (Nat.le_refl _) _⟩
 ·by_cases h2 : n <= t
  ·go_enter Tryz.func165,Tryz.ntmps165
   go_wp2
   go_ret
   exact ⟨ret_bool (by simp [Ch.may]; omega),(Below.refl _ _).alloc (Nat.le_refl _) _⟩
  ·by_cases h3 : k < 1
   ·go_enter Tryz.func165,Tryz.ntmps165
    go_wp2
    go_ret
    exact ⟨ret_bool (by simp [Ch.may]; omega),(Below.refl _ _).alloc (Nat.le_refl _) _⟩
   ·by_cases h4 : 1099511627776 < k
    ·go_enter Tryz.func165,Tryz.ntmps165
     go_wp2
     go_ret
     exact ⟨ret_bool (by simp [Ch.may]; omega),(Below.refl _ _).alloc (Nat.le_refl _) _⟩
    ·cases g with
     | true =>
       go_enter Tryz.func165,Tryz.ntmps165
       go_wp2
       go_ret
       exact ⟨ret_bool (by simp [Ch.may,empty_iff,show 0 <= t by omega,show t < n by omega,show 1 <= k by omega,show k <= 1099511627776 by omega]),(Below.refl _ _).alloc (Nat.le_refl _) _⟩
     | false =>
       go_enter Tryz.func165,Tryz.ntmps165
       go_wp2
       go_ret
       exact ⟨ret_bool (by simp [Ch.may,show 0 <= t by omega,show t < n by omega,show 1 <= k by omega,show k <= 1099511627776 by omega]; omega),(Below.refl _ _).alloc (Nat.le_refl _) _⟩
def MayRel (w : World) (l : List Ch) (n : Nat) (i : Value) (wr : World) : Prop := ∃ k : Nat,k <= n /\ i = .int .i64 k /\ (∀ f ∈ l.take k,f.may 8 = true) /\ Below w.heap.size w wr
theorem all_take {α : Type} {l : List α} {p : α -> Bool} {n : Nat} (hl : l.length <= n) (h : ∀ f ∈ l.take n,p f = true) : l.all p = true := by
 rw [List.take_of_length_le hl] at h
 exact List.all_eq_true.2 h
theorem all_not {α : Type} {l : List α} {p : α -> Bool} {k : Nat} {f : α} (hg : l[k]? = some f) (h : p f = false) : l.all p = false := by
 rw [Bool.eq_false_iff]
 intro h2
 rw [List.all_eq_true.1 h2 f (List.mem_of_getElem? hg)] at h
 cases h
theorem take_all {α : Type} {l : List α} {p : α -> Bool} {k : Nat} {f : α} (h : ∀ x ∈ l.take k,p x = true) (e : l.take (k + 1) = l.take k ++ [f]) (hf : p f = true) : ∀ x ∈ l.take (k + 1),p x = true := by
 intro x hx
 rw [e] at hx
 rcases List.mem_append.1 hx with hx | hx
 ·exact h x hx
 ·rw [List.mem_singleton] at hx
  subst hx
  exact hf
theorem mayChanges_any (B : Nat) (A : Option Addr) (n c : Nat) (l : List Ch) (w : World) (h : Chs w B A n c l) (hB : B <= w.heap.size) : Calls Tryz.prog 189 #[.slice A n c] w fun e w' => e = .returned (.bool (mayChs l)) /\ Below w.heap.size w w' := by
 have hlen := h.len
 have HL := hid hlen
 have HR := hid h
 clear h
 by_cases h16 : 16 < n
 ·have HE := hid (show mayChs l = false by unfold mayChs; rw [hlen]; simp; omega)
  clear hlen
  go_enter Tryz.func189,Tryz.ntmps189
  go_wp2
  go_ret
  exact ⟨ret_bool (a := false) HE.out.symm,Below.refl _ _⟩
 ·have HE := hid (show mayChs l = l.all (Ch.may 8) by unfold mayChs; rw [hlen,decide_eq_true (by omega),Bool.true_and])
  clear hlen
  go_enter Tryz.func189,Tryz.ntmps189
  go_wp2
  go_loopw [10] (fun i wr => MayRel w l n i wr) (fun i _ => n - (RowKit.intOf i).toNat)
  case atStart => exact ⟨0,Nat.zero_le _,rfl,(fun f hf => by simp at hf),Below.refl _ _⟩
  case round =>
   obtain ⟨k,hk,rfl,hall,hbel⟩ := hrel
   have HA := hid hall
   have HB := hid hbel
   clear hall hbel
   by_cases hlt : k < n
   ·obtain ⟨b,off,f,rfl,hb,c0,c1,c2,c3,hget,htake⟩ := (HR.out.below (HB.out.mono hB)).at_ hlt
    have HG := hid hget
    have HT := hid htake
    clear hget htake
    obtain ⟨t,ky,g,v⟩ := f
    dsimp only at c0 c1 c2 c3
    have HBl := hid (show Below w.heap.size w (wr.alloc (.cells #[.int .i64 t,.int .i64 ky,.bool g,.string v] 64)) from HB.out.alloc HB.out.size _)
    cases hm : Ch.may 8 ⟨t,ky,g,v⟩ with
    | true =>
      have HM := hid hm
      go_wp2_with fail
      refine (maychange_any t ky g v 8 _).mono ?_
      rintro e w1 ⟨rfl,hb1⟩
      rw [HM.out]
      have HB1 := hid (held_two HBl.out hb1)
      clear hb1 hm
      go_wp2
      go_roundw
      case rel => exact ⟨k + 1,by omega,by go_num,take_all HA.out HT.out HM.out,HB1.out⟩
      case measure => simp [RowKit.intOf]; omega
    | false =>
      have HM := hid hm
      go_wp2_with fail
      refine (maychange_any t ky g v 8 _).mono ?_
      rintro e w1 ⟨rfl,hb1⟩
      rw [HM.out]
      have HB1 := hid (held_two HBl.out hb1)
      clear hb1 hm
      go_wp2
      go_ret
      exact ⟨ret_bool (a := false) (by rw [HE.out,all_not HG.out HM.out]),HB1.out⟩
   ·go_wp2
    go_ret
    exact ⟨ret_bool (a := true) (by rw [HE.out,all_take (n := k) (by rw [HL.out]; omega) HA.out]),HB.out⟩
def SigRel (m : List ByteArray) (n : Nat) (i : Value) : Prop := ∃ k : Nat,k <= n /\ i = .int .i64 k /\ ∀ f ∈ m.take k,decide (f.size <= 40) = true
theorem maySignals_any (B : Nat) (A : Option Addr) (n c : Nat) (l : List ByteArray) (w : World) (h : Sigs w B A n c l) : Calls Tryz.prog 190 #[.slice A n c] w fun e w' => e = .returned (.bool (maySigs l)) /\ w = w' := by
 have hlen := h.len
 have HL := hid hlen
 have HR := hid h
 clear h
 by_cases h2 : 2 < n
 ·have HE := hid (show maySigs l = false by unfold maySigs; rw [hlen]; simp; omega)
  clear hlen
  go_enter Tryz.func190,Tryz.ntmps190
  go_wp2
  go_ret
  exact ⟨ret_bool (a := false) HE.out.symm,rfl⟩
 ·have HE := hid (show maySigs l = l.all (fun s => decide (s.size <= 40)) by unfold maySigs; rw [hlen,decide_eq_true (by omega),Bool.true_and])
  clear hlen
  go_enter Tryz.func190,Tryz.ntmps190
  go_wp2
  go_loop [10] (fun i => SigRel l n i) (fun i => n - (RowKit.intOf i).toNat)
  case atStart => exact ⟨0,Nat.zero_le _,rfl,fun f hf => by simp at hf⟩
  case round =>
   obtain ⟨k,hk,rfl,hall⟩ := hrel
   have HA := hid hall
   clear hall
   by_cases hlt : k < n
   ·obtain ⟨b,off,s,rfl,hb,c0,hget,htake⟩ := HR.out.at_ hlt
    have HG := hid hget
    have HT := hid htake
    clear hget htake
    by_cases hs : s.size <= 40
    ·have HM := hid (decide_eq_true hs)
     go_wp2
     go_round
     case rel => exact ⟨k + 1,by omega,by go_num,take_all HA.out HT.out HM.out⟩
     case measure => simp [RowKit.intOf]; omega
    ·have HM := hid (decide_eq_false hs)
     go_wp2
     go_ret
     exact ⟨ret_bool (a := false) (by rw [HE.out,all_not HG.out HM.out]),rfl⟩
   ·go_wp2
    go_ret
    exact ⟨ret_bool (a := true) (by rw [HE.out,all_take (n := k) (by rw [HL.out]; omega) HA.out]),rfl⟩
end Txn
end Go.Proofs.YtefnmnpfecfdaaaGreat
