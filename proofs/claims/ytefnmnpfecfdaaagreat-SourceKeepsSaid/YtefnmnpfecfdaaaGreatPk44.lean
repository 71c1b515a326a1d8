/-
  Texts of one proof: SrcAll, SrcAgain, FoldCol, FoldRows, FoldCode, FoldHeld, TblRefNew, IdxRefDel, TblRefSet.
-/
import Derived.Test.YtefnmnpfecfdaaaGreatPk43
set_option linter.all false
set_option maxRecDepth 100000
set_option maxHeartbeats 3200000
open Go.Lib (hid)
namespace Go.Proofs.YtefnmnpfecfdaaaGreat
namespace Src
open Go.RowKit Base
open Foot (Turn Out)
open DiskMath (Fl Dk)
open SrcMath (Sc Lot tt mayS)
open TxnMath (Tx Ch)
open IdxMath (Rw)
open Wal (New Win DiskT From)
open Txn (Chs Sigs)
open PTx (Txs tcells)
def Off (T : Nat -> Prop) (v : Value) : Prop := ∀ g,v.ownBlock = some g -> ¬ T g
section
variable {T T' : Nat -> Prop} {w w' : World} {base n sz : Nat} {e : TypeId} {v : Value} {xs : List Value}
theorem own_turn (h : w.ownsRow base e sz v n xs) (ho : Off T v) (ht : Turn T w w') : w'.ownsRow base e sz v n xs := Foot.own_same h fun g hg => ht.block g (Foot.own_lt h hg) (ho g hg)
theorem off_mono (h : w.ownsRow base e sz v n xs) (ho : Off T v) (hT : ∀ i,i < w.heap.size -> T' i -> T i) : Off T' v := fun g hg ht => ho g hg (hT g (Foot.own_lt h hg) ht)
theorem off_lies {A : Option Addr} {c : Nat} (ho : Off T (.slice A n c)) : Lies (fun i => ¬ T i) A n := fun _ b off ea => by
 subst ea
 exact ho b (by rfl)
theorem off_win (h : w'.ownsRow w.heap.size e sz v n xs) : Off (Win T w.heap.size w'.heap.size) v := fun g hg hw => by
 have h1 := h.lt g hg
 have h2 : g < w.heap.size \/ w'.heap.size <= g := hw.2
 omega
end
def InAll (T : Nat -> Prop) (w : World) (base : Nat) (vs : List Value) (i : Nat) (x : Tx) : Prop := ∃ A n c A' n' c',(∀ j,j < 5 -> vs[i * 5 + j]? = (tcells x.lsn x.kind x.mark A n c A' n' c')[j]?) /\
 (w.ownsRow base 64 4 (.slice A n c) n (PChg.gv x.chs) /\ Off T (.slice A n c)) /\ w.ownsRow base 9 1 (.slice A' n' c') n' (PTx.sv x.sigs) /\ Off T (.slice A' n' c')
def AllIn (T : Nat -> Prop) (w : World) (base : Nat) (A : Option Addr) (k c : Nat) (l : List Tx) : Prop := ∃ vs,w.ownsRow base 39 5 (.slice A k c) k vs /\ Off T (.slice A k c) /\ l.length = k /\ ∀ i x,l[i]? = some x -> InAll T w base vs i x
section
variable {T T' : Nat -> Prop} {w w' : World} {base k c : Nat} {A : Option Addr} {l : List Tx}
theorem AllIn.turn (h : AllIn T w base A k c l) (ht : Turn T w w') : AllIn T w' base A k c l := by
 obtain ⟨vs,h1,h2,h3,h4⟩ := h
 refine ⟨vs,own_turn h1 h2 ht,h2,h3,fun i x hx => ?_⟩
 obtain ⟨A1,n1,c1,A2,n2,c2,hv,⟨h5,h6⟩,h7,h8⟩ := h4 i x hx
 exact ⟨A1,n1,c1,A2,n2,c2,hv,⟨own_turn h5 h6 ht,h6⟩,own_turn h7 h8 ht,h8⟩
theorem InAll.turn {vs : List Value} {i : Nat} {x : Tx} (h : InAll T w base vs i x) (ht : Turn T w w') : InAll T w' base vs i x := by
 obtain ⟨A1,n1,c1,A2,n2,c2,hv,⟨h5,h6⟩,h7,h8⟩ := h
 exact ⟨A1,n1,c1,A2,n2,c2,hv,⟨own_turn h5 h6 ht,h6⟩,own_turn h7 h8 ht,h8⟩
theorem AllIn.mono (h : AllIn T w base A k c l) (hT : ∀ i,i < w.heap.size -> T' i -> T i) : AllIn T' w base A k c l := by
 obtain ⟨vs,h1,h2,h3,h4⟩ := h
 refine ⟨vs,h1,off_mono h1 h2 hT,h3,fun i x hx => ?_⟩
 obtain ⟨A1,n1,c1,A2,n2,c2,hv,⟨h5,h6⟩,h7,h8⟩ := h4 i x hx
 exact ⟨A1,n1,c1,A2,n2,c2,hv,⟨h5,off_mono h5 h6 hT⟩,h7,off_mono h7 h8 hT⟩
theorem AllIn.new (h : AllIn T w base A k c l) (hb : Below w.heap.size w w') : AllIn T w' base A k c l := h.turn (.new hb)
theorem AllIn.win (h : AllIn T w base A k c l) {a b : Nat} : AllIn (Win T a b) w base A k c l := h.mono fun _ _ hw => hw.1
theorem AllIn.nil_ (T : Nat -> Prop) (w : World) (base : Nat) : AllIn T w base none 0 0 [] := ⟨[],World.ownsRow_nil _ _ _ _,(fun g hg => by cases hg),rfl,fun i x hx => by simp at hx⟩
theorem AllIn.push {c4 : Nat} {A4 : Option Addr} {vs : List Value} {x : Tx} {A1 A2 : Option Addr} {n1 c1 n2 c2 : Nat} (h1 : w.ownsRow base 39 5 (.slice A k c) k vs) (ho : Off T (.slice A k c)) (h2 : l.length = k) (h3 : ∀ i y,l[i]? = some y -> InAll T w base vs i y)
 (h4 : w'.ownsRow base 39 5 (.slice A4 (k + 1) c4) (k + 1) (vs ++ tcells x.lsn x.kind x.mark A1 n1 c1 A2 n2 c2)) (hg : Grew w (Value.slice A k c).ownBlock w' (.slice A4 (k + 1) c4)) (h5 : w.ownsRow base 64 4 (.slice A1 n1 c1) n1 (PChg.gv x.chs)) (h6 : w.ownsRow base 9 1 (.slice A2 n2 c2) n2 (PTx.sv x.sigs))
 (o5 : Off T (.slice A1 n1 c1)) (o6 : Off T (.slice A2 n2 c2)) : AllIn (Win T w.heap.size w'.heap.size) w' base A4 (k + 1) c4 (l ++ [x]) := by
 have hl : vs.length = k * 5 := h1.1
 have ow : ∀ {v},Off T v -> Off (Win T w.heap.size w'.heap.size) v := fun ho g hg hw => ho g hg hw.1
 refine ⟨_,h4,fun g hg' hw => ?_,by rw [List.length_append,h2]; rfl,fun i y hy => ?_⟩
 ·rcases hg.2 with e | e
  ·exact ow ho g (e ▸ hg') hw
  ·have h8 := e g hg'
   have h9 := Foot.own_lt h4 hg'
   have h10 : g < w.heap.size \/ w'.heap.size <= g := hw.2
   omega
 ·rcases Nat.lt_or_ge i k with hik | hik
  ·rw [List.getElem?_append_left (by omega)] at hy
   obtain ⟨B1,m1,d1,B2,m2,d2,hv,⟨h7,p7⟩,h8,p8⟩ := h3 i y hy
   refine ⟨B1,m1,d1,B2,m2,d2,fun j hj => ?_,⟨PTx.own_other h7 h1 PTx.chg_ne hg.1,ow p7⟩,PTx.own_other h8 h1 PTx.str_ne hg.1,ow p8⟩
   rw [List.getElem?_append_left (by omega)]
   exact hv j hj
  ·obtain rfl : i = k := by
    have := (List.getElem?_eq_some_iff.1 hy).1
    rw [List.length_append,h2] at this
    simp at this
    omega
   rw [List.getElem?_append_right (by omega),h2,Nat.sub_self] at hy
   simp only [List.getElem?_cons_zero,Option.some.injEq] at hy
   subst hy
   refine ⟨A1,n1,c1,A2,n2,c2,fun j hj => ?_,⟨PTx.own_other h5 h1 PTx.chg_ne hg.1,ow o5⟩,PTx.own_other h6 h1 PTx.str_ne hg.1,ow o6⟩
   rw [List.getElem?_append_right (by omega),hl,Nat.add_sub_cancel_left]
theorem AllIn.txs (h : AllIn T w base A k c l) : Txs w w.heap.size A k c l := by
 obtain ⟨vs,h1,_,h2,h3⟩ := h
 obtain ⟨r1,r2,r3,r4⟩ := Row.of_own h1
 refine ⟨h2,r2,r3,fun i x hx => ?_⟩
 have hik : i < k := by have := (List.getElem?_eq_some_iff.1 hx).1; omega
 obtain ⟨b,off,e,hb,hc⟩ := r4 (by omega)
 obtain ⟨A1,n1,c1,A2,n2,c2,hv,⟨h4,_⟩,h5,_⟩ := h3 i x hx
 refine ⟨b,off,e,hb,A1,n1,c1,A2,n2,c2,?_,?_,?_,?_,?_,Row.of_own h4,Row.of_own h5⟩
 ·exact hc (i * 5 + 0) _ (by rw [hv 0 (by omega)]; rfl)
 ·exact hc (i * 5 + 1) _ (by rw [hv 1 (by omega)]; rfl)
 ·exact hc (i * 5 + 2) _ (by rw [hv 2 (by omega)]; rfl)
 ·exact hc (i * 5 + 3) _ (by rw [hv 3 (by omega)]; rfl)
 ·exact hc (i * 5 + 4) _ (by rw [hv 4 (by omega)]; rfl)
end
section
variable {T : Nat -> Prop} {w w' : World} {s p g gd n k M x : Nat} {l : List Tx} {sz : Int} {S : Sc} {d : Dk}
theorem SrcAt.beside (h : SrcAt T w s p g gd S d) (hz : w.heap.size <= w'.heap.size) (hk : ∀ i,i < w.heap.size -> T i -> w'.heap[i]? = w.heap[i]?) : SrcAt (Win T w.heap.size w'.heap.size) w' s p g gd S d := by
 obtain ⟨L,K,h⟩ := h
 refine ⟨L,K,Both.keep h.log (fun i hi => (h.inL i hi).2) hz fun i hi hl => hk i hi (h.inL i hl).1,h.set.keep hz fun i hi hK => hk i hi (h.inK i hK).1,?_,fun i hi => ⟨⟨(h.inL i hi).1,.inl (h.inL i hi).2⟩,Nat.lt_of_lt_of_le (h.inL i hi).2 hz⟩,fun i hi => ⟨⟨(h.inK i hi).1,.inl (h.inK i hi).2⟩,Nat.lt_of_lt_of_le (h.inK i hi).2 hz⟩,⟨h.inS,.inl h.box.lt⟩,h.apart,h.sK⟩
 exact (hk s h.box.lt h.inS).trans h.box
theorem Live.beside (h : Live T w s p g gd n l sz k M x S d) {v v' : Value} (hg : Grew w v.ownBlock w' v') (ho : Off T v) : Live (Win T w.heap.size w'.heap.size) w' s p g gd n l sz k M x S d :=
 ⟨h.at_.beside hg.1.size fun i hi hT => hg.1.block i hi fun e => ho i e.symm hT,h.sound,h.imgs,h.lot,h.cap,h.on⟩
end
end Src
namespace Src
open Go.RowKit Base
open Foot (Turn Out)
open DiskMath (Fl Dk)
open WalMath (Lg Sg Cap rowsOf)
open SrcMath (Sc Lot tt Anew Imgs)
open TxnMath (Tx Ch)
open Wal (New Win DiskT From)
open Disk (DiskAt I64)
open Field (modZ modZ_lt mod_any)
def sizes4 : List Int := [64,100,300,2000]
def sizeOf4 (n : Int) : Int := sizes4.getD (modZ n 4) 0
theorem size4_bd (n : Int) : 64 <= sizeOf4 n /\ sizeOf4 n <= 65536 := by
 unfold sizeOf4
 have := modZ_lt n (n := 4) (by omega)
 generalize modZ n 4 = k at this
 match k,this with
 | 0,_ => exact ⟨by decide,by decide⟩
 | 1,_ => exact ⟨by decide,by decide⟩
 | 2,_ => exact ⟨by decide,by decide⟩
 | 3,_ => exact ⟨by decide,by decide⟩
 | k + 4,h => omega
theorem size_any (n : Int) (w : World) : Calls Tryz.prog 9 #[.int .i64 n] w fun e w' => e = .returned (.int .i64 (sizeOf4 n)) /\ Below w.heap.size w w' := by
 have HM := hid (fun w => mod_any n 4 w (by omega) (by omega))
 have hk := modZ_lt n (n := 4) (by omega)
 have HR : Hid (Row (w.alloc (.cells (iv sizes4).toArray 3)) (w.heap.size + 1) 1 (some ⟨w.heap.size,0,none⟩) 4 4 (iv sizes4)) := Row.lit w #[.int .i64 64,.int .i64 100,.int .i64 300,.int .i64 2000] _ (0,0) rfl rfl (by omega)
 obtain ⟨b,off,e,_,hc⟩ := Row.num HR.out hk
 injection e with e
 injection e with e1 e2
 subst e1 e2
 rw [Nat.zero_add] at hc
 have hsz : sizes4.getD (modZ n 4) 0 = sizeOf4 n := rfl
 rw [hsz] at hc
 have hc2 : (w.alloc (.cells #[.int .i64 64,.int .i64 100,.int .i64 300,.int .i64 2000] 3)).cell? ⟨w.heap.size,modZ n 4,none⟩ = some (.int .i64 (sizeOf4 n)) := hc
 clear hc HR hsz
 generalize sizeOf4 n = z at *
 generalize modZ n 4 = k at *
 go_enter Tryz.func9,Tryz.ntmps9
 go_wp2_with fail
 refine (HM.out _).mono ?_
 rintro e w1 ⟨rfl,rfl⟩
 go_wp2
 go_ret
 exact ⟨rfl,(Below.refl _ _).alloc (Nat.le_refl _) _⟩
theorem arm_live (T : Nat -> Prop) (s p g gd n : Nat) (l : List Tx) (sz : Int) (k M x : Nat) (S : Sc) (d : Dk) (m : Nat) (w : World) (h : Live T w s p g gd n l sz k M x S d) (hT : New T w) (hm : m <= 1000000) :
 Calls Tryz.prog 11 #[.pointer (some ⟨gd,0,none⟩),.int .i64 m] w fun e w' => e = .returned (.tuple #[]) /\ Live T w' s p g gd n l sz k M x S (DiskMath.arm d m) /\ Turn T w w' := by
 obtain ⟨F,h1,h2,hk⟩ := h.at_.disks hT
 refine (Disk.arm_any F gd d m w h1).mono ?_
 rintro e w' ⟨he,hd,ht⟩
 obtain ⟨a,b⟩ := hk.out w' _ hd ht
 obtain ⟨f,hs⟩ := h.sound
 exact ⟨he,⟨a,⟨f,hs.rest rfl hs.up⟩,h.imgs,h.lot,⟨h.cap.1,by show (m : Int).toNat <= 1000000; omega,h.cap.2.2⟩,h.on⟩,b⟩
theorem crash_t (T : Nat -> Prop) (B gd : Nat) (d : Dk) (A : Option Addr) (n c : Nat) (ks : List Int) (k M : Nat) (w : World) (h : DiskT T w gd d) (hT : New T w) (hTB : ∀ i,T i -> B <= i) (hB : B <= w.heap.size) (hr : Row w B 1 A n c (iv ks)) (hk : ∀ k,I64 (ks.getD k 0)) (hc : Cap k M d) (hM : M <= 35184372088832) :
 Calls Tryz.prog 16 #[.pointer (some ⟨gd,0,none⟩),.slice A n c] w fun e w' => e = .returned (.tuple #[]) /\ DiskT T w' gd (DiskMath.crash d ks) /\ Turn T w w' := by
 obtain ⟨F,h1,h2⟩ := h
 refine (Disk.crash_any F gd d B A n c ks w h1 (fun i hi => (h2 i hi).2) hr hB (fun hn a e hf => ?_) hk (Wal.cap_size hc hM)).mono ?_
 ·obtain ⟨b,off,e2,hb,_⟩ := hr.2.2.2 hn
  rw [e] at e2
  injection e2 with e2
  subst e2
  have := hTB _ (h2 _ hf).1
  dsimp only at this
  omega
 ·rintro e w' ⟨he,hd,ht⟩
  refine ⟨he,⟨_,hd,fun i hi => ?_⟩,ht.mono fun i hi => (h2 i hi).1⟩
  rcases hi with hi | hi
  ·exact ⟨(h2 i hi).1,Nat.lt_of_lt_of_le (h2 i hi).2 ht.size⟩
  ·exact ⟨hT i hi.1,hi.2⟩
structure Again (w : World) (T : Nat -> Prop) (s p g gd : Nat) (ts : List Tx) (x k : Nat) (S : Sc) (d : Dk) : Prop where
 at_ : SrcAt T w s p g gd S d
 lok : LOk S.l
 T : S.T = tt 2 ts k
 low : WalMath.low S.l.segs = (x : Int)
 hd : WalMath.hd S.l.segs = (k : Int)
 rows : rowsOf S.l.segs = ((SrcMath.ents ts).take k).drop (x - 1)
theorem reopen (T : Nat -> Prop) (gd : Nat) (d : Dk) (K M : Nat) (ts : List Tx) (sz : Int) (x k : Nat) (w : World) (h : DiskT T w gd d) (hT : New T w) (hc : Cap K M d) (hK : K <= 1000000) (hM : M <= 35184372088832) (hl : Lot 2 ts) (hA : Anew 2 ts sz x k d) (hx : 1 <= x) (hx2 : x <= 1000) (hs0 : 64 <= sz) (hs1 : sz <= 65536) :
 Calls Tryz.prog 8 #[.pointer (some ⟨gd,0,none⟩),.int .i64 2,.int .i64 sz] w fun e w' => ∃ s p g S d',e = .returned (.tuple #[.pointer (some ⟨s,0,none⟩),.int .i64 0]) /\ Again w' T s p g gd ts x k S d' /\ Turn T w w' := by
 obtain ⟨g,d',f,ho,hch,hr,hlow,hhd,hin,hsz,hleft,hoff,hf,hfn⟩ := hA
 have hlk := Anew.lok hl hch hr hlow hin hsz hs0 hs1 hf hfn hx hx2
 refine (open_any T gd d K M 2 sz w h hT hc hK hM fun l hl' => ?_).mono ?_
 ·have := open_inner ho
  rw [this] at hl'
  injection hl' with hl'
  subst hl'
  exact ⟨hlk.1,Nat.le_trans hlk.2 (by omega)⟩
 ·intro e w' hr'
  have ho2 : SrcMath.open_ d 2 sz = _ := ho
  rw [ho2] at hr'
  obtain ⟨s,p,g',he,hsr,htu⟩ := hr'
  exact ⟨s,p,g',_,_,he,⟨hsr,hlk.1,rfl,hlow,hhd,hr⟩,htu⟩
def Remain (ts : List Tx) (sz : Int) (k0 : Nat) (tr : Int) (d : Dk) : Prop := ∀ ks,∃ k x : Nat,k0 <= k /\ k <= k0 + 1 /\ k <= ts.length /\ 1 <= x /\ (x : Int) <= tr + 1 /\ Anew 2 ts sz x k (DiskMath.crash d ks)
theorem Remain.half {ts : List Tx} {sz : Int} {k0 x : Nat} {tr : Int} {d : Dk} (h : SrcMath.Half 2 ts sz k0 x d) (hx : 1 <= x) (ht : (x : Int) <= tr + 1) : Remain ts sz k0 tr d := fun ks => by
 obtain ⟨k,h1,h2,h3,h4⟩ := h ks
 exact ⟨k,x,h1,h2,h3,hx,ht,h4⟩
theorem Remain.ends {ts : List Tx} {sz : Int} {x : Nat} {tr : Int} {d : Dk} (h : SrcMath.Ends 2 ts sz ts.length x d) (hx : 1 <= x) (ht : (x : Int) <= tr + 1) : Remain ts sz ts.length tr d := fun ks => ⟨ts.length,x,Nat.le_refl _,by omega,Nat.le_refl _,hx,ht,h ks⟩
theorem Live.x1 {T : Nat -> Prop} {w : World} {s p g gd n k M x : Nat} {l : List Tx} {sz : Int} {S : Sc} {d : Dk} (h : Live T w s p g gd n l sz k M x S d) : 1 <= x /\ x <= l.length + 1 := by
 obtain ⟨f,hs⟩ := h.sound
 exact hs.lo
theorem Live.left {T : Nat -> Prop} {w : World} {s p g gd k M x : Nat} {l : List Tx} {sz : Int} {S : Sc} {d : Dk} (h : Live T w s p g gd 2 l sz k M x S d) (hs0 : 64 <= sz) (hs1 : sz <= 65536) {tr : Int} (ht : (x : Int) <= tr + 1) : Remain l sz l.length tr d := by
 obtain ⟨f,hs⟩ := h.sound
 exact Remain.ends (hs.ends (by omega) (by omega) h.lot.fine (h.lot.mayI (by omega) (by omega)) (by have := h.lot.len; omega) hs0 hs1 h.imgs) h.x1.1 ht
theorem Live.caps {T : Nat -> Prop} {w : World} {s p g gd n k M k' M' x : Nat} {l : List Tx} {sz : Int} {S : Sc} {d : Dk} (h : Live T w s p g gd n l sz k M x S d) (hk : k <= k') (hM : M <= M') : Live T w s p g gd n l sz k' M' x S d := ⟨h.at_,h.sound,h.imgs,h.lot,h.cap.mono hk hM,h.on⟩
theorem Lot.snoc {n : Nat} {l : List Tx} {cs : List Ch} (h : Lot n l) (hn8 : n <= 8) (hll : l.length <= 39) (hcs : ∀ c ∈ cs,c.may (n : Int) = true) (hcl : cs.length <= 8) {q : Int} (hq : q = (l.length : Int) + 1) : Lot n (l ++ [⟨q,1,cs,[],0⟩]) := by
 subst hq
 have hch : ∀ c ∈ cs,0 <= c.tbl /\ c.tbl < (n : Int) /\ c.may 8 = true := fun c hc => by
  have h3 := hcs c hc
  unfold TxnMath.Ch.may at h3 ⊢
  simp only [Bool.and_eq_true,decide_eq_true_eq] at h3 ⊢
  obtain ⟨a1,a2,a3,a4,a5⟩ := h3
  exact ⟨a1,a2,a1,by omega,a3,a4,a5⟩
 have hmay : Tx.may ⟨(l.length : Int) + 1,1,cs,[],0⟩ = true := by
  unfold TxnMath.Tx.may TxnMath.mayLsn TxnMath.mayChs TxnMath.maySigs
  rw [decide_eq_true (show (1 : Int) <= (l.length : Int) + 1 by omega),decide_eq_true (show (l.length : Int) + 1 <= 1099511627776 by omega),if_pos rfl,decide_eq_true (show cs.length <= 16 by omega),List.all_eq_true.2 fun c hc => (hch c hc).2.2]
  rfl
 refine ⟨h.fine.snoc rfl hmay fun c hc => ⟨(hch c hc).1,(hch c hc).2.1⟩,fun y hy => ?_,by rw [List.length_append]; simp; omega⟩
 rcases List.mem_append.1 hy with hy | hy
 ·exact h.few y hy
 ·rw [List.mem_singleton] at hy
  subst hy
  exact hcl
theorem Again.entry {w : World} {T : Nat -> Prop} {s p g gd : Nat} {ts : List Tx} {x k : Nat} {S : Sc} {d : Dk} (h : Again w T s p g gd ts x k S d) (hx : 1 <= x) {q : Nat} (h1 : x <= q) (h2 : q <= k) (hk : k <= ts.length) {t : Tx} (ht : ts[q - 1]? = some t) : Wal.entry S.l.segs (q : Int) = some (SrcMath.ent t) := by
 have hl : (rowsOf S.l.segs).length = k - (x - 1) := by rw [h.rows,SrcMath.ents_len hk]
 have h3 := entry_get h.lok (i := q - x) (by rw [hl]; omega)
 rw [h.low,show (x : Int) + ((q - x : Nat) : Int) = (q : Int) by omega,h.rows,List.getElem?_drop,List.getElem?_take_of_lt (by omega),show x - 1 + (q - x) = q - 1 by omega] at h3
 rw [h3,SrcMath.ents,List.getElem?_map,ht]
 rfl
end Src
namespace Fold
open Go.RowKit Base FoldMath Foot
open TxnMath (Ch Tx)
open PChg (gval Cs)
open PTx
theorem chs_le (l : List Tx) {i n : Nat} (h : i <= n) : (chs l i).length <= (chs l n).length := by
 unfold chs
 have e : l.take n = l.take i ++ (l.take n).drop i := by
  rw [show l.take i = (l.take n).take i by rw [List.take_take,Nat.min_eq_left h],List.take_append_drop]
 rw [e,List.flatMap_append,List.length_append]
 omega
theorem chs_room {l : List Tx} {i n m : Nat} {x : Tx} (hx : l[i]? = some x) (h : i < n) (hm : m < x.chs.length) : (chs l i ++ x.chs.take m).length < (chs l n).length := by
 have h1 := chs_le l (show i + 1 <= n from h)
 rw [chs_succ hx,List.length_append] at h1
 rw [List.length_append,List.length_take]
 omega
end Fold
namespace Fold
open Go.RowKit Base IdxMath FoldMath Foot Idx
open TxnMath (Ch)
open Lsts (Lsts)
open Last (wp_region_last_at then_normal)
def rowsL (n : Nat) (cs : List Ch) : List (List Rw) := (List.range n).map fun (i : Nat) => rows (i : Int) cs
theorem rowsL_get {n i : Nat} (hi : i < n) (cs : List Ch) : (rowsL n cs)[i]? = some (rows (i : Int) cs) := by
 unfold rowsL
 rw [List.getElem?_map,List.getElem?_range hi]
 rfl
theorem rowsL_length (n : Nat) (cs : List Ch) : (rowsL n cs).length = n := by simp [rowsL]
end Fold
namespace Fold
open Go.RowKit Base IdxMath FoldMath Foot
open TxnMath (Ch Tx)
open PChg (gval Cs)
open PTx
open Lsts (Lsts)
open Idx (Rs Rz)
def FoldR (w : World) (T : List (List Rw)) (e : Ending) (w' : World) : Prop := ∃ A n c,e = .returned (.slice A n c) /\ Lsts Rz w' w'.heap.size A n c T /\ Below w.heap.size w w'
theorem foldR_none (w : World) : FoldR w [] (.returned (.slice none 0 0)) w := ⟨none,0,0,rfl,Lsts.nil_ _ _,Below.refl _ _⟩
theorem foldT_not {N : Int} {l : List Tx} {k : Int} (h : ¬ (1 <= N /\ N <= 8)) : foldT N l k = [] := if_neg h
theorem foldT_rows {m : Nat} {l : List Tx} {k : Int} (h1 : 1 <= m) (h8 : m <= 8) : foldT (m : Int) l k = rowsL m (chs l (held k l.length)) := by
 unfold foldT
 rw [if_pos (by omega)]
 rfl
end Fold
namespace Fold
open Go.RowKit Base FoldMath Foot
open TxnMath (Ch Tx)
open PChg (gval Cs)
open PTx
theorem refheld_any (k : Int) (n : Nat) (w : World) : Calls Tryz.prog 55 #[.int .i64 k,.int .i64 n] w fun e w' => e = .returned (.int .i64 (held k n)) /\ w = w' := by
 go_enter Tryz.func55,Tryz.ntmps55
 go_wp2
 all_goals (
  go_ret
  refine ⟨ret_int ?_,rfl⟩
  unfold FoldMath.held
  first | omega | (simp_all; done) | (simp_all; omega))
end Fold
namespace Tbl
open Go.RowKit Base IdxMath Foot Idx
def RefMade (w : World) (n : Int) (e : Ending) (w' : World) : Prop :=
 if 1 <= n /\ n <= 8 then ∃ p,e = .returned (.pointer (some ⟨p,0,none⟩)) /\ Below w.heap.size w w'
 else e = .returned (.pointer none) /\ w' = w
theorem er2 : Elem Tryz.prog 48 53 1 24 (.slice none 0 0) := .of (by rfl) (by rfl) rfl (by omega)
theorem refnewset_any (n : Int) (w : World) : Calls Tryz.prog 54 #[.int .i64 n] w (RefMade w n) := by
 rcases Int.lt_or_le n 1 with h1 | h1
 ·go_enter Tryz.func54,Tryz.ntmps54
  go_wp2
  go_ret
  unfold RefMade
  rw [if_neg (by omega)]
  exact ⟨rfl,rfl⟩
 rcases Int.lt_or_le 8 n with h8 | h8
 ·go_enter Tryz.func54,Tryz.ntmps54
  go_wp2
  go_ret
  unfold RefMade
  rw [if_neg (by omega)]
  exact ⟨rfl,rfl⟩
 obtain ⟨m,rfl⟩ := Int.eq_ofNat_of_zero_le (show 0 <= n by omega)
 have HM1 : 1 <= m := by omega
 have HM8 : m <= 8 := by omega
 go_enter Tryz.func54,Tryz.ntmps54
 go_wp2_with (first
  | (refine wpList_make_elem _ rfl (.tmp 9) (.tmp 9) rfl er2 w.heap.size .i64 .i64 _ _ m rfl rfl rfl rfl (by omega) (by omega) (Nat.le_refl _) ?_
     intro w1 ho1 hb1
     have HB1 := hid hb1
     clear ho1 hb1))
 go_ret
 unfold RefMade
 rw [if_pos (by omega)]
 exact ⟨_,rfl,HB1.out.alloc HB1.out.size _⟩
end Tbl
namespace Idx
open Go.RowKit Base IdxMath Foot
open Go.Sort (grow)
def DelR (w : World) (A : Option Addr) (n c : Nat) (l : List Rw) (k : Int) (e : Ending) (w' : World) : Prop :=
 (there l k = true /\ ∃ A' c',e = .returned (.tuple #[.slice A' (del l k).length c',.bool true]) /\ w'.ownsRow w.heap.size 52 2 (.slice A' (del l k).length c') (del l k).length (rv (del l k)) /\ Below w.heap.size w w') \/
 (there l k = false /\ e = .returned (.tuple #[.slice A n c,.bool false]) /\ w = w')
theorem found_pos {l : List Rw} (h : Rise l) {k : Int} {i : Nat} {x : Rw} (hx : l[i]? = some x) (hk : x.key = k) : pos l k = i /\ there l k = true := by
 have hp : i < l.length := (List.getElem?_eq_some_iff.1 hx).1
 have e : pos l k = i := pos_of (by omega) (fun q y hq hy => by have := h.get hq hy hx; omega) (fun q y hq hy => by
  rcases Nat.lt_or_ge i q with h1 | h1
  ·have := h.get h1 hx hy; omega
  ·obtain rfl : i = q := by omega
   rw [hx] at hy
   injection hy with hy
   rw [<- hy]; omega)
 exact ⟨e,there_yes (by rw [e]; exact hx) hk⟩
theorem refdel_any (B : Nat) (A : Option Addr) (n c : Nat) (l : List Rw) (k : Int) (w : World) (h : Rs w B A n c l) (hB : B <= w.heap.size) (hrise : Rise l) (hsz : n <= 1099511627774) :
 Calls Tryz.prog 125 #[.slice A n c,.int .i64 k] w (DelR w A n c l k) := by
 have hle := h.le
 have HR := hid h
 have HL := hid h.len
 have HRI := hid hrise
 clear h hrise
 go_enter Tryz.func125,Tryz.ntmps125
 go_wp2
 go_loop [6] (fun vi => ∃ i : Nat,vi = .int .i64 i /\ i <= n /\ ∀ y ∈ l.take i,y.key ≠ k) (fun vi => n - (RowKit.intOf vi).toNat)
 case atStart => exact ⟨0,rfl,Nat.zero_le _,fun y hy => by simp at hy⟩
 case round =>
  obtain ⟨i,rfl,hi,hne⟩ := hrel
  have HNE := hid hne
  clear hne
  by_cases hin : i < n
  ·obtain ⟨b,off,x,rfl,hbB,c0,c1,hx,ht⟩ := HR.out.at_ hin
   have HX := hid (And.intro hx ht)
   have l1 : (i : Int) < (n : Int) := by omega
   clear hx ht
   by_cases hxk : x.key = k
   ·have hfp := found_pos HRI.out HX.out.1 hxk
    have HT := hid hfp.2
    have HDL : Hid (l.take i ++ l.drop (i + 1) = del l k) := by show _ = _; rw [del,if_pos hfp.2,hfp.1,List.eraseIdx_eq_take_drop_succ]
    have HLN : Hid (i + (n - (i + 1)) = (del l k).length) := by show _ = _; rw [<- HDL.out,List.length_append,List.length_take,List.length_drop,HL.out]; omega
    have hb : (x.key == k) = true := by simpa using hxk
    have HF : Hid (Rs w B (some ⟨b,off,none⟩) i c (l.take i)) := HR.out.front (by omega)
    have HC1 := hid (HR.out.cut (k := i + 1) (by omega))
    have l2 : i <= c := by omega
    have l3 : (i : Int) + 1 <= (n : Int) := by omega
    have l4 : (0 : Int) <= (i : Int) + 1 := by omega
    have l5 : ((i : Int) + 1).toNat = i + 1 := by omega
    have l6 : IntKind.i64.wrap ((i : Int) + 1) = (i : Int) + 1 := by rw [IntKind.wrap_i64]; omega
    have l7 : (i : Int) <= (c : Int) := by omega
    have l8 : (i : Int) <= (i : Int) + 1 := by omega
    clear hxk hfp
    obtain ⟨W,hW⟩ : ∃ W,W = w := ⟨_,rfl⟩
    by_cases hci : c = i + 1
    ·have hn1 : n = i + 1 := by omega
     subst hci
     subst hn1
     have HD : Hid (Rs w B (some ⟨b,off,none⟩) 0 0 (l.drop (i + 1))) := by show Rs _ _ _ _ _ _; rw [<- HL.out,List.drop_length]; exact Row.none_ _ _ _ _ (by omega)
     rw [Nat.sub_self] at HLN
     go_wp2_with fail
     go_region_law (first
      | (refine step_append_row (by rfl) (.tmp 20) (.tmp 23) (by rfl) er w.heap.size (.slice (some ⟨w.heap.size,0,none⟩) 0 0) 0 [] (by rfl) (own_empty w.drew w.heap.size _ 2 rfl (Nat.le_refl _)) B _ i _ (rv (l.take i)) (by rfl) (Row.alloc (Row.drew HF.out) hB _) (rv_one _) (by omega) (by omega) (by simp) ?_
         intro A1 c1 w1 hown1 _ hb1
         rw [Nat.zero_add,List.nil_append] at hown1
         rw [Nat.zero_add]
         have HY1 := hid hown1
         have HB1 := hid ((((Below.refl w.heap.size w).drew).alloc (Nat.le_refl _) _).trans hb1)
         clear hown1 hb1)
      | (refine step_append_row (by rfl) (.tmp 24) (.tmp 28) (by rfl) er w.heap.size (.slice A1 i c1) i (rv (l.take i)) (by rfl) HY1.out B _ 0 _ (rv (l.drop (i + 1))) (by rfl) (Row.below HD.out (HB1.out.mono hB)) (rv_one _) (by omega) (by omega) HB1.out.size ?_
         intro A3 c3 w3 hown3 _ hb3
         rw [<- rv_append,HDL.out,HLN.out] at hown3
         rw [HLN.out]
         have HY3 := hid hown3
         have HB3 := hid (HB1.out.trans hb3)
         clear hown3 hb3))
     go_wp2
     go_ret2
     exact .inl ⟨HT.out,A3,c3,rfl,HY3.out,HB3.out⟩
    ·have HD : Hid (Rs w B (some ⟨b,off + (i + 1) * 2,none⟩) (n - (i + 1)) (c - (i + 1)) (l.drop (i + 1))) := by have := HC1.out; rw [if_neg hci,Option.map_some,add_none] at this; exact this
     go_wp2_with fail
     go_region_law (first
      | (refine step_append_row (by rfl) (.tmp 20) (.tmp 23) (by rfl) er w.heap.size (.slice (some ⟨w.heap.size,0,none⟩) 0 0) 0 [] (by rfl) (own_empty w.drew w.heap.size _ 2 rfl (Nat.le_refl _)) B _ i _ (rv (l.take i)) (by rfl) (Row.alloc (Row.drew HF.out) hB _) (rv_one _) (by omega) (by omega) (by simp) ?_
         intro A1 c1 w1 hown1 _ hb1
         rw [Nat.zero_add,List.nil_append] at hown1
         rw [Nat.zero_add]
         have HY1 := hid hown1
         have HB1 := hid ((((Below.refl w.heap.size w).drew).alloc (Nat.le_refl _) _).trans hb1)
         clear hown1 hb1)
      | (refine step_append_row (by rfl) (.tmp 24) (.tmp 28) (by rfl) er w.heap.size (.slice A1 i c1) i (rv (l.take i)) (by rfl) HY1.out B _ (n - (i + 1)) _ (rv (l.drop (i + 1))) (by rfl) (Row.below HD.out (HB1.out.mono hB)) (rv_one _) (by omega) (by omega) HB1.out.size ?_
         intro A3 c3 w3 hown3 _ hb3
         rw [<- rv_append,HDL.out,HLN.out] at hown3
         rw [HLN.out]
         have HY3 := hid hown3
         have HB3 := hid (HB1.out.trans hb3)
         clear hown3 hb3))
     go_wp2
     go_ret2
     exact .inl ⟨HT.out,A3,c3,rfl,HY3.out,HB3.out⟩
   ·have HNX := hid (take_ne HNE.out HX.out.2 hxk)
    have hb : (x.key == k) = false := by rw [beq_eq_false_iff_ne]; exact hxk
    clear hxk
    go_wp2
    go_round
    case rel => exact ⟨i + 1,by go_num,hin,HNX.out⟩
    case measure => simp [RowKit.intOf]; omega
  ·have HT : Hid (there l k = false) := by
    show _ = _
    rw [Bool.eq_false_iff]
    intro ht
    obtain ⟨x,hx,hxk⟩ := pos_split l k ht
    refine HNE.out x ?_ hxk
    rw [show i = l.length by have := HL.out; omega,List.take_length]
    exact List.mem_of_getElem? hx
   go_wp2
   go_ret2
   exact .inr ⟨HT.out,rfl,rfl⟩
end Idx
namespace Tbl
open Go.RowKit Base IdxMath Foot Idx
structure RLie (w : World) (R : Nat -> Prop) (p b : Nat) (cs : Array Value) (T : List (List Rw)) : Prop where
 box : Blk w p 117 #[.slice (some ⟨b,0,none⟩) T.length T.length]
 row : Blk w b 53 cs
 len : cs.size = T.length
 most : T.length <= 8
 some_ : 1 <= T.length
 inp : R p
 inb : R b
 rise : ∀ l ∈ T,Rise l
 each : ∀ (i : Nat) (v : Value) (l : List Rw),cs[i]? = some v -> T[i]? = some l -> ∃ A n c,v = .slice A n c /\ w.ownsRow 0 52 2 (.slice A n c) n (rv l) /\ ∀ g,(Value.slice A n c).ownBlock = some g -> R g
def RAt (w : World) (R : Nat -> Prop) (p : Nat) (T : List (List Rw)) : Prop := ∃ b cs,RLie w R p b cs T
section
variable {w w' w2 : World} {R R' : Nat -> Prop} {p b : Nat} {cs : Array Value} {T : List (List Rw)}
theorem RLie.keep (h : RLie w R p b cs T) (hk : ∀ i,i < w.heap.size -> R i -> w'.heap[i]? = w.heap[i]?) : RLie w' R p b cs T where
 box := (hk p h.box.lt h.inp).trans h.box
 row := (hk b h.row.lt h.inb).trans h.row
 len := h.len
 most := h.most
 some_ := h.some_
 inp := h.inp
 inb := h.inb
 rise := h.rise
 each := fun i v l h1 h2 => by
  obtain ⟨A,n,c,e,ho,hg⟩ := h.each i v l h1 h2
  exact ⟨A,n,c,e,own_same ho fun g hx => hk g (own_lt ho hx) (hg g hx),hg⟩
theorem RLie.mono (h : RLie w R p b cs T) (hR : ∀ i,i < w.heap.size -> R i -> R' i) : RLie w R' p b cs T where
 box := h.box
 row := h.row
 len := h.len
 most := h.most
 some_ := h.some_
 inp := hR _ h.box.lt h.inp
 inb := hR _ h.row.lt h.inb
 rise := h.rise
 each := fun i v l h1 h2 => by
  obtain ⟨A,n,c,e,ho,hg⟩ := h.each i v l h1 h2
  exact ⟨A,n,c,e,ho,fun g hx => hR g (own_lt ho hx) (hg g hx)⟩
theorem RLie.get (h : RLie w R p b cs T) {i : Nat} (hi : i < T.length) : ∃ A n c l,T[i]? = some l /\ w.cell? ⟨b,i,none⟩ = some (.slice A n c) /\ w.ownsRow 0 52 2 (.slice A n c) n (rv l) /\ Rise l /\ (∀ g,(Value.slice A n c).ownBlock = some g -> R g) := by
 have h1 : i < cs.size := by rw [h.len]; exact hi
 obtain ⟨A,n,c,e,ho,hg⟩ := h.each i _ _ (Array.getElem?_eq_getElem h1) (List.getElem?_eq_getElem hi)
 refine ⟨A,n,c,T[i],List.getElem?_eq_getElem hi,?_,ho,h.rise _ (List.getElem_mem hi),hg⟩
 rw [h.row.cell i,Array.getElem?_eq_getElem h1,e]
theorem RAt.keep (h : RAt w R p T) (hk : ∀ i,i < w.heap.size -> R i -> w'.heap[i]? = w.heap[i]?) : RAt w' R p T := by
 obtain ⟨b,cs,h⟩ := h
 exact ⟨b,cs,h.keep hk⟩
theorem RAt.mono (h : RAt w R p T) (hR : ∀ i,i < w.heap.size -> R i -> R' i) : RAt w R' p T := by
 obtain ⟨b,cs,h⟩ := h
 exact ⟨b,cs,h.mono hR⟩
theorem RAt.new (h : RAt w R p T) (hb : Below w.heap.size w w') : RAt w' R p T := h.keep fun i hi _ => hb.block i hi
theorem RLie.lay (h : RLie w R p b cs T) {i : Nat} (hi : i < T.length) (hb : Below w.heap.size w w2) {A : Option Addr} {n c : Nat} {l : List Rw} (ho : w2.ownsRow 0 52 2 (.slice A n c) n (rv l)) (hg : ∀ g,(Value.slice A n c).ownBlock = some g -> Out R w w2 g) (hr : Rise l) :
 RLie (w2.setCell ⟨b,i,none⟩ (.slice A n c)) (Out R w w2) p b (cs.setIfInBounds i (.slice A n c)) (T.set i l) := by
 have hfar : ∀ g,g ≠ b -> (w2.setCell ⟨b,i,none⟩ (.slice A n c)).heap[g]? = w2.heap[g]? := fun g hg => Below.heap_setCell w2 _ _ g hg
 have h2 : RLie w2 R p b cs T := h.keep fun i hi _ => hb.block i hi
 have own : ∀ {A : Option Addr} {n c : Nat} {l : List Rw},w2.ownsRow 0 52 2 (.slice A n c) n (rv l) -> ∀ u,(w2.setCell ⟨b,i,none⟩ u).ownsRow 0 52 2 (.slice A n c) n (rv l) := fun ho u => own_same ho fun g hx => by
  refine Below.heap_setCell w2 _ _ g fun e => ?_
  obtain ⟨cur,hc⟩ := own_type ho hx
  rw [e] at hc
  have h3 := h2.row
  unfold Blk at h3
  rw [h3] at hc
  simp at hc
 have hpb : p ≠ b := fun e => by
  have h3 := h2.row
  have h4 := h2.box
  unfold Blk at h3 h4
  rw [e,h3] at h4
  simp at h4
 refine ⟨?_,?_,by simp [h.len],by rw [List.length_set]; exact h.most,by rw [List.length_set]; exact h.some_,.inl h.inp,.inl h.inb,?_,?_⟩
 ·rw [List.length_set]
  exact (hfar p hpb).trans h2.box
 ·exact h2.row.set_ i _
 ·intro x hx
  rcases List.mem_or_eq_of_mem_set hx with hx | rfl
  ·exact h.rise x hx
  ·exact hr
 ·intro j v x h3 h4
  by_cases hj : j = i
  ·subst hj
   rw [List.getElem?_set_self hi] at h4
   rw [Array.getElem?_setIfInBounds_self_of_lt (by rw [h.len]; exact hi)] at h3
   injection h3 with h3
   injection h4 with h4
   subst h3 h4
   exact ⟨A,n,c,rfl,own ho _,hg⟩
  ·rw [List.getElem?_set_ne (Ne.symm hj)] at h4
   rw [Array.getElem?_setIfInBounds_ne (Ne.symm hj)] at h3
   obtain ⟨A',n',c',e,ho',hg'⟩ := h2.each j v x h3 h4
   exact ⟨A',n',c',e,own ho' _,fun g hx => .inl (hg' g hx)⟩
end
def RNew (w : World) (n : Nat) (e : Ending) (w' : World) : Prop := ∃ p,e = .returned (.pointer (some ⟨p,0,none⟩)) /\ RAt w' (fun i => w.heap.size <= i /\ i < w'.heap.size) p (List.replicate n []) /\ Below w.heap.size w w'
theorem RAt.begun {w w1 : World} {n : Nat} (ho : w1.ownsRow w.heap.size 53 1 (.slice (some ⟨w.heap.size,0,none⟩) n n) n (List.replicate n (.slice none 0 0))) (hb : Below w.heap.size w w1) (hn : 1 <= n) (h8 : n <= 8) :
 RAt (w1.alloc (.cells #[.slice (some ⟨w.heap.size,0,none⟩) n n] 117)) (fun i => w.heap.size <= i /\ i < w1.heap.size + 1) w1.heap.size (List.replicate n []) := by
 rcases ho.2 with ⟨hv,h0⟩ | ⟨b,cap,cur,hv,hbase,hg,h1,h2,h3,h4⟩
 ·omega
 ·simp only [Value.slice.injEq,Option.some.injEq,Addr.mk.injEq] at hv
  obtain ⟨⟨rfl,_⟩,_,rfl⟩ := hv
  rw [List.take_of_length_le (by rw [Array.length_toList,h3]; exact Nat.le_refl _)] at h4
  have hlt : w.heap.size < w1.heap.size := Blk.lt (w := w1) hg
  refine ⟨w.heap.size,cur,?_,Blk.alloc hg _,by rw [h3]; simp,by simpa using h8,by simpa using hn,⟨by omega,by omega⟩,⟨by omega,by omega⟩,?_,?_⟩
  ·rw [List.length_replicate]
   exact Blk.new _ _ _
  ·intro l hl
   rw [List.eq_of_mem_replicate hl]
   exact Rise.nil
  ·intro i v l h5 h6
   have hi : i < n := by
    have := (List.getElem?_eq_some_iff.1 h6).1
    simpa using this
   rw [<- Array.getElem?_toList,h4,List.getElem?_replicate,if_pos hi] at h5
   rw [List.getElem?_replicate,if_pos hi] at h6
   injection h5 with h5
   injection h6 with h6
   subst h5 h6
   exact ⟨none,0,0,rfl,World.ownsRow_nil _ _ _ _,fun g hx => by cases hx⟩
theorem refnew2_any (m : Nat) (HM1 : 1 <= m) (HM8 : m <= 8) (w : World) : Calls Tryz.prog 54 #[.int .i64 m] w (RNew w m) := by
 go_enter Tryz.func54,Tryz.ntmps54
 go_wp2_with (first
  | (refine wpList_make_elem _ rfl (.tmp 9) (.tmp 9) rfl er2 w.heap.size .i64 .i64 _ _ m rfl rfl rfl rfl (by omega) (by omega) (Nat.le_refl _) ?_
     intro w1 ho1 hb1
     replace ho1 : w1.ownsRow w.heap.size 53 1 (.slice (some ⟨w.heap.size,0,none⟩) m m) m (madeCells #[.slice none 0 0] (m * 1)).toList := ho1
     rw [Nat.mul_one,toList_madeCells_one] at ho1
     have HP := hid (RAt.begun ho1 hb1 HM1 HM8)
     have HB1 := hid hb1
     clear ho1 hb1))
 go_ret
 exact ⟨_,rfl,by simpa using HP.out,HB1.out.alloc HB1.out.size _⟩
theorem refis_any (R : Nat -> Prop) (p : Nat) (T : List (List Rw)) (t : Int) (w : World) (h : RAt w R p T) :
 Calls Tryz.prog 56 #[.pointer (some ⟨p,0,none⟩),.int .i64 t] w fun e w' => e = .returned (.bool (isT T t)) /\ w = w' := by
 obtain ⟨b,cs,h⟩ := h
 have c0 : w.cell? ⟨p,0,none⟩ = some (.slice (some ⟨b,0,none⟩) T.length T.length) := h.box.cell 0
 clear h
 rcases Int.lt_or_le t 0 with h1 | h1
 ·go_enter Tryz.func56,Tryz.ntmps56
  go_wp2
  go_ret
  exact ⟨by rw [show isT T t = false from decide_eq_false (by omega)]; rfl,rfl⟩
 ·by_cases h2 : t < (T.length : Int)
  ·go_enter Tryz.func56,Tryz.ntmps56
   go_wp2
   go_ret
   exact ⟨by rw [show isT T t = true from decide_eq_true (by omega)]; rfl,rfl⟩
  ·go_enter Tryz.func56,Tryz.ntmps56
   go_wp2
   go_ret
   exact ⟨by rw [show isT T t = false from decide_eq_false (by omega)]; rfl,rfl⟩
end Tbl
end Go.Proofs.YtefnmnpfecfdaaaGreat
