/-
  Texts of one proof: SrcAll, FoldWalk, FoldCol, FoldToTab.
-/
import Derived.Test.YtefnmnpfecfdaaaGreatPf43
set_option linter.all false
set_option maxRecDepth 100000
set_option maxHeartbeats 6400000
open Go.Lib (hid)
namespace Go.Proofs.YtefnmnpfecfdaaaGreat
namespace Src
open Go.RowKit Base
open Foot (Turn Out)
open DiskMath (Fl Dk)
open SrcMath (Sc Lot tt mayS)
open TxnMath (Tx Ch)
open IdxMath (Rw)
open Wal (New Win DiskT From)
open Txn (Chs Sigs)
open PTx (Txs tcells)
def Off (T : Nat -> Prop) (v : Value) : Prop := ∀ g,v.ownBlock = some g -> ¬ T g
section
variable {T T' : Nat -> Prop} {w w' : World} {base n sz : Nat} {e : TypeId} {v : Value} {xs : List Value}
theorem own_turn (h : w.ownsRow base e sz v n xs) (ho : Off T v) (ht : Turn T w w') : w'.ownsRow base e sz v n xs := Foot.own_same h fun g hg => ht.block g (Foot.own_lt h hg) (ho g hg)
theorem off_mono (h : w.ownsRow base e sz v n xs) (ho : Off T v) (hT : ∀ i,i < w.heap.size -> T' i -> T i) : Off T' v := fun g hg ht => ho g hg (hT g (Foot.own_lt h hg) ht)
theorem off_lies {A : Option Addr} {c : Nat} (ho : Off T (.slice A n c)) : Lies (fun i => ¬ T i) A n := fun _ b off ea => by
 subst ea
 exact ho b (by rfl)
theorem off_win (h : w'.ownsRow w.heap.size e sz v n xs) : Off (Win T w.heap.size w'.heap.size) v := fun g hg hw => by
 have h1 := h.lt g hg
 have h2 : g < w.heap.size \/ w'.heap.size <= g := hw.2
 omega
end
def InAll (T : Nat -> Prop) (w : World) (base : Nat) (vs : List Value) (i : Nat) (x : Tx) : Prop := ∃ A n c A' n' c',(∀ j,j < 5 -> vs[i * 5 + j]? = (tcells x.lsn x.kind x.mark A n c A' n' c')[j]?) /\
 (w.ownsRow base 64 4 (.slice A n c) n (PChg.gv x.chs) /\ Off T (.slice A n c)) /\ w.ownsRow base 9 1 (.slice A' n' c') n' (PTx.sv x.sigs) /\ Off T (.slice A' n' c')
def AllIn (T : Nat -> Prop) (w : World) (base : Nat) (A : Option Addr) (k c : Nat) (l : List Tx) : Prop := ∃ vs,w.ownsRow base 39 5 (.slice A k c) k vs /\ Off T (.slice A k c) /\ l.length = k /\ ∀ i x,l[i]? = some x -> InAll T w base vs i x
section
variable {T T' : Nat -> Prop} {w w' : World} {base k c : Nat} {A : Option Addr} {l : List Tx}
theorem AllIn.turn (h : AllIn T w base A k c l) (ht : Turn T w w') : AllIn T w' base A k c l := by
 obtain ⟨vs,h1,h2,h3,h4⟩ := h
 refine ⟨vs,own_turn h1 h2 ht,h2,h3,fun i x hx => ?_⟩
 obtain ⟨A1,n1,c1,A2,n2,c2,hv,⟨h5,h6⟩,h7,h8⟩ := h4 i x hx
 exact ⟨A1,n1,c1,A2,n2,c2,hv,⟨own_turn h5 h6 ht,h6⟩,own_turn h7 h8 ht,h8⟩
theorem InAll.turn {vs : List Value} {i : Nat} {x : Tx} (h : InAll T w base vs i x) (ht : Turn T w w') : InAll T w' base vs i x := by
 obtain ⟨A1,n1,c1,A2,n2,c2,hv,⟨h5,h6⟩,h7,h8⟩ := h
 exact ⟨A1,n1,c1,A2,n2,c2,hv,⟨own_turn h5 h6 ht,h6⟩,own_turn h7 h8 ht,h8⟩
theorem AllIn.mono (h : AllIn T w base A k c l) (hT : ∀ i,i < w.heap.size -> T' i -> T i) : AllIn T' w base A k c l := by
 obtain ⟨vs,h1,h2,h3,h4⟩ := h
 refine ⟨vs,h1,off_mono h1 h2 hT,h3,fun i x hx => ?_⟩
 obtain ⟨A1,n1,c1,A2,n2,c2,hv,⟨h5,h6⟩,h7,h8⟩ := h4 i x hx
 exact ⟨A1,n1,c1,A2,n2,c2,hv,⟨h5,off_mono h5 h6 hT⟩,h7,off_mono h7 h8 hT⟩
theorem AllIn.new (h : AllIn T w base A k c l) (hb : Below w.heap.size w w') : AllIn T w' base A k c l := h.turn (.new hb)
theorem AllIn.win (h : AllIn T w base A k c l) {a b : Nat} : AllIn (Win T a b) w base A k c l := h.mono fun _ _ hw => hw.1
theorem AllIn.nil_ (T : Nat -> Prop) (w : World) (base : Nat) : AllIn T w base none 0 0 [] := ⟨[],World.ownsRow_nil _ _ _ _,(fun g hg => by cases hg),rfl,fun i x hx => by simp at hx⟩
theorem AllIn.len (h : AllIn T w base A k c l) : l.length = k := by
 obtain ⟨vs,h1,h2,h3,h4⟩ := h
 exact h3
theorem AllIn.push {c4 : Nat} {A4 : Option Addr} {vs : List Value} {x : Tx} {A1 A2 : Option Addr} {n1 c1 n2 c2 : Nat} (h1 : w.ownsRow base 39 5 (.slice A k c) k vs) (ho : Off T (.slice A k c)) (h2 : l.length = k) (h3 : ∀ i y,l[i]? = some y -> InAll T w base vs i y)
 (h4 : w'.ownsRow base 39 5 (.slice A4 (k + 1) c4) (k + 1) (vs ++ tcells x.lsn x.kind x.mark A1 n1 c1 A2 n2 c2)) (hg : Grew w (Value.slice A k c).ownBlock w' (.slice A4 (k + 1) c4)) (h5 : w.ownsRow base 64 4 (.slice A1 n1 c1) n1 (PChg.gv x.chs)) (h6 : w.ownsRow base 9 1 (.slice A2 n2 c2) n2 (PTx.sv x.sigs))
 (o5 : Off T (.slice A1 n1 c1)) (o6 : Off T (.slice A2 n2 c2)) : AllIn (Win T w.heap.size w'.heap.size) w' base A4 (k + 1) c4 (l ++ [x]) := by
 have hl : vs.length = k * 5 := h1.1
 have ow : ∀ {v},Off T v -> Off (Win T w.heap.size w'.heap.size) v := fun ho g hg hw => ho g hg hw.1
 refine ⟨_,h4,fun g hg' hw => ?_,by rw [List.length_append,h2]; rfl,fun i y hy => ?_⟩
 ·rcases hg.2 with e | e
  ·exact ow ho g (e ▸ hg') hw
  ·have h8 := e g hg'
   have h9 := Foot.own_lt h4 hg'
   have h10 : g < w.heap.size \/ w'.heap.size <= g := hw.2
   omega
 ·rcases Nat.lt_or_ge i k with hik | hik
  ·rw [List.getElem?_append_left (by omega)] at hy
   obtain ⟨B1,m1,d1,B2,m2,d2,hv,⟨h7,p7⟩,h8,p8⟩ := h3 i y hy
   refine ⟨B1,m1,d1,B2,m2,d2,fun j hj => ?_,⟨PTx.own_other h7 h1 PTx.chg_ne hg.1,ow p7⟩,PTx.own_other h8 h1 PTx.str_ne hg.1,ow p8⟩
   rw [List.getElem?_append_left (by omega)]
   exact hv j hj
  ·obtain rfl : i = k := by
    have := (List.getElem?_eq_some_iff.1 hy).1
    rw [List.length_append,h2] at this
    simp at this
    omega
   rw [List.getElem?_append_right (by omega),h2,Nat.sub_self] at hy
   simp only [List.getElem?_cons_zero,Option.some.injEq] at hy
   subst hy
   refine ⟨A1,n1,c1,A2,n2,c2,fun j hj => ?_,⟨PTx.own_other h5 h1 PTx.chg_ne hg.1,ow o5⟩,PTx.own_other h6 h1 PTx.str_ne hg.1,ow o6⟩
   rw [List.getElem?_append_right (by omega),hl,Nat.add_sub_cancel_left]
theorem AllIn.txs (h : AllIn T w base A k c l) : Txs w w.heap.size A k c l := by
 obtain ⟨vs,h1,_,h2,h3⟩ := h
 obtain ⟨r1,r2,r3,r4⟩ := Row.of_own h1
 refine ⟨h2,r2,r3,fun i x hx => ?_⟩
 have hik : i < k := by have := (List.getElem?_eq_some_iff.1 hx).1; omega
 obtain ⟨b,off,e,hb,hc⟩ := r4 (by omega)
 obtain ⟨A1,n1,c1,A2,n2,c2,hv,⟨h4,_⟩,h5,_⟩ := h3 i x hx
 refine ⟨b,off,e,hb,A1,n1,c1,A2,n2,c2,?_,?_,?_,?_,?_,Row.of_own h4,Row.of_own h5⟩
 ·exact hc (i * 5 + 0) _ (by rw [hv 0 (by omega)]; rfl)
 ·exact hc (i * 5 + 1) _ (by rw [hv 1 (by omega)]; rfl)
 ·exact hc (i * 5 + 2) _ (by rw [hv 2 (by omega)]; rfl)
 ·exact hc (i * 5 + 3) _ (by rw [hv 3 (by omega)]; rfl)
 ·exact hc (i * 5 + 4) _ (by rw [hv 4 (by omega)]; rfl)
end
section
variable {T : Nat -> Prop} {w w' : World} {s p g gd n k M x : Nat} {l : List Tx} {sz : Int} {S : Sc} {d : Dk}
theorem SrcAt.beside (h : SrcAt T w s p g gd S d) (hz : w.heap.size <= w'.heap.size) (hk : ∀ i,i < w.heap.size -> T i -> w'.heap[i]? = w.heap[i]?) : SrcAt (Win T w.heap.size w'.heap.size) w' s p g gd S d := by
 obtain ⟨L,K,h⟩ := h
 refine ⟨L,K,Both.keep h.log (fun i hi => (h.inL i hi).2) hz fun i hi hl => hk i hi (h.inL i hl).1,h.set.keep hz fun i hi hK => hk i hi (h.inK i hK).1,?_,fun i hi => ⟨⟨(h.inL i hi).1,.inl (h.inL i hi).2⟩,Nat.lt_of_lt_of_le (h.inL i hi).2 hz⟩,fun i hi => ⟨⟨(h.inK i hi).1,.inl (h.inK i hi).2⟩,Nat.lt_of_lt_of_le (h.inK i hi).2 hz⟩,⟨h.inS,.inl h.box.lt⟩,h.apart,h.sK⟩
 exact (hk s h.box.lt h.inS).trans h.box
theorem Live.beside (h : Live T w s p g gd n l sz k M x S d) {v v' : Value} (hg : Grew w v.ownBlock w' v') (ho : Off T v) : Live (Win T w.heap.size w'.heap.size) w' s p g gd n l sz k M x S d :=
 ⟨h.at_.beside hg.1.size fun i hi hT => hg.1.block i hi fun e => ho i e.symm hT,h.sound,h.imgs,h.lot,h.cap,h.on⟩
end
theorem commit_bad (T : Nat -> Prop) (s p g gd n : Nat) (l : List Tx) (sz : Int) (k M x : Nat) (S : Sc) (d : Dk) (A : Option Addr) (m c : Nat) (cs : List Ch) (A' : Option Addr) (m' c' : Nat) (sg : List ByteArray) (w : World) (h : Live T w s p g gd n l sz k M x S d) (hT : New T w) (hs0 : 64 <= sz) (hs1 : sz <= 65536) (hk : k <= 100000) (hM : M <= 1000000000)
 (h1 : Chs w w.heap.size A m c cs) (hl1 : Lies (fun i => ¬ T i) A m) (h2 : Sigs w w.heap.size A' m' c' sg) (hl2 : Lies (fun i => ¬ T i) A' m') (hcs : ∃ c ∈ cs,c.may (n : Int) = false) :
 Calls Tryz.prog 14 #[.pointer (some ⟨s,0,none⟩),.slice A' m' c',.slice A m c] w fun e w' => e = .returned (.tuple #[.int .i64 0,.int .i64 1]) /\ Live T w' s p g gd n l sz k M x S d /\ Turn T w w' := by
 have hTT := h.tabs
 have hmost : Tbl.Most S.T 320 := by rw [hTT]; exact SrcMath.tab_small (SrcMath.tt_most h.lot _)
 have hlenT : S.T.length = n := by rw [hTT]; exact SrcMath.tt_length n l _
 refine (commit_any T s p g gd S d k M 320 A m c cs A' m' c' sg w h.at_ hT (h.lok hs0 hs1) h.cap (by omega) (by omega) hmost (by omega) h1 hl1 h2 hl2).mono ?_
 have hput : putM S d ⟨0,1,cs,sg,0⟩ = ⟨0,1,S,d⟩ := by
  unfold putM
  rw [if_neg]
  show ¬ mayS S.T.length ⟨1,1,cs,sg,0⟩ = true
  obtain ⟨c,hc,hm⟩ := hcs
  unfold SrcMath.mayS
  intro h0
  rw [Bool.and_eq_true] at h0
  have := List.all_eq_true.1 h0.2 c hc
  rw [hlenT] at this
  rw [hm] at this
  cases this
 rw [hput]
 rintro e w' ⟨he,hsr,htu⟩
 exact ⟨he,⟨hsr,h.sound,h.imgs,h.lot,h.cap,h.on⟩,htu⟩
end Src
namespace Fold
open Go.RowKit Base FoldMath Foot
open TxnMath (Ch Tx)
open PChg (gval Cs)
open PTx
open Last (wp_region_last_at then_normal)
def WalkAt (w : World) (p : Nat) (A : Option Addr) (n c : Nat) (j : Int) (f : Value) : Prop := Blk w p 202 #[.slice A n c,.int .i64 j,f]
theorem held_any (p : Nat) (A : Option Addr) (n c : Nat) (k : Int) (w : World) (h : w.cell? ⟨p,0,none⟩ = some (.slice A n c)) :
 Calls Tryz.prog 128 #[.pointer (some ⟨p,0,none⟩),.int .i64 k] w fun e w' => e = .returned (.int .i64 (held k n)) /\ w = w' := by
 have HH : Hid (((held k n : Nat) : Int) = if k < 0 then 0 else if (n : Int) < k then (n : Int) else k) := by
  show _ = _
  unfold FoldMath.held
  split
  ·omega
  ·split <;> omega
 rcases Int.lt_or_le k 0 with h1 | h1
 ·have HE : Hid ((held k n : Int) = 0) := HH.out.trans (if_pos h1)
  go_enter Tryz.func128,Tryz.ntmps128
  go_wp2
  go_ret
  exact ⟨by first | exact ret_int HE.out.symm | exact ret_int (by have := HE.out; omega),rfl⟩
 ·rcases Int.lt_or_le (n : Int) k with h2 | h2
  ·have HE : Hid ((held k n : Int) = n) := HH.out.trans ((if_neg (by omega)).trans (if_pos h2))
   go_enter Tryz.func128,Tryz.ntmps128
   go_wp2
   go_ret
   exact ⟨by first | exact ret_int HE.out.symm | exact ret_int (by have := HE.out; omega),rfl⟩
  ·have HE : Hid ((held k n : Int) = k) := HH.out.trans ((if_neg (by omega)).trans (if_neg (by omega)))
   go_enter Tryz.func128,Tryz.ntmps128
   go_wp2
   go_ret
   exact ⟨by first | exact ret_int HE.out.symm | exact ret_int (by have := HE.out; omega),rfl⟩
def NextR (w : World) (p : Nat) (A : Option Addr) (n c : Nat) (j : Nat) (f : Value) (v : Value) (e : Ending) (w' : World) : Prop := e = .returned v /\ WalkAt w' p A n c (j + 1) f /\ Turn (fun i => i = p) w w'
theorem next_any (p : Nat) (b off n c j : Nat) (f : Value) (lsn kind mark : Int) (A1 : Option Addr) (n1 c1 : Nat) (A2 : Option Addr) (n2 c2 : Nat) (w : World) (h : WalkAt w p (some ⟨b,off,none⟩) n c j f) (hj : j < n) (hc : n <= 9223372036854775807)
 (x0 : w.cell? ⟨b,off + j * 5,none⟩ = some (.int .i64 lsn)) (x1 : w.cell? ⟨b,off + j * 5 + 1,none⟩ = some (.int .i64 kind)) (x2 : w.cell? ⟨b,off + j * 5 + 2,none⟩ = some (.slice A1 n1 c1)) (x3 : w.cell? ⟨b,off + j * 5 + 3,none⟩ = some (.slice A2 n2 c2)) (x4 : w.cell? ⟨b,off + j * 5 + 4,none⟩ = some (.int .i64 mark)) :
 Calls Tryz.prog 129 #[.pointer (some ⟨p,0,none⟩)] w (NextR w p (some ⟨b,off,none⟩) n c j f (txval lsn kind mark A1 n1 c1 A2 n2 c2)) := by
 have HX := hid h
 have l1 : (j : Int) < (n : Int) := by omega
 have hpl : p < w.heap.size := h.lt
 clear h
 go_enter Tryz.func129,Tryz.ntmps129
 go_upto_region 1 with fail
 have hb1 : Below w.heap.size w (w.alloc (.cells #[.int .i64 0,.int .i64 0,.slice none 0 0,.slice none 0 0,.int .i64 0] 39)) := (Below.refl _ _).alloc (Nat.le_refl _) _
 have hr : Blk (w.alloc (.cells #[.int .i64 0,.int .i64 0,.slice none 0 0,.slice none 0 0,.int .i64 0] 39)) w.heap.size 39 #[.int .i64 0,.int .i64 0,.slice none 0 0,.slice none 0 0,.int .i64 0] := Blk.new _ _ _
 generalize (w.alloc (.cells #[.int .i64 0,.int .i64 0,.slice none 0 0,.slice none 0 0,.int .i64 0] 39)) = W at hb1 hr ⊢
 have hxw : WalkAt W p (some ⟨b,off,none⟩) n c j f := HX.out.below hb1 hpl
 have HSF : Hid (∀ w',Below W.heap.size W w' -> w'.cell? ⟨p,0,none⟩ = some (.slice (some ⟨b,off,none⟩) n c) /\ w'.cell? ⟨p,1,none⟩ = some (.int .i64 j) /\ w'.cell? ⟨b,off + j * 5,none⟩ = some (.int .i64 lsn) /\ w'.cell? ⟨b,off + j * 5 + 1,none⟩ = some (.int .i64 kind) /\ w'.cell? ⟨b,off + j * 5 + 2,none⟩ = some (.slice A1 n1 c1) /\ w'.cell? ⟨b,off + j * 5 + 3,none⟩ = some (.slice A2 n2 c2) /\ w'.cell? ⟨b,off + j * 5 + 4,none⟩ = some (.int .i64 mark)) := fun w' hb =>
  ⟨held_cell hb (hxw.cell 0),held_cell hb (hxw.cell 1),held_cell hb (held_cell hb1 x0),held_cell hb (held_cell hb1 x1),held_cell hb (held_cell hb1 x2),held_cell hb (held_cell hb1 x3),held_cell hb (held_cell hb1 x4)⟩
 refine wp_region_last_at (S := fun w' => w'.cell? ⟨p,0,none⟩ = some (.slice (some ⟨b,off,none⟩) n c) /\ w'.cell? ⟨p,1,none⟩ = some (.int .i64 j) /\ w'.cell? ⟨b,off + j * 5,none⟩ = some (.int .i64 lsn) /\ w'.cell? ⟨b,off + j * 5 + 1,none⟩ = some (.int .i64 kind) /\ w'.cell? ⟨b,off + j * 5 + 2,none⟩ = some (.slice A1 n1 c1) /\ w'.cell? ⟨b,off + j * 5 + 3,none⟩ = some (.slice A2 n2 c2) /\ w'.cell? ⟨b,off + j * 5 + 4,none⟩ = some (.int .i64 mark)) 11 _ rfl rfl (by kernel_rfl) (by kernel_rfl) (by kernel_rfl)
  (HSF.out _ (held_start W)) (fun hHeld => ?_)
 simp only [List.take_succ_cons,List.take_zero]
 refine wpAnyH_take (i := 0) (v := ?av0) rfl (by kernel_rfl) (by kernel_rfl) (by kernel_rfl) (fun _ _ _ h => h) (Or.inl ⟨by rfl,?ay0⟩) (by assumption) ?ar0
 case ay0 => (intro w hSw; (try dsimp only at hSw); go_simp; try with_reducible rfl)
 try simp only [Act.put,Base.px]
 refine wpAnyH_take (i := 1) (v := ?av1) rfl (by kernel_rfl) (by kernel_rfl) (by kernel_rfl) (fun _ _ _ h => h) (Or.inl ⟨by rfl,?ay1⟩) (by assumption) ?ar1
 case ay1 => (intro w hSw; (try dsimp only at hSw); go_simp; try with_reducible rfl)
 try simp only [Act.put,Base.px]
 refine wpAnyH_take (i := 2) (v := ?av2) rfl (by kernel_rfl) (by kernel_rfl) (by kernel_rfl) (fun _ _ _ h => h) (Or.inl ⟨by rfl,?ay2⟩) (by assumption) ?ar2
 case ay2 => (intro w hSw; (try dsimp only at hSw); go_simp; try with_reducible rfl)
 try simp only [Act.put,Base.px]
 refine wpAnyH_take (i := 3) (v := ?av3) rfl (by kernel_rfl) (by kernel_rfl) (by kernel_rfl) (fun _ _ _ h => h) (Or.inl ⟨by rfl,?ay3⟩) (by assumption) ?ar3
 case ay3 => (intro w hSw; (try dsimp only at hSw); go_simp; try with_reducible rfl)
 try simp only [Act.put,Base.px]
 refine wpAnyH_take (i := 4) (v := ?av4) rfl (by kernel_rfl) (by kernel_rfl) (by kernel_rfl) (fun _ _ _ h => h) (Or.inl ⟨by rfl,?ay4⟩) (by assumption) ?ar4
 case ay4 => (intro w hSw; (try dsimp only at hSw); go_simp; try with_reducible rfl)
 try simp only [Act.put,Base.px]
 refine wpAnyH_take (i := 5) (v := ?av5) rfl (by kernel_rfl) (by kernel_rfl) (by kernel_rfl) (fun _ _ _ h => h) (Or.inl ⟨by rfl,?ay5⟩) (by assumption) ?ar5
 case ay5 => (intro w hSw; (try dsimp only at hSw); go_simp; try with_reducible rfl)
 try simp only [Act.put,Base.px]
 refine wpAnyH_take (i := 6) (v := ?av6) rfl (by kernel_rfl) (by kernel_rfl) (by kernel_rfl) (fun _ _ _ h => h) (Or.inl ⟨by rfl,?ay6⟩) (by assumption) ?ar6
 case ay6 => (intro w hSw; (try dsimp only at hSw); go_simp; try with_reducible rfl)
 try simp only [Act.put,Base.px]
 refine wpAnyH_take (i := 7) (v := ?av7) rfl (by kernel_rfl) (by kernel_rfl) (by kernel_rfl) (fun _ _ _ h => h) (Or.inl ⟨by rfl,?ay7⟩) (by assumption) ?ar7
 case ay7 => (intro w hSw; (try dsimp only at hSw); go_simp; try with_reducible rfl)
 try simp only [Act.put,Base.px]
 refine wpAnyH_take (i := 8) (v := ?av8) rfl (by kernel_rfl) (by kernel_rfl) (by kernel_rfl) (fun _ _ _ h => h) (Or.inl ⟨by rfl,?ay8⟩) (by assumption) ?ar8
 case ay8 => (intro w hSw; (try dsimp only at hSw); go_simp; try with_reducible rfl)
 try simp only [Act.put,Base.px]
 refine wpAnyH_take (i := 9) (v := ?av9) rfl (by kernel_rfl) (by kernel_rfl) (by kernel_rfl) (fun _ _ _ h => h) (Or.inl ⟨by rfl,?ay9⟩) (by assumption) ?ar9
 case ay9 => (intro w hSw; (try dsimp only at hSw); go_simp; try with_reducible rfl)
 try simp only [Act.put,Base.px]
 refine wpAnyH_ready (rs := [10]) (by kernel_rfl) (by simp) ?_
 refine AllReadyH.cons rfl (fun K hK => ?_) AllReadyH.nil
 go_simp
 refine hK.out _ _ (HSF.out _ (held_alloc_drew (held_start W) _)) (fun hHeld => ?_)
 clear hK K
 try simp only [Act.put,Base.px]
 refine wpAnyH_done (by kernel_rfl) ?_ _
 refine then_normal rfl ?_
 have p0 : W.cell? ⟨p,0,none⟩ = some (.slice (some ⟨b,off,none⟩) n c) := hxw.cell 0
 have p1 : W.cell? ⟨p,1,none⟩ = some (.int .i64 j) := hxw.cell 1
 have fp := hxw.frozen 1
 have r0 : W.cell? ⟨w.heap.size,0,none⟩ = some (.int .i64 0) := hr.cell 0
 have r1 : W.cell? ⟨w.heap.size,1,none⟩ = some (.int .i64 0) := hr.cell 1
 have r2 : W.cell? ⟨w.heap.size,2,none⟩ = some (.slice none 0 0) := hr.cell 2
 have r3 : W.cell? ⟨w.heap.size,3,none⟩ = some (.slice none 0 0) := hr.cell 3
 have r4 : W.cell? ⟨w.heap.size,4,none⟩ = some (.int .i64 0) := hr.cell 4
 have fr0 := hr.frozen 0
 have fr1 := hr.frozen 1
 have fr2 := hr.frozen 2
 have fr3 := hr.frozen 3
 have fr4 := hr.frozen 4
 have hpr : p ≠ w.heap.size := by omega
 have hrp : w.heap.size ≠ p := by omega
 have hWl : w.heap.size < W.heap.size := hr.lt
 have HXW := hid hxw
 have HB1 := hid hb1
 have hpW : p < W.heap.size := by omega
 have hpW2 : p ≠ W.heap.size := by omega
 have hWp : W.heap.size ≠ p := by omega
 have hwW : w.heap.size ≠ W.heap.size := by omega
 have hWw : W.heap.size ≠ w.heap.size := by omega
 clear hxw hb1 hr x0 x1 x2 x3 x4 HSF; clear hHeld
 go_wp2
 refine bodyPost_ret (v := txval lsn kind mark A1 n1 c1 A2 n2 c2) (by simp [txval,results,Tryz.results129,go_sem,hpr,hrp,hwW,hWw,hWl,r0,r1,r2,r3,r4]) rfl ⟨rfl,?_,?_⟩
 ·exact Blk.alloc ((((((HXW.out.set_ 1 (.int .i64 ((j : Int) + 1))).far (p := ⟨w.heap.size,0,none⟩) hpr _).far (p := ⟨w.heap.size,1,none⟩) hpr _).far (p := ⟨w.heap.size,2,none⟩) hpr _).far (p := ⟨w.heap.size,3,none⟩) hpr _).far (p := ⟨w.heap.size,4,none⟩) hpr _) _
 ·have h1 : Turn (fun i => i = p) w W := Turn.new HB1.out
  exact (((((((h1.setCell (p := ⟨p,1,none⟩) (.inl rfl) _).setCell (p := ⟨w.heap.size,0,none⟩) (.inr (Nat.le_refl _)) _).setCell (p := ⟨w.heap.size,1,none⟩) (.inr (Nat.le_refl _)) _).setCell (p := ⟨w.heap.size,2,none⟩) (.inr (Nat.le_refl _)) _).setCell (p := ⟨w.heap.size,3,none⟩) (.inr (Nat.le_refl _)) _).setCell (p := ⟨w.heap.size,4,none⟩) (.inr (Nat.le_refl _)) _).alloc _).drewN 1
theorem walkOver_any (A : Option Addr) (n c : Nat) (fn : Fn) (first cap : Array Value) (w : World) : Calls Tryz.prog 64 #[.slice A n c,.func fn first cap] w fun e w' => e = .returned (.pointer (some ⟨w.heap.size,0,none⟩)) /\ w' = w.alloc (.cells #[.slice A n c,.int .i64 0,.func fn first cap] 202) := by
 go_enter Tryz.func64,Tryz.ntmps64
 go_wp2
 go_ret
 exact ⟨rfl,rfl⟩
end Fold
namespace Fold
open Go.RowKit Base FoldMath Foot
open TxnMath (Ch Tx)
open PChg (gval Cs)
open PTx
structure Col (R : Nat -> Prop) (J : List Ch -> World -> Prop) (G : Nat) (v : Value) (M : Nat) (ok : Ch -> Prop) : Prop where
 keep : ∀ cs w w',J cs w -> (∀ i,i < w.heap.size -> R i -> w'.heap[i]? = w.heap[i]?) -> J cs w'
 take : ∀ cs c w,J cs w -> ok c -> cs.length < M -> Calls Tryz.prog G #[v,gval c] w fun e w' => e = .returned (.tuple #[]) /\ J (cs ++ [c]) w' /\ Turn R w w'
def AtI (B : Nat) (J : List Ch -> World -> Prop) (G : Nat) (v : Value) (p : Nat) (A : Option Addr) (n c : Nat) (l : List Tx) (j h : Nat) (w wr : World) : Prop :=
 ∃ i : Nat,j <= i /\ i <= max j h /\ WalkAt wr p A n c i (.func (.func G) #[v] #[]) /\ J (chs l i) wr /\ Below B w wr
def ToR (B : Nat) (J : List Ch -> World -> Prop) (G : Nat) (v : Value) (p : Nat) (A : Option Addr) (n c : Nat) (l : List Tx) (i : Nat) (w : World) (e : Ending) (w' : World) : Prop :=
 e = .returned (.tuple #[]) /\ WalkAt w' p A n c i (.func (.func G) #[v] #[]) /\ J (chs l i) w' /\ Below B w w'
def AtM (B : Nat) (J : List Ch -> World -> Prop) (G : Nat) (v : Value) (p : Nat) (A : Option Addr) (n c : Nat) (l : List Tx) (x : Tx) (i : Nat) (w : World) (m : Nat) (wr : World) : Prop :=
 WalkAt wr p A n c (i + 1 : Nat) (.func (.func G) #[v] #[]) /\ J (chs l i ++ x.chs.take m) wr /\ Below B w wr
theorem chs_le (l : List Tx) {i n : Nat} (h : i <= n) : (chs l i).length <= (chs l n).length := by
 unfold chs
 have e : l.take n = l.take i ++ (l.take n).drop i := by
  rw [show l.take i = (l.take n).take i by rw [List.take_take,Nat.min_eq_left h],List.take_append_drop]
 rw [e,List.flatMap_append,List.length_append]
 omega
theorem chs_sub (l : List Tx) {i n : Nat} (h : i <= n) {c : Ch} (hc : c ∈ chs l i) : c ∈ chs l n := by
 unfold chs at *
 have e : l.take n = l.take i ++ (l.take n).drop i := by
  rw [show l.take i = (l.take n).take i by rw [List.take_take,Nat.min_eq_left h],List.take_append_drop]
 rw [e,List.flatMap_append]
 exact List.mem_append_left _ hc
theorem chs_in {l : List Tx} {i n : Nat} {x : Tx} (hx : l[i]? = some x) (h : i < n) {c : Ch} (hc : c ∈ x.chs) : c ∈ chs l n := by
 refine chs_sub l h ?_
 rw [chs_succ hx]
 exact List.mem_append_right _ hc
theorem chs_room {l : List Tx} {i n m : Nat} {x : Tx} (hx : l[i]? = some x) (h : i < n) (hm : m < x.chs.length) : (chs l i ++ x.chs.take m).length < (chs l n).length := by
 have h1 := chs_le l (show i + 1 <= n from h)
 rw [chs_succ hx,List.length_append] at h1
 rw [List.length_append,List.length_take]
 omega
end Fold
namespace Fold
open Go.RowKit Base FoldMath Foot
open TxnMath (Ch Tx)
open PChg (gval Cs)
open PTx
open Last (wp_region_last_at then_normal)
theorem to_tab_any (R : Nat -> Prop) (J : List Ch -> World -> Prop) (v : Value) (M : Nat) (ok : Ch -> Prop) (hC : Col R J 65 v M ok) (p B : Nat) (A : Option Addr) (n c j : Nat) (k : Int) (l : List Tx) (w : World)
 (hb : WalkAt w p A n c j (.func (.func 65) #[v] #[])) (hJ : J (chs l j) w) (hl : Txs w B A n c l) (hp : B <= p) (hR : ∀ i,R i -> B <= i /\ i ≠ p) (hok : ∀ x ∈ chs l n,ok x) (hM : (chs l n).length < M) (hj : j <= n) :
 Calls Tryz.prog 66 #[.pointer (some ⟨p,0,none⟩),.int .i64 k] w (ToR B J 65 v p A n c l (max j (held k n)) w) := by
 have HW := hid hb
 have HJ := hid hJ
 have HL := hid hl
 have HR := hid hR
 have HOK := hid hok
 have HM := hid hM
 have hle := hl.le
 have hBw : B <= w.heap.size := by have := hb.lt; omega
 have hmk : held k n <= n := held_le k n
 generalize hK : held k n = h at *
 have HK := hid hK
 clear hb hJ hl hR hok hM hK
 go_enter Tryz.func66,Tryz.ntmps66
 go_wp2
 go_loopw [] (fun wr => AtI B J 65 v p A n c l j h w wr) (fun wr => n - (RowKit.intOf ((wr.cell? ⟨p,1,none⟩).getD undef)).toNat)
 case atStart => exact ⟨j,Nat.le_refl _,by omega,HW.out,HJ.out,Below.refl _ _⟩
 case round =>
  obtain ⟨i,hji,him,hwa,hjj,hbe⟩ := hrel
  have p0 : wr.cell? ⟨p,0,none⟩ = some (.slice A n c) := hwa.cell 0
  have p1 : wr.cell? ⟨p,1,none⟩ = some (.int .i64 i) := hwa.cell 1
  have CH : Hid (∀ q,Calls Tryz.prog 128 #[.pointer (some ⟨p,0,none⟩),.int .i64 k] (wr.drewN q) fun e w'' => e = .returned (.int .i64 h) /\ ∃ q',w'' = wr.drewN q') := fun q => by rw [<- HK.out]; exact (held_any p A n c k (wr.drewN q) p0).mono fun e w'' hh => ⟨hh.1,q,hh.2.symm⟩
  have HWA := hid hwa
  have HJJ := hid hjj
  have HBE := hid hbe
  have hpl := hwa.lt
  have hbz := hbe.size
  clear hwa hjj hbe
  by_cases hih : i < h
  ·have l1 : (i : Int) < (h : Int) := by omega
   obtain ⟨b,off,x,rfl,hbB,hx,A1,n1,c1,A2,n2,c2,x0,x1,x2,x3,x4,hcs,_⟩ := (HL.out.below HBE.out).at_ (show i < n by omega)
   have HX := hid hx
   have HCS := hid hcs
   have hn1 := hcs.le
   have hl1 := hcs.len
   clear hx hcs
   go_upto_region 0 with fail
   go_quiet (first | (go_at_call 128; exact CH.out _))
   have HWA1 : Hid (WalkAt (wr.drewN nq) p (some ⟨b,off,none⟩) n c i (.func (.func 65) #[v] #[])) := Blk.drewN HWA.out _
   have HJ1 : Hid (J (chs l i) (wr.drewN nq)) := hC.keep _ _ _ HJJ.out fun _ _ _ => rfl
   have HB1 : Hid (Below B w (wr.drewN nq)) := below_drewN HBE.out _
   have z0 : (wr.drewN nq).cell? ⟨b,off + i * 5,none⟩ = some (.int .i64 x.lsn) := x0
   have z1 : (wr.drewN nq).cell? ⟨b,off + i * 5 + 1,none⟩ = some (.int .i64 x.kind) := x1
   have z2 : (wr.drewN nq).cell? ⟨b,off + i * 5 + 2,none⟩ = some (.slice A1 n1 c1) := x2
   have z3 : (wr.drewN nq).cell? ⟨b,off + i * 5 + 3,none⟩ = some (.slice A2 n2 c2) := x3
   have z4 : (wr.drewN nq).cell? ⟨b,off + i * 5 + 4,none⟩ = some (.int .i64 x.mark) := x4
   have HCS1 : Hid (Cs (wr.drewN nq) B A1 n1 c1 x.chs) := HCS.out
   have hpl1 : p < (wr.drewN nq).heap.size := hpl
   have HP1 := hid p1
   clear x0 x1 x2 x3 x4 p0 p1 HWA HJJ HBE HCS CH hpl hbz
   generalize wr.drewN nq = W1 at *
   go_wp2_with fail
   refine (next_any p b off n c i _ x.lsn x.kind x.mark A1 n1 c1 A2 n2 c2 W1 HWA1.out (by omega) (by omega) z0 z1 z2 z3 z4).mono ?_
   rintro e w2 ⟨rfl,hw2,ht2⟩
   have HM0 : Hid (AtM B J 65 v p (some ⟨b,off,none⟩) n c l x i w 0 w2) := by
    refine ⟨hw2,?_,HB1.out.trans (ht2.below (fun i hi => by subst hi; exact hp) (by omega))⟩
    rw [List.take_zero,List.append_nil]
    exact hC.keep _ _ _ HJ1.out fun q hq hR => ht2.block q hq (fun e => (HR.out q hR).2 e)
   have HCS2 : Hid (∀ wx,Below B w wx -> Cs wx B A1 n1 c1 x.chs) := fun wx hbx => Row.keep (HCS1.out) fun q hq => (hbx.cell hq).trans (HB1.out.cell hq).symm
   clear hw2 ht2 z0 z1 z2 z3 z4 HWA1 HJ1 HCS1
   unfold txval
   have hfld : (Instr.field 39 (.agg #[.int .i64 x.lsn,.int .i64 x.kind,.slice A1 n1 c1,.slice A2 n2 c2,.int .i64 x.mark]) 2).run Tryz.prog w2 = .ok (.slice A1 n1 c1) w2 := by kernel_rfl
   go_wp2_with fail
   go_loopw [23] (fun vi wx => ∃ m : Nat,vi = .int .i64 m /\ m <= n1 /\ AtM B J 65 v p (some ⟨b,off,none⟩) n c l x i w m wx) (fun vi _ => n1 - (RowKit.intOf vi).toNat)
   case atStart => exact ⟨0,rfl,Nat.zero_le _,HM0.out⟩
   case round =>
    obtain ⟨m,rfl,hm,hma⟩ := hrel
    have HMA := hid hma
    clear HM0
    by_cases hmn : m < n1
    ·obtain ⟨hwa,hjj,hbe⟩ := hma
     obtain ⟨b3,off3,f,rfl,hb3,c0,c1',c2',c3,hf,ht⟩ := (HCS2.out wr hbe).at_ hmn
     have HF := hid (And.intro hf ht)
     have p2 : wr.cell? ⟨p,2,none⟩ = some (.func (.func 65) #[v] #[]) := hwa.cell 2
     have hpx := hwa.lt
     have l2 : (m : Int) < (n1 : Int) := by omega
     obtain ⟨ft,fk,fg,fv⟩ := f
     dsimp only at c0 c1' c2' c3
     clear hwa hjj hbe hf ht
     go_upto_region 4 with fail
     have hbx : Below wr.heap.size wr (wr.alloc (.cells #[.int .i64 ft,.int .i64 fk,.bool fg,.string fv] 64)) := (Below.refl _ _).alloc (Nat.le_refl _) _
     have hxx : Blk (wr.alloc (.cells #[.int .i64 ft,.int .i64 fk,.bool fg,.string fv] 64)) wr.heap.size 64 #[.int .i64 ft,.int .i64 fk,.bool fg,.string fv] := Blk.new _ _ _
     generalize (wr.alloc (.cells #[.int .i64 ft,.int .i64 fk,.bool fg,.string fv] 64)) = W at hbx hxx ⊢
     refine wp_region_last_at (S := fun w' => w'.cell? ⟨p,2,none⟩ = some (.func (.func 65) #[v] #[]) /\ w'.cell? ⟨wr.heap.size,0,none⟩ = some (.int .i64 ft) /\ w'.cell? ⟨wr.heap.size,1,none⟩ = some (.int .i64 fk) /\ w'.cell? ⟨wr.heap.size,2,none⟩ = some (.bool fg) /\ w'.cell? ⟨wr.heap.size,3,none⟩ = some (.string fv)) 5 _ rfl rfl (by kernel_rfl) (by kernel_rfl) (by kernel_rfl)
      ⟨held_cell hbx p2,hxx.cell 0,hxx.cell 1,hxx.cell 2,hxx.cell 3⟩ (fun hHeld => ?_)
     simp only [List.take_succ_cons,List.take_zero]
     refine wpAnyH_take (i := 0) (v := ?av0) rfl (by kernel_rfl) (by kernel_rfl) (by kernel_rfl) (fun _ _ _ h => h) (Or.inl ⟨by rfl,?ay0⟩) (by assumption) ?ar0
     case ay0 => (intro w hSw; (try dsimp only at hSw); go_simp; try with_reducible rfl)
     try simp only [Act.put,Base.px]
     refine wpAnyH_take (i := 1) (v := ?av1) rfl (by kernel_rfl) (by kernel_rfl) (by kernel_rfl) (fun _ _ _ h => h) (Or.inl ⟨by rfl,?ay1⟩) (by assumption) ?ar1
     case ay1 => (intro w hSw; (try dsimp only at hSw); go_simp; try with_reducible rfl)
     try simp only [Act.put,Base.px]
     refine wpAnyH_take (i := 2) (v := ?av2) rfl (by kernel_rfl) (by kernel_rfl) (by kernel_rfl) (fun _ _ _ h => h) (Or.inl ⟨by rfl,?ay2⟩) (by assumption) ?ar2
     case ay2 => (intro w hSw; (try dsimp only at hSw); go_simp; try with_reducible rfl)
     try simp only [Act.put,Base.px]
     refine wpAnyH_take (i := 3) (v := ?av3) rfl (by kernel_rfl) (by kernel_rfl) (by kernel_rfl) (fun _ _ _ h => h) (Or.inl ⟨by rfl,?ay3⟩) (by assumption) ?ar3
     case ay3 => (intro w hSw; (try dsimp only at hSw); go_simp; try with_reducible rfl)
     try simp only [Act.put,Base.px]
     refine wpAnyH_take (i := 4) (v := ?av4) rfl (by kernel_rfl) (by kernel_rfl) (by kernel_rfl) (fun _ _ _ h => h) (Or.inl ⟨by rfl,?ay4⟩) (by assumption) ?ar4
     case ay4 => (intro w hSw; (try dsimp only at hSw); go_simp; try with_reducible rfl)
     try simp only [Act.put,Base.px]
     refine wpAnyH_done (by kernel_rfl) ?_ _
     refine then_normal rfl ?_
     have HAW : Hid (WalkAt W.drew p (some ⟨b,off,none⟩) n c (i + 1 : Nat) (.func (.func 65) #[v] #[]) /\ J (chs l i ++ x.chs.take m) W.drew /\ Below B w W.drew) := by
      obtain ⟨hwa,hjj,hbe⟩ := HMA.out
      refine ⟨Blk.below hwa hbx.drew hpx,hC.keep _ _ _ hjj fun q hq _ => hbx.block q hq,?_⟩
      exact (hbe.trans (hbx.mono (by have := hbe.size; omega))).drew
     have hroom : (chs l i ++ x.chs.take m).length < M := Nat.lt_trans (chs_room HX.out (by omega) (by omega)) HM.out
     have hokf : ok ⟨ft,fk,fg,fv⟩ := HOK.out _ (chs_in HX.out (by omega) (List.mem_of_getElem? HF.out.1))
     have CT := hid (hC.take _ ⟨ft,fk,fg,fv⟩ W.drew HAW.out.2.1 hokf hroom)
     clear hbx hxx hHeld
     go_wp2_with fail
     refine CT.out.mono ?_
     rintro e w4 ⟨rfl,hj4,ht4⟩
     have HN : Hid (AtM B J 65 v p (some ⟨b,off,none⟩) n c l x i w (m + 1) w4) := by
      obtain ⟨hwa,hjj,hbe⟩ := HAW.out
      refine ⟨(ht4.block p hwa.lt (fun h => (HR.out p h).2 rfl)).trans hwa,?_,hbe.trans (ht4.below (fun q hq => (HR.out q hq).1) (by have := hbe.size; omega))⟩
      rw [HF.out.2,<- List.append_assoc]
      exact hj4
     clear hj4 ht4 CT HAW
     go_wp2
     go_roundw
     case rel => exact ⟨m + 1,by go_num,by omega,HN.out⟩
     case measure => simp [RowKit.intOf]; omega
    ·obtain rfl : m = n1 := by omega
     have l2 : ¬ (m : Int) < (m : Int) := by omega
     have hcell : wr.cell? ⟨p,1,none⟩ = some (.int .i64 ((i + 1 : Nat) : Int)) := hma.1.cell 1
     have HE : Hid (AtI B J 65 v p (some ⟨b,off,none⟩) n c l j h w wr) := by
      obtain ⟨hwa,hjj,hbe⟩ := hma
      rw [List.take_of_length_le (by omega),<- chs_succ HX.out] at hjj
      exact ⟨i + 1,by omega,by omega,hwa,hjj,hbe⟩
     clear hma HMA
     go_wp2
     go_roundw
     case rel => exact HE.out
     case measure => rw [hcell,HP1.out]; simp [RowKit.intOf]; omega
  ·have l1 : ¬ (i : Int) < (h : Int) := by omega
   go_upto_region 0 with fail
   go_quiet (first | (go_at_call 128; exact CH.out _))
   go_wp2
   go_end0
   obtain rfl : i = max j h := by omega
   exact ⟨rfl,Blk.drewN HWA.out _,hC.keep _ _ _ HJJ.out fun _ _ _ => rfl,below_drewN HBE.out _⟩
end Fold
end Go.Proofs.YtefnmnpfecfdaaaGreat
