/-
  Texts of one proof: WalFiles.
-/
import Derived.Test.YtefnmnpfecfdaaaGreatPf25
set_option linter.all false
set_option maxRecDepth 100000
set_option maxHeartbeats 1600000
open Go.Lib (hid)
namespace Go.Proofs.YtefnmnpfecfdaaaGreat
namespace Wal
open Go.RowKit Base WalMath
open Go.Sort (Holds putRow)
open Disk (DiskAt I64 Fits)
open Foot (Turn Out own_same own_type)
open DiskMath (Fl Dk)
open Go.Proofs (FnGives sortWorld)
theorem heap_putRow (w : World) (blk off : Nat) (d : Array Int) {i : Nat} (hi : i ≠ blk) : (putRow (Value.int .i64) w blk off d).heap[i]? = w.heap[i]? := by
 simp [putRow,Sort.mapBlock,Array.getElem?_modify,Ne.symm hi]
theorem below_putRow {B : Nat} (w : World) (q blk off : Nat) (d : Array Int) (hB : B <= blk) : Below B w (putRow (Value.int .i64) (Sort.ahead w q) blk off d) :=
 ⟨rfl,rfl,rfl,by simp [Sort.ahead],fun i hi => heap_putRow _ _ _ _ (by omega)⟩
theorem notmine_any (g p : Nat) (ba f : Int) (w : World) (hp : w.cell? ⟨p,0,none⟩ = some (.pointer (some ⟨g,0,none⟩))) (hb : w.cell? ⟨g,2,none⟩ = some (.int .i64 ba)) (h0 : 0 <= ba) (h1 : ba <= 12288) :
 Calls Tryz.prog 157 #[.int .i64 f,.pointer (some ⟨p,0,none⟩)] w fun e w' => e = .returned (.bool (!decide (ba <= f /\ f < ba + 4096))) /\ ∃ q,w' = w.drewN q := by
 have hw : IntKind.i64.wrap (ba + 4096) = ba + 4096 := IntWalk.i64_in _ (by omega)
 generalize hres : (!decide (ba <= f /\ f < ba + 4096)) = res
 have HR := hid hres
 clear hres
 by_cases h2 : f < ba
 ·have HE := hid (show res = true by rw [<- HR.out,decide_eq_false (by omega)]; rfl)
  go_enter Tryz.func157,Tryz.ntmps157
  go_wp2
  go_ret
  exact ⟨by rw [HE.out]; rfl,0,rfl⟩
 ·by_cases h3 : ba + 4096 <= f
  ·have HE := hid (show res = true by rw [<- HR.out,decide_eq_false (by omega)]; rfl)
   go_enter Tryz.func157,Tryz.ntmps157
   go_wp2
   go_ret
   exact ⟨by rw [HE.out]; rfl,0,rfl⟩
  ·have HE := hid (show res = false by rw [<- HR.out,decide_eq_true (by omega)]; rfl)
   go_enter Tryz.func157,Tryz.ntmps157
   go_wp2
   go_ret
   exact ⟨by rw [HE.out]; rfl,0,rfl⟩
def Filed (w : World) (ks : List Int) (e : Ending) (w' : World) : Prop := ∃ A c,e = .returned (.slice A ks.length c) /\ Row w' w'.heap.size 1 A ks.length c (iv ks) /\ Lies (w.heap.size <= ·) A ks.length /\ Below w.heap.size w w'
theorem delfunc_any (g p : Nat) (ba : Int) (ks : List Int) (A : Option Addr) (c base : Nat) (w : World) (hown : w.ownsRow base 3 1 (.slice A ks.length c) ks.length (iv ks)) (hp : w.cell? ⟨p,0,none⟩ = some (.pointer (some ⟨g,0,none⟩))) (hb : w.cell? ⟨g,2,none⟩ = some (.int .i64 ba)) (h0 : 0 <= ba) (h1 : ba <= 12288) (hpb : p < base) (hgb : g < base) :
 Calls Tryz.prog 156 #[.slice A ks.length c,.func (.func 157) #[] #[.pointer (some ⟨p,0,none⟩)]] w fun e w' => ∃ A' , e = .returned (.slice A' (ks.filter fun f => decide (ba <= f /\ f < ba + 4096)).length c) /\
  Row w' w'.heap.size 1 A' (ks.filter fun f => decide (ba <= f /\ f < ba + 4096)).length c (iv (ks.filter fun f => decide (ba <= f /\ f < ba + 4096))) /\ Lies (base <= ·) A' (ks.filter fun f => decide (ba <= f /\ f < ba + 4096)).length /\ Below base w w' := by
 by_cases hk : ks = []
 ·subst hk
  have hie := AnyE.slices_IndexFunc_empty (P := Tryz.prog) (ρ := Tryz.delFA_ren) { Tryz.delFA with } A c (.func (.func 157) #[] #[.pointer (some ⟨p,0,none⟩)]) w
  change Calls Tryz.prog 209 _ _ _ at hie
  have hle := (Row.of_own hown).le
  have HIE := hid hie
  clear hown hie
  go_enter Tryz.func156,Tryz.ntmps156
  go_wp2_with fail
  refine HIE.out.mono ?_
  rintro e w1 ⟨rfl,hw1⟩
  subst hw1
  go_wp2
  go_ret
  exact ⟨A,rfl,Row.none_ _ _ _ _ hle.2,fun h => absurd h (by simp),Below.refl _ _⟩
 ·have hn : 0 < ks.length := by
   rcases Nat.eq_zero_or_pos ks.length with h | h
   ·exact absurd (List.eq_nil_of_length_eq_zero h) hk
   ·exact h
  have hrow := Row.of_own hown
  obtain ⟨blk,off,rfl,hblk,hcells⟩ := hrow.2.2.2 hn
  have hbb := hown.lt blk rfl
  have e0 : off = 0 := by
   rcases hown.2 with ⟨hv,_⟩ | ⟨b',cap,cur,hv,_⟩
   ·simp only [Value.slice.injEq] at hv; omega
   ·simp only [Value.slice.injEq] at hv
    have := hv.1
    injection this with this
    injection this
  subst e0
  have hds : ks.toArray.size = ks.length := by simp
  have hH : Holds (Value.int .i64) w blk 0 ks.toArray := fun j hj => by
   rw [hds] at hj
   refine ⟨?_,by rw [Nat.zero_add]; exact hown.frozenAt j⟩
   rw [hcells j _ (iv_get hj)]
   simp [hj]
  have eg : ∀ args w,(callFunc 157 args).run Tryz.prog w = .ok (.enter 157 args) w := enters_of Tryz.func157 (by kernel_rfl) rfl
  have hgiv : ∀ (W : World) (x : Int),W.cell? ⟨p,0,none⟩ = some (.pointer (some ⟨g,0,none⟩)) -> W.cell? ⟨g,2,none⟩ = some (.int .i64 ba) -> FnGives Tryz.prog 157 #[.pointer (some ⟨p,0,none⟩)] #[.int .i64 x] (.bool (!decide (ba <= x /\ x < ba + 4096))) W := fun W x h2 h3 => notmine_any g p ba x W h2 h3 h0 h1
  have hcon := AnyE.slices_DeleteFunc Tryz.delFA (Value.int .i64) (fun _ => rfl) (fun x => !decide (ba <= x /\ x < ba + 4096)) 157 #[.pointer (some ⟨p,0,none⟩)] eg 0 Tryz.zeroValue3 blk 0 c ks.toArray w
   (fun W x hb2 => hgiv W x (held_cell hb2 hp) (held_cell hb2 hb))
   (fun n os dk x _ => by
     have key : ∀ (a : Addr) u,a.block < base -> w.cell? a = some u -> (sortWorld (Value.int .i64) w blk 0 n dk os).cell? a = some u := fun a u ha hu => by
      unfold sortWorld
      rw [Sort.cell?_grow _ _ _ (by rw [Sort.size_putRow]; show a.block < w.heap.size; omega),Sort.cell?_putRow_other _ _ blk 0 _ _ (Or.inl (by omega))]
      exact hu
     exact hgiv _ x (key ⟨p,0,none⟩ _ hpb hp) (key ⟨g,2,none⟩ _ hgb hb))
   hH (by rw [hds]; have := hrow.le; omega) (by rw [hds]; exact hrow.le.1)
  change Calls Tryz.prog 156 _ _ _ at hcon
  rw [hds] at hcon
  simp only [Bool.not_not] at hcon
  refine hcon.mono ?_
  rintro e w' ⟨rfl,q,rfl⟩
  have hlen : (ks.filter fun f => decide (ba <= f /\ f < ba + 4096)).length <= ks.length := List.length_filter_le _ _
  generalize hr : (ks.filter fun f => decide (ba <= f /\ f < ba + 4096)) = r at *
  refine ⟨some ⟨blk,0,none⟩,rfl,⟨by rw [iv_length]; simp,by have := hrow.le; omega,hrow.le.2,fun _ => ⟨blk,0,rfl,by rw [Sort.size_putRow]; exact hblk,fun j u hu => ?_⟩⟩,fun _ b off e => ?_,below_putRow w q blk 0 _ hbb.1⟩
  ·have hj : j < r.length := by
    have := (List.getElem?_eq_some_iff.1 hu).1
    rwa [iv_length] at this
   rw [iv_get hj] at hu
   injection hu with hu
   have hh := Sort.holds_putRow (Value.int .i64) (Sort.ahead w q) blk 0 ks.toArray (r ++ List.replicate (ks.length - r.length) 0).toArray (Sort.holds_ahead _ w q blk 0 _ hH) (by simp; omega)
   have h2 := (hh j (by simp; omega)).1
   rw [h2,<- hu]
   congr 2
   rw [getElem!_pos _ j (by simp; omega)]
   simp [List.getElem_append_left hj]
  ·injection e with e
   injection e with e1 e2
   subst e1
   exact hbb.1
theorem files_any (F G : Nat -> Prop) (g gd : Nat) (l : Lg) (d : Dk) (w : World) (h : LogAt G w g gd l) (hdk : DiskAt F w gd d) (h0 : 0 <= l.base) (h1 : l.base <= 12288) :
 Calls Tryz.prog 94 #[.pointer (some ⟨g,0,none⟩)] w (Filed w ((own d l.base).map (·.id))) := by
 have HKS : Hid ((d.files.map (·.id)).filter (fun f => decide (l.base <= f /\ f < l.base + 4096)) = (own d l.base).map (·.id)) := hid (by
  unfold own
  rw [List.filter_map]
  rfl)
 have hlt := h.lt
 obtain ⟨A',n',c',qs,lp,hL⟩ := h
 have hbW : Below w.heap.size w (w.alloc (.cells #[.pointer (some ⟨g,0,none⟩)] 56)) := (Below.refl _ _).alloc (Nat.le_refl _) _
 have c1 : (w.alloc (.cells #[.pointer (some ⟨g,0,none⟩)] 56)).cell? ⟨g,1,none⟩ = some (.pointer (some ⟨gd,0,none⟩)) := held_cell hbW hL.cells.2.1
 have HC2 : Hid ((w.alloc (.cells #[.pointer (some ⟨g,0,none⟩)] 56)).cell? ⟨g,2,none⟩ = some (.int .i64 l.base)) := hid (held_cell hbW hL.cells.2.2.1)
 have hc0 : (w.alloc (.cells #[.pointer (some ⟨g,0,none⟩)] 56)).cell? ⟨w.heap.size,0,none⟩ = some (.pointer (some ⟨g,0,none⟩)) := by simp
 have HBW := hid hbW
 have HDW := hid (hdk.new hbW)
 have HZ : Hid (w.heap.size < (w.alloc (.cells #[.pointer (some ⟨g,0,none⟩)] 56)).heap.size) := hid (by simp)
 clear hL hbW hdk
 generalize hW : w.alloc (.cells #[.pointer (some ⟨g,0,none⟩)] 56) = W at *
 generalize hs0 : w.heap.size = s0 at hc0
 have HS0 := hid hs0
 go_enter Tryz.func94,Tryz.ntmps94
 go_wp2_with fail
 refine (Disk.files_any F gd d _ HDW.out).mono ?_
 rintro e w1 ⟨A1,c1',rfl,hown1,hb1⟩
 have hown2 : w1.ownsRow W.heap.size 3 1 (.slice A1 (d.files.map (·.id)).length c1') (d.files.map (·.id)).length (iv (d.files.map (·.id))) := hown1
 have HO1 := hid hown2
 have HB1 := hid hb1
 have HC0 := hid (held_cell hb1 hc0)
 clear hown1 hown2 hb1 hW hs0 hc0
 generalize d.files.map (·.id) = ks at *
 go_wp2_with fail
 refine (delfunc_any g s0 l.base ks A1 c1' W.heap.size _ HO1.out HC0.out (held_cell HB1.out HC2.out) h0 h1 (by rw [<- HS0.out]; exact HZ.out) (by have := HBW.out.size; have := HZ.out; omega)).mono ?_
 rintro e w2 ⟨A2,rfl,hr2,hl2,hb2⟩
 rw [HKS.out] at hr2 hl2 ⊢
 have HR2 := hid hr2
 have HL2 := hid (hl2.mono (S' := (w.heap.size <= ·)) fun b hb => Nat.le_trans HBW.out.size hb)
 have HB2 := hid ((held_two HBW.out HB1.out).trans (hb2.mono HBW.out.size))
 clear hr2 hl2 hb2
 go_wp2
 go_ret
 exact ⟨A2,c1',by rw [List.length_map]; rfl,HR2.out,HL2.out,HB2.out⟩
theorem seg_done {W : World} {s0 : Nat} {tmps : Array Value} {Q : Ending -> World -> Prop} {a b z : Int} {v e : Value} (hbk : Blk W s0 172 #[.int .i64 a,.int .i64 b,v,.int .i64 z]) (hv : ∃ A n c,v = .slice A n c) (h4 : tmps[4]?.getD undef = .pointer (some ⟨s0,0,none⟩)) (h5 : tmps[5]?.getD undef = e)
 (h : Q (.returned (.tuple #[.agg #[.int .i64 a,.int .i64 b,v,.int .i64 z],e])) W) : bodyPost Tryz.prog Tryz.f158 Q .ret ⟨tmps,[]⟩ W := by
 obtain ⟨A,n,c,rfl⟩ := hv
 have f0 : W.cell? ⟨s0,0,none⟩ = some (.int .i64 a) := hbk.cell 0
 have f1 : W.cell? ⟨s0,1,none⟩ = some (.int .i64 b) := hbk.cell 1
 have f2 : W.cell? ⟨s0,2,none⟩ = some (.slice A n c) := hbk.cell 2
 have f3 : W.cell? ⟨s0,3,none⟩ = some (.int .i64 z) := hbk.cell 3
 refine bodyPost_ret (v := .tuple #[.agg #[.int .i64 a,.int .i64 b,.slice A n c,.int .i64 z],e]) ?_ rfl h
 simp [results,Tryz.results158,go_sem,h4,h5,f0,f1,f2,f3]
def SegIn (w : World) (f : Int) (r : SegMath.Sr) (e : Ending) (w' : World) : Prop :=
 ∃ A c,e = .returned (.tuple #[.agg #[.int .i64 f,.int .i64 r.x,.slice A r.rows.length c,.int .i64 r.n],.int .i64 r.e]) /\ ListsIn w' (w.heap.size <= ·) A r.rows.length c r.rows /\ Below w.heap.size w w'
theorem segin_any (F G : Nat -> Prop) (g gd : Nat) (l : Lg) (d : Dk) (f : Int) (x : Fl) (w : World) (h : LogAt G w g gd l) (hdk : DiskAt F w gd d) (hI : I64 f) (hx : DiskMath.seek d.files f = some x) (hn : x.b.length <= 35184372088832) :
 Calls Tryz.prog 158 #[.pointer (some ⟨g,0,none⟩),.int .i64 f] w (SegIn w f (SegMath.sread x.b)) := by
 obtain ⟨A',n',c',qs,lp,hL⟩ := h
 have hbW : Below w.heap.size w (w.alloc (.cells #[.int .i64 0,.int .i64 0,.slice none 0 0,.int .i64 0] 172)) := (Below.refl _ _).alloc (Nat.le_refl _) _
 have c1 : (w.alloc (.cells #[.int .i64 0,.int .i64 0,.slice none 0 0,.int .i64 0] 172)).cell? ⟨g,1,none⟩ = some (.pointer (some ⟨gd,0,none⟩)) := held_cell hbW hL.cells.2.1
 have HBK := hid (Blk.new w 172 #[.int .i64 0,.int .i64 0,.slice none 0 0,.int .i64 0])
 have HBW := hid hbW
 have HDW := hid (hdk.new hbW)
 have HX := hid hx
 clear hL hbW hdk hx
 generalize hW : w.alloc (.cells #[.int .i64 0,.int .i64 0,.slice none 0 0,.int .i64 0] 172) = W at *
 generalize hs0 : w.heap.size = s0 at HBK
 have HS0 := hid hs0
 go_enter Tryz.func158,Tryz.ntmps158
 go_wp2_with fail
 refine (Disk.read_yes F gd d f x _ HDW.out hI HX.out (by omega)).mono ?_
 rintro e w1 ⟨A1,c1',rfl,hown1,hb1⟩
 have HY1 := hid (Bytes.of_own hown1)
 have HB1 := hid hb1
 clear hown1 hb1 c1
 go_wp2_with fail
 refine (Seg.segread_any _ A1 x.b.length c1' x.b _ HY1.out (Nat.le_refl _) hn).mono ?_
 rintro e w2 ⟨A2,c2,rfl,hl2,hb2⟩
 have HL2 := hid hl2
 have HB2 := hid (held_call HB1.out hb2)
 have HBK2 := hid (HBK.out.below HB2.out HBK.out.lt)
 have HNS : Hid (¬ w1.heap.size <= s0) := fun h => by have := HBK.out.lt; have := HB1.out.size; omega
 have HZ := hid HB1.out.size
 clear hl2 hb2 hW
 generalize hsr : SegMath.sread x.b = sr at *
 obtain ⟨rx,rr,rn,re⟩ := sr
 dsimp only at *
 have d0 := HBK2.out.cell 0
 have d1 := HBK2.out.cell 1
 have d2 := HBK2.out.cell 2
 have d3 := HBK2.out.cell 3
 have z0 := HBK2.out.frozen 0
 have z1 := HBK2.out.frozen 1
 have z2 := HBK2.out.frozen 2
 have z3 := HBK2.out.frozen 3
 generalize hrl : rr.length = rl at *
 have HRL := hid hrl
 clear hrl hs0
 go_wp2
 refine seg_done ((((HBK2.out.set_ 0 (.int .i64 f)).set_ 1 (.int .i64 rx)).set_ 2 (.slice A2 rl c2)).set_ 3 (.int .i64 rn)) ⟨_,_,_,rfl⟩ rfl rfl ?_
 refine ⟨A2,c2,by rw [HRL.out]; rfl,?_,?_⟩
 ·rw [HRL.out]
  exact ((((HL2.out.setCell (p := ⟨s0,0,none⟩) HNS.out _).setCell (p := ⟨s0,1,none⟩) HNS.out _).setCell (p := ⟨s0,2,none⟩) HNS.out _).setCell (p := ⟨s0,3,none⟩) HNS.out _).mono fun b (hb : w1.heap.size <= b) => by
   have := HBW.out.size
   have := HZ.out
   show w.heap.size <= b
   omega
 ·have hb := held_two HBW.out HB2.out
  exact (((hb.setCell (by dsimp only; rw [<- HS0.out]; exact Nat.le_refl _) _).setCell (by dsimp only; rw [<- HS0.out]; exact Nat.le_refl _) _).setCell (by dsimp only; rw [<- HS0.out]; exact Nat.le_refl _) _).setCell (by dsimp only; rw [<- HS0.out]; exact Nat.le_refl _) _
end Wal
end Go.Proofs.YtefnmnpfecfdaaaGreat
