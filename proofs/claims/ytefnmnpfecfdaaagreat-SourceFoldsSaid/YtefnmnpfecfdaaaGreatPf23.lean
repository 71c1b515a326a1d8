/-
  Texts of one proof: WalPlan.
-/
import Derived.Test.YtefnmnpfecfdaaaGreatPf22
set_option linter.all false
set_option maxRecDepth 100000
set_option maxHeartbeats 1600000
open Go.Lib (hid)
namespace Go.Proofs.YtefnmnpfecfdaaaGreat
namespace Wal
open Go.RowKit Base WalMath
open FieldMath (err got)
open Disk (DiskAt I64 Fits)
open Foot (Turn Out)
open DiskMath (Fl Dk)
theorem hasroom_any (G : Nat -> Prop) (g gd : Nat) (l : Lg) (f x : Int) (A : Option Addr) (r c z n : Nat) (w : World) (h : LogAt G w g gd l) (hz : z <= 35184372088832) (hn : n <= 35184372088832) :
 Calls Tryz.prog 222 #[.pointer (some ⟨g,0,none⟩),.agg #[.int .i64 f,.int .i64 x,.slice A r c,.int .i64 z],.int .i64 n] w fun e w' => e = .returned (.bool (decide (r = 0) || decide ((z : Int) + n <= l.size))) /\ Below w.heap.size w w' := by
 obtain ⟨A',n',c',qs,lp,h⟩ := h
 have c3 : ∀ o,(w.alloc o).cell? ⟨g,3,none⟩ = some (.int .i64 l.size) := fun o => Lib.cell?_alloc_some o h.cells.2.2.2.1
 clear h
 have hw : IntKind.i64.wrap ((z : Int) + n) = z + n := IntWalk.i64_in _ (by omega)
 by_cases h0 : r = 0
 ·subst h0
  go_enter Tryz.func222,Tryz.ntmps222
  go_wp2
  go_quiet (fail)
  go_wp2
  go_ret
  exact ⟨rfl,below_drewN ((Below.refl _ _).alloc (Nat.le_refl _) _) nq⟩
 ·have h1 : ((r : Int) == 0) = false := by simp; omega
  have HR := hid (show decide (r = 0) = false by simpa using h0)
  clear h0
  generalize l.size = sz at *
  go_enter Tryz.func222,Tryz.ntmps222
  go_wp2
  go_quiet (fail)
  go_wp2
  go_ret
  exact ⟨by rw [HR.out]; rfl,below_drewN ((Below.refl _ _).alloc (Nat.le_refl _) _) nq⟩
theorem nextfile_any (G : Nat -> Prop) (g gd : Nat) (l : Lg) (w : World) (h : LogAt G w g gd l) (ho : Ok l) :
 Calls Tryz.prog 223 #[.pointer (some ⟨g,0,none⟩)] w fun e w' => e = .returned (.int .i64 (nextF l)) /\ Below w.heap.size w w' := by
 obtain ⟨A,n,c,qs,lp,h⟩ := h
 have c0 := h.cells.1
 have c2 := h.cells.2.2.1
 have hlen := h.len
 rcases List.eq_nil_or_concat l.segs with e | ⟨pre,s,e⟩
 ·have HN := hid (show nextF l = l.base by rw [nextF,e]; rfl)
  rw [e] at hlen
  obtain rfl : 0 = n := hlen
  clear h ho e
  go_enter Tryz.func223,Tryz.ntmps223
  go_wp2
  go_ret
  exact ⟨by rw [HN.out]; rfl,Below.refl _ _⟩
 ·rw [List.concat_eq_append] at e
  have HN := hid (show nextF l = s.file + 1 by rw [nextF,e]; simp)
  rw [e,List.length_append,List.length_singleton] at hlen
  obtain ⟨b,q,rfl,_,_,hb,hpn,⟨hnc,hcm⟩,_,k0,k1,k2,k3⟩ := h.at_ (k := pre.length) (s := s) (by rw [e]; simp)
  have hs := ho.2.2.2.2 s (by rw [e]; simp)
  obtain ⟨h1,h2,_⟩ := hs
  clear h ho e k1 k2 k3
  generalize pre.length = p at *
  generalize s.file = f at *
  have hwp : IntKind.i64.wrap ((n : Int) - 1) = p := by rw [IntWalk.i64_in _ (by omega)]; omega
  have hwf : IntKind.i64.wrap (f + 1) = f + 1 := IntWalk.i64_in _ (by omega)
  have hn0 : ((n : Int) == 0) = false := by simp; omega
  clear hlen
  go_enter Tryz.func223,Tryz.ntmps223
  go_wp2
  go_quiet (fail)
  go_wp2
  go_ret
  exact ⟨by rw [HN.out]; rfl,below_drewN (Below.refl _ _) nq⟩
def pcv (p : Pc) : Value := .agg #[.int .i64 p.file,.int .i64 p.had,.bool p.begins]
def Planned (w : World) (r : Except Nat (Pc × List UInt8)) (e : Ending) (w' : World) : Prop := match r with
 | .error k => e = .returned (.tuple #[.agg #[.int .i64 0,.int .i64 0,.bool false],.slice none 0 0,.int .i64 k]) /\ Below w.heap.size w w'
 | .ok (at_,b) => ∃ A c,e = .returned (.tuple #[pcv at_,.slice A b.length c,.int .i64 0]) /\ w'.ownsRow w.heap.size 5 1 (.slice A b.length c) b.length (bv b) /\ Below w.heap.size w w'
theorem plan_done {W : World} {s0 : Nat} {tmps : Array Value} {Q : Ending -> World -> Prop} {a b : Int} {c : Bool} {v e : Value} (hbk : Blk W s0 244 #[.int .i64 a,.int .i64 b,.bool c]) (h4 : tmps[4]?.getD undef = .pointer (some ⟨s0,0,none⟩)) (h5 : tmps[5]?.getD undef = v) (h6 : tmps[6]?.getD undef = e)
 (h : Q (.returned (.tuple #[.agg #[.int .i64 a,.int .i64 b,.bool c],v,e])) W) : bodyPost Tryz.prog Tryz.f171 Q .ret ⟨tmps,[]⟩ W := by
 have f0 : W.cell? ⟨s0,0,none⟩ = some (.int .i64 a) := hbk.cell 0
 have f1 : W.cell? ⟨s0,1,none⟩ = some (.int .i64 b) := hbk.cell 1
 have f2 : W.cell? ⟨s0,2,none⟩ = some (.bool c) := hbk.cell 2
 refine bodyPost_ret (v := .tuple #[.agg #[.int .i64 a,.int .i64 b,.bool c],v,e]) ?_ rfl h
 simp [results,Tryz.results171,go_sem,h4,h5,h6,f0,f1,f2]
theorem plan_bad (B : Nat) (A : Option Addr) (n c : Nat) (p : List UInt8) (r : Except Nat (Pc × List UInt8)) (g : Nat) (w : World) (hr : Bytes w B A n c p) (hB : B <= w.heap.size) (hbig : 1048576 < p.length) (hE : r = .error 1) :
 Calls Tryz.prog 171 #[.pointer (some ⟨g,0,none⟩),.slice A n c] w (Planned w r) := by
 have HP := hid (show RecMath.put p = .error 1 by unfold RecMath.put; rw [if_pos hbig])
 have HR := hid hr
 have HE := hid hE
 clear hbig hr hE
 go_enter Tryz.func171,Tryz.ntmps171
 go_wp2_with fail
 refine (Rec.put_any B A n c p _ (HR.out.alloc hB _) (by simp; omega)).mono ?_
 rintro e w1 ⟨A1,n1,c1,rfl,ho1,hb1⟩
 rw [HP.out,show err (Except.error 1 : Except Nat (List UInt8)) = 1 from rfl]
 have HB2 := hid (held_two ((Below.refl w.heap.size w).alloc (Nat.le_refl _) _) hb1)
 have HBK : Hid (Blk w1 w.heap.size 244 #[.int .i64 0,.int .i64 0,.bool false]) := (hb1.block _ (by simp)).trans (heap_alloc_new w _)
 have d0 := HBK.out.cell 0
 have d1 := HBK.out.cell 1
 have d2 := HBK.out.cell 2
 have z0 := HBK.out.frozen 0
 have z1 := HBK.out.frozen 1
 have z2 := HBK.out.frozen 2
 clear ho1 hb1
 go_wp2
 refine plan_done (((HBK.out.set_ 0 (.int .i64 0)).set_ 1 (.int .i64 0)).set_ 2 (.bool false)) rfl rfl rfl ?_
 rw [HE.out]
 exact ⟨rfl,((HB2.out.setCell (Nat.le_refl _) _).setCell (Nat.le_refl _) _).setCell (Nat.le_refl _) _⟩
theorem plan_off (F G : Nat -> Prop) (g gd : Nat) (l : Lg) (d : Dk) (B : Nat) (A : Option Addr) (n c : Nat) (p : List UInt8) (r : Except Nat (Pc × List UInt8)) (w : World) (h : LogAt G w g gd l) (hdk : DiskAt F w gd d) (ho : Ok l) (hr : Bytes w B A n c p) (hB : B <= w.heap.size) (hbig : ¬ 1048576 < p.length) (hoff : d.off = true) (hE : r = .error 8) :
 Calls Tryz.prog 171 #[.pointer (some ⟨g,0,none⟩),.slice A n c] w (Planned w r) := by
 have HL := hid h
 have HD := hid hdk
 have HO := hid ho
 have HR := hid hr
 have HE := hid hE
 clear h hdk hr ho hE
 have HP := hid (show RecMath.put p = .ok (RecMath.recB p) by unfold RecMath.put; rw [if_neg hbig])
 have hrl : (RecMath.recB p).length = 8 + p.length := RecMath.recB_length p
 have HRL := hid hrl
 have hpl : p.length <= 1048576 := by omega
 have HOFF := hid hoff
 clear hbig hoff
 go_enter Tryz.func171,Tryz.ntmps171
 go_wp2_with fail
 refine (Rec.put_any B A n c p _ (HR.out.alloc hB _) (by simp; omega)).mono ?_
 rintro e w1 ⟨A1,n1,c1,rfl,ho1,hb1⟩
 rw [HP.out] at ho1
 rw [HP.out,show err (Except.ok (RecMath.recB p)) = 0 from rfl]
 have hB1 := held_two ((Below.refl w.heap.size w).alloc (Nat.le_refl _) _) hb1
 have HBK : Hid (Blk w1 w.heap.size 244 #[.int .i64 0,.int .i64 0,.bool false]) := (hb1.block _ (by simp)).trans (heap_alloc_new w _)
 have HY2 : Hid (w1.ownsRow w.heap.size 5 1 (.slice A1 n1 c1) n1 (bv (RecMath.recB p))) := own_mono ho1 (by simp)
 have HB2 := hid hB1
 have HL2 := hid (HL.out.new hB1)
 have HD1 := hid (HD.out.new hB1)
 have HN1 : Hid (n1 = 8 + p.length) := by have := HY2.out.1; rw [bv_length,hrl,Nat.mul_one] at this; exact this.symm
 have hn1b : n1 <= 1048584 := by have := HN1.out; omega
 clear hrl
 obtain ⟨Aa,na,ca,qsa,lpa,hLa⟩ := HL2.out
 have e1 := hLa.cells.2.1
 have e0 := hLa.cells.1
 have e2 := hLa.cells.2.2.1
 have hlenA := hLa.len
 have HLa := hid hLa
 clear ho1 hb1 hB1 hLa
 go_wp2_with fail
 refine (Disk.down_any F gd d _ HD1.out).mono ?_
 rintro e w1' ⟨rfl,rfl⟩
 rw [HOFF.out]
 clear HOFF HD1 HP HR HL
 have d0 := HBK.out.cell 0
 have d1 := HBK.out.cell 1
 have d2 := HBK.out.cell 2
 have z0 := HBK.out.frozen 0
 have z1 := HBK.out.frozen 1
 have z2 := HBK.out.frozen 2
 clear e0 e2 e1 hlenA
 go_wp2
 refine plan_done (((HBK.out.set_ 0 (.int .i64 0)).set_ 1 (.int .i64 0)).set_ 2 (.bool false)) rfl rfl rfl ?_
 rw [HE.out]
 exact ⟨rfl,((HB2.out.setCell (Nat.le_refl _) _).setCell (Nat.le_refl _) _).setCell (Nat.le_refl _) _⟩
theorem plan_max (F G : Nat -> Prop) (g gd : Nat) (l : Lg) (d : Dk) (B : Nat) (A : Option Addr) (n c : Nat) (p : List UInt8) (r : Except Nat (Pc × List UInt8)) (w : World) (h : LogAt G w g gd l) (hdk : DiskAt F w gd d) (ho : Ok l) (hr : Bytes w B A n c p) (hB : B <= w.heap.size) (hbig : ¬ 1048576 < p.length) (hoff : d.off = false) (hmax : hd l.segs = 1099511627776) (hE : r = .error 7) :
 Calls Tryz.prog 171 #[.pointer (some ⟨g,0,none⟩),.slice A n c] w (Planned w r) := by
 have HL := hid h
 have HD := hid hdk
 have HO := hid ho
 have HR := hid hr
 have HE := hid hE
 clear h hdk hr ho hE
 have HP := hid (show RecMath.put p = .ok (RecMath.recB p) by unfold RecMath.put; rw [if_neg hbig])
 have hrl : (RecMath.recB p).length = 8 + p.length := RecMath.recB_length p
 have HRL := hid hrl
 have hpl : p.length <= 1048576 := by omega
 have HOFF := hid hoff
 clear hbig hoff
 go_enter Tryz.func171,Tryz.ntmps171
 go_wp2_with fail
 refine (Rec.put_any B A n c p _ (HR.out.alloc hB _) (by simp; omega)).mono ?_
 rintro e w1 ⟨A1,n1,c1,rfl,ho1,hb1⟩
 rw [HP.out] at ho1
 rw [HP.out,show err (Except.ok (RecMath.recB p)) = 0 from rfl]
 have hB1 := held_two ((Below.refl w.heap.size w).alloc (Nat.le_refl _) _) hb1
 have HBK : Hid (Blk w1 w.heap.size 244 #[.int .i64 0,.int .i64 0,.bool false]) := (hb1.block _ (by simp)).trans (heap_alloc_new w _)
 have HY2 : Hid (w1.ownsRow w.heap.size 5 1 (.slice A1 n1 c1) n1 (bv (RecMath.recB p))) := own_mono ho1 (by simp)
 have HB2 := hid hB1
 have HL2 := hid (HL.out.new hB1)
 have HD1 := hid (HD.out.new hB1)
 have HN1 : Hid (n1 = 8 + p.length) := by have := HY2.out.1; rw [bv_length,hrl,Nat.mul_one] at this; exact this.symm
 have hn1b : n1 <= 1048584 := by have := HN1.out; omega
 clear hrl
 obtain ⟨Aa,na,ca,qsa,lpa,hLa⟩ := HL2.out
 have e1 := hLa.cells.2.1
 have e0 := hLa.cells.1
 have e2 := hLa.cells.2.2.1
 have hlenA := hLa.len
 have HLa := hid hLa
 clear ho1 hb1 hB1 hLa
 go_wp2_with fail
 refine (Disk.down_any F gd d _ HD1.out).mono ?_
 rintro e w1' ⟨rfl,rfl⟩
 rw [HOFF.out]
 clear HOFF HD1 HP HR HL
 have hhb := hd_bd HO.out.2.2.2.2
 go_wp2_with fail
 refine (head_any G g gd l _ HL2.out HO.out.2.2.2.2).mono ?_
 rintro e w2 ⟨rfl,hb2⟩
 replace HB2 := hid (held_two HB2.out hb2)
 replace HY2 := hid (own_keep HY2.out hb2)
 replace HBK := hid (HBK.out.below hb2 HBK.out.lt)
 replace HL2 := hid (HL2.out.new hb2)
 replace e0 := held_cell hb2 e0
 replace e2 := held_cell hb2 e2
 replace HLa := hid (HLa.out.new hb2)
 clear hb2 e1
 rw [hmax]
 have d0 := HBK.out.cell 0
 have d1 := HBK.out.cell 1
 have d2 := HBK.out.cell 2
 have z0 := HBK.out.frozen 0
 have z1 := HBK.out.frozen 1
 have z2 := HBK.out.frozen 2
 clear e0 e2 hlenA hmax
 go_wp2
 refine plan_done (((HBK.out.set_ 0 (.int .i64 0)).set_ 1 (.int .i64 0)).set_ 2 (.bool false)) rfl rfl rfl ?_
 rw [HE.out]
 exact ⟨rfl,((HB2.out.setCell (Nat.le_refl _) _).setCell (Nat.le_refl _) _).setCell (Nat.le_refl _) _⟩
theorem plan_none (F G : Nat -> Prop) (g gd : Nat) (l : Lg) (d : Dk) (B : Nat) (A : Option Addr) (n c : Nat) (p : List UInt8) (r : Except Nat (Pc × List UInt8)) (w : World) (h : LogAt G w g gd l) (hdk : DiskAt F w gd d) (ho : Ok l) (hr : Bytes w B A n c p) (hB : B <= w.heap.size) (hbig : ¬ 1048576 < p.length) (hoff : d.off = false) (hmax : ¬ hd l.segs = 1099511627776) (hnil : l.segs = []) (hE : r = fresh l p) :
 Calls Tryz.prog 171 #[.pointer (some ⟨g,0,none⟩),.slice A n c] w (Planned w r) := by
 have HL := hid h
 have HD := hid hdk
 have HO := hid ho
 have HR := hid hr
 have HE := hid hE
 clear h hdk hr ho hE
 have HP := hid (show RecMath.put p = .ok (RecMath.recB p) by unfold RecMath.put; rw [if_neg hbig])
 have hrl : (RecMath.recB p).length = 8 + p.length := RecMath.recB_length p
 have HRL := hid hrl
 have hpl : p.length <= 1048576 := by omega
 have HOFF := hid hoff
 clear hbig hoff
 go_enter Tryz.func171,Tryz.ntmps171
 go_wp2_with fail
 refine (Rec.put_any B A n c p _ (HR.out.alloc hB _) (by simp; omega)).mono ?_
 rintro e w1 ⟨A1,n1,c1,rfl,ho1,hb1⟩
 rw [HP.out] at ho1
 rw [HP.out,show err (Except.ok (RecMath.recB p)) = 0 from rfl]
 have hB1 := held_two ((Below.refl w.heap.size w).alloc (Nat.le_refl _) _) hb1
 have HBK : Hid (Blk w1 w.heap.size 244 #[.int .i64 0,.int .i64 0,.bool false]) := (hb1.block _ (by simp)).trans (heap_alloc_new w _)
 have HY2 : Hid (w1.ownsRow w.heap.size 5 1 (.slice A1 n1 c1) n1 (bv (RecMath.recB p))) := own_mono ho1 (by simp)
 have HB2 := hid hB1
 have HL2 := hid (HL.out.new hB1)
 have HD1 := hid (HD.out.new hB1)
 have HN1 : Hid (n1 = 8 + p.length) := by have := HY2.out.1; rw [bv_length,hrl,Nat.mul_one] at this; exact this.symm
 have hn1b : n1 <= 1048584 := by have := HN1.out; omega
 clear hrl
 obtain ⟨Aa,na,ca,qsa,lpa,hLa⟩ := HL2.out
 have e1 := hLa.cells.2.1
 have e0 := hLa.cells.1
 have e2 := hLa.cells.2.2.1
 have hlenA := hLa.len
 have HLa := hid hLa
 clear ho1 hb1 hB1 hLa
 go_wp2_with fail
 refine (Disk.down_any F gd d _ HD1.out).mono ?_
 rintro e w1' ⟨rfl,rfl⟩
 rw [HOFF.out]
 clear HOFF HD1 HP HR HL
 have hhb := hd_bd HO.out.2.2.2.2
 go_wp2_with fail
 refine (head_any G g gd l _ HL2.out HO.out.2.2.2.2).mono ?_
 rintro e w2 ⟨rfl,hb2⟩
 replace HB2 := hid (held_two HB2.out hb2)
 replace HY2 := hid (own_keep HY2.out hb2)
 replace HBK := hid (HBK.out.below hb2 HBK.out.lt)
 replace HL2 := hid (HL2.out.new hb2)
 replace e0 := held_cell hb2 e0
 replace e2 := held_cell hb2 e2
 replace HLa := hid (HLa.out.new hb2)
 clear hb2 e1
 have hne : (hd l.segs == 1099511627776) = false := by simpa using hmax
 rw [hnil] at hlenA
 obtain rfl : 0 = na := hlenA
 clear HLa hnil
 go_wp2_with fail
 refine (nextfile_any G g gd l _ HL2.out HO.out).mono ?_
 rintro e w4 ⟨rfl,hb4⟩
 replace HB2 := hid (held_two HB2.out hb4)
 replace HY2 := hid (own_keep HY2.out hb4)
 replace HBK := hid (HBK.out.below hb4 HBK.out.lt)
 replace HL2 := hid (HL2.out.new hb4)
 replace e0 := held_cell hb4 e0
 replace e2 := held_cell hb4 e2
 clear hb4
 have hwb : IntKind.i64.wrap (l.base + 4096) = l.base + 4096 := by have := HO.out.1; have := HO.out.2.1; exact IntWalk.i64_in _ (by omega)
 by_cases hful : l.base + 4096 <= nextF l
 ·replace HE := hid (show r = .error 7 by rw [HE.out,fresh,if_pos hful])
  have hfd : decide (l.base + 4096 <= nextF l) = true := by simpa using hful
  clear hful hne
  generalize nextF l = nf at *
  generalize l.base = ba at *
  have d0 := HBK.out.cell 0
  have d1 := HBK.out.cell 1
  have d2 := HBK.out.cell 2
  have z0 := HBK.out.frozen 0
  have z1 := HBK.out.frozen 1
  have z2 := HBK.out.frozen 2
  go_wp2
  refine plan_done (((HBK.out.set_ 0 (.int .i64 0)).set_ 1 (.int .i64 0)).set_ 2 (.bool false)) rfl rfl rfl ?_
  rw [HE.out]
  exact ⟨rfl,((HB2.out.setCell (Nat.le_refl _) _).setCell (Nat.le_refl _) _).setCell (Nat.le_refl _) _⟩
 ·replace HE := hid (show r = .ok (⟨nextF l,0,true⟩,SegMath.headB (hd l.segs + 1) ++ RecMath.recB p) by rw [HE.out,fresh,if_neg hful])
  have hfd : decide (l.base + 4096 <= nextF l) = false := by simpa using hful
  have HHD := hid (show SegMath.head (hd l.segs + 1) = .ok (SegMath.headB (hd l.segs + 1)) by unfold SegMath.head; rw [if_pos ⟨by omega,by omega⟩])
  have hwh : IntKind.i64.wrap (hd l.segs + 1) = hd l.segs + 1 := IntWalk.i64_in _ (by omega)
  clear hful hmax hne
  generalize nextF l = nf at *
  go_wp2_with fail
  refine (head_any G g gd l _ HL2.out HO.out.2.2.2.2).mono ?_
  rintro e w5 ⟨rfl,hb5⟩
  replace HB2 := hid (held_two HB2.out hb5)
  replace HY2 := hid (own_keep HY2.out hb5)
  replace HBK := hid (HBK.out.below hb5 HBK.out.lt)
  replace HL2 := hid (HL2.out.new hb5)
  replace e0 := held_cell hb5 e0
  replace e2 := held_cell hb5 e2
  clear hb5 hfd
  go_wp2_with fail
  refine (Seg.head_any (hd l.segs + 1) _).mono ?_
  rintro e w6 ⟨A6,n6,c6,rfl,ho6,hb6⟩
  rw [HHD.out] at ho6
  rw [HHD.out,show err (Except.ok (SegMath.headB (hd l.segs + 1))) = 0 from rfl]
  have HO6 : Hid (w6.ownsRow w.heap.size 5 1 (.slice A6 n6 c6) n6 (bv (SegMath.headB (hd l.segs + 1)))) := own_mono ho6 HB2.out.size
  have HN6 : Hid (n6 = 19) := by have := ho6.1; rw [show got (Except.ok (SegMath.headB (hd l.segs + 1))) = SegMath.headB (hd l.segs + 1) from rfl,bv_length,SegMath.headB_length,Nat.mul_one] at this; exact this.symm
  have hn6b : n6 <= 19 := by have := HN6.out; omega
  have HLB := hid (SegMath.headB_length (hd l.segs + 1))
  replace HB2 := hid (held_two HB2.out hb6)
  replace HY2 := hid (own_keep HY2.out hb6)
  replace HBK := hid (HBK.out.below hb6 HBK.out.lt)
  replace HL2 := hid (HL2.out.new hb6)
  replace e0 := held_cell hb6 e0
  replace e2 := held_cell hb6 e2
  clear hb6 ho6 HHD hhb e0 e2 hwh hwb
  have HYY : Hid (Bytes w6 w6.heap.size A1 n1 c1 (RecMath.recB p)) := Bytes.of_own HY2.out
  generalize SegMath.headB (hd l.segs + 1) = hB0 at *
  generalize hd l.segs = hh at *
  go_wp2_with (first
   | (at_builtin
      refine wpList_append_row rfl (.tmp 94) (.tmp 95) rfl Field.eb w.heap.size _ n6 (bv hB0) rfl HO6.out w6.heap.size A1 n1 c1 (bv (RecMath.recB p)) rfl HYY.out (bv_one _) (by omega) (by omega) HB2.out.size ?_
      intro A7 c7 w7 hown7 hg7 hb7
      rw [<- bv_append] at hown7
      have HO7 := hid hown7
      have HB7 := hid (HB2.out.trans hb7)
      have HBK7 : Hid (Blk w7 w.heap.size 244 #[.int .i64 0,.int .i64 0,.bool false]) := Blk.grown HBK.out hg7.1 (fun e => by
       obtain ⟨cur,hc⟩ := Foot.own_type HO6.out (g := w.heap.size) e.symm
       have a := HBK.out
       unfold Blk at a
       rw [hc] at a
       cases a)
      have d0 := HBK7.out.cell 0
      have d1 := HBK7.out.cell 1
      have d2 := HBK7.out.cell 2
      have z0 := HBK7.out.frozen 0
      have z1 := HBK7.out.frozen 1
      have z2 := HBK7.out.frozen 2
      clear hown7 hg7 hb7)
   | fail)
  refine plan_done (((HBK7.out.set_ 0 (.int .i64 nf)).set_ 1 (.int .i64 0)).set_ 2 (.bool true)) rfl rfl rfl ?_
  rw [HE.out]
  have hl7 : n6 + n1 = (hB0 ++ RecMath.recB p).length := by rw [List.length_append,HLB.out,HRL.out,HN1.out,HN6.out]
  refine ⟨A7,c7,by rw [<- hl7]; rfl,?_,((HB7.out.setCell (Nat.le_refl _) _).setCell (Nat.le_refl _) _).setCell (Nat.le_refl _) _⟩
  rw [<- hl7]
  refine Foot.own_same HO7.out fun b hb => ?_
  obtain ⟨cur,hc⟩ := Foot.own_type HO7.out hb
  have hne : b ≠ w.heap.size := fun e => by
   have a := HBK7.out
   unfold Blk at a
   rw [<- e,hc] at a
   cases a
  rw [Below.heap_setCell _ _ _ _ hne,Below.heap_setCell _ _ _ _ hne,Below.heap_setCell _ _ _ _ hne]
theorem plan_full (F G : Nat -> Prop) (g gd : Nat) (l : Lg) (d : Dk) (B : Nat) (A : Option Addr) (n c : Nat) (p : List UInt8) (r : Except Nat (Pc × List UInt8)) (w : World) (h : LogAt G w g gd l) (hdk : DiskAt F w gd d) (ho : Ok l) (hr : Bytes w B A n c p) (hB : B <= w.heap.size) (hbig : ¬ 1048576 < p.length) (hoff : d.off = false) (hmax : ¬ hd l.segs = 1099511627776) (s : Sg) (hsome : l.segs.getLast? = some s) (hrm : room l s (8 + p.length) = false) (hE : r = fresh l p) :
 Calls Tryz.prog 171 #[.pointer (some ⟨g,0,none⟩),.slice A n c] w (Planned w r) := by
 have HL := hid h
 have HD := hid hdk
 have HO := hid ho
 have HR := hid hr
 have HE := hid hE
 clear h hdk hr ho hE
 have HP := hid (show RecMath.put p = .ok (RecMath.recB p) by unfold RecMath.put; rw [if_neg hbig])
 have hrl : (RecMath.recB p).length = 8 + p.length := RecMath.recB_length p
 have HRL := hid hrl
 have hpl : p.length <= 1048576 := by omega
 have HOFF := hid hoff
 clear hbig hoff
 go_enter Tryz.func171,Tryz.ntmps171
 go_wp2_with fail
 refine (Rec.put_any B A n c p _ (HR.out.alloc hB _) (by simp; omega)).mono ?_
 rintro e w1 ⟨A1,n1,c1,rfl,ho1,hb1⟩
 rw [HP.out] at ho1
 rw [HP.out,show err (Except.ok (RecMath.recB p)) = 0 from rfl]
 have hB1 := held_two ((Below.refl w.heap.size w).alloc (Nat.le_refl _) _) hb1
 have HBK : Hid (Blk w1 w.heap.size 244 #[.int .i64 0,.int .i64 0,.bool false]) := (hb1.block _ (by simp)).trans (heap_alloc_new w _)
 have HY2 : Hid (w1.ownsRow w.heap.size 5 1 (.slice A1 n1 c1) n1 (bv (RecMath.recB p))) := own_mono ho1 (by simp)
 have HB2 := hid hB1
 have HL2 := hid (HL.out.new hB1)
 have HD1 := hid (HD.out.new hB1)
 have HN1 : Hid (n1 = 8 + p.length) := by have := HY2.out.1; rw [bv_length,hrl,Nat.mul_one] at this; exact this.symm
 have hn1b : n1 <= 1048584 := by have := HN1.out; omega
 clear hrl
 obtain ⟨Aa,na,ca,qsa,lpa,hLa⟩ := HL2.out
 have e1 := hLa.cells.2.1
 have e0 := hLa.cells.1
 have e2 := hLa.cells.2.2.1
 have hlenA := hLa.len
 have HLa := hid hLa
 clear ho1 hb1 hB1 hLa
 go_wp2_with fail
 refine (Disk.down_any F gd d _ HD1.out).mono ?_
 rintro e w1' ⟨rfl,rfl⟩
 rw [HOFF.out]
 clear HOFF HD1 HP HR HL
 have hhb := hd_bd HO.out.2.2.2.2
 go_wp2_with fail
 refine (head_any G g gd l _ HL2.out HO.out.2.2.2.2).mono ?_
 rintro e w2 ⟨rfl,hb2⟩
 replace HB2 := hid (held_two HB2.out hb2)
 replace HY2 := hid (own_keep HY2.out hb2)
 replace HBK := hid (HBK.out.below hb2 HBK.out.lt)
 replace HL2 := hid (HL2.out.new hb2)
 replace e0 := held_cell hb2 e0
 replace e2 := held_cell hb2 e2
 replace HLa := hid (HLa.out.new hb2)
 clear hb2 e1
 have hne : (hd l.segs == 1099511627776) = false := by simpa using hmax
 have hgl : l.segs.getLast? = some s := hsome
 obtain ⟨pre,hcon⟩ := List.getLast?_eq_some_iff.1 hsome
 rw [hcon,List.length_append,List.length_singleton] at hlenA
 have hsk := HO.out.2.2.2.2 s (by rw [hcon]; simp)
 obtain ⟨b,q,rfl,_,_,hb,hpn,⟨hnc,hcm⟩,_,k0,k1,k2,k3⟩ := HLa.out.at_ (k := pre.length) (s := s) (by rw [hcon]; simp)
 have HRM := hid (show room l s (8 + p.length) = (decide (s.rows.length = 0) || decide ((s.size : Int) + ((8 + p.length : Nat) : Int) <= l.size)) from rfl)
 have hz := hsk.2.2.2.2.1
 have HRMV := hid hrm
 clear HLa hcon hgl hsome hrm
 generalize pre.length = pp at *
 have hwp : IntKind.i64.wrap ((na : Int) - 1) = pp := by rw [IntWalk.i64_in _ (by omega)]; omega
 have hna : decide (0 < (na : Int)) = true := by simp; omega
 clear hlenA
 go_wp2_with fail
 refine (hasroom_any G g gd l s.file s.first q.A s.rows.length q.c s.size n1 _ HL2.out hz (by omega)).mono ?_
 rintro e w3 ⟨rfl,hb3⟩
 rw [HN1.out,<- HRM.out,HRMV.out,<- HN1.out]
 replace k0 := held_cell hb3 k0
 replace k1 := held_cell hb3 k1
 replace k2 := held_cell hb3 k2
 replace k3 := held_cell hb3 k3
 replace HB2 := hid (held_two HB2.out hb3)
 replace HY2 := hid (own_keep HY2.out hb3)
 replace HBK := hid (HBK.out.below hb3 HBK.out.lt)
 replace HL2 := hid (HL2.out.new hb3)
 replace e0 := held_cell hb3 e0
 replace e2 := held_cell hb3 e2
 clear hb3
 clear k0 k1 k2 k3
 go_wp2_with fail
 refine (nextfile_any G g gd l _ HL2.out HO.out).mono ?_
 rintro e w4 ⟨rfl,hb4⟩
 replace HB2 := hid (held_two HB2.out hb4)
 replace HY2 := hid (own_keep HY2.out hb4)
 replace HBK := hid (HBK.out.below hb4 HBK.out.lt)
 replace HL2 := hid (HL2.out.new hb4)
 replace e0 := held_cell hb4 e0
 replace e2 := held_cell hb4 e2
 clear hb4
 have hwb : IntKind.i64.wrap (l.base + 4096) = l.base + 4096 := by have := HO.out.1; have := HO.out.2.1; exact IntWalk.i64_in _ (by omega)
 by_cases hful : l.base + 4096 <= nextF l
 ·replace HE := hid (show r = .error 7 by rw [HE.out,fresh,if_pos hful])
  have hfd : decide (l.base + 4096 <= nextF l) = true := by simpa using hful
  clear hful hne
  generalize nextF l = nf at *
  generalize l.base = ba at *
  have d0 := HBK.out.cell 0
  have d1 := HBK.out.cell 1
  have d2 := HBK.out.cell 2
  have z0 := HBK.out.frozen 0
  have z1 := HBK.out.frozen 1
  have z2 := HBK.out.frozen 2
  go_wp2
  refine plan_done (((HBK.out.set_ 0 (.int .i64 0)).set_ 1 (.int .i64 0)).set_ 2 (.bool false)) rfl rfl rfl ?_
  rw [HE.out]
  exact ⟨rfl,((HB2.out.setCell (Nat.le_refl _) _).setCell (Nat.le_refl _) _).setCell (Nat.le_refl _) _⟩
 ·replace HE := hid (show r = .ok (⟨nextF l,0,true⟩,SegMath.headB (hd l.segs + 1) ++ RecMath.recB p) by rw [HE.out,fresh,if_neg hful])
  have hfd : decide (l.base + 4096 <= nextF l) = false := by simpa using hful
  have HHD := hid (show SegMath.head (hd l.segs + 1) = .ok (SegMath.headB (hd l.segs + 1)) by unfold SegMath.head; rw [if_pos ⟨by omega,by omega⟩])
  have hwh : IntKind.i64.wrap (hd l.segs + 1) = hd l.segs + 1 := IntWalk.i64_in _ (by omega)
  clear hful hmax hne
  generalize nextF l = nf at *
  go_wp2_with fail
  refine (head_any G g gd l _ HL2.out HO.out.2.2.2.2).mono ?_
  rintro e w5 ⟨rfl,hb5⟩
  replace HB2 := hid (held_two HB2.out hb5)
  replace HY2 := hid (own_keep HY2.out hb5)
  replace HBK := hid (HBK.out.below hb5 HBK.out.lt)
  replace HL2 := hid (HL2.out.new hb5)
  replace e0 := held_cell hb5 e0
  replace e2 := held_cell hb5 e2
  clear hb5 hfd
  go_wp2_with fail
  refine (Seg.head_any (hd l.segs + 1) _).mono ?_
  rintro e w6 ⟨A6,n6,c6,rfl,ho6,hb6⟩
  rw [HHD.out] at ho6
  rw [HHD.out,show err (Except.ok (SegMath.headB (hd l.segs + 1))) = 0 from rfl]
  have HO6 : Hid (w6.ownsRow w.heap.size 5 1 (.slice A6 n6 c6) n6 (bv (SegMath.headB (hd l.segs + 1)))) := own_mono ho6 HB2.out.size
  have HN6 : Hid (n6 = 19) := by have := ho6.1; rw [show got (Except.ok (SegMath.headB (hd l.segs + 1))) = SegMath.headB (hd l.segs + 1) from rfl,bv_length,SegMath.headB_length,Nat.mul_one] at this; exact this.symm
  have hn6b : n6 <= 19 := by have := HN6.out; omega
  have HLB := hid (SegMath.headB_length (hd l.segs + 1))
  replace HB2 := hid (held_two HB2.out hb6)
  replace HY2 := hid (own_keep HY2.out hb6)
  replace HBK := hid (HBK.out.below hb6 HBK.out.lt)
  replace HL2 := hid (HL2.out.new hb6)
  replace e0 := held_cell hb6 e0
  replace e2 := held_cell hb6 e2
  clear hb6 ho6 HHD hhb e0 e2 hwh hwb
  have HYY : Hid (Bytes w6 w6.heap.size A1 n1 c1 (RecMath.recB p)) := Bytes.of_own HY2.out
  generalize SegMath.headB (hd l.segs + 1) = hB0 at *
  generalize hd l.segs = hh at *
  go_wp2_with (first
   | (at_builtin
      refine wpList_append_row rfl (.tmp 94) (.tmp 95) rfl Field.eb w.heap.size _ n6 (bv hB0) rfl HO6.out w6.heap.size A1 n1 c1 (bv (RecMath.recB p)) rfl HYY.out (bv_one _) (by omega) (by omega) HB2.out.size ?_
      intro A7 c7 w7 hown7 hg7 hb7
      rw [<- bv_append] at hown7
      have HO7 := hid hown7
      have HB7 := hid (HB2.out.trans hb7)
      have HBK7 : Hid (Blk w7 w.heap.size 244 #[.int .i64 0,.int .i64 0,.bool false]) := Blk.grown HBK.out hg7.1 (fun e => by
       obtain ⟨cur,hc⟩ := Foot.own_type HO6.out (g := w.heap.size) e.symm
       have a := HBK.out
       unfold Blk at a
       rw [hc] at a
       cases a)
      have d0 := HBK7.out.cell 0
      have d1 := HBK7.out.cell 1
      have d2 := HBK7.out.cell 2
      have z0 := HBK7.out.frozen 0
      have z1 := HBK7.out.frozen 1
      have z2 := HBK7.out.frozen 2
      clear hown7 hg7 hb7)
   | fail)
  refine plan_done (((HBK7.out.set_ 0 (.int .i64 nf)).set_ 1 (.int .i64 0)).set_ 2 (.bool true)) rfl rfl rfl ?_
  rw [HE.out]
  have hl7 : n6 + n1 = (hB0 ++ RecMath.recB p).length := by rw [List.length_append,HLB.out,HRL.out,HN1.out,HN6.out]
  refine ⟨A7,c7,by rw [<- hl7]; rfl,?_,((HB7.out.setCell (Nat.le_refl _) _).setCell (Nat.le_refl _) _).setCell (Nat.le_refl _) _⟩
  rw [<- hl7]
  refine Foot.own_same HO7.out fun b hb => ?_
  obtain ⟨cur,hc⟩ := Foot.own_type HO7.out hb
  have hne : b ≠ w.heap.size := fun e => by
   have a := HBK7.out
   unfold Blk at a
   rw [<- e,hc] at a
   cases a
  rw [Below.heap_setCell _ _ _ _ hne,Below.heap_setCell _ _ _ _ hne,Below.heap_setCell _ _ _ _ hne]
theorem plan_room (F G : Nat -> Prop) (g gd : Nat) (l : Lg) (d : Dk) (B : Nat) (A : Option Addr) (n c : Nat) (p : List UInt8) (r : Except Nat (Pc × List UInt8)) (w : World) (h : LogAt G w g gd l) (hdk : DiskAt F w gd d) (ho : Ok l) (hr : Bytes w B A n c p) (hB : B <= w.heap.size) (hbig : ¬ 1048576 < p.length) (hoff : d.off = false) (hmax : ¬ hd l.segs = 1099511627776) (s : Sg) (hsome : l.segs.getLast? = some s) (hrm : room l s (8 + p.length) = true) (hE : r = .ok (⟨s.file,s.size,false⟩,RecMath.recB p)) :
 Calls Tryz.prog 171 #[.pointer (some ⟨g,0,none⟩),.slice A n c] w (Planned w r) := by
 have HL := hid h
 have HD := hid hdk
 have HO := hid ho
 have HR := hid hr
 have HE := hid hE
 clear h hdk hr ho hE
 have HP := hid (show RecMath.put p = .ok (RecMath.recB p) by unfold RecMath.put; rw [if_neg hbig])
 have hrl : (RecMath.recB p).length = 8 + p.length := RecMath.recB_length p
 have HRL := hid hrl
 have hpl : p.length <= 1048576 := by omega
 have HOFF := hid hoff
 clear hbig hoff
 go_enter Tryz.func171,Tryz.ntmps171
 go_wp2_with fail
 refine (Rec.put_any B A n c p _ (HR.out.alloc hB _) (by simp; omega)).mono ?_
 rintro e w1 ⟨A1,n1,c1,rfl,ho1,hb1⟩
 rw [HP.out] at ho1
 rw [HP.out,show err (Except.ok (RecMath.recB p)) = 0 from rfl]
 have hB1 := held_two ((Below.refl w.heap.size w).alloc (Nat.le_refl _) _) hb1
 have HBK : Hid (Blk w1 w.heap.size 244 #[.int .i64 0,.int .i64 0,.bool false]) := (hb1.block _ (by simp)).trans (heap_alloc_new w _)
 have HY2 : Hid (w1.ownsRow w.heap.size 5 1 (.slice A1 n1 c1) n1 (bv (RecMath.recB p))) := own_mono ho1 (by simp)
 have HB2 := hid hB1
 have HL2 := hid (HL.out.new hB1)
 have HD1 := hid (HD.out.new hB1)
 have HN1 : Hid (n1 = 8 + p.length) := by have := HY2.out.1; rw [bv_length,hrl,Nat.mul_one] at this; exact this.symm
 have hn1b : n1 <= 1048584 := by have := HN1.out; omega
 clear hrl
 obtain ⟨Aa,na,ca,qsa,lpa,hLa⟩ := HL2.out
 have e1 := hLa.cells.2.1
 have e0 := hLa.cells.1
 have e2 := hLa.cells.2.2.1
 have hlenA := hLa.len
 have HLa := hid hLa
 clear ho1 hb1 hB1 hLa
 go_wp2_with fail
 refine (Disk.down_any F gd d _ HD1.out).mono ?_
 rintro e w1' ⟨rfl,rfl⟩
 rw [HOFF.out]
 clear HOFF HD1 HP HR HL
 have hhb := hd_bd HO.out.2.2.2.2
 go_wp2_with fail
 refine (head_any G g gd l _ HL2.out HO.out.2.2.2.2).mono ?_
 rintro e w2 ⟨rfl,hb2⟩
 replace HB2 := hid (held_two HB2.out hb2)
 replace HY2 := hid (own_keep HY2.out hb2)
 replace HBK := hid (HBK.out.below hb2 HBK.out.lt)
 replace HL2 := hid (HL2.out.new hb2)
 replace e0 := held_cell hb2 e0
 replace e2 := held_cell hb2 e2
 replace HLa := hid (HLa.out.new hb2)
 clear hb2 e1
 have hne : (hd l.segs == 1099511627776) = false := by simpa using hmax
 have hgl : l.segs.getLast? = some s := hsome
 obtain ⟨pre,hcon⟩ := List.getLast?_eq_some_iff.1 hsome
 rw [hcon,List.length_append,List.length_singleton] at hlenA
 have hsk := HO.out.2.2.2.2 s (by rw [hcon]; simp)
 obtain ⟨b,q,rfl,_,_,hb,hpn,⟨hnc,hcm⟩,_,k0,k1,k2,k3⟩ := HLa.out.at_ (k := pre.length) (s := s) (by rw [hcon]; simp)
 have HRM := hid (show room l s (8 + p.length) = (decide (s.rows.length = 0) || decide ((s.size : Int) + ((8 + p.length : Nat) : Int) <= l.size)) from rfl)
 have hz := hsk.2.2.2.2.1
 have HRMV := hid hrm
 clear HLa hcon hgl hsome hrm
 generalize pre.length = pp at *
 have hwp : IntKind.i64.wrap ((na : Int) - 1) = pp := by rw [IntWalk.i64_in _ (by omega)]; omega
 have hna : decide (0 < (na : Int)) = true := by simp; omega
 clear hlenA
 go_wp2_with fail
 refine (hasroom_any G g gd l s.file s.first q.A s.rows.length q.c s.size n1 _ HL2.out hz (by omega)).mono ?_
 rintro e w3 ⟨rfl,hb3⟩
 rw [HN1.out,<- HRM.out,HRMV.out,<- HN1.out]
 replace k0 := held_cell hb3 k0
 replace k1 := held_cell hb3 k1
 replace k2 := held_cell hb3 k2
 replace k3 := held_cell hb3 k3
 replace HB2 := hid (held_two HB2.out hb3)
 replace HY2 := hid (own_keep HY2.out hb3)
 replace HBK := hid (HBK.out.below hb3 HBK.out.lt)
 replace HL2 := hid (HL2.out.new hb3)
 replace e0 := held_cell hb3 e0
 replace e2 := held_cell hb3 e2
 clear hb3
 have d0 : ∀ o,(w3.alloc o).cell? ⟨w.heap.size,0,none⟩ = some (.int .i64 0) := fun o => Lib.cell?_alloc_some o (HBK.out.cell 0)
 have d1 : ∀ o,(w3.alloc o).cell? ⟨w.heap.size,1,none⟩ = some (.int .i64 0) := fun o => Lib.cell?_alloc_some o (HBK.out.cell 1)
 have d2 : ∀ o,(w3.alloc o).cell? ⟨w.heap.size,2,none⟩ = some (.bool false) := fun o => Lib.cell?_alloc_some o (HBK.out.cell 2)
 have z0 : ∀ o,(w3.alloc o).frozen? ⟨w.heap.size,0,none⟩ = false := fun o => (HBK.out.alloc o).frozen 0
 have z1 : ∀ o,(w3.alloc o).frozen? ⟨w.heap.size,1,none⟩ = false := fun o => (HBK.out.alloc o).frozen 1
 have z2 : ∀ o,(w3.alloc o).frozen? ⟨w.heap.size,2,none⟩ = false := fun o => (HBK.out.alloc o).frozen 2
 generalize s.rows.length = rr at *
 generalize s.file = f at *
 generalize s.first = x at *
 generalize s.size = z at *
 go_wp2
 refine plan_done ((((HBK.out.alloc _).set_ 0 (.int .i64 f)).set_ 1 (.int .i64 z)).set_ 2 (.bool false)) rfl rfl rfl ?_
 rw [HE.out]
 have hl7 : n1 = (RecMath.recB p).length := by rw [HRL.out,HN1.out]
 refine ⟨A1,c1,by rw [<- hl7]; rfl,?_,(((held_alloc HB2.out _).setCell (Nat.le_refl _) _).setCell (Nat.le_refl _) _).setCell (Nat.le_refl _) _⟩
 rw [<- hl7]
 refine Foot.own_same HY2.out fun b hb => ?_
 obtain ⟨cur,hc⟩ := Foot.own_type HY2.out hb
 have hne : b ≠ w.heap.size := fun e => by
  have a := HBK.out
  unfold Blk at a
  rw [<- e,hc] at a
  cases a
 rw [Below.heap_setCell _ _ _ _ hne,Below.heap_setCell _ _ _ _ hne,Below.heap_setCell _ _ _ _ hne]
 exact Below.heap_alloc w3 _ b (Array.getElem?_eq_some_iff.1 hc).1
theorem plan_any (F G : Nat -> Prop) (g gd : Nat) (l : Lg) (d : Dk) (B : Nat) (A : Option Addr) (n c : Nat) (p : List UInt8) (w : World) (h : LogAt G w g gd l) (hdk : DiskAt F w gd d) (ho : Ok l) (hr : Bytes w B A n c p) (hB : B <= w.heap.size) :
 Calls Tryz.prog 171 #[.pointer (some ⟨g,0,none⟩),.slice A n c] w (Planned w (plan l d.off p)) := by
 unfold plan
 by_cases hbig : 1048576 < p.length
 ·rw [if_pos hbig]
  exact plan_bad B A n c p _ g w hr hB hbig rfl
 ·rw [if_neg hbig]
  cases hoff : d.off with
  | true => exact plan_off F G g gd l d B A n c p _ w h hdk ho hr hB hbig hoff rfl
  | false =>
    rw [if_neg (by simp)]
    by_cases hmax : hd l.segs = 1099511627776
    ·rw [if_pos hmax]
     exact plan_max F G g gd l d B A n c p _ w h hdk ho hr hB hbig hoff hmax rfl
    ·rw [if_neg hmax]
     cases hs : l.segs.getLast? with
     | none => exact plan_none F G g gd l d B A n c p _ w h hdk ho hr hB hbig hoff hmax (List.getLast?_eq_none_iff.1 hs) (spot_none hs)
     | some s =>
       cases hrm : room l s (8 + p.length) with
       | true => exact plan_room F G g gd l d B A n c p _ w h hdk ho hr hB hbig hoff hmax s hs hrm (spot_room hs hrm)
       | false => exact plan_full F G g gd l d B A n c p _ w h hdk ho hr hB hbig hoff hmax s hs hrm (spot_full hs hrm)
end Wal
end Go.Proofs.YtefnmnpfecfdaaaGreat
