/-
  Texts of one proof: WalAppend.
-/
import Derived.Test.YtefnmnpfecfdaaaGreatPf24
set_option linter.all false
set_option maxRecDepth 100000
set_option maxHeartbeats 6400000
open Go.Lib (hid)
namespace Go.Proofs.YtefnmnpfecfdaaaGreat
namespace Wal
open Go.RowKit Base WalMath Last
open Disk (DiskAt I64 Fits)
open Foot (Turn Out own_same own_type)
open DiskMath (Fl Dk)
theorem step_append_lists {w : World} {ops : Array Oper} {o : Oper} {a : Act} {K : Act -> World -> Prop} {Q : Exit -> Act -> World -> Prop} {E : Prop} (hgd : o.guard = none) (s x : Operand)
 (ho : o.op = .call { callee := .builtin .append,args := #[s,x],argTypes := #[81,81] }) {S : Nat -> Prop} {n c : Nat} {A : Option Addr} {l : List (List UInt8)} (hl : ListsIn w S A n c l) {base : Nat} {A1 : Option Addr} {n1 c1 : Nat} {p : List UInt8}
 (hown : w.ownsRow base 5 1 (.slice A1 n1 c1) n1 (bv p)) (hS : ∀ b,(Value.slice A1 n1 c1).ownBlock = some b -> S b) {B : Nat} {ad : Addr} (hr : Row w B 1 (some ad) 1 1 [.slice A1 n1 c1]) (hn : n <= 1099511627776) (hs : a.eval s = .slice A n c) (hx : a.eval x = .slice (some ad) 1 1)
 (h : ∀ A' c' w',Entered w S A n l p A' c' w' -> K (a.put o.dst (.slice A' (n + 1) c')) w') :
 if Region.wanted o (yielded ops a.tmps) = true then Oper.wp Tryz.prog o a w K Q else E := by
 have hw : Region.wanted o (yielded ops a.tmps) = true := by simp [Region.wanted,hgd]
 rw [if_pos hw]
 obtain ⟨A',c',w',hrun,h2⟩ := run_append_lists w o.type hl hown hS hr hn
 unfold Oper.wp execOp
 simp only [ho,resolve,invoke,builtin,Sem.run_bind,Sem.run_pure,Result.andThen_ok,List.map_toArray,List.map_cons,List.map_nil,hs,hx,hrun]
 exact h A' c' w' h2
theorem enter_old (G : Nat -> Prop) (g gd : Nat) (l : Lg) (p : Pc) (z : Nat) (pre : List Sg) (s : Sg) (A : Option Addr) (n c : Nat) (b : List UInt8) (w : World) (h : LogAt G w g gd l) (hseg : l.segs = pre ++ [s]) (hs : SgOk s) (hz : z <= 1099511627776) (hbg : p.begins = false) (hr : Bytes w w.heap.size A n c b) (hn : n <= 1048576) :
 Calls Tryz.prog 174 #[.pointer (some ⟨g,0,none⟩),pcv p,.int .i64 z,.slice A n c] w fun e w' => e = .returned (.tuple #[]) /\ LogAt (Out G w w') w' g gd { l with segs := pre ++ [{ s with rows := s.rows ++ [b],size := s.size + z }] } /\ Turn G w w' := by
 obtain ⟨Al,nl,cl,qs,lp,hL⟩ := h
 have HR := hid hr
 have hlen := hL.len
 rw [hseg,List.length_append,List.length_singleton] at hlen
 have hHW : Below w.heap.size w (w.alloc (.cells #[.int .i64 p.file,.int .i64 p.had,.bool p.begins] 244)) := (Below.refl _ _).alloc (Nat.le_refl _) _
 have HL := hid (hL.new hHW)
 have HW := hid hHW
 have hbc : (w.alloc (.cells #[.int .i64 p.file,.int .i64 p.had,.bool p.begins] 244)).cell? ⟨w.heap.size,2,none⟩ = some (.bool false) := by rw [<- hbg]; exact (Blk.new w 244 #[.int .i64 p.file,.int .i64 p.had,.bool p.begins]).cell 2
 obtain ⟨b2,q,rfl,hq,hGb,hb,hpn,⟨hnc,hcm⟩,hE,k0,k1,k2,k3⟩ := (hL.new hHW).at_ (k := pre.length) (s := s) (by rw [hseg]; simp)
 have c0 := HL.out.cells.1
 have hq' : ∃ qp,qs = qp ++ [(s,q)] /\ qp.length = pre.length /\ qp.map (·.1) = pre := by
  have hm := hL.1
  rw [hseg] at hm
  rcases List.eq_nil_or_concat qs with e | ⟨qp,x,e⟩
  ·rw [e] at hm; simp at hm
  ·rw [List.concat_eq_append] at e
   subst e
   rw [List.map_append,List.map_cons,List.map_nil] at hm
   have hm2 := List.append_inj_left' hm rfl
   have hl2 : qp.length = pre.length := by rw [<- hm2,List.length_map]
   rw [<- hl2] at hq
   simp at hq
   subst hq
   exact ⟨qp,rfl,hl2,hm2⟩
 obtain ⟨qp,rfl,hql,hqm⟩ := hq'
 have hnb := hs.bd.1
 have hzs := hs.2.2.2.2.1
 clear hL hHW hq hr hs hbg
 unfold pcv
 go_enter Tryz.func174,Tryz.ntmps174
 rw [<- hql] at hpn k0 k1 k2 k3 hlen
 generalize hW : w.alloc (.cells #[.int .i64 p.file,.int .i64 p.had,.bool p.begins] 244) = W at *
 have HTW : Hid (Turn G w W) := Turn.new HW.out
 have HYW : Hid (Bytes W W.heap.size A n c b) := (HR.out.below HW.out).more HW.out.size
 obtain ⟨ll,hll⟩ : ∃ ll,ll = l := ⟨_,rfl⟩
 obtain ⟨GG,hGG⟩ : ∃ GG,GG = G := ⟨_,rfl⟩
 rw [<- hGG,<- hll] at HL
 have HGG : Hid (∀ i,GG i -> G i \/ (w.heap.size <= i /\ i < W.heap.size)) := fun i hi => .inl (by rw [<- hGG]; exact hi)
 have HFIN : Hid ({ l with segs := pre ++ [{ s with rows := s.rows ++ [b],size := s.size + z }] } = { ll with segs := qp.map (·.1) ++ [{ s with rows := s.rows ++ [b],size := s.size + z }] }) := hid (by rw [hqm,hll])
 clear HR hE hb hGG hll
 go_wp2_with fail
 clear hW
 obtain ⟨kk,hkk⟩ : ∃ kk,kk = qp.length := ⟨_,rfl⟩
 rw [<- hkk] at hpn k0 k1 k2 k3 hlen
 have HKK := hid hkk
 have hwp : IntKind.i64.wrap ((nl : Int) - 1) = kk := by rw [IntWalk.i64_in _ (by omega)]; omega
 clear hkk hlen
 go_quiet (fail)
 generalize hw3 : W.drewN nq = W3
 have HL3 : Hid (Laid GG W3 g gd ll (some ⟨b2,0,none⟩) nl cl (qp ++ [(s,q)]) lp) := by rw [<- hw3]; exact HL.out
 have HG3 : Hid (∀ i,GG i -> G i \/ (w.heap.size <= i /\ i < W3.heap.size)) := by rw [<- hw3]; exact HGG.out
 have HB3 : Hid (Turn G w W3) := by rw [<- hw3]; exact HTW.out.drewN nq
 have e2 : W3.cell? ⟨b2,kk * 4 + 2,none⟩ = some (.slice q.A s.rows.length q.c) := by rw [<- hw3]; exact k2
 have HY3 : Hid (Bytes W3 W3.heap.size A n c b) := by rw [<- hw3]; exact HYW.out.drewN nq
 clear hw3 k0 k1 k2 k3 c0 HL HTW HYW hwp
 go_wp2_with fail
 have HE3 : Hid (ListsIn W3 GG q.A s.rows.length q.c s.rows) := HL3.out.2.2.2.1.2.2.1 (s,q) (by simp)
 obtain ⟨rl,hrl⟩ : ∃ rl,rl = s.rows.length := ⟨_,rfl⟩
 have HRL := hid hrl
 rw [<- hrl] at e2 hnb
 clear hrl
 refine wp_region_last_at (S := fun w' => w'.cell? ⟨b2,kk * 4 + 2,none⟩ = some (.slice q.A rl q.c)) 11 _ rfl rfl (by kernel_rfl) (by kernel_rfl) (by kernel_rfl) e2 (fun hHeld => ?_)
 simp only [List.take_succ_cons,List.take_zero]
 refine wpAnyH_take (i := 0) (v := ?av0) rfl (by kernel_rfl) (by kernel_rfl) (by kernel_rfl) (fun _ _ _ h => h) (Or.inl ⟨by rfl,?ay0⟩) (by assumption) ?ar0
 case ay0 => (intro w hSw; (try dsimp only at hSw); go_simp; try with_reducible rfl)
 try simp only [Act.put,Base.px]
 refine wpAnyH_take (i := 1) (v := ?av1) rfl (by kernel_rfl) (by kernel_rfl) (by kernel_rfl) (fun _ _ _ h => h) (Or.inl ⟨by rfl,?ay1⟩) (by assumption) ?ar1
 case ay1 => (intro w hSw; (try dsimp only at hSw); go_simp; try with_reducible rfl)
 try simp only [Act.put,Base.px]
 refine wpAnyH_take (i := 2) (v := ?av2) rfl (by kernel_rfl) (by kernel_rfl) (by kernel_rfl) (fun _ _ _ h => h) (Or.inl ⟨by rfl,?ay2⟩) (by assumption) ?ar2
 case ay2 => (intro w hSw; (try dsimp only at hSw); go_simp; try with_reducible rfl)
 try simp only [Act.put,Base.px]
 refine wpAnyH_take (i := 3) (v := ?av3) rfl (by kernel_rfl) (by kernel_rfl) (by kernel_rfl) (fun _ _ _ h => h) (Or.inl ⟨by rfl,?ay3⟩) (by assumption) ?ar3
 case ay3 => (intro w hSw; (try dsimp only at hSw); go_simp; try with_reducible rfl)
 try simp only [Act.put,Base.px]
 refine wpAnyH_take (i := 4) (v := ?av4) rfl (by kernel_rfl) (by kernel_rfl) (by kernel_rfl) (fun _ _ _ h => h) (Or.inl ⟨by rfl,?ay4⟩) (by assumption) ?ar4
 case ay4 => (intro w hSw; (try dsimp only at hSw); go_simp; try with_reducible rfl)
 try simp only [Act.put,Base.px]
 refine wpAnyH_take (i := 5) (v := ?av5) rfl (by kernel_rfl) (by kernel_rfl) (by kernel_rfl) (fun _ _ _ h => h) (Or.inl ⟨by rfl,?ay5⟩) (by assumption) ?ar5
 case ay5 => (intro w hSw; (try dsimp only at hSw); go_simp; try with_reducible rfl)
 try simp only [Act.put,Base.px]
 refine wpAnyH_ready (rs := [6]) (by kernel_rfl) (by simp) ?_
 refine AllReadyH.cons rfl (fun K hK => ?_) AllReadyH.nil
 go_simp
 refine (Disk.clone_any W3.heap.size A n c b _ (HY3.out.drewN 1) (Nat.le_refl _) (by omega)).mono ?_
 rintro e w4 ⟨A4,c4,rfl,hown4,hb4⟩
 replace hb4 := below_of_drew hb4
 refine hK.out _ _ (held_cell hb4 e2) (fun hHeld => ?_)
 clear hK K
 try simp only [Act.put,Base.px]
 refine wpAnyH_ready (rs := [7]) (by kernel_rfl) (by simp) ?_
 refine AllReadyH.cons rfl (fun K hK => ?_) AllReadyH.nil
 go_simp
 have hb5 : Below W3.heap.size W3 (w4.alloc (.cells #[.slice A4 n c4] 68)) := hb4.alloc hb4.size _
 refine hK.out _ _ (held_cell hb5 e2) (fun hHeld => ?_)
 clear hK K
 try simp only [Act.put,Base.px]
 refine wpAnyH_ready (rs := [8]) (by kernel_rfl) (by simp) ?_
 refine AllReadyH.cons rfl (fun K hK => ?_) AllReadyH.nil
 have hLl : ListsIn (w4.alloc (.cells #[.slice A4 n c4] 68)) (fun i => GG i \/ (W3.heap.size <= i /\ i < w4.heap.size)) q.A rl q.c s.rows := by
  have := (HE3.out.below hb5).mono (S' := fun i => GG i \/ (W3.heap.size <= i /\ i < w4.heap.size)) fun i hi => .inl hi
  rw [<- HRL.out] at this
  exact this
 refine step_append_lists (by rfl) (.tmp 47) (.tmp 50) (by rfl) hLl (hown4.alloc _) (fun i hi => .inr ⟨(hown4.lt i hi).1,(hown4.lt i hi).2⟩) (one_slice w4 68 A4 n c4 rfl) hnb (by rfl) (by rfl) ?_
 intro A6 c6 w6 hent
 have e6 : w6.cell? ⟨b2,kk * 4 + 2,none⟩ = some (.slice q.A rl q.c) := by
  obtain ⟨cur,hc⟩ := own_type HL3.out.2.2.2.1.1 (g := b2) rfl
  have h1 : (w4.alloc (.cells #[.slice A4 n c4] 68)).heap[b2]? = some (.cells cur 172 (0,0)) := (hb5.block b2 (Array.getElem?_eq_some_iff.1 hc).1).trans hc
  have h2 := kept_type hent.2.1 (fun i hi => (ListsIn.row_lt hLl hi).2) (by decide) h1
  exact (World.cell?_of_block (h2.trans hc.symm)).trans e2
 refine hK.out _ _ e6 (fun hHeld => ?_)
 clear hK K
 try simp only [Act.put,Base.px]
 refine wpAnyH_take (i := 9) (v := ?bv9) rfl (by kernel_rfl) (by kernel_rfl) (by kernel_rfl) (fun _ _ _ h => h) (Or.inl ⟨by rfl,?by9⟩) (by assumption) ?br9
 case by9 => (intro w hSw; (try dsimp only at hSw); go_simp; try with_reducible rfl)
 try simp only [Act.put,Base.px]
 refine wpAnyH_take (i := 10) (v := ?bv10) rfl (by kernel_rfl) (by kernel_rfl) (by kernel_rfl) (fun _ _ _ h => h) (Or.inl ⟨by rfl,?by10⟩) (by assumption) ?br10
 case by10 => (intro w hSw; (try dsimp only at hSw); go_simp; try with_reducible rfl)
 try simp only [Act.put,Base.px]
 refine wpAnyH_done (by kernel_rfl) ?_ _
 refine then_normal rfl ?_
 have hL5 : Laid (fun i => GG i \/ (W3.heap.size <= i /\ i < w4.heap.size)) (w4.alloc (.cells #[.slice A4 n c4] 68)) g gd ll (some ⟨b2,0,none⟩) nl cl (qp ++ [(s,q)]) lp := (HL3.out.new hb5).mono fun i hi => .inl hi
 have hent2 : Entered (w4.alloc (.cells #[.slice A4 n c4] 68)) (fun i => GG i \/ (W3.heap.size <= i /\ i < w4.heap.size)) q.A s.rows.length s.rows b A6 c6 w6 := by rw [<- HRL.out]; exact hent
 have hst := hL5.entry hent2
 rw [<- HKK.out,<- HRL.out] at hst
 have hst2 := hst.1.sized (s.size + z)
 rw [<- HKK.out] at hst2
 have z2 : w6.frozen? ⟨b2,kk * 4 + 2,none⟩ = false := by
  obtain ⟨cur,hc⟩ := own_type HL3.out.2.2.2.1.1 (g := b2) rfl
  have h1 : (w4.alloc (.cells #[.slice A4 n c4] 68)).heap[b2]? = some (.cells cur 172 (0,0)) := (hb5.block b2 (Array.getElem?_eq_some_iff.1 hc).1).trans hc
  have h2 := kept_type hent.2.1 (fun i hi => (ListsIn.row_lt hLl hi).2) (by decide) h1
  exact frozen_of_row _ b2 _ _ _ h2
 obtain ⟨b2',q',hbb,_,_,_,_,_,_,_,_,_,k3⟩ := hst.1.at_ (k := kk) (s := { s with rows := s.rows ++ [b] }) (by rw [HKK.out]; show (qp.map (·.1) ++ [_])[qp.length]? = _; rw [List.getElem?_append_right (by simp)]; simp)
 obtain rfl : b2 = b2' := by injection hbb with hbb; injection hbb
 have z3 := hst.1.2.2.2.1.1.frozenAt (kk * 4 + 3)
 have HT6 : Hid (Turn G w (((w6.setCell ⟨b2,kk * 4 + 2,none⟩ (.slice A6 (rl + 1) c6))).setCell ⟨b2,kk * 4 + 3,none⟩ (.int .i64 (s.size + z : Nat)))) := by
  have t1 : Turn G w (w4.alloc (.cells #[.slice A4 n c4] 68)) := HB3.out.trans (F' := G) (Turn.new hb5) fun _ hi => .inl hi
  have t2 := t1.trans hst.2 fun i hi => by
   rcases hi with hi | hi
   ·exact (HG3.out i hi).imp id fun h => h.1
   ·exact .inr (Nat.le_trans HB3.out.size hi.1)
  refine t2.trans hst2.2 fun i hi => ?_
  rcases hi with (hi | hi) | hi
  ·exact (HG3.out i hi).imp id fun h => h.1
  ·exact .inr (Nat.le_trans HB3.out.size hi.1)
  ·exact .inr (Nat.le_trans t1.size hi.1)
 have HL6 := hid (hst2.1.mono (G' := Out G w (((w6.setCell ⟨b2,kk * 4 + 2,none⟩ (.slice A6 (rl + 1) c6))).setCell ⟨b2,kk * 4 + 3,none⟩ (.int .i64 (s.size + z : Nat)))) fun i hi => by
  have hz6 : w6.heap.size <= (((w6.setCell ⟨b2,kk * 4 + 2,none⟩ (.slice A6 (rl + 1) c6))).setCell ⟨b2,kk * 4 + 3,none⟩ (.int .i64 (s.size + z : Nat))).heap.size := by simp
  have hz5 := hent.2.1.size
  have hz4 : w4.heap.size <= (w4.alloc (.cells #[.slice A4 n c4] 68)).heap.size := by simp
  rcases hi with (hi | hi) | hi
  ·rcases HG3.out i hi with h | h
   ·exact .inl h
   ·exact .inr ⟨h.1,by have := hb5.size; omega⟩
  ·exact .inr ⟨Nat.le_trans HB3.out.size hi.1,by omega⟩
  ·exact .inr ⟨Nat.le_trans HB3.out.size (Nat.le_trans hb5.size hi.1),by omega⟩)
 have hwz : IntKind.i64.wrap ((s.size : Int) + z) = ((s.size + z : Nat) : Int) := by rw [IntWalk.i64_in _ (by omega)]; omega
 clear hst hst2 hent hent2 hL5 hLl hb5 hb4 hown4 HE3 HL3 hHeld e2
 dsimp only at k3
 go_wp2
 go_end0
 rw [HFIN.out]
 exact ⟨rfl,⟨_,_,_,_,_,HL6.out⟩,HT6.out⟩
theorem enter_new (G : Nat -> Prop) (g gd : Nat) (l : Lg) (p : Pc) (z : Nat) (A : Option Addr) (n c : Nat) (b : List UInt8) (w : World) (h : LogAt G w g gd l) (ho : ∀ s ∈ l.segs,SgOk s) (hN : l.segs.length <= 16384) (hz : z <= 1099511627776) (hbg : p.begins = true) (hr : Bytes w w.heap.size A n c b) (hli : Lies (fun i => ¬ G i) A n) (hn : n <= 1048576) :
 Calls Tryz.prog 174 #[.pointer (some ⟨g,0,none⟩),pcv p,.int .i64 z,.slice A n c] w fun e w' => e = .returned (.tuple #[]) /\ LogAt (Out G w w') w' g gd { l with segs := l.segs ++ [⟨p.file,hd l.segs + 1,[b],z⟩] } /\ Turn G w w' := by
 obtain ⟨Al,nl,cl,qs,lp,hL⟩ := h
 have HR := hid hr
 have HLI := hid hli
 have hlen0 := hL.len
 rw [hlen0] at hN
 have hhb := hd_bd ho
 have HO := hid ho
 have hHW : Below w.heap.size w (w.alloc (.cells #[.int .i64 p.file,.int .i64 p.had,.bool p.begins] 244)) := (Below.refl _ _).alloc (Nat.le_refl _) _
 have HL := hid (hL.new hHW)
 have HW := hid hHW
 have HBX := hid (Blk.new w 244 #[.int .i64 p.file,.int .i64 p.had,.bool p.begins])
 have hbc : (w.alloc (.cells #[.int .i64 p.file,.int .i64 p.had,.bool p.begins] 244)).cell? ⟨w.heap.size,2,none⟩ = some (.bool true) := by rw [<- hbg]; exact HBX.out.cell 2
 have hfc : (w.alloc (.cells #[.int .i64 p.file,.int .i64 p.had,.bool p.begins] 244)).cell? ⟨w.heap.size,0,none⟩ = some (.int .i64 p.file) := HBX.out.cell 0
 have d0 := HL.out.cells.1
 clear hL hHW hr hbg ho hlen0
 unfold pcv
 go_enter Tryz.func174,Tryz.ntmps174
 generalize hV : w.alloc (.cells #[.int .i64 p.file,.int .i64 p.had,.bool p.begins] 244) = V at *
 generalize hs0 : w.heap.size = s0 at HBX hbc hfc
 have HS0 := hid hs0
 go_wp2_with fail
 clear hV
 clear hs0
 have hwh : IntKind.i64.wrap (hd l.segs + 1) = hd l.segs + 1 := IntWalk.i64_in _ (by omega)
 have HHE := hid (fun w' (hb : Below V.heap.size V w') => head_any G g gd l w' ((show LogAt G V g gd l from ⟨_,_,_,_,_,HL.out⟩).new hb) HO.out)
 generalize hhd : hd l.segs = hh at *
 have HHD := hid hhd
 clear hhd hhb
 refine wp_region_last_at (S := fun w' => w'.cell? ⟨g,0,none⟩ = some (.slice Al nl cl) /\ w'.cell? ⟨s0,0,none⟩ = some (.int .i64 p.file)) 19 _ rfl rfl (by kernel_rfl) (by kernel_rfl) (by kernel_rfl) ⟨d0,hfc⟩ (fun hHeld => ?_)
 simp only [List.take_succ_cons,List.take_zero]
 refine wpAnyH_take (i := 0) (v := ?av0) rfl (by kernel_rfl) (by kernel_rfl) (by kernel_rfl) (fun _ _ _ h => h) (Or.inl ⟨by rfl,?ay0⟩) (by assumption) ?ar0
 case ay0 => (intro w hSw; (try dsimp only at hSw); go_simp; try with_reducible rfl)
 try simp only [Act.put,Base.px]
 refine wpAnyH_take (i := 1) (v := ?av1) rfl (by kernel_rfl) (by kernel_rfl) (by kernel_rfl) (fun _ _ _ h => h) (Or.inl ⟨by rfl,?ay1⟩) (by assumption) ?ar1
 case ay1 => (intro w hSw; (try dsimp only at hSw); go_simp; try with_reducible rfl)
 try simp only [Act.put,Base.px]
 refine wpAnyH_take (i := 2) (v := ?av2) rfl (by kernel_rfl) (by kernel_rfl) (by kernel_rfl) (fun _ _ _ h => h) (Or.inl ⟨by rfl,?ay2⟩) (by assumption) ?ar2
 case ay2 => (intro w hSw; (try dsimp only at hSw); go_simp; try with_reducible rfl)
 try simp only [Act.put,Base.px]
 refine wpAnyH_take (i := 3) (v := ?av3) rfl (by kernel_rfl) (by kernel_rfl) (by kernel_rfl) (fun _ _ _ h => h) (Or.inl ⟨by rfl,?ay3⟩) (by assumption) ?ar3
 case ay3 => (intro w hSw; (try dsimp only at hSw); go_simp; try with_reducible rfl)
 try simp only [Act.put,Base.px]
 refine wpAnyH_take (i := 4) (v := ?av4) rfl (by kernel_rfl) (by kernel_rfl) (by kernel_rfl) (fun _ _ _ h => h) (Or.inl ⟨by rfl,?ay4⟩) (by assumption) ?ar4
 case ay4 => (intro w hSw; (try dsimp only at hSw); go_simp; try with_reducible rfl)
 try simp only [Act.put,Base.px]
 refine wpAnyH_take (i := 5) (v := ?av5) rfl (by kernel_rfl) (by kernel_rfl) (by kernel_rfl) (fun _ _ _ h => h) (Or.inl ⟨by rfl,?ay5⟩) (by assumption) ?ar5
 case ay5 => (intro w hSw; (try dsimp only at hSw); go_simp; try with_reducible rfl)
 try simp only [Act.put,Base.px]
 refine wpAnyH_take (i := 6) (v := ?av6) rfl (by kernel_rfl) (by kernel_rfl) (by kernel_rfl) (fun _ _ _ h => h) (Or.inl ⟨by rfl,?ay6⟩) (by assumption) ?ar6
 case ay6 => (intro w hSw; (try dsimp only at hSw); go_simp; try with_reducible rfl)
 try simp only [Act.put,Base.px]
 refine wpAnyH_take (i := 7) (v := ?av7) rfl (by kernel_rfl) (by kernel_rfl) (by kernel_rfl) (fun _ _ _ h => h) (Or.inl ⟨by rfl,?ay7⟩) (by assumption) ?ar7
 case ay7 => (intro w hSw; (try dsimp only at hSw); go_simp; try with_reducible rfl)
 try simp only [Act.put,Base.px]
 refine wpAnyH_take (i := 8) (v := ?av8) rfl (by kernel_rfl) (by kernel_rfl) (by kernel_rfl) (fun _ _ _ h => h) (Or.inl ⟨by rfl,?ay8⟩) (by assumption) ?ar8
 case ay8 => (intro w hSw; (try dsimp only at hSw); go_simp; try with_reducible rfl)
 try simp only [Act.put,Base.px]
 refine wpAnyH_take (i := 9) (v := ?av9) rfl (by kernel_rfl) (by kernel_rfl) (by kernel_rfl) (fun _ _ _ h => h) (Or.inl ⟨by rfl,?ay9⟩) (by assumption) ?ar9
 case ay9 => (intro w hSw; (try dsimp only at hSw); go_simp; try with_reducible rfl)
 try simp only [Act.put,Base.px]
 refine wpAnyH_take (i := 10) (v := ?av10) rfl (by kernel_rfl) (by kernel_rfl) (by kernel_rfl) (fun _ _ _ h => h) (Or.inl ⟨by rfl,?ay10⟩) (by assumption) ?ar10
 case ay10 => (intro w hSw; (try dsimp only at hSw); go_simp; try with_reducible rfl)
 try simp only [Act.put,Base.px]
 refine wpAnyH_ready (rs := [11]) (by kernel_rfl) (by simp) ?_
 refine AllReadyH.cons rfl (fun K hK => ?_) AllReadyH.nil
 go_simp
 refine (HHE.out _ (held_start V)).mono ?_
 rintro e v4 ⟨rfl,hb4⟩
 replace hb4 := below_of_drew hb4
 refine hK.out _ _ ⟨held_cell hb4 d0,held_cell hb4 hfc⟩ (fun hHeld => ?_)
 clear hK K
 try simp only [Act.put,Base.px]
 refine wpAnyH_take (i := 12) (v := ?bv12) rfl (by kernel_rfl) (by kernel_rfl) (by kernel_rfl) (fun _ _ _ h => h) (Or.inl ⟨by rfl,?by12⟩) (by assumption) ?br12
 case by12 => (intro w hSw; (try dsimp only at hSw); go_simp; try with_reducible rfl)
 try simp only [Act.put,Base.px]
 refine wpAnyH_take (i := 13) (v := ?bv13) rfl (by kernel_rfl) (by kernel_rfl) (by kernel_rfl) (fun _ _ _ h => h) (Or.inl ⟨by rfl,?by13⟩) (by assumption) ?br13
 case by13 => (intro w hSw; (try dsimp only at hSw); go_simp; try with_reducible rfl)
 try simp only [Act.put,Base.px]
 refine wpAnyH_ready (rs := [14]) (by kernel_rfl) (by simp) ?_
 refine AllReadyH.cons rfl (fun K hK => ?_) AllReadyH.nil
 go_simp
 have hb5 : Below V.heap.size V (v4.alloc (.cells #[.int .i64 p.file,.int .i64 (hh + 1),.slice none 0 0,.int .i64 0] 172)) := hb4.alloc hb4.size _
 refine hK.out _ _ ⟨held_cell hb5 d0,held_cell hb5 hfc⟩ (fun hHeld => ?_)
 clear hK K
 try simp only [Act.put,Base.px]
 refine wpAnyH_ready (rs := [15]) (by kernel_rfl) (by simp) ?_
 refine AllReadyH.cons rfl (fun K hK => ?_) AllReadyH.nil
 have hL5 := HL.out.new hb5
 refine step_append_row (by rfl) (.tmp 16) (.tmp 25) (by rfl) sg 0 (.slice Al nl cl) nl (flat qs) (by rfl) hL5.2.2.2.1.1 (v4.heap.size + 1) (some ⟨v4.heap.size,0,none⟩) 1 1 [.int .i64 p.file,.int .i64 (hh + 1),.slice none 0 0,.int .i64 0] (by rfl) (Row.lit v4 #[.int .i64 p.file,.int .i64 (hh + 1),.slice none 0 0,.int .i64 0] _ (0,0) rfl rfl (by omega)) (sgv_one [(⟨p.file,hh + 1,[],0⟩,⟨none,0⟩)]) (by omega) (by omega) (Nat.zero_le _) ?_
 intro A6 c6 v6 hown6 hg6 _
 have hpush := hL5.push (s := ⟨p.file,hh + 1,[],0⟩) (q := ⟨none,0⟩) hown6 hg6 (ListsIn.nil_ _ _) (fun x hx => by
  cases hxr : x.2.row with
  | none => exact .inl rfl
  | some i => exact .inr (fun e => by cases e))
 have htyp : ∀ (i : Nat) (cur : Array Value) (e : TypeId),e ≠ 172 -> V.heap[i]? = some (.cells cur e (0,0)) -> v6.heap[i]? = V.heap[i]? := fun i cur e hne hi =>
  (kept_type hg6.1 (fun b hb => own_type hL5.2.2.2.1.1 hb) hne ((hb5.block i (Array.getElem?_eq_some_iff.1 hi).1).trans hi)).trans hi.symm
 have d6 : v6.cell? ⟨g,0,none⟩ = some (.slice Al nl cl) := (World.cell?_of_block (htyp g _ _ (by decide) HL.out.2.1)).trans d0
 have f6 : v6.cell? ⟨s0,0,none⟩ = some (.int .i64 p.file) := (World.cell?_of_block (htyp s0 _ _ (by decide) HBX.out)).trans hfc
 have z6 : v6.frozen? ⟨g,0,none⟩ = false := Blk.frozen (show Blk v6 g 107 _ from (htyp g _ _ (by decide) HL.out.2.1).trans HL.out.2.1) 0
 refine hK.out _ _ ⟨d6,f6⟩ (fun hHeld => ?_)
 clear hK K
 try simp only [Act.put,Base.px]
 refine wpAnyH_take (i := 16) (v := ?cv16) rfl (by kernel_rfl) (by kernel_rfl) (by kernel_rfl) (fun _ _ _ h => h) (Or.inl ⟨by rfl,?cy16⟩) (by assumption) ?cr16
 case cy16 => (intro w hSw; (try dsimp only at hSw); go_simp; try with_reducible rfl)
 try simp only [Act.put,Base.px]
 refine wpAnyH_take (i := 17) (v := ?cv17) rfl (by kernel_rfl) (by kernel_rfl) (by kernel_rfl) (fun _ _ _ h => h) (Or.inl ⟨by rfl,?cy17⟩) (by assumption) ?cr17
 case cy17 => (intro w hSw; (try dsimp only at hSw); go_simp; try with_reducible rfl)
 try simp only [Act.put,Base.px]
 refine wpAnyH_take (i := 18) (v := ?cv18) rfl (by kernel_rfl) (by kernel_rfl) (by kernel_rfl) (fun _ _ _ h => h) (Or.inl ⟨by rfl,?cy18⟩) (by assumption) ?cr18
 case cy18 => (intro w hSw; (try dsimp only at hSw); go_simp; try with_reducible rfl)
 try simp only [Act.put,Base.px]
 refine wpAnyH_done (by kernel_rfl) ?_ _
 refine then_normal rfl ?_
 have hsz6 := hg6.1.size
 have hVW : Turn G w (v6.setCell ⟨g,0,none⟩ (.slice A6 (nl + 1) c6)) := ((Turn.new (F := G) (Below.trans HW.out (hb5.mono HW.out.size))).trans hpush.2 fun _ hi => .inl hi)
 have HTW := hid hVW
 have HYW : Hid (Bytes (v6.setCell ⟨g,0,none⟩ (.slice A6 (nl + 1) c6)) (v6.setCell ⟨g,0,none⟩ (.slice A6 (nl + 1) c6)).heap.size A n c b) := Bytes.turn HR.out HLI.out hVW
 have HPU := hid hpush.1
 have HG0 : Hid (∀ i,Out G (v4.alloc (.cells #[.int .i64 p.file,.int .i64 (hh + 1),.slice none 0 0,.int .i64 0] 172)) v6 i -> G i \/ (w.heap.size <= i /\ i < (v6.setCell ⟨g,0,none⟩ (.slice A6 (nl + 1) c6)).heap.size)) := fun i hi => hi.imp id fun h => ⟨Nat.le_trans HW.out.size (Nat.le_trans hb5.size h.1),by simpa using h.2⟩
 have HQM : Hid (qs.map (·.1) = l.segs) := HL.out.1
 clear hpush hVW hL5 hown6 hg6 hb5 hb4 htyp f6 HHE HBX HL d0 hfc hbc hHeld HW
 go_wp2_with fail
 generalize v6.setCell ⟨g,0,none⟩ (.slice A6 (nl + 1) c6) = W at *
 generalize Out G (v4.alloc (.cells #[.int .i64 p.file,.int .i64 (hh + 1),.slice none 0 0,.int .i64 0] 172)) v6 = GG at *
 have HGG := hid HG0.out
 obtain ⟨ll,hll⟩ : ∃ ll : Lg,ll = { l with segs := l.segs ++ [⟨p.file,hh + 1,[],0⟩] } := ⟨_,rfl⟩
 rw [<- hll] at HPU
 obtain ⟨s,hs⟩ : ∃ s : Sg,s = ⟨p.file,hh + 1,[],0⟩ := ⟨_,rfl⟩
 rw [<- hs] at HPU
 have hsr : s.rows.length = 0 := by rw [hs]; rfl
 have hss : s.size = 0 := by rw [hs]
 have hmem : ll.segs[nl]? = some s := by
  have h1 := HPU.out.1
  rw [<- h1,List.map_append]
  have h2 : (qs.map (·.1)).length = nl := by
   have := HPU.out.len
   rw [<- h1,List.map_append,List.length_append] at this
   simpa using this
  rw [List.getElem?_append_right (by omega),h2]
  simp
 obtain ⟨b2,q,hA2,hq2,hGb,hb,hpn,⟨hnc,hcm⟩,hE,k0,k1,k2,k3⟩ := HPU.out.at_ (k := nl) (s := s) hmem
 have hql : qs.length = nl := by have := HPU.out.2.2.2.1.len; simpa using this
 obtain rfl : q = ⟨none,0⟩ := by
  rw [<- hql] at hq2
  simp at hq2
  exact hq2.symm
 subst hA2
 have HL := hid HPU.out
 have c0 := HL.out.cells.1
 have HFIN : Hid (({ l with segs := l.segs ++ [⟨p.file,hh + 1,[b],z⟩] } : Lg) = { ll with segs := qs.map (·.1) ++ [{ s with rows := s.rows ++ [b],size := s.size + z }] }) := hid (by rw [HQM.out,hll,hs]; simp)
 have hnb : s.rows.length <= 1099511627776 := by omega
 have hzs : s.size <= 35184372088832 := by omega
 have hlen : qs.length + 1 = nl + 1 := by omega
 clear hE hb hll hs hsr hss hmem hq2 HPU d6 z6 hsz6 HG0
 rw [<- hql] at k0 k1 k2 k3
 replace hpn : qs.length < nl + 1 := by omega
 generalize ({ A := none,c := 0 } : Sp) = q at *
 generalize hqq : qs = qp at *
 generalize nl + 1 = nl' at *
 generalize c6 = cl' at *
 obtain ⟨kk,hkk⟩ : ∃ kk,kk = qp.length := ⟨_,rfl⟩
 rw [<- hkk] at hpn k0 k1 k2 k3 hlen
 have HKK := hid hkk
 have hwp : IntKind.i64.wrap ((nl' : Int) - 1) = kk := by rw [IntWalk.i64_in _ (by omega)]; omega
 clear hkk hlen
 go_quiet (fail)
 generalize hw3 : W.drewN nq = W3
 have HL3 : Hid (Laid GG W3 g gd ll (some ⟨b2,0,none⟩) nl' cl' (qp ++ [(s,q)]) lp) := by rw [<- hw3]; exact HL.out
 have HG3 : Hid (∀ i,GG i -> G i \/ (w.heap.size <= i /\ i < W3.heap.size)) := by rw [<- hw3]; exact HGG.out
 have HB3 : Hid (Turn G w W3) := by rw [<- hw3]; exact HTW.out.drewN nq
 have e2 : W3.cell? ⟨b2,kk * 4 + 2,none⟩ = some (.slice q.A s.rows.length q.c) := by rw [<- hw3]; exact k2
 have HY3 : Hid (Bytes W3 W3.heap.size A n c b) := by rw [<- hw3]; exact HYW.out.drewN nq
 clear hw3 k0 k1 k2 k3 c0 HL HTW HYW hwp
 go_wp2_with fail
 have HE3 : Hid (ListsIn W3 GG q.A s.rows.length q.c s.rows) := HL3.out.2.2.2.1.2.2.1 (s,q) (by simp)
 obtain ⟨rl,hrl⟩ : ∃ rl,rl = s.rows.length := ⟨_,rfl⟩
 have HRL := hid hrl
 rw [<- hrl] at e2 hnb
 clear hrl
 refine wp_region_last_at (S := fun w' => w'.cell? ⟨b2,kk * 4 + 2,none⟩ = some (.slice q.A rl q.c)) 11 _ rfl rfl (by kernel_rfl) (by kernel_rfl) (by kernel_rfl) e2 (fun hHeld => ?_)
 simp only [List.take_succ_cons,List.take_zero]
 refine wpAnyH_take (i := 0) (v := ?dv0) rfl (by kernel_rfl) (by kernel_rfl) (by kernel_rfl) (fun _ _ _ h => h) (Or.inl ⟨by rfl,?dy0⟩) (by assumption) ?dr0
 case dy0 => (intro w hSw; (try dsimp only at hSw); go_simp; try with_reducible rfl)
 try simp only [Act.put,Base.px]
 refine wpAnyH_take (i := 1) (v := ?dv1) rfl (by kernel_rfl) (by kernel_rfl) (by kernel_rfl) (fun _ _ _ h => h) (Or.inl ⟨by rfl,?dy1⟩) (by assumption) ?dr1
 case dy1 => (intro w hSw; (try dsimp only at hSw); go_simp; try with_reducible rfl)
 try simp only [Act.put,Base.px]
 refine wpAnyH_take (i := 2) (v := ?dv2) rfl (by kernel_rfl) (by kernel_rfl) (by kernel_rfl) (fun _ _ _ h => h) (Or.inl ⟨by rfl,?dy2⟩) (by assumption) ?dr2
 case dy2 => (intro w hSw; (try dsimp only at hSw); go_simp; try with_reducible rfl)
 try simp only [Act.put,Base.px]
 refine wpAnyH_take (i := 3) (v := ?dv3) rfl (by kernel_rfl) (by kernel_rfl) (by kernel_rfl) (fun _ _ _ h => h) (Or.inl ⟨by rfl,?dy3⟩) (by assumption) ?dr3
 case dy3 => (intro w hSw; (try dsimp only at hSw); go_simp; try with_reducible rfl)
 try simp only [Act.put,Base.px]
 refine wpAnyH_take (i := 4) (v := ?dv4) rfl (by kernel_rfl) (by kernel_rfl) (by kernel_rfl) (fun _ _ _ h => h) (Or.inl ⟨by rfl,?dy4⟩) (by assumption) ?dr4
 case dy4 => (intro w hSw; (try dsimp only at hSw); go_simp; try with_reducible rfl)
 try simp only [Act.put,Base.px]
 refine wpAnyH_take (i := 5) (v := ?dv5) rfl (by kernel_rfl) (by kernel_rfl) (by kernel_rfl) (fun _ _ _ h => h) (Or.inl ⟨by rfl,?dy5⟩) (by assumption) ?dr5
 case dy5 => (intro w hSw; (try dsimp only at hSw); go_simp; try with_reducible rfl)
 try simp only [Act.put,Base.px]
 refine wpAnyH_ready (rs := [6]) (by kernel_rfl) (by simp) ?_
 refine AllReadyH.cons rfl (fun K hK => ?_) AllReadyH.nil
 go_simp
 refine (Disk.clone_any W3.heap.size A n c b _ (HY3.out.drewN 1) (Nat.le_refl _) (by omega)).mono ?_
 rintro e w4 ⟨A4,c4,rfl,hown4,hb4⟩
 replace hb4 := below_of_drew hb4
 refine hK.out _ _ (held_cell hb4 e2) (fun hHeld => ?_)
 clear hK K
 try simp only [Act.put,Base.px]
 refine wpAnyH_ready (rs := [7]) (by kernel_rfl) (by simp) ?_
 refine AllReadyH.cons rfl (fun K hK => ?_) AllReadyH.nil
 go_simp
 have hb5 : Below W3.heap.size W3 (w4.alloc (.cells #[.slice A4 n c4] 68)) := hb4.alloc hb4.size _
 refine hK.out _ _ (held_cell hb5 e2) (fun hHeld => ?_)
 clear hK K
 try simp only [Act.put,Base.px]
 refine wpAnyH_ready (rs := [8]) (by kernel_rfl) (by simp) ?_
 refine AllReadyH.cons rfl (fun K hK => ?_) AllReadyH.nil
 have hLl : ListsIn (w4.alloc (.cells #[.slice A4 n c4] 68)) (fun i => GG i \/ (W3.heap.size <= i /\ i < w4.heap.size)) q.A rl q.c s.rows := by
  have := (HE3.out.below hb5).mono (S' := fun i => GG i \/ (W3.heap.size <= i /\ i < w4.heap.size)) fun i hi => .inl hi
  rw [<- HRL.out] at this
  exact this
 refine step_append_lists (by rfl) (.tmp 47) (.tmp 50) (by rfl) hLl (hown4.alloc _) (fun i hi => .inr ⟨(hown4.lt i hi).1,(hown4.lt i hi).2⟩) (one_slice w4 68 A4 n c4 rfl) hnb (by rfl) (by rfl) ?_
 intro A6 c6 w6 hent
 have e6 : w6.cell? ⟨b2,kk * 4 + 2,none⟩ = some (.slice q.A rl q.c) := by
  obtain ⟨cur,hc⟩ := own_type HL3.out.2.2.2.1.1 (g := b2) rfl
  have h1 : (w4.alloc (.cells #[.slice A4 n c4] 68)).heap[b2]? = some (.cells cur 172 (0,0)) := (hb5.block b2 (Array.getElem?_eq_some_iff.1 hc).1).trans hc
  have h2 := kept_type hent.2.1 (fun i hi => (ListsIn.row_lt hLl hi).2) (by decide) h1
  exact (World.cell?_of_block (h2.trans hc.symm)).trans e2
 refine hK.out _ _ e6 (fun hHeld => ?_)
 clear hK K
 try simp only [Act.put,Base.px]
 refine wpAnyH_take (i := 9) (v := ?ev9) rfl (by kernel_rfl) (by kernel_rfl) (by kernel_rfl) (fun _ _ _ h => h) (Or.inl ⟨by rfl,?ey9⟩) (by assumption) ?er9
 case ey9 => (intro w hSw; (try dsimp only at hSw); go_simp; try with_reducible rfl)
 try simp only [Act.put,Base.px]
 refine wpAnyH_take (i := 10) (v := ?ev10) rfl (by kernel_rfl) (by kernel_rfl) (by kernel_rfl) (fun _ _ _ h => h) (Or.inl ⟨by rfl,?ey10⟩) (by assumption) ?er10
 case ey10 => (intro w hSw; (try dsimp only at hSw); go_simp; try with_reducible rfl)
 try simp only [Act.put,Base.px]
 refine wpAnyH_done (by kernel_rfl) ?_ _
 refine then_normal rfl ?_
 have hL5 : Laid (fun i => GG i \/ (W3.heap.size <= i /\ i < w4.heap.size)) (w4.alloc (.cells #[.slice A4 n c4] 68)) g gd ll (some ⟨b2,0,none⟩) nl' cl' (qp ++ [(s,q)]) lp := (HL3.out.new hb5).mono fun i hi => .inl hi
 have hent2 : Entered (w4.alloc (.cells #[.slice A4 n c4] 68)) (fun i => GG i \/ (W3.heap.size <= i /\ i < w4.heap.size)) q.A s.rows.length s.rows b A6 c6 w6 := by rw [<- HRL.out]; exact hent
 have hst := hL5.entry hent2
 rw [<- HKK.out,<- HRL.out] at hst
 have hst2 := hst.1.sized (s.size + z)
 rw [<- HKK.out] at hst2
 have z2 : w6.frozen? ⟨b2,kk * 4 + 2,none⟩ = false := by
  obtain ⟨cur,hc⟩ := own_type HL3.out.2.2.2.1.1 (g := b2) rfl
  have h1 : (w4.alloc (.cells #[.slice A4 n c4] 68)).heap[b2]? = some (.cells cur 172 (0,0)) := (hb5.block b2 (Array.getElem?_eq_some_iff.1 hc).1).trans hc
  have h2 := kept_type hent.2.1 (fun i hi => (ListsIn.row_lt hLl hi).2) (by decide) h1
  exact frozen_of_row _ b2 _ _ _ h2
 obtain ⟨b2',q',hbb,_,_,_,_,_,_,_,_,_,k3⟩ := hst.1.at_ (k := kk) (s := { s with rows := s.rows ++ [b] }) (by rw [HKK.out]; show (qp.map (·.1) ++ [_])[qp.length]? = _; rw [List.getElem?_append_right (by simp)]; simp)
 obtain rfl : b2 = b2' := by injection hbb with hbb; injection hbb
 have z3 := hst.1.2.2.2.1.1.frozenAt (kk * 4 + 3)
 have HT6 : Hid (Turn G w (((w6.setCell ⟨b2,kk * 4 + 2,none⟩ (.slice A6 (rl + 1) c6))).setCell ⟨b2,kk * 4 + 3,none⟩ (.int .i64 (s.size + z : Nat)))) := by
  have t1 : Turn G w (w4.alloc (.cells #[.slice A4 n c4] 68)) := HB3.out.trans (F' := G) (Turn.new hb5) fun _ hi => .inl hi
  have t2 := t1.trans hst.2 fun i hi => by
   rcases hi with hi | hi
   ·exact (HG3.out i hi).imp id fun h => h.1
   ·exact .inr (Nat.le_trans HB3.out.size hi.1)
  refine t2.trans hst2.2 fun i hi => ?_
  rcases hi with (hi | hi) | hi
  ·exact (HG3.out i hi).imp id fun h => h.1
  ·exact .inr (Nat.le_trans HB3.out.size hi.1)
  ·exact .inr (Nat.le_trans t1.size hi.1)
 have HL6 := hid (hst2.1.mono (G' := Out G w (((w6.setCell ⟨b2,kk * 4 + 2,none⟩ (.slice A6 (rl + 1) c6))).setCell ⟨b2,kk * 4 + 3,none⟩ (.int .i64 (s.size + z : Nat)))) fun i hi => by
  have hz6 : w6.heap.size <= (((w6.setCell ⟨b2,kk * 4 + 2,none⟩ (.slice A6 (rl + 1) c6))).setCell ⟨b2,kk * 4 + 3,none⟩ (.int .i64 (s.size + z : Nat))).heap.size := by simp
  have hz5 := hent.2.1.size
  have hz4 : w4.heap.size <= (w4.alloc (.cells #[.slice A4 n c4] 68)).heap.size := by simp
  rcases hi with (hi | hi) | hi
  ·rcases HG3.out i hi with h | h
   ·exact .inl h
   ·exact .inr ⟨h.1,by have := hb5.size; omega⟩
  ·exact .inr ⟨Nat.le_trans HB3.out.size hi.1,by omega⟩
  ·exact .inr ⟨Nat.le_trans HB3.out.size (Nat.le_trans hb5.size hi.1),by omega⟩)
 have hwz : IntKind.i64.wrap ((s.size : Int) + z) = ((s.size + z : Nat) : Int) := by rw [IntWalk.i64_in _ (by omega)]; omega
 clear hst hst2 hent hent2 hL5 hLl hb5 hb4 hown4 HE3 HL3 hHeld e2
 dsimp only at k3
 go_wp2
 go_end0
 rw [HHD.out,HFIN.out]
 exact ⟨rfl,⟨_,_,_,_,_,HL6.out⟩,HT6.out⟩
end Wal
namespace Wal
open Go.RowKit Base WalMath
open Disk (DiskAt I64 Fits)
open Foot (Turn Out own_same own_type)
open DiskMath (Fl Dk)
def Small (l : Lg) : Prop := ∀ s ∈ l.segs,s.size <= 1099511627776
theorem nextF_bd {l : Lg} (ho : Ok l) : 0 <= nextF l := by
 unfold nextF
 split
 ·exact ho.1
 ·rename_i s hs
  have := (ho.2.2.2.2 s (List.mem_of_getLast? hs)).1
  omega
theorem enter_ok {l : Lg} {off : Bool} {p b : List UInt8} {q : Pc} (ho : Ok l) (hsm : Small l) (h : plan l off p = .ok (q,b)) : ∀ s ∈ enter l.segs q b.length p,SgOk s := by
 obtain ⟨h1,h2,h3,h4,_,h5⟩ := plan_ok h
 have hh := hd_bd ho.2.2.2.2
 rcases h5 with ⟨pre,s,hcon,rfl,hb,_⟩ | ⟨rfl,hb,hn,_⟩
 ·rw [hcon,enter_snoc rfl]
  intro x hx
  have hs := ho.2.2.2.2 s (by rw [hcon]; simp)
  have hz := hsm s (by rw [hcon]; simp)
  rcases List.mem_append.1 hx with hx | hx
  ·exact ho.2.2.2.2 x (by rw [hcon]; simp [hx])
  ·rw [List.mem_singleton] at hx
   subst hx
   rw [hcon,hd_snoc] at hh h3
   obtain ⟨a,b',c,d,e,f⟩ := hs
   refine ⟨a,b',c,?_,?_,fun y hy => ?_⟩
   ·unfold last at *
    simp only [List.length_append,List.length_singleton]
    omega
   ·show s.size + b.length <= _
    omega
   ·rcases List.mem_append.1 hy with hy | hy
    ·exact f y hy
    ·rw [List.mem_singleton] at hy
     subst hy
     exact h1
 ·rw [enter_begins rfl]
  intro x hx
  rcases List.mem_append.1 hx with hx | hx
  ·exact ho.2.2.2.2 x hx
  ·rw [List.mem_singleton] at hx
   subst hx
   have hb0 := nextF_bd ho
   have hb1 := ho.2.1
   refine ⟨hb0,by show nextF l < 16384; omega,by show 1 <= hd l.segs + 1; omega,?_,by show b.length <= _; omega,fun y hy => ?_⟩
   ·show hd l.segs + 1 + (([p].length : Nat) : Int) - 1 <= _
    simp only [List.length_singleton]
    omega
   ·rw [List.mem_singleton] at hy
    subst hy
    exact h1
theorem enter_any (T : Nat -> Prop) (g gd : Nat) (l : Lg) (d : Dk) (q : Pc) (z : Nat) (off : Bool) (A : Option Addr) (n c : Nat) (p b : List UInt8) (w : World) (h : Both T w g gd l d) (hT : New T w) (ho : Ok l) (hN : l.segs.length <= 16384) (hp : plan l off p = .ok (q,b)) (hz : z = b.length) (hr : Bytes w w.heap.size A n c p) (hli : Lies (fun i => ¬ T i) A n) :
 Calls Tryz.prog 174 #[.pointer (some ⟨g,0,none⟩),pcv q,.int .i64 z,.slice A n c] w (Did T w g gd (.tuple #[]) { l with segs := enter l.segs q z p } d) := by
 subst hz
 obtain ⟨h1,h2,h3,h4,_,h5⟩ := plan_ok hp
 have hn : n <= 1048576 := by rw [<- hr.len]; exact h1
 obtain ⟨F,G,hdk,hl,hFG,hF,hG⟩ := h
 rcases h5 with ⟨pre,s,hcon,rfl,hb,_⟩ | ⟨rfl,hb,_,_⟩
 ·refine (enter_old G g gd l _ b.length pre s A n c p w hl hcon (ho.2.2.2.2 s (by rw [hcon]; simp)) (by omega) rfl hr hn).mono ?_
  rintro e w' ⟨rfl,hl',ht⟩
  have := Both.log hdk hF hFG hG hT ht hl' fun i hi => hi
  rw [hcon,enter_snoc rfl]
  exact ⟨rfl,this⟩
 ·refine (enter_new G g gd l _ b.length A n c p w hl ho.2.2.2.2 hN (by omega) rfl hr (hli.mono fun i hi hg => hi (hG i hg).1) hn).mono ?_
  rintro e w' ⟨rfl,hl',ht⟩
  have := Both.log hdk hF hFG hG hT ht hl' fun i hi => hi
  rw [enter_begins rfl]
  exact ⟨rfl,this⟩
theorem write_cap {k M : Nat} {d : Dk} (h : Cap k M d) (l : Lg) (q : Pc) (b : List UInt8) : Cap (k + 2) (M + b.length) (write l d q b).2.2 := by
 unfold write
 split
 ·exact (h.clean l).append _ _
 ·exact (h.clean l).mono (by omega) (by omega)
theorem append_any (T : Nat -> Prop) (g gd : Nat) (l : Lg) (d : Dk) (k M : Nat) (A : Option Addr) (n c : Nat) (p : List UInt8) (w : World) (h : Both T w g gd l d) (hT : New T w) (ho : Ok l) (hsm : Small l) (hN : l.segs.length <= 16384) (hc : Cap k M d) (hk : k <= 10000000) (hM : M <= 35184372088832) (hr : Bytes w w.heap.size A n c p) (hli : Lies (fun i => ¬ T i) A n) :
 Calls Tryz.prog 104 #[.pointer (some ⟨g,0,none⟩),.slice A n c] w (Did T w g gd (.tuple #[.int .i64 (append l d p).n,.int .i64 (append l d p).e]) (append l d p).l (append l d p).d) := by
 have HB := hid h
 have HT := hid hT
 have HO := hid ho
 have HSM := hid hsm
 have HC := hid hc
 have HR := hid hr
 have HLI := hid hli
 obtain ⟨F,G,hdk,hl,_,_,_⟩ := h
 have HP := hid (plan_any F G g gd l d w.heap.size A n c p w hl hdk ho hr (Nat.le_refl _))
 clear hT ho hsm hc hr hli hdk hl
 generalize hap : append l d p = r
 have HAP := hid hap
 clear hap
 go_enter Tryz.func104,Tryz.ntmps104
 go_wp2_with fail
 refine HP.out.mono ?_
 intro e w1 hpl
 clear HP
 cases hpe : plan l d.off p with
 | error kk =>
   rw [hpe] at hpl
   obtain ⟨rfl,hb1⟩ := hpl
   have HE := hid (show r = ⟨0,kk,l,d⟩ by rw [<- HAP.out,append,hpe])
   have hne : ((kk : Int) == 0) = false := by have := plan_err hpe; simp; omega
   have hne2 : ((kk : Int) != 0) = true := by have := plan_err hpe; simp; omega
   have HB1 := hid hb1
   clear hb1 hpe
   go_wp2
   go_ret2
   rw [HE.out]
   exact ⟨rfl,HB.out.new (held_alloc HB1.out _),Turn.new (held_alloc HB1.out _)⟩
 | ok qb =>
   obtain ⟨q,b⟩ := qb
   rw [hpe] at hpl
   obtain ⟨A1,c1,rfl,hown1,hb1⟩ := hpl
   have HPE := hid hpe
   have hpo := plan_ok hpe
   have hbl := hpo.2.2.2.1
   clear hpe hpo
   have HB1 := hid hb1
   have HO1 := hid hown1
   have HW2 : Hid (Below w.heap.size w (w1.alloc (.cells #[.int .i64 q.file,.int .i64 q.had,.bool q.begins] 244))) := held_alloc hb1 _
   have HX : Hid (Blk (w1.alloc (.cells #[.int .i64 q.file,.int .i64 q.had,.bool q.begins] 244)) w1.heap.size 244 #[.int .i64 q.file,.int .i64 q.had,.bool q.begins]) := Blk.new _ _ _
   have HY2 : Hid (Bytes (w1.alloc (.cells #[.int .i64 q.file,.int .i64 q.had,.bool q.begins] 244)) (w1.alloc (.cells #[.int .i64 q.file,.int .i64 q.had,.bool q.begins] 244)).heap.size A1 b.length c1 b) := Bytes.of_own (hown1.alloc _)
   have HLB : Hid (Lies (fun i => ¬ Win T w.heap.size (w1.alloc (.cells #[.int .i64 q.file,.int .i64 q.had,.bool q.begins] 244)).heap.size i) A1 b.length) := fun hn bb off e hw => by
    have a := hown1.lt bb (by rw [e]; rfl)
    have c := hw.2
    rw [World.size_alloc] at c
    omega
   clear hb1 hown1
   unfold pcv
   go_wp2_with fail
   generalize w1.alloc (.cells #[.int .i64 q.file,.int .i64 q.had,.bool q.begins] 244) = W2 at *
   have HS1 : Hid (w.heap.size <= w1.heap.size) := HB1.out.size
   generalize w1.heap.size = s1 at *
   have x0 : W2.cell? ⟨s1,0,none⟩ = some (.int .i64 q.file) := HX.out.cell 0
   have x1 : W2.cell? ⟨s1,1,none⟩ = some (.int .i64 q.had) := HX.out.cell 1
   have x2 : W2.cell? ⟨s1,2,none⟩ = some (.bool q.begins) := HX.out.cell 2
   have HT2 : Hid (∀ i,Win T w.heap.size W2.heap.size i -> T i) := fun i hi => hi.1
   have HN2 := hid (HT.out.win (w' := W2) HW2.out.size)
   have HX2 : Hid (¬ Win T w.heap.size W2.heap.size s1) := fun hw => by
    have a := hw.2
    have b := HX.out.lt
    have c := HS1.out
    omega
   have HBW := hid (HB.out.win HW2.out)
   have HTW : Hid (Turn T w W2) := Turn.new HW2.out
   generalize Win T w.heap.size W2.heap.size = T2 at *
   refine (write_any T2 g gd l d k M q A1 b.length c1 b W2 HBW.out HN2.out HC.out (by omega) HY2.out HLB.out (by omega)).mono ?_
   rintro e w3 ⟨rfl,hb3,ht3⟩
   have HC3 := hid (write_cap HC.out l q b)
   have HWL := hid (show (write l d q b).1 = 0 -> (write l d q b).2.1 = { l with left := some q } from fun h => by
    unfold write at h ⊢
    split
    ·rfl
    ·rename_i h2
     rw [if_neg h2] at h
     exact absurd h h2)
   have HB3 := hid hb3
   have HT3 := hid ((HTW.out.trans (F' := T) (ht3.mono HT2.out) fun _ hi => .inl hi))
   have HN3 := hid (New.le HN2.out ht3.size)
   replace HX := hid (show Blk w3 s1 244 _ from (ht3.block s1 HX.out.lt HX2.out).trans HX.out)
   replace x0 : w3.cell? ⟨s1,0,none⟩ = some (.int .i64 q.file) := HX.out.cell 0
   clear hb3 ht3 x1 x2 HY2 HLB HBW HTW HN2 HO1
   generalize hwr : write l d q b = wr at *
   have HWR := hid hwr
   clear hwr
   obtain ⟨e3,l3,d3⟩ := wr
   dsimp only at *
   by_cases h3 : e3 = 0
   ·subst h3
    obtain rfl : l3 = { l with left := some q } := HWL.out rfl
    obtain ⟨F3,hdk3,hF3,HK3⟩ := HB3.out.disk HN3.out
    have HD3 := hid hdk3
    obtain ⟨_,G3,_,⟨A3,n3,c3,qs3,lp3,hL3⟩,_⟩ := HB3.out
    have y1 := hL3.cells.2.1
    clear hdk3 hF3 hL3
    go_wp2
    go_still_tail 6,(by kernel_rfl)
    go_wp2_with fail
    refine (Disk.sync_any F3 gd d3 q.file _ (HD3.out.drewN 1) (cap_fits HC3.out (by omega))).mono ?_
    rintro e w4 ⟨rfl,hd4,ht4⟩
    have hr4 := HK3.out w4 _ hd4 ⟨ht4.os,ht4.tape,ht4.output,ht4.size,ht4.block⟩
    have HB4 := hid hr4.1
    have HT4 := hid (HT3.out.trans (F' := T) (hr4.2.mono HT2.out) fun _ hi => .inl hi)
    have HN4 := hid (New.le HN3.out hr4.2.size)
    replace HX := hid (show Blk w4 s1 244 _ from (hr4.2.block s1 HX.out.lt HX2.out).trans HX.out)
    clear hd4 ht4 hr4 HB3 HT3 HN3 HK3 HD3 y1 x0
    generalize hsy : DiskMath.sync d3 q.file = sy at *
    have HSY := hid hsy
    clear hsy
    obtain ⟨e4,d4⟩ := sy
    dsimp only at *
    by_cases h4 : e4 = 0
    ·subst h4
     have HE := hid (show r = ⟨hd (enter l.segs q b.length p),0,{ l with segs := enter l.segs q b.length p,left := none },d4⟩ by
      rw [<- HAP.out,append,HPE.out]
      simp only [HWR.out,if_true]
      rw [synced,HSY.out]
      rfl)
     obtain ⟨F4,G4,hdk4,⟨A4,n4,c4,qs4,lp4,hL4⟩,hFG4,hF4,hG4⟩ := HB4.out
     have y4 := hL4.cells.2.2.2.2
     have z4 := hL4.2.1.frozen 4
     have hst := hL4.lefts (lp' := none) (left := none) trivial
     have hbo := Both.log (T := T2) (l' := { l with left := none }) hdk4 hF4 hFG4 hG4 HN4.out hst.2 ⟨_,_,_,_,_,hst.1⟩ (fun i hi => .inl hi)
     rw [show leftV none = .pointer none from rfl] at hbo
     have HB5 := hid hbo.1
     have HT5 := hid (HT4.out.trans (F' := T) (hbo.2.mono HT2.out) fun _ hi => .inl hi)
     have HN5 := hid (New.le HN4.out hbo.2.size)
     replace HX := hid (show Blk (w4.setCell ⟨g,4,none⟩ (.pointer none)) s1 244 _ from (hbo.2.block s1 HX.out.lt HX2.out).trans HX.out)
     clear hL4 hst hbo hFG4 hF4 hG4 hdk4 HB4 HT4 HN4
     have u0 : (w4.setCell ⟨g,4,none⟩ (.pointer none)).cell? ⟨s1,0,none⟩ = some (.int .i64 q.file) := HX.out.cell 0
     have u1 : (w4.setCell ⟨g,4,none⟩ (.pointer none)).cell? ⟨s1,1,none⟩ = some (.int .i64 q.had) := HX.out.cell 1
     have u2 : (w4.setCell ⟨g,4,none⟩ (.pointer none)).cell? ⟨s1,2,none⟩ = some (.bool q.begins) := HX.out.cell 2
     generalize hW5 : w4.setCell ⟨g,4,none⟩ (.pointer none) = W5 at *
     go_wp2_with fail
     clear hW5 u0 u1 u2 y4 z4
     refine (enter_any T2 g gd { l with left := none } d4 q b.length d.off A n c p b W5 HB5.out HN5.out HO.out hN (by exact HPE.out) rfl (Bytes.turn HR.out HLI.out HT5.out) (HLI.out.mono fun i hi ht => hi (HT2.out i ht))).mono ?_
     rintro e w6 ⟨rfl,hb6,ht6⟩
     have HB6 := hid hb6
     have HT6 := hid (HT5.out.trans (F' := T) (ht6.mono HT2.out) fun _ hi => .inl hi)
     clear hb6 ht6
     obtain ⟨F6,G6,_,hl6,_⟩ := HB6.out
     have HL6 := hid hl6
     have HEO := hid (enter_ok HO.out HSM.out HPE.out)
     clear hl6
     go_wp2_with fail
     refine (head_any G6 g gd _ _ HL6.out HEO.out).mono ?_
     rintro e w7 ⟨rfl,hb7⟩
     have HB7 := hid hb7
     clear hb7
     go_wp2
     go_ret2
     rw [HE.out]
     exact ⟨rfl,(HB6.out.new HB7.out).mono HT2.out,HT6.out.trans (F' := T) (Turn.new HB7.out) fun _ hi => .inl hi⟩
    ·have HE := hid (show r = ⟨0,e4,{ l with left := some q },d4⟩ by
      rw [<- HAP.out,append,HPE.out]
      simp only [HWR.out,if_true]
      rw [synced,HSY.out]
      simp [h4])
     have hne2 : (e4 != 0) = true := by simpa using h4
     clear h4
     go_wp2
     go_ret2
     rw [HE.out]
     exact ⟨rfl,HB4.out.mono HT2.out,HT4.out⟩
   ·have HE := hid (show r = ⟨0,e3,l3,d3⟩ by
     rw [<- HAP.out,append,HPE.out]
     simp only [HWR.out,if_neg h3])
    have hne : (e3 == 0) = false := by simpa using h3
    have hne2 : (e3 != 0) = true := by simpa using h3
    clear h3
    go_wp2
    go_ret2
    rw [HE.out]
    exact ⟨rfl,HB3.out.mono HT2.out,HT3.out⟩
end Wal
end Go.Proofs.YtefnmnpfecfdaaaGreat
