/-
  Texts of one proof: IdxEdit, IdxFind, IdxCompact.
-/
import Derived.Test.YtefnmnpfecfdaaaGreatPk10
set_option linter.all false
set_option maxRecDepth 100000
set_option maxHeartbeats 6400000
open Go.Lib (hid)
namespace Go.Proofs.YtefnmnpfecfdaaaGreat
namespace Idx
open Go.RowKit Base IdxMath
open Go.Sort (grow)
theorem setMany_blk {b : Nat} {t : TypeId} : ∀ (vs : List Value) (o : Nat) (w : World) (cs : Array Value),Blk w b t cs -> o + vs.length <= cs.size -> ∃ cs',Blk (w.setCells b o vs) b t cs' /\ cs'.toList = cs.toList.take o ++ vs ++ cs.toList.drop (o + vs.length)
 | [],o,w,cs,h,_ => ⟨cs,h,by simp⟩
 | v :: r,o,w,cs,h,hl => by
   rw [List.length_cons] at hl
   obtain ⟨cs',h1,h2⟩ := setMany_blk r (o + 1) _ _ (h.set_ o v) (by rw [Array.size_setIfInBounds]; omega)
   refine ⟨cs',h1,?_⟩
   rw [h2,Array.toList_setIfInBounds,List.length_cons]
   have hlen : o < cs.toList.length := by rw [Array.length_toList]; omega
   rw [List.set_eq_take_append_cons_drop,if_pos hlen]
   have hto : (cs.toList.take o).length = o := by rw [List.length_take]; omega
   rw [List.take_append,List.take_of_length_le (l := cs.toList.take o) (by omega),hto,show o + 1 - o = 1 by omega,List.take_succ_cons,List.take_zero,List.drop_append,List.drop_of_length_le (l := cs.toList.take o) (by omega),hto,show o + 1 + r.length - o = r.length + 1 by omega,List.drop_succ_cons,List.drop_drop,List.nil_append,show o + 1 + r.length = o + (r.length + 1) by omega]
   simp
theorem setMany_grown (b : Nat) : ∀ (vs : List Value) (o : Nat) (w : World),w.grownBy (w.setCells b o vs) (some b)
 | [],_,w => World.grownBy.refl _ _
 | v :: r,o,w => by
   have h := setMany_grown b r (o + 1) (w.setCell ⟨b,o,none⟩ v)
   refine ⟨h.os,h.tape,h.output,by have := h.size; rw [World.size_setCell] at this; exact this,fun i hi hne => ?_⟩
   exact (h.block i (by simpa using hi) hne).trans (Below.heap_setCell w ⟨b,o,none⟩ v i fun e => hne (by rw [e]))
theorem lay_cells {w : World} {b o : Nat} {t : TypeId} {cs : Array Value} {vs : List Value} (h : Blk w b t cs) (hl : o + vs.length <= cs.size) :
 ∃ cs',Blk (w.setCells b o vs) b t cs' /\ cs'.size = cs.size /\ cs'.toList = cs.toList.take o ++ vs ++ cs.toList.drop (o + vs.length) := by
 obtain ⟨cs',h1,h2⟩ := setMany_blk vs o w cs h hl
 refine ⟨cs',h1,?_,h2⟩
 rw [<- Array.length_toList,h2,List.length_append,List.length_append,List.length_take,List.length_drop,Array.length_toList]
 omega
def zrow : Array Value := #[.int .i64 0,.string ⟨#[]⟩]
theorem zero_rows (m : Nat) : (Builtin.zeroCells (Value.agg zrow).cells m).toList = rv (List.replicate m noRw) := by
 have hc : (Value.agg zrow).cells = zrow := by simp [Value.cells,zrow]
 rw [hc]
 induction m with
 | zero => simp [Builtin.zeroCells,rv]
 | succ m ih =>
   have e : Builtin.zeroCells zrow (m + 1) = Builtin.zeroCells zrow m ++ zrow := by
    unfold Builtin.zeroCells
    have hz : zrow.size = 2 := rfl
    rw [hz,show (m + 1) * 2 = m * 2 + 1 + 1 by omega,Array.range_succ,Array.range_succ]
    simp only [Array.map_append,Array.append_assoc]
    congr 1
    have h0 : m * 2 % 2 = 0 := by omega
    have h1 : (m * 2 + 1) % 2 = 1 := by omega
    simp only [Array.map,Array.append_singleton]
    simp [h0,h1,zrow]
   rw [e,Array.toList_append,ih,List.replicate_succ',rv_append]
   rfl
theorem run_clear_rows (w : World) (ty : TypeId) (b o m c : Nat) (hc : ∀ j,j < m * 2 -> (w.cell? ⟨b,o + j,none⟩).isSome = true) (hf : ∀ j,j < m * 2 -> w.frozen? ⟨b,o + j,none⟩ = false) :
 (Builtin.clear_ #[53] ty #[.slice (some ⟨b,o,none⟩) m c]).run Tryz.prog w = .ok (.tuple #[]) (w.setCells b o (rv (List.replicate m noRw))) := by
 have hv : ∀ w,(zeroValue 52).run Tryz.prog w = .ok (.agg zrow) w := Tryz.zeroValue52
 cases m with
 | zero => simp [Builtin.clear_,run_underlying Tryz.underlying53,rv,World.setCells]
 | succ m =>
   have hzc : (Builtin.zeroCells (Value.agg zrow).cells (m + 1)).toList = rv (List.replicate (m + 1) noRw) := zero_rows (m + 1)
   have hst := run_storeCells_cells (P := Tryz.prog) b o (rv (List.replicate (m + 1) noRw)) 0 w (by simpa [rv_length] using hc) (by simpa [rv_length] using hf) (rv_one _)
   simp only [Nat.add_zero] at hst
   simp [Builtin.clear_,run_underlying Tryz.underlying53,hv,hzc,hst]
theorem delete_any (b c : Nat) (l : List Rw) (i n : Nat) (w : World) (h : Arr w b c l) (hn : l.length = n + 1) (hi : i <= n) :
 Calls Tryz.prog 253 #[.slice (some ⟨b,0,none⟩) (n + 1) c,.int .i64 i,.int .i64 ((i : Int) + 1)] w fun e w' => e = .returned (.slice (some ⟨b,0,none⟩) n c) /\ Arr w' b c (l.eraseIdx i) /\ w.grownBy w' (some b) := by
 have hle := h.le
 rw [hn] at hle
 have hA := h
 obtain ⟨cur,hB,h2,h3,hcs,htake⟩ := h
 rw [hn] at h2 htake
 have hB : Blk w.drew b 52 cur := hB
 have hfl : (rv (l.drop (i + 1))).length = (n - i) * 2 := by rw [rv_length,List.length_drop]; omega
 have S1 : Hid ((rv (l.drop (i + 1))).length = (n - i) * 2) := hfl
 have S2 := hid (rv_one (l.drop (i + 1)))
 have hsrc : Hid (∀ j u,(rv (l.drop (i + 1)))[j]? = some u -> w.drew.cell? ⟨b,(i + 1) * 2 + j,none⟩ = some u) := fun j u hu => by
  have hj : j < (n - i) * 2 := by rw [<- hfl]; exact (List.getElem?_eq_some_iff.1 hu).1
  rw [<- rv_drop,List.getElem?_drop] at hu
  rw [hB.cell,<- Array.getElem?_toList,<- hu,<- htake,List.getElem?_take_of_lt (by omega)]
 have S3 : Hid (∀ j,j < (rv (l.drop (i + 1))).length -> (w.drew.cell? ⟨b,0 + i * 2 + j,none⟩).isSome = true /\ w.drew.frozen? ⟨b,0 + i * 2 + j,none⟩ = false) := fun j hj => by
  rw [hfl] at hj
  refine ⟨?_,hB.frozen _⟩
  rw [hB.cell,Array.getElem?_eq_getElem (by omega)]
  rfl
 obtain ⟨cs1,hB1,hz1,hl1⟩ := lay_cells (o := 0 + i * 2) (vs := rv (l.drop (i + 1))) hB (by rw [hfl]; omega)
 obtain ⟨W1,hW1⟩ : ∃ W1,W1 = w.drew.setCells b (0 + i * 2) (rv (l.drop (i + 1))) := ⟨_,rfl⟩
 have HW := hid hW1
 have hB1' : Blk W1 b 52 cs1 := by rw [hW1]; exact hB1
 obtain ⟨cs2,hB2,hz2,hl2⟩ := lay_cells (o := n * 2) (vs := rv (List.replicate 1 noRw)) hB1' (by rw [rv_length,List.length_replicate]; omega)
 have hg1 : w.grownBy W1 (some b) := by
  rw [hW1]
  have := setMany_grown b (rv (l.drop (i + 1))) (0 + i * 2) w.drew
  exact ⟨this.os,this.tape,this.output,this.size,this.block⟩
 have hg2 := setMany_grown b (rv (List.replicate 1 noRw)) (n * 2) W1
 have hel : (l.eraseIdx i).length = n := by rw [List.length_eraseIdx,if_pos (by omega),hn]; omega
 have HOWN : Hid (Arr (W1.setCells b (n * 2) (rv (List.replicate 1 noRw))) b c (l.eraseIdx i)) := by
  refine ⟨cs2,hB2,by omega,h3,by omega,?_⟩
  have e0 : cur.toList.take (i * 2) = rv (l.take i) := by
   rw [<- rv_take,<- htake,List.take_take]
   congr 1
   omega
  have e1 : cs1.toList.take (n * 2) = rv (l.eraseIdx i) := by
   rw [hl1,Nat.zero_add,e0,<- rv_append,<- List.eraseIdx_eq_take_drop_succ]
   exact List.take_left' (by rw [rv_length,hel])
  rw [hel,hl2,List.append_assoc,e1]
  exact List.take_left' (by rw [rv_length,hel])
 have HGR := hid (only_trans hg1 hg2 (.inl rfl))
 have hcl2 := fun ty => run_clear_rows W1 ty b (n * 2) 1 (c - n) (fun j hj => by rw [hB1'.cell,Array.getElem?_eq_getElem (by omega)]; rfl) (fun j hj => hB1'.frozen _)
 obtain ⟨i0,t22,hi0,hz,hs4,hby,_,_⟩ := er
 have a1 : (i : Int) + 1 <= (n : Int) + 1 := by omega
 have a2 : (n : Int) + 1 <= (c : Int) := by omega
 have a3 : (i : Int) <= (i : Int) + 1 := by omega
 have a4 : ¬ c = n := by omega
 have a5 : i <= c := by omega
 have a6 : (i : Int) <= (c : Int) := by omega
 have a7 : (0 : Int) <= (i : Int) + 1 := by omega
 have a8 : ((i : Int) + 1).toNat = i + 1 := by omega
 have a9 : n + 1 - (i + 1) = n - i := by omega
 have a10 : ((i : Int) == (i : Int) + 1) = false := by rw [beq_eq_false_iff_ne]; omega
 have a11 : i + (n - i) = n := by omega
 have a12 : n + 1 - n = 1 := by omega
 have a13 : (n : Int) <= (n : Int) + 1 := by omega
 clear hg1 hg2 hl1 hl2 hB1 hB2 hB1' hW1 hz1 hz2 hfl hB htake hcs h3 hA
 generalize W1.setCells b (n * 2) (rv (List.replicate 1 noRw)) = W2 at *
 by_cases hc1 : c = i + 1
 ·have hni : n = i := by omega
  have S4 := hid (show ∀ j u,(rv (l.drop (i + 1)))[j]? = some u -> w.drew.cell? ((⟨b,0,none⟩ : Addr).add j) = some u from fun j u hu => by
   have h1 : (rv (l.drop (i + 1))).length = 0 := by rw [S1.out]; omega
   rw [List.eq_nil_of_length_eq_zero h1] at hu
   cases hu)
  have S5 := hid (show (rv (l.drop (i + 1))).length = 0 * 2 by rw [S1.out]; omega)
  subst hni
  subst hc1
  rw [show n + 1 - n = 1 by omega] at hcl2
  clear a4 a9 a11
  have b1 : ¬ n + 1 = n := by omega
  go_enter Tryz.func253,Tryz.ntmps253
  go_wp2_with fail
  go_region_law (refine step_append_room rfl (.tmp 22) (.tmp 25) 53 rfl 52 i0 2 t22 hi0 hs4 b 0 n (n + 1) (by simp [Act.eval,Act.put]) ⟨b,0,none⟩ 0 0 (rv (l.drop (n + 1))) (by simp [Act.eval,Act.put]) S5.out S4.out S2.out (by omega) S3.out ?_; rw [<- HW.out])
  go_wp2
  go_ret
  exact ⟨rfl,HOWN.out,HGR.out⟩
 ·go_enter Tryz.func253,Tryz.ntmps253
  go_wp2_with fail
  go_region_law (refine step_append_room rfl (.tmp 22) (.tmp 25) 53 rfl 52 i0 2 t22 hi0 hs4 b 0 i c (by simp [Act.eval,Act.put]) ⟨b,(i + 1) * 2,none⟩ (n - i) (c - (i + 1)) (rv (l.drop (i + 1))) (by simp [Act.eval,Act.put]) S1.out (by intro j u hu; rw [add_none]; exact hsrc.out j u hu) S2.out (by omega) S3.out ?_; rw [<- HW.out])
  go_wp2
  go_ret
  exact ⟨rfl,HOWN.out,HGR.out⟩
end Idx
namespace Idx
open Go.RowKit Base IdxMath
open Go.Sort (grow)
theorem got_cell {wr : World} {p : Addr} {v : Value} (h : wr.cell? p = some v) : ∀ n os,(grow (wr.drewN n) os).cell? p = some v := fun n os => cell_grown (World.block_lt_of_cell? wr p h) h n os
theorem below_grown {B : Nat} {a w : World} (h : Below B a w) (hB : B <= a.heap.size) (n : Nat) (os : Array Obj) : Below B a (grow (w.drewN n) os) :=
 h.trans ((below_grow w n os).mono (Nat.le_trans hB h.size))
def diff2' (i j : Value) : Nat := (RowKit.intOf j).toNat - (RowKit.intOf i).toNat
def SeekRel (w1 : World) (n : Nat) (l : List Rw) (k : Int) (vi vj : Value) (wr : World) : Prop :=
 ∃ i j : Nat,vi = .int .i64 i /\ vj = .int .i64 j /\ i <= j /\ j <= n /\ Lo l i k /\ Hi l j k /\ Below w1.heap.size w1 wr
def Sought (w : World) (l : List Rw) (k : Int) (e : Ending) (w' : World) : Prop :=
 e = .returned (.tuple #[.int .i64 (pos l k),.bool (there l k)]) /\ Below w.heap.size w w'
theorem search_any (B : Nat) (A : Option Addr) (n c : Nat) (l : List Rw) (t : Rw) (w : World) (h : Rs w B A n c l) (hB : B <= w.heap.size) (hs : Rise l) (hsz : n <= 1099511627776) :
 Calls Tryz.prog 241 #[.slice A n c,.agg #[.int .i64 t.key,.string t.val],.func (.func 153) #[] #[]] w (Sought w l t.key) := by
 have hlen := h.len
 have hle := h.le
 obtain ⟨w1,hw1⟩ : ∃ w1,w1 = w.alloc (.cells #[.int .i64 t.key,.string t.val] 52) := ⟨_,rfl⟩
 have hbx : Blk w1 w.heap.size 52 #[.int .i64 t.key,.string t.val] := by rw [hw1]; exact Blk.new _ _ _
 have hsz1 : w1.heap.size = w.heap.size + 1 := by rw [hw1]; simp
 have hbw : Below w.heap.size w w1 := by rw [hw1]; exact (Below.refl _ _).alloc (Nat.le_refl _) _
 have HW := hid hw1
 have HBX := hid hbx
 have HBW := hid hbw
 have HS1 := hid hsz1
 have HR : Hid (Rs w1 B A n c l) := h.below (hbw.mono hB)
 have HS := hid hs
 have HL := hid hlen
 obtain ⟨tb,htb⟩ : ∃ tb,tb = w.heap.size := ⟨_,rfl⟩
 rw [<- htb] at HBX
 have HTB := hid htb
 clear h hw1 hbx hbw hsz1 hs hlen
 go_enter Tryz.func241,Tryz.ntmps241
 go_wp2
 rw [<- HTB.out,<- HW.out]
 clear htb
 go_loopw [9,10] (fun i j wr => SeekRel w1 n l t.key i j wr) (fun i j _ => diff2' i j)
 case atStart => exact ⟨0,n,rfl,rfl,Nat.zero_le _,Nat.le_refl _,(fun p x hp => by omega),(fun p x hp hx => by rw [List.getElem?_eq_none (by rw [HL.out]; exact hp)] at hx; cases hx),Below.refl _ _⟩
 case round =>
  obtain ⟨i,j,rfl,rfl,hij,hjn,hlo,hhi,hb⟩ := hrel
  have HLO := hid hlo
  have HHI := hid hhi
  have HB := hid hb
  have mixed : Tryz.prog.follows .mixedOrders = true := by kernel_rfl
  have b0 := got_cell ((HBX.out.below hb (by rw [HS1.out,<- HTB.out]; omega)).cell 0)
  have b1 := got_cell ((HBX.out.below hb (by rw [HS1.out,<- HTB.out]; omega)).cell 1)
  have hRr := HR.out.below (hb.mono (by rw [HS1.out]; omega))
  clear hlo hhi hb
  by_cases hlt : i < j
  ·have l3 : (i : Int) < (j : Int) := by omega
   obtain ⟨k,hk⟩ : ∃ k,k = (i + j) / 2 := ⟨_,rfl⟩
   have e2 : ((i : Int) + (j : Int)) / 2 = (k : Int) := by omega
   have hkb : i <= k /\ k < j := by omega
   obtain ⟨b,off,x,rfl,_,c0,c1,hx,_⟩ := hRr.at_ (k := k) (by omega)
   have c0 := got_cell c0
   have c1 := got_cell c1
   have hc := cmp_grown x t wr
   have HX := hid hx
   have l4 : (k : Int) < (n : Int) := by omega
   have HK := hid hk
   have HKB := hid hkb
   have l6 : k + 1 <= n := by omega
   clear hx hk hkb hRr
   by_cases hxu : x.key < t.key
   ·rw [cmpK_neg hxu] at hc
    have hn : ((-1 : Int) < 0) := by omega
    go_wp2_with fail
    go_quiet_grown (first | (go_at_call 153; exact hc _ _))
    go_wp2
    go_roundw
    case rel =>
     have := HKB.out
     exact ⟨k + 1,j,by go_num,rfl,by omega,hjn,HS.out.srt.lo HX.out hxu,HHI.out,below_grown HB.out (Nat.le_refl _) _ _⟩
    case measure =>
     have := HKB.out
     simp [RowKit.intOf,diff2']; omega
   ·have hk2 : decide (cmpK x.key t.key < 0) = false := decide_eq_false fun h => hxu (cmpK_lt.1 h)
    go_wp2_with fail
    go_quiet_grown (first | (go_at_call 153; exact hc _ _))
    go_wp2
    go_roundw
    case rel =>
     have := HKB.out
     exact ⟨i,k,rfl,rfl,by omega,by omega,HLO.out,HS.out.srt.hi HX.out (by omega),below_grown HB.out (Nat.le_refl _) _ _⟩
    case measure =>
     have := HKB.out
     simp [RowKit.intOf,diff2']; omega
  ·obtain rfl : i = j := by omega
   have HP := hid (pos_of (by rw [HL.out]; exact hjn) HLO.out HHI.out)
   have l2 : ¬ (i : Int) < (i : Int) := by omega
   by_cases hin : i < n
   ·obtain ⟨b,off,x,rfl,_,c0,c1,hx,_⟩ := hRr.at_ hin
    have c0 := got_cell c0
    have c1 := got_cell c1
    have hc := cmp_grown x t wr
    have HX := hid hx
    have l4 : (i : Int) < (n : Int) := by omega
    clear hx hRr
    by_cases hxu : x.key = t.key
    ·have hz : cmpK x.key t.key = 0 := cmpK_eq.2 hxu
     rw [hz] at hc
     have HXU := hid hxu
     clear hxu hz
     go_wp2_with fail
     go_quiet_grown (first | (go_at_call 153; exact hc _ _))
     go_wp2
     go_ret2
     have hth : there l t.key = true := there_yes (by rw [HP.out]; exact HX.out) HXU.out
     exact ⟨by rw [HP.out,hth]; rfl,HBW.out.trans ((below_grown HB.out (Nat.le_refl _) _ _).mono (by rw [HS1.out]; omega))⟩
    ·have hz : (cmpK x.key t.key == 0) = false := by rw [beq_eq_false_iff_ne]; exact fun h => hxu (cmpK_eq.1 h)
     have HXU := hid hxu
     clear hxu
     go_wp2_with fail
     go_quiet_grown (first | (go_at_call 153; exact hc _ _))
     go_wp2
     go_ret2
     have hth : there l t.key = false := there_no (by rw [HP.out]; exact HX.out) HXU.out
     exact ⟨by rw [HP.out,hth]; rfl,HBW.out.trans ((below_grown HB.out (Nat.le_refl _) _ _).mono (by rw [HS1.out]; omega))⟩
   ·obtain rfl : i = n := by omega
    have hth := hid (show there l t.key = false from there_end (by rw [HP.out,HL.out]; exact Nat.le_refl _))
    have l4 : decide ((i : Int) < (i : Int)) = false := by simp
    clear hRr b0 b1
    go_wp2_with fail
    go_quiet (fail)
    go_wp2
    go_ret2
    exact ⟨by rw [HP.out,hth.out]; rfl,HBW.out.trans ((below_drewN HB.out _).mono (by rw [HS1.out]; omega))⟩
end Idx
namespace Idx
open Go.RowKit Base IdxMath
open Go.Sort (grow)
theorem same_grown (x y : Rw) (wr : World) (n : Nat) (os : Array Obj) : Calls Tryz.prog 155 #[.agg #[.int .i64 x.key,.string x.val],.agg #[.int .i64 y.key,.string y.val]] (grow (wr.drewN n) os) fun e w'' => e = .returned (.bool (decide (x.key = y.key))) /\ ∃ p : GrownBy,w'' = grow (wr.drewN p.n) p.os :=
 Calls.grown_of (samekey_any x y _)
theorem cpt_take {l : List Rw} {p : Nat} {x y : Rw} (hp : 0 < p) (hx : l[p - 1]? = some x) (hy : l[p]? = some y) : cpt (l.take (p + 1)) = cpt (l.take p) ++ if x.key = y.key then [] else [y] := by
 obtain ⟨hpl,rfl⟩ := List.getElem?_eq_some_iff.1 hy
 rw [List.take_succ_eq_append_getElem hpl,cpt,dd_snoc]
 have : last none (l.take p) = some x.key := by
  unfold last
  have e : (l.take p).getLast? = some x := by
   rw [List.getLast?_eq_getElem?,List.length_take,List.getElem?_take_of_lt (by omega),show min p l.length - 1 = p - 1 by omega]
   exact hx
  rw [e]
 rw [this]
 by_cases h : x.key = l[p].key
 ·simp [h,cpt]
 ·simp [h,cpt]
theorem cpt_one (l : List Rw) (h : 0 < l.length) : (cpt (l.take 1)).length = 1 /\ cpt (l.take 1) = l.take 1 := by
 cases l with
 | nil => simp at h
 | cons x r => simp [cpt,dd]
theorem cpt_short {l : List Rw} (h : l.length < 2) : cpt l = l := by
 match l,h with
 | [],_ => rfl
 | [x],_ => rfl
theorem Arr.cleared {w : World} {b c : Nat} {C Z : List Rw} (h : Arr w b c (C ++ Z)) : Arr (w.setCells b (C.length * 2) (rv (List.replicate Z.length noRw))) b c C := by
 obtain ⟨cur,h1,h2,h3,h4,h5⟩ := h
 rw [List.length_append] at h2 h5
 obtain ⟨cs',k1,k2,k3⟩ := lay_cells (o := C.length * 2) (vs := rv (List.replicate Z.length noRw)) h1 (by rw [rv_length,List.length_replicate]; omega)
 refine ⟨cs',k1,by omega,h3,by omega,?_⟩
 have e : cur.toList.take (C.length * 2) = rv C := by
  have := congrArg (List.take (C.length * 2)) h5
  rw [List.take_take,Nat.min_eq_left (by omega),rv_take,List.take_left' rfl] at this
  exact this
 rw [k3,e,List.append_assoc]
 exact List.take_left' (rv_length C)
def DupRel (w : World) (b c : Nat) (l : List Rw) (v : Value) (wr : World) : Prop :=
 ∃ i : Nat,v = .int .i64 i /\ 1 <= i /\ i <= l.length /\ cpt (l.take i) = l.take i /\ Arr wr b c l /\ w.grownBy wr (some b)
def PackRel (w : World) (b c i0 : Nat) (l : List Rw) (vi v2 : Value) (wr : World) : Prop :=
 ∃ (i k : Nat) (J : List Rw),vi = .int .i64 i /\ v2 = .int .i64 k /\ 1 <= k /\ i0 + k <= l.length /\ (cpt (l.take (i0 + k))).length = i /\ 1 <= i /\ i + J.length = i0 + k - 1 /\ Arr wr b c (cpt (l.take (i0 + k)) ++ J ++ l.drop (i0 + k - 1)) /\ w.grownBy wr (some b)
theorem compact_any (b c n : Nat) (l : List Rw) (w : World) (h : Arr w b c l) (hn : n = l.length) (hsz : n <= 1099511627776) :
 Calls Tryz.prog 154 #[.slice (some ⟨b,0,none⟩) n c,.func (.func 155) #[] #[]] w fun e w' => e = .returned (.slice (some ⟨b,0,none⟩) (cpt l).length c) /\ Arr w' b c (cpt l) /\ w.grownBy w' (some b) := by
 have hle := h.le
 rw [<- hn] at hle
 have HA := hid h
 have HN := hid hn
 clear h
 by_cases h2 : n < 2
 ·have HE := hid (cpt_short (l := l) (by omega))
  clear hn
  go_enter Tryz.func154,Tryz.ntmps154
  go_wp2
  go_ret
  exact ⟨by rw [HE.out,<- HN.out]; rfl,by rw [HE.out]; exact HA.out,World.grownBy.refl _ _⟩
 ·have S0 : Hid (DupRel w b c l (.int .i64 1) w) := ⟨1,rfl,Nat.le_refl _,by omega,(cpt_one l (by omega)).2,HA.out,World.grownBy.refl _ _⟩
  have h2' : 2 <= n := by omega
  have h2d : decide ((n : Int) < 2) = false := decide_eq_false (by omega)
  clear hn
  go_enter Tryz.func154,Tryz.ntmps154
  go_wp2
  go_loopw [5] (fun v wr => DupRel w b c l v wr) (fun v _ => n - (RowKit.intOf v).toNat)
  case atStart => exact S0.out
  case round =>
   obtain ⟨i,rfl,h1,hil,hct,harr,hg⟩ := hrel
   rw [<- HN.out] at hil
   have HG := hid hg
   have HCT := hid hct
   have mixed : Tryz.prog.follows .mixedOrders = true := by kernel_rfl
   clear hg hct
   by_cases hlt : i < n
   ·obtain ⟨ip,rfl⟩ : ∃ ip,i = ip + 1 := ⟨i - 1,by omega⟩
    obtain ⟨x,hx⟩ : ∃ x,l[ip]? = some x := ⟨_,List.getElem?_eq_getElem (by rw [<- HN.out]; omega)⟩
    obtain ⟨y,hy⟩ : ∃ y,l[ip + 1]? = some y := ⟨_,List.getElem?_eq_getElem (by rw [<- HN.out]; omega)⟩
    obtain ⟨c0,c1⟩ := harr.got hx
    obtain ⟨c2,c3⟩ := harr.got hy
    have hc := same_grown y x wr
    have HT := hid (cpt_take (p := ip + 1) (by omega) hx hy)
    have HXY := hid (And.intro hx hy)
    have HAR := hid harr
    have l1 : (ip : Int) + 1 < (n : Int) := by omega
    have l2 : (ip : Int) < (n : Int) := by omega
    have l3 : (0 : Int) <= (ip : Int) + 1 := by omega
    have l4 : ((ip : Int) + 1).toNat = ip + 1 := by omega
    have l5 : IntKind.i64.wrap (ip : Int) = (ip : Int) := by rw [IntKind.wrap_i64]; omega
    clear hx hy harr
    by_cases hxy : x.key = y.key
    ·have hd : decide (y.key = x.key) = true := decide_eq_true hxy.symm
     rw [hd] at hc
     have HC1 := hid (show cpt (l.take (ip + 1 + 1)) = l.take (ip + 1) by rw [HT.out,if_pos hxy,List.append_nil,HCT.out])
     have S1 : Hid (∀ nq osq,PackRel w b c (ip + 1) l (.int .i64 ((ip : Int) + 1)) (.int .i64 1) (grow (wr.drewN nq) osq)) := fun nq osq =>
      ⟨ip + 1,1,[],rfl,rfl,Nat.le_refl _,by rw [<- HN.out]; omega,by rw [HC1.out,List.length_take,<- HN.out]; omega,by omega,by simp,by
       rw [HC1.out,List.append_nil,show ip + 1 + 1 - 1 = ip + 1 by omega,List.take_append_drop]
       exact HAR.out.grown _ _,only_grow HG.out _ _⟩
     have l6 : ip + 1 <= c := by omega
     have l7 : ¬ c = ip + 1 := by omega
     have l8 : (ip : Int) + 1 <= (n : Int) := by omega
     obtain ⟨m,em⟩ : ∃ m,n - (ip + 1) = m := ⟨_,rfl⟩
     have HM := hid (show n = ip + 1 + m by omega)
     have l9 : m <= n := by omega
     clear hd hxy
     go_wp2_with fail
     go_quiet_grown (first | (go_at_call 155; exact hc _ _))
     have S2 := hid (S1.out nq osq)
     clear c0 c1 c2 c3 hc S1
     generalize grow (wr.drewN nq) osq = wq at *
     go_wp2
     go_loopw [5,7] (fun vi vk wr => PackRel w b c (ip + 1) l vi vk wr) (fun _ vk _ => n - (RowKit.intOf vk).toNat)
     case atStart => exact S2.out
     case round =>
      obtain ⟨i,k,J,rfl,rfl,hk1,hkl,hci,hi1,hJ,harr,hg⟩ := hrel
      rw [<- HN.out] at hkl
      have HG2 := hid hg
      have HCI := hid hci
      have HJ := hid hJ
      clear hg hci hJ
      by_cases hkm : k < m
      ·obtain ⟨kp,rfl⟩ : ∃ kp,k = kp + 1 := ⟨k - 1,by omega⟩
       have hm := HM.out
       have eP : ip + 1 + (kp + 1) - 1 = ip + 1 + kp := by omega
       obtain ⟨x,hx⟩ : ∃ x,l[ip + 1 + kp]? = some x := ⟨_,List.getElem?_eq_getElem (by rw [<- HN.out]; omega)⟩
       obtain ⟨y,hy⟩ : ∃ y,l[ip + 1 + kp + 1]? = some y := ⟨_,List.getElem?_eq_getElem (by rw [<- HN.out]; omega)⟩
       have hd : l.drop (ip + 1 + kp) = x :: y :: l.drop (ip + 1 + kp + 1 + 1) := by
        obtain ⟨hp1,e1⟩ := List.getElem?_eq_some_iff.1 hx
        obtain ⟨hp2,e2⟩ := List.getElem?_eq_some_iff.1 hy
        rw [List.drop_eq_getElem_cons hp1,List.drop_eq_getElem_cons hp2,e1,e2]
       have hd2 : l.drop (ip + 1 + kp + 1) = y :: l.drop (ip + 1 + kp + 1 + 1) := by
        obtain ⟨hp2,e2⟩ := List.getElem?_eq_some_iff.1 hy
        rw [List.drop_eq_getElem_cons hp2,e2]
       have HT2 := hid (cpt_take (p := ip + 1 + kp + 1) (by omega) hx hy)
       rw [eP,hd] at harr
       have hCl : (cpt (l.take (ip + 1 + (kp + 1)))).length = i := HCI.out
       have hJl := HJ.out
       rw [eP] at hJl
       have HCL := hid hCl
       have HJL := hid hJl
       have HD2 := hid hd2
       rw [show ip + 1 + (kp + 1) = ip + 1 + kp + 1 by omega] at harr hCl HCL
       generalize hC : cpt (l.take (ip + 1 + kp + 1)) = C at harr hCl HCL HT2
       have HC := hid hC
       have gx : (C ++ J ++ x :: y :: l.drop (ip + 1 + kp + 1 + 1))[ip + 1 + kp]? = some x := get_app (by rw [List.length_append]; omega)
       have gy : (C ++ J ++ x :: y :: l.drop (ip + 1 + kp + 1 + 1))[ip + 1 + kp + 1]? = some y := by
        have := get_app (p := C ++ J ++ [x]) (r := l.drop (ip + 1 + kp + 1 + 1)) (x := y) (i := ip + 1 + kp + 1) (by rw [List.length_append,List.length_append,List.length_singleton]; omega)
        simpa using this
       have q1 : (ip + 1) * 2 + kp * 2 = (ip + 1 + kp) * 2 := by omega
       have q2 : (ip + 1) * 2 + (kp + 1) * 2 = (ip + 1 + kp + 1) * 2 := by omega
       obtain ⟨c0,c1⟩ := harr.got gx
       obtain ⟨c2,c3⟩ := harr.got gy
       have hc := same_grown y x wr
       obtain ⟨z,J',hzJ⟩ : ∃ z J',J ++ [x] = z :: J' := by
        cases J with
        | nil => exact ⟨x,[],rfl⟩
        | cons a r => exact ⟨a,r ++ [x],rfl⟩
       have hzl : J'.length = J.length := by have := congrArg List.length hzJ; simpa using this.symm
       have gz : (C ++ J ++ x :: y :: l.drop (ip + 1 + kp + 1 + 1)) = C ++ z :: (J' ++ y :: l.drop (ip + 1 + kp + 1 + 1)) := by
        have := congrArg (fun t => C ++ (t ++ y :: l.drop (ip + 1 + kp + 1 + 1))) hzJ
        simpa using this
       have HGY := hid gy
       have HGZ := hid (And.intro hzJ (And.intro hzl gz))
       have HAR2 := hid harr
       have r1 : (kp : Int) + 1 < (m : Int) := by omega
       have r2 : (kp : Int) < (m : Int) := by omega
       have r3 : (0 : Int) <= (kp : Int) + 1 := by omega
       have r4 : ((kp : Int) + 1).toNat = kp + 1 := by omega
       have r5 : IntKind.i64.wrap (kp : Int) = (kp : Int) := by rw [IntKind.wrap_i64]; omega
       have r6 : (i : Int) < (n : Int) := by omega
       have HFIN := hid (show ip + 1 + (kp + 1) + 1 <= l.length by rw [<- HN.out]; omega)
       clear harr hx hy hd hd2 hC hCl hJl gx gy gz hzJ hzl eP hm
       by_cases hxy : x.key = y.key
       ·have hdd : decide (y.key = x.key) = true := decide_eq_true hxy.symm
        rw [hdd] at hc
        have HXY2 := hid hxy
        clear hxy hdd
        go_wp2_with fail
        go_quiet_grown (first | (go_at_call 155; exact hc _ _))
        go_wp2
        go_roundw
        case rel =>
         have ec : cpt (l.take (ip + 1 + (kp + 1 + 1))) = C := by
          rw [show ip + 1 + (kp + 1 + 1) = ip + 1 + kp + 1 + 1 by omega,HT2.out,if_pos HXY2.out,List.append_nil]
         refine ⟨i,kp + 1 + 1,J ++ [x],rfl,by go_num,by omega,by have := HFIN.out; omega,by rw [ec]; exact HCL.out,hi1,by rw [List.length_append,List.length_singleton]; have := HJL.out; omega,?_,only_grow HG2.out _ _⟩
         rw [ec,show ip + 1 + (kp + 1 + 1) - 1 = ip + 1 + kp + 1 by omega,HD2.out]
         have := HAR2.out.grown nq osq
         simpa using this
        case measure => simp [RowKit.intOf]; omega
       ·have hdd : decide (y.key = x.key) = false := decide_eq_false fun h => hxy h.symm
        rw [hdd] at hc
        have HXY2 := hid hxy
        clear hxy hdd
        go_wp2_with fail
        go_quiet_grown (first | (go_at_call 155; exact hc _ _))
        have hA3 := HAR2.out.grown nq osq
        have HG3 := hid (only_grow HG2.out nq osq)
        clear c0 c1 c2 c3 hc
        generalize grow (wr.drewN nq) osq = wq2 at *
        obtain ⟨c2,c3⟩ := hA3.get HGY.out
        rw [HGZ.out.2.2] at hA3
        obtain ⟨c4,c5⟩ := hA3.get (get_app HCL.out)
        have f1 := hA3.frozen (i * 2)
        have f2 := hA3.frozen (i * 2 + 1)
        have HSET := hid (hA3.set i y)
        clear hA3
        go_wp2
        go_roundw
        case rel =>
         have ec : cpt (l.take (ip + 1 + (kp + 1 + 1))) = C ++ [y] := by
          rw [show ip + 1 + (kp + 1 + 1) = ip + 1 + kp + 1 + 1 by omega,HT2.out,if_neg HXY2.out]
         refine ⟨i + 1,kp + 1 + 1,J',by go_num,by go_num,by omega,by have := HFIN.out; omega,by rw [ec,List.length_append,HCL.out]; rfl,by omega,by have := HJL.out; have := HGZ.out.2.1; omega,?_,only_setCell (only_setCell HG3.out (.inl rfl) _) (.inl rfl) _⟩
         rw [ec,show ip + 1 + (kp + 1 + 1) - 1 = ip + 1 + kp + 1 by omega,HD2.out]
         have := HSET.out
         rw [List.set_append_right _ _ (by rw [HCL.out]; exact Nat.le_refl _),HCL.out,Nat.sub_self,List.set_cons_zero] at this
         simpa using this
        case measure => simp [RowKit.intOf]; omega
      ·obtain rfl : k = m := by have := HM.out; omega
       have hm := HM.out
       rw [<- hm] at harr
       have ht : l.take n = l := by rw [HN.out]; exact List.take_length
       have hci := HCI.out
       have hj := HJ.out
       rw [<- hm,ht] at hci
       rw [ht,List.append_assoc] at harr
       rw [<- hm] at hj
       have hzl : (J ++ l.drop (n - 1)).length = n - i := by rw [List.length_append,List.length_drop,<- HN.out]; omega
       have hclr := harr.cleared
       rw [hzl,hci] at hclr
       have hcell : ∀ j,j < c * 2 -> (wr.cell? ⟨b,j,none⟩).isSome = true /\ wr.frozen? ⟨b,j,none⟩ = false := fun j hj => by
        obtain ⟨cur,k1,k2,k3,k4,k5⟩ := harr
        exact ⟨by rw [k1.cell,Array.getElem?_eq_getElem (by omega)]; rfl,k1.frozen _⟩
       have hcl2 := fun ty => run_clear_rows wr ty b (i * 2) (n - i) (c - i) (fun j hj => (hcell _ (by omega)).1) (fun j hj => (hcell _ (by omega)).2)
       have HG3 := hid (show w.grownBy (wr.setCells b (i * 2) (rv (List.replicate (n - i) noRw))) (some b) from only_trans HG2.out (setMany_grown b (rv (List.replicate (n - i) noRw)) (i * 2) wr) (.inl rfl))
       have HCLR := hid hclr
       have HCI2 := hid hci
       have r1 : ¬ c = i := by omega
       have r2 : (i : Int) <= (n : Int) := by omega
       have r3 : i <= n := by omega
       have r4 : i <= c := by omega
       have r5 : (i : Int) <= (c : Int) := by omega
       clear harr hclr hci hj hm ht hzl hcell
       generalize wr.setCells b (i * 2) (rv (List.replicate (n - i) noRw)) = W9 at *
       go_wp2
       go_ret
       exact ⟨by rw [HCI2.out]; rfl,HCLR.out,HG3.out⟩
    ·have hd : decide (y.key = x.key) = false := decide_eq_false fun h => hxy h.symm
     rw [hd] at hc
     have HXY2 := hid hxy
     clear hd hxy
     go_wp2_with fail
     go_quiet_grown (first | (go_at_call 155; exact hc _ _))
     go_wp2
     go_roundw
     case rel =>
      refine ⟨ip + 1 + 1,by go_num,by omega,by rw [<- HN.out]; omega,?_,HAR.out.grown _ _,only_grow HG.out _ _⟩
      obtain ⟨hp2,e2⟩ := List.getElem?_eq_some_iff.1 HXY.out.2
      rw [HT.out,if_neg HXY2.out,HCT.out,List.take_succ_eq_append_getElem hp2,e2]
     case measure => simp [RowKit.intOf]; omega
   ·have ht : cpt l = l := by
     have := HCT.out
     rw [show i = l.length by rw [<- HN.out]; omega,List.take_length] at this
     exact this
    have HT := hid ht
    have HAR := hid harr
    clear ht harr
    go_wp2
    go_ret
    exact ⟨by rw [HT.out,<- HN.out]; rfl,by rw [HT.out]; exact HAR.out,HG.out⟩
end Idx
end Go.Proofs.YtefnmnpfecfdaaaGreat
