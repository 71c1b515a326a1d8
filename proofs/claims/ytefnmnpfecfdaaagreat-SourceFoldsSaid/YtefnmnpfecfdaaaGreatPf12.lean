/-
  Texts of one proof: IdxInsert, IdxEdit, IdxFind.
-/
import Derived.Test.YtefnmnpfecfdaaaGreatPf11
set_option linter.all false
set_option maxRecDepth 100000
set_option maxHeartbeats 3200000
open Go.Lib (hid)
namespace Go.Proofs.YtefnmnpfecfdaaaGreat
namespace Idx
open Go.RowKit Base IdxMath
open Go.Sort (grow)
theorem cmp_grown (x y : Rw) (wr : World) (n : Nat) (os : Array Obj) : Calls Tryz.prog 153 #[.agg #[.int .i64 x.key,.string x.val],.agg #[.int .i64 y.key,.string y.val]] (grow (wr.drewN n) os) fun e w'' => e = .returned (.int .i64 (cmpK x.key y.key)) /\ ∃ p : GrownBy,w'' = grow (wr.drewN p.n) p.os :=
 Calls.grown_of (bykeys_any x y _)
theorem Arr.got {wr : World} {b c : Nat} {l : List Rw} (h : Arr wr b c l) {k : Nat} {x : Rw} (hx : l[k]? = some x) :
 (∀ n os,(grow (wr.drewN n) os).cell? ⟨b,k * 2,none⟩ = some (.int .i64 x.key)) /\ (∀ n os,(grow (wr.drewN n) os).cell? ⟨b,k * 2 + 1,none⟩ = some (.string x.val)) :=
 ⟨fun n os => ((h.grown n os).get hx).1,fun n os => ((h.grown n os).get hx).2⟩
theorem only_grow {a w : World} {row : Option Nat} (h : a.grownBy w row) (n : Nat) (os : Array Obj) : a.grownBy (grow (w.drewN n) os) row :=
 ⟨h.os,h.tape,h.output,Nat.le_trans h.size (by simp),fun i hi hne => (Go.Sort.heap_grow_old (w.drewN n) os (Nat.lt_of_lt_of_le hi h.size)).trans (h.block i hi hne)⟩
def InsRel (w : World) (b c a : Nat) (P U R : List Rw) (vi : Value) (wr : World) : Prop :=
 ∃ (k : Nat) (D E : List Rw),vi = .int .i64 k /\ (a + D.length = k \/ (D = [] /\ E = [] /\ k = a + 1)) /\ a < k /\ Srt D /\ St U (D ++ E) /\ (D ++ E).length = U.length /\ Arr wr b c (P ++ D ++ E ++ R) /\ w.grownBy wr (some b)
def InsRel2 (w : World) (b c a k : Nat) (P U E R : List Rw) (vj : Value) (wr : World) : Prop :=
 ∃ (j : Nat) (X : List Rw) (y : Rw) (Z : List Rw),vj = .int .i64 j /\ a + X.length = j /\ j + Z.length = k /\ Srt (X ++ Z) /\ (∀ z ∈ Z,y.key < z.key) /\ St U (X ++ y :: Z ++ E) /\ (X ++ y :: Z ++ E).length = U.length /\ Arr wr b c (P ++ X ++ y :: Z ++ E ++ R) /\ w.grownBy wr (some b)
theorem ins_done {X Z : List Rw} {y : Rw} (h : Srt (X ++ Z)) (hz : ∀ z ∈ Z,y.key < z.key) (hx : X = [] \/ ∃ X' x,X = X' ++ [x] /\ x.key <= y.key) : Srt (X ++ y :: Z) := by
 obtain ⟨h1,h2,h3⟩ := h.parts
 refine Srt.app h1 (List.Pairwise.cons (fun z hz' => Int.le_of_lt (hz z hz')) h2) fun a ha b hb => ?_
 rcases List.mem_cons.1 hb with rfl | hb
 ·rcases hx with rfl | ⟨X',x,rfl,hxy⟩
  ·cases ha
  ·rcases List.mem_append.1 ha with ha | ha
   ·have := (Srt.parts h1).2.2 a ha x List.mem_cons_self
    omega
   ·rw [List.mem_singleton] at ha
    subst ha
    exact hxy
 ·exact h3 a ha b hb
theorem insertion_any (b c N : Nat) (P U R : List Rw) (a e : Nat) (w : World) (h : Arr w b c (P ++ U ++ R)) (hN : N = (P ++ U ++ R).length) (hP : P.length = a) (hU : a + U.length = e) (hsz : N <= 4611686018427387903) :
 Calls Tryz.prog 246 #[.slice (some ⟨b,0,none⟩) N c,.int .i64 a,.int .i64 e,.func (.func 153) #[] #[]] w fun e w' => e = .returned (.tuple #[]) /\ w.grownBy w' (some b) /\ ∃ U',Srt U' /\ St U U' /\ U'.length = U.length /\ Arr w' b c (P ++ U' ++ R) := by
 have hle := h.le
 rw [<- hN] at hle
 have S0 : Hid (InsRel w b c a P U R (.int .i64 ((a + 1 : Nat) : Int)) w) := by
  cases U with
  | nil => exact ⟨a + 1,[],[],rfl,.inr ⟨rfl,rfl,rfl⟩,by omega,Srt.nil,St.refl _,rfl,by simpa using h,World.grownBy.refl _ _⟩
  | cons x r => exact ⟨a + 1,[x],r,rfl,.inl rfl,by omega,Srt.one x,St.refl _,rfl,by simpa using h,World.grownBy.refl _ _⟩
 have HL : Hid (∀ D E : List Rw,(D ++ E).length = U.length -> N = (P ++ D ++ E ++ R).length /\ a + D.length + E.length = e /\ P.length = a) := fun D E he => ⟨by rw [hN]; simp at he ⊢; omega,by simp at he; omega,hP⟩
 have l0 : e <= N := by rw [hN]; simp; omega
 have l1 : a <= N := by omega
 clear h hN hP hU
 go_enter Tryz.func246,Tryz.ntmps246
 go_wp2
 go_loopw [8] (fun i wr => InsRel w b c a P U R i wr) (fun i _ => e + 1 - (RowKit.intOf i).toNat)
 case atStart => exact S0.out
 case round =>
  obtain ⟨k,D,E,rfl,hD,hak,hs,hst,hlen,harr,hg⟩ := hrel
  obtain ⟨q1,q2,q3⟩ := HL.out D E hlen
  have HA := hid harr
  have HG := hid hg
  have HS := hid hs
  have HT := hid hst
  have HLEN := hid hlen
  clear harr hg hs hst hlen
  by_cases hlt : k < e
  ·have hD' : a + D.length = k := by
    rcases hD with h | ⟨rfl,rfl,_⟩
    ·exact h
    ·simp at q2; omega
   obtain ⟨y,E',rfl⟩ : ∃ y E',E = y :: E' := by
    cases E with
    | nil => simp at q2; omega
    | cons y E' => exact ⟨y,E',rfl⟩
   have S1 : Hid (InsRel2 w b c a k P U E' R (.int .i64 k) wr) := ⟨k,D,y,[],rfl,hD',rfl,by simpa using HS.out,by simp,by simpa using HT.out,by simpa using HLEN.out,by simpa using HA.out,HG.out⟩
   clear q1 q2 q3 hD hD'
   go_wp2
   go_loopw [9] (fun j wr => InsRel2 w b c a k P U E' R j wr) (fun j _ => (RowKit.intOf j).toNat)
   case atStart => exact S1.out
   case round =>
    obtain ⟨j,X,y,Z,rfl,hX,hZ,hs,hz,hst,hlen,harr,hg⟩ := hrel
    obtain ⟨q1,q2,q3⟩ := HL.out (X ++ y :: Z) E' (by simpa using hlen)
    have HG := hid hg
    have HS := hid hs
    have HZ := hid hz
    have HT := hid hst
    have HLEN := hid hlen
    have HX := hid hX
    have HZL := hid hZ
    have HP := hid q3
    clear q1 q2 q3 hg hs hz hst hlen
    have l2 : j <= k := by omega
    rcases List.eq_nil_or_concat X with rfl | ⟨X',x,rfl⟩
    ·have hj : a = j := by simpa using hX
     subst hj
     have HA := hid harr
     clear harr hX hZ
     have hd : decide ((a : Int) > (a : Int)) = false := by simp
     go_wp2_with fail
     go_quiet (fail)
     go_wp2
     go_roundw
     case rel =>
      have := HZL.out
      refine ⟨k + 1,y :: Z,E',by go_num,.inl (by rw [List.length_cons]; omega),by omega,?_,by simpa using HT.out,by simpa using HLEN.out,by simpa using HA.out.drewN nq,only_drewN HG.out _⟩
      have := ins_done (X := []) HS.out HZ.out (.inl rfl)
      simpa using this
     case measure => simp [RowKit.intOf]; omega
    ·rw [List.concat_eq_append] at *
     obtain ⟨jp,hjp⟩ : ∃ jp,j = jp + 1 := ⟨j - 1,by simp at hX; omega⟩
     subst hjp
     have e0 : P ++ (X' ++ [x]) ++ y :: Z ++ E' ++ R = (P ++ X') ++ x :: [] ++ y :: (Z ++ E' ++ R) := by simp
     rw [e0] at harr
     have hi : (P ++ X').length = jp := by simp at hX; rw [List.length_append,HP.out]; omega
     obtain ⟨c1,c2⟩ := harr.got (k := jp) (x := x) (by rw [List.append_assoc]; exact get_app hi)
     obtain ⟨c3,c4⟩ := harr.got (k := jp + 1) (x := y) (get_app (by simp; simp at hi; omega))
     have hc := cmp_grown y x wr
     have HA := hid harr
     have HI := hid hi
     have l3 : jp + 1 < N := by omega
     have l4 : a <= jp := by simp at hX; omega
     have l5 : (a : Int) < (jp : Int) + 1 := by omega
     have l6 : (jp : Int) < (N : Int) := by omega
     have l7 : (jp : Int) + 1 < (N : Int) := by omega
     have l8 : (0 : Int) <= (jp : Int) + 1 := by omega
     have l9 : ((jp : Int) + 1).toNat = jp + 1 := by omega
     have l10 : IntKind.i64.wrap (jp : Int) = (jp : Int) := by rw [IntKind.wrap_i64]; omega
     have mixed : Tryz.prog.follows .mixedOrders = true := by kernel_rfl
     clear harr hi e0 hX hZ
     by_cases hyx : y.key < x.key
     ·rw [cmpK_neg hyx] at hc
      go_wp2_with fail
      go_quiet_grown (first | (go_at_call 153; exact hc _ _))
      have hA2 := HA.out.grown nq osq
      have hG2 := only_grow HG.out nq osq
      clear c1 c2 c3 c4 hc
      generalize grow (wr.drewN nq) osq = wq at *
      obtain ⟨⟨a1,a2,a3,a4⟩,⟨f1,f2,f3,f4⟩,⟨n1,n2,n3,n4,n5,n6,n7,n8,n9,n10⟩,_,HS2⟩ := swap_facts hA2 (i := jp) (j := jp + 1) HI.out rfl
      have HG2 := hid hG2
      have HK := hid hyx
      clear hA2 hG2 hyx
      go_wp2_with fail
      go_region
      go_wp2
      go_roundw
      case rel =>
       have hx := HX.out
       have hz := HZL.out
       simp at hx
       refine ⟨jp,X',y,x :: Z,by go_num,by omega,by rw [List.length_cons]; omega,by simpa using HS.out,?_,?_,by have := HLEN.out; simp at this ⊢; omega,?_,only_drewN (four_on HG2.out _ _ _ _ _ _ _ _) 1⟩
       ·intro z hz
        rcases List.mem_cons.1 hz with rfl | hz
        ·exact HK.out
        ·exact HZ.out z hz
       ·have h1 := HT.out
        have h2 := St.swap2 HK.out X' (Z ++ E')
        have e1 : X' ++ [x] ++ y :: Z ++ E' = X' ++ x :: y :: (Z ++ E') := by simp
        have e2 : X' ++ y :: x :: Z ++ E' = X' ++ y :: x :: (Z ++ E') := by simp
        rw [e1] at h1
        rw [e2]
        exact h1.trans h2
       ·have e1 : P ++ X' ++ y :: x :: Z ++ E' ++ R = (P ++ X') ++ y :: [] ++ x :: (Z ++ E' ++ R) := by simp
        rw [e1]
        exact HS2.out
      case measure => simp [RowKit.intOf]
     ·have hk2 : ¬ cmpK y.key x.key < 0 := fun h => hyx (cmpK_lt.1 h)
      go_wp2_with fail
      go_quiet_grown (first | (go_at_call 153; exact hc _ _))
      go_wp2
      go_roundw
      case rel =>
       have hx := HX.out
       have hz := HZL.out
       simp at hx
       refine ⟨k + 1,X' ++ [x] ++ y :: Z,E',by go_num,.inl (by simp; omega),by omega,ins_done HS.out HZ.out (.inr ⟨X',x,rfl,by omega⟩),HT.out,HLEN.out,?_,only_grow HG.out _ _⟩
       have e1 : P ++ (X' ++ [x] ++ y :: Z) ++ E' ++ R = (P ++ X') ++ x :: [] ++ y :: (Z ++ E' ++ R) := by simp
       rw [e1]
       exact HA.out.grown _ _
      case measure => simp [RowKit.intOf]; omega
  ·go_wp2
   go_end0
   have hE : E = [] := by
    rcases hD with h | ⟨_,h,_⟩
    ·exact List.eq_nil_of_length_eq_zero (by omega)
    ·exact h
   subst hE
   exact ⟨rfl,HG.out,D,HS.out,by simpa using HT.out,by simpa using HLEN.out,by simpa using HA.out⟩
end Idx
namespace Idx
open Go.RowKit Base IdxMath
open Go.Sort (grow)
theorem setMany_blk {b : Nat} {t : TypeId} : ∀ (vs : List Value) (o : Nat) (w : World) (cs : Array Value),Blk w b t cs -> o + vs.length <= cs.size -> ∃ cs',Blk (w.setCells b o vs) b t cs' /\ cs'.toList = cs.toList.take o ++ vs ++ cs.toList.drop (o + vs.length)
 | [],o,w,cs,h,_ => ⟨cs,h,by simp⟩
 | v :: r,o,w,cs,h,hl => by
   rw [List.length_cons] at hl
   obtain ⟨cs',h1,h2⟩ := setMany_blk r (o + 1) _ _ (h.set_ o v) (by rw [Array.size_setIfInBounds]; omega)
   refine ⟨cs',h1,?_⟩
   rw [h2,Array.toList_setIfInBounds,List.length_cons]
   have hlen : o < cs.toList.length := by rw [Array.length_toList]; omega
   rw [List.set_eq_take_append_cons_drop,if_pos hlen]
   have hto : (cs.toList.take o).length = o := by rw [List.length_take]; omega
   rw [List.take_append,List.take_of_length_le (l := cs.toList.take o) (by omega),hto,show o + 1 - o = 1 by omega,List.take_succ_cons,List.take_zero,List.drop_append,List.drop_of_length_le (l := cs.toList.take o) (by omega),hto,show o + 1 + r.length - o = r.length + 1 by omega,List.drop_succ_cons,List.drop_drop,List.nil_append,show o + 1 + r.length = o + (r.length + 1) by omega]
   simp
theorem setMany_grown (b : Nat) : ∀ (vs : List Value) (o : Nat) (w : World),w.grownBy (w.setCells b o vs) (some b)
 | [],_,w => World.grownBy.refl _ _
 | v :: r,o,w => by
   have h := setMany_grown b r (o + 1) (w.setCell ⟨b,o,none⟩ v)
   refine ⟨h.os,h.tape,h.output,by have := h.size; rw [World.size_setCell] at this; exact this,fun i hi hne => ?_⟩
   exact (h.block i (by simpa using hi) hne).trans (Below.heap_setCell w ⟨b,o,none⟩ v i fun e => hne (by rw [e]))
theorem lay_cells {w : World} {b o : Nat} {t : TypeId} {cs : Array Value} {vs : List Value} (h : Blk w b t cs) (hl : o + vs.length <= cs.size) :
 ∃ cs',Blk (w.setCells b o vs) b t cs' /\ cs'.size = cs.size /\ cs'.toList = cs.toList.take o ++ vs ++ cs.toList.drop (o + vs.length) := by
 obtain ⟨cs',h1,h2⟩ := setMany_blk vs o w cs h hl
 refine ⟨cs',h1,?_,h2⟩
 rw [<- Array.length_toList,h2,List.length_append,List.length_append,List.length_take,List.length_drop,Array.length_toList]
 omega
def zrow : Array Value := #[.int .i64 0,.string ⟨#[]⟩]
theorem zero_rows (m : Nat) : (Builtin.zeroCells (Value.agg zrow).cells m).toList = rv (List.replicate m noRw) := by
 have hc : (Value.agg zrow).cells = zrow := by simp [Value.cells,zrow]
 rw [hc]
 induction m with
 | zero => simp [Builtin.zeroCells,rv]
 | succ m ih =>
   have e : Builtin.zeroCells zrow (m + 1) = Builtin.zeroCells zrow m ++ zrow := by
    unfold Builtin.zeroCells
    have hz : zrow.size = 2 := rfl
    rw [hz,show (m + 1) * 2 = m * 2 + 1 + 1 by omega,Array.range_succ,Array.range_succ]
    simp only [Array.map_append,Array.append_assoc]
    congr 1
    have h0 : m * 2 % 2 = 0 := by omega
    have h1 : (m * 2 + 1) % 2 = 1 := by omega
    simp only [Array.map,Array.append_singleton]
    simp [h0,h1,zrow]
   rw [e,Array.toList_append,ih,List.replicate_succ',rv_append]
   rfl
theorem run_clear_rows (w : World) (ty : TypeId) (b o m c : Nat) (hc : ∀ j,j < m * 2 -> (w.cell? ⟨b,o + j,none⟩).isSome = true) (hf : ∀ j,j < m * 2 -> w.frozen? ⟨b,o + j,none⟩ = false) :
 (Builtin.clear_ #[53] ty #[.slice (some ⟨b,o,none⟩) m c]).run Tryz.prog w = .ok (.tuple #[]) (w.setCells b o (rv (List.replicate m noRw))) := by
 have hv : ∀ w,(zeroValue 52).run Tryz.prog w = .ok (.agg zrow) w := Tryz.zeroValue52
 cases m with
 | zero => simp [Builtin.clear_,run_underlying Tryz.underlying53,rv,World.setCells]
 | succ m =>
   have hzc : (Builtin.zeroCells (Value.agg zrow).cells (m + 1)).toList = rv (List.replicate (m + 1) noRw) := zero_rows (m + 1)
   have hst := run_storeCells_cells (P := Tryz.prog) b o (rv (List.replicate (m + 1) noRw)) 0 w (by simpa [rv_length] using hc) (by simpa [rv_length] using hf) (rv_one _)
   simp only [Nat.add_zero] at hst
   simp [Builtin.clear_,run_underlying Tryz.underlying53,hv,hzc,hst]
theorem delete_any (b c : Nat) (l : List Rw) (i n : Nat) (w : World) (h : Arr w b c l) (hn : l.length = n + 1) (hi : i <= n) :
 Calls Tryz.prog 253 #[.slice (some ⟨b,0,none⟩) (n + 1) c,.int .i64 i,.int .i64 ((i : Int) + 1)] w fun e w' => e = .returned (.slice (some ⟨b,0,none⟩) n c) /\ Arr w' b c (l.eraseIdx i) /\ w.grownBy w' (some b) := by
 have hle := h.le
 rw [hn] at hle
 have hA := h
 obtain ⟨cur,hB,h2,h3,hcs,htake⟩ := h
 rw [hn] at h2 htake
 have hB : Blk w.drew b 52 cur := hB
 have hfl : (rv (l.drop (i + 1))).length = (n - i) * 2 := by rw [rv_length,List.length_drop]; omega
 have S1 : Hid ((rv (l.drop (i + 1))).length = (n - i) * 2) := hfl
 have S2 := hid (rv_one (l.drop (i + 1)))
 have hsrc : Hid (∀ j u,(rv (l.drop (i + 1)))[j]? = some u -> w.drew.cell? ⟨b,(i + 1) * 2 + j,none⟩ = some u) := fun j u hu => by
  have hj : j < (n - i) * 2 := by rw [<- hfl]; exact (List.getElem?_eq_some_iff.1 hu).1
  rw [<- rv_drop,List.getElem?_drop] at hu
  rw [hB.cell,<- Array.getElem?_toList,<- hu,<- htake,List.getElem?_take_of_lt (by omega)]
 have S3 : Hid (∀ j,j < (rv (l.drop (i + 1))).length -> (w.drew.cell? ⟨b,0 + i * 2 + j,none⟩).isSome = true /\ w.drew.frozen? ⟨b,0 + i * 2 + j,none⟩ = false) := fun j hj => by
  rw [hfl] at hj
  refine ⟨?_,hB.frozen _⟩
  rw [hB.cell,Array.getElem?_eq_getElem (by omega)]
  rfl
 obtain ⟨cs1,hB1,hz1,hl1⟩ := lay_cells (o := 0 + i * 2) (vs := rv (l.drop (i + 1))) hB (by rw [hfl]; omega)
 obtain ⟨W1,hW1⟩ : ∃ W1,W1 = w.drew.setCells b (0 + i * 2) (rv (l.drop (i + 1))) := ⟨_,rfl⟩
 have HW := hid hW1
 have hB1' : Blk W1 b 52 cs1 := by rw [hW1]; exact hB1
 obtain ⟨cs2,hB2,hz2,hl2⟩ := lay_cells (o := n * 2) (vs := rv (List.replicate 1 noRw)) hB1' (by rw [rv_length,List.length_replicate]; omega)
 have hg1 : w.grownBy W1 (some b) := by
  rw [hW1]
  have := setMany_grown b (rv (l.drop (i + 1))) (0 + i * 2) w.drew
  exact ⟨this.os,this.tape,this.output,this.size,this.block⟩
 have hg2 := setMany_grown b (rv (List.replicate 1 noRw)) (n * 2) W1
 have hel : (l.eraseIdx i).length = n := by rw [List.length_eraseIdx,if_pos (by omega),hn]; omega
 have HOWN : Hid (Arr (W1.setCells b (n * 2) (rv (List.replicate 1 noRw))) b c (l.eraseIdx i)) := by
  refine ⟨cs2,hB2,by omega,h3,by omega,?_⟩
  have e0 : cur.toList.take (i * 2) = rv (l.take i) := by
   rw [<- rv_take,<- htake,List.take_take]
   congr 1
   omega
  have e1 : cs1.toList.take (n * 2) = rv (l.eraseIdx i) := by
   rw [hl1,Nat.zero_add,e0,<- rv_append,<- List.eraseIdx_eq_take_drop_succ]
   exact List.take_left' (by rw [rv_length,hel])
  rw [hel,hl2,List.append_assoc,e1]
  exact List.take_left' (by rw [rv_length,hel])
 have HGR := hid (only_trans hg1 hg2 (.inl rfl))
 have hcl2 := fun ty => run_clear_rows W1 ty b (n * 2) 1 (c - n) (fun j hj => by rw [hB1'.cell,Array.getElem?_eq_getElem (by omega)]; rfl) (fun j hj => hB1'.frozen _)
 obtain ⟨i0,t22,hi0,hz,hs4,hby,_,_⟩ := er
 have a1 : (i : Int) + 1 <= (n : Int) + 1 := by omega
 have a2 : (n : Int) + 1 <= (c : Int) := by omega
 have a3 : (i : Int) <= (i : Int) + 1 := by omega
 have a4 : ¬ c = n := by omega
 have a5 : i <= c := by omega
 have a6 : (i : Int) <= (c : Int) := by omega
 have a7 : (0 : Int) <= (i : Int) + 1 := by omega
 have a8 : ((i : Int) + 1).toNat = i + 1 := by omega
 have a9 : n + 1 - (i + 1) = n - i := by omega
 have a10 : ((i : Int) == (i : Int) + 1) = false := by rw [beq_eq_false_iff_ne]; omega
 have a11 : i + (n - i) = n := by omega
 have a12 : n + 1 - n = 1 := by omega
 have a13 : (n : Int) <= (n : Int) + 1 := by omega
 clear hg1 hg2 hl1 hl2 hB1 hB2 hB1' hW1 hz1 hz2 hfl hB htake hcs h3 hA
 generalize W1.setCells b (n * 2) (rv (List.replicate 1 noRw)) = W2 at *
 by_cases hc1 : c = i + 1
 ·have hni : n = i := by omega
  have S4 := hid (show ∀ j u,(rv (l.drop (i + 1)))[j]? = some u -> w.drew.cell? ((⟨b,0,none⟩ : Addr).add j) = some u from fun j u hu => by
   have h1 : (rv (l.drop (i + 1))).length = 0 := by rw [S1.out]; omega
   rw [List.eq_nil_of_length_eq_zero h1] at hu
   cases hu)
  have S5 := hid (show (rv (l.drop (i + 1))).length = 0 * 2 by rw [S1.out]; omega)
  subst hni
  subst hc1
  rw [show n + 1 - n = 1 by omega] at hcl2
  clear a4 a9 a11
  have b1 : ¬ n + 1 = n := by omega
  go_enter Tryz.func253,Tryz.ntmps253
  go_wp2_with fail
  go_region_law (refine step_append_room rfl (.tmp 22) (.tmp 25) 53 rfl 52 i0 2 t22 hi0 hs4 b 0 n (n + 1) (by simp [Act.eval,Act.put]) ⟨b,0,none⟩ 0 0 (rv (l.drop (n + 1))) (by simp [Act.eval,Act.put]) S5.out S4.out S2.out (by omega) S3.out ?_; rw [<- HW.out])
  go_wp2
  go_ret
  exact ⟨rfl,HOWN.out,HGR.out⟩
 ·go_enter Tryz.func253,Tryz.ntmps253
  go_wp2_with fail
  go_region_law (refine step_append_room rfl (.tmp 22) (.tmp 25) 53 rfl 52 i0 2 t22 hi0 hs4 b 0 i c (by simp [Act.eval,Act.put]) ⟨b,(i + 1) * 2,none⟩ (n - i) (c - (i + 1)) (rv (l.drop (i + 1))) (by simp [Act.eval,Act.put]) S1.out (by intro j u hu; rw [add_none]; exact hsrc.out j u hu) S2.out (by omega) S3.out ?_; rw [<- HW.out])
  go_wp2
  go_ret
  exact ⟨rfl,HOWN.out,HGR.out⟩
end Idx
namespace Idx
open Go.RowKit Base IdxMath
open Go.Sort (grow)
theorem got_cell {wr : World} {p : Addr} {v : Value} (h : wr.cell? p = some v) : ∀ n os,(grow (wr.drewN n) os).cell? p = some v := fun n os => cell_grown (World.block_lt_of_cell? wr p h) h n os
theorem below_grown {B : Nat} {a w : World} (h : Below B a w) (hB : B <= a.heap.size) (n : Nat) (os : Array Obj) : Below B a (grow (w.drewN n) os) :=
 h.trans ((below_grow w n os).mono (Nat.le_trans hB h.size))
def diff2' (i j : Value) : Nat := (RowKit.intOf j).toNat - (RowKit.intOf i).toNat
def SeekRel (w1 : World) (n : Nat) (l : List Rw) (k : Int) (vi vj : Value) (wr : World) : Prop :=
 ∃ i j : Nat,vi = .int .i64 i /\ vj = .int .i64 j /\ i <= j /\ j <= n /\ Lo l i k /\ Hi l j k /\ Below w1.heap.size w1 wr
def Sought (w : World) (l : List Rw) (k : Int) (e : Ending) (w' : World) : Prop :=
 e = .returned (.tuple #[.int .i64 (pos l k),.bool (there l k)]) /\ Below w.heap.size w w'
theorem search_any (B : Nat) (A : Option Addr) (n c : Nat) (l : List Rw) (t : Rw) (w : World) (h : Rs w B A n c l) (hB : B <= w.heap.size) (hs : Rise l) (hsz : n <= 1099511627776) :
 Calls Tryz.prog 241 #[.slice A n c,.agg #[.int .i64 t.key,.string t.val],.func (.func 153) #[] #[]] w (Sought w l t.key) := by
 have hlen := h.len
 have hle := h.le
 obtain ⟨w1,hw1⟩ : ∃ w1,w1 = w.alloc (.cells #[.int .i64 t.key,.string t.val] 52) := ⟨_,rfl⟩
 have hbx : Blk w1 w.heap.size 52 #[.int .i64 t.key,.string t.val] := by rw [hw1]; exact Blk.new _ _ _
 have hsz1 : w1.heap.size = w.heap.size + 1 := by rw [hw1]; simp
 have hbw : Below w.heap.size w w1 := by rw [hw1]; exact (Below.refl _ _).alloc (Nat.le_refl _) _
 have HW := hid hw1
 have HBX := hid hbx
 have HBW := hid hbw
 have HS1 := hid hsz1
 have HR : Hid (Rs w1 B A n c l) := h.below (hbw.mono hB)
 have HS := hid hs
 have HL := hid hlen
 obtain ⟨tb,htb⟩ : ∃ tb,tb = w.heap.size := ⟨_,rfl⟩
 rw [<- htb] at HBX
 have HTB := hid htb
 clear h hw1 hbx hbw hsz1 hs hlen
 go_enter Tryz.func241,Tryz.ntmps241
 go_wp2
 rw [<- HTB.out,<- HW.out]
 clear htb
 go_loopw [9,10] (fun i j wr => SeekRel w1 n l t.key i j wr) (fun i j _ => diff2' i j)
 case atStart => exact ⟨0,n,rfl,rfl,Nat.zero_le _,Nat.le_refl _,(fun p x hp => by omega),(fun p x hp hx => by rw [List.getElem?_eq_none (by rw [HL.out]; exact hp)] at hx; cases hx),Below.refl _ _⟩
 case round =>
  obtain ⟨i,j,rfl,rfl,hij,hjn,hlo,hhi,hb⟩ := hrel
  have HLO := hid hlo
  have HHI := hid hhi
  have HB := hid hb
  have mixed : Tryz.prog.follows .mixedOrders = true := by kernel_rfl
  have b0 := got_cell ((HBX.out.below hb (by rw [HS1.out,<- HTB.out]; omega)).cell 0)
  have b1 := got_cell ((HBX.out.below hb (by rw [HS1.out,<- HTB.out]; omega)).cell 1)
  have hRr := HR.out.below (hb.mono (by rw [HS1.out]; omega))
  clear hlo hhi hb
  by_cases hlt : i < j
  ·have l3 : (i : Int) < (j : Int) := by omega
   obtain ⟨k,hk⟩ : ∃ k,k = (i + j) / 2 := ⟨_,rfl⟩
   have e2 : ((i : Int) + (j : Int)) / 2 = (k : Int) := by omega
   have hkb : i <= k /\ k < j := by omega
   obtain ⟨b,off,x,rfl,_,c0,c1,hx,_⟩ := hRr.at_ (k := k) (by omega)
   have c0 := got_cell c0
   have c1 := got_cell c1
   have hc := cmp_grown x t wr
   have HX := hid hx
   have l4 : (k : Int) < (n : Int) := by omega
   have HK := hid hk
   have HKB := hid hkb
   have l6 : k + 1 <= n := by omega
   clear hx hk hkb hRr
   by_cases hxu : x.key < t.key
   ·rw [cmpK_neg hxu] at hc
    have hn : ((-1 : Int) < 0) := by omega
    go_wp2_with fail
    go_quiet_grown (first | (go_at_call 153; exact hc _ _))
    go_wp2
    go_roundw
    case rel =>
     have := HKB.out
     exact ⟨k + 1,j,by go_num,rfl,by omega,hjn,HS.out.srt.lo HX.out hxu,HHI.out,below_grown HB.out (Nat.le_refl _) _ _⟩
    case measure =>
     have := HKB.out
     simp [RowKit.intOf,diff2']; omega
   ·have hk2 : decide (cmpK x.key t.key < 0) = false := decide_eq_false fun h => hxu (cmpK_lt.1 h)
    go_wp2_with fail
    go_quiet_grown (first | (go_at_call 153; exact hc _ _))
    go_wp2
    go_roundw
    case rel =>
     have := HKB.out
     exact ⟨i,k,rfl,rfl,by omega,by omega,HLO.out,HS.out.srt.hi HX.out (by omega),below_grown HB.out (Nat.le_refl _) _ _⟩
    case measure =>
     have := HKB.out
     simp [RowKit.intOf,diff2']; omega
  ·obtain rfl : i = j := by omega
   have HP := hid (pos_of (by rw [HL.out]; exact hjn) HLO.out HHI.out)
   have l2 : ¬ (i : Int) < (i : Int) := by omega
   by_cases hin : i < n
   ·obtain ⟨b,off,x,rfl,_,c0,c1,hx,_⟩ := hRr.at_ hin
    have c0 := got_cell c0
    have c1 := got_cell c1
    have hc := cmp_grown x t wr
    have HX := hid hx
    have l4 : (i : Int) < (n : Int) := by omega
    clear hx hRr
    by_cases hxu : x.key = t.key
    ·have hz : cmpK x.key t.key = 0 := cmpK_eq.2 hxu
     rw [hz] at hc
     have HXU := hid hxu
     clear hxu hz
     go_wp2_with fail
     go_quiet_grown (first | (go_at_call 153; exact hc _ _))
     go_wp2
     go_ret2
     have hth : there l t.key = true := there_yes (by rw [HP.out]; exact HX.out) HXU.out
     exact ⟨by rw [HP.out,hth]; rfl,HBW.out.trans ((below_grown HB.out (Nat.le_refl _) _ _).mono (by rw [HS1.out]; omega))⟩
    ·have hz : (cmpK x.key t.key == 0) = false := by rw [beq_eq_false_iff_ne]; exact fun h => hxu (cmpK_eq.1 h)
     have HXU := hid hxu
     clear hxu
     go_wp2_with fail
     go_quiet_grown (first | (go_at_call 153; exact hc _ _))
     go_wp2
     go_ret2
     have hth : there l t.key = false := there_no (by rw [HP.out]; exact HX.out) HXU.out
     exact ⟨by rw [HP.out,hth]; rfl,HBW.out.trans ((below_grown HB.out (Nat.le_refl _) _ _).mono (by rw [HS1.out]; omega))⟩
   ·obtain rfl : i = n := by omega
    have hth := hid (show there l t.key = false from there_end (by rw [HP.out,HL.out]; exact Nat.le_refl _))
    have l4 : decide ((i : Int) < (i : Int)) = false := by simp
    clear hRr b0 b1
    go_wp2_with fail
    go_quiet (fail)
    go_wp2
    go_ret2
    exact ⟨by rw [HP.out,hth.out]; rfl,HBW.out.trans ((below_drewN HB.out _).mono (by rw [HS1.out]; omega))⟩
end Idx
end Go.Proofs.YtefnmnpfecfdaaaGreat
