/-
  Texts of one proof: TxOpen, ChgOpen, IdxMem, IdxSwap, IdxRotate.
-/
import Derived.Test.YtefnmnpfecfdaaaGreatPf10
import Derived.BigQuiet
set_option linter.all false
set_option maxRecDepth 100000
set_option maxHeartbeats 1600000
open Go.Lib (hid)
namespace Go.Proofs.YtefnmnpfecfdaaaGreat
namespace PTx
open Go.RowKit Base TxnMath
open PChg (Cs gcells)
open Go.ChangeShapes Go.WideShapes Go.Deep
def Light {H : Type} (P : Program) (t : TypeId) (d : DataW H) : Prop := ∀ z ∈ d.weights P t,z <= reachBytes
theorem weights_all {H : Type} {P : Program} {e : TypeId} : ∀ {ds : List (DataW H)} {d : DataW H},d ∈ ds -> ∀ z ∈ d.weights P e,z ∈ DataW.weightsAll P e ds
 | d0 :: r,d,hd,z,hz => by
   simp only [DataW.weightsAll,List.mem_append]
   rcases List.mem_cons.1 hd with rfl | hd
   ·exact .inl hz
   ·exact .inr (weights_all hd z hz)
section
variable {H : Type} {enc : TypeId × Value -> H} {W : World}
theorem open_slice_fields_w {t e : TypeId} {fs : Array Field} {fuel : Nat} {cs : List Value} {x : DataW H × List MemPlace} {P : Program} {base : Nat} {spare : Nat -> Bool} {held : Bool} (ht : P.underlying t = some (.slice e)) (he : P.underlying e = some (.struct fs))
 (hone : oneCellFields P fs = true) (hC : P.cellsOf e = fs.size) (h : DataW.trod enc P W base spare held fuel t cs = some x) (hL : Light P t x.1) :
 (cs = [.slice none 0 0]) \/
 ∃ (a : Addr) (len cap m : Nat),cs = [.slice (some a) len cap] /\ len <= cap /\ cap <= maxLen /\ m = (if spare a.block then cap else len) /\ len * P.bytesOf e <= reachBytes /\
   ∀ i,i < m -> ∃ n : Nat,∀ (j : Nat) (f : Field),fs[j]? = some f -> ∃ (v : Value) (y : DataW H × List MemPlace),W.cell? (a.add (i * fs.size + j)) = some v /\ DataW.trod enc P W base spare held n f.type [v] = some y /\ Light P f.type y.1 := by
 rcases open_slice ht h with ⟨h0,_⟩ | ⟨a,len,cap,m,n,D,Pl,hcs,hb,hl,hm,hmm,hx,hi⟩
 ·exact .inl h0
 ·subst hx
  have hle : len <= m := by rw [hmm]; split <;> omega
  refine .inr ⟨a,len,cap,m,hcs,hl,hm,hmm,?_,fun i him => ?_⟩
  ·have h1 := hL ((len + (m - len)) * P.bytesOf e) (by simp [DataW.weights,ht])
   have h2 : len * P.bytesOf e <= (len + (m - len)) * P.bytesOf e := Nat.mul_le_mul_right _ (Nat.le_add_right _ _)
   omega
  ·have hLi : Light P e (D i) := fun z hz => hL z (by
    simp only [DataW.weights,ht,List.mem_cons,List.mem_append]
    rcases Nat.lt_or_ge i len with hil | hil
    ·exact .inr (.inl (weights_all (List.mem_map.2 ⟨i,List.mem_range.2 hil,rfl⟩) z hz))
    ·exact .inr (.inr (weights_all (List.mem_map.2 ⟨i - len,List.mem_range.2 (by omega),by rw [Nat.add_sub_cancel' hil]⟩) z hz)))
   obtain ⟨cs',hc,ht'⟩ := hi i him
   rw [hC] at hc
   obtain ⟨ys,n',hn',hy,hlen,hyl,hf⟩ := DataW.trod_struct he ht'
   obtain ⟨_,hcl,hat⟩ := World.cells?_some hc
   have hyD : D i = .agg (ys.map (·.1)) := (Prod.mk.inj hy).1
   refine ⟨n',fun j f hj => ?_⟩
   obtain ⟨ho,hk⟩ := hone_of hone j f hj
   have hjl : j < fs.size := (Array.getElem?_eq_some_iff.1 hj).1
   have hcell := hat j hjl
   have hv : cs'[j]? = some (cs'[j]'(by omega)) := List.getElem?_eq_getElem (by omega)
   have h1 := hf j f hj
   rw [ho,hk] at h1
   have hone' : (cs'.drop j).take 1 = [cs'[j]'(by omega)] := by
    rw [List.drop_eq_getElem_cons (by omega)]
    rfl
   rw [hone'] at h1
   have hys : ys[j]? = some (ys[j]'(by omega)) := List.getElem?_eq_getElem (by omega)
   refine ⟨_,_,?_,h1.trans hys,fun z hz => hLi z ?_⟩
   ·rw [<- Go.Deep.add_add,hcell,hv]
   ·rw [hyD]
    simp only [DataW.weights,he]
    exact DataW.weights_mem_each (j := j) (by rw [List.getElem?_map,Array.getElem?_toList,hj]; rfl) (by rw [List.getElem?_map,hys]; rfl) z hz
end
def OkCh (f : Ch) : Prop := Fold.In64 f.key /\ f.val.size <= 9223372036854775807
def OkTx (x : Tx) : Prop := (∀ f ∈ x.chs,OkCh f) /\ (∀ s ∈ x.sigs,s.size <= 9223372036854775807) /\ x.chs.length <= 140737488355328
theorem in64_of {k : Int} (h : (Lit.int .i64 k).wf = true) : Fold.In64 k := by
 simp only [Lit.wf,Bool.and_eq_true,decide_eq_true_eq] at h
 exact h
theorem flat_one (l : List ByteArray) : l.flatMap (fun s : ByteArray => [Value.string s]) = l.map Value.string := by
 induction l with
 | nil => rfl
 | cons a r ih => rw [List.flatMap_cons,ih]; rfl
section
variable {H : Type} {enc : TypeId × Value -> H} {W : World} {fuel : Nat} {cs : List Value} {x : DataW H × List MemPlace}
theorem chs_of (h : DataW.trod enc Tryz.prog W 0 (fun _ => true) true fuel 35 cs = some x) (hL : Light Tryz.prog 35 x.1) : ∃ A n c l,cs = [.slice A n c] /\ Cs W W.heap.size A n c l /\ (∀ f ∈ l,OkCh f) /\ l.length <= 140737488355328 := by
 rcases open_slice_fields_w Tryz.underlying35 Tryz.underlying64 (by kernel_rfl) (by kernel_rfl) h hL with hcs | ⟨y,l,c,m,hcs,hl,hm,hmm,hby,hall⟩
 ·exact ⟨none,0,0,[],hcs,Row.nil_ _ _ _,(fun f hf => by cases hf),by simp⟩
 ·have hB : Tryz.prog.bytesOf 64 = 40 := by kernel_rfl
  rw [hB] at hby
  have hr := reachBytes_lt
  obtain ⟨ls,h1,hll,h3⟩ := Flat.open_flat (ec := gcells) (k := 4) (fun _ => rfl) (by omega) noCh OkCh (y := y) hl hm (fun i hi => by
   obtain ⟨n,hn⟩ := hall i (by rw [hmm]; simp; omega)
   obtain ⟨v0,y0,c0,t0,_⟩ := hn 0 _ rfl
   obtain ⟨v1,y1,c1,t1,_⟩ := hn 1 _ rfl
   obtain ⟨v2,y2,c2,t2,_⟩ := hn 2 _ rfl
   obtain ⟨v3,y3,c3,t3,_⟩ := hn 3 _ rfl
   obtain ⟨k0,e0,_,_⟩ := DataW.trod_int Tryz.underlying3 t0
   obtain ⟨k1,e1,_,w1⟩ := DataW.trod_int Tryz.underlying2 t1
   obtain ⟨k2,e2,_⟩ := DataW.trod_bool Tryz.underlying4 t2
   obtain ⟨s,e3,_,ws⟩ := DataW.trod_string Tryz.underlying9 t3
   simp only [List.cons.injEq,and_true] at e0 e1 e2 e3
   subst e0 e1 e2 e3
   refine ⟨⟨k0,k1,k2,s⟩,⟨in64_of w1,ws⟩,fun j hj => ?_⟩
   match j,hj with
   | 0,_ => exact ⟨_,rfl,c0⟩
   | 1,_ => exact ⟨_,rfl,c1⟩
   | 2,_ => exact ⟨_,rfl,c2⟩
   | 3,_ => exact ⟨_,rfl,c3⟩)
  exact ⟨_,_,_,ls,hcs,h1,h3,by omega⟩
theorem sigs_of (h : DataW.trod enc Tryz.prog W 0 (fun _ => true) true fuel 37 cs = some x) : ∃ A n c l,cs = [.slice A n c] /\ Ss W W.heap.size A n c l /\ ∀ f ∈ l,f.size <= 9223372036854775807 := by
 rcases open_slice Tryz.underlying37 h with ⟨rfl,_⟩ | ⟨y,len,cap,m,n0,D,Pl,rfl,hb,hl,hm,hmm,hx,hi⟩
 ·exact ⟨none,0,0,[],rfl,Row.nil_ _ _ _,fun f hf => by cases hf⟩
 ·obtain ⟨ls,h1,_,h3⟩ := Flat.open_flat (ec := fun s : ByteArray => [Value.string s]) (k := 1) (fun _ => rfl) (by omega) ⟨#[]⟩ (fun s => s.size <= 9223372036854775807) (y := y) hl hm (fun i hil => by
   obtain ⟨cs',hc,ht⟩ := hi i (by rw [hmm]; simp; omega)
   obtain ⟨s,e,_,k⟩ := DataW.trod_string Tryz.underlying9 ht
   subst e
   have hC : Tryz.prog.cellsOf 9 = 1 := by kernel_rfl
   rw [hC] at hc
   obtain ⟨_,_,hat⟩ := World.cells?_some hc
   refine ⟨s,k,fun j hj => ?_⟩
   obtain rfl : j = 0 := by omega
   have h0 := hat 0 (by omega)
   rw [Go.Deep.add_add] at h0
   exact ⟨_,rfl,by simpa using h0⟩)
  refine ⟨_,_,_,ls,rfl,?_,h3⟩
  rw [flat_one] at h1
  exact h1
end
section
variable {H : Type} {enc : TypeId × Value -> H} {W : World} {a : Option Addr} {len cap : Nat} {d : DataW H} {p : List MemPlace}
theorem open_txns (h : DataW.Trod enc Tryz.prog W 0 (fun _ => true) true 32 (.slice a len cap) d p) (hL : Light Tryz.prog 32 d) : ∃ l,Txs W W.heap.size a len cap l /\ (∀ x ∈ l,OkTx x) /\ l.length <= 140737488355328 := by
 obtain ⟨fuel,hf⟩ := h
 rcases open_slice_fields_w Tryz.underlying32 Tryz.underlying39 (by kernel_rfl) (by kernel_rfl) hf hL with hcs | ⟨y,l,c,m,hcs,hl,hm,hmm,hby,hall⟩
 ·simp [Value.cells] at hcs
  obtain ⟨rfl,rfl,rfl⟩ := hcs
  exact ⟨[],Txs.nil_ _ _,(fun x hx => by cases hx),by simp⟩
 ·simp [Value.cells] at hcs
  obtain ⟨rfl,rfl,rfl⟩ := hcs
  have hB : Tryz.prog.bytesOf 39 = 72 := by kernel_rfl
  rw [hB] at hby
  have hr := reachBytes_lt
  classical
  have each : ∀ i,i < len -> ∃ x : Tx,OkTx x /\ ∃ b off,y = ⟨b,off,none⟩ /\ b < W.heap.size /\ TxAt W W.heap.size b (off + i * 5) x := by
   intro i hi
   obtain ⟨n,hn⟩ := hall i (by rw [hmm]; simp; omega)
   obtain ⟨v0,y0,c0,t0,_⟩ := hn 0 _ rfl
   obtain ⟨v1,y1,c1,t1,_⟩ := hn 1 _ rfl
   obtain ⟨v2,y2,c2,t2,g2⟩ := hn 2 _ rfl
   obtain ⟨v3,y3,c3,t3,_⟩ := hn 3 _ rfl
   obtain ⟨v4,y4,c4,t4,_⟩ := hn 4 _ rfl
   obtain ⟨k0,e0,_,_⟩ := DataW.trod_int Tryz.underlying2 t0
   obtain ⟨k1,e1,_,_⟩ := DataW.trod_int Tryz.underlying3 t1
   obtain ⟨A2,n2,d2,l2,e2,r2,o2,q2⟩ := chs_of t2 g2
   obtain ⟨A3,n3,d3,l3,e3,r3,o3⟩ := sigs_of t3
   obtain ⟨k4,e4,_,_⟩ := DataW.trod_int Tryz.underlying2 t4
   simp only [List.cons.injEq,and_true] at e0 e1 e2 e3 e4
   subst e0 e1 e2 e3 e4
   obtain ⟨b,off,spot⟩ := y
   obtain ⟨n',hn'⟩ := hall 0 (by rw [hmm]; simp; omega)
   obtain ⟨v5,y5,c5,_,_⟩ := hn' 0 _ rfl
   have hspot : spot = none := by simpa [Addr.add] using World.cell?_spot c5
   subst hspot
   have hlt : b < W.heap.size := by
    have := World.block_lt_of_cell? W _ c5
    simpa [Addr.add] using this
   rw [add_none] at c0 c1 c2 c3 c4
   exact ⟨⟨k0,k1,l2,l3,k4⟩,⟨o2,o3,q2⟩,b,off,rfl,hlt,A2,n2,d2,A3,n3,d3,c0,c1,c2,c3,c4,r2,r3⟩
  let g : Nat -> Tx := fun i => if h : i < len then (each i h).choose else noTx
  have hg : ∀ i,i < len -> OkTx (g i) /\ ∃ b off,y = ⟨b,off,none⟩ /\ b < W.heap.size /\ TxAt W W.heap.size b (off + i * 5) (g i) := by
   intro i hi
   have := (each i hi).choose_spec
   simp only [g,dif_pos hi]
   exact this
  unfold maxLen at hm
  refine ⟨(List.range len).map g,⟨by rw [List.length_map,List.length_range],hl,by omega,fun i x hx => ?_⟩,?_⟩
  ·have hi : i < len := by have := (List.getElem?_eq_some_iff.1 hx).1; simpa using this
   rw [List.getElem?_map,List.getElem?_range hi] at hx
   simp only [Option.map_some,Option.some.injEq] at hx
   subst hx
   obtain ⟨_,b,off,e,hb,ht⟩ := hg i hi
   exact ⟨b,off,by rw [e],hb,ht⟩
  ·refine ⟨fun x hx => ?_,by rw [List.length_map,List.length_range]; omega⟩
   obtain ⟨i,hi,rfl⟩ := List.mem_map.1 hx
   exact (hg i (List.mem_range.1 hi)).1
end
end PTx
namespace PChg
open Go.RowKit Base TxnMath
open Go.ChangeShapes Go.WideShapes Go.Deep
section
variable {H : Type} {enc : TypeId × Value -> H} {W : World} {a : Option Addr} {len cap : Nat} {d : DataW H} {p : List MemPlace}
theorem open_changes (h : DataW.Trod enc Tryz.prog W 0 (fun _ => true) true 35 (.slice a len cap) d p) : ∃ l,Cs W W.heap.size a len cap l /\ ∀ f ∈ l,f.val.size <= 9223372036854775807 := by
 obtain ⟨fuel,hf⟩ := h
 rcases Flat.open_slice_fields Tryz.underlying35 Tryz.underlying64 (by kernel_rfl) (by kernel_rfl) hf with hcs | ⟨x,l,c,m,hcs,hl,hm,hmm,hall⟩
 ·simp [Value.cells] at hcs
  obtain ⟨rfl,rfl,rfl⟩ := hcs
  exact ⟨[],Row.nil_ _ _ _,fun x hx => by cases hx⟩
 ·simp [Value.cells] at hcs
  obtain ⟨rfl,rfl,rfl⟩ := hcs
  obtain ⟨ls,h1,_,h3⟩ := Flat.open_flat (ec := gcells) (k := 4) (fun _ => rfl) (by omega) noCh (fun x => x.val.size <= 9223372036854775807) (y := x) hl hm (fun i hi => by
   obtain ⟨n,hn⟩ := hall i (by rw [hmm]; simp; omega)
   obtain ⟨v0,y0,c0,t0⟩ := hn 0 _ rfl
   obtain ⟨v1,y1,c1,t1⟩ := hn 1 _ rfl
   obtain ⟨v2,y2,c2,t2⟩ := hn 2 _ rfl
   obtain ⟨v3,y3,c3,t3⟩ := hn 3 _ rfl
   obtain ⟨k0,e0,_,_⟩ := DataW.trod_int Tryz.underlying3 t0
   obtain ⟨k1,e1,_,_⟩ := DataW.trod_int Tryz.underlying2 t1
   obtain ⟨k2,e2,_⟩ := DataW.trod_bool Tryz.underlying4 t2
   obtain ⟨s,e3,_,ws⟩ := DataW.trod_string Tryz.underlying9 t3
   simp only [List.cons.injEq,and_true] at e0 e1 e2 e3
   subst e0 e1 e2 e3
   refine ⟨⟨k0,k1,k2,s⟩,by dsimp only; exact ws,fun j hj => ?_⟩
   match j,hj with
   | 0,_ => exact ⟨_,rfl,c0⟩
   | 1,_ => exact ⟨_,rfl,c1⟩
   | 2,_ => exact ⟨_,rfl,c2⟩
   | 3,_ => exact ⟨_,rfl,c3⟩)
  exact ⟨ls,h1,h3⟩
end
end PChg
namespace Idx
open Go.RowKit Base IdxMath
open Go.Sort (grow)
def cmpK (x y : Int) : Int := if x < y then -1 else if y < x then 1 else 0
theorem cmpK_neg {x y : Int} (h : x < y) : cmpK x y = -1 := by unfold cmpK; rw [if_pos h]
theorem cmpK_lt {x y : Int} : cmpK x y < 0 <-> x < y := by
 unfold cmpK
 split
 ·omega
 ·split <;> omega
theorem cmpK_eq {x y : Int} : cmpK x y = 0 <-> x = y := by
 unfold cmpK
 split
 ·omega
 ·split <;> omega
theorem isNaN_any (x : Int) (w : World) : Calls Tryz.prog 248 #[.int .i64 x] w fun e w' => e = .returned (.bool false) /\ w = w' := by
 go_enter Tryz.func248,Tryz.ntmps248
 go_wp2
 go_ret
 exact ⟨by simp,rfl⟩
theorem compare_any (x y : Int) (w : World) : Calls Tryz.prog 208 #[.int .i64 x,.int .i64 y] w fun e w' => e = .returned (.int .i64 (cmpK x y)) /\ w = w' := by
 have HE := hid (show cmpK x y = if x < y then -1 else if y < x then 1 else 0 from rfl)
 go_enter Tryz.func208,Tryz.ntmps208
 go_wp2_with (first | (refine (isNaN_any _ _).mono ?_; rintro e w1 ⟨rfl,rfl⟩) | fail)
 all_goals go_ret
 all_goals refine ⟨ret_int ?_,rfl⟩
 all_goals rw [HE.out]
 all_goals first | (rw [if_pos (by omega)]) | (rw [if_neg (by omega),if_pos (by omega)]) | (rw [if_neg (by omega),if_neg (by omega)])
theorem bykeys_any (x y : Rw) (w : World) : Calls Tryz.prog 153 #[rowv x,rowv y] w fun e w' => e = .returned (.int .i64 (cmpK x.key y.key)) /\ ∃ q os,w' = grow (w.drewN q) os := by
 unfold rowv
 go_enter Tryz.func153,Tryz.ntmps153
 go_wp2_with (first | (refine (compare_any _ _ _).mono ?_; rintro e w1 ⟨rfl,rfl⟩) | fail)
 go_ret
 exact ⟨rfl,0,_,by rw [Go.Sort.alloc_eq_grow,Go.Sort.alloc_eq_grow,Go.Sort.grow_grow]; rfl⟩
theorem samekey_any (x y : Rw) (w : World) : Calls Tryz.prog 155 #[rowv x,rowv y] w fun e w' => e = .returned (.bool (decide (x.key = y.key))) /\ ∃ q os,w' = grow (w.drewN q) os := by
 unfold rowv
 go_enter Tryz.func155,Tryz.ntmps155
 go_wp2
 go_ret
 exact ⟨by simp [Bool.beq_eq_decide_eq],0,_,by rw [Go.Sort.alloc_eq_grow,Go.Sort.alloc_eq_grow,Go.Sort.grow_grow]; rfl⟩
end Idx
namespace Idx
open Go.RowKit Base IdxMath
open Go.Sort (grow)
theorem swap_facts {wr : World} {b c : Nat} {P M R : List Rw} {x y : Rw} (h : Arr wr b c (P ++ x :: M ++ y :: R)) {i j : Nat} (hi : P.length = i) (hj : i + 1 + M.length = j) :
 (wr.cell? ⟨b,i * 2,none⟩ = some (.int .i64 x.key) /\ wr.cell? ⟨b,i * 2 + 1,none⟩ = some (.string x.val) /\ wr.cell? ⟨b,j * 2,none⟩ = some (.int .i64 y.key) /\ wr.cell? ⟨b,j * 2 + 1,none⟩ = some (.string y.val)) /\
 (wr.frozen? ⟨b,i * 2,none⟩ = false /\ wr.frozen? ⟨b,i * 2 + 1,none⟩ = false /\ wr.frozen? ⟨b,j * 2,none⟩ = false /\ wr.frozen? ⟨b,j * 2 + 1,none⟩ = false) /\
 (¬ i * 2 = j * 2 /\ ¬ i * 2 = j * 2 + 1 /\ ¬ i * 2 + 1 = j * 2 /\ ¬ i * 2 + 1 = j * 2 + 1 /\ ¬ j * 2 = i * 2 /\ ¬ j * 2 = i * 2 + 1 /\ ¬ j * 2 + 1 = i * 2 /\ ¬ j * 2 + 1 = i * 2 + 1 /\ ¬ i = j /\ ¬ j = i) /\
 Hid (Arr ((((wr.setCell ⟨b,i * 2,none⟩ (.int .i64 y.key)).setCell ⟨b,i * 2 + 1,none⟩ (.string y.val)).setCell ⟨b,j * 2,none⟩ (.int .i64 x.key)).setCell ⟨b,j * 2 + 1,none⟩ (.string x.val)) b c (P ++ y :: M ++ x :: R)) /\
 Hid (Arr ((((wr.setCell ⟨b,j * 2,none⟩ (.int .i64 x.key)).setCell ⟨b,j * 2 + 1,none⟩ (.string x.val)).setCell ⟨b,i * 2,none⟩ (.int .i64 y.key)).setCell ⟨b,i * 2 + 1,none⟩ (.string y.val)) b c (P ++ y :: M ++ x :: R)) := by
 have g1 := h.get (k := i) (x := x) (by rw [List.append_assoc]; exact get_app hi)
 have g2 := h.get (k := j) (x := y) (get_app (by simp; omega))
 have s1 := (h.set i y).set j x
 have s2 := (h.set j x).set i y
 subst hi hj
 rw [set_swap] at s1
 rw [set_swap'] at s2
 exact ⟨⟨g1.1,g1.2,g2.1,g2.2⟩,⟨h.frozen _,h.frozen _,h.frozen _,h.frozen _⟩,by omega,hid s1,hid s2⟩
theorem four_on {w wr : World} {b : Nat} (h : w.grownBy wr (some b)) (p q r s : Nat) (t u v x : Value) : w.grownBy ((((wr.setCell ⟨b,p,none⟩ t).setCell ⟨b,q,none⟩ u).setCell ⟨b,r,none⟩ v).setCell ⟨b,s,none⟩ x) (some b) :=
 only_setCell (only_setCell (only_setCell (only_setCell h (.inl rfl) _) (.inl rfl) _) (.inl rfl) _) (.inl rfl) _
def RevRel (w : World) (b c n : Nat) (l : List Rw) (i j : Value) (wr : World) : Prop :=
 ∃ (k : Nat) (X M Y : List Rw),i = .int .i64 k /\ j = .int .i64 ((n : Int) - 1 - k) /\ X.length = k /\ Y.length = k /\ l = Y.reverse ++ M ++ X.reverse /\ Arr wr b c (X ++ M ++ Y) /\ w.grownBy wr (some b)
theorem reverse_any (b c : Nat) (l : List Rw) (w : World) (h : Arr w b c l) :
 Calls Tryz.prog 151 #[.slice (some ⟨b,0,none⟩) l.length c] w fun e w' => e = .returned (.tuple #[]) /\ Arr w' b c l.reverse /\ w.grownBy w' (some b) := by
 obtain ⟨n,hn⟩ : ∃ n,n = l.length := ⟨_,rfl⟩
 have hle := h.le
 rw [<- hn] at hle ⊢
 have HN := hid hn
 have HA := hid h
 clear hn h
 go_enter Tryz.func151,Tryz.ntmps151
 go_wp2
 go_loopw [2,3] (fun i j wr => RevRel w b c n l i j wr) (fun i _ _ => n - (RowKit.intOf i).toNat)
 case atStart => exact ⟨0,[],l,[],rfl,by simp,rfl,rfl,by simp,by simpa using HA.out,World.grownBy.refl _ _⟩
 case round =>
  obtain ⟨k,X,M,Y,rfl,rfl,hX,hY,hl,harr,hg⟩ := hrel
  have hlen : n = k + M.length + k := by rw [HN.out,hl]; simp [hX,hY]; omega
  by_cases hlt : k + k + 1 < n
  ·obtain ⟨x,M1,rfl⟩ : ∃ x M1,M = x :: M1 := by
    cases M with
    | nil => simp at hlen; omega
    | cons x M1 => exact ⟨x,M1,rfl⟩
   rcases List.eq_nil_or_concat M1 with rfl | ⟨M',y,rfl⟩
   ·simp at hlen; omega
   rw [List.concat_eq_append] at *
   have hm : n = k + (M'.length + 2) + k := by rw [hlen]; simp
   obtain ⟨j,hj⟩ : ∃ j : Nat,k + 1 + M'.length = j := ⟨_,rfl⟩
   have hjz : (n : Int) - 1 - (k : Int) = (j : Int) := by omega
   rw [hjz]
   have earr : X ++ (x :: (M' ++ [y])) ++ Y = X ++ x :: M' ++ y :: Y := by simp
   rw [earr] at harr
   obtain ⟨⟨a1,a2,a3,a4⟩,⟨f1,f2,f3,f4⟩,⟨n1,n2,n3,n4,n5,n6,n7,n8,n9,n10⟩,HS,_⟩ := swap_facts harr hX hj
   have l1 : (k : Int) < (n : Int) := by omega
   have l2 : (j : Int) < (n : Int) := by omega
   have l3 : (k : Int) < (j : Int) := by omega
   have HG := hid hg
   have HL := hid hl
   have HM := hid (show (k < n) /\ n = k + (M'.length + 2) + k /\ j = k + 1 + M'.length from ⟨by omega,hm,hj.symm⟩)
   have HX := hid hX
   have HY := hid hY
   clear harr hg hl hm hj hjz earr hlen hlt hX hY
   go_wp2_with fail
   go_region
   go_wp2
   go_roundw
   case rel =>
    have := HM.out
    refine ⟨k + 1,X ++ [y],M',x :: Y,by go_num,by congr 1; omega,by simp [HX.out],by simp [HY.out],by rw [HL.out]; simp,?_,only_drewN (four_on HG.out _ _ _ _ _ _ _ _) 1⟩
    rw [show X ++ [y] ++ M' ++ x :: Y = X ++ y :: M' ++ x :: Y by simp]
    exact HS.out
   case measure =>
    have := HM.out.1
    simp [RowKit.intOf]; omega
  ·go_wp2
   go_end0
   refine ⟨rfl,?_,hg⟩
   have : M.reverse = M := by
    match M,hlen with
    | [],_ => rfl
    | [x],_ => rfl
    | x :: y :: r,h => simp at h; omega
   rw [hl,List.reverse_append,List.reverse_append,List.reverse_reverse,List.reverse_reverse,this,<- List.append_assoc]
   exact harr
theorem swaprange_any (b c N : Nat) (P A M C R : List Rw) (n a0 b0 : Nat) (w : World) (h : Arr w b c (P ++ A ++ M ++ C ++ R)) (hN : N = (P ++ A ++ M ++ C ++ R).length) (hP : P.length = a0) (hA : A.length = n) (hC : C.length = n) (hM : a0 + n + M.length = b0) (v : Value) :
 Calls Tryz.prog 300 #[.slice (some ⟨b,0,none⟩) N c,.int .i64 a0,.int .i64 b0,.int .i64 n,v] w fun e w' => e = .returned (.tuple #[]) /\ Arr w' b c (P ++ C ++ M ++ A ++ R) /\ w.grownBy w' (some b) := by
 have hle := h.le
 rw [<- hN] at hle
 have hNN : a0 + n + M.length + n + R.length = N := by rw [hN]; simp [hP,hA,hC]; omega
 have HA := hid h
 have HP := hid hP
 have HAC := hid (And.intro hA hC)
 have HM := hid (And.intro hM hNN)
 have l0 : b0 + n <= N := by omega
 have l00 : a0 + n <= N := by omega
 clear h hN hP hA hC hM hNN
 go_enter Tryz.func300,Tryz.ntmps300
 go_wp2
 go_loopw [10] (fun i wr => ∃ k : Nat,i = .int .i64 k /\ k <= n /\ Arr wr b c (P ++ C.take k ++ A.drop k ++ M ++ A.take k ++ C.drop k ++ R) /\ w.grownBy wr (some b)) (fun i _ => n - (RowKit.intOf i).toNat)
 case atStart => exact ⟨0,rfl,Nat.zero_le _,by simpa using HA.out,World.grownBy.refl _ _⟩
 case round =>
  obtain ⟨k,rfl,hk,harr,hg⟩ := hrel
  by_cases hlt : k < n
  ·have hkA : k < A.length := by rw [HAC.out.1]; exact hlt
   have hkC : k < C.length := by rw [HAC.out.2]; exact hlt
   obtain ⟨x,hx⟩ : ∃ x,x = A[k] := ⟨_,rfl⟩
   obtain ⟨y,hy⟩ : ∃ y,y = C[k] := ⟨_,rfl⟩
   have eA : A.drop k = x :: A.drop (k + 1) := by rw [hx]; exact List.drop_eq_getElem_cons hkA
   have eC : C.drop k = y :: C.drop (k + 1) := by rw [hy]; exact List.drop_eq_getElem_cons hkC
   have tA : A.take (k + 1) = A.take k ++ [x] := by rw [hx]; exact List.take_succ_eq_append_getElem hkA
   have tC : C.take (k + 1) = C.take k ++ [y] := by rw [hy]; exact List.take_succ_eq_append_getElem hkC
   have e0 : P ++ C.take k ++ A.drop k ++ M ++ A.take k ++ C.drop k ++ R = (P ++ C.take k) ++ x :: (A.drop (k + 1) ++ M ++ A.take k) ++ y :: (C.drop (k + 1) ++ R) := by rw [eA,eC]; simp
   rw [e0] at harr
   have hm := HM.out
   have hi : (P ++ C.take k).length = a0 + k := by rw [List.length_append,List.length_take,HP.out,HAC.out.2]; omega
   have hj : (a0 + k) + 1 + (A.drop (k + 1) ++ M ++ A.take k).length = b0 + k := by rw [List.length_append,List.length_append,List.length_drop,List.length_take,HAC.out.1]; omega
   obtain ⟨⟨a1,a2,a3,a4⟩,⟨f1,f2,f3,f4⟩,⟨n1,n2,n3,n4,n5,n6,n7,n8,n9,n10⟩,HS,_⟩ := swap_facts harr hi hj
   have l1 : (a0 : Int) + (k : Int) < (N : Int) := by omega
   have l2 : (b0 : Int) + (k : Int) < (N : Int) := by omega
   have l3 : (k : Int) < (n : Int) := by omega
   have l4 : ((a0 : Int) + (k : Int)).toNat = a0 + k := by omega
   have l5 : ((b0 : Int) + (k : Int)).toNat = b0 + k := by omega
   have l6 : (0 : Int) <= (a0 : Int) + (k : Int) := by omega
   have l7 : (0 : Int) <= (b0 : Int) + (k : Int) := by omega
   have HG := hid hg
   have HE := hid (show P ++ C.take (k + 1) ++ A.drop (k + 1) ++ M ++ A.take (k + 1) ++ C.drop (k + 1) ++ R = (P ++ C.take k) ++ y :: (A.drop (k + 1) ++ M ++ A.take k) ++ x :: (C.drop (k + 1) ++ R) by rw [tA,tC]; simp)
   clear harr hg hm hi hj e0 eA eC tA tC hx hy hkA hkC
   go_wp2_with fail
   go_region
   go_wp2
   go_roundw
   case rel =>
    refine ⟨k + 1,by go_num,hlt,?_,only_drewN (four_on HG.out _ _ _ _ _ _ _ _) 1⟩
    rw [HE.out]
    exact HS.out
   case measure => simp [RowKit.intOf]; omega
  ·obtain rfl : k = n := by omega
   have eA : A.drop k = [] := List.drop_of_length_le (by rw [HAC.out.1]; exact Nat.le_refl _)
   have eC : C.drop k = [] := List.drop_of_length_le (by rw [HAC.out.2]; exact Nat.le_refl _)
   have tA : A.take k = A := List.take_of_length_le (by rw [HAC.out.1]; exact Nat.le_refl _)
   have tC : C.take k = C := List.take_of_length_le (by rw [HAC.out.2]; exact Nat.le_refl _)
   rw [eA,eC,tA,tC] at harr
   have HR := hid harr
   clear harr eA eC tA tC
   go_wp2
   go_end0
   exact ⟨rfl,by simpa using HR.out,hg⟩
end Idx
namespace Idx
open Go.RowKit Base IdxMath
open Go.Sort (grow)
def RotRel (w : World) (b c m : Nat) (F : List Rw) (vi vj : Value) (wr : World) : Prop :=
 ∃ (i j : Nat) (P U V R : List Rw),vi = .int .i64 i /\ vj = .int .i64 j /\ 0 < i /\ 0 < j /\ P.length + i = m /\ U.length = i /\ V.length = j /\ F = P ++ V ++ U ++ R /\ Arr wr b c (P ++ U ++ V ++ R) /\ w.grownBy wr (some b)
def sum2 (i j : Value) : Nat := (RowKit.intOf i).toNat + (RowKit.intOf j).toNat
theorem rotate_any (b c N : Nat) (P U V R : List Rw) (a m e : Nat) (w : World) (h : Arr w b c (P ++ U ++ V ++ R)) (hN : N = (P ++ U ++ V ++ R).length) (hP : P.length = a) (hU : a + U.length = m) (hV : m + V.length = e) (h1 : 0 < U.length) (h2 : 0 < V.length) :
 Calls Tryz.prog 282 #[.slice (some ⟨b,0,none⟩) N c,.int .i64 a,.int .i64 m,.int .i64 e,.func (.func 153) #[] #[]] w fun e w' => e = .returned (.tuple #[]) /\ Arr w' b c (P ++ V ++ U ++ R) /\ w.grownBy w' (some b) := by
 have hle := h.le
 rw [<- hN] at hle
 have HF : Hid (∀ (P' U' V' R' : List Rw),P ++ V ++ U ++ R = P' ++ V' ++ U' ++ R' -> N = (P' ++ U' ++ V' ++ R').length) := fun P' U' V' R' he => by
  have := congrArg List.length he
  rw [hN]
  simp at this ⊢
  omega
 have S0 : Hid (RotRel w b c m (P ++ V ++ U ++ R) (.int .i64 U.length) (.int .i64 V.length) w) := ⟨_,_,P,U,V,R,rfl,rfl,h1,h2,by omega,rfl,rfl,rfl,h,World.grownBy.refl _ _⟩
 have l0 : e <= N := by rw [hN]; simp; omega
 obtain ⟨u,hu⟩ : ∃ u,U.length = u := ⟨_,rfl⟩
 obtain ⟨v,hv⟩ : ∃ v,V.length = v := ⟨_,rfl⟩
 rw [hu,hv] at S0
 have e1 : (m : Int) - (a : Int) = (u : Int) := by omega
 have e2 : (e : Int) - (m : Int) = (v : Int) := by omega
 have l1 : u <= N := by omega
 have l2 : v <= N := by omega
 have l3 : m <= N := by omega
 clear h hN h1 h2 hU hV hP hu hv
 generalize P ++ V ++ U ++ R = F at *
 go_enter Tryz.func282,Tryz.ntmps282
 go_wp2
 clear e1 e2 l1 l2
 go_loopw [10,11] (fun i j wr => RotRel w b c m F i j wr) (fun i j _ => sum2 i j)
 case atStart => exact S0.out
 case round =>
  obtain ⟨i,j,P1,U1,V1,R1,rfl,rfl,h1,h2,hm,hi,hj,hF,harr,hg⟩ := hrel
  have hN := HF.out P1 U1 V1 R1 hF
  have hlen : P1.length + i + j <= N := by rw [hN]; simp; omega
  obtain ⟨p,hp⟩ : ∃ p,P1.length = p := ⟨_,rfl⟩
  rw [hp] at hm hlen
  have e3 : (m : Int) - (i : Int) = (p : Int) := by omega
  have l4 : i <= N := by omega
  have l5 : m + j <= N := by omega
  have l6 : j <= N := by omega
  have l7 : p <= N := by omega
  have HA := hid harr
  have HG := hid hg
  have HFE := hid hF
  have HN := hid hN
  have HI := hid (show U1.length = i /\ V1.length = j /\ P1.length = p /\ p + i = m /\ 0 < i /\ 0 < j from ⟨hi,hj,hp,hm,h1,h2⟩)
  clear harr hg hF hN hi hj hp hlen h1 h2 hm
  by_cases hij : i = j
  ·subst hij
   go_wp2_with fail
   refine (swaprange_any b c N P1 U1 [] V1 R1 i p m _ (by simpa using HA.out) (by simpa using HN.out) HI.out.2.2.1 HI.out.1 HI.out.2.1 (by have := HI.out; simp; omega) _).mono ?_
   rintro e w1 ⟨rfl,ha1,hg1⟩
   have HA1 := hid ha1
   have HG1 := hid (only_trans HG.out hg1 (.inl rfl))
   clear ha1 hg1
   go_wp2
   go_end0
   exact ⟨rfl,by rw [HFE.out]; simpa using HA1.out,HG1.out⟩
  ·rcases Nat.lt_or_ge j i with hlt | hge
   ·have hz : (j : Int) < (i : Int) := by omega
    have hz2 : ¬ (i : Int) = (j : Int) := by omega
    have e4 : (i : Int) - (j : Int) = ((i - j : Nat) : Int) := by omega
    have HJ := hid hlt
    have eU : U1.take j ++ U1.drop j = U1 := List.take_append_drop _ _
    have HX : Hid (P1 ++ U1 ++ V1 ++ R1 = P1 ++ U1.take j ++ U1.drop j ++ V1 ++ R1) := by show _ = _; rw [List.append_assoc P1 (U1.take j),eU]
    clear eU
    go_wp2_with fail
    refine (swaprange_any b c N P1 (U1.take j) (U1.drop j) V1 R1 j p m _ (by rw [<- HX.out]; exact HA.out) (by rw [<- HX.out]; exact HN.out) HI.out.2.2.1 (by rw [List.length_take,HI.out.1]; omega) HI.out.2.1 (by have := HI.out; rw [List.length_drop]; omega) _).mono ?_
    rintro e w1 ⟨rfl,ha1,hg1⟩
    have HA1 := hid ha1
    have HG1 := hid (only_trans HG.out hg1 (.inl rfl))
    clear ha1 hg1
    go_wp2
    go_roundw
    case rel =>
     have := HI.out
     refine ⟨i - j,j,P1 ++ V1,U1.drop j,U1.take j,R1,rfl,rfl,by omega,by omega,by rw [List.length_append]; omega,by rw [List.length_drop]; omega,by rw [List.length_take]; omega,by rw [HFE.out]; simp [<- List.append_assoc (U1.take j),List.take_append_drop],HA1.out,HG1.out⟩
    case measure =>
     have := HI.out
     simp [RowKit.intOf,sum2]; omega
   ·have hz : ¬ (j : Int) < (i : Int) := by omega
    have hz2 : ¬ (i : Int) = (j : Int) := by omega
    have e4 : (j : Int) - (i : Int) = ((j - i : Nat) : Int) := by omega
    have e5 : (m : Int) + (j : Int) - (i : Int) = ((m + j - i : Nat) : Int) := by omega
    have HJ := hid (show i < j by omega)
    have eU : V1.take (j - i) ++ V1.drop (j - i) = V1 := List.take_append_drop _ _
    have HX : Hid (P1 ++ U1 ++ V1 ++ R1 = P1 ++ U1 ++ V1.take (j - i) ++ V1.drop (j - i) ++ R1) := by show _ = _; rw [List.append_assoc (P1 ++ U1) (V1.take (j - i)),eU]
    clear eU
    go_wp2_with fail
    refine (swaprange_any b c N P1 U1 (V1.take (j - i)) (V1.drop (j - i)) R1 i p (m + j - i) _ (by rw [<- HX.out]; exact HA.out) (by rw [<- HX.out]; exact HN.out) HI.out.2.2.1 HI.out.1 (by have := HI.out; rw [List.length_drop]; omega) (by have := HI.out; rw [List.length_take]; omega) _).mono ?_
    rintro e w1 ⟨rfl,ha1,hg1⟩
    have HA1 := hid ha1
    have HG1 := hid (only_trans HG.out hg1 (.inl rfl))
    clear ha1 hg1
    go_wp2
    go_roundw
    case rel =>
     have := HI.out
     have := HJ.out
     refine ⟨i,j - i,P1,V1.drop (j - i),V1.take (j - i),U1 ++ R1,rfl,rfl,by omega,by omega,by omega,by rw [List.length_drop]; omega,by rw [List.length_take]; omega,by rw [HFE.out]; simp [<- List.append_assoc (V1.take (j - i)),List.take_append_drop],by simpa using HA1.out,HG1.out⟩
    case measure =>
     have := HI.out
     have := HJ.out
     simp [RowKit.intOf,sum2]; omega
end Idx
end Go.Proofs.YtefnmnpfecfdaaaGreat
