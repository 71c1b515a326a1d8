/-
  Texts of one proof: RowMem, IdxMem, IdxSwap, IdxRotate, IdxInsert.
-/
import Derived.Test.YtefnmnpfecfdaaaGreatPk02
import Derived.Test.YtefnmnpfecfdaaaGreatRows
import Derived.Shelf.SlSortCmp.QuietGrown
import Derived.Lib.Overlaps
import Derived.StillTailTactics
import Derived.BigQuiet
set_option linter.all false
set_option maxRecDepth 100000
set_option maxHeartbeats 3200000
open Go.Lib (hid)
namespace Go.Proofs.YtefnmnpfecfdaaaGreat
namespace Idx
open Go.RowKit Base IdxMath
open Go.Sort (grow)
def rcells (x : Rw) : List Value := [.int .i64 x.key,.string x.val]
def rowv (x : Rw) : Value := .agg #[.int .i64 x.key,.string x.val]
def rv (l : List Rw) : List Value := l.flatMap rcells
theorem rv_append (l m : List Rw) : rv (l ++ m) = rv l ++ rv m := List.flatMap_append
theorem rv_cons (x : Rw) (l : List Rw) : rv (x :: l) = .int .i64 x.key :: .string x.val :: rv l := rfl
theorem rv_length (l : List Rw) : (rv l).length = l.length * 2 := by
 induction l with
 | nil => rfl
 | cons f l ih => rw [rv_cons,List.length_cons,List.length_cons,ih,List.length_cons]; omega
theorem rv_one (l : List Rw) : ∀ u ∈ rv l,u.oneCell' = true := by
 intro u hu
 obtain ⟨f,_,hf⟩ := List.mem_flatMap.1 hu
 simp only [rcells,List.mem_cons,List.not_mem_nil,or_false] at hf
 rcases hf with rfl | rfl <;> rfl
theorem rv_get (l : List Rw) (k : Nat) (f : Rw) (h : l[k]? = some f) : (rv l)[k * 2]? = some (.int .i64 f.key) /\ (rv l)[k * 2 + 1]? = some (.string f.val) := by
 induction l generalizing k with
 | nil => simp at h
 | cons g l ih =>
   rw [rv_cons]
   cases k with
   | zero =>
     simp only [List.getElem?_cons_zero,Option.some.injEq] at h
     subst h
     exact ⟨rfl,rfl⟩
   | succ k =>
     rw [List.getElem?_cons_succ] at h
     have := ih k h
     rw [show (k + 1) * 2 = k * 2 + 1 + 1 by omega]
     simpa using this
theorem rv_take (l : List Rw) (k : Nat) : (rv l).take (k * 2) = rv (l.take k) := by
 induction l generalizing k with
 | nil => simp [rv]
 | cons g l ih =>
   cases k with
   | zero => simp [rv]
   | succ k => rw [rv_cons,show (k + 1) * 2 = k * 2 + 1 + 1 by omega,List.take_succ_cons,List.take_succ_cons,List.take_succ_cons,rv_cons,ih]
theorem rv_drop (l : List Rw) (k : Nat) : (rv l).drop (k * 2) = rv (l.drop k) := by
 induction l generalizing k with
 | nil => simp [rv]
 | cons g l ih =>
   cases k with
   | zero => simp
   | succ k => rw [rv_cons,show (k + 1) * 2 = k * 2 + 1 + 1 by omega,List.drop_succ_cons,List.drop_succ_cons,List.drop_succ_cons,ih]
theorem rv_set (l : List Rw) (k : Nat) (y : Rw) : rv (l.set k y) = ((rv l).set (k * 2) (.int .i64 y.key)).set (k * 2 + 1) (.string y.val) := by
 induction l generalizing k with
 | nil => simp [rv]
 | cons g l ih =>
   cases k with
   | zero => rfl
   | succ k =>
     rw [List.set_cons_succ,rv_cons,rv_cons,ih,show (k + 1) * 2 = k * 2 + 1 + 1 by omega]
     simp
theorem er : Elem Tryz.prog 53 52 2 24 (.agg #[.int .i64 0,.string ⟨#[]⟩]) := Elem.of Tryz.underlying53 (by kernel_rfl) rfl (by omega)
def Rs (w : World) (B : Nat) (A : Option Addr) (n c : Nat) (l : List Rw) : Prop := Row w B 2 A n c (rv l)
section
variable {w w' : World} {B B' n c : Nat} {A : Option Addr} {l : List Rw}
theorem Rs.len (h : Rs w B A n c l) : l.length = n := by have := h.1; rw [rv_length] at this; omega
theorem Rs.le (h : Rs w B A n c l) : n <= c /\ c <= 9223372036854775807 := ⟨h.2.1,h.2.2.1⟩
theorem Rs.below (h : Rs w B A n c l) (hb : Below B w w') : Rs w' B A n c l := Row.below h hb
theorem Rs.nil_ (w : World) (B : Nat) : Rs w B none 0 0 [] := Row.nil_ w B 2
theorem Rs.at_ (h : Rs w B A n c l) {k : Nat} (hk : k < n) :
 ∃ b off f,A = some ⟨b,off,none⟩ /\ b < B /\ w.cell? ⟨b,off + k * 2,none⟩ = some (.int .i64 f.key) /\ w.cell? ⟨b,off + k * 2 + 1,none⟩ = some (.string f.val) /\ l[k]? = some f /\ l.take (k + 1) = l.take k ++ [f] := by
 obtain ⟨b,off,e,hb,hc⟩ := h.2.2.2 (by omega)
 have hl : k < l.length := by rw [h.len]; exact hk
 have hg : l[k]? = some l[k] := List.getElem?_eq_getElem hl
 have := rv_get l k _ hg
 exact ⟨b,off,l[k],e,hb,hc _ _ this.1,hc _ _ this.2,hg,List.take_succ_eq_append_getElem hl⟩
theorem Rs.of_own {base : Nat} {e : TypeId} (h : w.ownsRow base e 2 (.slice A n c) n (rv l)) : Rs w w.heap.size A n c l := Row.of_own h
theorem Rs.front (h : Rs w B A n c l) {k : Nat} (hk : k <= n) : Rs w B A k c (l.take k) := by
 have := Row.front h hk
 rw [rv_take] at this
 exact this
theorem Rs.cut (h : Rs w B A n c l) {k : Nat} (hk : k <= n) : Rs w B (if c = k then A else A.map (·.add (k * 2))) (n - k) (c - k) (l.drop k) := by
 have := Row.cut h hk
 rw [rv_drop] at this
 exact this
end
def Arr (w : World) (b c : Nat) (l : List Rw) : Prop := ∃ cur : Array Value,Blk w b 52 cur /\ l.length <= c /\ c <= maxLen /\ cur.size = c * 2 /\ cur.toList.take (l.length * 2) = rv l
section
variable {w w' : World} {b c : Nat} {l : List Rw}
theorem Arr.own (h : Arr w b c l) {base : Nat} (hb : base <= b) : w.ownsRow base 52 2 (.slice (some ⟨b,0,none⟩) l.length c) l.length (rv l) := by
 obtain ⟨cur,h1,h2,h3,h4,h5⟩ := h
 exact ⟨rv_length l,.inr ⟨b,c,cur,rfl,hb,h1,h2,h3,h4,h5⟩⟩
theorem Arr.lt (h : Arr w b c l) : b < w.heap.size := by obtain ⟨cur,h1,_⟩ := h; exact h1.lt
theorem Arr.le (h : Arr w b c l) : l.length <= c /\ c <= 9223372036854775807 := by obtain ⟨cur,h1,h2,h3,_⟩ := h; unfold maxLen at h3; exact ⟨h2,by omega⟩
theorem Arr.same (h : Arr w b c l) (hk : w'.heap[b]? = w.heap[b]?) : Arr w' b c l := by
 obtain ⟨cur,h1,h2⟩ := h
 exact ⟨cur,hk.trans h1,h2⟩
theorem Arr.drewN (h : Arr w b c l) (n : Nat) : Arr (w.drewN n) b c l := h
theorem Arr.grown (h : Arr w b c l) (n : Nat) (os : Array Obj) : Arr (grow (w.drewN n) os) b c l := h.same (Go.Sort.heap_grow_old (w.drewN n) os h.lt)
theorem Arr.get (h : Arr w b c l) {k : Nat} {x : Rw} (hx : l[k]? = some x) : w.cell? ⟨b,k * 2,none⟩ = some (.int .i64 x.key) /\ w.cell? ⟨b,k * 2 + 1,none⟩ = some (.string x.val) := by
 obtain ⟨cur,h1,h2,h3,h4,h5⟩ := h
 have hk : k < l.length := (List.getElem?_eq_some_iff.1 hx).1
 obtain ⟨e1,e2⟩ := rv_get l k x hx
 rw [<- h5,List.getElem?_take_of_lt (by omega),Array.getElem?_toList] at e1 e2
 rw [h1.cell,h1.cell]
 exact ⟨e1,e2⟩
theorem Arr.frozen (h : Arr w b c l) (i : Nat) : w.frozen? ⟨b,i,none⟩ = false := by obtain ⟨cur,h1,_⟩ := h; exact h1.frozen i
theorem Arr.set (h : Arr w b c l) (k : Nat) (y : Rw) : Arr ((w.setCell ⟨b,k * 2,none⟩ (.int .i64 y.key)).setCell ⟨b,k * 2 + 1,none⟩ (.string y.val)) b c (l.set k y) := by
 obtain ⟨cur,h1,h2,h3,h4,h5⟩ := h
 refine ⟨_,(h1.set_ _ _).set_ _ _,by rw [List.length_set]; exact h2,h3,by simp [h4],?_⟩
 rw [Array.toList_setIfInBounds,Array.toList_setIfInBounds,List.length_set,List.take_set,List.take_set,h5,rv_set]
end
theorem below_grow (w : World) (n : Nat) (os : Array Obj) : Below w.heap.size w (grow (w.drewN n) os) :=
 ⟨rfl,rfl,rfl,by simp,fun i hi => Go.Sort.heap_grow_old (w.drewN n) os hi⟩
def NewRows (w : World) (l : List Rw) (e : Ending) (w' : World) : Prop :=
 ∃ A c,e = .returned (.slice A l.length c) /\ w'.ownsRow w.heap.size 52 2 (.slice A l.length c) l.length (rv l) /\ Below w.heap.size w w'
end Idx
namespace Idx
open Go.RowKit Base IdxMath
open Go.Sort (grow)
def cmpK (x y : Int) : Int := if x < y then -1 else if y < x then 1 else 0
theorem cmpK_neg {x y : Int} (h : x < y) : cmpK x y = -1 := by unfold cmpK; rw [if_pos h]
theorem cmpK_lt {x y : Int} : cmpK x y < 0 <-> x < y := by
 unfold cmpK
 split
 ·omega
 ·split <;> omega
theorem cmpK_eq {x y : Int} : cmpK x y = 0 <-> x = y := by
 unfold cmpK
 split
 ·omega
 ·split <;> omega
theorem isNaN_any (x : Int) (w : World) : Calls Tryz.prog 248 #[.int .i64 x] w fun e w' => e = .returned (.bool false) /\ w = w' := by
 go_enter Tryz.func248,Tryz.ntmps248
 go_wp2
 go_ret
 exact ⟨by simp,rfl⟩
theorem compare_any (x y : Int) (w : World) : Calls Tryz.prog 208 #[.int .i64 x,.int .i64 y] w fun e w' => e = .returned (.int .i64 (cmpK x y)) /\ w = w' := by
 have HE := hid (show cmpK x y = if x < y then -1 else if y < x then 1 else 0 from rfl)
 go_enter Tryz.func208,Tryz.ntmps208
 go_wp2_with (first | (refine (isNaN_any _ _).mono ?_; rintro e w1 ⟨rfl,rfl⟩) | fail)
 all_goals go_ret
 all_goals refine ⟨ret_int ?_,rfl⟩
 all_goals rw [HE.out]
 all_goals first | (rw [if_pos (by omega)]) | (rw [if_neg (by omega),if_pos (by omega)]) | (rw [if_neg (by omega),if_neg (by omega)])
theorem bykeys_any (x y : Rw) (w : World) : Calls Tryz.prog 153 #[rowv x,rowv y] w fun e w' => e = .returned (.int .i64 (cmpK x.key y.key)) /\ ∃ q os,w' = grow (w.drewN q) os := by
 unfold rowv
 go_enter Tryz.func153,Tryz.ntmps153
 go_wp2_with (first | (refine (compare_any _ _ _).mono ?_; rintro e w1 ⟨rfl,rfl⟩) | fail)
 go_ret
 exact ⟨rfl,0,_,by rw [Go.Sort.alloc_eq_grow,Go.Sort.alloc_eq_grow,Go.Sort.grow_grow]; rfl⟩
theorem samekey_any (x y : Rw) (w : World) : Calls Tryz.prog 155 #[rowv x,rowv y] w fun e w' => e = .returned (.bool (decide (x.key = y.key))) /\ ∃ q os,w' = grow (w.drewN q) os := by
 unfold rowv
 go_enter Tryz.func155,Tryz.ntmps155
 go_wp2
 go_ret
 exact ⟨by simp [Bool.beq_eq_decide_eq],0,_,by rw [Go.Sort.alloc_eq_grow,Go.Sort.alloc_eq_grow,Go.Sort.grow_grow]; rfl⟩
end Idx
namespace Idx
open Go.RowKit Base IdxMath
open Go.Sort (grow)
theorem swap_facts {wr : World} {b c : Nat} {P M R : List Rw} {x y : Rw} (h : Arr wr b c (P ++ x :: M ++ y :: R)) {i j : Nat} (hi : P.length = i) (hj : i + 1 + M.length = j) :
 (wr.cell? ⟨b,i * 2,none⟩ = some (.int .i64 x.key) /\ wr.cell? ⟨b,i * 2 + 1,none⟩ = some (.string x.val) /\ wr.cell? ⟨b,j * 2,none⟩ = some (.int .i64 y.key) /\ wr.cell? ⟨b,j * 2 + 1,none⟩ = some (.string y.val)) /\
 (wr.frozen? ⟨b,i * 2,none⟩ = false /\ wr.frozen? ⟨b,i * 2 + 1,none⟩ = false /\ wr.frozen? ⟨b,j * 2,none⟩ = false /\ wr.frozen? ⟨b,j * 2 + 1,none⟩ = false) /\
 (¬ i * 2 = j * 2 /\ ¬ i * 2 = j * 2 + 1 /\ ¬ i * 2 + 1 = j * 2 /\ ¬ i * 2 + 1 = j * 2 + 1 /\ ¬ j * 2 = i * 2 /\ ¬ j * 2 = i * 2 + 1 /\ ¬ j * 2 + 1 = i * 2 /\ ¬ j * 2 + 1 = i * 2 + 1 /\ ¬ i = j /\ ¬ j = i) /\
 Hid (Arr ((((wr.setCell ⟨b,i * 2,none⟩ (.int .i64 y.key)).setCell ⟨b,i * 2 + 1,none⟩ (.string y.val)).setCell ⟨b,j * 2,none⟩ (.int .i64 x.key)).setCell ⟨b,j * 2 + 1,none⟩ (.string x.val)) b c (P ++ y :: M ++ x :: R)) /\
 Hid (Arr ((((wr.setCell ⟨b,j * 2,none⟩ (.int .i64 x.key)).setCell ⟨b,j * 2 + 1,none⟩ (.string x.val)).setCell ⟨b,i * 2,none⟩ (.int .i64 y.key)).setCell ⟨b,i * 2 + 1,none⟩ (.string y.val)) b c (P ++ y :: M ++ x :: R)) := by
 have g1 := h.get (k := i) (x := x) (by rw [List.append_assoc]; exact get_app hi)
 have g2 := h.get (k := j) (x := y) (get_app (by simp; omega))
 have s1 := (h.set i y).set j x
 have s2 := (h.set j x).set i y
 subst hi hj
 rw [set_swap] at s1
 rw [set_swap'] at s2
 exact ⟨⟨g1.1,g1.2,g2.1,g2.2⟩,⟨h.frozen _,h.frozen _,h.frozen _,h.frozen _⟩,by omega,hid s1,hid s2⟩
theorem four_on {w wr : World} {b : Nat} (h : w.grownBy wr (some b)) (p q r s : Nat) (t u v x : Value) : w.grownBy ((((wr.setCell ⟨b,p,none⟩ t).setCell ⟨b,q,none⟩ u).setCell ⟨b,r,none⟩ v).setCell ⟨b,s,none⟩ x) (some b) :=
 only_setCell (only_setCell (only_setCell (only_setCell h (.inl rfl) _) (.inl rfl) _) (.inl rfl) _) (.inl rfl) _
def RevRel (w : World) (b c n : Nat) (l : List Rw) (i j : Value) (wr : World) : Prop :=
 ∃ (k : Nat) (X M Y : List Rw),i = .int .i64 k /\ j = .int .i64 ((n : Int) - 1 - k) /\ X.length = k /\ Y.length = k /\ l = Y.reverse ++ M ++ X.reverse /\ Arr wr b c (X ++ M ++ Y) /\ w.grownBy wr (some b)
theorem reverse_any (b c : Nat) (l : List Rw) (w : World) (h : Arr w b c l) :
 Calls Tryz.prog 151 #[.slice (some ⟨b,0,none⟩) l.length c] w fun e w' => e = .returned (.tuple #[]) /\ Arr w' b c l.reverse /\ w.grownBy w' (some b) := by
 obtain ⟨n,hn⟩ : ∃ n,n = l.length := ⟨_,rfl⟩
 have hle := h.le
 rw [<- hn] at hle ⊢
 have HN := hid hn
 have HA := hid h
 clear hn h
 go_enter Tryz.func151,Tryz.ntmps151
 go_wp2
 go_loopw [2,3] (fun i j wr => RevRel w b c n l i j wr) (fun i _ _ => n - (RowKit.intOf i).toNat)
 case atStart => exact ⟨0,[],l,[],rfl,by simp,rfl,rfl,by simp,by simpa using HA.out,World.grownBy.refl _ _⟩
 case round =>
  obtain ⟨k,X,M,Y,rfl,rfl,hX,hY,hl,harr,hg⟩ := hrel
  have hlen : n = k + M.length + k := by rw [HN.out,hl]; simp [hX,hY]; omega
  by_cases hlt : k + k + 1 < n
  ·obtain ⟨x,M1,rfl⟩ : ∃ x M1,M = x :: M1 := by
    cases M with
    | nil => simp at hlen; omega
    | cons x M1 => exact ⟨x,M1,rfl⟩
   rcases List.eq_nil_or_concat M1 with rfl | ⟨M',y,rfl⟩
   ·simp at hlen; omega
   rw [List.concat_eq_append] at *
   have hm : n = k + (M'.length + 2) + k := by rw [hlen]; simp
   obtain ⟨j,hj⟩ : ∃ j : Nat,k + 1 + M'.length = j := ⟨_,rfl⟩
   have hjz : (n : Int) - 1 - (k : Int) = (j : Int) := by omega
   rw [hjz]
   have earr : X ++ (x :: (M' ++ [y])) ++ Y = X ++ x :: M' ++ y :: Y := by simp
   rw [earr] at harr
   obtain ⟨⟨a1,a2,a3,a4⟩,⟨f1,f2,f3,f4⟩,⟨n1,n2,n3,n4,n5,n6,n7,n8,n9,n10⟩,HS,_⟩ := swap_facts harr hX hj
   have l1 : (k : Int) < (n : Int) := by omega
   have l2 : (j : Int) < (n : Int) := by omega
   have l3 : (k : Int) < (j : Int) := by omega
   have HG := hid hg
   have HL := hid hl
   have HM := hid (show (k < n) /\ n = k + (M'.length + 2) + k /\ j = k + 1 + M'.length from ⟨by omega,hm,hj.symm⟩)
   have HX := hid hX
   have HY := hid hY
   clear harr hg hl hm hj hjz earr hlen hlt hX hY
   go_wp2_with fail
   go_region
   go_wp2
   go_roundw
   case rel =>
    have := HM.out
    refine ⟨k + 1,X ++ [y],M',x :: Y,by go_num,by congr 1; omega,by simp [HX.out],by simp [HY.out],by rw [HL.out]; simp,?_,only_drewN (four_on HG.out _ _ _ _ _ _ _ _) 1⟩
    rw [show X ++ [y] ++ M' ++ x :: Y = X ++ y :: M' ++ x :: Y by simp]
    exact HS.out
   case measure =>
    have := HM.out.1
    simp [RowKit.intOf]; omega
  ·go_wp2
   go_end0
   refine ⟨rfl,?_,hg⟩
   have : M.reverse = M := by
    match M,hlen with
    | [],_ => rfl
    | [x],_ => rfl
    | x :: y :: r,h => simp at h; omega
   rw [hl,List.reverse_append,List.reverse_append,List.reverse_reverse,List.reverse_reverse,this,<- List.append_assoc]
   exact harr
theorem swaprange_any (b c N : Nat) (P A M C R : List Rw) (n a0 b0 : Nat) (w : World) (h : Arr w b c (P ++ A ++ M ++ C ++ R)) (hN : N = (P ++ A ++ M ++ C ++ R).length) (hP : P.length = a0) (hA : A.length = n) (hC : C.length = n) (hM : a0 + n + M.length = b0) (v : Value) :
 Calls Tryz.prog 300 #[.slice (some ⟨b,0,none⟩) N c,.int .i64 a0,.int .i64 b0,.int .i64 n,v] w fun e w' => e = .returned (.tuple #[]) /\ Arr w' b c (P ++ C ++ M ++ A ++ R) /\ w.grownBy w' (some b) := by
 have hle := h.le
 rw [<- hN] at hle
 have hNN : a0 + n + M.length + n + R.length = N := by rw [hN]; simp [hP,hA,hC]; omega
 have HA := hid h
 have HP := hid hP
 have HAC := hid (And.intro hA hC)
 have HM := hid (And.intro hM hNN)
 have l0 : b0 + n <= N := by omega
 have l00 : a0 + n <= N := by omega
 clear h hN hP hA hC hM hNN
 go_enter Tryz.func300,Tryz.ntmps300
 go_wp2
 go_loopw [10] (fun i wr => ∃ k : Nat,i = .int .i64 k /\ k <= n /\ Arr wr b c (P ++ C.take k ++ A.drop k ++ M ++ A.take k ++ C.drop k ++ R) /\ w.grownBy wr (some b)) (fun i _ => n - (RowKit.intOf i).toNat)
 case atStart => exact ⟨0,rfl,Nat.zero_le _,by simpa using HA.out,World.grownBy.refl _ _⟩
 case round =>
  obtain ⟨k,rfl,hk,harr,hg⟩ := hrel
  by_cases hlt : k < n
  ·have hkA : k < A.length := by rw [HAC.out.1]; exact hlt
   have hkC : k < C.length := by rw [HAC.out.2]; exact hlt
   obtain ⟨x,hx⟩ : ∃ x,x = A[k] := ⟨_,rfl⟩
   obtain ⟨y,hy⟩ : ∃ y,y = C[k] := ⟨_,rfl⟩
   have eA : A.drop k = x :: A.drop (k + 1) := by rw [hx]; exact List.drop_eq_getElem_cons hkA
   have eC : C.drop k = y :: C.drop (k + 1) := by rw [hy]; exact List.drop_eq_getElem_cons hkC
   have tA : A.take (k + 1) = A.take k ++ [x] := by rw [hx]; exact List.take_succ_eq_append_getElem hkA
   have tC : C.take (k + 1) = C.take k ++ [y] := by rw [hy]; exact List.take_succ_eq_append_getElem hkC
   have e0 : P ++ C.take k ++ A.drop k ++ M ++ A.take k ++ C.drop k ++ R = (P ++ C.take k) ++ x :: (A.drop (k + 1) ++ M ++ A.take k) ++ y :: (C.drop (k + 1) ++ R) := by rw [eA,eC]; simp
   rw [e0] at harr
   have hm := HM.out
   have hi : (P ++ C.take k).length = a0 + k := by rw [List.length_append,List.length_take,HP.out,HAC.out.2]; omega
   have hj : (a0 + k) + 1 + (A.drop (k + 1) ++ M ++ A.take k).length = b0 + k := by rw [List.length_append,List.length_append,List.length_drop,List.length_take,HAC.out.1]; omega
   obtain ⟨⟨a1,a2,a3,a4⟩,⟨f1,f2,f3,f4⟩,⟨n1,n2,n3,n4,n5,n6,n7,n8,n9,n10⟩,HS,_⟩ := swap_facts harr hi hj
   have l1 : (a0 : Int) + (k : Int) < (N : Int) := by omega
   have l2 : (b0 : Int) + (k : Int) < (N : Int) := by omega
   have l3 : (k : Int) < (n : Int) := by omega
   have l4 : ((a0 : Int) + (k : Int)).toNat = a0 + k := by omega
   have l5 : ((b0 : Int) + (k : Int)).toNat = b0 + k := by omega
   have l6 : (0 : Int) <= (a0 : Int) + (k : Int) := by omega
   have l7 : (0 : Int) <= (b0 : Int) + (k : Int) := by omega
   have HG := hid hg
   have HE := hid (show P ++ C.take (k + 1) ++ A.drop (k + 1) ++ M ++ A.take (k + 1) ++ C.drop (k + 1) ++ R = (P ++ C.take k) ++ y :: (A.drop (k + 1) ++ M ++ A.take k) ++ x :: (C.drop (k + 1) ++ R) by rw [tA,tC]; simp)
   clear harr hg hm hi hj e0 eA eC tA tC hx hy hkA hkC
   go_wp2_with fail
   go_region
   go_wp2
   go_roundw
   case rel =>
    refine ⟨k + 1,by go_num,hlt,?_,only_drewN (four_on HG.out _ _ _ _ _ _ _ _) 1⟩
    rw [HE.out]
    exact HS.out
   case measure => simp [RowKit.intOf]; omega
  ·obtain rfl : k = n := by omega
   have eA : A.drop k = [] := List.drop_of_length_le (by rw [HAC.out.1]; exact Nat.le_refl _)
   have eC : C.drop k = [] := List.drop_of_length_le (by rw [HAC.out.2]; exact Nat.le_refl _)
   have tA : A.take k = A := List.take_of_length_le (by rw [HAC.out.1]; exact Nat.le_refl _)
   have tC : C.take k = C := List.take_of_length_le (by rw [HAC.out.2]; exact Nat.le_refl _)
   rw [eA,eC,tA,tC] at harr
   have HR := hid harr
   clear harr eA eC tA tC
   go_wp2
   go_end0
   exact ⟨rfl,by simpa using HR.out,hg⟩
end Idx
namespace Idx
open Go.RowKit Base IdxMath
open Go.Sort (grow)
def RotRel (w : World) (b c m : Nat) (F : List Rw) (vi vj : Value) (wr : World) : Prop :=
 ∃ (i j : Nat) (P U V R : List Rw),vi = .int .i64 i /\ vj = .int .i64 j /\ 0 < i /\ 0 < j /\ P.length + i = m /\ U.length = i /\ V.length = j /\ F = P ++ V ++ U ++ R /\ Arr wr b c (P ++ U ++ V ++ R) /\ w.grownBy wr (some b)
def sum2 (i j : Value) : Nat := (RowKit.intOf i).toNat + (RowKit.intOf j).toNat
theorem rotate_any (b c N : Nat) (P U V R : List Rw) (a m e : Nat) (w : World) (h : Arr w b c (P ++ U ++ V ++ R)) (hN : N = (P ++ U ++ V ++ R).length) (hP : P.length = a) (hU : a + U.length = m) (hV : m + V.length = e) (h1 : 0 < U.length) (h2 : 0 < V.length) :
 Calls Tryz.prog 282 #[.slice (some ⟨b,0,none⟩) N c,.int .i64 a,.int .i64 m,.int .i64 e,.func (.func 153) #[] #[]] w fun e w' => e = .returned (.tuple #[]) /\ Arr w' b c (P ++ V ++ U ++ R) /\ w.grownBy w' (some b) := by
 have hle := h.le
 rw [<- hN] at hle
 have HF : Hid (∀ (P' U' V' R' : List Rw),P ++ V ++ U ++ R = P' ++ V' ++ U' ++ R' -> N = (P' ++ U' ++ V' ++ R').length) := fun P' U' V' R' he => by
  have := congrArg List.length he
  rw [hN]
  simp at this ⊢
  omega
 have S0 : Hid (RotRel w b c m (P ++ V ++ U ++ R) (.int .i64 U.length) (.int .i64 V.length) w) := ⟨_,_,P,U,V,R,rfl,rfl,h1,h2,by omega,rfl,rfl,rfl,h,World.grownBy.refl _ _⟩
 have l0 : e <= N := by rw [hN]; simp; omega
 obtain ⟨u,hu⟩ : ∃ u,U.length = u := ⟨_,rfl⟩
 obtain ⟨v,hv⟩ : ∃ v,V.length = v := ⟨_,rfl⟩
 rw [hu,hv] at S0
 have e1 : (m : Int) - (a : Int) = (u : Int) := by omega
 have e2 : (e : Int) - (m : Int) = (v : Int) := by omega
 have l1 : u <= N := by omega
 have l2 : v <= N := by omega
 have l3 : m <= N := by omega
 clear h hN h1 h2 hU hV hP hu hv
 generalize P ++ V ++ U ++ R = F at *
 go_enter Tryz.func282,Tryz.ntmps282
 go_wp2
 clear e1 e2 l1 l2
 go_loopw [10,11] (fun i j wr => RotRel w b c m F i j wr) (fun i j _ => sum2 i j)
 case atStart => exact S0.out
 case round =>
  obtain ⟨i,j,P1,U1,V1,R1,rfl,rfl,h1,h2,hm,hi,hj,hF,harr,hg⟩ := hrel
  have hN := HF.out P1 U1 V1 R1 hF
  have hlen : P1.length + i + j <= N := by rw [hN]; simp; omega
  obtain ⟨p,hp⟩ : ∃ p,P1.length = p := ⟨_,rfl⟩
  rw [hp] at hm hlen
  have e3 : (m : Int) - (i : Int) = (p : Int) := by omega
  have l4 : i <= N := by omega
  have l5 : m + j <= N := by omega
  have l6 : j <= N := by omega
  have l7 : p <= N := by omega
  have HA := hid harr
  have HG := hid hg
  have HFE := hid hF
  have HN := hid hN
  have HI := hid (show U1.length = i /\ V1.length = j /\ P1.length = p /\ p + i = m /\ 0 < i /\ 0 < j from ⟨hi,hj,hp,hm,h1,h2⟩)
  clear harr hg hF hN hi hj hp hlen h1 h2 hm
  by_cases hij : i = j
  ·subst hij
   go_wp2_with fail
   refine (swaprange_any b c N P1 U1 [] V1 R1 i p m _ (by simpa using HA.out) (by simpa using HN.out) HI.out.2.2.1 HI.out.1 HI.out.2.1 (by have := HI.out; simp; omega) _).mono ?_
   rintro e w1 ⟨rfl,ha1,hg1⟩
   have HA1 := hid ha1
   have HG1 := hid (only_trans HG.out hg1 (.inl rfl))
   clear ha1 hg1
   go_wp2
   go_end0
   exact ⟨rfl,by rw [HFE.out]; simpa using HA1.out,HG1.out⟩
  ·rcases Nat.lt_or_ge j i with hlt | hge
   ·have hz : (j : Int) < (i : Int) := by omega
    have hz2 : ¬ (i : Int) = (j : Int) := by omega
    have e4 : (i : Int) - (j : Int) = ((i - j : Nat) : Int) := by omega
    have HJ := hid hlt
    have eU : U1.take j ++ U1.drop j = U1 := List.take_append_drop _ _
    have HX : Hid (P1 ++ U1 ++ V1 ++ R1 = P1 ++ U1.take j ++ U1.drop j ++ V1 ++ R1) := by show _ = _; rw [List.append_assoc P1 (U1.take j),eU]
    clear eU
    go_wp2_with fail
    refine (swaprange_any b c N P1 (U1.take j) (U1.drop j) V1 R1 j p m _ (by rw [<- HX.out]; exact HA.out) (by rw [<- HX.out]; exact HN.out) HI.out.2.2.1 (by rw [List.length_take,HI.out.1]; omega) HI.out.2.1 (by have := HI.out; rw [List.length_drop]; omega) _).mono ?_
    rintro e w1 ⟨rfl,ha1,hg1⟩
    have HA1 := hid ha1
    have HG1 := hid (only_trans HG.out hg1 (.inl rfl))
    clear ha1 hg1
    go_wp2
    go_roundw
    case rel =>
     have := HI.out
     refine ⟨i - j,j,P1 ++ V1,U1.drop j,U1.take j,R1,rfl,rfl,by omega,by omega,by rw [List.length_append]; omega,by rw [List.length_drop]; omega,by rw [List.length_take]; omega,by rw [HFE.out]; simp [<- List.append_assoc (U1.take j),List.take_append_drop],HA1.out,HG1.out⟩
    case measure =>
     have := HI.out
     simp [RowKit.intOf,sum2]; omega
   ·have hz : ¬ (j : Int) < (i : Int) := by omega
    have hz2 : ¬ (i : Int) = (j : Int) := by omega
    have e4 : (j : Int) - (i : Int) = ((j - i : Nat) : Int) := by omega
    have e5 : (m : Int) + (j : Int) - (i : Int) = ((m + j - i : Nat) : Int) := by omega
    have HJ := hid (show i < j by omega)
    have eU : V1.take (j - i) ++ V1.drop (j - i) = V1 := List.take_append_drop _ _
    have HX : Hid (P1 ++ U1 ++ V1 ++ R1 = P1 ++ U1 ++ V1.take (j - i) ++ V1.drop (j - i) ++ R1) := by show _ = _; rw [List.append_assoc (P1 ++ U1) (V1.take (j - i)),eU]
    clear eU
    go_wp2_with fail
    refine (swaprange_any b c N P1 U1 (V1.take (j - i)) (V1.drop (j - i)) R1 i p (m + j - i) _ (by rw [<- HX.out]; exact HA.out) (by rw [<- HX.out]; exact HN.out) HI.out.2.2.1 HI.out.1 (by have := HI.out; rw [List.length_drop]; omega) (by have := HI.out; rw [List.length_take]; omega) _).mono ?_
    rintro e w1 ⟨rfl,ha1,hg1⟩
    have HA1 := hid ha1
    have HG1 := hid (only_trans HG.out hg1 (.inl rfl))
    clear ha1 hg1
    go_wp2
    go_roundw
    case rel =>
     have := HI.out
     have := HJ.out
     refine ⟨i,j - i,P1,V1.drop (j - i),V1.take (j - i),U1 ++ R1,rfl,rfl,by omega,by omega,by omega,by rw [List.length_drop]; omega,by rw [List.length_take]; omega,by rw [HFE.out]; simp [<- List.append_assoc (V1.take (j - i)),List.take_append_drop],by simpa using HA1.out,HG1.out⟩
    case measure =>
     have := HI.out
     have := HJ.out
     simp [RowKit.intOf,sum2]; omega
end Idx
namespace Idx
open Go.RowKit Base IdxMath
open Go.Sort (grow)
theorem cmp_grown (x y : Rw) (wr : World) (n : Nat) (os : Array Obj) : Calls Tryz.prog 153 #[.agg #[.int .i64 x.key,.string x.val],.agg #[.int .i64 y.key,.string y.val]] (grow (wr.drewN n) os) fun e w'' => e = .returned (.int .i64 (cmpK x.key y.key)) /\ ∃ p : GrownBy,w'' = grow (wr.drewN p.n) p.os :=
 Calls.grown_of (bykeys_any x y _)
theorem Arr.got {wr : World} {b c : Nat} {l : List Rw} (h : Arr wr b c l) {k : Nat} {x : Rw} (hx : l[k]? = some x) :
 (∀ n os,(grow (wr.drewN n) os).cell? ⟨b,k * 2,none⟩ = some (.int .i64 x.key)) /\ (∀ n os,(grow (wr.drewN n) os).cell? ⟨b,k * 2 + 1,none⟩ = some (.string x.val)) :=
 ⟨fun n os => ((h.grown n os).get hx).1,fun n os => ((h.grown n os).get hx).2⟩
theorem only_grow {a w : World} {row : Option Nat} (h : a.grownBy w row) (n : Nat) (os : Array Obj) : a.grownBy (grow (w.drewN n) os) row :=
 ⟨h.os,h.tape,h.output,Nat.le_trans h.size (by simp),fun i hi hne => (Go.Sort.heap_grow_old (w.drewN n) os (Nat.lt_of_lt_of_le hi h.size)).trans (h.block i hi hne)⟩
def InsRel (w : World) (b c a : Nat) (P U R : List Rw) (vi : Value) (wr : World) : Prop :=
 ∃ (k : Nat) (D E : List Rw),vi = .int .i64 k /\ (a + D.length = k \/ (D = [] /\ E = [] /\ k = a + 1)) /\ a < k /\ Srt D /\ St U (D ++ E) /\ (D ++ E).length = U.length /\ Arr wr b c (P ++ D ++ E ++ R) /\ w.grownBy wr (some b)
def InsRel2 (w : World) (b c a k : Nat) (P U E R : List Rw) (vj : Value) (wr : World) : Prop :=
 ∃ (j : Nat) (X : List Rw) (y : Rw) (Z : List Rw),vj = .int .i64 j /\ a + X.length = j /\ j + Z.length = k /\ Srt (X ++ Z) /\ (∀ z ∈ Z,y.key < z.key) /\ St U (X ++ y :: Z ++ E) /\ (X ++ y :: Z ++ E).length = U.length /\ Arr wr b c (P ++ X ++ y :: Z ++ E ++ R) /\ w.grownBy wr (some b)
theorem ins_done {X Z : List Rw} {y : Rw} (h : Srt (X ++ Z)) (hz : ∀ z ∈ Z,y.key < z.key) (hx : X = [] \/ ∃ X' x,X = X' ++ [x] /\ x.key <= y.key) : Srt (X ++ y :: Z) := by
 obtain ⟨h1,h2,h3⟩ := h.parts
 refine Srt.app h1 (List.Pairwise.cons (fun z hz' => Int.le_of_lt (hz z hz')) h2) fun a ha b hb => ?_
 rcases List.mem_cons.1 hb with rfl | hb
 ·rcases hx with rfl | ⟨X',x,rfl,hxy⟩
  ·cases ha
  ·rcases List.mem_append.1 ha with ha | ha
   ·have := (Srt.parts h1).2.2 a ha x List.mem_cons_self
    omega
   ·rw [List.mem_singleton] at ha
    subst ha
    exact hxy
 ·exact h3 a ha b hb
theorem insertion_any (b c N : Nat) (P U R : List Rw) (a e : Nat) (w : World) (h : Arr w b c (P ++ U ++ R)) (hN : N = (P ++ U ++ R).length) (hP : P.length = a) (hU : a + U.length = e) (hsz : N <= 4611686018427387903) :
 Calls Tryz.prog 246 #[.slice (some ⟨b,0,none⟩) N c,.int .i64 a,.int .i64 e,.func (.func 153) #[] #[]] w fun e w' => e = .returned (.tuple #[]) /\ w.grownBy w' (some b) /\ ∃ U',Srt U' /\ St U U' /\ U'.length = U.length /\ Arr w' b c (P ++ U' ++ R) := by
 have hle := h.le
 rw [<- hN] at hle
 have S0 : Hid (InsRel w b c a P U R (.int .i64 ((a + 1 : Nat) : Int)) w) := by
  cases U with
  | nil => exact ⟨a + 1,[],[],rfl,.inr ⟨rfl,rfl,rfl⟩,by omega,Srt.nil,St.refl _,rfl,by simpa using h,World.grownBy.refl _ _⟩
  | cons x r => exact ⟨a + 1,[x],r,rfl,.inl rfl,by omega,Srt.one x,St.refl _,rfl,by simpa using h,World.grownBy.refl _ _⟩
 have HL : Hid (∀ D E : List Rw,(D ++ E).length = U.length -> N = (P ++ D ++ E ++ R).length /\ a + D.length + E.length = e /\ P.length = a) := fun D E he => ⟨by rw [hN]; simp at he ⊢; omega,by simp at he; omega,hP⟩
 have l0 : e <= N := by rw [hN]; simp; omega
 have l1 : a <= N := by omega
 clear h hN hP hU
 go_enter Tryz.func246,Tryz.ntmps246
 go_wp2
 go_loopw [8] (fun i wr => InsRel w b c a P U R i wr) (fun i _ => e + 1 - (RowKit.intOf i).toNat)
 case atStart => exact S0.out
 case round =>
  obtain ⟨k,D,E,rfl,hD,hak,hs,hst,hlen,harr,hg⟩ := hrel
  obtain ⟨q1,q2,q3⟩ := HL.out D E hlen
  have HA := hid harr
  have HG := hid hg
  have HS := hid hs
  have HT := hid hst
  have HLEN := hid hlen
  clear harr hg hs hst hlen
  by_cases hlt : k < e
  ·have hD' : a + D.length = k := by
    rcases hD with h | ⟨rfl,rfl,_⟩
    ·exact h
    ·simp at q2; omega
   obtain ⟨y,E',rfl⟩ : ∃ y E',E = y :: E' := by
    cases E with
    | nil => simp at q2; omega
    | cons y E' => exact ⟨y,E',rfl⟩
   have S1 : Hid (InsRel2 w b c a k P U E' R (.int .i64 k) wr) := ⟨k,D,y,[],rfl,hD',rfl,by simpa using HS.out,by simp,by simpa using HT.out,by simpa using HLEN.out,by simpa using HA.out,HG.out⟩
   clear q1 q2 q3 hD hD'
   go_wp2
   go_loopw [9] (fun j wr => InsRel2 w b c a k P U E' R j wr) (fun j _ => (RowKit.intOf j).toNat)
   case atStart => exact S1.out
   case round =>
    obtain ⟨j,X,y,Z,rfl,hX,hZ,hs,hz,hst,hlen,harr,hg⟩ := hrel
    obtain ⟨q1,q2,q3⟩ := HL.out (X ++ y :: Z) E' (by simpa using hlen)
    have HG := hid hg
    have HS := hid hs
    have HZ := hid hz
    have HT := hid hst
    have HLEN := hid hlen
    have HX := hid hX
    have HZL := hid hZ
    have HP := hid q3
    clear q1 q2 q3 hg hs hz hst hlen
    have l2 : j <= k := by omega
    rcases List.eq_nil_or_concat X with rfl | ⟨X',x,rfl⟩
    ·have hj : a = j := by simpa using hX
     subst hj
     have HA := hid harr
     clear harr hX hZ
     have hd : decide ((a : Int) > (a : Int)) = false := by simp
     go_wp2_with fail
     go_quiet (fail)
     go_wp2
     go_roundw
     case rel =>
      have := HZL.out
      refine ⟨k + 1,y :: Z,E',by go_num,.inl (by rw [List.length_cons]; omega),by omega,?_,by simpa using HT.out,by simpa using HLEN.out,by simpa using HA.out.drewN nq,only_drewN HG.out _⟩
      have := ins_done (X := []) HS.out HZ.out (.inl rfl)
      simpa using this
     case measure => simp [RowKit.intOf]; omega
    ·rw [List.concat_eq_append] at *
     obtain ⟨jp,hjp⟩ : ∃ jp,j = jp + 1 := ⟨j - 1,by simp at hX; omega⟩
     subst hjp
     have e0 : P ++ (X' ++ [x]) ++ y :: Z ++ E' ++ R = (P ++ X') ++ x :: [] ++ y :: (Z ++ E' ++ R) := by simp
     rw [e0] at harr
     have hi : (P ++ X').length = jp := by simp at hX; rw [List.length_append,HP.out]; omega
     obtain ⟨c1,c2⟩ := harr.got (k := jp) (x := x) (by rw [List.append_assoc]; exact get_app hi)
     obtain ⟨c3,c4⟩ := harr.got (k := jp + 1) (x := y) (get_app (by simp; simp at hi; omega))
     have hc := cmp_grown y x wr
     have HA := hid harr
     have HI := hid hi
     have l3 : jp + 1 < N := by omega
     have l4 : a <= jp := by simp at hX; omega
     have l5 : (a : Int) < (jp : Int) + 1 := by omega
     have l6 : (jp : Int) < (N : Int) := by omega
     have l7 : (jp : Int) + 1 < (N : Int) := by omega
     have l8 : (0 : Int) <= (jp : Int) + 1 := by omega
     have l9 : ((jp : Int) + 1).toNat = jp + 1 := by omega
     have l10 : IntKind.i64.wrap (jp : Int) = (jp : Int) := by rw [IntKind.wrap_i64]; omega
     have mixed : Tryz.prog.follows .mixedOrders = true := by kernel_rfl
     clear harr hi e0 hX hZ
     by_cases hyx : y.key < x.key
     ·rw [cmpK_neg hyx] at hc
      go_wp2_with fail
      go_quiet_grown (first | (go_at_call 153; exact hc _ _))
      have hA2 := HA.out.grown nq osq
      have hG2 := only_grow HG.out nq osq
      clear c1 c2 c3 c4 hc
      generalize grow (wr.drewN nq) osq = wq at *
      obtain ⟨⟨a1,a2,a3,a4⟩,⟨f1,f2,f3,f4⟩,⟨n1,n2,n3,n4,n5,n6,n7,n8,n9,n10⟩,_,HS2⟩ := swap_facts hA2 (i := jp) (j := jp + 1) HI.out rfl
      have HG2 := hid hG2
      have HK := hid hyx
      clear hA2 hG2 hyx
      go_wp2_with fail
      go_region
      go_wp2
      go_roundw
      case rel =>
       have hx := HX.out
       have hz := HZL.out
       simp at hx
       refine ⟨jp,X',y,x :: Z,by go_num,by omega,by rw [List.length_cons]; omega,by simpa using HS.out,?_,?_,by have := HLEN.out; simp at this ⊢; omega,?_,only_drewN (four_on HG2.out _ _ _ _ _ _ _ _) 1⟩
       ·intro z hz
        rcases List.mem_cons.1 hz with rfl | hz
        ·exact HK.out
        ·exact HZ.out z hz
       ·have h1 := HT.out
        have h2 := St.swap2 HK.out X' (Z ++ E')
        have e1 : X' ++ [x] ++ y :: Z ++ E' = X' ++ x :: y :: (Z ++ E') := by simp
        have e2 : X' ++ y :: x :: Z ++ E' = X' ++ y :: x :: (Z ++ E') := by simp
        rw [e1] at h1
        rw [e2]
        exact h1.trans h2
       ·have e1 : P ++ X' ++ y :: x :: Z ++ E' ++ R = (P ++ X') ++ y :: [] ++ x :: (Z ++ E' ++ R) := by simp
        rw [e1]
        exact HS2.out
      case measure => simp [RowKit.intOf]
     ·have hk2 : ¬ cmpK y.key x.key < 0 := fun h => hyx (cmpK_lt.1 h)
      go_wp2_with fail
      go_quiet_grown (first | (go_at_call 153; exact hc _ _))
      go_wp2
      go_roundw
      case rel =>
       have hx := HX.out
       have hz := HZL.out
       simp at hx
       refine ⟨k + 1,X' ++ [x] ++ y :: Z,E',by go_num,.inl (by simp; omega),by omega,ins_done HS.out HZ.out (.inr ⟨X',x,rfl,by omega⟩),HT.out,HLEN.out,?_,only_grow HG.out _ _⟩
       have e1 : P ++ (X' ++ [x] ++ y :: Z) ++ E' ++ R = (P ++ X') ++ x :: [] ++ y :: (Z ++ E' ++ R) := by simp
       rw [e1]
       exact HA.out.grown _ _
      case measure => simp [RowKit.intOf]; omega
  ·go_wp2
   go_end0
   have hE : E = [] := by
    rcases hD with h | ⟨_,h,_⟩
    ·exact List.eq_nil_of_length_eq_zero (by omega)
    ·exact h
   subst hE
   exact ⟨rfl,HG.out,D,HS.out,by simpa using HT.out,by simpa using HLEN.out,by simpa using HA.out⟩
end Idx
end Go.Proofs.YtefnmnpfecfdaaaGreat
