/-
  Texts of one proof: WalMem.
-/
import Derived.Test.YtefnmnpfecfdaaaGreatPk20
import Derived.Test.YtefnmnpfecfdaaaGreatPk09
set_option linter.all false
set_option maxRecDepth 100000
set_option maxHeartbeats 200000
namespace Go.Proofs.YtefnmnpfecfdaaaGreat
namespace Wal
open Go.RowKit Base WalMath
open Disk (DiskAt I64 Fits)
open Foot (Turn Out)
open DiskMath (Fl Dk)
structure Sp where
 A : Option Addr
 c : Nat
def Sp.row (q : Sp) : Option Nat := q.A.map (·.block)
def sgv (x : Sg × Sp) : List Value := [.int .i64 x.1.file,.int .i64 x.1.first,.slice x.2.A x.1.rows.length x.2.c,.int .i64 x.1.size]
def flat (l : List (Sg × Sp)) : List Value := l.flatMap sgv
theorem flat_cons (x : Sg × Sp) (l : List (Sg × Sp)) : flat (x :: l) = sgv x ++ flat l := List.flatMap_cons
theorem flat_append (l m : List (Sg × Sp)) : flat (l ++ m) = flat l ++ flat m := List.flatMap_append
theorem flat_snoc (l : List (Sg × Sp)) (x : Sg × Sp) : flat (l ++ [x]) = flat l ++ sgv x := by rw [flat_append,flat_cons]; simp [flat]
theorem flat_length (l : List (Sg × Sp)) : (flat l).length = l.length * 4 := by
 induction l with
 | nil => rfl
 | cons x l ih => rw [flat_cons,List.length_append,ih,List.length_cons]; simp [sgv]; omega
theorem flat_get : ∀ {l : List (Sg × Sp)} {i : Nat} {x : Sg × Sp},l[i]? = some x -> ∀ j,j < 4 -> (flat l)[i * 4 + j]? = (sgv x)[j]?
 | [],_,_,h,_,_ => by simp at h
 | y :: l,0,x,h,j,hj => by
   simp only [List.getElem?_cons_zero,Option.some.injEq] at h
   subst h
   rw [flat_cons,List.getElem?_append_left (by simp [sgv]; omega)]
   congr 1
   omega
 | y :: l,i + 1,x,h,j,hj => by
   rw [List.getElem?_cons_succ] at h
   rw [flat_cons,List.getElem?_append_right (by simp [sgv]; omega),show (i + 1) * 4 + j - (sgv y).length = i * 4 + j by simp [sgv]; omega]
   exact flat_get h j hj
theorem sgv_one (l : List (Sg × Sp)) : ∀ u ∈ flat l,u.oneCell' = true := by
 intro u hu
 obtain ⟨x,_,hx⟩ := List.mem_flatMap.1 hu
 simp only [sgv,List.mem_cons,List.not_mem_nil,or_false] at hx
 rcases hx with rfl | rfl | rfl | rfl <;> rfl
def Apart (l : List (Sg × Sp)) : Prop := l.Pairwise fun x y => x.2.row = none \/ x.2.row ≠ y.2.row
def SegsAt (G : Nat -> Prop) (w : World) (A : Option Addr) (n c : Nat) (qs : List (Sg × Sp)) : Prop :=
 w.ownsRow 0 172 4 (.slice A n c) n (flat qs) /\ (∀ b,(Value.slice A n c).ownBlock = some b -> G b) /\ (∀ x ∈ qs,ListsIn w G x.2.A x.1.rows.length x.2.c x.1.rows) /\ Apart qs
def leftV (lp : Option Nat) : Value := .pointer (lp.map fun b => ⟨b,0,none⟩)
def LeftAt (G : Nat -> Prop) (w : World) : Option Nat -> Option Pc -> Prop
 | none,none => True
 | some b,some p => Blk w b 244 #[.int .i64 p.file,.int .i64 p.had,.bool p.begins] /\ G b
 | _,_ => False
def Laid (G : Nat -> Prop) (w : World) (g gd : Nat) (l : Lg) (A : Option Addr) (n c : Nat) (qs : List (Sg × Sp)) (lp : Option Nat) : Prop :=
 qs.map (·.1) = l.segs /\ Blk w g 107 #[.slice A n c,.pointer (some ⟨gd,0,none⟩),.int .i64 l.base,.int .i64 l.size,leftV lp] /\ G g /\ SegsAt G w A n c qs /\ LeftAt G w lp l.left
def LogAt (G : Nat -> Prop) (w : World) (g gd : Nat) (l : Lg) : Prop := ∃ A n c qs lp,Laid G w g gd l A n c qs lp
section
variable {G G' : Nat -> Prop} {w w' : World} {g gd n c : Nat} {l : Lg} {A : Option Addr} {qs : List (Sg × Sp)} {lp : Option Nat}
theorem own_lt {e : TypeId} {size : Nat} {v : Value} {xs : List Value} {base : Nat} (h : w.ownsRow base e size v n xs) {b : Nat} (hb : v.ownBlock = some b) : b < w.heap.size := (h.lt b hb).2
theorem SegsAt.len (h : SegsAt G w A n c qs) : qs.length = n := by
 have := h.1.1
 rw [flat_length] at this
 omega
theorem SegsAt.keep (h : SegsAt G w A n c qs) (hz : w.heap.size <= w'.heap.size) (hk : ∀ i,i < w.heap.size -> G i -> w'.heap[i]? = w.heap[i]?) : SegsAt G w' A n c qs :=
 ⟨Foot.own_same h.1 fun b hb => hk b (own_lt h.1 hb) (h.2.1 b hb),h.2.1,fun x hx => (h.2.2.1 x hx).keep hz fun b hb hlt => hk b hlt hb,h.2.2.2⟩
theorem LeftAt.keep {left : Option Pc} (h : LeftAt G w lp left) (hk : ∀ i,i < w.heap.size -> G i -> w'.heap[i]? = w.heap[i]?) : LeftAt G w' lp left := by
 cases lp with
 | none => cases left <;> exact h
 | some b =>
   cases left with
   | none => exact h
   | some p => exact ⟨(hk b h.1.lt h.2).trans h.1,h.2⟩
theorem Laid.keep (h : Laid G w g gd l A n c qs lp) (hz : w.heap.size <= w'.heap.size) (hk : ∀ i,i < w.heap.size -> G i -> w'.heap[i]? = w.heap[i]?) : Laid G w' g gd l A n c qs lp :=
 ⟨h.1,(hk g h.2.1.lt h.2.2.1).trans h.2.1,h.2.2.1,h.2.2.2.1.keep hz hk,h.2.2.2.2.keep hk⟩
theorem Laid.mono (h : Laid G w g gd l A n c qs lp) (hG : ∀ i,G i -> G' i) : Laid G' w g gd l A n c qs lp := by
 refine ⟨h.1,h.2.1,hG _ h.2.2.1,⟨h.2.2.2.1.1,fun b hb => hG b (h.2.2.2.1.2.1 b hb),fun x hx => (h.2.2.2.1.2.2.1 x hx).mono hG,h.2.2.2.1.2.2.2⟩,?_⟩
 have := h.2.2.2.2
 revert this
 cases lp <;> cases l.left <;> intro h <;> first
  | exact h
  | exact ⟨h.1,hG _ h.2⟩
theorem Laid.new (h : Laid G w g gd l A n c qs lp) (hb : Below w.heap.size w w') : Laid G w' g gd l A n c qs lp := h.keep hb.size fun i hi _ => hb.block i hi
theorem LogAt.keep (h : LogAt G w g gd l) (hz : w.heap.size <= w'.heap.size) (hk : ∀ i,i < w.heap.size -> G i -> w'.heap[i]? = w.heap[i]?) : LogAt G w' g gd l := by
 obtain ⟨A,n,c,qs,lp,h⟩ := h
 exact ⟨A,n,c,qs,lp,h.keep hz hk⟩
theorem LogAt.new (h : LogAt G w g gd l) (hb : Below w.heap.size w w') : LogAt G w' g gd l := h.keep hb.size fun i hi _ => hb.block i hi
theorem LogAt.turn {F : Nat -> Prop} (h : LogAt G w g gd l) (hb : Turn F w w') (hn : ∀ i,G i -> ¬ F i) : LogAt G w' g gd l := h.keep hb.size fun i hi hg => hb.block i hi (hn i hg)
theorem LogAt.lt (h : LogAt G w g gd l) : g < w.heap.size := by
 obtain ⟨A,n,c,qs,lp,h⟩ := h
 exact h.2.1.lt
theorem Laid.len (h : Laid G w g gd l A n c qs lp) : l.segs.length = n := by
 have h1 := h.2.2.2.1.len
 rw [<- h.1,List.length_map]
 exact h1
theorem Laid.at_ (h : Laid G w g gd l A n c qs lp) {k : Nat} {s : Sg} (hs : l.segs[k]? = some s) :
 ∃ b q,A = some ⟨b,0,none⟩ /\ qs[k]? = some (s,q) /\ G b /\ b < w.heap.size /\ k < n /\ (n <= c /\ c <= 9223372036854775807) /\ ListsIn w G q.A s.rows.length q.c s.rows /\
   w.cell? ⟨b,k * 4,none⟩ = some (.int .i64 s.file) /\ w.cell? ⟨b,k * 4 + 1,none⟩ = some (.int .i64 s.first) /\ w.cell? ⟨b,k * 4 + 2,none⟩ = some (.slice q.A s.rows.length q.c) /\ w.cell? ⟨b,k * 4 + 3,none⟩ = some (.int .i64 s.size) := by
 have hk : k < n := by
  have := (List.getElem?_eq_some_iff.1 hs).1
  rw [h.len] at this
  exact this
 rw [<- h.1,List.getElem?_map] at hs
 cases hq : qs[k]? with
 | none => rw [hq] at hs; cases hs
 | some x =>
   rw [hq] at hs
   obtain ⟨s',q⟩ := x
   obtain rfl : s' = s := Option.some.inj hs
   obtain ⟨hown,hG,hE,_⟩ := h.2.2.2.1
   have hrow := Row.of_own hown
   obtain ⟨b,off,e,hb,hc⟩ := hrow.2.2.2 (by omega)
   have e0 : off = 0 := by
    rcases hown.2 with ⟨hv,_⟩ | ⟨b',cap,cur,hv,_⟩
    ·simp only [Value.slice.injEq] at hv; omega
    ·simp only [Value.slice.injEq] at hv
     rw [e] at hv
     have := hv.1
     injection this with this
     injection this
   subst e0
   have hcell : ∀ j,j < 4 -> ∀ u,(sgv (s',q))[j]? = some u -> w.cell? ⟨b,k * 4 + j,none⟩ = some u := fun j hj u hu => by
    have := hc (k * 4 + j) u (by rw [flat_get hq j hj]; exact hu)
    rwa [Nat.zero_add] at this
   exact ⟨b,q,e,rfl,hG b (by rw [e]; rfl),hb,hk,hrow.le,hE _ (List.mem_of_getElem? hq),hcell 0 (by omega) _ rfl,hcell 1 (by omega) _ rfl,hcell 2 (by omega) _ rfl,hcell 3 (by omega) _ rfl⟩
theorem Laid.cells (h : Laid G w g gd l A n c qs lp) : w.cell? ⟨g,0,none⟩ = some (.slice A n c) /\ w.cell? ⟨g,1,none⟩ = some (.pointer (some ⟨gd,0,none⟩)) /\ w.cell? ⟨g,2,none⟩ = some (.int .i64 l.base) /\ w.cell? ⟨g,3,none⟩ = some (.int .i64 l.size) /\ w.cell? ⟨g,4,none⟩ = some (leftV lp) :=
 ⟨h.2.1.cell 0,h.2.1.cell 1,h.2.1.cell 2,h.2.1.cell 3,h.2.1.cell 4⟩
end
def SgOk (s : Sg) : Prop := 0 <= s.file /\ s.file < 16384 /\ 1 <= s.first /\ last s <= 1099511627776 /\ s.size <= 35184372088832 /\ ∀ p ∈ s.rows,p.length <= 1048576
def Ok (l : Lg) : Prop := 0 <= l.base /\ l.base <= 12288 /\ 64 <= l.size /\ l.size <= 65536 /\ ∀ s ∈ l.segs,SgOk s
theorem SgOk.bd {s : Sg} (h : SgOk s) : s.rows.length <= 1099511627776 /\ s.first <= 1099511627777 := by
 obtain ⟨_,_,h1,h2,_⟩ := h
 unfold last at h2
 omega
theorem hd_bd {l : List Sg} (h : ∀ s ∈ l,SgOk s) : 0 <= hd l /\ hd l <= 1099511627776 := by
 unfold hd
 cases hs : l.getLast? with
 | none => simp
 | some s =>
   have := h s (List.mem_of_getLast? hs)
   obtain ⟨_,_,h1,h2,_⟩ := this
   refine ⟨?_,h2⟩
   show 0 <= last s
   unfold last
   omega
def Both (T : Nat -> Prop) (w : World) (g gd : Nat) (l : Lg) (d : Dk) : Prop :=
 ∃ F G,DiskAt F w gd d /\ LogAt G w g gd l /\ (∀ i,F i -> ¬ G i) /\ (∀ i,F i -> T i /\ i < w.heap.size) /\ ∀ i,G i -> T i /\ i < w.heap.size
def New (T : Nat -> Prop) (w : World) : Prop := ∀ i,w.heap.size <= i -> T i
section
variable {T : Nat -> Prop} {w w' w'' : World} {g gd : Nat} {l l' : Lg} {d d' : Dk}
theorem New.le (h : New T w) (hz : w.heap.size <= w'.heap.size) : New T w' := fun i hi => h i (Nat.le_trans hz hi)
theorem Both.new (h : Both T w g gd l d) (hb : Below w.heap.size w w') : Both T w' g gd l d := by
 obtain ⟨F,G,h1,h2,h3,h4,h5⟩ := h
 exact ⟨F,G,h1.new hb,h2.new hb,h3,fun i hi => ⟨(h4 i hi).1,Nat.lt_of_lt_of_le (h4 i hi).2 hb.size⟩,fun i hi => ⟨(h5 i hi).1,Nat.lt_of_lt_of_le (h5 i hi).2 hb.size⟩⟩
theorem Both.disk (h : Both T w g gd l d) (hT : New T w) : ∃ F,DiskAt F w gd d /\ (∀ i,F i -> T i /\ i < w.heap.size) /\ Hid (∀ w' d',DiskAt (Out F w w') w' gd d' -> Turn F w w' -> Both T w' g gd l d' /\ Turn T w w') := by
 obtain ⟨F,G,h1,h2,h3,h4,h5⟩ := h
 refine ⟨F,h1,h4,fun w' d' hd ht => ⟨⟨Out F w w',G,hd,h2.turn ht fun i hi hf => h3 i hf hi,fun i hi hg => ?_,fun i hi => ?_,fun i hi => ⟨(h5 i hi).1,Nat.lt_of_lt_of_le (h5 i hi).2 ht.size⟩⟩,ht.mono fun i hi => (h4 i hi).1⟩⟩
 ·rcases hi with hi | hi
  ·exact h3 i hi hg
  ·have := (h5 i hg).2
   omega
 ·rcases hi with hi | hi
  ·exact ⟨(h4 i hi).1,Nat.lt_of_lt_of_le (h4 i hi).2 ht.size⟩
  ·exact ⟨hT i hi.1,hi.2⟩
theorem Both.log {F G G' : Nat -> Prop} (hd : DiskAt F w gd d) (hF : ∀ i,F i -> T i /\ i < w.heap.size) (hFG : ∀ i,F i -> ¬ G i) (hG : ∀ i,G i -> T i /\ i < w.heap.size) (hT : New T w) (ht : Turn G w w') (hl : LogAt G' w' g gd l') (hG' : ∀ i,G' i -> G i \/ (w.heap.size <= i /\ i < w'.heap.size)) :
 Both T w' g gd l' d /\ Turn T w w' := by
 refine ⟨⟨F,G',hd.turn ht hFG,hl,fun i hi hg => ?_,fun i hi => ⟨(hF i hi).1,Nat.lt_of_lt_of_le (hF i hi).2 ht.size⟩,fun i hi => ?_⟩,ht.mono fun i hi => (hG i hi).1⟩
 ·rcases hG' i hg with h | h
  ·exact hFG i hi h
  ·have := (hF i hi).2
   omega
 ·rcases hG' i hi with h | h
  ·exact ⟨(hG i h).1,Nat.lt_of_lt_of_le (hG i h).2 ht.size⟩
  ·exact ⟨hT i h.1,h.2⟩
end
end Wal
namespace Wal
open Go.RowKit Base WalMath
open Disk (DiskAt I64 Fits)
open Foot (Turn Out own_same own_type)
open DiskMath (Fl Dk)
theorem sg : Elem Tryz.prog 102 172 4 48 (.agg #[.int .i64 0,.int .i64 0,.slice none 0 0,.int .i64 0]) := Elem.of Tryz.underlying102 (by kernel_rfl) rfl (by omega)
theorem ls : Elem Tryz.prog 81 68 1 24 (.slice none 0 0) := Elem.of Tryz.underlying81 (by kernel_rfl) rfl (by omega)
theorem kept_type {w w' : World} {row : Option Nat} {e : TypeId} (hg : w.grownBy w' row) (hr : ∀ b,row = some b -> ∃ cs,w.heap[b]? = some (.cells cs e (0,0))) {i : Nat} {cur : Array Value} {e' : TypeId} (hne : e' ≠ e) (hi : w.heap[i]? = some (.cells cur e' (0,0))) : w'.heap[i]? = some (.cells cur e' (0,0)) := by
 refine (hg.block i (Array.getElem?_eq_some_iff.1 hi).1 fun h => ?_).trans hi
 obtain ⟨cs,hc⟩ := hr i h.symm
 rw [hi] at hc
 injection hc with hc
 injection hc with _ h3
 exact hne h3
section
variable {w w' : World} {S : Nat -> Prop} {n c : Nat} {A : Option Addr} {ls : List (List UInt8)}
theorem ListsIn.keep2 (h : ListsIn w S A n c ls) (hz : w.heap.size <= w'.heap.size) (hm : ∀ (b : Nat) (cur : Array Value),A.map (·.block) = some b -> w.heap[b]? = some (.cells cur 68 (0,0)) -> w'.heap[b]? = w.heap[b]?) (he : ∀ (b : Nat) (cur : Array Value),w.heap[b]? = some (.cells cur 5 (0,0)) -> w'.heap[b]? = w.heap[b]?) : ListsIn w' S A n c ls := by
 obtain ⟨vs,h1,h0,h2,h3,h6⟩ := h
 have hA : ∀ b off,A = some ⟨b,off,none⟩ -> w'.heap[b]? = w.heap[b]? := fun b off e => by
  rcases h6 with ⟨e',_⟩ | ⟨b',off',cur,e',_,hc,_⟩
  ·rw [e] at e'; cases e'
  ·rw [e] at e'
   injection e' with e'
   injection e' with e1 e2
   subst e1
   exact hm b cur (by rw [e]; rfl) hc
 refine ⟨vs,Row.same h1 fun hn b off e hb => ⟨Nat.lt_of_lt_of_le hb hz,hA b off e⟩,h0,h2,fun i v l hv hl => ?_,?_⟩
 ·obtain ⟨A',n',c',e',h4,h5,h7⟩ := h3 i v l hv hl
  refine ⟨A',n',c',e',Bytes.same h4 fun hn b off e hb => ⟨Nat.lt_of_lt_of_le hb hz,?_⟩,h5,fun hn b off e => ?_⟩
  ·obtain ⟨cur,hc⟩ := h7 hn b off e
   exact he b cur hc
  ·obtain ⟨cur,hc⟩ := h7 hn b off e
   exact ⟨cur,(he b cur hc).trans hc⟩
 ·rcases h6 with h | ⟨b,off,cur,e,hs,hc,hl⟩
  ·exact .inl h
  ·exact .inr ⟨b,off,cur,e,hs,(hA b off e).trans hc,hl⟩
theorem ListsIn.row_lt (h : ListsIn w S A n c ls) {b : Nat} (hb : A.map (·.block) = some b) : S b /\ ∃ cur,w.heap[b]? = some (.cells cur 68 (0,0)) := by
 obtain ⟨vs,h1,h0,h2,h3,h6⟩ := h
 rcases h6 with ⟨e',_⟩ | ⟨b',off',cur,e',hs,hc,_⟩
 ·rw [e'] at hb; cases hb
 ·rw [e'] at hb
  injection hb with hb
  subst hb
  exact ⟨hs,cur,hc⟩
end
def Entered (w : World) (S : Nat -> Prop) (A : Option Addr) (n : Nat) (ls : List (List UInt8)) (p : List UInt8) (A' : Option Addr) (c' : Nat) (w' : World) : Prop :=
 ListsIn w' (fun i => S i \/ (w.heap.size <= i /\ i < w'.heap.size)) A' (n + 1) c' (ls ++ [p]) /\ w.grownBy w' (A.map (·.block)) /\ (A'.map (·.block) = A.map (·.block) \/ ∀ b,A'.map (·.block) = some b -> w.heap.size <= b)
theorem run_append_lists (w : World) (ty : TypeId) {S : Nat -> Prop} {n c : Nat} {A : Option Addr} {l : List (List UInt8)} (h : ListsIn w S A n c l) {base : Nat} {A1 : Option Addr} {n1 c1 : Nat} {p : List UInt8} (hown : w.ownsRow base 5 1 (.slice A1 n1 c1) n1 (bv p)) (hS : ∀ b,(Value.slice A1 n1 c1).ownBlock = some b -> S b)
 {B : Nat} {ad : Addr} (hr : Row w B 1 (some ad) 1 1 [.slice A1 n1 c1]) (hn : n <= 1099511627776) :
 ∃ A' c' w',(Builtin.append_ #[81,81] ty #[.slice A n c,.slice (some ad) 1 1]).run Tryz.prog w = .ok (.slice A' (n + 1) c') w' /\ Entered w S A n l p A' c' w' := by
 obtain ⟨i0,ht,hi,hz,hsz,hby,hzs,hs0⟩ := ls
 have h0 := h
 obtain ⟨vs,h1,hL,h2,h3,h6⟩ := h
 have hvn : vs.length = n := by have := h1.len; omega
 obtain ⟨bb,oo,hbo,hbB,hcc⟩ := hr.2.2.2 (by omega)
 injection hbo with hbo
 subst hbo
 have hcells : ∀ j u,[Value.slice A1 n1 c1][j]? = some u -> w.cell? ((⟨bb,oo,none⟩ : Addr).add j) = some u := fun j u hu => by rw [add_none]; exact hcc j u hu
 -- the elements of the new row,if the old blocks stand
 have helem : ∀ (w' : World) (S' : Nat -> Prop),w.heap.size <= w'.heap.size -> (∀ (b : Nat) (cur : Array Value),w.heap[b]? = some (.cells cur 5 (0,0)) -> w'.heap[b]? = w.heap[b]?) -> (∀ b,S b -> S' b) ->
  ∀ (j : Nat) v x,(vs ++ [.slice A1 n1 c1])[j]? = some v -> (l ++ [p])[j]? = some x -> ∃ A' n' c',v = .slice A' n' c' /\ Bytes w' w'.heap.size A' n' c' x /\ Lies S' A' n' /\ Typed w' A' n' := by
  intro w' S' hz he hSS j v x hv hx
  have key : ∀ (A' : Option Addr) (n' c' : Nat) (y : List UInt8),Bytes w w.heap.size A' n' c' y -> Lies S A' n' -> Typed w A' n' -> Bytes w' w'.heap.size A' n' c' y /\ Lies S' A' n' /\ Typed w' A' n' := fun A' n' c' y k1 k2 k3 => by
   refine ⟨Bytes.same k1 fun hn b off e hb => ⟨Nat.lt_of_lt_of_le hb hz,?_⟩,k2.mono hSS,fun hn b off e => ?_⟩
   ·obtain ⟨cur,hc⟩ := k3 hn b off e
    exact he b cur hc
   ·obtain ⟨cur,hc⟩ := k3 hn b off e
    exact ⟨cur,(he b cur hc).trans hc⟩
  by_cases hj : j < n
  ·rw [List.getElem?_append_left (by omega)] at hv hx
   obtain ⟨A',n',c',e',k1,k2,k3⟩ := h3 j v x hv hx
   exact ⟨A',n',c',e',key A' n' c' x k1 k2 k3⟩
  ·rw [List.getElem?_append_right (by omega)] at hv hx
   have hj0 : j - vs.length = 0 := by
    have := (List.getElem?_eq_some_iff.1 hv).1
    simp at this
    omega
   have hj1 : j - l.length = 0 := by omega
   rw [hj0] at hv
   rw [hj1] at hx
   simp only [List.getElem?_cons_zero,Option.some.injEq] at hv hx
   subst hv hx
   refine ⟨A1,n1,c1,rfl,key A1 n1 c1 p (Bytes.of_own hown) (fun hn b off e => hS b (by rw [e]; rfl)) (Typed.own hown)⟩
 by_cases hroom : n + 1 <= c
 ·rcases h6 with ⟨_,e2⟩ | ⟨b,off,cur,rfl,hSb,hb,hle⟩
  ·omega
  have hcell : ∀ j,(w.cell? ⟨b,j,none⟩) = cur[j]? := fun j => cell_of_row w b j cur _ (0,0) hb
  have hrun := run_append_room_cells (P := Tryz.prog) w 81 ty 68 i0 ht hi b off n c ⟨bb,oo,none⟩ 1 1 [.slice A1 n1 c1] (by rw [hsz]; rfl) hcells (slices_one _ _ _) hroom
   (fun j hj => by
     simp at hj
     subst hj
     rw [hsz,hcell,Array.getElem?_eq_getElem (by omega)]
     rfl) (fun j hj => by
     unfold World.frozen?
     simp [hb])
  rw [hsz,Nat.mul_one] at hrun
  refine ⟨_,_,_,hrun,?_⟩
  show Entered w S _ n l p _ c (w.setCell ⟨b,off + n,none⟩ (.slice A1 n1 c1))
  have hheap : ∀ i,i ≠ b -> (w.setCell ⟨b,off + n,none⟩ (.slice A1 n1 c1)).heap[i]? = w.heap[i]? := fun i hi => Below.heap_setCell _ _ _ _ hi
  have hb' : (w.setCell ⟨b,off + n,none⟩ (.slice A1 n1 c1)).heap[b]? = some (.cells (cur.setIfInBounds (off + n) (.slice A1 n1 c1)) 68 (0,0)) := heap_setCell_same w b (off + n) cur _ _ hb
  have hbt : ∀ (i : Nat) (cs : Array Value),w.heap[i]? = some (.cells cs 5 (0,0)) -> i ≠ b := fun i cs hi e => by
   rw [e,hb] at hi
   injection hi with hi
   injection hi with _ h3
   exact absurd h3 (by decide)
  refine ⟨⟨vs ++ [.slice A1 n1 c1],⟨by rw [List.length_append,hvn]; simp,hroom,h1.le.2,fun _ => ⟨b,off,rfl,by rw [World.size_setCell]; exact (Array.getElem?_eq_some_iff.1 hb).1,fun j u hu => ?_⟩⟩,fun _ b' off' e => ?_,by rw [List.length_append,List.length_append,h2]; rfl,helem _ _ (by simp) (fun i cs hi => hheap i (hbt i cs hi)) (fun b hb => .inl hb),.inr ⟨b,off,_,rfl,.inl hSb,hb',by simpa using hle⟩⟩,?_,.inl rfl⟩
  ·by_cases hj : j < n
   ·rw [List.getElem?_append_left (by omega)] at hu
    rw [World.cell?_setCell_other _ _ _ _ (by simp only [ne_eq,Addr.mk.injEq,not_and]; omega)]
    obtain ⟨b'',off'',e,_,hc''⟩ := h1.2.2.2 (by omega)
    injection e with e
    injection e with e1 e2
    subst e1 e2
    exact hc'' j u hu
   ·rw [List.getElem?_append_right (by omega)] at hu
    have hj0 : j = n := by
     have := (List.getElem?_eq_some_iff.1 hu).1
     simp at this
     omega
    subst hj0
    rw [show j - vs.length = 0 by omega,List.getElem?_cons_zero] at hu
    injection hu with hu
    subst hu
    rw [cell_of_row _ b (off + j) _ _ (0,0) hb',Array.getElem?_setIfInBounds,if_pos rfl,if_pos (by omega)]
  ·injection e with e
   injection e with e1 e2
   subst e1
   exact .inl hSb
  ·exact ⟨rfl,rfl,rfl,by simp,fun i _ hne => hheap i fun e => hne (by rw [e]; rfl)⟩
 ·have hgrow : ∃ v' w',(Builtin.append_ #[81,81] ty #[.slice A n c,.slice (some ⟨bb,oo,none⟩) 1 1]).run Tryz.prog w = .ok v' w' /\ w'.ownsRow w.heap.size 68 1 v' (n + 1) (vs ++ [.slice A1 n1 c1]) /\ w.grownBy w' none := by
   rcases h6 with ⟨rfl,rfl⟩ | ⟨b,off,cur,rfl,hSb,hb,hle⟩
   ·obtain rfl : n = 0 := by have := h1.le; omega
    obtain rfl : vs = [] := List.eq_nil_of_length_eq_zero hvn
    obtain ⟨v',w',hrun,r1,r2,_⟩ := run_append_own (P := Tryz.prog) w w.heap.size 81 ty 68 i0 _ 1 24 ht hi hz hsz hby hzs hs0 (.slice none 0 0) 0 [] (World.ownsRow_nil w _ _ 1) ⟨bb,oo,none⟩ 1 1 [.slice A1 n1 c1] rfl hcells (slices_one _ _ _) (by unfold maxLen; omega) (by omega) (Nat.le_refl _)
    exact ⟨v',w',hrun,r1,r2⟩
   ·refine run_append_arg_grows (P := Tryz.prog) w 81 ty 68 i0 _ 1 24 ht hi hz hsz hby hzs hs0 ⟨b,off,none⟩ n c vs (by omega) (fun j u hu => ?_) ⟨bb,oo,none⟩ 1 1 [.slice A1 n1 c1] rfl hcells (by omega) (by unfold maxLen; omega) (by omega)
    rw [add_none]
    have hn0 : 0 < n := by
     have := (List.getElem?_eq_some_iff.1 hu).1
     omega
    obtain ⟨b'',off'',e,_,hc''⟩ := h1.2.2.2 hn0
    injection e with e
    injection e with e1 e2
    subst e1 e2
    exact hc'' j u hu
  obtain ⟨v',w',hrun,hown',hg'⟩ := hgrow
  obtain ⟨A',c',rfl⟩ := own_slice hown'
  have hblk : ∀ i,i < w.heap.size -> w'.heap[i]? = w.heap[i]? := fun i hi => hg'.block i hi (by simp)
  have hnew : ∀ b,A'.map (·.block) = some b -> w.heap.size <= b /\ b < w'.heap.size := fun b hb => by
   have : (Value.slice A' (n + 1) c').ownBlock = some b := by cases A' <;> exact hb
   exact hown'.lt b this
  refine ⟨A',c',w',hrun,⟨vs ++ [.slice A1 n1 c1],Row.of_own hown',fun _ b off e => .inr (hnew b (by rw [e]; rfl)),by rw [List.length_append,List.length_append,h2]; rfl,helem _ _ hg'.size (fun b cur hb => hblk b (Array.getElem?_eq_some_iff.1 hb).1) (fun b hb => .inl hb),?_⟩,⟨hg'.os,hg'.tape,hg'.output,hg'.size,fun i hi _ => hblk i hi⟩,.inr fun b hb => (hnew b hb).1⟩
  rcases Backed.own hown' with h | ⟨b,off,cur,e,hs,hc,hl⟩
  ·exact .inl h
  ·exact .inr ⟨b,off,cur,e,.inr ⟨hs,(Array.getElem?_eq_some_iff.1 hc).1⟩,hc,hl⟩
theorem LeftAt.keepT {G : Nat -> Prop} {w w' : World} {lp : Option Nat} {left : Option Pc} (h : LeftAt G w lp left) (hk : ∀ (i : Nat) (cur : Array Value),w.heap[i]? = some (.cells cur 244 (0,0)) -> w'.heap[i]? = w.heap[i]?) : LeftAt G w' lp left := by
 cases lp with
 | none => cases left <;> exact h
 | some b =>
   cases left with
   | none => exact h
   | some p => exact ⟨(hk b _ h.1).trans h.1,h.2⟩
theorem LeftAt.mono {G G' : Nat -> Prop} {w : World} {lp : Option Nat} {left : Option Pc} (h : LeftAt G w lp left) (hG : ∀ i,G i -> G' i) : LeftAt G' w lp left := by
 cases lp with
 | none => cases left <;> exact h
 | some b =>
   cases left with
   | none => exact h
   | some p => exact ⟨h.1,hG _ h.2⟩
theorem flat_set (l : List (Sg × Sp)) (x : Sg × Sp) (j : Nat) (v : Value) : (flat (l ++ [x])).set (l.length * 4 + j) v = flat l ++ (sgv x).set j v := by
 rw [flat_snoc,List.set_append_right _ _ (by rw [flat_length]; omega),flat_length,Nat.add_sub_cancel_left]
section
variable {G : Nat -> Prop} {w w1 : World} {g gd n c : Nat} {l : Lg} {A : Option Addr} {qs : List (Sg × Sp)} {lp : Option Nat}
theorem other_block {w : World} {p : Addr} {u : Value} {i : Nat} {cur cs : Array Value} {e e' : TypeId} (hp : w.heap[p.block]? = some (.cells cs e' (0,0))) (hi : w.heap[i]? = some (.cells cur e (0,0))) (hne : e ≠ e') : (w.setCell p u).heap[i]? = some (.cells cur e (0,0)) := by
 refine (Below.heap_setCell w p u i fun h => ?_).trans hi
 rw [h,hp] at hi
 injection hi with hi
 injection hi with _ h3
 exact hne h3.symm
theorem Laid.push (h : Laid G w g gd l A n c qs lp) {A' : Option Addr} {c' : Nat} {s : Sg} {q : Sp} (hown : w1.ownsRow 0 172 4 (.slice A' (n + 1) c') (n + 1) (flat qs ++ sgv (s,q))) (hg : Grew w (Value.slice A n c).ownBlock w1 (.slice A' (n + 1) c'))
 (hE : ListsIn w G q.A s.rows.length q.c s.rows) (hap : ∀ x ∈ qs,x.2.row = none \/ x.2.row ≠ q.row) :
 Laid (Out G w w1) (w1.setCell ⟨g,0,none⟩ (.slice A' (n + 1) c')) g gd { l with segs := l.segs ++ [s] } A' (n + 1) c' (qs ++ [(s,q)]) lp /\ Turn G w (w1.setCell ⟨g,0,none⟩ (.slice A' (n + 1) c')) := by
 obtain ⟨h1,h2,h3,⟨h4,h5,h6,h7⟩,h8⟩ := h
 have hk : ∀ (i : Nat) (cur : Array Value) (e : TypeId),e ≠ 172 -> w.heap[i]? = some (.cells cur e (0,0)) -> w1.heap[i]? = some (.cells cur e (0,0)) := fun i cur e hne hi => kept_type hg.1 (fun b hb => own_type h4 hb) hne hi
 have hbk : Blk w1 g 107 _ := hk g _ _ (by decide) h2
 have hk2 : ∀ (i : Nat) (cur : Array Value) (e : TypeId),e ≠ 172 -> e ≠ 107 -> w.heap[i]? = some (.cells cur e (0,0)) -> (w1.setCell ⟨g,0,none⟩ (.slice A' (n + 1) c')).heap[i]? = w.heap[i]? := fun i cur e hne hne2 hi => (other_block (p := ⟨g,0,none⟩) hbk (hk i cur e hne hi) hne2).trans hi.symm
 have hz : w.heap.size <= (w1.setCell ⟨g,0,none⟩ (.slice A' (n + 1) c')).heap.size := by simpa using hg.1.size
 refine ⟨⟨by rw [List.map_append,h1]; rfl,Blk.set_ hbk 0 _,.inl h3,⟨?_,fun b hb => ?_,fun x hx => ?_,?_⟩,(h8.keepT fun i cur hi => hk2 i cur _ (by decide) (by decide) hi).mono fun i hi => .inl hi⟩,(Turn.grown hg.1 h5).setCell (.inl h3) _⟩
 ·rw [flat_snoc]
  refine own_same hown fun b hb => ?_
  obtain ⟨cur,hc⟩ := own_type hown hb
  exact (other_block (p := ⟨g,0,none⟩) hbk hc (by decide)).trans hc.symm
 ·rcases hg.2 with e | e
  ·exact .inl (h5 b (by rw [<- e]; exact hb))
  ·exact .inr ⟨e b hb,(hown.lt b hb).2⟩
 ·have hL : ListsIn w G x.2.A x.1.rows.length x.2.c x.1.rows := by
   rcases List.mem_append.1 hx with hx | hx
   ·exact h6 x hx
   ·rw [List.mem_singleton] at hx
    subst hx
    exact hE
  exact (ListsIn.keep2 hL hz (fun b cur _ hb => hk2 b cur _ (by decide) (by decide) hb) (fun b cur hb => hk2 b cur _ (by decide) (by decide) hb)).mono fun i hi => .inl hi
 ·refine List.pairwise_append.2 ⟨h7,List.pairwise_singleton _ _,fun x hx y hy => ?_⟩
  rw [List.mem_singleton] at hy
  subst hy
  exact hap x hx
theorem Laid.entry {qp : List (Sg × Sp)} {s : Sg} {q : Sp} {b : Nat} {p : List UInt8} {A' : Option Addr} {c' : Nat} (h : Laid G w g gd l (some ⟨b,0,none⟩) n c (qp ++ [(s,q)]) lp) (he : Entered w G q.A s.rows.length s.rows p A' c' w1) :
 Laid (Out G w w1) (w1.setCell ⟨b,qp.length * 4 + 2,none⟩ (.slice A' (s.rows.length + 1) c')) g gd { l with segs := qp.map (·.1) ++ [{ s with rows := s.rows ++ [p] }] } (some ⟨b,0,none⟩) n c (qp ++ [({ s with rows := s.rows ++ [p] },⟨A',c'⟩)]) lp
  /\ Turn G w (w1.setCell ⟨b,qp.length * 4 + 2,none⟩ (.slice A' (s.rows.length + 1) c')) := by
 obtain ⟨h1,h2,h3,⟨h4,h5,h6,h7⟩,h8⟩ := h
 obtain ⟨hL',hg,hrow⟩ := he
 have hLq := h6 (s,q) (by simp)
 have hk : ∀ (i : Nat) (cur : Array Value) (e : TypeId),e ≠ 68 -> w.heap[i]? = some (.cells cur e (0,0)) -> w1.heap[i]? = some (.cells cur e (0,0)) := fun i cur e hne hi => kept_type hg (fun b hb => (ListsIn.row_lt hLq hb).2) hne hi
 have hown1 : w1.ownsRow 0 172 4 (.slice (some ⟨b,0,none⟩) n c) n (flat (qp ++ [(s,q)])) := own_same h4 fun i hi => by
  obtain ⟨cur,hc⟩ := own_type h4 hi
  exact (hk i cur _ (by decide) hc).trans hc.symm
 obtain ⟨cb,hcb⟩ := own_type hown1 (g := b) rfl
 have hb2 : ∀ (i : Nat) (cur : Array Value) (e : TypeId),e ≠ 172 -> w1.heap[i]? = some (.cells cur e (0,0)) -> (w1.setCell ⟨b,qp.length * 4 + 2,none⟩ (.slice A' (s.rows.length + 1) c')).heap[i]? = some (.cells cur e (0,0)) := fun i cur e hne hi => other_block (p := ⟨b,qp.length * 4 + 2,none⟩) hcb hi hne
 have hz : w.heap.size <= (w1.setCell ⟨b,qp.length * 4 + 2,none⟩ (.slice A' (s.rows.length + 1) c')).heap.size := by simpa using hg.size
 have hqG : ∀ i,q.A.map (·.block) = some i -> G i := fun i hi => (ListsIn.row_lt hLq hi).1
 have hst := (hown1.stored (qp.length * 4 + 2) (.slice A' (s.rows.length + 1) c')).1
 rw [flat_set] at hst
 refine ⟨⟨by rw [List.map_append]; rfl,hb2 g _ _ (by decide) (hk g _ _ (by decide) h2),.inl h3,⟨?_,fun i hi => .inl (h5 i hi),fun x hx => ?_,?_⟩,(h8.keepT fun i cur hi => (hb2 i cur _ (by decide) (hk i cur _ (by decide) hi)).trans hi.symm).mono fun i hi => .inl hi⟩,(Turn.grown hg hqG).setCell (.inl (h5 b rfl)) _⟩
 ·rw [flat_snoc]
  have e : (sgv (s,q)).set 2 (.slice A' (s.rows.length + 1) c') = sgv ({ s with rows := s.rows ++ [p] },⟨A',c'⟩) := by simp [sgv]
  rw [<- e]
  exact hst
 ·rcases List.mem_append.1 hx with hx | hx
  ·have hap := (List.pairwise_append.1 h7).2.2 x hx (s,q) (by simp)
   refine (ListsIn.keep2 (h6 x (by simp [hx])) hz (fun i cur hi hc => ?_) (fun i cur hc => ?_)).mono fun i hi => .inl hi
   ·refine (hb2 i cur _ (by decide) ?_).trans hc.symm
    refine (hg.block i (Array.getElem?_eq_some_iff.1 hc).1 fun e => ?_).trans hc
    rcases hap with h0 | h0
    ·unfold Sp.row at h0
     rw [hi] at h0
     cases h0
    ·exact h0 (hi.trans e)
   ·exact (hb2 i cur _ (by decide) (hk i cur _ (by decide) hc)).trans hc.symm
  ·rw [List.mem_singleton] at hx
   subst hx
   have hl : (s.rows ++ [p]).length = s.rows.length + 1 := by simp
   show ListsIn _ _ A' (s.rows ++ [p]).length c' (s.rows ++ [p])
   rw [hl]
   exact ListsIn.keep2 hL' (by simp) (fun i cur _ hc => (hb2 i cur _ (by decide) hc).trans hc.symm) (fun i cur hc => (hb2 i cur _ (by decide) hc).trans hc.symm)
 ·refine List.pairwise_append.2 ⟨(List.pairwise_append.1 h7).1,List.pairwise_singleton _ _,fun x hx y hy => ?_⟩
  rw [List.mem_singleton] at hy
  subst hy
  have hap := (List.pairwise_append.1 h7).2.2 x hx (s,q) (by simp)
  show x.2.row = none \/ x.2.row ≠ A'.map (·.block)
  rcases hrow with e | e
  ·rw [e]
   exact hap
  ·cases hxr : x.2.row with
   | none => exact .inl rfl
   | some i =>
     refine .inr fun e2 => ?_
     have a := e i e2.symm
     obtain ⟨_,cur,hc⟩ := ListsIn.row_lt (h6 x (by simp [hx])) (b := i) hxr
     have b := (Array.getElem?_eq_some_iff.1 hc).1
     omega
theorem Laid.sized {qp : List (Sg × Sp)} {s : Sg} {q : Sp} {b : Nat} (h : Laid G w g gd l (some ⟨b,0,none⟩) n c (qp ++ [(s,q)]) lp) (z : Nat) :
 Laid G (w.setCell ⟨b,qp.length * 4 + 3,none⟩ (.int .i64 z)) g gd { l with segs := qp.map (·.1) ++ [{ s with size := z }] } (some ⟨b,0,none⟩) n c (qp ++ [({ s with size := z },q)]) lp
  /\ Turn G w (w.setCell ⟨b,qp.length * 4 + 3,none⟩ (.int .i64 z)) := by
 obtain ⟨h1,h2,h3,⟨h4,h5,h6,h7⟩,h8⟩ := h
 obtain ⟨cb,hcb⟩ := own_type h4 (g := b) rfl
 have hb2 : ∀ (i : Nat) (cur : Array Value) (e : TypeId),e ≠ 172 -> w.heap[i]? = some (.cells cur e (0,0)) -> (w.setCell ⟨b,qp.length * 4 + 3,none⟩ (.int .i64 z)).heap[i]? = some (.cells cur e (0,0)) := fun i cur e hne hi => other_block (p := ⟨b,qp.length * 4 + 3,none⟩) hcb hi hne
 have hst := (h4.stored (qp.length * 4 + 3) (.int .i64 z)).1
 rw [flat_set] at hst
 have keep : ∀ x ∈ qp ++ [(s,q)],ListsIn (w.setCell ⟨b,qp.length * 4 + 3,none⟩ (.int .i64 z)) G x.2.A x.1.rows.length x.2.c x.1.rows := fun x hx => ListsIn.keep2 (h6 x hx) (by simp) (fun i cur _ hc => (hb2 i cur _ (by decide) hc).trans hc.symm) (fun i cur hc => (hb2 i cur _ (by decide) hc).trans hc.symm)
 refine ⟨⟨by rw [List.map_append]; rfl,hb2 g _ _ (by decide) h2,h3,⟨?_,h5,fun x hx => ?_,?_⟩,h8.keepT fun i cur hi => (hb2 i cur _ (by decide) hi).trans hi.symm⟩,(Turn.refl G w).setCell (.inl (h5 b rfl)) _⟩
 ·rw [flat_snoc]
  exact hst
 ·rcases List.mem_append.1 hx with hx | hx
  ·exact keep x (by simp [hx])
  ·rw [List.mem_singleton] at hx
   subst hx
   exact keep (s,q) (by simp)
 ·refine List.pairwise_append.2 ⟨(List.pairwise_append.1 h7).1,List.pairwise_singleton _ _,fun x hx y hy => ?_⟩
  rw [List.mem_singleton] at hy
  subst hy
  exact (List.pairwise_append.1 h7).2.2 x hx (s,q) (by simp)
theorem Laid.lefts (h : Laid G w g gd l A n c qs lp) {lp' : Option Nat} {left : Option Pc} (hl : LeftAt G w lp' left) :
 Laid G (w.setCell ⟨g,4,none⟩ (leftV lp')) g gd { l with left := left } A n c qs lp' /\ Turn G w (w.setCell ⟨g,4,none⟩ (leftV lp')) := by
 obtain ⟨h1,h2,h3,⟨h4,h5,h6,h7⟩,h8⟩ := h
 have hb2 : ∀ (i : Nat) (cur : Array Value) (e : TypeId),e ≠ 107 -> w.heap[i]? = some (.cells cur e (0,0)) -> (w.setCell ⟨g,4,none⟩ (leftV lp')).heap[i]? = some (.cells cur e (0,0)) := fun i cur e hne hi => other_block (p := ⟨g,4,none⟩) h2 hi hne
 refine ⟨⟨h1,Blk.set_ h2 4 _,h3,⟨own_same h4 fun i hi => ?_,h5,fun x hx => ?_,h7⟩,hl.keepT fun i cur hi => (hb2 i cur _ (by decide) hi).trans hi.symm⟩,(Turn.refl G w).setCell (.inl h3) _⟩
 ·obtain ⟨cur,hc⟩ := own_type h4 hi
  exact (hb2 i cur _ (by decide) hc).trans hc.symm
 ·exact ListsIn.keep2 (h6 x hx) (by simp) (fun i cur _ hc => (hb2 i cur _ (by decide) hc).trans hc.symm) (fun i cur hc => (hb2 i cur _ (by decide) hc).trans hc.symm)
end
end Wal
end Go.Proofs.YtefnmnpfecfdaaaGreat
