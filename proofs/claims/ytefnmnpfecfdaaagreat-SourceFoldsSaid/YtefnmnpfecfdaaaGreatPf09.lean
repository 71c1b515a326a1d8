/-
  Texts of one proof: Turn, Ints, Lists, RegionLast, Lsts.
-/
import Derived.Deep.RegionHeld3
import Derived.Test.YtefnmnpfecfdaaaGreatPf04
set_option linter.all false
set_option maxRecDepth 100000
set_option maxHeartbeats 200000
namespace Go.Proofs.YtefnmnpfecfdaaaGreat
namespace Foot
open Go.RowKit Base
structure Turn (F : Nat -> Prop) (w w' : World) : Prop where
 os : w'.os = w.os
 tape : w'.tape = w.tape
 output : w'.output = w.output
 size : w.heap.size <= w'.heap.size
 block : ∀ i,i < w.heap.size -> ¬ F i -> w'.heap[i]? = w.heap[i]?
def Out (F : Nat -> Prop) (w w' : World) (i : Nat) : Prop := F i \/ (w.heap.size <= i /\ i < w'.heap.size)
section
variable {F F' : Nat -> Prop} {w w1 w2 : World}
theorem Turn.refl (F : Nat -> Prop) (w : World) : Turn F w w := ⟨rfl,rfl,rfl,Nat.le_refl _,fun _ _ _ => rfl⟩
theorem Turn.trans (h : Turn F w w1) (k : Turn F' w1 w2) (hF : ∀ i,F' i -> F i \/ w.heap.size <= i) : Turn F w w2 :=
 ⟨k.os.trans h.os,k.tape.trans h.tape,k.output.trans h.output,Nat.le_trans h.size k.size,fun i hi hn => (k.block i (Nat.lt_of_lt_of_le hi h.size) (fun hf => by
  rcases hF i hf with h1 | h1
  ·exact hn h1
  ·omega)).trans (h.block i hi hn)⟩
theorem Turn.mono (h : Turn F w w1) (hF : ∀ i,F i -> F' i) : Turn F' w w1 := ⟨h.os,h.tape,h.output,h.size,fun i hi hn => h.block i hi fun hf => hn (hF i hf)⟩
theorem Turn.grown {row : Option Nat} (h : w.grownBy w1 row) (hr : ∀ g,row = some g -> F g) : Turn F w w1 :=
 ⟨h.os,h.tape,h.output,h.size,fun i hi hn => h.block i hi fun e => hn (hr i e.symm)⟩
theorem Turn.new (h : Below w.heap.size w w1) : Turn F w w1 := ⟨h.os,h.tape,h.output,h.size,fun i hi _ => h.block i hi⟩
theorem Turn.below {B : Nat} (h : Turn F w w1) (hF : ∀ i,F i -> B <= i) (hB : B <= w.heap.size) : Below B w w1 :=
 ⟨h.os,h.tape,h.output,h.size,fun i hi => h.block i (by omega) fun hf => by have := hF i hf; omega⟩
theorem Turn.alloc (h : Turn F w w1) (o : Obj) : Turn F w (w1.alloc o) :=
 h.trans (F' := fun _ => False) (.new ((Below.refl _ _).alloc (Nat.le_refl _) o)) (fun _ h => h.elim)
theorem Turn.setCell (h : Turn F w w1) {p : Addr} (hp : F p.block \/ w.heap.size <= p.block) (u : Value) : Turn F w (w1.setCell p u) :=
 ⟨h.os,h.tape,h.output,by simpa [World.setCell] using h.size,fun i hi hn => (Below.heap_setCell w1 p u i (by
  rintro rfl
  rcases hp with hp | hp
  ·exact hn hp
  ·omega)).trans (h.block i hi hn)⟩
theorem Turn.drewN (h : Turn F w w1) (n : Nat) : Turn F w (w1.drewN n) := ⟨h.os,h.tape,h.output,h.size,h.block⟩
theorem Turn.cell {F : Nat -> Prop} {w w' : World} (h : Turn F w w') {p : Addr} (hp : p.block < w.heap.size) (hn : ¬ F p.block) : w'.cell? p = w.cell? p := World.cell?_of_block (h.block _ hp hn)
theorem Out.mono (h1 : w1.heap.size <= w2.heap.size) {i : Nat} (h : Out F w w1 i) : Out F w w2 i := h.imp id fun h => ⟨h.1,by omega⟩
theorem Out.two (h : Turn F w w1) {i : Nat} (hi : Out (Out F w w1) w1 w2 i) (h2 : w1.heap.size <= w2.heap.size) : Out F w w2 i := by
 rcases hi with (h1 | h1) | h1
 ·exact .inl h1
 ·exact .inr ⟨h1.1,by omega⟩
 ·exact .inr ⟨Nat.le_trans h.size h1.1,h1.2⟩
theorem Turn.two (h : Turn F w w1) (k : Turn (Out F w w1) w1 w2) : Turn F w w2 := h.trans k fun _ hi => hi.imp id fun h => h.1
end
theorem own_same {w w' : World} {base n : Nat} {e : TypeId} {size : Nat} {v : Value} {xs : List Value} (h : w.ownsRow base e size v n xs) (hk : ∀ g,v.ownBlock = some g -> w'.heap[g]? = w.heap[g]?) : w'.ownsRow base e size v n xs := by
 rcases h with ⟨h1,h2 | ⟨g,cap,cur,hv,hg,h3,h4⟩⟩
 ·exact ⟨h1,.inl h2⟩
 ·exact ⟨h1,.inr ⟨g,cap,cur,hv,hg,(hk g (by rw [hv]; rfl)).trans h3,h4⟩⟩
theorem own_type {w : World} {base n : Nat} {e : TypeId} {size : Nat} {v : Value} {xs : List Value} (h : w.ownsRow base e size v n xs) {g : Nat} (hg : v.ownBlock = some g) : ∃ cur,w.heap[g]? = some (.cells cur e (0,0)) := by
 rcases h with ⟨_,⟨hv,_⟩ | ⟨g',cap,cur,hv,_,h3,_⟩⟩
 ·rw [hv] at hg; cases hg
 ·rw [hv] at hg
  injection hg with hg
  subst hg
  exact ⟨cur,h3⟩
theorem own_lt {w : World} {base n : Nat} {e : TypeId} {size : Nat} {v : Value} {xs : List Value} (h : w.ownsRow base e size v n xs) {g : Nat} (hg : v.ownBlock = some g) : g < w.heap.size := by
 obtain ⟨cur,hc⟩ := own_type h hg
 exact Blk.lt (w := w) hc
end Foot
namespace Base
open Go.RowKit
def iv (l : List Int) : List Value := l.map fun k => Value.int .i64 k
theorem iv_get {l : List Int} {k : Nat} (h : k < l.length) : (iv l)[k]? = some (.int .i64 l[k]) := by rw [iv,List.getElem?_map,List.getElem?_eq_getElem h]; rfl
theorem Row.num {w : World} {B n c : Nat} {A : Option Addr} {l : List Int} (h : Row w B 1 A n c (iv l)) {k : Nat} (hk : k < n) : ∃ b off,A = some ⟨b,off,none⟩ /\ b < B /\ w.cell? ⟨b,off + k,none⟩ = some (.int .i64 (l.getD k 0)) := by
 obtain ⟨b,off,e,hb,hc⟩ := h.2.2.2 (by omega)
 have hl : k < l.length := by have := h.1; rw [iv,List.length_map] at this; omega
 refine ⟨b,off,e,hb,?_⟩
 rw [hc k _ (iv_get hl),List.getD_eq_getElem?_getD,List.getElem?_eq_getElem hl]
 rfl
theorem iv_length (l : List Int) : (iv l).length = l.length := List.length_map _
end Base
namespace Base
open Go.RowKit
def Lists (w : World) (B : Nat) (A : Option Addr) (n c : Nat) (ls : List (List UInt8)) : Prop :=
 ∃ vs,Row w B 1 A n c vs /\ vs.length = ls.length /\ ∀ (i : Nat) v l,vs[i]? = some v -> ls[i]? = some l -> ∃ A' n' c',v = .slice A' n' c' /\ Bytes w B A' n' c' l
section
variable {w w' : World} {B B' n c : Nat} {A : Option Addr} {ls : List (List UInt8)}
theorem Lists.len (h : Lists w B A n c ls) : ls.length = n := by
 obtain ⟨vs,h1,h2,_⟩ := h
 have := h1.len
 omega
theorem Lists.le (h : Lists w B A n c ls) : n <= c /\ c <= 9223372036854775807 := by
 obtain ⟨vs,h1,_⟩ := h
 exact h1.le
theorem Lists.at_ (h : Lists w B A n c ls) {k : Nat} (hk : k < n) :
 ∃ b off A' n' c' l,A = some ⟨b,off,none⟩ /\ b < B /\ w.cell? ⟨b,off + k,none⟩ = some (.slice A' n' c') /\ Bytes w B A' n' c' l /\ ls[k]? = some l /\ ls.take (k + 1) = ls.take k ++ [l] := by
 have hlen := h.len
 obtain ⟨vs,h1,h2,h3⟩ := h
 obtain ⟨b,off,e,hb,hc⟩ := h1.2.2.2 (by omega)
 have hl : k < ls.length := by omega
 have hv : k < vs.length := by omega
 obtain ⟨A',n',c',e',h4⟩ := h3 k _ _ (List.getElem?_eq_getElem hv) (List.getElem?_eq_getElem hl)
 exact ⟨b,off,A',n',c',ls[k],e,hb,by rw [hc k _ (List.getElem?_eq_getElem hv),e'],h4,List.getElem?_eq_getElem hl,List.take_succ_eq_append_getElem hl⟩
end
def Typed (w : World) (A : Option Addr) (n : Nat) : Prop := 0 < n -> ∀ b off,A = some ⟨b,off,none⟩ -> ∃ cur,w.heap[b]? = some (.cells cur 5 (0,0))
theorem Typed.own {w : World} {base n c : Nat} {A : Option Addr} {xs : List Value} (h : w.ownsRow base 5 1 (.slice A n c) n xs) : Typed w A n := by
 intro hn b off e
 rcases h with ⟨_,⟨hv,h0⟩ | ⟨g,cap,cur,hv,_,h3,_⟩⟩
 ·omega
 ·simp only [Value.slice.injEq] at hv
  rw [e] at hv
  obtain ⟨h1,_⟩ := hv
  injection h1 with h1
  injection h1 with h1
  subst h1
  exact ⟨cur,h3⟩
theorem Typed.below {w w' : World} {A : Option Addr} {n : Nat} (h : Typed w A n) (hb : Below w.heap.size w w') : Typed w' A n := by
 intro hn b off e
 obtain ⟨cur,hc⟩ := h hn b off e
 exact ⟨cur,(hb.block b (Array.getElem?_eq_some_iff.1 hc).1).trans hc⟩
def Each (w : World) (row : Option Nat) (vs : List Value) (ls : List (List UInt8)) : Prop :=
 vs.length = ls.length /\ ∀ (i : Nat) v l,vs[i]? = some v -> ls[i]? = some l -> ∃ A n c,v = .slice A n c /\ Bytes w w.heap.size A n c l /\ (0 < n -> ∀ b off,A = some ⟨b,off,none⟩ -> some b ≠ row) /\ Typed w A n
section
variable {w w' : World} {row : Option Nat} {vs : List Value} {ls : List (List UInt8)}
theorem Each.nil_ (w : World) (row : Option Nat) : Each w row [] [] := ⟨rfl,fun i v l hv => by simp at hv⟩
theorem Each.keep (h : Each w row vs ls) (hb : Below w.heap.size w w') : Each w' row vs ls := by
 refine ⟨h.1,fun i v l hv hl => ?_⟩
 obtain ⟨A,n,c,e,h1,h2,h3⟩ := h.2 i v l hv hl
 exact ⟨A,n,c,e,(h1.below hb).more hb.size,h2,h3.below hb⟩
theorem Bytes.same {A : Option Addr} {n c B B' : Nat} {l : List UInt8} (h : Bytes w B A n c l) (hs : 0 < n -> ∀ b off,A = some ⟨b,off,none⟩ -> b < B -> b < B' /\ w'.heap[b]? = w.heap[b]?) : Bytes w' B' A n c l := by
 refine ⟨h.1,h.2.1,h.2.2.1,fun hn => ?_⟩
 obtain ⟨b,off,e,hb,hc⟩ := h.2.2.2 hn
 obtain ⟨h1,h2⟩ := hs hn b off e hb
 exact ⟨b,off,e,h1,fun j u hu => (World.cell?_of_block (w := w) (a := ⟨b,off + j,none⟩) h2).trans (hc j u hu)⟩
theorem Each.grew (h : Each w row vs ls) {v' : Value} (hg : Grew w row w' v') : Each w' v'.ownBlock vs ls := by
 refine ⟨h.1,fun i v l hv hl => ?_⟩
 obtain ⟨A,n,c,e,h1,h2,h3⟩ := h.2 i v l hv hl
 refine ⟨A,n,c,e,h1.same fun hn b off he hb => ⟨Nat.lt_of_lt_of_le hb hg.1.size,hg.1.block b hb (h2 hn b off he)⟩,fun hn b off he => ?_,fun hn b off he => ?_⟩
 case refine_2 =>
  obtain ⟨cur,hc⟩ := h3 hn b off he
  exact ⟨cur,(hg.1.block b (Array.getElem?_eq_some_iff.1 hc).1 (h2 hn b off he)).trans hc⟩
 rcases hg.2 with hr | hr
 ·rw [hr]; exact h2 hn b off he
 ·intro e2
  have h3 := hr b e2.symm
  obtain ⟨b',off',e',hb',_⟩ := h1.2.2.2 hn
  rw [he] at e'
  injection e' with e'
  injection e' with e'
  omega
theorem Each.snoc (h : Each w row vs ls) {A : Option Addr} {n c : Nat} {l : List UInt8} (hb : Bytes w w.heap.size A n c l) (ha : 0 < n -> ∀ b off,A = some ⟨b,off,none⟩ -> some b ≠ row) (ht : Typed w A n) : Each w row (vs ++ [.slice A n c]) (ls ++ [l]) := by
 refine ⟨by rw [List.length_append,List.length_append,h.1]; rfl,fun i v l' hv hl => ?_⟩
 by_cases hi : i < vs.length
 ·rw [List.getElem?_append_left hi] at hv
  rw [List.getElem?_append_left (by have := h.1; omega)] at hl
  exact h.2 i v l' hv hl
 ·rw [List.getElem?_append_right (by omega)] at hv
  rw [List.getElem?_append_right (by have := h.1; omega)] at hl
  have h0 : i - vs.length = 0 := by
   rcases Nat.eq_zero_or_pos (i - vs.length) with h0 | h0
   ·exact h0
   ·rw [List.getElem?_eq_none (by simp; omega)] at hv; cases hv
  have h1 : i - ls.length = 0 := by have := h.1; omega
  rw [h0] at hv
  rw [h1] at hl
  simp only [List.getElem?_cons_zero,Option.some.injEq] at hv hl
  subst hv hl
  exact ⟨A,n,c,rfl,hb,ha,ht⟩
end
theorem own_apart {w w0 : World} {base0 base n : Nat} {e e0 : TypeId} {size size0 n0 : Nat} {A : Option Addr} {c : Nat} {xs xs0 : List Value} {v0 : Value} (h : w.ownsRow base e size (.slice A n c) n xs) (h0 : w0.ownsRow base0 e0 size0 v0 n0 xs0) (hb : w0.heap.size <= base) :
 0 < n -> ∀ b off,A = some ⟨b,off,none⟩ -> some b ≠ v0.ownBlock := by
 intro _ b off he e2
 have h1 := (h0.lt b e2.symm).2
 have h2 := (h.lt b (by rw [he]; rfl)).1
 omega
def Lies (S : Nat -> Prop) (A : Option Addr) (n : Nat) : Prop := 0 < n -> ∀ b off,A = some ⟨b,off,none⟩ -> S b
def Backed (w : World) (S : Nat -> Prop) (A : Option Addr) (c : Nat) : Prop := (A = none /\ c = 0) \/ ∃ b off cur,A = some ⟨b,off,none⟩ /\ S b /\ w.heap[b]? = some (.cells cur 68 (0,0)) /\ off + c <= cur.size
def ListsIn (w : World) (S : Nat -> Prop) (A : Option Addr) (n c : Nat) (ls : List (List UInt8)) : Prop :=
 ∃ vs,Row w w.heap.size 1 A n c vs /\ Lies S A n /\ vs.length = ls.length /\ (∀ (i : Nat) v l,vs[i]? = some v -> ls[i]? = some l -> ∃ A' n' c',v = .slice A' n' c' /\ Bytes w w.heap.size A' n' c' l /\ Lies S A' n' /\ Typed w A' n') /\ Backed w S A c
def Placed (S : Nat -> Prop) (vs : List Value) : Prop := ∀ v ∈ vs,∀ A n c,v = .slice A n c -> Lies S A n
theorem Placed.nil_ (S : Nat -> Prop) : Placed S [] := fun v hv => by simp at hv
theorem Placed.snoc {S : Nat -> Prop} {vs : List Value} (h : Placed S vs) {A : Option Addr} {n c : Nat} (ha : Lies S A n) : Placed S (vs ++ [.slice A n c]) := by
 intro v hv
 rcases List.mem_append.1 hv with h1 | h1
 ·exact h v h1
 ·rw [List.mem_singleton] at h1
  subst h1
  intro A' n' c' e
  injection e with e1 e2 e3
  subst e1 e2
  exact ha
theorem Lies.mono {S S' : Nat -> Prop} {A : Option Addr} {n : Nat} (h : Lies S A n) (hs : ∀ b,S b -> S' b) : Lies S' A n := fun hn b off e => hs b (h hn b off e)
theorem own_lies {w : World} {base n c : Nat} {e : TypeId} {size : Nat} {A : Option Addr} {xs : List Value} (h : w.ownsRow base e size (.slice A n c) n xs) : Lies (base <= ·) A n := fun _ b off he => (h.lt b (by rw [he]; rfl)).1
section
variable {w w' : World} {S S' : Nat -> Prop} {n c : Nat} {A : Option Addr} {ls : List (List UInt8)}
theorem Backed.own {base : Nat} {xs : List Value} (h : w.ownsRow base 68 1 (.slice A n c) n xs) : Backed w (base <= ·) A c := by
 rcases h with ⟨_,⟨hv,h0⟩ | ⟨g,cap,cur,hv,hb,h3,h4,h5,h6,h7⟩⟩
 ·simp only [Value.slice.injEq] at hv
  exact .inl ⟨hv.1,hv.2.2⟩
 ·simp only [Value.slice.injEq] at hv
  obtain ⟨rfl,_,rfl⟩ := hv
  exact .inr ⟨g,0,cur,rfl,hb,h3,by rw [h6]; omega⟩
theorem Backed.keep (h : Backed w S A c) (hk : ∀ b,S b -> b < w.heap.size -> w'.heap[b]? = w.heap[b]?) : Backed w' S A c := by
 rcases h with h | ⟨b,off,cur,e,hs,hc,hl⟩
 ·exact .inl h
 ·exact .inr ⟨b,off,cur,e,hs,(hk b hs (Array.getElem?_eq_some_iff.1 hc).1).trans hc,hl⟩
theorem Backed.cut (h : Backed w S A c) {k : Nat} (hk : k <= c) : Backed w S (cutAt A c k) (c - k) := by
 rcases h with ⟨rfl,rfl⟩ | ⟨b,off,cur,rfl,hs,hc,hl⟩
 ·exact .inl ⟨by unfold cutAt; split <;> rfl,by omega⟩
 ·unfold cutAt
  split
  ·exact .inr ⟨b,off,cur,rfl,hs,hc,by omega⟩
  ·rw [Option.map_some,add_none]
   exact .inr ⟨b,off + k,cur,rfl,hs,hc,by omega⟩
theorem ListsIn.of {row : Option Nat} {vs : List Value} {base : Nat} (h : Each w row vs ls) (ho : w.ownsRow base 68 1 (.slice A n c) n vs) (hp : Placed (base <= ·) vs) : ListsIn w (base <= ·) A n c ls := by
 refine ⟨vs,Row.of_own ho,own_lies ho,h.1,fun i v l hv hl => ?_,Backed.own ho⟩
 obtain ⟨A',n',c',e',h1,_,h2⟩ := h.2 i v l hv hl
 exact ⟨A',n',c',e',h1,hp v (List.mem_of_getElem? hv) _ _ _ e',h2⟩
theorem ListsIn.nil_ (w : World) (S : Nat -> Prop) : ListsIn w S none 0 0 [] := ⟨[],Row.nil_ w _ 1,fun h => absurd h (by omega),rfl,fun i v l hv => by simp at hv,.inl ⟨rfl,rfl⟩⟩
theorem ListsIn.lists (h : ListsIn w S A n c ls) : Lists w w.heap.size A n c ls := by
 obtain ⟨vs,h1,_,h2,h3,_⟩ := h
 refine ⟨vs,h1,h2,fun i v l hv hl => ?_⟩
 obtain ⟨A',n',c',e',h4,_⟩ := h3 i v l hv hl
 exact ⟨A',n',c',e',h4⟩
theorem ListsIn.mono (h : ListsIn w S A n c ls) (hs : ∀ b,S b -> S' b) : ListsIn w S' A n c ls := by
 obtain ⟨vs,h1,h0,h2,h3,h6⟩ := h
 refine ⟨vs,h1,h0.mono hs,h2,fun i v l hv hl => ?_,h6.imp id fun ⟨b,off,cur,e,hb,r⟩ => ⟨b,off,cur,e,hs b hb,r⟩⟩
 obtain ⟨A',n',c',e',h4,h5,h7⟩ := h3 i v l hv hl
 exact ⟨A',n',c',e',h4,h5.mono hs,h7⟩
theorem Row.same {size B B' : Nat} {vs : List Value} (h : Row w B size A n c vs) (hs : 0 < n -> ∀ b off,A = some ⟨b,off,none⟩ -> b < B -> b < B' /\ w'.heap[b]? = w.heap[b]?) : Row w' B' size A n c vs := by
 refine ⟨h.1,h.2.1,h.2.2.1,fun hn => ?_⟩
 obtain ⟨b,off,e,hb,hc⟩ := h.2.2.2 hn
 obtain ⟨h1,h2⟩ := hs hn b off e hb
 exact ⟨b,off,e,h1,fun j u hu => (World.cell?_of_block (w := w) (a := ⟨b,off + j,none⟩) h2).trans (hc j u hu)⟩
theorem ListsIn.keep (h : ListsIn w S A n c ls) (hz : w.heap.size <= w'.heap.size) (hk : ∀ b,S b -> b < w.heap.size -> w'.heap[b]? = w.heap[b]?) : ListsIn w' S A n c ls := by
 obtain ⟨vs,h1,h0,h2,h3,h6⟩ := h
 refine ⟨vs,Row.same h1 fun hn b off e hb => ⟨Nat.lt_of_lt_of_le hb hz,hk b (h0 hn b off e) hb⟩,h0,h2,fun i v l hv hl => ?_,h6.keep hk⟩
 obtain ⟨A',n',c',e',h4,h5,h7⟩ := h3 i v l hv hl
 refine ⟨A',n',c',e',Bytes.same h4 fun hn b off e hb => ⟨Nat.lt_of_lt_of_le hb hz,hk b (h5 hn b off e) hb⟩,h5,fun hn b off e => ?_⟩
 obtain ⟨cur,hc⟩ := h7 hn b off e
 exact ⟨cur,(hk b (h5 hn b off e) (Array.getElem?_eq_some_iff.1 hc).1).trans hc⟩
theorem ListsIn.below (h : ListsIn w S A n c ls) (hb : Below w.heap.size w w') : ListsIn w' S A n c ls := h.keep hb.size fun b _ hlt => hb.block b hlt
theorem ListsIn.setCell (h : ListsIn w S A n c ls) {p : Addr} (hp : ¬ S p.block) (u : Value) : ListsIn (w.setCell p u) S A n c ls :=
 h.keep (by simp) fun b hs _ => Below.heap_setCell w p u b fun e => hp (e ▸ hs)
theorem Lies.cut (h : Lies S A n) {k : Nat} (hA : 0 < n -> ∃ b off,A = some ⟨b,off,none⟩) : Lies S (cutAt A c k) (n - k) := by
 intro hn b off e
 obtain ⟨b',off',rfl⟩ := hA (by omega)
 have h' := h (by omega) b' off' rfl
 unfold cutAt at e
 split at e
 ·cases e; exact h'
 ·rw [Option.map_some,add_none] at e
  cases e
  exact h'
theorem ListsIn.cut (h : ListsIn w S A n c ls) {k : Nat} (hk : k <= n) : ListsIn w S (cutAt A c k) (n - k) (c - k) (ls.drop k) := by
 obtain ⟨vs,h1,h0,h2,h3,h6⟩ := h
 refine ⟨vs.drop k,h1.cut1 hk,h0.cut (fun hn => by obtain ⟨b,off,e,_⟩ := h1.2.2.2 hn; exact ⟨b,off,e⟩),by rw [List.length_drop,List.length_drop,h2],fun i v l hv hl => ?_,h6.cut (Nat.le_trans hk h1.2.1)⟩
 rw [List.getElem?_drop] at hv hl
 exact h3 (k + i) v l hv hl
end
theorem slices_one (A : Option Addr) (n c : Nat) : ∀ u ∈ [Value.slice A n c],u.oneCell' = true := by
 intro u hu
 simp at hu
 subst hu
 rfl
theorem one_slice (w : World) (e : TypeId) (A : Option Addr) (n c : Nat) {s : Nat} (hs : s = w.heap.size) : Row (w.alloc (.cells #[.slice A n c] e)) (w.heap.size + 1) 1 (some ⟨s,0,none⟩) 1 1 [.slice A n c] :=
 Row.lit w #[.slice A n c] e (0,0) hs rfl (by omega)
end Base
namespace Last
open Go
def Then (P : Program) (ops : Array Oper) (n : Nat) (Q : Exit -> Act -> World -> Prop) : Exit -> Act -> World -> Prop
 | .normal,a,w => wpOp P ops Q n (fun a' w' => Q .normal a' w') a w
 | e,a,w => Q e a w
def plainB (l : List Oper) : Bool := l.all (fun o => o.guard.isNone) && (List.range l.length).all fun i => ((l[i]?).map fun o => o.after.all fun e => decide (e.on < i)).getD true
def toB (o : Oper) (j : Nat) : Bool := o.after.any fun e => Region.binds .any e && e.on == j
def waitsB (l : List Oper) (o : Oper) : Bool := (List.range l.length).all (fun j => toB o j || (List.range l.length).any fun k => decide (j < k) && ((l[k]?).map fun ok => toB ok j).getD false) && o.after.all (fun e => decide (e.on < l.length)) && o.guard.isNone
section
variable {P : Program} {l : List Oper} {o : Oper} {Q : Exit -> Act -> World -> Prop}
theorem get_pre {i : Nat} (h : i < l.length) : (l ++ [o]).toArray[i]? = l.toArray[i]? := by
 simp [List.getElem?_append_left h]
theorem get_last : (l ++ [o]).toArray[l.length]? = some o := by simp
theorem edges {i : Nat} {oi : Oper} (hp : plainB l = true) (hi : l.toArray[i]? = some oi) : oi.guard = none /\ ∀ e ∈ oi.after,e.on < i := by
 have hlt : i < l.length := by
  rcases Nat.lt_or_ge i l.length with h | h
  ·exact h
  ·simp [List.getElem?_eq_none h] at hi
 simp only [plainB,Bool.and_eq_true,List.all_eq_true,List.mem_range] at hp
 have hi' : l[i]? = some oi := by simpa using hi
 refine ⟨by simpa using hp.1 oi (List.mem_of_getElem? hi'),fun e he => ?_⟩
 have := hp.2 i hlt
 rw [hi'] at this
 simp only [Option.map_some,Option.getD_some,Array.all_eq_true_iff_forall_mem] at this
 simpa using this e he
theorem some_ready (hp : plainB l = true) {L : Array Bool} (hL : L.size = l.length) {j : Nat} (hj : L.getD j true = false) : ∃ i,i ∈ Region.ready .any l.toArray L := by
 induction j using Nat.strongRecOn with
 | _ j ih =>
   have hjl : j < l.length := by
    rcases Nat.lt_or_ge j L.size with h | h
    ·omega
    ·rw [Array.getD_eq_getD_getElem?,Array.getElem?_eq_none h] at hj; cases hj
   have hoj : l.toArray[j]? = some l[j] := by simp [hjl]
   by_cases hall : ∀ e ∈ (l[j]).after,Region.binds .any e = true -> L.getD e.on false = true
   ·exact ⟨j,mem_ready.2 ⟨hj,l[j],hoj,hall⟩⟩
   ·simp only [Classical.not_forall] at hall
    obtain ⟨e,he,_,hf⟩ := hall
    have hlt := (edges hp hoj).2 e he
    refine ih e.on hlt ?_
    rw [Array.getD_eq_getD_getElem?,Array.getElem?_eq_getElem (by omega)] at hf ⊢
    simpa using hf
theorem push_get {L : Array Bool} {i : Nat} (h : i < L.size) (b d : Bool) : (L.push b).getD i d = L.getD i d := by
 simp only [Array.getD_eq_getD_getElem?]
 rw [Array.getElem?_push_lt h,Array.getElem?_eq_getElem h]
theorem push_set {L : Array Bool} {i : Nat} (h : i < L.size) : (L.push false).setIfInBounds i true = (L.setIfInBounds i true).push false := by
 obtain ⟨ll⟩ := L
 have h' : i < ll.length := by simpa using h
 simp [List.set_append_left _ _ h']
theorem ready_pre (hp : plainB l = true) {L : Array Bool} (hL : L.size = l.length) {i : Nat} (hi : i < l.length) : i ∈ Region.ready .any (l ++ [o]).toArray (L.push false) <-> i ∈ Region.ready .any l.toArray L := by
 rw [mem_ready,mem_ready,get_pre hi,push_get (by omega)]
 refine and_congr Iff.rfl (exists_congr fun oi => and_congr_right fun hoi => forall_congr' fun e => forall_congr' fun he => ?_)
 have := (edges hp hoi).2 e he
 rw [push_get (by omega)]
theorem ready_lt {i : Nat} {L : Array Bool} (h : i ∈ Region.ready .any (l ++ [o]).toArray L) : i < l.length \/ i = l.length := by
 obtain ⟨_,oi,hoi,_⟩ := mem_ready.1 h
 have := (Array.getElem?_eq_some_iff.1 hoi).1
 simp at this
 omega
theorem all_done {L : Array Bool} (hL : L.size = l.length) (h : ∀ j,j < l.length -> L.getD j false = true) : Region.ready .any l.toArray L = [] := by
 rw [List.eq_nil_iff_forall_not_mem]
 intro i hi
 obtain ⟨h0,oi,hoi,_⟩ := mem_ready.1 hi
 have hlt : i < l.length := by have := (Array.getElem?_eq_some_iff.1 hoi).1; simpa using this
 have h1 := h i hlt
 rw [Array.getD_eq_getD_getElem?,Array.getElem?_eq_getElem (by omega)] at h0 h1
 simp at h0 h1
 rw [h0] at h1
 cases h1
def Closed (l : List Oper) (L : Array Bool) : Prop := ∀ (i : Nat) (oi : Oper),l.toArray[i]? = some oi -> L.getD i false = true -> ∀ e ∈ oi.after,Region.binds .any e = true -> L.getD e.on false = true
theorem to_spec {o : Oper} {j : Nat} (h : toB o j = true) : ∃ e ∈ o.after,Region.binds .any e = true /\ e.on = j := by
 unfold toB at h
 rw [Array.any_eq_true] at h
 obtain ⟨i,hi,hb⟩ := h
 simp only [Bool.and_eq_true,beq_iff_eq] at hb
 exact ⟨o.after[i],Array.getElem_mem hi,hb.1,hb.2⟩
theorem last_all (hw : waitsB l o = true) {L : Array Bool} (hL : L.size = l.length) (hc : Closed l L) (h : l.length ∈ Region.ready .any (l ++ [o]).toArray (L.push false)) : ∀ j,j < l.length -> L.getD j false = true := by
 obtain ⟨_,o',ho',hall⟩ := mem_ready.1 h
 rw [get_last] at ho'
 obtain rfl : o = o' := Option.some.inj ho'
 simp only [waitsB,Bool.and_eq_true,List.all_eq_true,List.mem_range] at hw
 have key : ∀ m j,j < l.length -> l.length - j = m -> L.getD j false = true := by
  intro m
  induction m using Nat.strongRecOn with
  | _ m ih =>
    intro j hj hm
    rcases Bool.or_eq_true _ _ ▸ hw.1.1 j hj with h1 | h1
    ·obtain ⟨e,he,hb,rfl⟩ := to_spec h1
     have h2 := hall e he hb
     rwa [push_get (by omega)] at h2
    ·rw [List.any_eq_true] at h1
     obtain ⟨k,hk,hb⟩ := h1
     rw [List.mem_range] at hk
     rw [Bool.and_eq_true,decide_eq_true_eq,List.getElem?_eq_getElem hk] at hb
     simp only [Option.map_some,Option.getD_some] at hb
     have hkl := ih (l.length - k) (by omega) k hk rfl
     obtain ⟨e,he,hbi,rfl⟩ := to_spec hb.2
     exact hc k l[k] (by simp [hk]) hkl e he hbi
 exact fun j hj => key _ j hj rfl
theorem last_ready (hw : waitsB l o = true) {L : Array Bool} (hL : L.size = l.length) (h : ∀ j,j < l.length -> L.getD j false = true) : l.length ∈ Region.ready .any (l ++ [o]).toArray (L.push false) := by
 refine mem_ready.2 ⟨?_,o,get_last,fun e he _ => ?_⟩
 ·rw [Array.getD_eq_getD_getElem?,<- hL,Array.getElem?_push_size]
  rfl
 ·simp only [waitsB,Bool.and_eq_true,Array.all_eq_true_iff_forall_mem] at hw
  have : e.on < l.length := by simpa using hw.1.2 e he
  rw [push_get (by omega)]
  exact h _ this
theorem step_then {oi : Oper} {n : Nat} {ops : Array Oper} {a : Act} {w : World} {K : Act -> World -> Prop} (h : oi.wp P a w K (Then P ops n Q)) : oi.wp P a w K Q := by
 unfold Oper.wp at *
 generalize (execOp a.eval oi).run P w = r at *
 cases r with
 | ok m w' =>
   cases m <;> simp only [Oper.upon] at h ⊢ <;> first
    | exact h
    | exact Calls.mono h (fun e w'' he => by cases e <;> exact he)
 | halt x w' => cases x <;> simp only [Oper.upon] at h ⊢ <;> exact h
theorem done_any (md : Region.Mode) (ops : Array Oper) {L : Array Bool} {a : Act} {w : World} (hr : Region.ready md ops L = []) (h : Q .normal a w) : ∀ fuel,wpAny P md ops Q fuel L a w
 | 0 => ⟨hr,h⟩
 | _ + 1 => ⟨fun _ => h,by rw [hr]; intro i hi; cases hi⟩
theorem closed_set {L : Array Bool} (hL : L.size = l.length) (hc : Closed l L) {i : Nat} (hi : i ∈ Region.ready .any l.toArray L) : Closed l (L.setIfInBounds i true) := by
 have hget : ∀ k,L.getD k false = true -> (L.setIfInBounds i true).getD k false = true := fun k hk => by
  have hkL : k < L.size := by
   rcases Nat.lt_or_ge k L.size with h | h
   ·exact h
   ·rw [Array.getD_eq_getD_getElem?,Array.getElem?_eq_none h] at hk; cases hk
  rw [Array.getD_eq_getD_getElem?,Array.getElem?_eq_getElem (by rw [Array.size_setIfInBounds]; exact hkL)]
  rw [Array.getD_eq_getD_getElem?,Array.getElem?_eq_getElem hkL] at hk
  simp only [Option.getD_some] at hk ⊢
  by_cases e : k = i
  ·subst e
   simp
  ·rw [Array.getElem_setIfInBounds_ne hkL (Ne.symm e)]
   exact hk
 obtain ⟨_,oi,hoi,hall⟩ := mem_ready.1 hi
 intro k ok hok hk e he hb
 by_cases ek : k = i
 ·subst ek
  rw [hoi] at hok
  obtain rfl : oi = ok := Option.some.inj hok
  exact hget _ (hall e he hb)
 ·have hkl : k < L.size := by have := (Array.getElem?_eq_some_iff.1 hok).1; simp at this; omega
  refine hget _ (hc k ok hok ?_ e he hb)
  rw [Array.getD_eq_getD_getElem?,Array.getElem?_eq_getElem (by rw [Array.size_setIfInBounds]; exact hkl)] at hk
  rw [Array.getD_eq_getD_getElem?,Array.getElem?_eq_getElem hkl]
  simp only [Option.getD_some] at hk ⊢
  rw [Array.getElem_setIfInBounds_ne hkl (Ne.symm ek)] at hk
  exact hk
theorem any_last (hp : plainB l = true) (hw : waitsB l o = true) : ∀ (fuel : Nat) (L : Array Bool) (a : Act) (w : World),L.size = l.length -> Closed l L ->
 wpAny P .any l.toArray (Then P (l ++ [o]).toArray l.length Q) fuel L a w -> wpAny P .any (l ++ [o]).toArray Q (fuel + 1) (L.push false) a w := by
 have hfin : ∀ (fuel : Nat) (L : Array Bool) (a : Act) (w : World),L.size = l.length -> (∀ j,j < l.length -> L.getD j false = true) -> Then P (l ++ [o]).toArray l.length Q .normal a w ->
  wpOp P (l ++ [o]).toArray Q l.length (wpAny P .any (l ++ [o]).toArray Q fuel ((L.push false).setIfInBounds l.length true)) a w := fun fuel L a w hL hall h => by
  refine wpOp_mono (fun a' w' hq => done_any _ _ ?_ hq _) h
  rw [List.eq_nil_iff_forall_not_mem]
  intro i hi
  obtain ⟨h0,_,hoi,_⟩ := mem_ready.1 hi
  have hsz : ((L.push false).setIfInBounds l.length true).size = l.length + 1 := by rw [Array.size_setIfInBounds,Array.size_push,hL]
  have hlt : i < l.length + 1 := by have := (Array.getElem?_eq_some_iff.1 hoi).1; simpa using this
  rw [Array.getD_eq_getD_getElem?,Array.getElem?_eq_getElem (by omega)] at h0
  simp only [Option.getD_some] at h0
  by_cases e : i = l.length
  ·subst e
   simp at h0
  ·rw [Array.getElem_setIfInBounds_ne (show i < (L.push false).size by rw [Array.size_push]; omega) (Ne.symm e)] at h0
   have h1 := hall i (by omega)
   rw [Array.getD_eq_getD_getElem?,Array.getElem?_eq_getElem (by omega)] at h1
   rw [Array.getElem_push_lt (by omega)] at h0
   simp only [Option.getD_some] at h1
   rw [h0] at h1
   cases h1
 have hsome : ∀ L : Array Bool,L.size = l.length -> Region.ready .any (l ++ [o]).toArray (L.push false) ≠ [] := fun L hL he => by
  by_cases hall : ∀ j,j < l.length -> L.getD j false = true
  ·have := last_ready (o := o) hw hL hall
   rw [he] at this
   cases this
  ·simp only [Classical.not_forall] at hall
   obtain ⟨j,hj,hf⟩ := hall
   obtain ⟨i,hi⟩ := some_ready hp hL (j := j) (by
    rw [Array.getD_eq_getD_getElem?,Array.getElem?_eq_getElem (by omega)] at hf ⊢
    simpa using hf)
   have hil : i < l.length := by
    obtain ⟨_,_,hoi,_⟩ := mem_ready.1 hi
    have := (Array.getElem?_eq_some_iff.1 hoi).1
    simpa using this
   have := (ready_pre (o := o) hp hL hil).2 hi
   rw [he] at this
   cases this
 intro fuel
 induction fuel with
 | zero =>
   intro L a w hL hc h
   refine ⟨fun he => absurd he (hsome L hL),fun i hi => ?_⟩
   rcases ready_lt hi with hlt | rfl
   ·have := (ready_pre (o := o) hp hL hlt).1 hi
    rw [h.1] at this
    cases this
   ·exact hfin 0 L a w hL (last_all hw hL hc hi) h.2
 | succ fuel ih =>
   intro L a w hL hc h
   refine ⟨fun he => absurd he (hsome L hL),fun i hi => ?_⟩
   rcases ready_lt hi with hlt | rfl
   ·have hpre := (ready_pre (o := o) hp hL hlt).1 hi
    have h1 := h.2 i hpre
    have hoi : l.toArray[i]? = some l[i] := by simp [hlt]
    have hgd := (edges hp hoi).1
    have hset : (L.push false).setIfInBounds i true = (L.setIfInBounds i true).push false := by
     exact push_set (by omega)
    unfold wpOp at h1 ⊢
    rw [get_pre hlt,hoi]
    rw [hoi] at h1
    simp only [Region.wanted,hgd,if_true] at h1 ⊢
    rw [hset]
    refine h1.imp (fun h2 => Oper.wp_mono (fun a' w' h3 => ih _ a' w' (by rw [Array.size_setIfInBounds]; exact hL) (closed_set hL hc hpre) h3) (step_then h2)) (fun h2 => ⟨h2.1,h2.2⟩)
   ·have hall := last_all hw hL hc hi
    exact hfin (fuel + 1) L a w hL hall (h.1 (all_done hL hall))
theorem wp_region_last {id : Nat} {S : World -> Prop} {a : Act} {w : World} (l : List Oper) (o : Oper) (hm : P.follows .mixedOrders = true) (hp : plainB l = true) (hw : waitsB l o = true) (hS : S w.drew)
 (h : S w.drew -> wpAnyH P .any l.toArray (Then P (l ++ [o]).toArray l.length Q) S l.length (Array.replicate l.length false) a w.drew) : (Code.region id (l ++ [o]).toArray true).wp P Q a w := by
 refine wp_region_any hm ?_
 have e1 : (l ++ [o]).toArray.size = l.length + 1 := by simp
 have e2 : Array.replicate (l.length + 1) false = (Array.replicate l.length false).push false := Array.replicate_succ
 rw [e1,e2]
 refine any_last hp hw l.length _ a _ (by simp) (fun i oi hoi hi => ?_) (wpAny_of_held _ _ _ _ (h hS))
 have hlt : i < l.length := by have := (Array.getElem?_eq_some_iff.1 hoi).1; simpa using this
 rw [Array.getD_eq_getD_getElem?,Array.getElem?_eq_getElem (by simpa using hlt)] at hi
 simp at hi
theorem wp_region_last_at {id : Nat} {S : World -> Prop} {a : Act} {w : World} {ops : List Oper} (n : Nat) (o : Oper) (hn : ops.take n ++ [o] = ops) (hl : (ops.take n).length = n) (hm : P.follows .mixedOrders = true) (hp : plainB (ops.take n) = true) (hw : waitsB (ops.take n) o = true) (hS : S w.drew)
 (h : S w.drew -> wpAnyH P .any (ops.take n).toArray (Then P ops.toArray n Q) S n (Array.replicate n false) a w.drew) : (Code.region id ops.toArray true).wp P Q a w := by
 have := wp_region_last (P := P) (id := id) (S := S) (Q := Q) (a := a) (w := w) (ops.take n) o hm hp hw hS (by rw [hl,hn]; exact h)
 rwa [hn] at this
theorem then_normal {n : Nat} {ops : Array Oper} {o : Oper} {a : Act} {w : World} (ho : ops[n]? = some o) (h : wpList P ops Q [o] a w) : Then P ops n Q .normal a w := by
 unfold Then wpOp
 rw [ho]
 exact h
end
end Last
namespace Lsts
open Go.RowKit Base
open Go.ChangeShapes Go.WideShapes Go.Deep
def Lsts {α : Type} (R : World -> Nat -> Option Addr -> Nat -> Nat -> α -> Prop) (w : World) (B : Nat) (A : Option Addr) (n c : Nat) (ls : List α) : Prop :=
 ∃ vs,Row w B 1 A n c vs /\ vs.length = ls.length /\ ∀ (i : Nat) v l,vs[i]? = some v -> ls[i]? = some l -> ∃ A' n' c',v = .slice A' n' c' /\ R w B A' n' c' l
section
variable {α : Type} {R : World -> Nat -> Option Addr -> Nat -> Nat -> α -> Prop} {w w' : World} {B B' n c : Nat} {A : Option Addr} {ls : List α}
theorem Lsts.len (h : Lsts R w B A n c ls) : ls.length = n := by
 obtain ⟨vs,h1,h2,_⟩ := h
 have := h1.len
 omega
theorem Lsts.le (h : Lsts R w B A n c ls) : n <= c /\ c <= 9223372036854775807 := by
 obtain ⟨vs,h1,_⟩ := h
 exact h1.le
theorem Lsts.nil_ (w : World) (B : Nat) : Lsts R w B none 0 0 [] := ⟨[],Row.nil_ w B 1,rfl,fun i v l hv => by simp at hv⟩
theorem Lsts.below (h : Lsts R w B A n c ls) (hb : Below B w w') (hR : ∀ A n c l,R w B A n c l -> R w' B A n c l) : Lsts R w' B A n c ls := by
 obtain ⟨vs,h1,h2,h3⟩ := h
 refine ⟨vs,h1.below hb,h2,fun i v l hv hl => ?_⟩
 obtain ⟨A',n',c',e,h4⟩ := h3 i v l hv hl
 exact ⟨A',n',c',e,hR _ _ _ _ h4⟩
theorem Lsts.at_ (h : Lsts R w B A n c ls) {k : Nat} (hk : k < n) :
 ∃ b off A' n' c' l,A = some ⟨b,off,none⟩ /\ b < B /\ w.cell? ⟨b,off + k,none⟩ = some (.slice A' n' c') /\ R w B A' n' c' l /\ ls[k]? = some l /\ ls.take (k + 1) = ls.take k ++ [l] := by
 have hlen := h.len
 obtain ⟨vs,h1,h2,h3⟩ := h
 obtain ⟨b,off,e,hb,hc⟩ := h1.2.2.2 (by omega)
 have hl : k < ls.length := by omega
 have hv : k < vs.length := by omega
 obtain ⟨A',n',c',e',h4⟩ := h3 k _ _ (List.getElem?_eq_getElem hv) (List.getElem?_eq_getElem hl)
 exact ⟨b,off,A',n',c',ls[k],e,hb,by rw [hc k _ (List.getElem?_eq_getElem hv),e'],h4,List.getElem?_eq_getElem hl,List.take_succ_eq_append_getElem hl⟩
theorem Lsts.row {vs : List Value} (h1 : Row w B 1 A n c vs) (h2 : vs.length = ls.length) (h3 : ∀ (i : Nat) v l,vs[i]? = some v -> ls[i]? = some l -> ∃ A' n' c',v = .slice A' n' c' /\ R w B A' n' c' l) : Lsts R w B A n c ls := ⟨vs,h1,h2,h3⟩
end
end Lsts
end Go.Proofs.YtefnmnpfecfdaaaGreat
