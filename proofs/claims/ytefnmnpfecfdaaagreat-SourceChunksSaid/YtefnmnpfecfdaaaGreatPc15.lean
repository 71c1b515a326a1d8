/-
  Texts of one proof: TblCode, TblLoad, TblNew, PlayMod, PlayCut, PlayBig.
-/
import Derived.Test.YtefnmnpfecfdaaaGreatPc14
import Derived.Test.YtefnmnpfecfdaaaGreatPc04
import Derived.WalkLawsBesides
set_option linter.all false
set_option maxRecDepth 100000
set_option maxHeartbeats 3200000
open Go.Lib (hid)
namespace Go.Proofs.YtefnmnpfecfdaaaGreat
namespace Tbl
open Go.RowKit Base IdxMath Foot Idx
def ptr (q : Nat) : Value := .pointer (some ⟨q,0,none⟩)
structure Lie (w : World) (F : Nat -> Prop) (p b : Nat) (ps : List Nat) (G : Nat -> Nat -> Prop) (T : List (List Rw)) : Prop where
 box : Blk w p 125 #[.slice (some ⟨b,0,none⟩) T.length T.length]
 row : Blk w b 122 (ps.map ptr).toArray
 len : ps.length = T.length
 most : T.length <= 8
 some_ : 1 <= T.length
 inp : F p
 inb : F b
 ne : p ≠ b
 each : ∀ i q l,ps[i]? = some q -> T[i]? = some l -> IdxAt w (G i) q l
 ing : ∀ i g,i < T.length -> g < w.heap.size -> G i g -> F g /\ g ≠ p /\ g ≠ b
 apart : ∀ i j g,i < T.length -> j < T.length -> i ≠ j -> g < w.heap.size -> G i g -> ¬ G j g
def SetAt (w : World) (F : Nat -> Prop) (p : Nat) (T : List (List Rw)) : Prop := ∃ b ps G,Lie w F p b ps G T
section
variable {w w' : World} {F F' : Nat -> Prop} {p b : Nat} {ps : List Nat} {G : Nat -> Nat -> Prop} {T : List (List Rw)}
theorem Lie.get (h : Lie w F p b ps G T) {i : Nat} (hi : i < T.length) : ∃ q l,ps[i]? = some q /\ T[i]? = some l /\ w.cell? ⟨b,i,none⟩ = some (ptr q) /\ IdxAt w (G i) q l := by
 have h1 : i < ps.length := by rw [h.len]; exact hi
 refine ⟨ps[i],T[i],List.getElem?_eq_getElem h1,List.getElem?_eq_getElem hi,?_,h.each i _ _ (List.getElem?_eq_getElem h1) (List.getElem?_eq_getElem hi)⟩
 rw [h.row.cell i]
 simp [h1]
theorem Lie.keep (h : Lie w F p b ps G T) (hs : w.heap.size <= w'.heap.size) (hk : ∀ i,i < w.heap.size -> F i -> w'.heap[i]? = w.heap[i]?) : Lie w' F p b ps (fun i g => G i g /\ g < w.heap.size) T where
 box := (hk p h.box.lt h.inp).trans h.box
 row := (hk b h.row.lt h.inb).trans h.row
 len := h.len
 most := h.most
 some_ := h.some_
 inp := h.inp
 inb := h.inb
 ne := h.ne
 each := fun i q l h1 h2 => ((h.each i q l h1 h2).mono fun g hg hG => ⟨hG,hg⟩).keep fun g hg hG => hk g hg (h.ing i g (by
  have := (List.getElem?_eq_some_iff.1 h2).1; exact this) hg hG.1).1
 ing := fun i g hi _ hG => h.ing i g hi hG.2 hG.1
 apart := fun i j g hi hj hij _ h1 h2 => h.apart i j g hi hj hij h1.2 h1.1 h2.1
theorem SetAt.keep (h : SetAt w F p T) (hs : w.heap.size <= w'.heap.size) (hk : ∀ i,i < w.heap.size -> F i -> w'.heap[i]? = w.heap[i]?) : SetAt w' F p T := by
 obtain ⟨b,ps,G,h⟩ := h
 exact ⟨b,ps,_,h.keep hs hk⟩
theorem SetAt.mono (h : SetAt w F p T) (hF : ∀ i,i < w.heap.size -> F i -> F' i) : SetAt w F' p T := by
 obtain ⟨b,ps,G,h⟩ := h
 exact ⟨b,ps,G,{ h with inp := hF _ h.box.lt h.inp,inb := hF _ h.row.lt h.inb,ing := fun i g hi hg hG => ⟨hF _ hg (h.ing i g hi hg hG).1,(h.ing i g hi hg hG).2⟩ }⟩
theorem SetAt.new (h : SetAt w F p T) (hb : Below w.heap.size w w') : SetAt w' F p T := h.keep hb.size fun i hi _ => hb.block i hi
end
theorem tables_any (F : Nat -> Prop) (p : Nat) (T : List (List Rw)) (w : World) (h : SetAt w F p T) :
 Calls Tryz.prog 40 #[.pointer (some ⟨p,0,none⟩)] w fun e w' => e = .returned (.int .i64 T.length) /\ w = w' := by
 obtain ⟨b,ps,G,h⟩ := h
 have c0 : w.cell? ⟨p,0,none⟩ = some (.slice (some ⟨b,0,none⟩) T.length T.length) := h.box.cell 0
 clear h
 go_enter Tryz.func40,Tryz.ntmps40
 go_wp2
 go_ret
 exact ⟨rfl,rfl⟩
theorem has_any (F : Nat -> Prop) (p : Nat) (T : List (List Rw)) (t : Int) (w : World) (h : SetAt w F p T) :
 Calls Tryz.prog 60 #[.pointer (some ⟨p,0,none⟩),.int .i64 t] w fun e w' => e = .returned (.bool (isT T t)) /\ w = w' := by
 obtain ⟨b,ps,G,h⟩ := h
 have c0 : w.cell? ⟨p,0,none⟩ = some (.slice (some ⟨b,0,none⟩) T.length T.length) := h.box.cell 0
 clear h
 rcases Int.lt_or_le t 0 with h1 | h1
 ·go_enter Tryz.func60,Tryz.ntmps60
  go_wp2
  go_ret
  exact ⟨by rw [show isT T t = false from decide_eq_false (by omega)]; rfl,rfl⟩
 ·by_cases h2 : t < (T.length : Int)
  ·go_enter Tryz.func60,Tryz.ntmps60
   go_wp2
   go_ret
   exact ⟨by rw [show isT T t = true from decide_eq_true (by omega)]; rfl,rfl⟩
  ·go_enter Tryz.func60,Tryz.ntmps60
   go_wp2
   go_ret
   exact ⟨by rw [show isT T t = false from decide_eq_false (by omega)]; rfl,rfl⟩
theorem newRows_nil (w : World) : NewRows w [] (.returned (.slice none 0 0)) w := ⟨none,0,rfl,⟨rfl,.inl ⟨rfl,rfl⟩⟩,.refl _ _⟩
theorem rows_any (F : Nat -> Prop) (p : Nat) (T : List (List Rw)) (t : Int) (w : World) (h : SetAt w F p T) (hsz : (tab T t).length <= 1099511627774) :
 Calls Tryz.prog 23 #[.pointer (some ⟨p,0,none⟩),.int .i64 t] w (NewRows w (tab T t)) := by
 have HH := hid (has_any F p T t w h)
 obtain ⟨b,ps,G,h⟩ := h
 have c0 : w.cell? ⟨p,0,none⟩ = some (.slice (some ⟨b,0,none⟩) T.length T.length) := h.box.cell 0
 cases ht : isT T t with
 | false =>
   have HT := hid ht
   clear h ht
   go_enter Tryz.func23,Tryz.ntmps23
   go_wp2_with fail
   refine HH.out.mono ?_
   rintro e w1 ⟨rfl,rfl⟩
   rw [HT.out]
   go_wp2
   go_ret
   rw [tab_none HT.out]
   exact newRows_nil _
 | true =>
   obtain ⟨i,rfl,hi⟩ := isT_nat ht
   obtain ⟨q,l,e1,e2,c1,hq⟩ := h.get hi
   have c2 : w.cell? ⟨b,i,none⟩ = some (.pointer (some ⟨q,0,none⟩)) := c1
   have hi2 : (i : Int) < (T.length : Int) := by omega
   rw [tab_get hi e2] at hsz ⊢
   have HQ := hid (Idx.all_any (G i) q l w hq (by omega))
   have HT := hid ht
   clear h ht e1 e2 c1 hq
   go_enter Tryz.func23,Tryz.ntmps23
   go_wp2_with fail
   refine HH.out.mono ?_
   rintro e w1 ⟨rfl,rfl⟩
   rw [HT.out]
   go_wp2_with fail
   refine HQ.out.mono ?_
   rintro e w1 ⟨A1,c1,rfl,h1,h2⟩
   have H1 := hid (And.intro h1 h2)
   clear h1 h2
   go_wp2
   go_ret
   exact ⟨A1,c1,rfl,H1.out.1,H1.out.2⟩
theorem after_nil (k n : Int) : IdxMath.after [] k n = [] := by simp [IdxMath.after]
theorem after_any (F : Nat -> Prop) (p : Nat) (T : List (List Rw)) (t k n : Int) (w : World) (h : SetAt w F p T) (hsz : (tab T t).length <= 1099511627774) :
 Calls Tryz.prog 68 #[.pointer (some ⟨p,0,none⟩),.int .i64 t,.int .i64 k,.int .i64 n] w (NewRows w (IdxMath.after (tab T t) k n)) := by
 have HH := hid (has_any F p T t w h)
 obtain ⟨b,ps,G,h⟩ := h
 have c0 : w.cell? ⟨p,0,none⟩ = some (.slice (some ⟨b,0,none⟩) T.length T.length) := h.box.cell 0
 cases ht : isT T t with
 | false =>
   have HT := hid ht
   clear h ht
   go_enter Tryz.func68,Tryz.ntmps68
   go_wp2_with fail
   refine HH.out.mono ?_
   rintro e w1 ⟨rfl,rfl⟩
   rw [HT.out]
   go_wp2
   go_ret
   rw [tab_none HT.out,after_nil]
   exact newRows_nil _
 | true =>
   obtain ⟨i,rfl,hi⟩ := isT_nat ht
   obtain ⟨q,l,e1,e2,c1,hq⟩ := h.get hi
   have c2 : w.cell? ⟨b,i,none⟩ = some (.pointer (some ⟨q,0,none⟩)) := c1
   have hi2 : (i : Int) < (T.length : Int) := by omega
   rw [tab_get hi e2] at hsz ⊢
   have HQ := hid (Idx.after_any (G i) q l k n w hq (by omega))
   have HT := hid ht
   clear h ht e1 e2 c1 hq
   generalize IdxMath.after l k n = r at *
   go_enter Tryz.func68,Tryz.ntmps68
   go_wp2_with fail
   refine HH.out.mono ?_
   rintro e w1 ⟨rfl,rfl⟩
   rw [HT.out]
   go_wp2_with fail
   refine HQ.out.mono ?_
   rintro e w1 ⟨A1,c1,rfl,h1,h2⟩
   have H1 := hid (And.intro h1 h2)
   clear h1 h2
   go_wp2
   go_ret
   exact ⟨A1,c1,rfl,H1.out.1,H1.out.2⟩
end Tbl
namespace Tbl
open Go.RowKit Base IdxMath Foot Idx
section
variable {w w2 : World} {F : Nat -> Prop} {p b : Nat} {ps : List Nat} {G : Nat -> Nat -> Prop} {T : List (List Rw)}
theorem size_setCell (w : World) (a : Addr) (u : Value) : (w.setCell a u).heap.size = w.heap.size := by simp [World.setCell]
theorem Lie.lay (h : Lie w F p b ps G T) {i : Nat} (hi : i < T.length) {q : Nat} {l : List Rw} (hq : IdxAt w2 (fun g => w.heap.size <= g /\ g < w2.heap.size) q l) (hb : Below w.heap.size w w2) :
 SetAt (w2.setCell ⟨b,i,none⟩ (ptr q)) (Out F w (w2.setCell ⟨b,i,none⟩ (ptr q))) p (T.set i l) /\ Turn F w (w2.setCell ⟨b,i,none⟩ (ptr q)) := by
 have hip : i < ps.length := by rw [h.len]; exact hi
 have hfar : ∀ g,g ≠ b -> (w2.setCell ⟨b,i,none⟩ (ptr q)).heap[g]? = w2.heap[g]? := fun g hg => Below.heap_setCell w2 _ _ g hg
 have hplt := h.box.lt
 have hblt := h.row.lt
 have hsz := size_setCell w2 ⟨b,i,none⟩ (ptr q)
 have hle := hb.size
 refine ⟨⟨b,ps.set i q,fun j g => if j = i then w.heap.size <= g /\ g < w2.heap.size else G j g /\ g < w.heap.size,?_⟩,(Turn.new hb).setCell (.inl h.inb) _⟩
 refine ⟨?_,?_,by rw [List.length_set,List.length_set,h.len],by rw [List.length_set]; exact h.most,by rw [List.length_set]; exact h.some_,.inl h.inp,.inl h.inb,h.ne,?_,?_,?_⟩
 ·rw [List.length_set]
  exact (hfar p h.ne).trans (h.box.below hb hplt)
 ·have h1 := (h.row.below hb hblt).set_ i (ptr q)
  rw [List.map_set]
  simpa using h1
 ·intro j q' l' h1 h2
  by_cases hj : j = i
  ·subst hj
   rw [List.getElem?_set_self hip] at h1
   rw [List.getElem?_set_self hi] at h2
   obtain rfl := Option.some.inj h1
   obtain rfl := Option.some.inj h2
   refine (hq.mono fun g hg hG => ?_).keep fun g hg hG => hfar g ?_
   ·rw [if_pos rfl]; exact hG
   ·rw [if_pos rfl] at hG; omega
  ·rw [List.getElem?_set_ne (fun e => hj e.symm)] at h1 h2
   have hjl : j < T.length := (List.getElem?_eq_some_iff.1 h2).1
   have h3 := h.each j q' l' h1 h2
   have h4 : IdxAt w2 (fun g => G j g /\ g < w.heap.size) q' l' := (h3.mono (F' := fun g => G j g /\ g < w.heap.size) fun g hg hG => ⟨hG,hg⟩).new hb
   refine (h4.mono fun g hg hG => ?_).keep fun g hg hG => hfar g ?_
   ·rw [if_neg hj]; exact hG
   ·rw [if_neg hj] at hG
    exact (h.ing j g hjl hG.2 hG.1).2.2
 ·intro j g hj hg hG
  rw [List.length_set] at hj
  by_cases hji : j = i
  ·rw [if_pos hji] at hG
   exact ⟨.inr ⟨hG.1,hg⟩,by omega,by omega⟩
  ·rw [if_neg hji] at hG
   have := h.ing j g hj hG.2 hG.1
   exact ⟨.inl this.1,this.2⟩
 ·intro j k g hj hk hjk hg h1 h2
  rw [List.length_set] at hj hk
  by_cases hji : j = i
  ·rw [if_pos hji] at h1
   rw [if_neg (fun e => hjk (hji.trans e.symm))] at h2
   omega
  ·rw [if_neg hji] at h1
   by_cases hki : k = i
   ·rw [if_pos hki] at h2
    omega
   ·rw [if_neg hki] at h2
    exact h.apart j k g hj hk hjk h1.2 h1.1 h2.1
end
def SetTurned (w : World) (F : Nat -> Prop) (p : Nat) (b : Bool) (T : List (List Rw)) (e : Ending) (w' : World) : Prop :=
 e = .returned (.bool b) /\ SetAt w' (Out F w w') p T /\ Turn F w w'
def load (T : List (List Rw)) (t : Int) (rows : List Rw) : List (List Rw) := if isT T t then T.set t.toNat (make rows) else T
theorem load_any (F : Nat -> Prop) (p : Nat) (T : List (List Rw)) (t : Int) (A : Option Addr) (n c : Nat) (rows : List Rw) (w : World) (h : SetAt w F p T) (hr : Rs w w.heap.size A n c rows) (hsz : n <= 1099511627774) :
 Calls Tryz.prog 98 #[.pointer (some ⟨p,0,none⟩),.int .i64 t,.slice A n c] w (SetTurned w F p (isT T t) (load T t rows)) := by
 have HH := hid (has_any F p T t w h)
 have HS := hid h
 obtain ⟨b,ps,G,h⟩ := h
 have c0 : w.cell? ⟨p,0,none⟩ = some (.slice (some ⟨b,0,none⟩) T.length T.length) := h.box.cell 0
 cases ht : isT T t with
 | false =>
   have HT := hid ht
   clear h ht
   go_enter Tryz.func98,Tryz.ntmps98
   go_wp2_with fail
   refine HH.out.mono ?_
   rintro e w1 ⟨rfl,rfl⟩
   rw [HT.out]
   go_wp2
   go_ret
   refine ⟨rfl,?_,.refl _ _⟩
   unfold load
   rw [HT.out]
   exact HS.out.mono fun i _ hi => .inl hi
 | true =>
   obtain ⟨i,rfl,hi⟩ := isT_nat ht
   obtain ⟨q0,l0,e1,e2,c1,hq0⟩ := h.get hi
   have hz : w.frozen? ⟨b,i,none⟩ = false := h.row.frozen i
   have hi2 : (i : Int) < (T.length : Int) := by omega
   have HL := hid (show load T (i : Int) rows = T.set i (make rows) by unfold load; rw [ht,if_pos rfl,Int.toNat_natCast])
   have HT := hid ht
   have HI := hid h
   have HR := hid hr
   have hblt : b < w.heap.size := h.row.lt
   have hpb : p ≠ b := h.ne
   have hsome : (w.cell? ⟨b,i,none⟩).isSome = true := by rw [c1]; rfl
   clear h ht e1 e2 hq0 hr
   rw [HL.out]
   go_enter Tryz.func98,Tryz.ntmps98
   go_wp2_with fail
   refine HH.out.mono ?_
   rintro e w1 ⟨rfl,rfl⟩
   rw [HT.out]
   go_wp2_with fail
   go_region_with (first
    | (go_at_call 93; refine (new_any w.heap.size A n c rows w.drew (HR.out.below (held_start w)) (Nat.le_refl _) hsz).mono ?_; rintro e w2 ⟨q,rfl,hq,hb2⟩; have hb2' : Below w.heap.size w w2 := held_two (held_start w) hb2; have d0 := held_cell hb2' c0; have d1 := held_cell hb2' c1; have dz := (HI.out.row.below hb2' hblt).frozen i; have HQ := hid (And.intro hq hb2'); clear hb2 hb2' hq)
    | fail)
   all_goals (go_wp2; go_ret; exact ⟨rfl,HI.out.lay hi HQ.out.1 HQ.out.2⟩)
end Tbl
namespace Tbl
open Go.RowKit Base IdxMath Foot Idx
def nilp : Value := .pointer none
def half (ps : List Nat) (m : Nat) : Array Value := (ps.map ptr ++ List.replicate m nilp).toArray
theorem half_at (ps : List Nat) (m : Nat) (hm : 0 < m) : (half ps m)[ps.length]? = some nilp := by
 simp [half,hm]
theorem half_set (ps : List Nat) (m q : Nat) : (half ps (m + 1)).setIfInBounds ps.length (ptr q) = half (ps ++ [q]) m := by
 simp [half,List.replicate_succ,List.set_append]
structure Half (w wr : World) (g p n k : Nat) (ps : List Nat) (G : Nat -> Nat -> Prop) : Prop where
 box : Blk wr p 125 #[.slice (some ⟨g,0,none⟩) n n]
 row : Blk wr g 122 (half ps (n - k))
 len : ps.length = k
 le : k <= n
 ne : p ≠ g
 hg : w.heap.size <= g
 hp : w.heap.size <= p
 each : ∀ i q,ps[i]? = some q -> IdxAt wr (G i) q []
 ing : ∀ i x,i < k -> x < wr.heap.size -> G i x -> w.heap.size <= x /\ x ≠ p /\ x ≠ g
 apart : ∀ i j x,i < k -> j < k -> i ≠ j -> x < wr.heap.size -> G i x -> ¬ G j x
 new : Below w.heap.size w wr
def Part (w wr : World) (g p n k : Nat) : Prop := ∃ ps G,Half w wr g p n k ps G
theorem Part.lay {w wr w2 : World} {g p n k q : Nat} (h : Part w wr g p n k) (hk : k < n) (hq : IdxAt w2 (fun x => wr.heap.size <= x /\ x < w2.heap.size) q []) (hb : Below wr.heap.size wr w2) : Part w (w2.setCell ⟨g,k,none⟩ (ptr q)) g p n (k + 1) := by
 obtain ⟨ps,G,h⟩ := h
 have hfar : ∀ x,x ≠ g -> (w2.setCell ⟨g,k,none⟩ (ptr q)).heap[x]? = w2.heap[x]? := fun x hx => Below.heap_setCell w2 _ _ x hx
 have hplt := h.box.lt
 have hglt := h.row.lt
 have hsz := size_setCell w2 ⟨g,k,none⟩ (ptr q)
 have hle := hb.size
 have hlen := h.len
 refine ⟨ps ++ [q],fun j x => if j = k then wr.heap.size <= x /\ x < w2.heap.size else G j x /\ x < wr.heap.size,?_⟩
 refine ⟨(hfar p h.ne).trans (h.box.below hb hplt),?_,by rw [List.length_append,h.len]; rfl,hk,h.ne,h.hg,h.hp,?_,?_,?_,?_⟩
 ·have h1 := (h.row.below hb hglt).set_ k (ptr q)
  rw [show n - k = n - (k + 1) + 1 by omega,<- hlen,half_set] at h1
  rw [<- hlen]
  exact h1
 ·intro j q' h1
  by_cases hj : j = k
  ·subst hj
   rw [<- hlen,List.getElem?_append_right (Nat.le_refl _),Nat.sub_self] at h1
   obtain rfl := Option.some.inj h1
   refine (hq.mono fun x hx hG => ?_).keep fun x hx hG => hfar x ?_
   ·rw [if_pos rfl]; exact hG
   ·rw [if_pos rfl] at hG; omega
  ·have hjk : j < k := by
    have := (List.getElem?_eq_some_iff.1 h1).1
    rw [List.length_append,hlen] at this
    simp only [List.length_cons,List.length_nil] at this
    omega
   rw [List.getElem?_append_left (by omega)] at h1
   have h4 : IdxAt w2 (fun x => G j x /\ x < wr.heap.size) q' [] := ((h.each j q' h1).mono (F' := fun x => G j x /\ x < wr.heap.size) fun x hx hG => ⟨hG,hx⟩).new hb
   refine (h4.mono fun x hx hG => ?_).keep fun x hx hG => hfar x ?_
   ·rw [if_neg hj]; exact hG
   ·rw [if_neg hj] at hG
    exact (h.ing j x hjk hG.2 hG.1).2.2
 ·intro j x hj hx hG
  by_cases hjk : j = k
  ·rw [if_pos hjk] at hG
   have := h.hg
   exact ⟨by omega,by omega,by omega⟩
  ·rw [if_neg hjk] at hG
   exact h.ing j x (by omega) hG.2 hG.1
 ·intro i j x hi hj hij hx h1 h2
  by_cases hik : i = k
  ·rw [if_pos hik] at h1
   rw [if_neg (fun e => hij (hik.trans e.symm))] at h2
   omega
  ·rw [if_neg hik] at h1
   by_cases hjk : j = k
   ·rw [if_pos hjk] at h2
    omega
   ·rw [if_neg hjk] at h2
    exact h.apart i j x (by omega) (by omega) hij h1.2 h1.1 h2.1
 ·exact (Turn.below (F := fun x => w.heap.size <= x) ((Turn.new (F := fun x => w.heap.size <= x) (held_two h.new hb)).setCell (.inl h.hg) _) (fun i hi => hi) (Nat.le_refl _))
theorem Part.done {w wr : World} {g p n : Nat} (h : Part w wr g p n n) (h1 : 1 <= n) (h8 : n <= 8) : SetAt wr (fun i => w.heap.size <= i /\ i < wr.heap.size) p (List.replicate n []) := by
 obtain ⟨ps,G,h⟩ := h
 have hl : (List.replicate n ([] : List Rw)).length = n := List.length_replicate
 refine ⟨g,ps,G,?_⟩
 refine ⟨by rw [hl]; exact h.box,?_,by rw [hl,h.len],by rw [hl]; exact h8,by rw [hl]; exact h1,⟨h.hp,h.box.lt⟩,⟨h.hg,h.row.lt⟩,h.ne,?_,?_,?_⟩
 ·have := h.row
  rw [Nat.sub_self] at this
  unfold half at this
  simpa using this
 ·intro i q l e1 e2
  obtain rfl : l = [] := List.eq_of_mem_replicate (List.mem_of_getElem? e2)
  exact h.each i q e1
 ·intro i x hi hx hG
  rw [hl] at hi
  have := h.ing i x hi hx hG
  exact ⟨⟨this.1,hx⟩,this.2⟩
 ·intro i j x hi hj
  rw [hl] at hi hj
  exact h.apart i j x hi hj
theorem Part.start {w w1 : World} {n : Nat} (ho : w1.ownsRow w.heap.size 122 1 (.slice (some ⟨w.heap.size,0,none⟩) n n) n (List.replicate n nilp)) (hb : Below w.heap.size w w1) (hn : 1 <= n) :
 Part w (w1.alloc (.cells #[.slice (some ⟨w.heap.size,0,none⟩) n n] 125)) w.heap.size w1.heap.size n 0 := by
 rcases ho.2 with ⟨hv,h0⟩ | ⟨b,cap,cur,hv,hbase,hg,h1,h2,h3,h4⟩
 ·omega
 ·simp only [Value.slice.injEq,Option.some.injEq,Addr.mk.injEq] at hv
  obtain ⟨⟨rfl,_⟩,_,rfl⟩ := hv
  have hc : cur = half [] n := by
   apply Array.toList_inj.1
   rw [List.take_of_length_le (by rw [Array.length_toList,h3]; exact Nat.le_refl _)] at h4
   rw [h4]
   simp [half]
  subst hc
  have hlt : w.heap.size < w1.heap.size := Blk.lt (w := w1) hg
  refine ⟨[],fun _ _ => False,Blk.new _ _ _,Blk.alloc hg _,rfl,Nat.zero_le _,by omega,Nat.le_refl _,by omega,?_,?_,?_,hb.alloc hb.size _⟩
  ·intro i q h; simp at h
  ·intro i x hi; omega
  ·intro i j x hi; omega
def Made (w : World) (n : Int) (e : Ending) (w' : World) : Prop :=
 if 1 <= n /\ n <= 8 then ∃ p,e = .returned (.tuple #[.pointer (some ⟨p,0,none⟩),.int .i64 0]) /\ SetAt w' (fun i => w.heap.size <= i /\ i < w'.heap.size) p (List.replicate n.toNat []) /\ Below w.heap.size w w'
 else e = .returned (.tuple #[.pointer none,.int .i64 1]) /\ w' = w
theorem et : Elem Tryz.prog 123 122 1 8 (.agg #[nilp]) := .of (by rfl) (by rfl) rfl (by omega)
theorem new_any (n : Int) (w : World) : Calls Tryz.prog 36 #[.int .i64 n] w (Made w n) := by
 rcases Int.lt_or_le n 1 with h1 | h1
 ·go_enter Tryz.func36,Tryz.ntmps36
  go_wp2
  go_ret2
  unfold Made
  rw [if_neg (by omega)]
  exact ⟨rfl,rfl⟩
 rcases Int.lt_or_le 8 n with h8 | h8
 ·go_enter Tryz.func36,Tryz.ntmps36
  go_wp2
  go_ret2
  unfold Made
  rw [if_neg (by omega)]
  exact ⟨rfl,rfl⟩
 obtain ⟨m,rfl⟩ := Int.eq_ofNat_of_zero_le (show 0 <= n by omega)
 have HM1 : 1 <= m := by omega
 have HM8 : m <= 8 := by omega
 go_enter Tryz.func36,Tryz.ntmps36
 go_wp2_with (first
  | (refine wpList_make_elem _ rfl (.tmp 12) (.tmp 12) rfl et w.heap.size .i64 .i64 _ _ m rfl rfl rfl rfl (by omega) (by omega) (Nat.le_refl _) ?_
     intro w1 ho1 hb1
     replace ho1 : w1.ownsRow w.heap.size 122 1 (.slice (some ⟨w.heap.size,0,none⟩) m m) m (madeCells #[nilp] (m * 1)).toList := ho1
     rw [Nat.mul_one,toList_madeCells_one] at ho1
     have HP := hid (Part.start ho1 hb1 HM1)
     clear ho1 hb1))
 generalize w1.alloc (.cells #[.slice (some ⟨w.heap.size,0,none⟩) m m] 125) = w2 at HP ⊢
 generalize w1.heap.size = p at HP ⊢
 generalize w.heap.size = g at HP ⊢
 clear w1
 go_loopw [21,5] (fun vi vj wr => ∃ k : Nat,vi = .int .i64 k /\ k <= m /\ Part w wr g p m k) (fun vi _ _ => m - (RowKit.intOf vi).toNat)
 case atStart => exact ⟨0,rfl,Nat.zero_le _,HP.out⟩
 case round =>
  obtain ⟨k,rfl,hk,hpart⟩ := hrel
  have HK := hid hpart
  clear HP
  obtain ⟨ps,G,hH⟩ := hpart
  have c0 : wr.cell? ⟨p,0,none⟩ = some (.slice (some ⟨g,0,none⟩) m m) := hH.box.cell 0
  by_cases hkm : k < m
  ·have l1 : (k : Int) < (m : Int) := by omega
   have c1 : wr.cell? ⟨g,k,none⟩ = some nilp := by rw [hH.row.cell k,<- hH.len]; exact half_at _ _ (by have := hH.len; omega)
   have z1 : wr.frozen? ⟨g,k,none⟩ = false := hH.row.frozen k
   have HR := hid hH.row
   have hglt : g < wr.heap.size := hH.row.lt
   clear hH
   go_wp2_with fail
   go_region_with (first
    | (go_at_call 93; refine (Idx.new_any wr.heap.size none 0 0 [] wr.drew (Rs.nil_ _ _) (Nat.le_refl _) (by omega)).mono ?_; rintro e w3 ⟨q,rfl,hq,hb2⟩; have hb2' : Below wr.heap.size wr w3 := held_two (held_start wr) hb2; have d0 := held_cell hb2' c0; have d1 := held_cell hb2' c1; have dz := (HR.out.below hb2' hglt).frozen k; have HQ := hid (And.intro hq hb2'); clear hb2 hb2' hq)
    | fail)
   all_goals (go_wp2; refine ⟨⟨k + 1,by rw [Int.natCast_add]; rfl,hkm,HK.out.lay hkm HQ.out.1 HQ.out.2⟩,?_⟩; simp only [RowKit.intOf,Int.toNat_natCast]; omega)
  ·have l1 : decide ((k : Int) < (m : Int)) = false := decide_eq_false (by omega)
   obtain rfl : k = m := by omega
   clear hH
   go_wp2
   go_ret2
   unfold Made
   rw [if_pos (by omega)]
   obtain ⟨ps',G',hH'⟩ := HK.out
   exact ⟨p,rfl,by rw [Int.toNat_natCast]; exact HK.out.done HM1 HM8,hH'.new⟩
end Tbl
namespace Field
open Go.RowKit Base
def modZ (v : Int) (n : Nat) : Nat := ((v % 18446744073709551616) % n).toNat
theorem modZ_lt (v : Int) {n : Nat} (h : 0 < n) : modZ v n < n := by
 unfold modZ
 have h1 := Int.emod_nonneg (v % 18446744073709551616) (b := (n : Int)) (by omega)
 have h2 := Int.emod_lt_of_pos (v % 18446744073709551616) (b := (n : Int)) (by omega)
 omega
theorem mod_any (v : Int) (n : Nat) (w : World) (hn : 0 < n) (hm : n <= 1099511627776) :
 Calls Tryz.prog 12 #[.int .i64 v,.int .i64 n] w fun e w' => e = .returned (.int .i64 (modZ v n)) /\ w = w' := by
 have hne : ((n : Int) == 0) = false := by simp; omega
 go_enter Tryz.func12,Tryz.ntmps12
 go_wp2
 go_ret
 refine ⟨ret_int ?_,rfl⟩
 have hw : IntKind.u64.wrap v = v % 18446744073709551616 := by simp [IntKind.wrap,IntKind.bits,IntKind.signed]
 have h0 : 0 <= v % 18446744073709551616 := Int.emod_nonneg _ (by omega)
 rw [hw,Int.tmod_eq_emod_of_nonneg h0]
 unfold modZ
 generalize v % 18446744073709551616 = y at h0
 have h1 : 0 <= y % (n : Int) := Int.emod_nonneg _ (by omega)
 have h2 : y % (n : Int) < n := Int.emod_lt_of_pos _ (by omega)
 generalize y % (n : Int) = z at h1 h2
 rw [IntWalk.wrap64_in z (by omega)]
 omega
end Field
namespace Field
open Go.RowKit Base
theorem extract_take (s : ByteArray) (n : Nat) : s.extract 0 n = str (s.data.toList.take n) := by
 have h : (s.extract 0 n).data.toList = s.data.toList.take n := by simp [ByteArray.data_extract]
 rw [<- str_of (s.extract 0 n),h]
theorem cut_any (s : ByteArray) (n : Nat) (w : World) (_hs : s.size <= 9223372036854775807) (hn : n <= 1099511627776) :
 Calls Tryz.prog 100 #[.string s,.int .i64 n] w fun e w' => e = .returned (.string (str (s.data.toList.take n))) /\ w = w' := by
 by_cases hlt : n < s.size
 ·go_enter Tryz.func100,Tryz.ntmps100
  go_wp2
  go_ret
  exact ⟨by rw [<- extract_take]; rfl,rfl⟩
 ·have e : str (s.data.toList.take n) = s := by rw [List.take_of_length_le (by rw [size_list]; omega),str_of]
  rw [e]
  clear e
  go_enter Tryz.func100,Tryz.ntmps100
  go_wp2
  go_ret
  exact ⟨rfl,rfl⟩
end Field
namespace Field
open Go.RowKit Base
def bigZ (v : Int) (n : Nat) : Nat := ((v % 18446744073709551616) % n).toNat
theorem bigZ_lt (v : Int) {n : Nat} (h : 0 < n) : bigZ v n < n := by
 unfold bigZ
 have h1 := Int.emod_nonneg (v % 18446744073709551616) (b := (n : Int)) (by omega)
 have h2 := Int.emod_lt_of_pos (v % 18446744073709551616) (b := (n : Int)) (by omega)
 omega
theorem playbig_any (v : Int) (n : Nat) (w : World) (hn : 0 < n) (hm : n <= 1099511627776) :
 Calls Tryz.prog 31 #[.int .i64 v,.int .i64 n] w fun e w' => e = .returned (.int .i64 (bigZ v n)) /\ w = w' := by
 have hne : ((n : Int) == 0) = false := by simp; omega
 go_enter Tryz.func31,Tryz.ntmps31
 go_wp2
 go_ret
 refine ⟨ret_int ?_,rfl⟩
 have hw : IntKind.u64.wrap v = v % 18446744073709551616 := by simp [IntKind.wrap,IntKind.bits,IntKind.signed]
 have h0 : 0 <= v % 18446744073709551616 := Int.emod_nonneg _ (by omega)
 rw [hw,Int.tmod_eq_emod_of_nonneg h0]
 unfold bigZ
 generalize v % 18446744073709551616 = y at h0
 have h1 : 0 <= y % (n : Int) := Int.emod_nonneg _ (by omega)
 have h2 : y % (n : Int) < n := Int.emod_lt_of_pos _ (by omega)
 generalize y % (n : Int) = z at h1 h2
 rw [IntWalk.wrap64_in z (by omega)]
 omega
end Field
end Go.Proofs.YtefnmnpfecfdaaaGreat
