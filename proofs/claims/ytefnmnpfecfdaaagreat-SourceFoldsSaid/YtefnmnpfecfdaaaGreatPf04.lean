/-
  Texts of one proof: IdxMath, FoldMath, OpenFlat.
-/
import Derived.Test.YtefnmnpfecfdaaaGreatPf02
import Derived.Test.YtefnmnpfecfdaaaGreatPf03
import Derived.Deep.Fields
import Derived.OpenShut
import Derived.ProofKit
import Derived.SizedLaws
set_option linter.all false
set_option maxRecDepth 100000
set_option maxHeartbeats 200000
namespace Go.Proofs.YtefnmnpfecfdaaaGreat
namespace IdxMath
structure Rw where
 key : Int
 val : ByteArray
def noRw : Rw := ⟨0,⟨#[]⟩⟩
instance : Inhabited Rw := ⟨noRw⟩
def put : List Rw -> Int -> ByteArray -> List Rw
 | [],k,v => [⟨k,v⟩]
 | x :: r,k,v => if x.key < k then x :: put r k v else if x.key = k then ⟨k,v⟩ :: r else ⟨k,v⟩ :: x :: r
def there : List Rw -> Int -> Bool
 | [],_ => false
 | x :: r,k => if x.key < k then there r k else decide (x.key = k)
def pos : List Rw -> Int -> Nat
 | [],_ => 0
 | x :: r,k => if x.key < k then pos r k + 1 else 0
def aft (l : List Rw) (k : Int) : Nat := if there l k then pos l k + 1 else pos l k
def del (l : List Rw) (k : Int) : List Rw := if there l k then l.eraseIdx (pos l k) else l
def get (l : List Rw) (k : Int) : Option ByteArray := (l.find? fun x => decide (x.key = k)).map Rw.val
def make (rows : List Rw) : List Rw := rows.foldl (fun l r => put l r.key r.val) []
def Rise (l : List Rw) : Prop := l.Pairwise fun a b => a.key < b.key
def Srt (l : List Rw) : Prop := l.Pairwise fun a b => a.key <= b.key
theorem pos_le (l : List Rw) (k : Int) : pos l k <= l.length := by
 induction l with
 | nil => exact Nat.le_refl _
 | cons x r ih =>
   unfold pos
   split
   ·rw [List.length_cons]; omega
   ·omega
theorem put_eq (l : List Rw) (k : Int) (v : ByteArray) : put l k v = l.take (pos l k) ++ ⟨k,v⟩ :: l.drop (aft l k) := by
 unfold aft
 induction l with
 | nil => simp [put,pos,there]
 | cons x r ih =>
   unfold put pos there
   by_cases h : x.key < k
   ·simp only [if_pos h]
    rw [ih]
    by_cases ht : there r k = true
    ·simp [ht]
    ·simp [ht]
   ·by_cases h2 : x.key = k
    ·simp [h2]
    ·simp [h,h2]
theorem pos_split (l : List Rw) (k : Int) (h : there l k = true) : ∃ x,l[pos l k]? = some x /\ x.key = k := by
 induction l with
 | nil => simp [there] at h
 | cons x r ih =>
   unfold there at h
   unfold pos
   by_cases hx : x.key < k
   ·rw [if_pos hx] at h
    rw [if_pos hx]
    simpa using ih h
   ·rw [if_neg hx] at h
    rw [if_neg hx]
    exact ⟨x,rfl,by simpa using h⟩
theorem pos_lt {l : List Rw} {k : Int} (h : there l k = true) : pos l k < l.length := by
 obtain ⟨x,hx,_⟩ := pos_split l k h
 exact (List.getElem?_eq_some_iff.1 hx).1
theorem put_there {l : List Rw} {k : Int} {v : ByteArray} (h : there l k = true) : put l k v = l.set (pos l k) ⟨k,v⟩ := by
 rw [put_eq,aft,if_pos h,List.set_eq_take_append_cons_drop,if_pos (pos_lt h)]
theorem put_new {l : List Rw} {k : Int} {v : ByteArray} (h : there l k = false) : put l k v = l.take (pos l k) ++ ⟨k,v⟩ :: l.drop (pos l k) := by
 rw [put_eq,aft,if_neg (by simp [h])]
theorem put_length (l : List Rw) (k : Int) (v : ByteArray) : (put l k v).length = if there l k then l.length else l.length + 1 := by
 cases h : there l k with
 | true => rw [put_there h,List.length_set]; rfl
 | false =>
   have := pos_le l k
   rw [put_new h,List.length_append,List.length_cons,List.length_take,List.length_drop]
   simp only [Bool.false_eq_true,if_false]
   omega
theorem put_length_le (l : List Rw) (k : Int) (v : ByteArray) : (put l k v).length <= l.length + 1 := by
 rw [put_length]
 split <;> omega
def Lo (l : List Rw) (i : Nat) (k : Int) : Prop := ∀ p x,p < i -> l[p]? = some x -> x.key < k
def Hi (l : List Rw) (j : Nat) (k : Int) : Prop := ∀ p x,j <= p -> l[p]? = some x -> k <= x.key
theorem pos_of {l : List Rw} {k : Int} {i : Nat} (hi : i <= l.length) (h1 : Lo l i k) (h2 : Hi l i k) : pos l k = i := by
 induction l generalizing i with
 | nil => simp at hi; subst hi; rfl
 | cons x r ih =>
   unfold pos
   cases i with
   | zero =>
     have := h2 0 x (Nat.le_refl _) rfl
     rw [if_neg (by omega)]
   | succ i =>
     have := h1 0 x (by omega) rfl
     rw [if_pos this,ih (i := i) (by simpa using hi) (fun p y hp hy => h1 (p + 1) y (by omega) (by simpa using hy)) (fun p y hp hy => h2 (p + 1) y (by omega) (by simpa using hy))]
theorem there_of {l : List Rw} {k : Int} : there l k = match l[pos l k]? with | some x => decide (x.key = k) | none => false := by
 induction l with
 | nil => rfl
 | cons x r ih =>
   unfold there pos
   by_cases h : x.key < k
   ·rw [if_pos h,if_pos h,ih]
    simp
   ·rw [if_neg h,if_neg h]
    rfl
theorem there_yes {l : List Rw} {k : Int} {x : Rw} (hx : l[pos l k]? = some x) (h : x.key = k) : there l k = true := by
 rw [there_of,hx]
 simpa using h
theorem there_no {l : List Rw} {k : Int} {x : Rw} (hx : l[pos l k]? = some x) (h : x.key ≠ k) : there l k = false := by
 rw [there_of,hx]
 simpa using h
theorem there_end {l : List Rw} {k : Int} (h : l.length <= pos l k) : there l k = false := by
 rw [there_of,List.getElem?_eq_none h]
theorem Srt.get {l : List Rw} (h : Srt l) {p q : Nat} {x y : Rw} (hpq : p <= q) (hx : l[p]? = some x) (hy : l[q]? = some y) : x.key <= y.key := by
 rcases Nat.lt_or_ge p q with hlt | hge
 ·obtain ⟨hp,rfl⟩ := List.getElem?_eq_some_iff.1 hx
  obtain ⟨hq,rfl⟩ := List.getElem?_eq_some_iff.1 hy
  exact List.pairwise_iff_getElem.1 h p q hp hq hlt
 ·obtain rfl : p = q := by omega
  rw [hx] at hy
  injection hy with hy
  subst hy
  exact Int.le_refl _
theorem Rise.srt {l : List Rw} (h : Rise l) : Srt l := h.imp fun h => Int.le_of_lt h
theorem Rise.get {l : List Rw} (h : Rise l) {p q : Nat} {x y : Rw} (hpq : p < q) (hx : l[p]? = some x) (hy : l[q]? = some y) : x.key < y.key := by
 obtain ⟨hp,rfl⟩ := List.getElem?_eq_some_iff.1 hx
 obtain ⟨hq,rfl⟩ := List.getElem?_eq_some_iff.1 hy
 exact List.pairwise_iff_getElem.1 h p q hp hq hpq
theorem Srt.lo {l : List Rw} (h : Srt l) {p : Nat} {x : Rw} {k : Int} (hx : l[p]? = some x) (hk : x.key < k) : Lo l (p + 1) k := fun q y hq hy => by
 have := h.get (p := q) (q := p) (by omega) hy hx
 omega
theorem Srt.hi {l : List Rw} (h : Srt l) {p : Nat} {x : Rw} {k : Int} (hx : l[p]? = some x) (hk : k <= x.key) : Hi l p k := fun q y hq hy => by
 have := h.get (p := p) (q := q) hq hx hy
 omega
theorem put_mem {l : List Rw} {k : Int} {v : ByteArray} {x : Rw} (h : x ∈ put l k v) : x = ⟨k,v⟩ \/ x ∈ l := by
 induction l with
 | nil => simpa [put] using h
 | cons y r ih =>
   unfold put at h
   split at h
   ·rcases List.mem_cons.1 h with h | h
    ·exact .inr (by rw [h]; exact List.mem_cons_self)
    ·exact (ih h).imp id (List.mem_cons_of_mem _)
   ·split at h
    ·rcases List.mem_cons.1 h with h | h
     ·exact .inl h
     ·exact .inr (List.mem_cons_of_mem _ h)
    ·rcases List.mem_cons.1 h with h | h
     ·exact .inl h
     ·exact .inr h
theorem Rise.nil : Rise [] := List.Pairwise.nil
theorem Rise.put {l : List Rw} (h : Rise l) (k : Int) (v : ByteArray) : Rise (put l k v) := by
 induction l with
 | nil => exact List.pairwise_singleton _ _
 | cons x r ih =>
   have hx := fun z hz => List.rel_of_pairwise_cons h (a' := z) hz
   have hr : Rise r := List.Pairwise.of_cons h
   unfold IdxMath.put
   split
   ·next h1 =>
    refine List.Pairwise.cons (fun y hy => ?_) (ih hr)
    rcases put_mem hy with e | e
    ·rw [e]; exact h1
    ·exact hx _ e
   ·split
    ·next h2 => exact List.Pairwise.cons (fun y hy => by have := hx _ hy; show k < y.key; omega) hr
    ·next h1 h2 =>
     refine List.Pairwise.cons (fun y hy => ?_) h
     show k < y.key
     rcases List.mem_cons.1 hy with e | e
     ·rw [e]; omega
     ·have := hx _ e; omega
theorem Rise.sub {l m : List Rw} (h : Rise l) (hs : m.Sublist l) : Rise m := List.Pairwise.sublist hs h
theorem Rise.del {l : List Rw} (h : Rise l) (k : Int) : Rise (del l k) := by
 unfold IdxMath.del
 split
 ·exact h.sub (List.eraseIdx_sublist _ _)
 ·exact h
theorem Rise.make (rows : List Rw) : Rise (make rows) := by
 unfold IdxMath.make
 suffices ∀ (r l : List Rw),Rise l -> Rise (r.foldl (fun l r => IdxMath.put l r.key r.val) l) from this _ _ Rise.nil
 intro r
 induction r with
 | nil => exact fun l h => h
 | cons x r ih => exact fun l h => ih _ (h.put _ _)
theorem make_snoc (rows : List Rw) (x : Rw) : make (rows ++ [x]) = put (make rows) x.key x.val := by
 unfold make
 rw [List.foldl_append]
 rfl
theorem get_cons (x : Rw) (r : List Rw) (k : Int) : get (x :: r) k = if x.key = k then some x.val else get r k := by
 unfold get
 by_cases h : x.key = k
 ·simp [List.find?_cons,h]
 ·simp [List.find?_cons,h]
theorem get_put (l : List Rw) (h : Rise l) (k : Int) (v : ByteArray) (k' : Int) : get (put l k v) k' = if k = k' then some v else get l k' := by
 induction l with
 | nil => simp [put,get_cons]
 | cons x r ih =>
   have hr : Rise r := List.Pairwise.of_cons h
   unfold put
   split
   ·next h1 =>
    rw [get_cons,ih hr,get_cons]
    by_cases e : k = k'
    ·subst e; simp; intro h2; omega
    ·simp [e]
   ·split
    ·next h2 =>
     rw [get_cons,get_cons]
     by_cases e : k = k'
     ·simp [e]
     ·simp [e]; intro h3; omega
    ·rw [get_cons]
theorem get_none {l : List Rw} {k : Int} (h : ∀ x ∈ l,x.key ≠ k) : get l k = none := by
 unfold get
 rw [List.find?_eq_none.2 (by simpa using h)]
 rfl
theorem get_head {x : Rw} {r : List Rw} : get (x :: r) x.key = some x.val := by rw [get_cons,if_pos rfl]
theorem rise_ext {a b : List Rw} (ha : Rise a) (hb : Rise b) (h : ∀ k,get a k = get b k) : a = b := by
 induction a generalizing b with
 | nil =>
   cases b with
   | nil => rfl
   | cons y s =>
     have := h y.key
     rw [get_head] at this
     cases this
 | cons x r ih =>
   cases b with
   | nil =>
     have := h x.key
     rw [get_head] at this
     cases this
   | cons y s =>
     have hx := fun z hz => List.rel_of_pairwise_cons ha (a' := z) hz
     have hy := fun z hz => List.rel_of_pairwise_cons hb (a' := z) hz
     have hk : x.key = y.key := by
      rcases Int.lt_trichotomy x.key y.key with h1 | h1 | h1
      ·have := h x.key
       rw [get_head,get_none (by
        intro z hz
        rcases List.mem_cons.1 hz with e | e
        ·rw [e]; omega
        ·have := hy z e; omega)] at this
       cases this
      ·exact h1
      ·have := h y.key
       rw [get_head,get_none (by
        intro z hz
        rcases List.mem_cons.1 hz with e | e
        ·rw [e]; omega
        ·have := hx z e; omega)] at this
       cases this
     have hv := h x.key
     rw [get_head,hk,get_head] at hv
     injection hv with hv
     have e : x = y := by cases x; cases y; simp_all
     subst e
     rw [ih (b := s) (List.Pairwise.of_cons ha) (List.Pairwise.of_cons hb) (fun k => by
      by_cases e : x.key = k
      ·rw [get_none (fun z hz => by have := hx z hz; omega),get_none (fun z hz => by have := hy z hz; omega)]
      ·have := h k
       rw [get_cons,get_cons,if_neg e,if_neg e] at this
       exact this)]
theorem get_make (rows : List Rw) (k : Int) : get (make rows) k = get rows.reverse k := by
 unfold make
 have key : ∀ (r l : List Rw),Rise l -> get (r.foldl (fun l r => put l r.key r.val) l) k = (match get r.reverse k with | some v => some v | none => get l k) := by
  intro r
  induction r with
  | nil => intro l _; rfl
  | cons x r ih =>
    intro l hl
    rw [List.foldl_cons,ih _ (hl.put _ _),List.reverse_cons,get_put _ hl]
    have e : get (r.reverse ++ [x]) k = match get r.reverse k with | some v => some v | none => if x.key = k then some x.val else none := by
     unfold get
     rw [List.find?_append]
     cases h : r.reverse.find? (fun x => decide (x.key = k)) with
     | some z => simp
     | none =>
       by_cases h2 : x.key = k
       ·simp [h2]
       ·simp [h2]
    rw [e]
    cases get r.reverse k with
    | some v => rfl
    | none =>
      by_cases h2 : x.key = k
      ·simp [h2]
      ·simp [h2]
 rw [key _ _ Rise.nil]
 cases get rows.reverse k <;> rfl
theorem get_at {l : List Rw} (h : Rise l) (k : Int) : get l k = if there l k then (l[pos l k]?).map Rw.val else none := by
 induction l with
 | nil => rfl
 | cons x r ih =>
   have hr : Rise r := List.Pairwise.of_cons h
   rw [get_cons]
   unfold there pos
   by_cases h1 : x.key < k
   ·simp only [if_pos h1]
    rw [if_neg (by omega),ih hr]
    simp
   ·simp only [if_neg h1]
    by_cases h2 : x.key = k
    ·simp [h2]
    ·rw [if_neg h2,get_none (fun z hz => by have := List.rel_of_pairwise_cons h hz; omega)]
     simp [h2]
theorem del_find {l : List Rw} (h : Rise l) (k : Int) : del l k = l.eraseP fun x => decide (x.key = k) := by
 unfold del
 induction l with
 | nil => rfl
 | cons x r ih =>
   have hr : Rise r := List.Pairwise.of_cons h
   have hx := fun z hz => List.rel_of_pairwise_cons h (a' := z) hz
   unfold there pos
   by_cases h1 : x.key < k
   ·simp only [if_pos h1]
    rw [List.eraseP_cons_of_neg (by simp; omega),<- ih hr]
    by_cases ht : there r k = true
    ·simp [ht]
    ·simp [ht]
   ·simp only [if_neg h1]
    by_cases h2 : x.key = k
    ·simp [h2]
    ·have : r.eraseP (fun x => decide (x.key = k)) = r := List.eraseP_of_forall_not (fun z hz => by have := hx z hz; simp; omega)
     rw [List.eraseP_cons_of_neg (by simp [h2]),this]
     simp [h2]
theorem del_length (l : List Rw) (k : Int) : (del l k).length <= l.length := by
 unfold del
 split
 ·rw [List.length_eraseIdx]; split <;> omega
 ·exact Nat.le_refl _
def fk (k : Int) (l : List Rw) : List Rw := l.filter fun x => decide (x.key = k)
def St (a b : List Rw) : Prop := ∀ k,fk k b = fk k a
theorem fk_append (k : Int) (a b : List Rw) : fk k (a ++ b) = fk k a ++ fk k b := List.filter_append ..
theorem fk_nil {k : Int} {l : List Rw} (h : ∀ x ∈ l,x.key ≠ k) : fk k l = [] := List.filter_eq_nil_iff.2 (by simpa using h)
theorem St.refl (a : List Rw) : St a a := fun _ => rfl
theorem St.trans {a b c : List Rw} (h : St a b) (k : St b c) : St a c := fun x => (k x).trans (h x)
theorem St.app {a b c d : List Rw} (h : St a b) (k : St c d) : St (a ++ c) (b ++ d) := fun x => by rw [fk_append,fk_append,h,k]
theorem St.mem {a b : List Rw} (h : St a b) {x : Rw} (hx : x ∈ b) : x ∈ a := by
 have : x ∈ fk x.key b := List.mem_filter.2 ⟨hx,by simp⟩
 rw [h] at this
 exact (List.mem_filter.1 this).1
theorem St.swap {a b : List Rw} (h : ∀ x ∈ a,∀ y ∈ b,x.key ≠ y.key) : St (a ++ b) (b ++ a) := fun k => by
 rw [fk_append,fk_append]
 by_cases ha : fk k a = []
 ·rw [ha]; simp
 ·have : fk k b = [] := by
   obtain ⟨x,hx⟩ := List.exists_mem_of_ne_nil _ ha
   have h1 := List.mem_filter.1 hx
   refine fk_nil fun y hy e => h x h1.1 y hy ?_
   have := of_decide_eq_true h1.2
   omega
  rw [this]; simp
theorem St.swap2 {x y : Rw} (h : y.key < x.key) (p r : List Rw) : St (p ++ x :: y :: r) (p ++ y :: x :: r) := by
 have : St ([x] ++ [y]) ([y] ++ [x]) := St.swap (fun a ha b hb => by simp at ha hb; subst ha hb; omega)
 exact (St.refl p).app (this.app (St.refl r))
theorem get_fk (l : List Rw) (k : Int) : get l k = (fk k l).head?.map Rw.val := by
 unfold get fk
 rw [List.head?_filter]
theorem St.get {a b : List Rw} (h : St a b) (k : Int) : get b k = get a k := by rw [get_fk,get_fk,h]
theorem Srt.app {a b : List Rw} (ha : Srt a) (hb : Srt b) (h : ∀ x ∈ a,∀ y ∈ b,x.key <= y.key) : Srt (a ++ b) := List.pairwise_append.2 ⟨ha,hb,h⟩
theorem Srt.parts {a b : List Rw} (h : Srt (a ++ b)) : Srt a /\ Srt b /\ ∀ x ∈ a,∀ y ∈ b,x.key <= y.key := List.pairwise_append.1 h
theorem Srt.nil : Srt [] := List.Pairwise.nil
theorem Srt.one (x : Rw) : Srt [x] := List.pairwise_singleton _ _
def dd : Option Int -> List Rw -> List Rw
 | _,[] => []
 | o,x :: r => if o = some x.key then dd o r else x :: dd (some x.key) r
def last (o : Option Int) (l : List Rw) : Option Int := match l.getLast? with | some y => some y.key | none => o
theorem last_cons (o : Option Int) (x : Rw) (r : List Rw) : last o (x :: r) = last (some x.key) r := by
 unfold last
 cases r with
 | nil => rfl
 | cons y s => rw [List.getLast?_cons_cons]; rfl
theorem dd_snoc (o : Option Int) (l : List Rw) (x : Rw) : dd o (l ++ [x]) = dd o l ++ (if last o l = some x.key then [] else [x]) := by
 induction l generalizing o with
 | nil =>
   show dd o [x] = dd o [] ++ if o = some x.key then [] else [x]
   unfold dd
   split <;> simp [dd]
 | cons y r ih =>
   rw [List.cons_append,dd,dd,last_cons]
   split
   ·next h => rw [ih,h]
   ·rw [ih,List.cons_append]
def cpt (l : List Rw) : List Rw := dd none l
theorem dd_get (o : Option Int) (l : List Rw) (k : Int) (h : o ≠ some k) : get (dd o l) k = get l k := by
 induction l generalizing o with
 | nil => rfl
 | cons x r ih =>
   unfold dd
   split
   ·next e =>
    rw [ih _ h,get_cons,if_neg]
    rintro rfl
    exact h e
   ·rw [get_cons,get_cons]
    by_cases e : x.key = k
    ·rw [if_pos e,if_pos e]
    ·rw [if_neg e,if_neg e,ih]
     simpa using e
theorem dd_rise {o : Option Int} {l : List Rw} (h : Srt l) (ho : ∀ k,o = some k -> ∀ x ∈ l,k <= x.key) : Rise (dd o l) /\ ∀ k,o = some k -> ∀ x ∈ dd o l,k < x.key := by
 induction l generalizing o with
 | nil => exact ⟨Rise.nil,fun _ _ _ h => by cases h⟩
 | cons y r ih =>
   have hr : Srt r := List.Pairwise.of_cons h
   have hy := fun z hz => List.rel_of_pairwise_cons h (a' := z) hz
   unfold dd
   split
   ·exact ih hr fun k e x hx => ho k e x (List.mem_cons_of_mem _ hx)
   ·next hne =>
    obtain ⟨h1,h2⟩ := ih (o := some y.key) hr (fun k e x hx => by injection e with e; subst e; exact hy x hx)
    refine ⟨List.Pairwise.cons (fun z hz => h2 _ rfl z hz) h1,fun k e x hx => ?_⟩
    have hky := ho k e y List.mem_cons_self
    have hky2 : k ≠ y.key := fun e2 => hne (by rw [e,e2])
    rcases List.mem_cons.1 hx with e2 | e2
    ·rw [e2]; omega
    ·have := h2 _ rfl x e2
     omega
theorem cpt_make {rows S : List Rw} (h : Srt S) (hs : St rows.reverse S) : cpt S = make rows := by
 refine rise_ext (dd_rise h (fun _ e => by cases e)).1 (Rise.make rows) fun k => ?_
 rw [cpt,dd_get _ _ _ (by simp),hs.get,get_make]
theorem set_swap (p m r : List Rw) (x y : Rw) : ((p ++ x :: m ++ y :: r).set p.length y).set (p.length + 1 + m.length) x = p ++ y :: m ++ x :: r := by
 rw [List.append_assoc,List.cons_append,List.set_append_right _ _ (Nat.le_refl _),Nat.sub_self,List.set_cons_zero,
  List.set_append_right _ _ (by omega),show p.length + 1 + m.length - p.length = m.length + 1 by omega,List.set_cons_succ,
  List.set_append_right _ _ (Nat.le_refl _),Nat.sub_self,List.set_cons_zero]
 simp
theorem set_swap' (p m r : List Rw) (x y : Rw) : ((p ++ x :: m ++ y :: r).set (p.length + 1 + m.length) x).set p.length y = p ++ y :: m ++ x :: r := by
 rw [List.set_comm _ _ (by omega)]
 exact set_swap p m r x y
theorem get_app {p r : List Rw} {x : Rw} {i : Nat} (h : p.length = i) : (p ++ x :: r)[i]? = some x := by
 subst h
 rw [List.getElem?_append_right (Nat.le_refl _),Nat.sub_self]
 rfl
end IdxMath
namespace FoldMath
open IdxMath TxnMath
def step (r : List Rw) (c : Ch) : List Rw := if c.gone then del r c.key else put r c.key c.val
def stepT (t : Int) (r : List Rw) (c : Ch) : List Rw := if c.tbl = t then step r c else r
def rows (t : Int) (cs : List Ch) : List Rw := cs.foldl (stepT t) []
def chs (l : List Tx) (k : Nat) : List Ch := (l.take k).flatMap (·.chs)
def held (k : Int) (n : Nat) : Nat := min k.toNat n
def foldT (n : Int) (l : List Tx) (k : Int) : List (List Rw) := if 1 <= n /\ n <= 8 then (List.range n.toNat).map fun (t : Nat) => rows (t : Int) (chs l (held k l.length)) else []
theorem held_le (k : Int) (n : Nat) : held k n <= n := Nat.min_le_right _ _
theorem held_nat {k n : Nat} (h : k <= n) : held (k : Int) n = k := by unfold held; omega
theorem rows_snoc (t : Int) (cs : List Ch) (c : Ch) : rows t (cs ++ [c]) = stepT t (rows t cs) c := by unfold rows; rw [List.foldl_append]; rfl
theorem chs_zero (l : List Tx) : chs l 0 = [] := by simp [chs]
theorem chs_succ {l : List Tx} {k : Nat} {x : Tx} (h : l[k]? = some x) : chs l (k + 1) = chs l k ++ x.chs := by
 obtain ⟨hk,rfl⟩ := List.getElem?_eq_some_iff.1 h
 unfold chs
 rw [List.take_succ_eq_append_getElem hk,List.flatMap_append]
 simp
theorem step_rise {r : List Rw} (h : Rise r) (c : Ch) : Rise (step r c) := by
 unfold step
 split
 ·exact h.del _
 ·exact h.put _ _
theorem stepT_rise {r : List Rw} (h : Rise r) (t : Int) (c : Ch) : Rise (stepT t r c) := by
 unfold stepT
 split
 ·exact step_rise h c
 ·exact h
theorem foldl_rise {r : List Rw} (h : Rise r) (t : Int) (cs : List Ch) : Rise (cs.foldl (stepT t) r) := by
 induction cs generalizing r with
 | nil => exact h
 | cons c cs ih => exact ih (stepT_rise h t c)
theorem rows_rise (t : Int) (cs : List Ch) : Rise (rows t cs) := foldl_rise Rise.nil t cs
theorem step_length (r : List Rw) (c : Ch) : (step r c).length <= r.length + 1 := by
 unfold step
 split
 ·exact Nat.le_succ_of_le (del_length _ _)
 ·exact put_length_le _ _ _
theorem foldl_length (t : Int) (cs : List Ch) (r : List Rw) : (cs.foldl (stepT t) r).length <= r.length + cs.length := by
 induction cs generalizing r with
 | nil => simp
 | cons c cs ih =>
   have h1 := ih (stepT t r c)
   have h2 : (stepT t r c).length <= r.length + 1 := by
    unfold stepT
    split
    ·exact step_length r c
    ·omega
   rw [List.length_cons]
   show (cs.foldl (stepT t) (stepT t r c)).length <= _
   omega
theorem rows_length (t : Int) (cs : List Ch) : (rows t cs).length <= cs.length := by
 have := foldl_length t cs []
 simpa [rows] using this
theorem rows_mem {t : Int} {cs : List Ch} {x : Rw} (h : x ∈ rows t cs) : ∃ c ∈ cs,c.tbl = t /\ c.key = x.key /\ c.val = x.val /\ c.gone = false := by
 have key : ∀ (cs : List Ch) (r : List Rw),x ∈ cs.foldl (stepT t) r -> x ∈ r \/ ∃ c ∈ cs,c.tbl = t /\ c.key = x.key /\ c.val = x.val /\ c.gone = false := by
  intro cs
  induction cs with
  | nil => exact fun r h => .inl h
  | cons c cs ih =>
    intro r h
    rcases ih _ h with h1 | ⟨d,hd,h1⟩
    ·unfold stepT at h1
     split at h1
     ·next ht =>
      unfold step at h1
      split at h1
      ·next hg =>
       refine .inl ?_
       unfold IdxMath.del at h1
       split at h1
       ·exact List.mem_of_mem_eraseIdx h1
       ·exact h1
      ·next hg =>
       rcases put_mem h1 with rfl | h2
       ·exact .inr ⟨c,List.mem_cons_self,ht,rfl,rfl,by simpa using hg⟩
       ·exact .inl h2
     ·exact .inl h1
    ·exact .inr ⟨d,List.mem_cons_of_mem _ hd,h1⟩
 rcases key cs [] h with h1 | h1
 ·cases h1
 ·exact h1
end FoldMath
namespace Flat
open Go.RowKit Base
open Go.ChangeShapes Go.WideShapes Go.Deep
section
variable {H : Type} {enc : TypeId × Value -> H} {W : World} {a : Option Addr} {len cap : Nat} {d : DataW H} {p : List MemPlace}
theorem open_slice_fields {t e : TypeId} {fs : Array Field} {fuel : Nat} {cs : List Value} {x : DataW H × List MemPlace} {P : Program} {base : Nat} {spare : Nat -> Bool} {held : Bool} (ht : P.underlying t = some (.slice e)) (he : P.underlying e = some (.struct fs))
 (hone : oneCellFields P fs = true) (hC : P.cellsOf e = fs.size) (h : DataW.trod enc P W base spare held fuel t cs = some x) :
 (cs = [.slice none 0 0]) \/
 ∃ (a : Addr) (len cap m : Nat),cs = [.slice (some a) len cap] /\ len <= cap /\ cap <= maxLen /\ m = (if spare a.block then cap else len) /\
   ∀ i,i < m -> ∃ n : Nat,∀ (j : Nat) (f : Field),fs[j]? = some f -> ∃ (v : Value) (y : DataW H × List MemPlace),W.cell? (a.add (i * fs.size + j)) = some v /\ DataW.trod enc P W base spare held n f.type [v] = some y := by
 rcases open_slice ht h with ⟨h0,_⟩ | ⟨a,len,cap,m,n,D,Pl,hcs,hb,hl,hm,hmm,hx,hi⟩
 ·exact .inl h0
 ·refine .inr ⟨a,len,cap,m,hcs,hl,hm,hmm,fun i him => ?_⟩
  obtain ⟨cs',hc,ht'⟩ := hi i him
  rw [hC] at hc
  obtain ⟨ys,n',hn',hy,hlen,hyl,hf⟩ := DataW.trod_struct he ht'
  obtain ⟨_,hcl,hat⟩ := World.cells?_some hc
  refine ⟨n',fun j f hj => ?_⟩
  obtain ⟨ho,hk⟩ := hone_of hone j f hj
  have hjl : j < fs.size := (Array.getElem?_eq_some_iff.1 hj).1
  have hcell := hat j hjl
  have hv : cs'[j]? = some (cs'[j]'(by omega)) := List.getElem?_eq_getElem (by omega)
  have h1 := hf j f hj
  rw [ho,hk] at h1
  have hone' : (cs'.drop j).take 1 = [cs'[j]'(by omega)] := by
   rw [List.drop_eq_getElem_cons (by omega)]
   rfl
  rw [hone'] at h1
  have hys : ys[j]? = some (ys[j]'(by omega)) := List.getElem?_eq_getElem (by omega)
  refine ⟨_,_,?_,h1.trans hys⟩
  rw [<- Go.Deep.add_add,hcell,hv]
end
theorem flat_length {α : Type} {ec : α -> List Value} {k : Nat} (hk : ∀ x,(ec x).length = k) (l : List α) : (l.flatMap ec).length = l.length * k := by
 induction l with
 | nil => simp
 | cons x r ih => rw [List.flatMap_cons,List.length_append,ih,hk,List.length_cons,Nat.succ_mul]; omega
theorem flat_get {α : Type} {ec : α -> List Value} {k : Nat} (hk : ∀ x,(ec x).length = k) (l : List α) (i : Nat) (f : α) (h : l[i]? = some f) (j : Nat) (hj : j < k) : (l.flatMap ec)[i * k + j]? = (ec f)[j]? := by
 induction l generalizing i with
 | nil => simp at h
 | cons g l ih =>
   rw [List.flatMap_cons]
   cases i with
   | zero =>
     simp only [List.getElem?_cons_zero,Option.some.injEq] at h
     subst h
     rw [List.getElem?_append_left (by rw [hk]; omega)]
     congr 1
     omega
   | succ i =>
     rw [List.getElem?_cons_succ] at h
     rw [List.getElem?_append_right (by rw [hk,Nat.succ_mul]; omega),<- ih i h,hk]
     congr 1
     rw [Nat.succ_mul]
     omega
theorem open_flat {α : Type} {ec : α -> List Value} {k : Nat} (hk : ∀ x,(ec x).length = k) (h0 : 0 < k) (z : α) (Q : α -> Prop) {W : World} {y : Addr} {len cap : Nat} (hl : len <= cap) (hm : cap <= maxLen)
 (each : ∀ i,i < len -> ∃ f : α,Q f /\ ∀ j,j < k -> ∃ u,(ec f)[j]? = some u /\ W.cell? (y.add (i * k + j)) = some u) :
 ∃ l : List α,Row W W.heap.size k (some y) len cap (l.flatMap ec) /\ l.length = len /\ ∀ f ∈ l,Q f := by
 classical
 let g : Nat -> α := fun i => if h : i < len then (each i h).choose else z
 have hg : ∀ i,i < len -> Q (g i) /\ ∀ j,j < k -> ∃ u,(ec (g i))[j]? = some u /\ W.cell? (y.add (i * k + j)) = some u := by
  intro i hi
  have := (each i hi).choose_spec
  simp only [g,dif_pos hi]
  exact this
 have hlen : ((List.range len).map g).length = len := by rw [List.length_map,List.length_range]
 refine ⟨(List.range len).map g,?_,hlen,fun f hf => ?_⟩
 ·unfold maxLen at hm
  refine ⟨by rw [flat_length hk,hlen],hl,by omega,fun hn => ?_⟩
  obtain ⟨b,off,spot⟩ := y
  obtain ⟨u0,_,hc0⟩ := (hg 0 hn).2 0 h0
  have hspot : spot = none := by simpa [Addr.add] using World.cell?_spot hc0
  subst hspot
  have hlt : b < W.heap.size := by
   have := World.block_lt_of_cell? W _ hc0
   simpa [Addr.add] using this
  refine ⟨b,off,rfl,hlt,fun j u hu => ?_⟩
  have hj : j < len * k := by
   have h1 := (List.getElem?_eq_some_iff.1 hu).1
   rwa [flat_length hk,hlen] at h1
  have hdiv : j / k < len := by
   rw [Nat.div_lt_iff_lt_mul h0]
   exact hj
  have hmod : j % k < k := Nat.mod_lt _ h0
  have hget : ((List.range len).map g)[j / k]? = some (g (j / k)) := by
   rw [List.getElem?_map,List.getElem?_range hdiv]; rfl
  have e : j / k * k + j % k = j := by rw [Nat.mul_comm]; exact Nat.div_add_mod j k
  have h1 := flat_get hk _ _ _ hget (j % k) hmod
  rw [e,hu] at h1
  obtain ⟨u',h2,h3⟩ := (hg (j / k) hdiv).2 (j % k) hmod
  rw [h2] at h1
  injection h1 with h1
  subst h1
  rw [e,add_none] at h3
  exact h3
 ·obtain ⟨i,hi,rfl⟩ := List.mem_map.1 hf
  exact (hg i (List.mem_range.1 hi)).1
end Flat
end Go.Proofs.YtefnmnpfecfdaaaGreat
