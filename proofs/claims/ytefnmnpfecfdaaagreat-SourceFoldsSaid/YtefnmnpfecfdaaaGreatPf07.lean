/-
  Texts of one proof: SrcOpen, SrcLay.
-/
import Derived.Test.YtefnmnpfecfdaaaGreatPf06
set_option linter.all false
set_option maxRecDepth 100000
set_option maxHeartbeats 200000
open Go.Lib (hid)
namespace Go.Proofs.YtefnmnpfecfdaaaGreat
namespace SrcMath
open IdxMath TxnMath FoldMath PartMath
open FieldMath (encZ)
open ImgMath (Im imgB decI)
open DiskMath (Fl Dk Up)
open WalMath (Lg Sg rowsOf)
theorem behind_drop {n : Nat} {l : List Tx} (h : Fine n l) {i m L : Nat} (h1 : i <= L) (h2 : L <= i + m) (h3 : i + m <= l.length) : behind (L : Int) ((l.drop i).take m) = (l.drop L).take (i + m - L) := by
 have e : (l.drop i).take m = (l.drop i).take (L - i) ++ (l.drop L).take (i + m - L) := by
  have e1 : (l.drop i).take m = ((l.drop i).take m).take (L - i) ++ ((l.drop i).take m).drop (L - i) := (List.take_append_drop _ _).symm
  rw [e1,List.take_take,Nat.min_eq_left (by omega),List.drop_take,List.drop_drop,show i + (L - i) = L by omega,show m - (L - i) = i + m - L by omega]
 unfold behind
 rw [e,List.filter_append]
 have f1 : ((l.drop i).take (L - i)).filter (fun t => decide ((L : Int) < t.lsn)) = [] := by
  rw [List.filter_eq_nil_iff]
  intro t ht
  obtain ⟨q,hq,e⟩ := List.getElem_of_mem ht
  rw [List.length_take] at hq
  have hx : l[i + q]? = some t := by
   rw [<- e,List.getElem_take,List.getElem_drop,<- List.getElem?_eq_getElem]
  have := h.lsn _ _ hx
  simp
  omega
 have f2 : ((l.drop L).take (i + m - L)).filter (fun t => decide ((L : Int) < t.lsn)) = (l.drop L).take (i + m - L) := by
  rw [List.filter_eq_self]
  intro t ht
  obtain ⟨q,hq,e⟩ := List.getElem_of_mem ht
  have hx : l[L + q]? = some t := by
   rw [<- e,List.getElem_take,List.getElem_drop,<- List.getElem?_eq_getElem]
  have := h.lsn _ _ hx
  simp
  omega
 rw [f1,f2]
 rfl
def ImOk (n : Nat) (l : List Tx) (x k : Nat) (im : Option (Int × Im)) : Prop := (im = none /\ x = 1) \/ ∃ (f : Int) (L : Nat),im = some (f,⟨L,tt n l L⟩) /\ x <= L + 1 /\ L <= k
theorem tabs_of {n : Nat} {l : List Tx} (h : Fine n l) {x m : Nat} (hx : 1 <= x) (hm : x - 1 + m <= l.length) {im : Option (Int × Im)} (hi : ImOk n l x (x - 1 + m) im) : tabs n im ((l.drop (x - 1)).take m) = tt n l (x - 1 + m) := by
 rcases hi with ⟨rfl,rfl⟩ | ⟨f,L,rfl,h1,h2⟩
 ·show List.foldl _ (List.replicate n []) _ = _
  rw [<- tt_zero n l]
  exact tt_all h (k := 0) (m := m) (by omega)
 ·show List.foldl _ (tt n l L) (behind (L : Int) _) = _
  rw [behind_drop h (by omega) h2 hm,tt_all h (k := L) (by omega)]
  congr 1
  omega
theorem opens {n : Nat} (hn1 : 1 <= n) (hn8 : n <= 8) {l : List Tx} (h : Fine n l) {d d' : Dk} {sz : Int} {g : Lg} {x m : Nat} (hw : WalMath.open_ d 16 sz = ⟨0,some g,d'⟩) (hx : 1 <= x) (hm : x - 1 + m <= l.length)
 (hr : rowsOf g.segs = ((ents l).drop (x - 1)).take m) (hlow : WalMath.low g.segs = (x : Int)) (hhd : WalMath.hd g.segs = ((x - 1 + m : Nat) : Int)) (hi : ImOk n l x (x - 1 + m) (newest n d')) :
 open_ d n sz = ⟨0,some ⟨g,tt n l (x - 1 + m),fileOf (newest n d'),lsnOf (newest n d')⟩,d'⟩ := by
 have hread : reads n (WalMath.low g.segs) (rowsOf g.segs) = some ((l.drop (x - 1)).take m) := by
  rw [hr,hlow,show (x : Int) = ((x - 1 : Nat) : Int) + 1 by omega]
  exact reads_fine h hm
 have hL : ¬ (WalMath.hd g.segs < lsnOf (newest n d') \/ lsnOf (newest n d') + 1 < WalMath.low g.segs) := by
  rw [hhd,hlow]
  rcases hi with ⟨e,rfl⟩ | ⟨f,L,e,h1,h2⟩
  ·rw [e]
   show ¬ (_ < (0 : Int) \/ (0 : Int) + 1 < _)
   omega
  ·rw [e]
   show ¬ (_ < (L : Int) \/ (L : Int) + 1 < _)
   omega
 unfold open_
 rw [if_neg (by omega),hw]
 dsimp only
 rw [show ((n : Int)).toNat = n from rfl,hread]
 dsimp only
 rw [if_neg hL,tabs_of h hx hm hi]
theorem seek_same {d d' : Dk} {P : Int -> Bool} (e : sel P d'.files = sel P d.files) {f : Int} (h : P f = true) : DiskMath.seek d'.files f = DiskMath.seek d.files f := by
 rw [<- seek_sel (l := d'.files) h,<- seek_sel (l := d.files) h,e]
theorem imgAt_same {n : Nat} {d d' : Dk} {f : Int} (e : DiskMath.seek d'.files f = DiskMath.seek d.files f) : imgAt n d' f = imgAt n d f := by
 unfold imgAt
 rw [e]
theorem newest_same {n : Nat} {d d' : Dk} (h0 : DiskMath.seek d'.files 0 = DiskMath.seek d.files 0) (h1 : DiskMath.seek d'.files 1 = DiskMath.seek d.files 1) : newest n d' = newest n d := by
 unfold newest
 rw [imgAt_same h0,imgAt_same h1]
def imP (i : Int) : Bool := decide (i = 0 \/ i = 1)
theorem imP_far : ∀ i,mineP 16 i = true -> imP i = false := fun i h => by
 have := of_decide_eq_true h
 exact decide_eq_false (by omega)
theorem newest_of {n : Nat} {d d' : Dk} (e : sel imP d'.files = sel imP d.files) : newest n d' = newest n d := newest_same (seek_same e rfl) (seek_same e rfl)
theorem seek_crash : ∀ (l : List Fl) (ks : List Int) (f : Int),∃ k,DiskMath.seek (DiskMath.crashL l ks) f = (DiskMath.seek l f).map (DiskMath.setl k)
 | [],_,_ => ⟨0,rfl⟩
 | x :: r,ks,f => by
   by_cases hx : x.id = f
   ·refine ⟨ks.headD 0,?_⟩
    unfold DiskMath.seek
    rw [DiskMath.crashL,List.find?_cons,List.find?_cons,DiskMath.setl_id,decide_eq_true hx]
    rfl
   ·obtain ⟨k,e⟩ := seek_crash r ks.tail f
    refine ⟨k,?_⟩
    unfold DiskMath.seek at e ⊢
    rw [DiskMath.crashL,List.find?_cons,List.find?_cons,DiskMath.setl_id,decide_eq_false hx]
    exact e
def IsIm (n : Nat) (l : List Tx) (d : Dk) (f : Int) (L : Nat) : Prop := DiskMath.seek d.files f = some ⟨f,imgB ⟨L,tt n l L⟩,(imgB ⟨L,tt n l L⟩).length⟩
theorem setl_safe (k : Int) (f : Int) (b : List UInt8) : DiskMath.setl k ⟨f,b,b.length⟩ = ⟨f,b,b.length⟩ := by
 have e : DiskMath.keeps k ⟨f,b,b.length⟩ = b.length := by simp [DiskMath.keeps,Nat.mod_one]
 unfold DiskMath.setl
 rw [e]
 simp
theorem IsIm.crash {n : Nat} {l : List Tx} {d : Dk} {f : Int} {L : Nat} (h : IsIm n l d f L) (ks : List Int) : IsIm n l (DiskMath.crash d ks) f L := by
 obtain ⟨k,e⟩ := seek_crash d.files ks f
 show DiskMath.seek (DiskMath.crashL d.files ks) f = _
 rw [e,h]
 show some (DiskMath.setl k _) = _
 rw [setl_safe]
theorem none_crash {d : Dk} {f : Int} (h : DiskMath.seek d.files f = none) (ks : List Int) : DiskMath.seek (DiskMath.crash d ks).files f = none := by
 obtain ⟨k,e⟩ := seek_crash d.files ks f
 show DiskMath.seek (DiskMath.crashL d.files ks) f = _
 rw [e,h]
 rfl
def MayI (n : Nat) (l : List Tx) : Prop := ∀ L,L <= l.length -> (⟨(L : Int),tt n l L⟩ : Im).may = true
theorem IsIm.at_ {n : Nat} {l : List Tx} (hM : MayI n l) {d : Dk} {f : Int} {L : Nat} (h : IsIm n l d f L) (hL : L <= l.length) : imgAt n d f = some ⟨L,tt n l L⟩ := by
 unfold imgAt
 rw [h]
 dsimp only
 rw [ImgMath.decI_enc (hM L hL)]
 dsimp only
 rw [if_pos (tt_length n l L)]
theorem imgAt_none {n : Nat} {d : Dk} {f : Int} (h : DiskMath.seek d.files f = none) : imgAt n d f = none := by unfold imgAt; rw [h]
theorem imgAt_part {n : Nat} {l : List Tx} (hM : MayI n l) {d : Dk} {f : Int} {L k s : Nat} (hL : L <= l.length) (h : DiskMath.seek d.files f = some ⟨f,(imgB ⟨L,tt n l L⟩).take k,s⟩) : imgAt n d f = none \/ imgAt n d f = some ⟨L,tt n l L⟩ := by
 unfold imgAt
 rw [h]
 dsimp only
 rcases Nat.lt_or_ge k (imgB ⟨L,tt n l L⟩).length with hk | hk
 ·rw [ImgMath.decI_cut (hM L hL) hk]
  exact .inl rfl
 ·rw [List.take_of_length_le hk,ImgMath.decI_enc (hM L hL)]
  dsimp only
  rw [if_pos (tt_length n l L)]
  exact .inr rfl
def Imgs (n : Nat) (l : List Tx) (x j : Nat) (file lsn : Int) (d : Dk) : Prop :=
 (file = -1 /\ lsn = 0 /\ x = 1 /\ DiskMath.seek d.files 0 = none /\ DiskMath.seek d.files 1 = none) \/
 ∃ L : Nat,(file = 0 \/ file = 1) /\ lsn = L /\ L <= j /\ x <= L + 1 /\ IsIm n l d file L /\ (DiskMath.seek d.files (other file) = none \/ ∃ L' : Nat,L' < L /\ IsIm n l d (other file) L')
def Laying (n : Nat) (l : List Tx) (x j : Nat) (file lsn : Int) (d0 d : Dk) : Prop :=
 Imgs n l x j file lsn d0 /\ (∀ f,f = 0 \/ f = 1 -> f ≠ other file -> DiskMath.seek d.files f = DiskMath.seek d0.files f) /\
  (DiskMath.seek d.files (other file) = DiskMath.seek d0.files (other file) \/ DiskMath.seek d.files (other file) = some ⟨other file,imgB ⟨j,tt n l j⟩,0⟩)
theorem newest_two {n : Nat} {l : List Tx} {d : Dk} {x k L : Nat} {f : Int} (hf : f = 0 \/ f = 1) (h1 : imgAt n d f = some ⟨L,tt n l L⟩) (hx : x <= L + 1) (hk : L <= k) (h2 : imgAt n d (other f) = none \/ ∃ L' : Nat,imgAt n d (other f) = some ⟨L',tt n l L'⟩ /\ L' <= k /\ (L' < L \/ L <= L')) : ImOk n l x k (newest n d) := by
 rcases hf with rfl | rfl
 ·unfold newest
  rw [h1]
  rcases h2 with h2 | ⟨L',h2,h3,h4⟩
  ·rw [show imgAt n d 1 = none from h2]
   exact .inr ⟨0,L,rfl,hx,hk⟩
  ·rw [show imgAt n d 1 = _ from h2]
   dsimp only
   split
   ·next hlt => exact .inr ⟨1,L',rfl,by omega,h3⟩
   ·exact .inr ⟨0,L,rfl,hx,hk⟩
 ·unfold newest
  rw [h1]
  rcases h2 with h2 | ⟨L',h2,h3,h4⟩
  ·rw [show imgAt n d 0 = none from h2]
   exact .inr ⟨1,L,rfl,hx,hk⟩
  ·rw [show imgAt n d 0 = _ from h2]
   dsimp only
   split
   ·exact .inr ⟨1,L,rfl,hx,hk⟩
   ·next hlt => exact .inr ⟨0,L',rfl,by omega,h3⟩
theorem Imgs.rest {n : Nat} {l : List Tx} (hM : MayI n l) {x j : Nat} {file lsn : Int} {d : Dk} (h : Imgs n l x j file lsn d) (hj : j <= l.length) : newest n d = (if file = -1 then none else some (file,⟨lsn,tt n l lsn.toNat⟩)) /\ ImOk n l x j (newest n d) := by
 rcases h with ⟨rfl,rfl,rfl,h0,h1⟩ | ⟨L,hf,rfl,hL,hx,hi,ho⟩
 ·have e : newest n d = none := by
   unfold newest
   rw [imgAt_none h0,imgAt_none h1]
  rw [e]
  exact ⟨rfl,.inl ⟨rfl,rfl⟩⟩
 ·have a := hi.at_ hM (by omega)
  have e : newest n d = some (file,⟨L,tt n l L⟩) := by
   rcases hf with rfl | rfl
   ·unfold newest
    rw [a]
    rcases ho with ho | ⟨L',hL',ho⟩
    ·rw [show imgAt n d 1 = none from imgAt_none ho]
    ·rw [show imgAt n d 1 = _ from ho.at_ hM (by omega)]
     dsimp only
     rw [if_neg (by omega)]
   ·unfold newest
    rw [a]
    rcases ho with ho | ⟨L',hL',ho⟩
    ·rw [show imgAt n d 0 = none from imgAt_none ho]
    ·rw [show imgAt n d 0 = _ from ho.at_ hM (by omega)]
     dsimp only
     rw [if_pos (by omega)]
  rw [e]
  refine ⟨?_,.inr ⟨file,L,rfl,hx,hL⟩⟩
  rw [if_neg (by omega)]
  rfl
theorem Imgs.crash {n : Nat} {l : List Tx} {x j : Nat} {file lsn : Int} {d : Dk} (h : Imgs n l x j file lsn d) (ks : List Int) : Imgs n l x j file lsn (DiskMath.crash d ks) := by
 rcases h with ⟨rfl,rfl,rfl,h0,h1⟩ | ⟨L,hf,rfl,hL,hx,hi,ho⟩
 ·exact .inl ⟨rfl,rfl,rfl,none_crash h0 ks,none_crash h1 ks⟩
 ·refine .inr ⟨L,hf,rfl,hL,hx,hi.crash ks,?_⟩
  rcases ho with ho | ⟨L',hL',ho⟩
  ·exact .inl (none_crash ho ks)
  ·exact .inr ⟨L',hL',ho.crash ks⟩
theorem Imgs.same {n : Nat} {l : List Tx} {x j : Nat} {file lsn : Int} {d d' : Dk} (h : Imgs n l x j file lsn d) (e : sel imP d'.files = sel imP d.files) : Imgs n l x j file lsn d' := by
 have e0 : DiskMath.seek d'.files 0 = DiskMath.seek d.files 0 := seek_same e rfl
 have e1 : DiskMath.seek d'.files 1 = DiskMath.seek d.files 1 := seek_same e rfl
 rcases h with ⟨rfl,rfl,rfl,h0,h1⟩ | ⟨L,hf,rfl,hL,hx,hi,ho⟩
 ·exact .inl ⟨rfl,rfl,rfl,e0.trans h0,e1.trans h1⟩
 ·rcases hf with rfl | rfl
  ·exact .inr ⟨L,.inl rfl,rfl,hL,hx,e0.trans hi,ho.imp (fun h => e1.trans h) fun ⟨L',a,b⟩ => ⟨L',a,e1.trans b⟩⟩
  ·exact .inr ⟨L,.inr rfl,rfl,hL,hx,e1.trans hi,ho.imp (fun h => e0.trans h) fun ⟨L',a,b⟩ => ⟨L',a,e0.trans b⟩⟩
end SrcMath
namespace SrcMath
open IdxMath TxnMath FoldMath PartMath
open FieldMath (encZ)
open ImgMath (Im imgB decI)
open DiskMath (Fl Dk Up)
open WalMath (Lg Sg rowsOf)
theorem Laying.crash {n : Nat} {l : List Tx} (hM : MayI n l) {x j : Nat} {file lsn : Int} {d0 d : Dk} (h : Laying n l x j file lsn d0 d) (hj : j <= l.length) (hx : x <= j + 1) (ks : List Int) : ImOk n l x j (newest n (DiskMath.crash d ks)) := by
 obtain ⟨hi,hs,ho⟩ := h
 have part : ∀ {o : Int},DiskMath.seek d.files o = some ⟨o,imgB ⟨j,tt n l j⟩,0⟩ -> imgAt n (DiskMath.crash d ks) o = none \/ imgAt n (DiskMath.crash d ks) o = some ⟨j,tt n l j⟩ := fun {o} e => by
  obtain ⟨k,e2⟩ := seek_crash d.files ks o
  rw [e] at e2
  exact imgAt_part hM hj e2
 have same : ∀ {o : Int},DiskMath.seek d.files o = DiskMath.seek d0.files o -> ∀ {L : Nat},IsIm n l d0 o L -> L <= l.length -> imgAt n (DiskMath.crash d ks) o = some ⟨L,tt n l L⟩ := fun {o} e L hl hL => (IsIm.crash (show IsIm n l d o L from e.trans hl) ks).at_ hM hL
 have none_ : ∀ {o : Int},DiskMath.seek d.files o = DiskMath.seek d0.files o -> DiskMath.seek d0.files o = none -> imgAt n (DiskMath.crash d ks) o = none := fun {o} e e0 => imgAt_none (none_crash (e.trans e0) ks)
 rcases hi with ⟨rfl,rfl,rfl,h0,h1⟩ | ⟨L,hf,rfl,hL,hxL,hi,hoo⟩
 ·have e1 := none_ (hs 1 (.inr rfl) (by decide)) h1
  have e0 : imgAt n (DiskMath.crash d ks) 0 = none \/ imgAt n (DiskMath.crash d ks) 0 = some ⟨j,tt n l j⟩ := by
   rcases ho with ho | ho
   ·exact .inl (none_ ho h0)
   ·exact part ho
  unfold newest
  rcases e0 with e0 | e0
  ·rw [e0,e1]
   exact .inl ⟨rfl,rfl⟩
  ·rw [e0,e1]
   exact .inr ⟨0,j,rfl,hx,Nat.le_refl _⟩
 ·have hne : file ≠ other file := by
   unfold other
   split
   ·omega
   ·omega
  have e1 := same (hs file hf hne) hi (by omega)
  refine newest_two hf e1 hxL hL ?_
  rcases ho with ho | ho
  ·rcases hoo with hoo | ⟨L',hL',hoo⟩
   ·exact .inl (none_ ho hoo)
   ·exact .inr ⟨L',same ho hoo (by omega),by omega,.inl hL'⟩
  ·rcases part ho with e | e
   ·exact .inl e
   ·exact .inr ⟨j,e,Nat.le_refl _,.inr hL⟩
theorem seek_put {l : List Fl} {f : Int} {g : Fl -> Fl} (hg : ∀ x,(g x).id = x.id) : DiskMath.seek (DiskMath.put l f g) f = (DiskMath.seek l f).map g := by
 unfold DiskMath.seek DiskMath.put
 induction l with
 | nil => rfl
 | cons x r ih =>
   rw [List.map_cons,List.find?_cons,List.find?_cons]
   by_cases hx : x.id = f
   ·rw [if_pos hx,decide_eq_true (show (g x).id = f by rw [hg]; exact hx),decide_eq_true hx]
    rfl
   ·rw [if_neg hx,decide_eq_false hx]
    exact ih
theorem seek_ins {f : Int} : ∀ {l : List Fl},DiskMath.seek l f = none -> DiskMath.seek (DiskMath.ins f l) f = some ⟨f,[],0⟩
 | [],_ => by simp [DiskMath.seek,DiskMath.ins]
 | x :: r,h => by
   have hx : x.id ≠ f := DiskMath.seek_none h x List.mem_cons_self
   have hr : DiskMath.seek r f = none := by
    unfold DiskMath.seek at h ⊢
    rwa [List.find?_cons,decide_eq_false hx] at h
   unfold DiskMath.ins
   split
   ·have ih := seek_ins hr
    unfold DiskMath.seek at ih ⊢
    rw [List.find?_cons,decide_eq_false hx]
    exact ih
   ·unfold DiskMath.seek
    rw [List.find?_cons,decide_eq_true rfl]
def Rest (o : Int) (d d' : Dk) : Prop := Up 0 d'.files /\ ∀ P : Int -> Bool,P o = false -> sel P d'.files = sel P d.files
theorem Rest.refl {o : Int} {d : Dk} (hu : Up 0 d.files) : Rest o d d := ⟨hu,fun _ _ => rfl⟩
theorem Rest.trans {o : Int} {d d1 d2 : Dk} (h : Rest o d d1) (k : Rest o d1 d2) : Rest o d d2 := ⟨k.1,fun P hP => (k.2 P hP).trans (h.2 P hP)⟩
theorem Rest.seek {o : Int} {d d' : Dk} (h : Rest o d d') {f : Int} (hf : f ≠ o) : DiskMath.seek d'.files f = DiskMath.seek d.files f :=
 seek_same (P := fun i => decide (i = f)) (h.2 _ (decide_eq_false (Ne.symm hf))) (decide_eq_true rfl)
theorem off_tick {d : Dk} (h : d.left = 1) : (DiskMath.tick d).off = true := decide_eq_true h
theorem on_tick {d : Dk} (h : d.left ≠ 1) : (DiskMath.tick d).off = false := decide_eq_false h
theorem lay0_cases {d : Dk} {o : Int} (hoff : d.off = false) (hu : Up 0 d.files) (h0 : 0 <= o) (h1 : o < 16384) :
 (∃ d',lay0 d o = (0,d') /\ d'.off = false /\ (DiskMath.seek d'.files o = none \/ DiskMath.seek d'.files o = some ⟨o,[],0⟩) /\ Rest o d d' /\ d'.ops <= d.ops + 1 /\ d'.left <= d.left) \/
 (∃ d',lay0 d o = (8,d') /\ d'.off = true /\ 0 < d.left /\ DiskMath.seek d'.files o = DiskMath.seek d.files o /\ Rest o d d' /\ d'.ops <= d.ops + 1 /\ d'.left <= d.left) := by
 unfold lay0
 by_cases hs : DiskMath.seek d.files o = none
 ·rw [if_pos hs]
  exact .inl ⟨d,rfl,hoff,.inl hs,Rest.refl hu,by omega,Nat.le_refl _⟩
 ·rw [if_neg hs]
  obtain ⟨x,hx⟩ : ∃ x,DiskMath.seek d.files o = some x := by
   cases h : DiskMath.seek d.files o with
   | none => exact absurd h hs
   | some x => exact ⟨x,rfl⟩
  have hr : DiskMath.refuse d o true = 0 := by
   unfold DiskMath.refuse
   rw [hoff,hx,if_neg (by simp),if_neg (by omega),if_neg (by simp)]
  have hsz : ¬ ((0 : Int) < 0 \/ DiskMath.size d o < 0) := by
   unfold DiskMath.size
   rw [hx]
   dsimp only
   omega
  have hid : x.id = o := (DiskMath.seek_mem hx).2
  have hcut : DiskMath.cut d o 0 = DiskMath.oper d (DiskMath.put d.files o (DiskMath.trim (0 : Int).toNat)) := by
   unfold DiskMath.cut
   rw [hr,if_pos rfl,if_neg hsz]
  have hrest : Rest o d (DiskMath.cut d o 0).2 := ⟨cut_up hu 0,fun P hP => cut_off hP 0⟩
  rw [hcut] at hrest ⊢
  rw [WalMath.oper_eq] at hrest ⊢
  by_cases hl : d.left = 1
  ·rw [if_pos hl] at hrest ⊢
   exact .inr ⟨_,rfl,off_tick hl,by omega,rfl,hrest,Nat.le_refl _,by show d.left - 1 <= _; omega⟩
  ·rw [if_neg hl] at hrest ⊢
   refine .inl ⟨_,rfl,on_tick hl,.inr ?_,hrest,Nat.le_refl _,by show d.left - 1 <= _; omega⟩
   show DiskMath.seek (DiskMath.put d.files o (DiskMath.trim (0 : Int).toNat)) o = _
   rw [seek_put (g := DiskMath.trim (0 : Int).toNat) (fun _ => rfl),hx]
   show some (DiskMath.trim 0 x) = _
   unfold DiskMath.trim
   rw [List.take_zero,Nat.min_zero,hid]
theorem lay1_cases {d : Dk} {o : Int} (hoff : d.off = false) (hu : Up 0 d.files) (h0 : 0 <= o) (h1 : o < 16384) (hs : DiskMath.seek d.files o = none \/ DiskMath.seek d.files o = some ⟨o,[],0⟩) (b : List UInt8) :
 ∃ d',DiskMath.append d o b = (if d.left = 1 then 8 else 0,d') /\ d'.off = decide (d.left = 1) /\ DiskMath.seek d'.files o = some ⟨o,b,0⟩ /\ Rest o d d' /\ d'.ops <= d.ops + 1 /\ d'.left <= d.left := by
 have hrest : Rest o d (DiskMath.append d o b).2 := ⟨append_up hu b,fun P hP => append_off hP b⟩
 rw [WalMath.append_files hoff h0 h1] at hrest ⊢
 refine ⟨_,rfl,rfl,?_,hrest,Nat.le_refl _,by show d.left - 1 <= _; omega⟩
 show DiskMath.seek (DiskMath.put (DiskMath.begunL d.files o) o (DiskMath.grow b)) o = _
 rw [seek_put (g := DiskMath.grow b) (fun _ => rfl)]
 have e : DiskMath.seek (DiskMath.begunL d.files o) o = some ⟨o,[],0⟩ := by
  unfold DiskMath.begunL
  rcases hs with hs | hs
  ·rw [if_pos hs]
   exact seek_ins hs
  ·rw [if_neg (by rw [hs]; simp)]
   exact hs
 rw [e]
 rfl
theorem lay2_cases {d : Dk} {o : Int} {b : List UInt8} (hoff : d.off = false) (hu : Up 0 d.files) (h0 : 0 <= o) (h1 : o < 16384) (hs : DiskMath.seek d.files o = some ⟨o,b,0⟩) :
 ∃ d',DiskMath.sync d o = (if d.left = 1 then 8 else 0,d') /\ d'.off = decide (d.left = 1) /\ (DiskMath.seek d'.files o = if d.left = 1 then some ⟨o,b,0⟩ else some ⟨o,b,b.length⟩) /\ Rest o d d' /\ d'.ops <= d.ops + 1 /\ d'.left <= d.left := by
 have hrest : Rest o d (DiskMath.sync d o).2 := ⟨sync_up hu,fun P hP => sync_off hP⟩
 have hr : DiskMath.refuse d o true = 0 := by
  unfold DiskMath.refuse
  rw [hoff,hs,if_neg (by simp),if_neg (by omega),if_neg (by simp)]
 have hsy : DiskMath.sync d o = DiskMath.oper d (DiskMath.put d.files o DiskMath.sure) := by
  unfold DiskMath.sync
  rw [hr,if_pos rfl]
 rw [hsy] at hrest ⊢
 rw [WalMath.oper_eq] at hrest ⊢
 by_cases hl : d.left = 1
 ·rw [if_pos hl] at hrest ⊢
  rw [if_pos hl,if_pos hl]
  exact ⟨_,rfl,rfl,hs,hrest,Nat.le_refl _,by show d.left - 1 <= _; omega⟩
 ·rw [if_neg hl] at hrest ⊢
  rw [if_neg hl,if_neg hl]
  refine ⟨_,rfl,rfl,?_,hrest,Nat.le_refl _,by show d.left - 1 <= _; omega⟩
  show DiskMath.seek (DiskMath.put d.files o DiskMath.sure) o = _
  rw [seek_put (g := DiskMath.sure) (fun _ => rfl),hs]
  rfl
theorem lay_cases {d : Dk} {o : Int} (hoff : d.off = false) (hu : Up 0 d.files) (h0 : 0 <= o) (h1 : o < 16384) (b : List UInt8) :
 (∃ d',lay d o b = (0,d') /\ d'.off = false /\ DiskMath.seek d'.files o = some ⟨o,b,b.length⟩ /\ Rest o d d' /\ d'.ops <= d.ops + 3 /\ d'.left <= d.left) \/
 (∃ d',lay d o b = (8,d') /\ d'.off = true /\ (DiskMath.seek d'.files o = DiskMath.seek d.files o \/ DiskMath.seek d'.files o = some ⟨o,b,0⟩) /\ Rest o d d' /\ d'.ops <= d.ops + 3 /\ d'.left <= d.left) := by
 rcases lay0_cases hoff hu h0 h1 with ⟨d1,e1,f1,s1,r1,p1,q1⟩ | ⟨d1,e1,f1,s0,s1,r1,p1,q1⟩
 ·obtain ⟨d2,e2,f2,s2,r2,p2,q2⟩ := lay1_cases f1 r1.1 h0 h1 s1 b
  have hl1 : lay1 d o b = (if d1.left = 1 then 8 else 0,d2) := by
   unfold lay1
   rw [e1,if_pos rfl,e2]
  by_cases hl : d1.left = 1
  ·rw [if_pos hl] at hl1
   have hly : lay d o b = (8,d2) := by
    unfold lay
    rw [hl1,if_neg (show ¬ (8 : Int) = 0 by decide)]
   exact .inr ⟨d2,hly,by rw [f2]; exact decide_eq_true hl,.inr s2,r1.trans r2,by omega,by omega⟩
  ·rw [if_neg hl] at hl1
   have f2' : d2.off = false := by rw [f2]; exact decide_eq_false hl
   obtain ⟨d3,e3,f3,s3,r3,p3,q3⟩ := lay2_cases f2' r2.1 h0 h1 s2
   have hly : lay d o b = (if d2.left = 1 then 8 else 0,d3) := by
    unfold lay
    rw [hl1,if_pos rfl,e3]
   by_cases hl2 : d2.left = 1
   ·rw [if_pos hl2] at hly s3
    exact .inr ⟨d3,hly,by rw [f3]; exact decide_eq_true hl2,.inr s3,(r1.trans r2).trans r3,by omega,by omega⟩
   ·rw [if_neg hl2] at hly s3
    exact .inl ⟨d3,hly,by rw [f3]; exact decide_eq_false hl2,s3,(r1.trans r2).trans r3,by omega,by omega⟩
 ·have hly : lay d o b = (8,d1) := by
   unfold lay lay1
   rw [e1]
   rw [if_neg (show ¬ (8 : Int) = 0 by decide),if_neg (show ¬ (8 : Int) = 0 by decide)]
  exact .inr ⟨d1,hly,f1,.inl s1,r1,by omega,q1⟩
end SrcMath
end Go.Proofs.YtefnmnpfecfdaaaGreat
