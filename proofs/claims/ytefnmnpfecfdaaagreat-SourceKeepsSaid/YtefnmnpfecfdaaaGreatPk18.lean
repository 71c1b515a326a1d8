/-
  Texts of one proof: DiskMem, DiskCode, OpenInts, SrcPlain.
-/
import Derived.Test.YtefnmnpfecfdaaaGreatPk17
import Derived.Lib.SlKeysI
import Derived.Test.YtefnmnpfecfdaaaGreatPk08
set_option linter.all false
set_option maxRecDepth 100000
set_option maxHeartbeats 400000
open Go.Lib (hid)
namespace Go.Proofs.YtefnmnpfecfdaaaGreat
namespace Disk
open Go.RowKit Base DiskMath Foot
open Go.Maps (Keyed)
theorem eb : Elem Tryz.prog 68 5 1 1 (.int .u8 0) := Field.eb
def rd (v : Value) : Option (DataW Unit × List MemPlace) :=
 match v with
 | .pointer none => some (.nil,[])
 | .pointer (some ⟨p,0,none⟩) => some (.lit (.int .i64 p),[])
 | _ => none
structure Pl where
 p : Nat
 A : Option Addr
 c : Nat
def Pl.row (q : Pl) : Option Nat := q.A.map (·.block)
theorem row_own (q : Pl) (n c : Nat) : (Value.slice q.A n c).ownBlock = q.row := by
 obtain ⟨p,A,c'⟩ := q
 cases A <;> rfl
def upd (pl : Int -> Pl) (f : Int) (q : Pl) : Int -> Pl := fun k => if k = f then q else pl k
theorem upd_same (pl : Int -> Pl) (f : Int) (q : Pl) : upd pl f q f = q := if_pos rfl
theorem upd_other (pl : Int -> Pl) {f k : Int} (q : Pl) (h : k ≠ f) : upd pl f q k = pl k := if_neg h
def ent (pl : Int -> Pl) (x : Fl) : Lit × DataW Unit := (.int .i64 x.id,.lit (.int .i64 (pl x.id).p))
def ents (l : List Fl) (pl : Int -> Pl) : List (Lit × DataW Unit) := l.map (ent pl)
theorem ents_cons (x : Fl) (r : List Fl) (pl : Int -> Pl) : ents (x :: r) pl = ent pl x :: ents r pl := rfl
theorem ents_congr {l : List Fl} {pl pl' : Int -> Pl} (h : ∀ x ∈ l,(pl x.id).p = (pl' x.id).p) : ents l pl = ents l pl' :=
 List.map_congr_left fun x hx => by unfold ent; rw [h x hx]
theorem ents_ids {l l' : List Fl} {pl : Int -> Pl} (h : l.map (·.id) = l'.map (·.id)) : ents l pl = ents l' pl := by
 have e : ∀ l : List Fl,ents l pl = (l.map (·.id)).map fun k => (Lit.int .i64 k,DataW.lit (.int .i64 (pl k).p)) := fun l => by
  rw [List.map_map]
  rfl
 rw [e,e,h]
theorem ents_keys (l : List Fl) (pl : Int -> Pl) : intKeys (DataW.map (ents l pl)) = l.map (·.id) := by
 show (ents l pl).map _ = _
 rw [ents,List.map_map]
 rfl
theorem ents_at (l : List Fl) (pl : Int -> Pl) (f : Int) : (DataW.map (ents l pl)).atKey (.int .i64 f) .nil = match seek l f with | some _ => .lit (.int .i64 (pl f).p) | none => .nil := by
 unfold DataW.atKey seek
 dsimp only
 induction l with
 | nil => rfl
 | cons x r ih =>
   rw [ents_cons,List.find?_cons,List.find?_cons]
   by_cases e : x.id = f
   ·simp [ent,Lit.sameKey,e]
   ·have : (ent pl x).1.sameKey (.int .i64 f) = false := by simp [ent,Lit.sameKey,e]
    rw [this,decide_eq_false e]
    exact ih
theorem ents_filter (l : List Fl) (pl : Int -> Pl) (f : Int) : (ents l pl).filter (fun p => !p.1.sameKey (.int .i64 f)) = ents (del l f) pl := by
 unfold ents del
 rw [List.filter_map]
 congr 1
 apply List.filter_congr
 intro x _
 simp [ent,Lit.sameKey]
theorem ents_del (l : List Fl) (pl : Int -> Pl) (f : Int) : (DataW.map (ents l pl)).del (.int .i64 f) = .map (ents (del l f) pl) := by
 show DataW.map _ = _
 rw [ents_filter]
theorem del_none {l : List Fl} {f : Int} (h : ∀ x ∈ l,x.id ≠ f) : del l f = l := by
 unfold del
 rw [List.filter_eq_self]
 intro x hx
 simpa using h x hx
theorem ents_ins {f : Int} {q : Pl} (pl : Int -> Pl) : ∀ {l : List Fl},(∀ x ∈ l,x.id ≠ f) -> DataW.insert (.int .i64 f,.lit (.int .i64 q.p)) (ents l pl) = ents (ins f l) (upd pl f q)
 | [],_ => by simp [ents,ent,ins,DataW.insert,upd]
 | x :: r,h => by
   have hx := h x List.mem_cons_self
   have hr : ∀ y ∈ r,y.id ≠ f := fun y hy => h y (List.mem_cons_of_mem _ hy)
   rw [ents_cons,DataW.insert,ins]
   have e : (Lit.int .i64 f).before (ent pl x).1 = decide (f < x.id) := rfl
   have e2 : ent (upd pl f q) x = ent pl x := by unfold ent; rw [upd_other _ _ hx]
   by_cases hlt : x.id < f
   ·rw [if_neg (by rw [e]; simp; omega),if_pos hlt,ents_cons,ents_ins pl hr,e2]
   ·rw [if_pos (by rw [e]; simp; omega),if_neg hlt,ents_cons,ents_cons,e2,ents_congr (pl := upd pl f q) (pl' := pl) (fun y hy => by rw [upd_other _ _ (hr y hy)])]
    simp [ent,upd]
theorem ents_put {l : List Fl} {f : Int} (q : Pl) (pl : Int -> Pl) (h : ∀ x ∈ l,x.id ≠ f) : (DataW.map (ents l pl)).put (.int .i64 f) (.lit (.int .i64 q.p)) = .map (ents (ins f l) (upd pl f q)) := by
 show DataW.map (DataW.insert _ _) = _
 rw [ents_filter,del_none h,ents_ins pl h]
def FileAt (w : World) (F : Nat -> Prop) (x : Fl) (q : Pl) : Prop :=
 Blk w q.p 153 #[.slice q.A x.b.length q.c,.int .i64 x.safe] /\ F q.p /\ w.ownsRow 0 5 1 (.slice q.A x.b.length q.c) x.b.length (bv x.b) /\ ∀ g,q.row = some g -> F g
theorem FileAt.mono {w : World} {F F' : Nat -> Prop} {x : Fl} {q : Pl} (h : FileAt w F x q) (hF : ∀ i,F i -> F' i) : FileAt w F' x q := ⟨h.1,hF _ h.2.1,h.2.2.1,fun g hg => hF g (h.2.2.2 g hg)⟩
theorem FileAt.keep {w w' : World} {F : Nat -> Prop} {x : Fl} {q : Pl} (h : FileAt w F x q) (hp : w'.heap[q.p]? = w.heap[q.p]?) (hr : ∀ g,q.row = some g -> w'.heap[g]? = w.heap[g]?) : FileAt w' F x q :=
 ⟨hp.trans h.1,h.2.1,own_same h.2.2.1 (by rw [row_own]; exact hr),h.2.2.2⟩
theorem FileAt.bytes {w : World} {F : Nat -> Prop} {x : Fl} {q : Pl} (h : FileAt w F x q) : Bytes w w.heap.size q.A x.b.length q.c x.b := Bytes.of_own h.2.2.1
def FilesAt (w : World) (F : Nat -> Prop) (l : List Fl) (pl : Int -> Pl) : Prop :=
 (∀ x ∈ l,FileAt w F x (pl x.id)) /\ ∀ x ∈ l,∀ y ∈ l,x.id ≠ y.id -> (pl x.id).p ≠ (pl y.id).p /\ ((pl x.id).row = none \/ (pl x.id).row ≠ (pl y.id).row)
def Body (w : World) (F : Nat -> Prop) (l : List Fl) (m : Nat) (pl : Int -> Pl) : Prop :=
 F m /\ w.ownsMap Tryz.prog 3 rd m l.length (.map (ents l pl)) /\ FilesAt w F l pl /\ Up 0 l
def Head (w : World) (g : Nat) (d : Dk) (m : Nat) : Prop := Blk w g 90 #[.int .i64 d.ops,.int .i64 d.left,.bool d.off,.map (some m)]
def DiskAt (F : Nat -> Prop) (w : World) (g : Nat) (d : Dk) : Prop := ∃ m pl,Head w g d m /\ F g /\ Body w F d.files m pl
theorem Body.finds {w : World} {F : Nat -> Prop} {l : List Fl} {m : Nat} {pl : Int -> Pl} (h : Body w F l m pl) {f : Int} (hf : (Lit.int .i64 f).wf = true) :
 (Instr.lookup 86 (.map (some m)) (.int .i64 f) false).run Tryz.prog w = .ok (.pointer ((seek l f).map fun _ => ⟨(pl f).p,0,none⟩)) w := by
 obtain ⟨v,ps,hrun,hv⟩ := h.2.1.lookup (t := 86) (e := 101) (Maps.int_keyed Tryz.underlying3) Tryz.underlying86 (z := .pointer none) (by kernel_rfl) (zd := .nil) (zp := []) rfl (Maps.keyOf_int_mk Tryz.underlying3 hf)
 rw [hrun,ents_at] at *
 congr 1
 unfold rd at hv
 split at hv
 ·cases hq : seek l f with
  | none => rfl
  | some x => rw [hq] at hv; simp at hv
 ·rename_i p
  cases hq : seek l f with
  | none => rw [hq] at hv; simp at hv
  | some x =>
    rw [hq] at hv
    simp only [Option.some.injEq,Prod.mk.injEq,DataW.lit.injEq,Lit.int.injEq] at hv
    have := hv.1.2
    obtain rfl : p = (pl f).p := by omega
    rfl
 ·cases hv
section
variable {F F' : Nat -> Prop} {w w' : World} {l : List Fl} {m g : Nat} {pl : Int -> Pl} {d : Dk}
theorem map_lt (h : Body w F l m pl) : m < w.heap.size := h.2.1.lt
theorem map_obj (h : Body w F l m pl) : ∃ es cl,w.heap[m]? = some (.map es cl) := by
 obtain ⟨es,cl,hb,_⟩ := h.2.1
 exact ⟨es,cl,hb⟩
theorem Body.keep (h : Body w F l m pl) (hk : ∀ i o,F i -> w.heap[i]? = some o -> (∀ cs,o ≠ .cells cs 90 (0,0)) -> w'.heap[i]? = some o) : Body w' F l m pl := by
 obtain ⟨h1,⟨es,cl,hb,hm⟩,⟨h3,h4⟩,h5⟩ := h
 refine ⟨h1,⟨es,cl,hk m _ h1 hb (fun cs e => by cases e),hm⟩,⟨fun x hx => ?_,h4⟩,h5⟩
 have hx := h3 x hx
 refine hx.keep ?_ fun g hg => ?_
 ·exact (hk _ _ hx.2.1 hx.1 (fun cs e => by cases e)).trans hx.1.symm
 ·obtain ⟨cur,hc⟩ := own_type hx.2.2.1 (g := g) (by rw [row_own]; exact hg)
  exact (hk _ _ (hx.2.2.2 g hg) hc (fun cs e => by cases e)).trans hc.symm
theorem Body.mono (h : Body w F l m pl) (hF : ∀ i,F i -> F' i) : Body w F' l m pl := ⟨hF _ h.1,h.2.1,⟨fun x hx => (h.2.2.1.1 x hx).mono hF,h.2.2.1.2⟩,h.2.2.2⟩
theorem DiskAt.mono (h : DiskAt F w g d) (hF : ∀ i,F i -> F' i) : DiskAt F' w g d := by
 obtain ⟨m,pl,h1,h2,h3⟩ := h
 exact ⟨m,pl,h1,hF _ h2,h3.mono hF⟩
theorem DiskAt.up (h : DiskAt F w g d) : Up 0 d.files := by
 obtain ⟨m,pl,_,_,h3⟩ := h
 exact h3.2.2.2
theorem DiskAt.keep (h : DiskAt F w g d) (hk : ∀ i,i < w.heap.size -> F i -> w'.heap[i]? = w.heap[i]?) : DiskAt F w' g d := by
 obtain ⟨m,pl,h1,h2,h3⟩ := h
 refine ⟨m,pl,(hk g (Blk.lt h1) h2).trans h1,h2,h3.keep fun i o hi ho _ => (hk i ?_ hi).trans ho⟩
 rcases Nat.lt_or_ge i w.heap.size with h | h
 ·exact h
 ·rw [Array.getElem?_eq_none h] at ho; cases ho
theorem DiskAt.new (h : DiskAt F w g d) (hb : Below w.heap.size w w') : DiskAt F w' g d := h.keep fun i hi _ => hb.block i hi
theorem DiskAt.turn (h : DiskAt F w g d) (hb : Turn F' w w') (hn : ∀ i,F i -> ¬ F' i) : DiskAt F w' g d := h.keep fun i hi hf => hb.block i hi (hn i hf)
theorem DiskAt.alloc (h : DiskAt F w g d) (o : Obj) : DiskAt F (w.alloc o) g d := h.new ((Below.refl _ _).alloc (Nat.le_refl _) o)
theorem DiskAt.drewN (h : DiskAt F w g d) (n : Nat) : DiskAt F (w.drewN n) g d := h
theorem Body.head (h : Body w F l m pl) {cs : Array Value} (hg : Blk w g 90 cs) (hw : w.grownBy w' (some g)) : Body w' F l m pl :=
 h.keep fun i o _ ho hn => by
  have hi : i < w.heap.size := by
   rcases Nat.lt_or_ge i w.heap.size with h | h
   ·exact h
   ·rw [Array.getElem?_eq_none h] at ho; cases ho
  refine (hw.block i hi fun e => ?_).trans ho
  injection e with e
  subst e
  unfold Blk at hg
  rw [hg] at ho
  injection ho with ho
  exact hn cs ho.symm
theorem Body.turn (h : Body w F l m pl) {f : Int} {x : Fl} (hx : seek l f = some x) {t : Fl -> Fl} (ht : ∀ x,(t x).id = x.id) (hs : ∀ x,x.safe <= x.b.length -> (t x).safe <= (t x).b.length)
 (hw : ∀ i,i < w.heap.size -> i ≠ (pl f).p -> some i ≠ (pl f).row -> w'.heap[i]? = w.heap[i]?) {q : Pl} (hq : FileAt w' F' (t x) q) (hp : q.p = (pl f).p) (hr : q.row = (pl f).row \/ ∀ g,q.row = some g -> w.heap.size <= g) (hF : ∀ i,F i -> F' i) :
 Body w' F' (put l f t) m (upd pl f q) := by
 obtain ⟨h1,⟨es,cl,hb,hm⟩,⟨h3,h4⟩,h5⟩ := h
 obtain ⟨hxl,hxf⟩ := seek_mem hx
 have hX := h3 x hxl
 rw [hxf] at hX
 have hmn : m ≠ (pl f).p := fun e => by
  have := hX.1
  unfold Blk at this
  rw [<- e,hb] at this
  cases this
 have hmr : some m ≠ (pl f).row := fun e => by
  obtain ⟨cur,hc⟩ := own_type hX.2.2.1 (g := m) (by rw [row_own]; exact e.symm)
  rw [hb] at hc
  cases hc
 have hmlt : m < w.heap.size := (Array.getElem?_eq_some_iff.1 hb).1
 have hlen : (put l f t).length = l.length := put_length _ _ _
 have hent : ents (put l f t) (upd pl f q) = ents l pl := by
  rw [ents_ids (put_ids l f t ht)]
  refine ents_congr fun y _ => ?_
  by_cases e : y.id = f
  ·rw [e,upd_same,hp]
  ·rw [upd_other _ _ e]
 refine ⟨hF _ h1,?_,⟨fun y hy => ?_,fun y hy z hz hne => ?_⟩,put_up ht hs h5⟩
 ·rw [hlen,hent]
  exact ⟨es,cl,(hw m hmlt hmn hmr).trans hb,hm⟩
 ·obtain ⟨y0,hy0,⟨e1,rfl⟩ | ⟨e1,rfl⟩⟩ := put_mem hy
  ·rw [ht,e1,upd_same]
   rwa [h5.one y0 hy0 x hxl (by rw [e1,hxf])]
  ·rw [upd_other _ _ e1]
   have hY := h3 y hy0
   have hap := h4 y hy0 x hxl (by rw [hxf]; exact e1)
   rw [hxf] at hap
   refine (hY.keep ?_ fun g hg => ?_).mono hF
   ·refine hw _ (Blk.lt hY.1) hap.1 fun e => ?_
    obtain ⟨cur,hc⟩ := own_type hX.2.2.1 (g := (pl y.id).p) (by rw [row_own]; exact e.symm)
    have := hY.1
    unfold Blk at this
    rw [hc] at this
    cases this
   ·obtain ⟨cur,hc⟩ := own_type hY.2.2.1 (g := g) (by rw [row_own]; exact hg)
    refine hw g (Array.getElem?_eq_some_iff.1 hc).1 (fun e => ?_) (fun e => ?_)
    ·have := hX.1
     unfold Blk at this
     rw [<- e,hc] at this
     cases this
    ·rcases hap.2 with h0 | h0
     ·rw [hg] at h0; cases h0
     ·exact h0 (hg.trans e)
 ·obtain ⟨y0,hy0,hyc⟩ := put_mem hy
  obtain ⟨z0,hz0,hzc⟩ := put_mem hz
  have ey : y.id = y0.id := by
   rcases hyc with ⟨_,rfl⟩ | ⟨_,rfl⟩
   ·exact ht _
   ·rfl
  have ez : z.id = z0.id := by
   rcases hzc with ⟨_,rfl⟩ | ⟨_,rfl⟩
   ·exact ht _
   ·rfl
  rw [ey,ez] at hne ⊢
  have hap := h4 y0 hy0 z0 hz0 hne
  have hrow : ∀ v : Fl,v ∈ l -> ∀ g,(pl v.id).row = some g -> g < w.heap.size := fun v hv g hg => by
   obtain ⟨cur,hc⟩ := own_type (h3 v hv).2.2.1 (g := g) (by rw [row_own]; exact hg)
   exact (Array.getElem?_eq_some_iff.1 hc).1
  by_cases e1 : y0.id = f
  ·have e2 : z0.id ≠ f := fun e => hne (by rw [e1,e])
   rw [e1,upd_same,upd_other _ _ e2,hp]
   rw [e1] at hap
   refine ⟨hap.1,?_⟩
   rcases hr with hr | hr
   ·rw [hr]; exact hap.2
   ·cases hqr : q.row with
    | none => exact .inl rfl
    | some g =>
      refine .inr fun e => ?_
      have a := hr g hqr
      have b := hrow z0 hz0 g e.symm
      omega
  ·rw [upd_other _ _ e1]
   by_cases e2 : z0.id = f
   ·rw [e2,upd_same,hp]
    rw [e2] at hap
    refine ⟨hap.1,?_⟩
    rcases hr with hr | hr
    ·rw [hr]; exact hap.2
    ·cases hqr : (pl y0.id).row with
     | none => exact .inl rfl
     | some g =>
       refine .inr fun e => ?_
       have a := hr g e.symm
       have b := hrow y0 hy0 g hqr
       omega
   ·rw [upd_other _ _ e2]
    exact hap
theorem Body.begin {w1 w2 : World} (h : Body w F l m pl) {f : Int} (hf0 : 0 <= f) (hf : f < 16384) (hx : seek l f = none) {p : Nat} (hp : p = w.heap.size) (h1 : w1 = w.alloc (.cells #[.slice none 0 0,.int .i64 0] 153)) {n : Nat}
 (h2 : w2.ownsMap Tryz.prog 3 rd m n ((DataW.map (ents l pl)).put (.int .i64 f) (.lit (.int .i64 p)))) (hg : w1.grownBy w2 (some m)) (hF : ∀ i,F i -> F' i) (hFp : F' p) :
 Body w2 F' (ins f l) m (upd pl f ⟨p,none,0⟩) := by
 subst hp h1
 have hmlt := map_lt h
 obtain ⟨h1,hown,⟨h3,h4⟩,h5⟩ := h
 have hne : ∀ x ∈ l,x.id ≠ f := seek_none hx
 have hkeep : ∀ i,i < w.heap.size -> i ≠ m -> w2.heap[i]? = w.heap[i]? := fun i hi hn =>
  (hg.block i (by simp; omega) (fun e => hn (by injection e))).trans (Below.heap_alloc w _ i hi)
 obtain ⟨es,cl,hb,_⟩ := hown
 refine ⟨hF _ h1,?_,⟨fun y hy => ?_,fun y hy z hz hyz => ?_⟩,ins_up hf hf0 h5 hne⟩
 ·have e : (DataW.map (ents l pl)).put (.int .i64 f) (.lit (.int .i64 w.heap.size)) = .map (ents (ins f l) (upd pl f ⟨w.heap.size,none,0⟩)) := ents_put ⟨w.heap.size,none,0⟩ pl hne
  rw [e] at h2
  obtain ⟨es',cl',hb',hfit,_,hD⟩ := h2
  refine ⟨es',cl',hb',hfit,?_,hD⟩
  have := congrArg (fun D : DataW Unit => Maps.size D) hD
  simp only [Maps.size,length_sorted,ents,List.length_map,Array.length_toList] at this
  omega
 ·rcases ins_mem hy with rfl | hy
  ·show FileAt _ _ _ (upd pl f _ f)
   rw [upd_same]
   refine ⟨?_,hFp,World.ownsRow_nil _ _ _ _,fun g hg => by cases hg⟩
   exact (hg.block w.heap.size (by simp) (fun e => by injection e with e; omega)).trans (heap_alloc_new w _)
  ·rw [upd_other _ _ (hne y hy)]
   have hY := h3 y hy
   refine (hY.keep (hkeep _ (Blk.lt hY.1) fun e => ?_) fun g hgr => ?_).mono hF
   ·have := hY.1
    unfold Blk at this
    rw [e,hb] at this
    cases this
   ·obtain ⟨cur,hc⟩ := own_type hY.2.2.1 (g := g) (by rw [row_own]; exact hgr)
    refine hkeep g (Array.getElem?_eq_some_iff.1 hc).1 fun e => ?_
    rw [e,hb] at hc
    cases hc
 ·rcases ins_mem hy with rfl | hy
  ·rcases ins_mem hz with rfl | hz
   ·exact absurd rfl hyz
   ·rw [upd_other _ _ (hne z hz)]
    show (upd pl f _ f).p ≠ _ /\ ((upd pl f _ f).row = none \/ _)
    rw [upd_same]
    exact ⟨fun e => by have := Blk.lt (h3 z hz).1; rw [<- e] at this; exact absurd this (Nat.lt_irrefl _),.inl rfl⟩
  ·rcases ins_mem hz with rfl | hz
   ·rw [upd_other _ _ (hne y hy)]
    show _ ≠ (upd pl f _ f).p /\ (_ \/ _ ≠ (upd pl f _ f).row)
    rw [upd_same]
    refine ⟨fun e => by have := Blk.lt (h3 y hy).1; rw [e] at this; exact absurd this (Nat.lt_irrefl _),?_⟩
    cases hqr : (pl y.id).row with
    | none => exact .inl rfl
    | some g => exact .inr fun e => by cases e
   ·rw [upd_other _ _ (hne y hy),upd_other _ _ (hne z hz)]
    exact h4 y hy z hz hyz
theorem Body.gone (h : Body w F l m pl) {f : Int} {n : Nat} (h2 : w'.ownsMap Tryz.prog 3 rd m n ((DataW.map (ents l pl)).del (.int .i64 f))) (hg : w.grownBy w' (some m)) : Body w' F (del l f) m pl := by
 obtain ⟨h1,hown,⟨h3,h4⟩,h5⟩ := h
 have hmlt := hown.lt
 obtain ⟨es,cl,hb,_⟩ := hown
 refine ⟨h1,?_,⟨fun y hy => ?_,fun y hy z hz hyz => h4 y (del_mem hy).1 z (del_mem hz).1 hyz⟩,del_up h5⟩
 ·rw [ents_del] at h2
  obtain ⟨es',cl',hb',hfit,_,hD⟩ := h2
  refine ⟨es',cl',hb',hfit,?_,hD⟩
  have := congrArg (fun D : DataW Unit => Maps.size D) hD
  simp only [Maps.size,length_sorted,ents,List.length_map,Array.length_toList] at this
  omega
 ·have hY := h3 y (del_mem hy).1
  refine hY.keep (hg.block _ (Blk.lt hY.1) fun e => ?_) fun g hgr => ?_
  ·have := hY.1
   unfold Blk at this
   injection e with e
   rw [e,hb] at this
   cases this
  ·obtain ⟨cur,hc⟩ := own_type hY.2.2.1 (g := g) (by rw [row_own]; exact hgr)
   refine hg.block g (Array.getElem?_eq_some_iff.1 hc).1 fun e => ?_
   injection e with e
   rw [e,hb] at hc
   cases hc
end
end Disk
namespace Disk
open Go.RowKit Base DiskMath Foot
def Fits (d : Dk) : Prop := d.ops < 4611686018427387904 /\ d.left < 9223372036854775808
def I64 (f : Int) : Prop := -9223372036854775808 <= f /\ f <= 9223372036854775807
theorem I64.wf {f : Int} (h : I64 f) : (Lit.int .i64 f).wf = true := by
 unfold I64 at h
 simp [Lit.wf,IntKind.min,IntKind.max,IntKind.signed,IntKind.bits]
 omega
theorem Head.cells {w : World} {g m : Nat} {d : Dk} (h : Head w g d m) :
 w.cell? ⟨g,0,none⟩ = some (.int .i64 d.ops) /\ w.cell? ⟨g,1,none⟩ = some (.int .i64 d.left) /\ w.cell? ⟨g,2,none⟩ = some (.bool d.off) /\ w.cell? ⟨g,3,none⟩ = some (.map (some m)) :=
 ⟨Blk.cell h 0,Blk.cell h 1,Blk.cell h 2,Blk.cell h 3⟩
theorem only_set {a w : World} {g : Nat} (h : a.grownBy w (some g)) (o : Nat) (u : Value) : a.grownBy (w.setCell ⟨g,o,none⟩ u) (some g) := only_setCell h (.inl rfl) u
theorem only_three (w : World) (g : Nat) (u v x : Value) : w.grownBy (((w.setCell ⟨g,0,none⟩ u).setCell ⟨g,1,none⟩ v).setCell ⟨g,2,none⟩ x) (some g) := only_set (only_set (only_set (World.grownBy.refl _ _) _ _) _ _) _ _
theorem spend_any (g m : Nat) (d : Dk) (w : World) (hh : Head w g d m) (hoff : d.off = false) (hf : Fits d) :
 Calls Tryz.prog 82 #[.pointer (some ⟨g,0,none⟩)] w fun e w' => e = .returned (.int .i64 (told d)) /\ Head w' g (tick d) m /\ w.grownBy w' (some g) := by
 obtain ⟨files,left,off,ops⟩ := d
 obtain ⟨hf1,hf2⟩ := hf
 dsimp only at hoff hf1 hf2
 subst hoff
 obtain ⟨c0,c1,c2,_⟩ := hh.cells
 dsimp only at c0 c1 c2
 have z0 := Blk.frozen hh 0
 have z1 := Blk.frozen hh 1
 have z2 := Blk.frozen hh 2
 have HH := hid hh
 clear hh
 rcases Nat.eq_zero_or_pos left with h0 | h0
 ·subst h0
  go_enter Tryz.func82,Tryz.ntmps82
  go_wp2
  go_ret
  refine ⟨rfl,?_,only_set (World.grownBy.refl _ _) _ _⟩
  exact Blk.set_ HH.out 0 (.int .i64 (ops + 1))
 ·by_cases h1 : left = 1
  ·subst h1
   go_enter Tryz.func82,Tryz.ntmps82
   go_wp2
   go_ret
   refine ⟨rfl,?_,only_three _ _ _ _ _⟩
   exact Blk.set_ (Blk.set_ (Blk.set_ HH.out 0 (.int .i64 (ops + 1))) 1 (.int .i64 0)) 2 (.bool true)
  ·have hb : ((left : Int) - 1 == 0) = false := by simp; omega
   have HT := hid (show told ⟨files,left,false,ops⟩ = 0 from if_neg h1)
   have HL := hid (show ((left : Int) - 1) = ((left - 1 : Nat) : Int) by omega)
   have HB := hid (show decide (left = 1) = false from decide_eq_false h1)
   clear h1
   go_enter Tryz.func82,Tryz.ntmps82
   go_wp2
   go_ret
   refine ⟨by rw [HT.out]; rfl,?_,only_three _ _ _ _ _⟩
   have := Blk.set_ (Blk.set_ (Blk.set_ HH.out 0 (.int .i64 (ops + 1))) 1 (.int .i64 (left - 1))) 2 (.bool false)
   unfold Head tick
   dsimp only
   rw [HB.out]
   rw [HL.out] at this ⊢
   exact this
theorem refuse_seen {d : Dk} {f : Int} {x : Fl} (hoff : d.off = false) (hu : Up 0 d.files) (hx : seek d.files f = some x) : 0 <= f /\ f < 16384 /\ refuse d f true = 0 := by
 obtain ⟨h1,h2⟩ := seek_mem hx
 have := hu.mem x h1
 refine ⟨by omega,by omega,?_⟩
 unfold refuse
 rw [hoff,hx,if_neg (by simp),if_neg (by omega),if_neg (by simp)]
theorem find_yes (F : Nat -> Prop) (g m : Nat) (pl : Int -> Pl) (d : Dk) (f : Int) (x : Fl) (w : World) (hh : Head w g d m) (hb : Body w F d.files m pl) (hoff : d.off = false) (hx : seek d.files f = some x) :
 Calls Tryz.prog 81 #[.pointer (some ⟨g,0,none⟩),.int .i64 f] w fun e w' => e = .returned (.tuple #[.pointer (some ⟨(pl f).p,0,none⟩),.int .i64 0]) /\ w = w' := by
 obtain ⟨h0,h1,h2⟩ := refuse_seen hoff hb.2.2.2 hx
 clear h2
 have hl := hb.finds (f := f) (I64.wf ⟨by omega,by omega⟩)
 obtain ⟨_,_,c2,c3⟩ := hh.cells
 rw [hoff] at c2
 rw [hx,Option.map_some] at hl
 clear hx hb hh hoff
 have h3 : decide (f < 0) = false := by simp; omega
 have h4 : decide (16384 <= f) = false := by simp; omega
 clear h0 h1
 go_enter Tryz.func81,Tryz.ntmps81
 go_wp2
 go_ret2
 exact ⟨rfl,rfl⟩
theorem find_no (F : Nat -> Prop) (g m : Nat) (pl : Int -> Pl) (d : Dk) (f k : Int) (w : World) (hh : Head w g d m) (hb : Body w F d.files m pl) (hr : refuse d f true = k) (hk : k ≠ 0) :
 Calls Tryz.prog 81 #[.pointer (some ⟨g,0,none⟩),.int .i64 f] w fun e w' => e = .returned (.tuple #[.pointer none,.int .i64 k]) /\ w = w' := by
 obtain ⟨_,_,c2,c3⟩ := hh.cells
 unfold refuse at hr
 by_cases h1 : d.off = true
 ·rw [h1] at c2
  rw [if_pos h1] at hr
  subst hr
  clear h1 hb hh
  go_enter Tryz.func81,Tryz.ntmps81
  go_wp2
  go_ret2
  exact ⟨rfl,rfl⟩
 ·rw [Bool.not_eq_true] at h1
  rw [h1] at c2
  rw [h1,if_neg (by simp)] at hr
  by_cases h2 : f < 0 \/ 16384 <= f
  ·rw [if_pos h2] at hr
   subst hr
   rcases h2 with h2 | h2
   ·clear h1 hb hh
    go_enter Tryz.func81,Tryz.ntmps81
    go_wp2
    go_ret2
    exact ⟨rfl,rfl⟩
   ·have h3 : decide (f < 0) = false := by simp; omega
    clear h1 hb hh
    go_enter Tryz.func81,Tryz.ntmps81
    go_wp2
    go_ret2
    exact ⟨rfl,rfl⟩
  ·rw [if_neg h2] at hr
   cases hx : seek d.files f with
   | some x =>
     rw [hx,if_neg (by simp)] at hr
     exact absurd hr.symm hk
   | none =>
     rw [hx,if_pos (by simp)] at hr
     subst hr
     have h3 : 0 <= f := by omega
     have h4 : f < 16384 := by omega
     have hl := hb.finds (f := f) (I64.wf ⟨by omega,by omega⟩)
     rw [hx,Option.map_none] at hl
     clear h1 h2 hb hh hx
     have h5 : decide (f < 0) = false := by simp; omega
     have h6 : decide (16384 <= f) = false := by simp; omega
     clear h3 h4
     go_enter Tryz.func81,Tryz.ntmps81
     go_wp2
     go_ret2
     exact ⟨rfl,rfl⟩
end Disk
namespace Disk
open Go.RowKit Base
open Go.ChangeShapes Go.WideShapes Go.Deep
section
variable {H : Type} {enc : TypeId × Value -> H} {W : World} {a : Option Addr} {len cap : Nat} {d : DataW H} {p : List MemPlace}
theorem ints_in {n : Nat} {v : Value} {y : DataW H × List MemPlace} (h : DataW.trod enc Tryz.prog W 0 (fun _ => true) true n 23 [v] = some y) : ∃ A nk ck ks,v = .slice A nk ck /\ Row W W.heap.size 1 A nk ck (iv ks) /\ ∀ k,I64 (ks.getD k 0) := by
 rcases open_ints Tryz.underlying23 Tryz.underlying3 (by kernel_rfl) h with ⟨hcs,_⟩ | ⟨x,l,c,zs,hcs,_,hl,hm,hz,hx,hcell,hwz⟩
 ·simp only [List.cons.injEq,and_true] at hcs
  exact ⟨none,0,0,[],hcs,Row.nil_ _ _ _,fun k => ⟨by simp,by simp⟩⟩
 ·simp only [List.cons.injEq,and_true] at hcs
  have hz' : zs.length = c := by simpa using hz
  unfold maxLen at hm
  refine ⟨some x,l,c,zs.take l,hcs,⟨by rw [iv,List.length_map,List.length_take]; omega,hl,by omega,fun hn => ?_⟩,fun k => ?_⟩
  ·obtain ⟨b,off,spot⟩ := x
   have hc0 := hcell 0 (by omega)
   have hspot : spot = none := by simpa [Addr.add] using World.cell?_spot hc0
   subst hspot
   have hlt : b < W.heap.size := by
    have := World.block_lt_of_cell? W _ hc0
    simpa [Addr.add] using this
   refine ⟨b,off,rfl,hlt,fun j u hu => ?_⟩
   rw [iv,List.getElem?_map,List.getElem?_take] at hu
   split at hu
   ·have hjl : j < zs.length := by omega
    have hc := hcell j hjl
    rw [add_none] at hc
    rw [hc,List.getD_eq_getElem?_getD]
    rw [List.getElem?_eq_getElem hjl] at hu ⊢
    simp only [Option.map_some,Option.some.injEq] at hu
    subst hu
    rfl
   ·simp at hu
  ·rw [List.getD_eq_getElem?_getD,List.getElem?_take]
   split
   ·rcases Nat.lt_or_ge k zs.length with h1 | h1
    ·rw [List.getElem?_eq_getElem h1]
     have hb := bounds_i64 (hwz zs[k] (List.getElem_mem h1))
     exact ⟨by simp; omega,by simp; omega⟩
    ·rw [List.getElem?_eq_none h1]
     exact ⟨by simp,by simp⟩
   ·exact ⟨by simp,by simp⟩
theorem open_ints_row (h : DataW.Trod enc Tryz.prog W 0 (fun _ => true) true 23 (.slice a len cap) d p) : ∃ ks,Row W W.heap.size 1 a len cap (iv ks) /\ ∀ k,I64 (ks.getD k 0) := by
 obtain ⟨fuel,hf⟩ := h
 obtain ⟨A,nk,ck,ks,e,h1,h2⟩ := ints_in (v := .slice a len cap) (by simpa [Value.cells] using hf)
 simp only [Value.slice.injEq] at e
 obtain ⟨rfl,rfl,rfl⟩ := e
 exact ⟨ks,h1,h2⟩
end
end Disk
namespace SrcMath
open IdxMath TxnMath FoldMath PartMath
open FieldMath (encZ)
open ImgMath (Im imgB decI)
open DiskMath (Fl Dk Up)
open WalMath (Lg Sg rowsOf)
theorem put_last {l : List Rw} {k : Int} {v : ByteArray} (h : ∀ x ∈ l,x.key < k) : IdxMath.put l k v = l ++ [⟨k,v⟩] := by
 induction l with
 | nil => rfl
 | cons y r ih =>
   unfold IdxMath.put
   rw [if_pos (h y List.mem_cons_self),ih fun x hx => h x (List.mem_cons_of_mem _ hx)]
   rfl
theorem make_front {l : List Rw} (h : Rise l) : ∀ n,n <= l.length -> make (l.take n) = l.take n
 | 0,_ => by simp only [List.take_zero]; rfl
 | n + 1,hn => by
   have hx : l[n]? = some l[n] := List.getElem?_eq_getElem (by omega)
   have e : l.take (n + 1) = l.take n ++ [l[n]] := by rw [List.take_succ,hx]; rfl
   rw [e,make_snoc,make_front h n (by omega),put_last]
   intro y hy
   obtain ⟨i,hi⟩ := List.getElem?_of_mem hy
   have hin : i < n := by
    have := (List.getElem?_eq_some_iff.1 hi).1
    rw [List.length_take] at this
    omega
   rw [List.getElem?_take_of_lt hin] at hi
   exact h.get hin hi hx
theorem make_rise {l : List Rw} (h : Rise l) : make l = l := by
 have := make_front h l.length (Nat.le_refl _)
 rwa [List.take_length] at this
theorem rise_from : ∀ {m : Int} {l : List Rw},ImgMath.risesFrom m l = true -> (∀ x ∈ l,m < x.key) /\ Rise l
 | m,[],_ => ⟨(fun x hx => by cases hx),List.Pairwise.nil⟩
 | m,x :: r,h => by
   rw [ImgMath.rises_cons] at h
   simp only [Bool.and_eq_true,decide_eq_true_eq] at h
   obtain ⟨h1,_,_,h4⟩ := h
   obtain ⟨h5,h6⟩ := rise_from h4
   refine ⟨fun y hy => ?_,List.Pairwise.cons h5 h6⟩
   rcases List.mem_cons.1 hy with rfl | hy
   ·exact h1
   ·have := h5 y hy
    omega
structure ImTabs (T : List (List Rw)) : Prop where
 rise : ∀ l ∈ T,Rise l
 few : ∀ l ∈ T,l.length <= 1000
theorem imTabs_of {i : Im} (h : i.may = true) : ImTabs i.tabs := by
 unfold Im.may at h
 simp only [Bool.and_eq_true,decide_eq_true_eq] at h
 have hall : ∀ l ∈ i.tabs,ImgMath.mayTab l = true := by
  have h2 : i.tabs.all ImgMath.mayTab = true := by simp_all
  exact List.all_eq_true.1 h2
 refine ⟨fun l hl => ?_,fun l hl => ?_⟩
 ·have := hall l hl
  unfold ImgMath.mayTab at this
  rw [Bool.and_eq_true] at this
  exact (rise_from this.2).2
 ·have := hall l hl
  unfold ImgMath.mayTab at this
  rw [Bool.and_eq_true,decide_eq_true_eq] at this
  exact this.1
theorem imgAt_tabs {n : Nat} {d : Dk} {f : Int} {i : Im} (h : imgAt n d f = some i) : ImTabs i.tabs /\ i.tabs.length = n := by
 unfold imgAt at h
 split at h
 ·cases h
 ·split at h
  ·cases h
  ·next x hx =>
   split at h
   ·injection h with h
    subst h
    exact ⟨imTabs_of (ImgMath.decI_ok hx).1,by assumption⟩
   ·cases h
theorem imgAt_lsn {n : Nat} {d : Dk} {f : Int} {i : Im} (h : imgAt n d f = some i) : 0 <= i.lsn /\ i.lsn <= 1099511627776 := by
 unfold imgAt at h
 split at h
 ·cases h
 ·split at h
  ·cases h
  ·next x hx =>
   split at h
   ·injection h with h
    subst h
    have h := (ImgMath.decI_ok hx).1
    unfold Im.may at h
    simp only [Bool.and_eq_true,decide_eq_true_eq] at h
    omega
   ·cases h
theorem load_next {a T : List (List Rw)} (hr : ∀ l ∈ a,Rise l) (hl : a.length = T.length) {k : Nat} {r : List Rw} (hk : a[k]? = some r) : Tbl.load (a.take k ++ T.drop k) (k : Int) r = a.take (k + 1) ++ T.drop (k + 1) := by
 have hka : k < a.length := (List.getElem?_eq_some_iff.1 hk).1
 have hlen : (a.take k).length = k := by rw [List.length_take]; omega
 have hL : (a.take k ++ T.drop k).length = a.length := by rw [List.length_append,hlen,List.length_drop]; omega
 unfold Tbl.load
 rw [if_pos (show Tbl.isT _ _ = true from decide_eq_true (by rw [hL]; omega)),make_rise (hr r (List.mem_of_getElem? hk)),Int.toNat_natCast]
 rw [List.set_append_right _ _ (by omega),hlen,Nat.sub_self,List.drop_eq_getElem_cons (by omega : k < T.length),List.set_cons_zero,List.take_succ,hk]
 simp
theorem entry_ok {n : Nat} {num : Int} {b : List UInt8} {t : Tx} (h : entry n num b = some t) : decT b = .ok t /\ t.lsn = num /\ (∀ c ∈ t.chs,c.tbl < (n : Int)) /\ t.may = true := by
 unfold entry at h
 split at h
 ·next u hu =>
  split at h
  ·next hc =>
   injection h with h
   subst h
   exact ⟨hu,hc.1,fun c hcm => by simpa using List.all_eq_true.1 hc.2 c hcm,(decT_ok hu).1⟩
  ·cases h
 ·cases h
theorem may_tbl {t : Tx} (h : t.may = true) : ∀ c ∈ t.chs,0 <= c.tbl /\ c.tbl < 8 /\ -9223372036854775808 <= c.key /\ c.key <= 9223372036854775807 := fun c hc => by
 have := chmay_of ((may_of h).ch c hc)
 have h1 := this.tbl
 have h2 := this.key
 omega
theorem may_below {n : Int} {c : Ch} (h : c.may 8 = true) : c.may n = decide (c.tbl < n) := by
 unfold Ch.may at h ⊢
 simp only [Bool.and_eq_true,decide_eq_true_eq] at h
 obtain ⟨h1,h2,h3,h4,h5⟩ := h
 rw [decide_eq_true h1,decide_eq_true h3,decide_eq_true h4,h5]
 simp
def mayS (n : Int) (x : Tx) : Bool := x.may && x.chs.all (Ch.may n)
theorem all_congr {α : Type} {p q : α -> Bool} : ∀ {l : List α},(∀ x ∈ l,p x = q x) -> l.all p = l.all q
 | [],_ => rfl
 | x :: l,h => by rw [List.all_cons,List.all_cons,h x List.mem_cons_self,all_congr fun y hy => h y (List.mem_cons_of_mem _ hy)]
theorem mayS_of {n : Int} {x : Tx} (h : x.may = true) : mayS n x = x.chs.all fun c => decide (c.tbl < n) := by
 unfold mayS
 rw [h,Bool.true_and]
 exact all_congr fun c hc => may_below ((may_of h).ch c hc)
theorem entry_is {n : Nat} {num : Int} {b : List UInt8} : entry n num b = match decT b with
 | .ok t => if t.lsn = num /\ mayS n t = true then some t else none
 | .error _ => none := by
 unfold entry
 cases h : decT b with
 | error e => rfl
 | ok t =>
   dsimp only
   rw [mayS_of (decT_ok h).1]
theorem takeF_err {b : List UInt8} {e : Nat} (h : FieldMath.takeF b = .error e) : e ≠ 0 := by
 unfold FieldMath.takeF at h
 repeat' split at h
 all_goals first | (injection h with h; omega) | cases h
theorem takeN_err : ∀ {n : Nat} {b : List UInt8} {e : Nat},FieldMath.takeN n b = .error e -> e ≠ 0
 | 0,b,e,h => by cases h
 | n + 1,b,e,h => by
   rw [FieldMath.takeN] at h
   cases h1 : FieldMath.takeF b with
   | error e1 =>
     rw [h1] at h
     injection h with h
     subst h
     exact takeF_err h1
   | ok x =>
     rw [h1] at h
     dsimp only at h
     cases h2 : FieldMath.takeN n x.2 with
     | error e2 =>
       rw [h2] at h
       injection h with h
       subst h
       exact takeN_err h2
     | ok y => rw [h2] at h; cases h
theorem decT_err {b : List UInt8} {e : Nat} (h : decT b = .error e) : e ≠ 0 := by
 unfold decT FieldMath.dec at h
 repeat' split at h
 all_goals first
  | (injection h with h; omega)
  | (cases h; done)
  | skip
 all_goals (
  rename_i h1
  repeat' split at h1
  all_goals first
   | (injection h1 with h1; injection h with h; omega)
   | (cases h1; done)
   | (rename_i h2; injection h1 with h1; injection h with h; subst h1; subst h; exact takeN_err h2))
theorem reads_snoc {n : Nat} : ∀ {x : Int} {l : List (List UInt8)} {ts : List Tx} {b : List UInt8} {t : Tx},reads n x l = some ts -> entry n (x + l.length) b = some t -> reads n x (l ++ [b]) = some (ts ++ [t])
 | x,[],ts,b,t,h,hb => by
   rw [reads] at h
   injection h with h
   subst h
   rw [show x + (([] : List (List UInt8)).length : Int) = x by simp] at hb
   rw [List.nil_append,reads,hb,reads]
   rfl
 | x,a :: l,ts,b,t,h,hb => by
   rw [reads] at h
   split at h
   ·next u us hu hus =>
    injection h with h
    subst h
    have := reads_snoc hus (b := b) (t := t) (by rw [show x + 1 + (l.length : Int) = x + ((a :: l).length : Int) by simp only [List.length_cons]; omega]; exact hb)
    rw [List.cons_append,reads,hu,this]
    rfl
   ·cases h
theorem reads_stop {n : Nat} : ∀ {x : Int} {l : List (List UInt8)} {b : List UInt8} {r : List (List UInt8)},entry n (x + l.length) b = none -> reads n x (l ++ b :: r) = none
 | x,[],b,r,hb => by
   rw [show x + (([] : List (List UInt8)).length : Int) = x by simp] at hb
   rw [List.nil_append,reads,hb]
 | x,a :: l,b,r,hb => by
   have := reads_stop (x := x + 1) (l := l) (b := b) (r := r) (by rw [show x + 1 + (l.length : Int) = x + ((a :: l).length : Int) by simp only [List.length_cons]; omega]; exact hb)
   rw [List.cons_append,reads,this]
   split
   ·next h1 h2 => cases h2
   ·rfl
theorem reads_length {n : Nat} : ∀ {x : Int} {l : List (List UInt8)} {ts : List Tx},reads n x l = some ts -> ts.length = l.length
 | x,[],ts,h => by rw [reads] at h; injection h with h; subst h; rfl
 | x,a :: l,ts,h => by
   rw [reads] at h
   split at h
   ·next u us hu hus =>
    injection h with h
    subst h
    rw [List.length_cons,List.length_cons,reads_length hus]
   ·cases h
theorem reads_lsn {n : Nat} : ∀ {x : Int} {l : List (List UInt8)} {ts : List Tx},reads n x l = some ts -> ∀ t ∈ ts,x <= t.lsn
 | x,[],ts,h => by rw [reads] at h; injection h with h; subst h; intro t ht; cases ht
 | x,a :: l,ts,h => by
   rw [reads] at h
   split at h
   ·next u us hu hus =>
    injection h with h
    subst h
    intro t ht
    rcases List.mem_cons.1 ht with rfl | ht
    ·exact Int.le_of_eq (entry_ok hu).2.1.symm
    ·have := reads_lsn hus t ht
     omega
   ·cases h
def above (L : Int) (T : List (List Rw)) (ts : List Tx) : List (List Rw) := (behind L ts).foldl (fun T (x : Tx) => Tbl.doAll T x.chs) T
theorem above_nil (L : Int) (T : List (List Rw)) : above L T [] = T := rfl
theorem above_snoc {L : Int} {T : List (List Rw)} {ts : List Tx} {t : Tx} : above L T (ts ++ [t]) = if L < t.lsn then Tbl.doAll (above L T ts) t.chs else above L T ts := by
 unfold above behind
 rw [List.filter_append,List.foldl_append]
 by_cases h : L < t.lsn
 ·rw [if_pos h,List.filter_cons,if_pos (decide_eq_true h)]
  rfl
 ·rw [if_neg h,List.filter_cons,if_neg (by simpa using h)]
  rfl
theorem behind_all {ts : List Tx} (h : ∀ t ∈ ts,1 <= t.lsn) : behind 0 ts = ts := List.filter_eq_self.2 fun t ht => decide_eq_true (by have := h t ht; omega)
theorem do1_length (T : List (List Rw)) (c : Ch) : (Tbl.do1 T c).length = T.length := by unfold Tbl.do1; rw [List.length_set]
theorem doAll_length : ∀ (l : List Ch) (T : List (List Rw)),(Tbl.doAll T l).length = T.length
 | [],T => rfl
 | c :: l,T => by
   show (Tbl.doAll (Tbl.do1 T c) l).length = _
   rw [doAll_length l,do1_length]
theorem above_length {L : Int} {T : List (List Rw)} {ts : List Tx} : (above L T ts).length = T.length := by
 unfold above
 generalize behind L ts = us
 induction us generalizing T with
 | nil => rfl
 | cons u us ih => rw [List.foldl_cons,ih,doAll_length]
theorem all_is {T : List (List Rw)} {l : List Ch} (h : ∀ c ∈ l,0 <= c.tbl /\ c.tbl < (T.length : Int)) : Tbl.allT T l = true := List.all_eq_true.2 fun c hc => decide_eq_true (h c hc)
theorem appl_is {T : List (List Rw)} {l : List Ch} (h : ∀ c ∈ l,0 <= c.tbl /\ c.tbl < (T.length : Int)) : Tbl.appl T l = Tbl.doAll T l := by
 unfold Tbl.appl
 rw [if_pos (all_is h)]
theorem most_doAll {M : Nat} : ∀ {l : List Ch} {T : List (List Rw)} {m : Nat},Tbl.Most T m -> (∀ c ∈ l,0 <= c.tbl /\ c.tbl < (T.length : Int)) -> m + l.length <= M -> Tbl.Most (Tbl.doAll T l) M
 | [],T,m,h,_,hM => fun t => Nat.le_trans (h t) (by simp at hM; exact hM)
 | c :: l,T,m,h,hc,hM => by
   show Tbl.Most (Tbl.doAll (Tbl.do1 T c) l) M
   refine most_doAll (h.do1 (decide_eq_true (hc c List.mem_cons_self))) (fun c2 hc2 => ?_) (by simp only [List.length_cons] at hM; omega)
   rw [do1_length]
   exact hc c2 (List.mem_cons_of_mem _ hc2)
theorem most_tabs {T : List (List Rw)} (h : ∀ l ∈ T,l.length <= 1000) : Tbl.Most T 1000 := fun t => by
 unfold Tbl.tab
 split
 ·cases hx : T[t.toNat]? with
  | none => simp
  | some l => exact h l (List.mem_of_getElem? hx)
 ·simp
def begun (n : Nat) (im : Option (Int × Im)) : List (List Rw) := match im with
 | none => List.replicate n []
 | some (_,i) => i.tabs
theorem tabs_is {n : Nat} {im : Option (Int × Im)} {ts : List Tx} (h : ∀ t ∈ ts,1 <= t.lsn) : tabs n im ts = above (lsnOf im) (begun n im) ts := by
 unfold tabs above begun lsnOf
 split
 ·rw [behind_all h]
 ·rfl
end SrcMath
end Go.Proofs.YtefnmnpfecfdaaaGreat
