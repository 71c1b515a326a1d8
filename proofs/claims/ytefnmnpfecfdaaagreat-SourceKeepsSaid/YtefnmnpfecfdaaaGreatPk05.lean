/-
  Texts of one proof: DiskPart, FoldMath.
-/
import Derived.Test.YtefnmnpfecfdaaaGreatPk04
set_option linter.all false
set_option maxRecDepth 100000
set_option maxHeartbeats 200000
namespace Go.Proofs.YtefnmnpfecfdaaaGreat
namespace PartMath
open DiskMath
def sel (P : Int -> Bool) (l : List Fl) : List Fl := l.filter fun x => P x.id
def part (P : Int -> Bool) (d : Dk) : Dk := { d with files := sel P d.files }
section
variable {P : Int -> Bool} {l : List Fl} {f : Int} {d : Dk}
theorem seek_sel (h : P f = true) : seek (sel P l) f = seek l f := by
 unfold seek sel
 induction l with
 | nil => rfl
 | cons x r ih =>
   rw [List.filter_cons,List.find?_cons]
   by_cases hx : x.id = f
   ·rw [hx,h,if_pos rfl,List.find?_cons,hx,decide_eq_true rfl]
   ·rw [decide_eq_false hx]
    split
    ·rw [List.find?_cons,decide_eq_false hx]
     exact ih
    ·exact ih
theorem put_sel {g : Fl -> Fl} (hg : ∀ x,(g x).id = x.id) : sel P (put l f g) = put (sel P l) f g := by
 unfold sel put
 rw [List.filter_map]
 congr 1
 apply List.filter_congr
 intro x _
 simp only [Function.comp]
 split
 ·rw [hg]
 ·rfl
theorem put_off {g : Fl -> Fl} (hg : ∀ x,(g x).id = x.id) (h : P f = false) : sel P (put l f g) = sel P l := by
 rw [put_sel hg]
 unfold put
 conv => rhs; rw [<- List.map_id (sel P l)]
 apply List.map_congr_left
 intro x hx
 rw [if_neg]
 ·rfl
 ·rintro rfl
  have h2 : P x.id = true := (List.mem_filter.1 hx).2
  rw [h] at h2
  cases h2
theorem ins_low {l : List Fl} (h : ∀ x ∈ l,f <= x.id) : ins f l = ⟨f,[],0⟩ :: l := by
 cases l with
 | nil => rfl
 | cons x r =>
   unfold ins
   rw [if_neg (by have := h x List.mem_cons_self; omega)]
theorem ins_sel (h : P f = true) : ∀ {lo : Int} {l : List Fl},Up lo l -> sel P (ins f l) = ins f (sel P l)
 | _,[],_ => by simp [sel,ins,h]
 | lo,x :: r,⟨h1,h2,h3,h4⟩ => by
   have ih := ins_sel h (l := r) h4
   by_cases hx : x.id < f
   ·have e : ins f (x :: r) = x :: ins f r := by rw [ins,if_pos hx]
    rw [e]
    unfold sel at ih ⊢
    rw [List.filter_cons,List.filter_cons]
    split
    ·rw [ih,ins,if_pos hx]
    ·exact ih
   ·have e : ins f (x :: r) = ⟨f,[],0⟩ :: x :: r := by rw [ins,if_neg hx]
    rw [e]
    have hlow : ∀ y ∈ sel P (x :: r),f <= y.id := fun y hy => by
     rcases List.mem_cons.1 (List.mem_filter.1 hy).1 with rfl | hy
     ·omega
     ·have := (h4.mem y hy).1
      omega
    rw [ins_low hlow]
    unfold sel
    rw [List.filter_cons,if_pos (by exact h)]
theorem ins_off (h : P f = false) : ∀ l : List Fl,sel P (ins f l) = sel P l
 | [] => by simp [sel,ins,h]
 | x :: r => by
   have ih := ins_off h r
   unfold ins
   unfold sel at ih ⊢
   split
   ·rw [List.filter_cons,List.filter_cons,ih]
   ·rw [List.filter_cons,if_neg (by simp [h])]
theorem del_sel : sel P (del l f) = del (sel P l) f := by
 unfold sel del
 rw [List.filter_filter,List.filter_filter]
 apply List.filter_congr
 intro x _
 exact Bool.and_comm _ _
theorem del_off (h : P f = false) : sel P (del l f) = sel P l := by
 unfold sel del
 rw [List.filter_filter]
 apply List.filter_congr
 intro x _
 by_cases hx : x.id = f
 ·rw [hx,h]
  rfl
 ·rw [decide_eq_true hx]
  simp
theorem begun_sel (h : P f = true) {lo : Int} (hu : Up lo l) : sel P (begunL l f) = begunL (sel P l) f := by
 unfold begunL
 rw [seek_sel h]
 split
 ·exact ins_sel h hu
 ·rfl
theorem begun_off (h : P f = false) : sel P (begunL l f) = sel P l := by
 unfold begunL
 split
 ·exact ins_off h l
 ·rfl
theorem refuse_sel (h : P f = true) (nd : Bool) : refuse (part P d) f nd = refuse d f nd := by
 unfold refuse part
 rw [seek_sel h]
theorem size_sel (h : P f = true) : DiskMath.size (part P d) f = DiskMath.size d f := by
 unfold DiskMath.size part
 rw [seek_sel h]
theorem oper_sel {m : List Fl} (e : sel P m = l) : oper (part P d) l = ((oper d m).1,part P (oper d m).2) := by
 unfold oper
 show (if d.left = 1 then _ else _) = _
 split
 ·rfl
 ·rw [<- e]
  rfl
theorem oper_off {m : List Fl} (e : sel P m = sel P d.files) : sel P (oper d m).2.files = sel P d.files := by
 unfold oper
 split
 ·rfl
 ·exact e
theorem append_part (h : P f = true) (hu : Up 0 d.files) (b : List UInt8) : append (part P d) f b = ((append d f b).1,part P (append d f b).2) := by
 unfold append
 rw [refuse_sel h]
 split
 ·have e : sel P (put (begunL d.files f) f (grow b)) = put (begunL (sel P d.files) f) f (grow b) := by rw [put_sel (g := grow b) (fun _ => rfl),begun_sel h hu]
  refine Prod.ext rfl ?_
  show (⟨put (begunL (sel P d.files) f) f (grow b),d.left - 1,decide (d.left = 1),d.ops + 1⟩ : Dk) = ⟨sel P (put (begunL d.files f) f (grow b)),d.left - 1,decide (d.left = 1),d.ops + 1⟩
  rw [e]
 ·rfl
theorem append_off (h : P f = false) (b : List UInt8) : sel P (append d f b).2.files = sel P d.files := by
 unfold append
 split
 ·show sel P (put (begunL d.files f) f (grow b)) = _
  rw [put_off (g := grow b) (fun _ => rfl) h,begun_off h]
 ·rfl
theorem sync_part (h : P f = true) : sync (part P d) f = ((sync d f).1,part P (sync d f).2) := by
 unfold sync
 rw [refuse_sel h]
 split
 ·exact oper_sel (put_sel (g := sure) (fun _ => rfl))
 ·rfl
theorem sync_off (h : P f = false) : sel P (sync d f).2.files = sel P d.files := by
 unfold sync
 split
 ·exact oper_off (put_off (g := sure) (fun _ => rfl) h)
 ·rfl
theorem cut_part (h : P f = true) (n : Int) : cut (part P d) f n = ((cut d f n).1,part P (cut d f n).2) := by
 unfold cut
 rw [refuse_sel h,size_sel h]
 split
 ·split
  ·rfl
  ·exact oper_sel (put_sel (g := DiskMath.trim n.toNat) (fun _ => rfl))
 ·rfl
theorem cut_off (h : P f = false) (n : Int) : sel P (cut d f n).2.files = sel P d.files := by
 unfold cut
 split
 ·split
  ·rfl
  ·exact oper_off (put_off (g := DiskMath.trim n.toNat) (fun _ => rfl) h)
 ·rfl
theorem remove_part (h : P f = true) : remove (part P d) f = ((remove d f).1,part P (remove d f).2) := by
 unfold remove
 rw [refuse_sel h]
 split
 ·exact oper_sel del_sel
 ·rfl
theorem remove_off (h : P f = false) : sel P (remove d f).2.files = sel P d.files := by
 unfold remove
 split
 ·exact oper_off (del_off h)
 ·rfl
theorem crashL_sel (P : Int -> Bool) : ∀ (l : List Fl) (ks : List Int),∃ ks',sel P (crashL l ks) = crashL (sel P l) ks'
 | [],ks => ⟨ks,rfl⟩
 | x :: r,ks => by
   obtain ⟨ks',e⟩ := crashL_sel P r ks.tail
   unfold sel at e
   rw [crashL]
   by_cases hx : P x.id = true
   ·refine ⟨ks.headD 0 :: ks',?_⟩
    unfold sel
    rw [List.filter_cons,List.filter_cons,if_pos hx,if_pos (by exact hx),e]
    rfl
   ·refine ⟨ks',?_⟩
    unfold sel
    rw [List.filter_cons,List.filter_cons,if_neg hx,if_neg (by exact hx),e]
theorem crash_part (d : Dk) (ks : List Int) : ∃ ks',part P (crash d ks) = crash (part P d) ks' := by
 obtain ⟨ks',e⟩ := crashL_sel P d.files ks
 exact ⟨ks',by unfold crash part; rw [e]⟩
theorem oper_up {m : List Fl} (hu : Up 0 d.files) (hm : Up 0 m) : Up 0 (oper d m).2.files := by
 unfold oper
 split
 ·exact hu
 ·exact hm
theorem begun_up (h0 : 0 <= f) (h1 : f < 16384) (hu : Up 0 l) : Up 0 (begunL l f) := by
 unfold begunL
 split
 ·next h => exact ins_up h1 h0 hu (seek_none h)
 ·exact hu
theorem refuse_range {nd : Bool} (h : refuse d f nd = 0) : 0 <= f /\ f < 16384 := by
 unfold refuse at h
 split at h
 ·cases h
 ·split at h
  ·cases h
  ·omega
theorem append_up (hu : Up 0 d.files) (b : List UInt8) : Up 0 (append d f b).2.files := by
 unfold append
 split
 ·next h =>
  have := refuse_range h
  exact put_up (g := grow b) (fun _ => rfl) (grow_ok b) (begun_up this.1 this.2 hu)
 ·exact hu
theorem sync_up (hu : Up 0 d.files) : Up 0 (sync d f).2.files := by
 unfold sync
 split
 ·exact oper_up hu (put_up (g := sure) (fun _ => rfl) sure_ok hu)
 ·exact hu
theorem cut_up (hu : Up 0 d.files) (n : Int) : Up 0 (cut d f n).2.files := by
 unfold cut
 split
 ·split
  ·exact hu
  ·exact oper_up hu (put_up (g := DiskMath.trim n.toNat) (fun _ => rfl) (trim_ok _) hu)
 ·exact hu
theorem remove_up (hu : Up 0 d.files) : Up 0 (remove d f).2.files := by
 unfold remove
 split
 ·exact oper_up hu (del_up hu)
 ·exact hu
end
open WalMath
def mineP (base : Int) (i : Int) : Bool := decide (base <= i /\ i < base + 4096)
theorem own_own (d : Dk) (base : Int) : own (part (mineP base) d) base = own d base := by
 show sel (mineP base) (sel (mineP base) d.files) = sel (mineP base) d.files
 unfold sel
 rw [List.filter_filter]
 apply List.filter_congr
 intro x _
 exact Bool.and_self _
structure LogIn (base : Int) (l : Lg) : Prop where
 at_ : l.base = base
 segs : ∀ s ∈ l.segs,mineP base s.file = true
 left : ∀ q,l.left = some q -> mineP base q.file = true
section
variable {base : Int} {l : Lg} {d : Dk} {p : List UInt8}
theorem next_in (h : LogIn base l) (h1 : ¬ l.base + 4096 <= nextF l) : mineP base (nextF l) = true := by
 have hb := h.at_
 unfold nextF at h1 ⊢
 split
 ·next hs =>
  rw [hs] at h1
  exact decide_eq_true ⟨by omega,by omega⟩
 ·next s hs =>
  rw [hs] at h1
  have := of_decide_eq_true (h.segs s (List.mem_of_getLast? hs))
  dsimp only at h1
  exact decide_eq_true ⟨by omega,by omega⟩
theorem plan_in (h : LogIn base l) {off : Bool} {q : Pc} {b : List UInt8} (hp : plan l off p = .ok (q,b)) : mineP base q.file = true := by
 have hf : ∀ {q b},fresh l p = .ok (q,b) -> mineP base q.file = true := fun {q b} hq => by
  unfold fresh at hq
  split at hq
  ·cases hq
  ·next h1 =>
   injection hq with hq
   injection hq with hq _
   rw [<- hq]
   exact next_in h h1
 unfold plan at hp
 split at hp
 ·cases hp
 ·split at hp
  ·cases hp
  ·split at hp
   ·cases hp
   ·unfold spot at hp
    split at hp
    ·next s hs =>
     split at hp
     ·injection hp with hp
      injection hp with hp _
      rw [<- hp]
      exact h.segs s (List.mem_of_getLast? hs)
     ·exact hf hp
    ·exact hf hp
theorem clean_part (h : LogIn base l) : clean l (part (mineP base) d) = ((clean l d).1,part (mineP base) (clean l d).2) := by
 unfold clean
 split
 ·rfl
 ·next q hq =>
  split
  ·exact remove_part (h.left q hq)
  ·exact cut_part (h.left q hq) _
theorem clean_off (h : LogIn base l) {P : Int -> Bool} (hP : ∀ i,mineP base i = true -> P i = false) : sel P (clean l d).2.files = sel P d.files := by
 unfold clean
 split
 ·rfl
 ·next q hq =>
  split
  ·exact remove_off (hP _ (h.left q hq))
  ·exact cut_off (hP _ (h.left q hq)) _
theorem clean_up (hu : Up 0 d.files) : Up 0 (clean l d).2.files := by
 unfold clean
 split
 ·exact hu
 ·split
  ·exact remove_up hu
  ·exact cut_up hu _
theorem write_part (h : LogIn base l) (hu : Up 0 d.files) {q : Pc} (hq : mineP base q.file = true) (b : List UInt8) : write l (part (mineP base) d) q b = ((write l d q b).1,(write l d q b).2.1,part (mineP base) (write l d q b).2.2) := by
 unfold write
 rw [clean_part h]
 dsimp only
 split
 ·rw [append_part hq (clean_up hu)]
 ·rfl
theorem write_off (h : LogIn base l) {P : Int -> Bool} (hP : ∀ i,mineP base i = true -> P i = false) {q : Pc} (hq : mineP base q.file = true) (b : List UInt8) : sel P (write l d q b).2.2.files = sel P d.files := by
 unfold write
 split
 ·exact (append_off (hP _ hq) b).trans (clean_off h hP)
 ·exact clean_off h hP
theorem write_up (hu : Up 0 d.files) {q : Pc} (b : List UInt8) : Up 0 (write l d q b).2.2.files := by
 unfold write
 split
 ·exact append_up (clean_up hu) b
 ·exact clean_up hu
theorem write_in (h : LogIn base l) {q : Pc} (hq : mineP base q.file = true) (b : List UInt8) : LogIn base (write l d q b).2.1 := by
 unfold write
 split
 ·exact ⟨h.at_,h.segs,fun q' e => by injection e with e; rw [<- e]; exact hq⟩
 ·exact h
theorem synced_part {q : Pc} (hq : mineP base q.file = true) (b : List UInt8) : synced l (part (mineP base) d) q b p = { synced l d q b p with d := part (mineP base) (synced l d q b p).d } := by
 unfold synced
 rw [sync_part hq]
 dsimp only
 split <;> rfl
theorem synced_off {P : Int -> Bool} (hP : ∀ i,mineP base i = true -> P i = false) {q : Pc} (hq : mineP base q.file = true) (b : List UInt8) : sel P (synced l d q b p).d.files = sel P d.files := by
 unfold synced
 split
 ·exact sync_off (hP _ hq)
 ·exact sync_off (hP _ hq)
theorem synced_up (hu : Up 0 d.files) {q : Pc} (b : List UInt8) : Up 0 (synced l d q b p).d.files := by
 unfold synced
 split
 ·exact sync_up hu
 ·exact sync_up hu
theorem enter_in {segs : List Sg} (h : ∀ s ∈ segs,mineP base s.file = true) {q : Pc} (hq : mineP base q.file = true) (n : Nat) : ∀ s ∈ enter segs q n p,mineP base s.file = true := by
 unfold enter
 split
 ·intro s hs
  rcases List.mem_append.1 hs with hs | hs
  ·exact h s hs
  ·rw [List.mem_singleton] at hs
   subst hs
   exact hq
 ·split
  ·exact h
  ·next s0 hs0 =>
   intro s hs
   rcases List.mem_append.1 hs with hs | hs
   ·exact h s (List.dropLast_sublist _ |>.mem hs)
   ·rw [List.mem_singleton] at hs
    subst hs
    exact h s0 (List.mem_of_getLast? hs0)
theorem synced_in (h : LogIn base l) {q : Pc} (hq : mineP base q.file = true) (b : List UInt8) : LogIn base (synced l d q b p).l := by
 unfold synced
 split
 ·exact ⟨h.at_,enter_in h.segs hq _,fun q' e => by cases e⟩
 ·exact h
theorem wappend_part (h : LogIn base l) (hu : Up 0 d.files) : WalMath.append l (part (mineP base) d) p = { WalMath.append l d p with d := part (mineP base) (WalMath.append l d p).d } := by
 unfold WalMath.append
 rw [show (part (mineP base) d).off = d.off from rfl]
 cases hp : plan l d.off p with
 | error e => rfl
 | ok qb =>
   obtain ⟨q,b⟩ := qb
   have hq := plan_in h hp
   dsimp only
   rw [write_part h hu hq]
   dsimp only
   split
   ·rw [synced_part hq]
   ·rfl
theorem wappend_off (h : LogIn base l) {P : Int -> Bool} (hP : ∀ i,mineP base i = true -> P i = false) : sel P (WalMath.append l d p).d.files = sel P d.files := by
 unfold WalMath.append
 cases hp : plan l d.off p with
 | error e => rfl
 | ok qb =>
   obtain ⟨q,b⟩ := qb
   have hq := plan_in h hp
   dsimp only
   split
   ·exact (synced_off hP hq b).trans (write_off h hP hq b)
   ·exact write_off h hP hq b
theorem wappend_up (hu : Up 0 d.files) : Up 0 (WalMath.append l d p).d.files := by
 unfold WalMath.append
 cases hp : plan l d.off p with
 | error e => exact hu
 | ok qb =>
   obtain ⟨q,b⟩ := qb
   dsimp only
   split
   ·exact synced_up (write_up hu b) b
   ·exact write_up hu b
theorem wappend_in (h : LogIn base l) : LogIn base (WalMath.append l d p).l := by
 unfold WalMath.append
 cases hp : plan l d.off p with
 | error e => exact h
 | ok qb =>
   obtain ⟨q,b⟩ := qb
   have hq := plan_in h hp
   dsimp only
   split
   ·exact synced_in (write_in h hq b) hq b
   ·exact write_in h hq b
theorem trimS_part (lsn : Int) : ∀ (segs : List Sg) (d : Dk),(∀ s ∈ segs,mineP base s.file = true) -> trimS lsn segs (part (mineP base) d) = ((trimS lsn segs d).1,(trimS lsn segs d).2.1,part (mineP base) (trimS lsn segs d).2.2)
 | [],_,_ => rfl
 | [_],_,_ => rfl
 | s :: t :: r,d,h => by
   have hs := h s List.mem_cons_self
   have ih := trimS_part lsn (t :: r) (remove d s.file).2 (fun u hu => h u (List.mem_cons_of_mem _ hu))
   rw [trimS,trimS]
   split
   ·rw [remove_part hs]
    dsimp only
    split
    ·exact ih
    ·rfl
   ·rfl
theorem trimS_off {P : Int -> Bool} (hP : ∀ i,mineP base i = true -> P i = false) (lsn : Int) : ∀ (segs : List Sg) (d : Dk),(∀ s ∈ segs,mineP base s.file = true) -> sel P (trimS lsn segs d).2.2.files = sel P d.files
 | [],_,_ => rfl
 | [_],_,_ => rfl
 | s :: t :: r,d,h => by
   have hs := hP _ (h s List.mem_cons_self)
   have ih := trimS_off hP lsn (t :: r) (remove d s.file).2 (fun u hu => h u (List.mem_cons_of_mem _ hu))
   rw [trimS]
   split
   ·split
    ·exact ih.trans (remove_off hs)
    ·exact remove_off hs
   ·rfl
theorem trimS_up (lsn : Int) : ∀ (segs : List Sg) (d : Dk),Up 0 d.files -> Up 0 (trimS lsn segs d).2.2.files
 | [],_,h => h
 | [_],_,h => h
 | s :: t :: r,d,h => by
   have ih := trimS_up lsn (t :: r) (remove d s.file).2 (remove_up h)
   rw [trimS]
   split
   ·split
    ·exact ih
    ·exact remove_up h
   ·exact h
theorem trimS_sub (lsn : Int) : ∀ (segs : List Sg) (d : Dk),∀ s ∈ (trimS lsn segs d).2.1,s ∈ segs
 | [],_,_,h => h
 | [_],_,_,h => h
 | s :: t :: r,d,u,hu => by
   have ih := trimS_sub lsn (t :: r) (remove d s.file).2
   rw [trimS] at hu
   split at hu
   ·split at hu
    ·exact List.mem_cons_of_mem _ (ih u hu)
    ·exact hu
   ·exact hu
end
theorem load_in {P : Int -> Bool} {f0 : Int} : ∀ {fs : List Fl} {i : Nat} {acc segs : List Sg},WalMath.load f0 i acc fs = some segs -> (∀ s ∈ acc,P s.file = true) -> (∀ x ∈ fs,P x.id = true) -> ∀ s ∈ segs,P s.file = true
 | [],i,acc,segs,h,ha,_ => by
   rw [WalMath.load] at h
   injection h with h
   rw [<- h]
   exact ha
 | x :: r,i,acc,segs,h,ha,hf => by
   rw [WalMath.load] at h
   split at h
   ·cases h
   ·split at h
    ·injection h with h
     rw [<- h]
     exact ha
    ·split at h
     ·cases h
     ·refine load_in h (fun s hs => ?_) (fun y hy => hf y (List.mem_cons_of_mem _ hy))
      rcases List.mem_append.1 hs with hs | hs
      ·exact ha s hs
      ·rw [List.mem_singleton] at hs
       subst hs
       exact hf x List.mem_cons_self
theorem own_in {d : Dk} {base : Int} : ∀ x ∈ own d base,mineP base x.id = true := fun x hx => (List.mem_filter.1 hx).2
theorem loads_in {d : Dk} {base : Int} {segs : List Sg} (h : loads (own d base) = some segs) : ∀ s ∈ segs,mineP base s.file = true := by
 have hf := own_in (d := d) (base := base)
 unfold loads at h
 split at h
 ·injection h with h
  rw [<- h]
  intro s hs
  cases hs
 ·next x r e =>
  rw [e] at hf
  exact load_in h (fun s hs => by cases hs) hf
section
variable {base size : Int} {d : Dk}
theorem mend_part {segs : List Sg} (hs : ∀ s ∈ segs,mineP base s.file = true) : mend (part (mineP base) d) (own d base) segs = ((mend d (own d base) segs).1,part (mineP base) (mend d (own d base) segs).2) := by
 unfold mend
 split
 ·next x hx => exact remove_part (own_in x (List.mem_of_getElem? hx))
 ·split
  ·rfl
  ·next s e =>
   have h1 := hs s (List.mem_of_getLast? e)
   rw [size_sel h1]
   split
   ·exact cut_part h1 _
   ·rfl
theorem mend_off {segs : List Sg} (hs : ∀ s ∈ segs,mineP base s.file = true) {P : Int -> Bool} (hP : ∀ i,mineP base i = true -> P i = false) : sel P (mend d (own d base) segs).2.files = sel P d.files := by
 unfold mend
 split
 ·next x hx => exact remove_off (hP _ (own_in x (List.mem_of_getElem? hx)))
 ·split
  ·rfl
  ·next s e =>
   split
   ·exact cut_off (hP _ (hs s (List.mem_of_getLast? e))) _
   ·rfl
theorem open_part : open_ (part (mineP base) d) base size = { open_ d base size with d := part (mineP base) (open_ d base size).d } := by
 unfold open_
 rw [own_own,show (part (mineP base) d).off = d.off from rfl]
 split
 ·rfl
 ·split
  ·rfl
  ·cases e : loads (own d base) with
   | none => rfl
   | some segs =>
     dsimp only
     rw [mend_part (loads_in e)]
     unfold mended
     dsimp only
     split <;> rfl
theorem open_off {P : Int -> Bool} (hP : ∀ i,mineP base i = true -> P i = false) : sel P (open_ d base size).d.files = sel P d.files := by
 unfold open_
 split
 ·rfl
 ·split
  ·rfl
  ·cases e : loads (own d base) with
   | none => rfl
   | some segs =>
     dsimp only
     unfold mended
     split
     ·exact mend_off (loads_in e) hP
     ·exact mend_off (loads_in e) hP
theorem open_in {l : Lg} (h : (open_ d base size).l = some l) : LogIn base l := by
 unfold open_ at h
 split at h
 ·cases h
 ·split at h
  ·cases h
  ·cases e : loads (own d base) with
   | none => rw [e] at h; cases h
   | some segs =>
     rw [e] at h
     unfold mended at h
     dsimp only at h
     split at h
     ·injection h with h
      rw [<- h]
      exact ⟨rfl,loads_in e,fun q hq => by cases hq⟩
     ·cases h
end
end PartMath
namespace FoldMath
open IdxMath TxnMath
def step (r : List Rw) (c : Ch) : List Rw := if c.gone then del r c.key else put r c.key c.val
def stepT (t : Int) (r : List Rw) (c : Ch) : List Rw := if c.tbl = t then step r c else r
def rows (t : Int) (cs : List Ch) : List Rw := cs.foldl (stepT t) []
def chs (l : List Tx) (k : Nat) : List Ch := (l.take k).flatMap (·.chs)
def held (k : Int) (n : Nat) : Nat := min k.toNat n
def foldT (n : Int) (l : List Tx) (k : Int) : List (List Rw) := if 1 <= n /\ n <= 8 then (List.range n.toNat).map fun (t : Nat) => rows (t : Int) (chs l (held k l.length)) else []
theorem held_le (k : Int) (n : Nat) : held k n <= n := Nat.min_le_right _ _
theorem held_nat {k n : Nat} (h : k <= n) : held (k : Int) n = k := by unfold held; omega
theorem rows_snoc (t : Int) (cs : List Ch) (c : Ch) : rows t (cs ++ [c]) = stepT t (rows t cs) c := by unfold rows; rw [List.foldl_append]; rfl
theorem chs_zero (l : List Tx) : chs l 0 = [] := by simp [chs]
theorem chs_succ {l : List Tx} {k : Nat} {x : Tx} (h : l[k]? = some x) : chs l (k + 1) = chs l k ++ x.chs := by
 obtain ⟨hk,rfl⟩ := List.getElem?_eq_some_iff.1 h
 unfold chs
 rw [List.take_succ_eq_append_getElem hk,List.flatMap_append]
 simp
theorem step_rise {r : List Rw} (h : Rise r) (c : Ch) : Rise (step r c) := by
 unfold step
 split
 ·exact h.del _
 ·exact h.put _ _
theorem stepT_rise {r : List Rw} (h : Rise r) (t : Int) (c : Ch) : Rise (stepT t r c) := by
 unfold stepT
 split
 ·exact step_rise h c
 ·exact h
theorem foldl_rise {r : List Rw} (h : Rise r) (t : Int) (cs : List Ch) : Rise (cs.foldl (stepT t) r) := by
 induction cs generalizing r with
 | nil => exact h
 | cons c cs ih => exact ih (stepT_rise h t c)
theorem rows_rise (t : Int) (cs : List Ch) : Rise (rows t cs) := foldl_rise Rise.nil t cs
theorem step_length (r : List Rw) (c : Ch) : (step r c).length <= r.length + 1 := by
 unfold step
 split
 ·exact Nat.le_succ_of_le (del_length _ _)
 ·exact put_length_le _ _ _
theorem foldl_length (t : Int) (cs : List Ch) (r : List Rw) : (cs.foldl (stepT t) r).length <= r.length + cs.length := by
 induction cs generalizing r with
 | nil => simp
 | cons c cs ih =>
   have h1 := ih (stepT t r c)
   have h2 : (stepT t r c).length <= r.length + 1 := by
    unfold stepT
    split
    ·exact step_length r c
    ·omega
   rw [List.length_cons]
   show (cs.foldl (stepT t) (stepT t r c)).length <= _
   omega
theorem rows_length (t : Int) (cs : List Ch) : (rows t cs).length <= cs.length := by
 have := foldl_length t cs []
 simpa [rows] using this
theorem rows_mem {t : Int} {cs : List Ch} {x : Rw} (h : x ∈ rows t cs) : ∃ c ∈ cs,c.tbl = t /\ c.key = x.key /\ c.val = x.val /\ c.gone = false := by
 have key : ∀ (cs : List Ch) (r : List Rw),x ∈ cs.foldl (stepT t) r -> x ∈ r \/ ∃ c ∈ cs,c.tbl = t /\ c.key = x.key /\ c.val = x.val /\ c.gone = false := by
  intro cs
  induction cs with
  | nil => exact fun r h => .inl h
  | cons c cs ih =>
    intro r h
    rcases ih _ h with h1 | ⟨d,hd,h1⟩
    ·unfold stepT at h1
     split at h1
     ·next ht =>
      unfold step at h1
      split at h1
      ·next hg =>
       refine .inl ?_
       unfold IdxMath.del at h1
       split at h1
       ·exact List.mem_of_mem_eraseIdx h1
       ·exact h1
      ·next hg =>
       rcases put_mem h1 with rfl | h2
       ·exact .inr ⟨c,List.mem_cons_self,ht,rfl,rfl,by simpa using hg⟩
       ·exact .inl h2
     ·exact .inl h1
    ·exact .inr ⟨d,List.mem_cons_of_mem _ hd,h1⟩
 rcases key cs [] h with h1 | h1
 ·cases h1
 ·exact h1
end FoldMath
end Go.Proofs.YtefnmnpfecfdaaaGreat
