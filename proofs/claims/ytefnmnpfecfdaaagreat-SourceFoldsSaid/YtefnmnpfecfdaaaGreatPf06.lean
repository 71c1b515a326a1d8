/-
  Texts of one proof: ImgMath, SrcMath.
-/
import Derived.Test.YtefnmnpfecfdaaaGreatPf05
set_option linter.all false
set_option maxRecDepth 100000
set_option maxHeartbeats 200000
namespace Go.Proofs.YtefnmnpfecfdaaaGreat
namespace ImgMath
open FieldMath TxnMath RecMath
open IdxMath (Rw)
structure Im where
 lsn : Int
 tabs : List (List Rw)
def noIm : Im := ⟨0,[]⟩
def risesFrom (m : Int) : List Rw -> Bool
 | [] => true
 | x :: r => decide (m < x.key) && (decide (x.key <= 1099511627776) && (decide (x.val.size <= 32) && risesFrom x.key r))
def mayTab (l : List Rw) : Bool := decide (l.length <= 1000) && risesFrom 0 l
def Im.may (x : Im) : Bool := decide (0 <= x.lsn) && (decide (x.lsn <= 1099511627776) && (decide (1 <= x.tabs.length) && (decide (x.tabs.length <= 8) && x.tabs.all mayTab)))
theorem rises_cons {m : Int} {x : Rw} {r : List Rw} : risesFrom m (x :: r) = (decide (m < x.key) && (decide (x.key <= 1099511627776) && (decide (x.val.size <= 32) && risesFrom x.key r))) := rfl
theorem rises_mem {m : Int} {l : List Rw} (h : risesFrom m l = true) : ∀ x ∈ l,m < x.key /\ x.key <= 1099511627776 /\ x.val.size <= 32 := by
 induction l generalizing m with
 | nil => intro x hx; cases hx
 | cons y r ih =>
   rw [rises_cons] at h
   simp only [Bool.and_eq_true,decide_eq_true_eq] at h
   intro x hx
   rcases List.mem_cons.1 hx with rfl | hx
   ·exact ⟨h.1,h.2.1,h.2.2.1⟩
   ·have := ih h.2.2.2 x hx
    exact ⟨by omega,this.2⟩
structure MayI (x : Im) : Prop where
 lsn : 0 <= x.lsn /\ x.lsn <= 1099511627776
 tabs : 1 <= x.tabs.length /\ x.tabs.length <= 8
 tab : ∀ l ∈ x.tabs,l.length <= 1000 /\ ∀ r ∈ l,0 < r.key /\ r.key <= 1099511627776 /\ r.val.size <= 32
theorem may_of {x : Im} (h : x.may = true) : MayI x := by
 unfold Im.may at h
 simp only [Bool.and_eq_true,decide_eq_true_eq,List.all_eq_true] at h
 refine ⟨⟨h.1,h.2.1⟩,⟨h.2.2.1,h.2.2.2.1⟩,fun l hl => ?_⟩
 have := h.2.2.2.2 l hl
 unfold mayTab at this
 simp only [Bool.and_eq_true,decide_eq_true_eq] at this
 exact ⟨this.1,rises_mem this.2⟩
def rowF (x : Rw) : List Fld := [numF x.key,txtF x.val]
def rowsF (l : List Rw) : List Fld := l.flatMap rowF
def tabF (l : List Rw) : List Fld := numF l.length :: rowsF l
def tabsF (T : List (List Rw)) : List Fld := T.flatMap tabF
def fldsI (x : Im) : List Fld := [numF x.lsn,numF x.tabs.length] ++ tabsF x.tabs
theorem rowsF_length (l : List Rw) : (rowsF l).length = l.length * 2 := by
 induction l with
 | nil => rfl
 | cons c l ih =>
   show (rowF c ++ rowsF l).length = _
   rw [List.length_append,ih,List.length_cons]
   show 2 + l.length * 2 = _
   omega
theorem rowsF_snoc (l : List Rw) (c : Rw) : rowsF (l ++ [c]) = rowsF l ++ rowF c := by unfold rowsF; rw [List.flatMap_append]; simp
theorem tabsF_snoc (T : List (List Rw)) (l : List Rw) : tabsF (T ++ [l]) = tabsF T ++ tabF l := by unfold tabsF; rw [List.flatMap_append]; simp
theorem tabsF_length {T : List (List Rw)} (h : ∀ l ∈ T,l.length <= 1000) : (tabsF T).length <= T.length * 2001 := by
 induction T with
 | nil => exact Nat.le_refl _
 | cons l T ih =>
   show (tabF l ++ tabsF T).length <= _
   have h1 := ih fun m hm => h m (List.mem_cons_of_mem _ hm)
   have h2 := h l List.mem_cons_self
   rw [List.length_append,List.length_cons]
   show (rowsF l).length + 1 + _ <= _
   rw [rowsF_length]
   omega
theorem fldsI_length {x : Im} (h : MayI x) : (fldsI x).length <= 16010 := by
 have h1 := tabsF_length fun l hl => (h.tab l hl).1
 have h2 := h.tabs
 show (tabsF x.tabs).length + 1 + 1 <= _
 omega
theorem rowsF_mem {l : List Rw} (h : ∀ r ∈ l,0 < r.key /\ r.key <= 1099511627776 /\ r.val.size <= 32) : ∀ f ∈ rowsF l,f.right = true /\ f.ok /\ f.s.size <= 32 := by
 intro f hf
 obtain ⟨r,hr,hf⟩ := List.mem_flatMap.1 hf
 have := h r hr
 simp only [rowF,List.mem_cons,List.not_mem_nil,or_false] at hf
 rcases hf with rfl | rfl
 ·exact ⟨numF_right _,by simp [numF,Fld.ok,ByteArray.size]; omega,Nat.zero_le _⟩
 ·exact ⟨txtF_right (by omega),by simp [txtF,Fld.ok]; omega,this.2.2⟩
theorem num_okF {n : Int} (h1 : -9223372036854775808 <= n) (h2 : n <= 9223372036854775807) : (numF n).right = true /\ (numF n).ok /\ (numF n).s.size <= 32 := ⟨numF_right n,by simp [numF,Fld.ok,ByteArray.size]; omega,Nat.zero_le _⟩
theorem fldsI_mem {x : Im} (h : MayI x) : ∀ f ∈ fldsI x,f.right = true /\ f.ok /\ f.s.size <= 32 := by
 intro f hf
 have h1 := h.lsn
 have h2 := h.tabs
 unfold fldsI at hf
 rcases List.mem_append.1 hf with hf | hf
 ·simp only [List.mem_cons,List.not_mem_nil,or_false] at hf
  rcases hf with rfl | rfl
  ·exact num_okF (by omega) (by omega)
  ·exact num_okF (by omega) (by omega)
 ·obtain ⟨l,hl,hf⟩ := List.mem_flatMap.1 hf
  have h3 := h.tab l hl
  rcases List.mem_cons.1 hf with rfl | hf
  ·exact num_okF (by omega) (by omega)
  ·exact rowsF_mem h3.2 f hf
theorem fldsI_right {x : Im} (h : MayI x) : ∀ f ∈ fldsI x,f.right = true /\ f.ok := fun f hf => ⟨(fldsI_mem h f hf).1,(fldsI_mem h f hf).2.1⟩
theorem encF_len (f : Fld) (h : f.s.size <= 32) : (encF f).length <= 35 := by
 unfold encF
 split
 ·rw [List.length_cons,big_length]; omega
 ·rw [List.length_cons,List.length_append,big_length,list_size]; omega
theorem flat_len (fs : List Fld) (h : ∀ f ∈ fs,f.s.size <= 32) : (fs.flatMap encF).length <= fs.length * 35 := by
 induction fs with
 | nil => exact Nat.le_refl _
 | cons f r ih =>
   rw [List.flatMap_cons,List.length_append,List.length_cons]
   have h1 := ih fun g hg => h g (List.mem_cons_of_mem _ hg)
   have h2 := encF_len f (h f List.mem_cons_self)
   omega
theorem encZ_len {x : Im} (h : MayI x) : (FieldMath.encZ (fldsI x)).length <= 1048576 := by
 rw [FieldMath.encZ,List.length_append,big_length]
 have h1 := flat_len (fldsI x) fun f hf => (fldsI_mem h f hf).2.2
 have h2 := fldsI_length h
 omega
def imgB (x : Im) : List UInt8 := recB (FieldMath.encZ (fldsI x))
def encI (x : Im) : Except Nat (List UInt8) := if x.may then .ok (imgB x) else .error 1
theorem enc_fldsI {x : Im} (h : x.may = true) : enc (fldsI x) = .ok (FieldMath.encZ (fldsI x)) := enc_right (by have := fldsI_length (may_of h); omega) (fldsI_right (may_of h))
theorem put_fldsI {x : Im} (h : x.may = true) : RecMath.put (FieldMath.encZ (fldsI x)) = .ok (imgB x) := by unfold RecMath.put; rw [if_neg (by have := encZ_len (may_of h); omega)]; rfl
abbrev Rst := TxnMath.Rs
def rdR (hk : Option Int) (s : Rst) : Rw × Rst :=
 let a := rdN hk s
 let b := rdT a.2
 (⟨a.1,b.1⟩,b.2)
def rdRs (hk : Option Int) (stop : Bool) : Nat -> Rst -> List Rw × Rst
 | 0,s => ([],s)
 | n + 1,s => if stop = true /\ s.isNone = true then ([],s) else ((rdR hk s).1 :: (rdRs hk stop n (rdR hk s).2).1,(rdRs hk stop n (rdR hk s).2).2)
def rdTab (hk : Option Int) (stop : Bool) (s : Rst) : List Rw × Rst :=
 let n := rdN (some 1000) s
 rdRs hk stop n.1.toNat n.2
def rdTabs (hk : Option Int) (stop : Bool) : Nat -> Rst -> List (List Rw) × Rst
 | 0,s => ([],s)
 | n + 1,s => if stop = true /\ s.isNone = true then ([],s) else ((rdTab hk stop s).1 :: (rdTabs hk stop n (rdTab hk stop s).2).1,(rdTabs hk stop n (rdTab hk stop s).2).2)
def rdI (hl hk : Option Int) (stop : Bool) (s : Rst) : Im × Rst :=
 let a := rdN hl s
 let n := rdN (some 8) a.2
 let d := rdTabs hk stop n.1.toNat n.2
 (⟨a.1,d.1⟩,d.2)
theorem rdR_was {hk : Option Int} {s : Rst} (hr : AllR s) : Was s (rowF (rdR hk s).1) (rdR hk s).2 := (rdN_was (most := hk) hr).trans (rdT_was ((rdN_was (most := hk) hr).allR hr))
theorem rdR_none (hk : Option Int) : (rdR hk none).2 = none := rfl
theorem rdRs_none {hk : Option Int} {stop : Bool} : ∀ n,(rdRs hk stop n none).2 = none
 | 0 => rfl
 | n + 1 => by
   unfold rdRs
   split
   ·rfl
   ·rw [rdR_none]
    exact rdRs_none n
theorem rdRs_was {hk : Option Int} {stop : Bool} : ∀ (n : Nat) {s : Rst},AllR s -> (rdRs hk stop n s).2 ≠ none -> Was s (rowsF (rdRs hk stop n s).1) (rdRs hk stop n s).2 /\ (rdRs hk stop n s).1.length = n
 | 0,s,_,_ => ⟨fun r e => e,rfl⟩
 | n + 1,s,hr,h => by
   cases hs : s with
   | none => rw [hs,rdRs_none] at h; exact absurd rfl h
   | some l =>
     rw [<- hs]
     have hne : ¬ (stop = true /\ s.isNone = true) := by rw [hs]; simp
     rw [rdRs,if_neg hne] at h ⊢
     have w1 := rdR_was (hk := hk) hr
     obtain ⟨w2,hl⟩ := rdRs_was n (w1.allR hr) h
     exact ⟨w1.trans w2,by rw [List.length_cons,hl]⟩
theorem rdTab_none {hk : Option Int} {stop : Bool} : (rdTab hk stop none).2 = none := rdRs_none _
theorem rdTab_was {hk : Option Int} {stop : Bool} {s : Rst} (hr : AllR s) (h : (rdTab hk stop s).2 ≠ none) : Was s (tabF (rdTab hk stop s).1) (rdTab hk stop s).2 := by
 unfold rdTab at h ⊢
 dsimp only at h ⊢
 have w1 := rdN_was (most := some 1000) hr
 have r1 := w1.allR hr
 generalize hn : rdN (some 1000) s = n at *
 obtain ⟨w2,hl⟩ := rdRs_was n.1.toNat r1 h
 have hnn : ((n.1.toNat : Nat) : Int) = n.1 := by
  rw [<- hn]
  exact fits_nat (rdN_fits (by rw [hn]; exact some_of w2 h))
 have e : tabF (rdRs hk stop n.1.toNat n.2).1 = [numF n.1] ++ rowsF (rdRs hk stop n.1.toNat n.2).1 := by
  unfold tabF
  rw [hl,hnn]
  rfl
 rw [e]
 exact w1.trans w2
theorem rdTabs_none {hk : Option Int} {stop : Bool} : ∀ n,(rdTabs hk stop n none).2 = none
 | 0 => rfl
 | n + 1 => by
   unfold rdTabs
   split
   ·rfl
   ·rw [rdTab_none]
    exact rdTabs_none n
theorem rdTabs_was {hk : Option Int} {stop : Bool} : ∀ (n : Nat) {s : Rst},AllR s -> (rdTabs hk stop n s).2 ≠ none -> Was s (tabsF (rdTabs hk stop n s).1) (rdTabs hk stop n s).2 /\ (rdTabs hk stop n s).1.length = n
 | 0,s,_,_ => ⟨fun r e => e,rfl⟩
 | n + 1,s,hr,h => by
   cases hs : s with
   | none => rw [hs,rdTabs_none] at h; exact absurd rfl h
   | some l =>
     rw [<- hs]
     have hne : ¬ (stop = true /\ s.isNone = true) := by rw [hs]; simp
     rw [rdTabs,if_neg hne] at h ⊢
     have hc : (rdTab hk stop s).2 ≠ none := fun e => by
      dsimp only at h
      rw [e,rdTabs_none] at h
      exact absurd rfl h
     have w1 := rdTab_was hr hc
     obtain ⟨w2,hl⟩ := rdTabs_was n (w1.allR hr) h
     exact ⟨w1.trans w2,by rw [List.length_cons,hl]⟩
theorem rdI_was {hl hk : Option Int} {stop : Bool} {s : Rst} (hr : AllR s) (h : (rdI hl hk stop s).2 ≠ none) : Was s (fldsI (rdI hl hk stop s).1) (rdI hl hk stop s).2 := by
 unfold rdI at h ⊢
 dsimp only at h ⊢
 have w1 := rdN_was (most := hl) hr
 have r1 := w1.allR hr
 have w2 := rdN_was (most := some 8) r1
 have r2 := w2.allR r1
 generalize hn : rdN (some 8) (rdN hl s).2 = n at *
 obtain ⟨w3,l3⟩ := rdTabs_was n.1.toNat r2 h
 have hnn : ((n.1.toNat : Nat) : Int) = n.1 := by
  rw [<- hn]
  exact fits_nat (rdN_fits (by rw [hn]; exact some_of w3 h))
 have e : fldsI ⟨(rdN hl s).1,(rdTabs hk stop n.1.toNat n.2).1⟩ = ([numF (rdN hl s).1] ++ [numF n.1]) ++ tabsF (rdTabs hk stop n.1.toNat n.2).1 := by
  unfold fldsI
  dsimp only
  rw [l3,hnn]
  rfl
 rw [e]
 exact (w1.trans w2).trans w3
theorem rdR_fwd {hk : Option Int} (hw : Wide hk) {c : Rw} (h : 0 < c.key /\ c.key <= 1099511627776) (r : List Fld) : rdR hk (some (rowF c ++ r)) = (c,some r) := by
 show rdR hk (some (numF c.key :: txtF c.val :: r)) = _
 unfold rdR
 dsimp only
 rw [rdN_fwd _ (hw _ (by omega) h.2)]
 dsimp only
 rw [rdT_fwd]
theorem rdRs_fwd {hk : Option Int} (hw : Wide hk) (stop : Bool) : ∀ {l : List Rw},(∀ c ∈ l,0 < c.key /\ c.key <= 1099511627776) -> ∀ r,rdRs hk stop l.length (some (rowsF l ++ r)) = (l,some r)
 | [],_,r => rfl
 | c :: l,h,r => by
   have e : rowsF (c :: l) ++ r = rowF c ++ (rowsF l ++ r) := by
    show rowF c ++ rowsF l ++ r = _
    rw [List.append_assoc]
   rw [List.length_cons,rdRs,if_neg (by simp),e,rdR_fwd hw (h c List.mem_cons_self)]
   dsimp only
   rw [rdRs_fwd hw stop fun d hd => h d (List.mem_cons_of_mem _ hd)]
theorem rdTab_fwd {hk : Option Int} (hw : Wide hk) (stop : Bool) {l : List Rw} (hl : l.length <= 1000) (h : ∀ c ∈ l,0 < c.key /\ c.key <= 1099511627776) (r : List Fld) : rdTab hk stop (some (tabF l ++ r)) = (l,some r) := by
 show rdTab hk stop (some (numF l.length :: (rowsF l ++ r))) = _
 unfold rdTab
 dsimp only
 rw [rdN_fwd _ (fits_of (by omega) (by omega))]
 dsimp only
 rw [Int.toNat_natCast,rdRs_fwd hw stop h]
theorem rdTabs_fwd {hk : Option Int} (hw : Wide hk) (stop : Bool) : ∀ {T : List (List Rw)},(∀ l ∈ T,l.length <= 1000 /\ ∀ c ∈ l,0 < c.key /\ c.key <= 1099511627776) -> ∀ r,rdTabs hk stop T.length (some (tabsF T ++ r)) = (T,some r)
 | [],_,r => rfl
 | l :: T,h,r => by
   have e : tabsF (l :: T) ++ r = tabF l ++ (tabsF T ++ r) := by
    show tabF l ++ tabsF T ++ r = _
    rw [List.append_assoc]
   have hl := h l List.mem_cons_self
   rw [List.length_cons,rdTabs,if_neg (by simp),e,rdTab_fwd hw stop hl.1 hl.2]
   dsimp only
   rw [rdTabs_fwd hw stop fun d hd => h d (List.mem_cons_of_mem _ hd)]
theorem rdI_fwd {hl hk : Option Int} (hw1 : Wide hl) (hw2 : Wide hk) (stop : Bool) {x : Im} (h : MayI x) : rdI hl hk stop (some (fldsI x)) = (x,some []) := by
 have h1 := h.lsn
 have h2 := h.tabs
 have e : fldsI x = numF x.lsn :: numF x.tabs.length :: (tabsF x.tabs ++ []) := by
  unfold fldsI
  simp
 rw [e]
 unfold rdI
 dsimp only
 rw [rdN_fwd _ (hw1 _ (by omega) h1.2)]
 dsimp only
 rw [rdN_fwd _ (fits_of (by omega) (by omega))]
 dsimp only
 rw [Int.toNat_natCast,rdTabs_fwd hw2 stop fun l hl => ⟨(h.tab l hl).1,fun c hc => ⟨((h.tab l hl).2 c hc).1,((h.tab l hl).2 c hc).2.1⟩⟩]
def ends : Rst -> Bool
 | some [] => true
 | _ => false
theorem ends_iff {s : Rst} : ends s = true <-> s = some [] := by
 unfold ends
 split
 ·simp
 ·next h => simp; exact h
def decX (hl hk : Option Int) (stop : Bool) (fs : List Fld) : Option Im := if ends (rdI hl hk stop (some fs)).2 && (rdI hl hk stop (some fs)).1.may then some (rdI hl hk stop (some fs)).1 else none
theorem decX_some {hl hk : Option Int} {stop : Bool} {fs : List Fld} {x : Im} (hr : ∀ f ∈ fs,f.right = true) (h : decX hl hk stop fs = some x) : x.may = true /\ fldsI x = fs := by
 unfold decX at h
 split at h
 ·rename_i hx
  injection h with h
  subst h
  rw [Bool.and_eq_true] at hx
  obtain ⟨h1,h2⟩ := hx
  have hs := ends_iff.1 h1
  have w := rdI_was (hl := hl) (hk := hk) (stop := stop) (s := some fs) (fun l e => by injection e with e; subst e; exact hr) (by rw [hs]; simp)
  have := w [] hs
  rw [List.append_nil] at this
  exact ⟨h2,(Option.some.inj this).symm⟩
 ·cases h
theorem decX_fwd {hl hk : Option Int} (hw1 : Wide hl) (hw2 : Wide hk) (stop : Bool) {x : Im} (h : x.may = true) : decX hl hk stop (fldsI x) = some x := by
 unfold decX
 rw [rdI_fwd hw1 hw2 stop (may_of h)]
 rw [if_pos (by rw [h]; rfl)]
def fieldsOf (b : List UInt8) : Option (List Fld) := match tk b with
 | .error _ => none
 | .ok p => if 8 + p.length = b.length then (match dec p with | .error _ => none | .ok fs => some fs) else none
theorem fieldsOf_right {b : List UInt8} {fs : List Fld} (h : fieldsOf b = some fs) : ∀ f ∈ fs,f.right = true := by
 unfold fieldsOf at h
 split at h
 ·cases h
 ·split at h
  ·split at h
   ·cases h
   ·rename_i hd
    injection h with h
    subst h
    exact fun f hf => ((dec_ok hd).2.1 f hf).1
  ·cases h
def decI (b : List UInt8) : Option Im := match fieldsOf b with
 | none => none
 | some fs => decX none none false fs
theorem tk_all {b p : List UInt8} (h : tk b = .ok p) (hl : 8 + p.length = b.length) : recB p = b := by
 have h8 : 8 <= b.length := by omega
 have hp := h
 unfold tk at hp
 rw [if_neg (by omega)] at hp
 split at hp
 ·cases hp
 ·split at hp
  ·cases hp
  ·split at hp
   ·rename_i hs
    injection hp with hp
    have hn : num (b.take 4) = p.length := by
     rw [<- hp,List.length_take,List.length_drop]
     omega
    have hp8 : b.drop 8 = p := by rw [<- hp,List.take_of_length_le (by rw [List.length_drop]; omega)]
    have e1 : big p.length 4 = b.take 4 := by
     rw [<- hn]
     have := big_num (b.take 4)
     rwa [List.length_take,Nat.min_eq_left (by omega)] at this
    have e2 : big (sum (b.take 4 ++ p)) 4 = (b.drop 4).take 4 := by
     rw [hp] at hs
     rw [<- hs]
     have := big_num ((b.drop 4).take 4)
     rwa [List.length_take,List.length_drop,Nat.min_eq_left (by omega)] at this
    rw [recB,e1,e2,<- hp8,show 8 = 4 + 4 from rfl,<- List.drop_drop,List.take_append_drop,List.take_append_drop]
   ·cases hp
theorem decI_ok {b : List UInt8} {x : Im} (h : decI b = some x) : x.may = true /\ imgB x = b := by
 unfold decI at h
 cases hf : fieldsOf b with
 | none => rw [hf] at h; cases h
 | some fs =>
   rw [hf] at h
   dsimp only at h
   obtain ⟨h1,h2⟩ := decX_some (fieldsOf_right hf) h
   refine ⟨h1,?_⟩
   unfold fieldsOf at hf
   split at hf
   ·cases hf
   ·rename_i p htk
    split at hf
    ·rename_i hlen
     split at hf
     ·cases hf
     ·rename_i fs' hd
      injection hf with hf
      subst hf
      have he := (dec_ok hd).1
      rw [<- h2,enc_fldsI h1] at he
      injection he with he
      unfold imgB
      rw [he]
      exact tk_all htk hlen
    ·cases hf
theorem decI_enc {x : Im} (h : x.may = true) : decI (imgB x) = some x := by
 have hm := may_of h
 have hl := encZ_len hm
 unfold decI fieldsOf imgB
 rw [tk_rec0 hl]
 dsimp only
 rw [if_pos (recB_length _).symm,dec_enc (by have := fldsI_length hm; omega) (fldsI_right hm)]
 dsimp only
 rw [decX_fwd wide_none wide_none false h]
theorem decI_cut {x : Im} (h : x.may = true) {k : Nat} (hk : k < (imgB x).length) : decI ((imgB x).take k) = none := by
 have hl := encZ_len (may_of h)
 unfold decI fieldsOf
 unfold imgB at hk ⊢
 rw [tk_cut hl hk]
end ImgMath
namespace SrcMath
open IdxMath TxnMath FoldMath PartMath
open FieldMath (encZ)
open ImgMath (Im imgB decI)
open DiskMath (Fl Dk Up)
open WalMath (Lg Sg rowsOf)
def tt (n : Nat) (l : List Tx) (k : Nat) : List (List Rw) := (List.range n).map fun (i : Nat) => rows (i : Int) (chs l k)
def ttC (n : Nat) (cs : List Ch) : List (List Rw) := (List.range n).map fun (i : Nat) => rows (i : Int) cs
theorem ttC_get {n i : Nat} (hi : i < n) (cs : List Ch) : (ttC n cs)[i]? = some (rows (i : Int) cs) := by
 unfold ttC
 rw [List.getElem?_map,List.getElem?_range hi]
 rfl
theorem ttC_length (n : Nat) (cs : List Ch) : (ttC n cs).length = n := by simp [ttC]
theorem tt_length (n : Nat) (l : List Tx) (k : Nat) : (tt n l k).length = n := ttC_length n _
theorem tt_zero (n : Nat) (l : List Tx) : tt n l 0 = List.replicate n [] := by
 apply List.ext_getElem?
 intro i
 rcases Nat.lt_or_ge i n with h | h
 ·rw [show (tt n l 0)[i]? = some (rows (i : Int) (chs l 0)) from ttC_get h _,List.getElem?_replicate,if_pos h,chs_zero]
  rfl
 ·rw [List.getElem?_eq_none (by rw [tt_length]; exact h),List.getElem?_eq_none (by rw [List.length_replicate]; exact h)]
theorem ttC_do {n : Nat} {cs : List Ch} {c : Ch} (h0 : 0 <= c.tbl) (h1 : c.tbl < (n : Int)) : Tbl.do1 (ttC n cs) c = ttC n (cs ++ [c]) := by
 obtain ⟨i,hi⟩ := Int.eq_ofNat_of_zero_le h0
 have hil : i < n := by omega
 have htab : Tbl.tab (ttC n cs) (i : Int) = rows (i : Int) cs := Tbl.tab_get (by rw [ttC_length]; exact hil) (ttC_get hil cs)
 unfold Tbl.do1
 rw [hi,Int.toNat_natCast,htab]
 apply List.ext_getElem?
 intro j
 rcases Nat.lt_or_ge j n with hj | hj
 ·rw [ttC_get hj,rows_snoc]
  by_cases hji : j = i
  ·subst hji
   rw [List.getElem?_set_self (by rw [ttC_length]; exact hj)]
   congr 1
   exact (if_pos hi).symm
  ·rw [List.getElem?_set_ne (Ne.symm hji),ttC_get hj]
   congr 1
   exact (if_neg (by omega)).symm
 ·rw [List.getElem?_eq_none (by rw [List.length_set,ttC_length]; exact hj),List.getElem?_eq_none (by rw [ttC_length]; exact hj)]
theorem ttC_all {n : Nat} {ds : List Ch} (h : ∀ c ∈ ds,0 <= c.tbl /\ c.tbl < (n : Int)) : ∀ cs,Tbl.doAll (ttC n cs) ds = ttC n (cs ++ ds) := by
 induction ds with
 | nil => intro cs; simp [Tbl.doAll]
 | cons c ds ih =>
   intro cs
   have hc := h c List.mem_cons_self
   show Tbl.doAll (Tbl.do1 (ttC n cs) c) ds = _
   rw [ttC_do hc.1 hc.2,ih (fun d hd => h d (List.mem_cons_of_mem _ hd)),List.append_assoc]
   rfl
structure Fine (n : Nat) (l : List Tx) : Prop where
 lsn : ∀ (i : Nat) (x : Tx),l[i]? = some x -> x.lsn = (i : Int) + 1
 may : ∀ x ∈ l,x.may = true
 tbl : ∀ x ∈ l,∀ c ∈ x.chs,0 <= c.tbl /\ c.tbl < (n : Int)
theorem tt_succ {n : Nat} {l : List Tx} (h : Fine n l) {k : Nat} {x : Tx} (hx : l[k]? = some x) : Tbl.doAll (tt n l k) x.chs = tt n l (k + 1) := by
 show Tbl.doAll (ttC n (chs l k)) x.chs = ttC n (chs l (k + 1))
 rw [ttC_all (h.tbl x (List.mem_of_getElem? hx)),chs_succ hx]
theorem tt_all {n : Nat} {l : List Tx} (h : Fine n l) : ∀ {k m : Nat},k + m <= l.length -> ((l.drop k).take m).foldl (fun T (x : Tx) => Tbl.doAll T x.chs) (tt n l k) = tt n l (k + m)
 | k,0,_ => by simp
 | k,m + 1,hk => by
   have hx : l[k]? = some l[k] := List.getElem?_eq_getElem (by omega)
   have e : (l.drop k).take (m + 1) = l[k] :: ((l.drop (k + 1)).take m) := by rw [List.drop_eq_getElem_cons (by omega),List.take_succ_cons]
   rw [e,List.foldl_cons,tt_succ h hx,tt_all h (k := k + 1) (m := m) (by omega)]
   congr 1
   omega
def ent (x : Tx) : List UInt8 := FieldMath.encZ (flds x)
def ents (l : List Tx) : List (List UInt8) := l.map ent
def entry (n : Nat) (num : Int) (b : List UInt8) : Option Tx := match decT b with
 | .ok t => if t.lsn = num /\ t.chs.all (fun c => decide (c.tbl < (n : Int))) = true then some t else none
 | .error _ => none
def reads (n : Nat) : Int -> List (List UInt8) -> Option (List Tx)
 | _,[] => some []
 | x,b :: r => match entry n x b,reads n (x + 1) r with
   | some t,some ts => some (t :: ts)
   | _,_ => none
theorem entry_fine {n : Nat} {l : List Tx} (h : Fine n l) {i : Nat} {x : Tx} (hx : l[i]? = some x) : entry n ((i : Int) + 1) (ent x) = some x := by
 have hm := List.mem_of_getElem? hx
 unfold entry ent
 rw [decT_enc (h.may x hm)]
 dsimp only
 rw [if_pos ⟨h.lsn i x hx,List.all_eq_true.2 fun c hc => decide_eq_true (h.tbl x hm c hc).2⟩]
theorem reads_fine {n : Nat} {l : List Tx} (h : Fine n l) : ∀ {i m : Nat},i + m <= l.length -> reads n ((i : Int) + 1) (((ents l).drop i).take m) = some ((l.drop i).take m)
 | i,0,_ => by simp [reads]
 | i,m + 1,hi => by
   have hx : l[i]? = some l[i] := List.getElem?_eq_getElem (by omega)
   have e1 : (l.drop i).take (m + 1) = l[i] :: ((l.drop (i + 1)).take m) := by rw [List.drop_eq_getElem_cons (by omega),List.take_succ_cons]
   have e2 : ((ents l).drop i).take (m + 1) = ent l[i] :: (((ents l).drop (i + 1)).take m) := by
    have hl : i < (ents l).length := by rw [ents,List.length_map]; omega
    rw [List.drop_eq_getElem_cons hl,List.take_succ_cons]
    congr 1
    simp [ents]
   have ih := reads_fine h (i := i + 1) (m := m) (by omega)
   rw [e1,e2,reads,entry_fine h hx]
   rw [show (((i + 1 : Nat) : Int) + 1) = (i : Int) + 1 + 1 by omega] at ih
   rw [ih]
def imgAt (n : Nat) (d : Dk) (f : Int) : Option Im := match DiskMath.seek d.files f with
 | none => none
 | some x => match decI x.b with
   | none => none
   | some i => if i.tabs.length = n then some i else none
def newest (n : Nat) (d : Dk) : Option (Int × Im) := match imgAt n d 0,imgAt n d 1 with
 | none,none => none
 | some a,none => some (0,a)
 | none,some b => some (1,b)
 | some a,some b => if a.lsn < b.lsn then some (1,b) else some (0,a)
structure Sc where
 l : Lg
 T : List (List Rw)
 file : Int
 lsn : Int
structure So where
 e : Int
 s : Option Sc
 d : Dk
def behind (L : Int) (ts : List Tx) : List Tx := ts.filter fun t => decide (L < t.lsn)
def tabs (n : Nat) (im : Option (Int × Im)) (ts : List Tx) : List (List Rw) := match im with
 | none => ts.foldl (fun T (x : Tx) => Tbl.doAll T x.chs) (List.replicate n [])
 | some (_,i) => (behind i.lsn ts).foldl (fun T (x : Tx) => Tbl.doAll T x.chs) i.tabs
def lsnOf (im : Option (Int × Im)) : Int := match im with | none => 0 | some (_,i) => i.lsn
def fileOf (im : Option (Int × Im)) : Int := match im with | none => -1 | some (f,_) => f
def open_ (d : Dk) (n size : Int) : So :=
 if n < 1 \/ 8 < n then ⟨1,none,d⟩
 else match (WalMath.open_ d 16 size).l with
  | none => ⟨(WalMath.open_ d 16 size).e,none,(WalMath.open_ d 16 size).d⟩
  | some l => match reads n.toNat (WalMath.low l.segs) (rowsOf l.segs) with
    | none => ⟨3,none,(WalMath.open_ d 16 size).d⟩
    | some ts => if WalMath.hd l.segs < lsnOf (newest n.toNat (WalMath.open_ d 16 size).d) \/ lsnOf (newest n.toNat (WalMath.open_ d 16 size).d) + 1 < WalMath.low l.segs then ⟨3,none,(WalMath.open_ d 16 size).d⟩
      else ⟨0,some ⟨l,tabs n.toNat (newest n.toNat (WalMath.open_ d 16 size).d) ts,fileOf (newest n.toNat (WalMath.open_ d 16 size).d),lsnOf (newest n.toNat (WalMath.open_ d 16 size).d)⟩,(WalMath.open_ d 16 size).d⟩
structure Pa where
 n : Int
 e : Int
 s : Sc
 d : Dk
def put (s : Sc) (d : Dk) (fits : Bool) (t : Tx) : Pa :=
 if d.off then ⟨0,8,s,d⟩
 else if fits = false \/ WalMath.hd s.l.segs = 1099511627776 then ⟨0,7,s,d⟩
 else if (WalMath.append s.l d (ent { t with lsn := WalMath.hd s.l.segs + 1 })).e = 0 then
  ⟨(WalMath.append s.l d (ent { t with lsn := WalMath.hd s.l.segs + 1 })).n,0,{ s with l := (WalMath.append s.l d (ent { t with lsn := WalMath.hd s.l.segs + 1 })).l,T := Tbl.doAll s.T t.chs },(WalMath.append s.l d (ent { t with lsn := WalMath.hd s.l.segs + 1 })).d⟩
 else ⟨0,(WalMath.append s.l d (ent { t with lsn := WalMath.hd s.l.segs + 1 })).e,{ s with l := (WalMath.append s.l d (ent { t with lsn := WalMath.hd s.l.segs + 1 })).l },(WalMath.append s.l d (ent { t with lsn := WalMath.hd s.l.segs + 1 })).d⟩
def other (f : Int) : Int := if f = 0 then 1 else 0
def lay0 (d : Dk) (f : Int) : Int × Dk := if DiskMath.seek d.files f = none then (0,d) else DiskMath.cut d f 0
def lay1 (d : Dk) (f : Int) (b : List UInt8) : Int × Dk := if (lay0 d f).1 = 0 then DiskMath.append (lay0 d f).2 f b else lay0 d f
def lay (d : Dk) (f : Int) (b : List UInt8) : Int × Dk := if (lay1 d f b).1 = 0 then DiskMath.sync (lay1 d f b).2 f else lay1 d f b
def trims (s : Sc) (d : Dk) (lsn : Int) : Int × Sc × Dk := ((WalMath.trim s.l d lsn).1,{ s with l := (WalMath.trim s.l d lsn).2.1 },(WalMath.trim s.l d lsn).2.2)
def trim (s : Sc) (d : Dk) (lsn : Int) : Int × Sc × Dk :=
 if lsn < 0 \/ WalMath.hd s.l.segs < lsn then (1,s,d)
 else if d.off then (8,s,d)
 else if lsn <= s.lsn then trims s d lsn
 else if (lay d (other s.file) (imgB ⟨WalMath.hd s.l.segs,s.T⟩)).1 = 0 then trims { s with file := other s.file,lsn := WalMath.hd s.l.segs } (lay d (other s.file) (imgB ⟨WalMath.hd s.l.segs,s.T⟩)).2 lsn
 else ((lay d (other s.file) (imgB ⟨WalMath.hd s.l.segs,s.T⟩)).1,s,(lay d (other s.file) (imgB ⟨WalMath.hd s.l.segs,s.T⟩)).2)
end SrcMath
end Go.Proofs.YtefnmnpfecfdaaaGreat
