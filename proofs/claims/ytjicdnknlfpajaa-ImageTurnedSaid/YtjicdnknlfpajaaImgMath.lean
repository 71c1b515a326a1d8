/-
  Plain mathematics of images of tables, of no program: which may be; their fields, their bytes; how fields are read as an image, number by number, with or without a look at how great a number is; fields are read as an image that may be just where they are its fields.
-/
import Derived.Test.YtjicdnknlfpajaaTxnMath
import Derived.Test.YtjicdnknlfpajaaIdxMath
namespace Go.Proofs.Ytjicdnknlfpajaa.ImgMath
set_option linter.unusedVariables false
open FieldMath TxnMath RecMath
open IdxMath (Rw)
set_option linter.ambiguousOpen false

structure Im where
  lsn : Int
  tabs : List (List Rw)
def noIm : Im := ⟨0, []⟩
def risesFrom (m : Int) : List Rw → Bool
  | [] => true
  | x :: r => decide (m < x.key) && (decide (x.key ≤ 1099511627776) && (decide (x.val.size ≤ 32) && risesFrom x.key r))
def mayTab (l : List Rw) : Bool := decide (l.length ≤ 1000) && risesFrom 0 l
def Im.may (x : Im) : Bool := decide (0 ≤ x.lsn) && (decide (x.lsn ≤ 1099511627776) && (decide (1 ≤ x.tabs.length) && (decide (x.tabs.length ≤ 8) && x.tabs.all mayTab)))
theorem rises_cons {m : Int} {x : Rw} {r : List Rw} : risesFrom m (x :: r) = (decide (m < x.key) && (decide (x.key ≤ 1099511627776) && (decide (x.val.size ≤ 32) && risesFrom x.key r))) := rfl
theorem rises_mem {m : Int} {l : List Rw} (h : risesFrom m l = true) : ∀ x ∈ l, m < x.key ∧ x.key ≤ 1099511627776 ∧ x.val.size ≤ 32 := by
  induction l generalizing m with
  | nil => intro x hx; cases hx
  | cons y r ih =>
    rw [rises_cons] at h
    simp only [Bool.and_eq_true, decide_eq_true_eq] at h
    intro x hx
    rcases List.mem_cons.1 hx with rfl | hx
    · exact ⟨h.1, h.2.1, h.2.2.1⟩
    · have := ih h.2.2.2 x hx
      exact ⟨by omega, this.2⟩
/-- what an image that may be is -/
structure MayI (x : Im) : Prop where
  lsn : 0 ≤ x.lsn ∧ x.lsn ≤ 1099511627776
  tabs : 1 ≤ x.tabs.length ∧ x.tabs.length ≤ 8
  tab : ∀ l ∈ x.tabs, l.length ≤ 1000 ∧ ∀ r ∈ l, 0 < r.key ∧ r.key ≤ 1099511627776 ∧ r.val.size ≤ 32
theorem may_of {x : Im} (h : x.may = true) : MayI x := by
  unfold Im.may at h
  simp only [Bool.and_eq_true, decide_eq_true_eq, List.all_eq_true] at h
  refine ⟨⟨h.1, h.2.1⟩, ⟨h.2.2.1, h.2.2.2.1⟩, fun l hl => ?_⟩
  have := h.2.2.2.2 l hl
  unfold mayTab at this
  simp only [Bool.and_eq_true, decide_eq_true_eq] at this
  exact ⟨this.1, rises_mem this.2⟩

/-! ### fields -/
def rowF (x : Rw) : List Fld := [numF x.key, txtF x.val]
def rowsF (l : List Rw) : List Fld := l.flatMap rowF
def tabF (l : List Rw) : List Fld := numF l.length :: rowsF l
def tabsF (T : List (List Rw)) : List Fld := T.flatMap tabF
def fldsI (x : Im) : List Fld := [numF x.lsn, numF x.tabs.length] ++ tabsF x.tabs
theorem rowsF_length (l : List Rw) : (rowsF l).length = l.length * 2 := by
  induction l with
  | nil => rfl
  | cons c l ih =>
    show (rowF c ++ rowsF l).length = _
    rw [List.length_append, ih, List.length_cons]
    show 2 + l.length * 2 = _
    omega
theorem rowsF_snoc (l : List Rw) (c : Rw) : rowsF (l ++ [c]) = rowsF l ++ rowF c := by unfold rowsF; rw [List.flatMap_append]; simp
theorem tabsF_snoc (T : List (List Rw)) (l : List Rw) : tabsF (T ++ [l]) = tabsF T ++ tabF l := by unfold tabsF; rw [List.flatMap_append]; simp
theorem tabsF_length {T : List (List Rw)} (h : ∀ l ∈ T, l.length ≤ 1000) : (tabsF T).length ≤ T.length * 2001 := by
  induction T with
  | nil => exact Nat.le_refl _
  | cons l T ih =>
    show (tabF l ++ tabsF T).length ≤ _
    have h1 := ih fun m hm => h m (List.mem_cons_of_mem _ hm)
    have h2 := h l List.mem_cons_self
    rw [List.length_append, List.length_cons]
    show (rowsF l).length + 1 + _ ≤ _
    rw [rowsF_length]
    omega
theorem fldsI_length {x : Im} (h : MayI x) : (fldsI x).length ≤ 16010 := by
  have h1 := tabsF_length fun l hl => (h.tab l hl).1
  have h2 := h.tabs
  show (tabsF x.tabs).length + 1 + 1 ≤ _
  omega
theorem rowsF_mem {l : List Rw} (h : ∀ r ∈ l, 0 < r.key ∧ r.key ≤ 1099511627776 ∧ r.val.size ≤ 32) : ∀ f ∈ rowsF l, f.right = true ∧ f.ok ∧ f.s.size ≤ 32 := by
  intro f hf
  obtain ⟨r, hr, hf⟩ := List.mem_flatMap.1 hf
  have := h r hr
  simp only [rowF, List.mem_cons, List.not_mem_nil, or_false] at hf
  rcases hf with rfl | rfl
  · exact ⟨numF_right _, by simp [numF, Fld.ok, ByteArray.size]; omega, Nat.zero_le _⟩
  · exact ⟨txtF_right (by omega), by simp [txtF, Fld.ok]; omega, this.2.2⟩
theorem num_okF {n : Int} (h1 : -9223372036854775808 ≤ n) (h2 : n ≤ 9223372036854775807) : (numF n).right = true ∧ (numF n).ok ∧ (numF n).s.size ≤ 32 := ⟨numF_right n, by simp [numF, Fld.ok, ByteArray.size]; omega, Nat.zero_le _⟩
theorem fldsI_mem {x : Im} (h : MayI x) : ∀ f ∈ fldsI x, f.right = true ∧ f.ok ∧ f.s.size ≤ 32 := by
  intro f hf
  have h1 := h.lsn
  have h2 := h.tabs
  unfold fldsI at hf
  rcases List.mem_append.1 hf with hf | hf
  · simp only [List.mem_cons, List.not_mem_nil, or_false] at hf
    rcases hf with rfl | rfl
    · exact num_okF (by omega) (by omega)
    · exact num_okF (by omega) (by omega)
  · obtain ⟨l, hl, hf⟩ := List.mem_flatMap.1 hf
    have h3 := h.tab l hl
    rcases List.mem_cons.1 hf with rfl | hf
    · exact num_okF (by omega) (by omega)
    · exact rowsF_mem h3.2 f hf
theorem fldsI_right {x : Im} (h : MayI x) : ∀ f ∈ fldsI x, f.right = true ∧ f.ok := fun f hf => ⟨(fldsI_mem h f hf).1, (fldsI_mem h f hf).2.1⟩
theorem encF_len (f : Fld) (h : f.s.size ≤ 32) : (encF f).length ≤ 35 := by
  unfold encF
  split
  · rw [List.length_cons, big_length]; omega
  · rw [List.length_cons, List.length_append, big_length, list_size]; omega
theorem flat_len (fs : List Fld) (h : ∀ f ∈ fs, f.s.size ≤ 32) : (fs.flatMap encF).length ≤ fs.length * 35 := by
  induction fs with
  | nil => exact Nat.le_refl _
  | cons f r ih =>
    rw [List.flatMap_cons, List.length_append, List.length_cons]
    have h1 := ih fun g hg => h g (List.mem_cons_of_mem _ hg)
    have h2 := encF_len f (h f List.mem_cons_self)
    omega
theorem encZ_len {x : Im} (h : MayI x) : (encZ (fldsI x)).length ≤ 1048576 := by
  rw [encZ, List.length_append, big_length]
  have h1 := flat_len (fldsI x) fun f hf => (fldsI_mem h f hf).2.2
  have h2 := fldsI_length h
  omega
/-- the bytes of an image -/
def imgB (x : Im) : List UInt8 := recB (encZ (fldsI x))
/-- what Encode answers -/
def encI (x : Im) : Except Nat (List UInt8) := if x.may then .ok (imgB x) else .error 1
theorem enc_fldsI {x : Im} (h : x.may = true) : enc (fldsI x) = .ok (encZ (fldsI x)) := enc_right (by have := fldsI_length (may_of h); omega) (fldsI_right (may_of h))
theorem put_fldsI {x : Im} (h : x.may = true) : RecMath.put (encZ (fldsI x)) = .ok (imgB x) := by unfold RecMath.put; rw [if_neg (by have := encZ_len (may_of h); omega)]; rfl

/-! ### fields that are read -/
abbrev Rst := TxnMath.Rs
def rdR (hk : Option Int) (s : Rst) : Rw × Rst :=
  let a := rdN hk s
  let b := rdT a.2
  (⟨a.1, b.1⟩, b.2)
def rdRs (hk : Option Int) (stop : Bool) : Nat → Rst → List Rw × Rst
  | 0, s => ([], s)
  | n + 1, s => if stop = true ∧ s.isNone = true then ([], s) else ((rdR hk s).1 :: (rdRs hk stop n (rdR hk s).2).1, (rdRs hk stop n (rdR hk s).2).2)
def rdTab (hk : Option Int) (stop : Bool) (s : Rst) : List Rw × Rst :=
  let n := rdN (some 1000) s
  rdRs hk stop n.1.toNat n.2
def rdTabs (hk : Option Int) (stop : Bool) : Nat → Rst → List (List Rw) × Rst
  | 0, s => ([], s)
  | n + 1, s => if stop = true ∧ s.isNone = true then ([], s) else ((rdTab hk stop s).1 :: (rdTabs hk stop n (rdTab hk stop s).2).1, (rdTabs hk stop n (rdTab hk stop s).2).2)
def rdI (hl hk : Option Int) (stop : Bool) (s : Rst) : Im × Rst :=
  let a := rdN hl s
  let n := rdN (some 8) a.2
  let d := rdTabs hk stop n.1.toNat n.2
  (⟨a.1, d.1⟩, d.2)
theorem rdR_was {hk : Option Int} {s : Rst} (hr : AllR s) : Was s (rowF (rdR hk s).1) (rdR hk s).2 := (rdN_was (most := hk) hr).trans (rdT_was ((rdN_was (most := hk) hr).allR hr))
theorem rdR_none (hk : Option Int) : (rdR hk none).2 = none := rfl
theorem rdRs_none {hk : Option Int} {stop : Bool} : ∀ n, (rdRs hk stop n none).2 = none
  | 0 => rfl
  | n + 1 => by
    unfold rdRs
    split
    · rfl
    · rw [rdR_none]
      exact rdRs_none n
theorem rdRs_was {hk : Option Int} {stop : Bool} : ∀ (n : Nat) {s : Rst}, AllR s → (rdRs hk stop n s).2 ≠ none → Was s (rowsF (rdRs hk stop n s).1) (rdRs hk stop n s).2 ∧ (rdRs hk stop n s).1.length = n
  | 0, s, _, _ => ⟨fun r e => e, rfl⟩
  | n + 1, s, hr, h => by
    cases hs : s with
    | none => rw [hs, rdRs_none] at h; exact absurd rfl h
    | some l =>
      rw [← hs]
      have hne : ¬ (stop = true ∧ s.isNone = true) := by rw [hs]; simp
      rw [rdRs, if_neg hne] at h ⊢
      have w1 := rdR_was (hk := hk) hr
      obtain ⟨w2, hl⟩ := rdRs_was n (w1.allR hr) h
      exact ⟨w1.trans w2, by rw [List.length_cons, hl]⟩
theorem rdTab_none {hk : Option Int} {stop : Bool} : (rdTab hk stop none).2 = none := rdRs_none _
theorem rdTab_was {hk : Option Int} {stop : Bool} {s : Rst} (hr : AllR s) (h : (rdTab hk stop s).2 ≠ none) : Was s (tabF (rdTab hk stop s).1) (rdTab hk stop s).2 := by
  unfold rdTab at h ⊢
  dsimp only at h ⊢
  have w1 := rdN_was (most := some 1000) hr
  have r1 := w1.allR hr
  generalize hn : rdN (some 1000) s = n at *
  obtain ⟨w2, hl⟩ := rdRs_was n.1.toNat r1 h
  have hnn : ((n.1.toNat : Nat) : Int) = n.1 := by
    rw [← hn]
    exact fits_nat (rdN_fits (by rw [hn]; exact some_of w2 h))
  have e : tabF (rdRs hk stop n.1.toNat n.2).1 = [numF n.1] ++ rowsF (rdRs hk stop n.1.toNat n.2).1 := by
    unfold tabF
    rw [hl, hnn]
    rfl
  rw [e]
  exact w1.trans w2
theorem rdTabs_none {hk : Option Int} {stop : Bool} : ∀ n, (rdTabs hk stop n none).2 = none
  | 0 => rfl
  | n + 1 => by
    unfold rdTabs
    split
    · rfl
    · rw [rdTab_none]
      exact rdTabs_none n
theorem rdTabs_was {hk : Option Int} {stop : Bool} : ∀ (n : Nat) {s : Rst}, AllR s → (rdTabs hk stop n s).2 ≠ none → Was s (tabsF (rdTabs hk stop n s).1) (rdTabs hk stop n s).2 ∧ (rdTabs hk stop n s).1.length = n
  | 0, s, _, _ => ⟨fun r e => e, rfl⟩
  | n + 1, s, hr, h => by
    cases hs : s with
    | none => rw [hs, rdTabs_none] at h; exact absurd rfl h
    | some l =>
      rw [← hs]
      have hne : ¬ (stop = true ∧ s.isNone = true) := by rw [hs]; simp
      rw [rdTabs, if_neg hne] at h ⊢
      have hc : (rdTab hk stop s).2 ≠ none := fun e => by
        dsimp only at h
        rw [e, rdTabs_none] at h
        exact absurd rfl h
      have w1 := rdTab_was hr hc
      obtain ⟨w2, hl⟩ := rdTabs_was n (w1.allR hr) h
      exact ⟨w1.trans w2, by rw [List.length_cons, hl]⟩
theorem rdI_was {hl hk : Option Int} {stop : Bool} {s : Rst} (hr : AllR s) (h : (rdI hl hk stop s).2 ≠ none) : Was s (fldsI (rdI hl hk stop s).1) (rdI hl hk stop s).2 := by
  unfold rdI at h ⊢
  dsimp only at h ⊢
  have w1 := rdN_was (most := hl) hr
  have r1 := w1.allR hr
  have w2 := rdN_was (most := some 8) r1
  have r2 := w2.allR r1
  generalize hn : rdN (some 8) (rdN hl s).2 = n at *
  obtain ⟨w3, l3⟩ := rdTabs_was n.1.toNat r2 h
  have hnn : ((n.1.toNat : Nat) : Int) = n.1 := by
    rw [← hn]
    exact fits_nat (rdN_fits (by rw [hn]; exact some_of w3 h))
  have e : fldsI ⟨(rdN hl s).1, (rdTabs hk stop n.1.toNat n.2).1⟩ = ([numF (rdN hl s).1] ++ [numF n.1]) ++ tabsF (rdTabs hk stop n.1.toNat n.2).1 := by
    unfold fldsI
    dsimp only
    rw [l3, hnn]
    rfl
  rw [e]
  exact (w1.trans w2).trans w3

/-! ### what is there is read -/
theorem rdR_fwd {hk : Option Int} (hw : Wide hk) {c : Rw} (h : 0 < c.key ∧ c.key ≤ 1099511627776) (r : List Fld) : rdR hk (some (rowF c ++ r)) = (c, some r) := by
  show rdR hk (some (numF c.key :: txtF c.val :: r)) = _
  unfold rdR
  dsimp only
  rw [rdN_fwd _ (hw _ (by omega) h.2)]
  dsimp only
  rw [rdT_fwd]
theorem rdRs_fwd {hk : Option Int} (hw : Wide hk) (stop : Bool) : ∀ {l : List Rw}, (∀ c ∈ l, 0 < c.key ∧ c.key ≤ 1099511627776) → ∀ r, rdRs hk stop l.length (some (rowsF l ++ r)) = (l, some r)
  | [], _, r => rfl
  | c :: l, h, r => by
    have e : rowsF (c :: l) ++ r = rowF c ++ (rowsF l ++ r) := by
      show rowF c ++ rowsF l ++ r = _
      rw [List.append_assoc]
    rw [List.length_cons, rdRs, if_neg (by simp), e, rdR_fwd hw (h c List.mem_cons_self)]
    dsimp only
    rw [rdRs_fwd hw stop fun d hd => h d (List.mem_cons_of_mem _ hd)]
theorem rdTab_fwd {hk : Option Int} (hw : Wide hk) (stop : Bool) {l : List Rw} (hl : l.length ≤ 1000) (h : ∀ c ∈ l, 0 < c.key ∧ c.key ≤ 1099511627776) (r : List Fld) : rdTab hk stop (some (tabF l ++ r)) = (l, some r) := by
  show rdTab hk stop (some (numF l.length :: (rowsF l ++ r))) = _
  unfold rdTab
  dsimp only
  rw [rdN_fwd _ (fits_of (by omega) (by omega))]
  dsimp only
  rw [Int.toNat_natCast, rdRs_fwd hw stop h]
theorem rdTabs_fwd {hk : Option Int} (hw : Wide hk) (stop : Bool) : ∀ {T : List (List Rw)}, (∀ l ∈ T, l.length ≤ 1000 ∧ ∀ c ∈ l, 0 < c.key ∧ c.key ≤ 1099511627776) → ∀ r, rdTabs hk stop T.length (some (tabsF T ++ r)) = (T, some r)
  | [], _, r => rfl
  | l :: T, h, r => by
    have e : tabsF (l :: T) ++ r = tabF l ++ (tabsF T ++ r) := by
      show tabF l ++ tabsF T ++ r = _
      rw [List.append_assoc]
    have hl := h l List.mem_cons_self
    rw [List.length_cons, rdTabs, if_neg (by simp), e, rdTab_fwd hw stop hl.1 hl.2]
    dsimp only
    rw [rdTabs_fwd hw stop fun d hd => h d (List.mem_cons_of_mem _ hd)]
theorem rdI_fwd {hl hk : Option Int} (hw1 : Wide hl) (hw2 : Wide hk) (stop : Bool) {x : Im} (h : MayI x) : rdI hl hk stop (some (fldsI x)) = (x, some []) := by
  have h1 := h.lsn
  have h2 := h.tabs
  have e : fldsI x = numF x.lsn :: numF x.tabs.length :: (tabsF x.tabs ++ []) := by
    unfold fldsI
    simp
  rw [e]
  unfold rdI
  dsimp only
  rw [rdN_fwd _ (hw1 _ (by omega) h1.2)]
  dsimp only
  rw [rdN_fwd _ (fits_of (by omega) (by omega))]
  dsimp only
  rw [Int.toNat_natCast, rdTabs_fwd hw2 stop fun l hl => ⟨(h.tab l hl).1, fun c hc => ⟨((h.tab l hl).2 c hc).1, ((h.tab l hl).2 c hc).2.1⟩⟩]
def ends : Rst → Bool
  | some [] => true
  | _ => false
theorem ends_iff {s : Rst} : ends s = true ↔ s = some [] := by
  unfold ends
  split
  · simp
  · next h => simp; exact h
/-- the image that fields are, if they are one that may be -/
def decX (hl hk : Option Int) (stop : Bool) (fs : List Fld) : Option Im := if ends (rdI hl hk stop (some fs)).2 && (rdI hl hk stop (some fs)).1.may then some (rdI hl hk stop (some fs)).1 else none
theorem decX_some {hl hk : Option Int} {stop : Bool} {fs : List Fld} {x : Im} (hr : ∀ f ∈ fs, f.right = true) (h : decX hl hk stop fs = some x) : x.may = true ∧ fldsI x = fs := by
  unfold decX at h
  split at h
  · rename_i hx
    injection h with h
    subst h
    rw [Bool.and_eq_true] at hx
    obtain ⟨h1, h2⟩ := hx
    have hs := ends_iff.1 h1
    have w := rdI_was (hl := hl) (hk := hk) (stop := stop) (s := some fs) (fun l e => by injection e with e; subst e; exact hr) (by rw [hs]; simp)
    have := w [] hs
    rw [List.append_nil] at this
    exact ⟨h2, (Option.some.inj this).symm⟩
  · cases h
theorem decX_fwd {hl hk : Option Int} (hw1 : Wide hl) (hw2 : Wide hk) (stop : Bool) {x : Im} (h : x.may = true) : decX hl hk stop (fldsI x) = some x := by
  unfold decX
  rw [rdI_fwd hw1 hw2 stop (may_of h)]
  rw [if_pos (by rw [h]; rfl)]
/-- how great a number is need not be looked at on the way -/
theorem decX_same {fs : List Fld} (hr : ∀ f ∈ fs, f.right = true) : decX none none false fs = decX (some 1099511627776) (some 1099511627776) true fs := by
  cases h : decX none none false fs with
  | some t =>
    obtain ⟨h1, rfl⟩ := decX_some hr h
    rw [decX_fwd wide_max wide_max true h1]
  | none =>
    cases h2 : decX (some 1099511627776) (some 1099511627776) true fs with
    | none => rfl
    | some t =>
      obtain ⟨h1, rfl⟩ := decX_some hr h2
      rw [decX_fwd wide_none wide_none false h1] at h
      cases h
/-- the fields that bytes hold, as one record and nothing behind it -/
def fieldsOf (b : List UInt8) : Option (List Fld) := match tk b with
  | .error _ => none
  | .ok p => if 8 + p.length = b.length then (match dec p with | .error _ => none | .ok fs => some fs) else none
theorem fieldsOf_right {b : List UInt8} {fs : List Fld} (h : fieldsOf b = some fs) : ∀ f ∈ fs, f.right = true := by
  unfold fieldsOf at h
  split at h
  · cases h
  · split at h
    · split at h
      · cases h
      · rename_i hd
        injection h with h
        subst h
        exact fun f hf => ((dec_ok hd).2.1 f hf).1
    · cases h
/-- what Decode answers: the image, or none -/
def decI (b : List UInt8) : Option Im := match fieldsOf b with
  | none => none
  | some fs => decX none none false fs
theorem decI_ref (b : List UInt8) : decI b = match fieldsOf b with
    | none => none
    | some fs => decX (some 1099511627776) (some 1099511627776) true fs := by
  unfold decI
  cases h : fieldsOf b with
  | none => rfl
  | some fs => exact decX_same (fieldsOf_right h)
theorem tk_all {b p : List UInt8} (h : tk b = .ok p) (hl : 8 + p.length = b.length) : recB p = b := by
  have h8 : 8 ≤ b.length := by omega
  have hp := h
  unfold tk at hp
  rw [if_neg (by omega)] at hp
  split at hp
  · cases hp
  · split at hp
    · cases hp
    · split at hp
      · rename_i hs
        injection hp with hp
        have hn : num (b.take 4) = p.length := by
          rw [← hp, List.length_take, List.length_drop]
          omega
        have hp8 : b.drop 8 = p := by rw [← hp, List.take_of_length_le (by rw [List.length_drop]; omega)]
        have e1 : big p.length 4 = b.take 4 := by
          rw [← hn]
          have := big_num (b.take 4)
          rwa [List.length_take, Nat.min_eq_left (by omega)] at this
        have e2 : big (sum (b.take 4 ++ p)) 4 = (b.drop 4).take 4 := by
          rw [hp] at hs
          rw [← hs]
          have := big_num ((b.drop 4).take 4)
          rwa [List.length_take, List.length_drop, Nat.min_eq_left (by omega)] at this
        rw [recB, e1, e2, ← hp8, show 8 = 4 + 4 from rfl, ← List.drop_drop, List.take_append_drop, List.take_append_drop]
      · cases hp
theorem decI_ok {b : List UInt8} {x : Im} (h : decI b = some x) : x.may = true ∧ imgB x = b := by
  unfold decI at h
  cases hf : fieldsOf b with
  | none => rw [hf] at h; cases h
  | some fs =>
    rw [hf] at h
    dsimp only at h
    obtain ⟨h1, h2⟩ := decX_some (fieldsOf_right hf) h
    refine ⟨h1, ?_⟩
    unfold fieldsOf at hf
    split at hf
    · cases hf
    · rename_i p htk
      split at hf
      · rename_i hlen
        split at hf
        · cases hf
        · rename_i fs' hd
          injection hf with hf
          subst hf
          have he := (dec_ok hd).1
          rw [← h2, enc_fldsI h1] at he
          injection he with he
          unfold imgB
          rw [he]
          exact tk_all htk hlen
      · cases hf
theorem decI_enc {x : Im} (h : x.may = true) : decI (imgB x) = some x := by
  have hm := may_of h
  have hl := encZ_len hm
  unfold decI fieldsOf imgB
  rw [tk_rec0 hl]
  dsimp only
  rw [if_pos (recB_length _).symm, dec_enc (by have := fldsI_length hm; omega) (fldsI_right hm)]
  dsimp only
  rw [decX_fwd wide_none wide_none false h]
theorem decI_more {x : Im} (h : x.may = true) (y : UInt8) : decI (imgB x ++ [y]) = none := by
  have hl := encZ_len (may_of h)
  unfold decI fieldsOf imgB
  rw [tk_rec hl]
  dsimp only
  rw [if_neg (by rw [List.length_append, recB_length]; simp)]
theorem decI_cut {x : Im} (h : x.may = true) {k : Nat} (hk : k < (imgB x).length) : decI ((imgB x).take k) = none := by
  have hl := encZ_len (may_of h)
  unfold decI fieldsOf
  unfold imgB at hk ⊢
  rw [tk_cut hl hk]
theorem decI_bad {b : List UInt8} {e : Nat} (h : tk b = .error e) : decI b = none := by
  unfold decI fieldsOf
  rw [h]
end Go.Proofs.Ytjicdnknlfpajaa.ImgMath
