/-
  Plain mathematics of transactions and their fields, of no program: which may be; their fields; how fields are read as a transaction, number by number, with or without a look at how great a number is; fields are read as a transaction that may be just where they are its fields.
-/
import Derived.Test.YtlkjmdkmcaaihaaMaths
namespace Go.Proofs.Ytlkjmdkmcaaihaa.TxnMath
set_option linter.unusedVariables false
open FieldMath

structure Ch where
  tbl : Int
  key : Int
  gone : Bool
  val : ByteArray
structure Tx where
  lsn : Int
  kind : Int
  chs : List Ch
  sigs : List ByteArray
  mark : Int
def noCh : Ch := ⟨0, 0, false, ⟨#[]⟩⟩
def noTx : Tx := ⟨0, 0, [], [], 0⟩

def Ch.may (n : Int) (c : Ch) : Bool := decide (0 ≤ c.tbl) && (decide (c.tbl < n) && (decide (1 ≤ c.key) && (decide (c.key ≤ 1099511627776) && (if c.gone then c.val.size == 0 else decide (c.val.size ≤ 32)))))
def mayLsn (n : Int) : Bool := decide (1 ≤ n) && decide (n ≤ 1099511627776)
def mayChs (l : List Ch) : Bool := decide (l.length ≤ 16) && l.all (Ch.may 8)
def maySigs (l : List ByteArray) : Bool := decide (l.length ≤ 2) && l.all fun s => decide (s.size ≤ 40)
def Tx.may (t : Tx) : Bool :=
  mayLsn t.lsn && (if t.kind = 1 then t.mark == 0 && (mayChs t.chs && maySigs t.sigs) else if t.kind = 2 ∨ t.kind = 3 then mayLsn t.mark && (t.chs.length == 0 && t.sigs.length == 0) else false)
/-- what a transaction that may be is -/
structure May (t : Tx) : Prop where
  lsn : 1 ≤ t.lsn ∧ t.lsn ≤ 1099511627776
  mark : 0 ≤ t.mark ∧ t.mark ≤ 1099511627776
  kind : 1 ≤ t.kind ∧ t.kind ≤ 3
  chs : t.chs.length ≤ 16
  sigs : t.sigs.length ≤ 2
  ch : ∀ c ∈ t.chs, c.may 8 = true
  sig : ∀ s ∈ t.sigs, s.size ≤ 40
theorem mayLsn_iff {n : Int} : mayLsn n = true ↔ 1 ≤ n ∧ n ≤ 1099511627776 := by unfold mayLsn; simp
theorem may_of {t : Tx} (h : t.may = true) : May t := by
  unfold Tx.may at h
  rw [Bool.and_eq_true] at h
  obtain ⟨h1, h2⟩ := h
  have hl := mayLsn_iff.1 h1
  split at h2
  · rename_i hk
    unfold mayChs maySigs at h2
    simp only [Bool.and_eq_true, beq_iff_eq, decide_eq_true_eq, List.all_eq_true] at h2
    exact ⟨hl, by omega, by omega, h2.2.1.1, h2.2.2.1, h2.2.1.2, h2.2.2.2⟩
  · split at h2
    · rename_i hk
      simp only [Bool.and_eq_true, beq_iff_eq, List.length_eq_zero_iff] at h2
      have hm := mayLsn_iff.1 h2.1
      refine ⟨hl, by omega, by omega, ?_, ?_, ?_, ?_⟩
      · rw [h2.2.1]; simp
      · rw [h2.2.2]; simp
      · rw [h2.2.1]; simp
      · rw [h2.2.2]; simp
    · cases h2
structure ChMay (c : Ch) : Prop where
  tbl : 0 ≤ c.tbl ∧ c.tbl ≤ 7
  key : 1 ≤ c.key ∧ c.key ≤ 1099511627776
  val : c.val.size ≤ 32
theorem chmay_of {c : Ch} (h : c.may 8 = true) : ChMay c := by
  unfold Ch.may at h
  simp only [Bool.and_eq_true, decide_eq_true_eq] at h
  obtain ⟨h1, h2, h3, h4, h5⟩ := h
  refine ⟨by omega, by omega, ?_⟩
  split at h5
  · rw [beq_iff_eq] at h5
    omega
  · simpa using h5

/-! ### fields -/
def numF (n : Int) : Fld := ⟨1, n, ⟨#[]⟩⟩
def txtF (s : ByteArray) : Fld := ⟨2, 0, s⟩
def flag (b : Bool) : Int := if b then 1 else 0
def chF (c : Ch) : List Fld := [numF c.tbl, numF c.key, numF (flag c.gone), txtF c.val]
def chsF (l : List Ch) : List Fld := l.flatMap chF
def flds (t : Tx) : List Fld := [numF t.lsn, numF t.kind, numF t.mark, numF t.chs.length] ++ chsF t.chs ++ [numF t.sigs.length] ++ t.sigs.map txtF
theorem chsF_length (l : List Ch) : (chsF l).length = l.length * 4 := by
  induction l with
  | nil => rfl
  | cons c l ih =>
    show (chF c ++ chsF l).length = _
    rw [List.length_append, ih, List.length_cons]
    show 4 + l.length * 4 = _
    omega
theorem chsF_snoc (l : List Ch) (c : Ch) : chsF (l ++ [c]) = chsF l ++ chF c := by unfold chsF; rw [List.flatMap_append]; simp
theorem flds_length (t : Tx) : (flds t).length = 5 + t.chs.length * 4 + t.sigs.length := by
  unfold flds
  simp only [List.length_append, List.length_cons, List.length_nil, chsF_length, List.length_map]
  omega
theorem numF_right (n : Int) : (numF n).right = true := by simp [numF, Fld.right, ByteArray.size]
theorem txtF_right {s : ByteArray} (h : s.size ≤ 4096) : (txtF s).right = true := by simp [txtF, Fld.right, h]
theorem flds_right {t : Tx} (h : May t) : ∀ f ∈ flds t, f.right = true ∧ f.ok := by
  have hlen : t.chs.length ≤ 16 := h.chs
  have hlen2 : t.sigs.length ≤ 2 := h.sigs
  have hn : ∀ n : Int, -9223372036854775808 ≤ n → n ≤ 9223372036854775807 → (numF n).right = true ∧ (numF n).ok := fun n h1 h2 => ⟨numF_right n, by simp [numF, Fld.ok, ByteArray.size]; omega⟩
  have ht : ∀ s : ByteArray, s.size ≤ 40 → (txtF s).right = true ∧ (txtF s).ok := fun s h1 => ⟨txtF_right (by omega), by simp [txtF, Fld.ok]; omega⟩
  intro f hf
  unfold flds at hf
  simp only [List.mem_append, List.mem_cons, List.not_mem_nil, or_false] at hf
  rcases hf with ((hf | hf) | hf) | hf
  · have h1 := h.lsn
    have h2 := h.mark
    have h3 := h.kind
    rcases hf with rfl | rfl | rfl | rfl
    · exact hn _ (by omega) (by omega)
    · exact hn _ (by omega) (by omega)
    · exact hn _ (by omega) (by omega)
    · exact hn _ (by omega) (by omega)
  · obtain ⟨c, hc, hf⟩ := List.mem_flatMap.1 hf
    have hm := chmay_of (h.ch c hc)
    have h1 := hm.tbl
    have h2 := hm.key
    have h3 := hm.val
    simp only [chF, List.mem_cons, List.not_mem_nil, or_false] at hf
    rcases hf with rfl | rfl | rfl | rfl
    · exact hn _ (by omega) (by omega)
    · exact hn _ (by omega) (by omega)
    · unfold flag; split <;> exact hn _ (by omega) (by omega)
    · exact ht _ (by omega)
  · subst hf
    exact hn _ (by omega) (by omega)
  · obtain ⟨s, hs, rfl⟩ := List.mem_map.1 hf
    exact ht s (h.sig s hs)
/-- what Encode answers -/
def encT (t : Tx) : Except Nat (List UInt8) := if t.may then .ok (encZ (flds t)) else .error 1
theorem enc_flds {t : Tx} (h : t.may = true) : enc (flds t) = .ok (encZ (flds t)) := by
  have hm := may_of h
  have h1 := hm.chs
  have h2 := hm.sigs
  exact enc_right (by rw [flds_length]; omega) (flds_right hm)

/-! ### fields that are read -/
abbrev Rs := Option (List Fld)
/-- a number, up to 'most', if that is asked for -/
def fits (most : Option Int) (n : Int) : Bool := match most with
  | none => true
  | some m => decide (0 ≤ n) && decide (n ≤ m)
def rdN (most : Option Int) : Rs → Int × Rs
  | some (f :: r) => if f.kind = 1 ∧ fits most f.n = true then (f.n, some r) else (0, none)
  | _ => (0, none)
def rdT : Rs → ByteArray × Rs
  | some (f :: r) => if f.kind = 2 then (f.s, some r) else (⟨#[]⟩, none)
  | _ => (⟨#[]⟩, none)
theorem rdN_none (most : Option Int) : rdN most none = (0, none) := rfl
theorem rdT_none : rdT none = (⟨#[]⟩, none) := rfl
def rdC (hk : Option Int) (s : Rs) : Ch × Rs :=
  let a := rdN (some 7) s
  let b := rdN hk a.2
  let c := rdN (some 1) b.2
  let d := rdT c.2
  (⟨a.1, b.1, c.1 == 1, d.1⟩, d.2)
theorem rdC_none (hk : Option Int) : rdC hk none = (noCh, none) := rfl
def rdCs (hk : Option Int) (stop : Bool) : Nat → Rs → List Ch × Rs
  | 0, s => ([], s)
  | n + 1, s => if stop = true ∧ s.isNone = true then ([], s) else ((rdC hk s).1 :: (rdCs hk stop n (rdC hk s).2).1, (rdCs hk stop n (rdC hk s).2).2)
def rdTs (stop : Bool) : Nat → Rs → List ByteArray × Rs
  | 0, s => ([], s)
  | n + 1, s => if stop = true ∧ s.isNone = true then ([], s) else ((rdT s).1 :: (rdTs stop n (rdT s).2).1, (rdTs stop n (rdT s).2).2)
def rdX (hl hk : Option Int) (stop : Bool) (s : Rs) : Tx × Rs :=
  let a := rdN hl s
  let b := rdN (some 3) a.2
  let c := rdN hl b.2
  let n := rdN (some 16) c.2
  let d := rdCs hk stop n.1.toNat n.2
  let m := rdN (some 2) d.2
  let e := rdTs stop m.1.toNat m.2
  (⟨a.1, b.1, d.1, e.1, c.1⟩, e.2)
/-- the transaction that fields are, if they are one that may be -/
def isX (t : Tx) (s : Rs) : Bool := (match s with | some [] => true | _ => false) && t.may
def decX (hl hk : Option Int) (stop : Bool) (fs : List Fld) : Option Tx := if isX (rdX hl hk stop (some fs)).1 (rdX hl hk stop (some fs)).2 then some (rdX hl hk stop (some fs)).1 else none

def AllR (s : Rs) : Prop := ∀ l, s = some l → ∀ f ∈ l, f.right = true
theorem right_num {f : Fld} (h : f.right = true) (hk : f.kind = 1) : f = numF f.n := by
  rcases right_cases h with ⟨_, h0⟩ | ⟨h2, _⟩
  · obtain ⟨k, n, s⟩ := f
    have := empty_of_size h0
    dsimp only at this hk
    subst this hk
    rfl
  · omega
theorem right_txt {f : Fld} (h : f.right = true) (hk : f.kind = 2) : f = txtF f.s := by
  rcases right_cases h with ⟨h2, _⟩ | ⟨_, h0, _⟩
  · omega
  · obtain ⟨k, n, s⟩ := f
    dsimp only at h0 hk
    subst h0 hk
    rfl
/-- what was read was there -/
def Was (s : Rs) (l : List Fld) (s' : Rs) : Prop := ∀ r, s' = some r → s = some (l ++ r)
theorem Was.trans {s s1 s2 : Rs} {l m : List Fld} (h : Was s l s1) (k : Was s1 m s2) : Was s (l ++ m) s2 := fun r hr => by rw [h _ (k r hr), List.append_assoc]
theorem Was.allR {s s1 : Rs} {l : List Fld} (h : Was s l s1) (hr : AllR s) : AllR s1 := fun r e f hf => hr _ (h r e) f (List.mem_append_right _ hf)
theorem rdN_was {most : Option Int} {s : Rs} (hr : AllR s) : Was s [numF (rdN most s).1] (rdN most s).2 := by
  intro r e
  unfold rdN at e ⊢
  split at e
  · rename_i f l
    split at e
    · rename_i h
      rw [if_pos h]
      injection e with e
      subst e
      rw [← right_num (hr _ rfl f List.mem_cons_self) h.1]
      rfl
    · cases e
  · cases e
theorem rdN_fits {most : Option Int} {s : Rs} (h : (rdN most s).2 ≠ none) : fits most (rdN most s).1 = true := by
  unfold rdN at h ⊢
  split at h
  · rename_i f l
    split at h
    · rename_i h2
      rw [if_pos h2]
      exact h2.2
    · exact absurd rfl h
  · exact absurd rfl h
theorem rdT_was {s : Rs} (hr : AllR s) : Was s [txtF (rdT s).1] (rdT s).2 := by
  intro r e
  unfold rdT at e ⊢
  split at e
  · rename_i f l
    split at e
    · rename_i h
      rw [if_pos h]
      injection e with e
      subst e
      rw [← right_txt (hr _ rfl f List.mem_cons_self) h]
      rfl
    · cases e
  · cases e
theorem some_of {s s1 : Rs} {l : List Fld} (h : Was s l s1) (h1 : s1 ≠ none) : s ≠ none := by
  cases s1 with
  | none => exact absurd rfl h1
  | some r => rw [h r rfl]; simp
theorem flag_back {n : Int} (h0 : 0 ≤ n) (h1 : n ≤ 1) : flag (n == 1) = n := by
  unfold flag
  split
  · rename_i h; simp at h; omega
  · rename_i h; simp at h; omega
theorem rdC_was {hk : Option Int} {s : Rs} (hr : AllR s) (h : (rdC hk s).2 ≠ none) : Was s (chF (rdC hk s).1) (rdC hk s).2 := by
  have w1 := rdN_was (most := some 7) hr
  have r1 := w1.allR hr
  have w2 := rdN_was (most := hk) r1
  have r2 := w2.allR r1
  have w3 := rdN_was (most := some 1) r2
  have r3 := w3.allR r2
  have w4 := rdT_was r3
  have h3 := rdN_fits (some_of w4 h)
  have hf : flag ((rdN (some 1) (rdN hk (rdN (some 7) s).2).2).1 == 1) = (rdN (some 1) (rdN hk (rdN (some 7) s).2).2).1 := by
    unfold fits at h3
    simp only [Bool.and_eq_true, decide_eq_true_eq] at h3
    exact flag_back h3.1 h3.2
  have w := (w1.trans w2).trans (w3.trans w4)
  have e2 : chF (rdC hk s).1 = [numF (rdN (some 7) s).1] ++ [numF (rdN hk (rdN (some 7) s).2).1] ++ ([numF (rdN (some 1) (rdN hk (rdN (some 7) s).2).2).1] ++ [txtF (rdT (rdN (some 1) (rdN hk (rdN (some 7) s).2).2).2).1]) := by
    unfold chF rdC
    dsimp only
    rw [hf]
    rfl
  rw [e2]
  exact w
theorem rdCs_none {hk : Option Int} {stop : Bool} : ∀ n, (rdCs hk stop n none).2 = none
  | 0 => rfl
  | n + 1 => by
    unfold rdCs
    split
    · rfl
    · rw [rdC_none]
      exact rdCs_none n
theorem rdTs_none {stop : Bool} : ∀ n, (rdTs stop n none).2 = none
  | 0 => rfl
  | n + 1 => by
    unfold rdTs
    split
    · rfl
    · rw [rdT_none]
      exact rdTs_none n
theorem rdCs_was {hk : Option Int} {stop : Bool} : ∀ (n : Nat) {s : Rs}, AllR s → (rdCs hk stop n s).2 ≠ none → Was s (chsF (rdCs hk stop n s).1) (rdCs hk stop n s).2 ∧ (rdCs hk stop n s).1.length = n
  | 0, s, _, _ => ⟨fun r e => e, rfl⟩
  | n + 1, s, hr, h => by
    cases hs : s with
    | none => rw [hs, rdCs_none] at h; exact absurd rfl h
    | some l =>
      rw [← hs]
      have hne : ¬ (stop = true ∧ s.isNone = true) := by rw [hs]; simp
      rw [rdCs, if_neg hne] at h ⊢
      have hc : (rdC hk s).2 ≠ none := fun e => by
        rw [e, rdCs_none] at h
        exact absurd rfl h
      have w1 := rdC_was hr hc
      obtain ⟨w2, hl⟩ := rdCs_was n (w1.allR hr) h
      exact ⟨w1.trans w2, by rw [List.length_cons, hl]⟩
theorem rdTs_was {stop : Bool} : ∀ (n : Nat) {s : Rs}, AllR s → (rdTs stop n s).2 ≠ none → Was s ((rdTs stop n s).1.map txtF) (rdTs stop n s).2 ∧ (rdTs stop n s).1.length = n
  | 0, s, _, _ => ⟨fun r e => e, rfl⟩
  | n + 1, s, hr, h => by
    cases hs : s with
    | none => rw [hs, rdTs_none] at h; exact absurd rfl h
    | some l =>
      rw [← hs]
      have hne : ¬ (stop = true ∧ s.isNone = true) := by rw [hs]; simp
      rw [rdTs, if_neg hne] at h ⊢
      have w1 := rdT_was hr
      obtain ⟨w2, hl⟩ := rdTs_was n (w1.allR hr) h
      exact ⟨w1.trans w2, by rw [List.length_cons, hl]⟩
theorem fits_nat {m : Int} {n : Int} (h : fits (some m) n = true) : ((n.toNat : Nat) : Int) = n := by
  unfold fits at h
  simp only [Bool.and_eq_true, decide_eq_true_eq] at h
  omega
theorem rdX_was {hl hk : Option Int} {stop : Bool} {s : Rs} (hr : AllR s) (h : (rdX hl hk stop s).2 ≠ none) : Was s (flds (rdX hl hk stop s).1) (rdX hl hk stop s).2 := by
  unfold rdX at h ⊢
  dsimp only at h ⊢
  have w1 := rdN_was (most := hl) hr
  have r1 := w1.allR hr
  have w2 := rdN_was (most := some 3) r1
  have r2 := w2.allR r1
  have w3 := rdN_was (most := hl) r2
  have r3 := w3.allR r2
  have w4 := rdN_was (most := some 16) r3
  have r4 := w4.allR r3
  generalize hn : rdN (some 16) (rdN hl (rdN (some 3) (rdN hl s).2).2).2 = n at *
  have hd : (rdCs hk stop n.1.toNat n.2).2 ≠ none := fun e => by
    rw [e, rdN_none, rdTs_none] at h
    exact absurd rfl h
  obtain ⟨w5, l5⟩ := rdCs_was n.1.toNat r4 hd
  have r5 := w5.allR r4
  have w6 := rdN_was (most := some 2) r5
  have r6 := w6.allR r5
  generalize hm : rdN (some 2) (rdCs hk stop n.1.toNat n.2).2 = m at *
  have hm2 : m.2 ≠ none := fun e => by
    rw [e, rdTs_none] at h
    exact absurd rfl h
  obtain ⟨w7, l7⟩ := rdTs_was m.1.toNat r6 h
  have hnn : ((n.1.toNat : Nat) : Int) = n.1 := by
    rw [← hn]
    exact fits_nat (rdN_fits (by rw [hn]; exact some_of w5 hd))
  have hmm : ((m.1.toNat : Nat) : Int) = m.1 := by
    rw [← hm]
    exact fits_nat (rdN_fits (by rw [hm]; exact hm2))
  have w := (((w1.trans w2).trans (w3.trans w4)).trans w5).trans (w6.trans w7)
  have e2 : flds ⟨(rdN hl s).1, (rdN (some 3) (rdN hl s).2).1, (rdCs hk stop n.1.toNat n.2).1, (rdTs stop m.1.toNat m.2).1, (rdN hl (rdN (some 3) (rdN hl s).2).2).1⟩ = [numF (rdN hl s).1] ++ [numF (rdN (some 3) (rdN hl s).2).1] ++ ([numF (rdN hl (rdN (some 3) (rdN hl s).2).2).1] ++ [numF n.1]) ++ chsF (rdCs hk stop n.1.toNat n.2).1 ++ ([numF m.1] ++ (rdTs stop m.1.toNat m.2).1.map txtF) := by
    unfold flds
    dsimp only
    rw [l5, l7, hnn, hmm]
    simp only [List.append_assoc, List.cons_append, List.nil_append]
  rw [e2]
  exact w

/-! ### what is there is read -/
theorem rdN_fwd {most : Option Int} {n : Int} (r : List Fld) (h : fits most n = true) : rdN most (some (numF n :: r)) = (n, some r) := by
  unfold rdN
  dsimp only
  rw [if_pos ⟨rfl, h⟩]
  rfl
theorem rdT_fwd (s : ByteArray) (r : List Fld) : rdT (some (txtF s :: r)) = (s, some r) := by
  unfold rdT
  dsimp only
  rw [if_pos (show (txtF s).kind = 2 from rfl)]
  rfl
/-- a bound that a number of a transaction keeps to -/
def Wide (m : Option Int) : Prop := ∀ n : Int, 0 ≤ n → n ≤ 1099511627776 → fits m n = true
theorem wide_none : Wide none := fun _ _ _ => rfl
theorem wide_max : Wide (some 1099511627776) := fun n h0 h1 => by unfold fits; simp; omega
theorem fits_of {m n : Int} (h0 : 0 ≤ n) (h1 : n ≤ m) : fits (some m) n = true := by unfold fits; simp; omega
theorem rdC_fwd {hk : Option Int} (hw : Wide hk) {c : Ch} (h : ChMay c) (r : List Fld) : rdC hk (some (chF c ++ r)) = (c, some r) := by
  have h1 := h.tbl
  have h2 := h.key
  have hf : fits (some 1) (flag c.gone) = true := by unfold flag; split <;> exact fits_of (by omega) (by omega)
  show rdC hk (some (numF c.tbl :: numF c.key :: numF (flag c.gone) :: txtF c.val :: r)) = _
  unfold rdC
  dsimp only
  rw [rdN_fwd _ (fits_of h1.1 h1.2)]
  dsimp only
  rw [rdN_fwd _ (hw _ (by omega) h2.2)]
  dsimp only
  rw [rdN_fwd _ hf]
  dsimp only
  rw [rdT_fwd]
  obtain ⟨t, k, g, v⟩ := c
  cases g <;> rfl
theorem rdCs_fwd {hk : Option Int} (hw : Wide hk) (stop : Bool) : ∀ {l : List Ch}, (∀ c ∈ l, ChMay c) → ∀ r, rdCs hk stop l.length (some (chsF l ++ r)) = (l, some r)
  | [], _, r => rfl
  | c :: l, h, r => by
    have e : chsF (c :: l) ++ r = chF c ++ (chsF l ++ r) := by
      show chF c ++ chsF l ++ r = _
      rw [List.append_assoc]
    rw [List.length_cons, rdCs, if_neg (by simp), e, rdC_fwd hw (h c List.mem_cons_self)]
    dsimp only
    rw [rdCs_fwd hw stop fun d hd => h d (List.mem_cons_of_mem _ hd)]
theorem rdTs_fwd (stop : Bool) : ∀ (l : List ByteArray) (r : List Fld), rdTs stop l.length (some (l.map txtF ++ r)) = (l, some r)
  | [], r => rfl
  | s :: l, r => by
    rw [List.length_cons, rdTs, if_neg (by simp), List.map_cons, List.cons_append, rdT_fwd]
    dsimp only
    rw [rdTs_fwd stop l]
theorem rdX_fwd {hl hk : Option Int} (hw1 : Wide hl) (hw2 : Wide hk) (stop : Bool) {t : Tx} (h : May t) : rdX hl hk stop (some (flds t)) = (t, some []) := by
  have h1 := h.lsn
  have h2 := h.kind
  have h3 := h.mark
  have h4 := h.chs
  have h5 := h.sigs
  have e : flds t = numF t.lsn :: numF t.kind :: numF t.mark :: numF t.chs.length :: (chsF t.chs ++ (numF t.sigs.length :: (t.sigs.map txtF ++ []))) := by
    unfold flds
    simp
  rw [e]
  unfold rdX
  dsimp only
  rw [rdN_fwd _ (hw1 _ (by omega) h1.2)]
  dsimp only
  rw [rdN_fwd _ (fits_of (by omega) h2.2)]
  dsimp only
  rw [rdN_fwd _ (hw1 _ h3.1 h3.2)]
  dsimp only
  rw [rdN_fwd _ (fits_of (by omega) (by omega))]
  dsimp only
  rw [Int.toNat_natCast, rdCs_fwd hw2 stop fun c hc => chmay_of (h.ch c hc)]
  dsimp only
  rw [rdN_fwd _ (fits_of (by omega) (by omega))]
  dsimp only
  rw [Int.toNat_natCast, rdTs_fwd]

/-- fields are read as a transaction just where they are its fields -/
theorem decX_some {hl hk : Option Int} {stop : Bool} {fs : List Fld} {t : Tx} (hr : ∀ f ∈ fs, f.right = true) (h : decX hl hk stop fs = some t) : t.may = true ∧ flds t = fs := by
  unfold decX at h
  split at h
  · rename_i hx
    injection h with h
    subst h
    unfold isX at hx
    rw [Bool.and_eq_true] at hx
    obtain ⟨h1, h2⟩ := hx
    have hs : (rdX hl hk stop (some fs)).2 = some [] := by
      revert h1
      generalize (rdX hl hk stop (some fs)).2 = s
      intro h1
      match s, h1 with
      | some [], _ => rfl
    have w := rdX_was (hl := hl) (hk := hk) (stop := stop) (s := some fs) (fun l e => by injection e with e; subst e; exact hr) (by rw [hs]; simp)
    have := w [] hs
    rw [List.append_nil] at this
    exact ⟨h2, (Option.some.inj this).symm⟩
  · cases h
theorem decX_fwd {hl hk : Option Int} (hw1 : Wide hl) (hw2 : Wide hk) (stop : Bool) {t : Tx} (h : t.may = true) : decX hl hk stop (flds t) = some t := by
  unfold decX
  rw [rdX_fwd hw1 hw2 stop (may_of h)]
  have : isX t (some []) = true := by unfold isX; simp [h]
  rw [if_pos this]
/-- how great a number is need not be looked at on the way -/
theorem decX_same {fs : List Fld} (hr : ∀ f ∈ fs, f.right = true) : decX none none false fs = decX (some 1099511627776) (some 1099511627776) true fs := by
  cases h : decX none none false fs with
  | some t =>
    obtain ⟨h1, rfl⟩ := decX_some hr h
    rw [decX_fwd wide_max wide_max true h1]
  | none =>
    cases h2 : decX (some 1099511627776) (some 1099511627776) true fs with
    | none => rfl
    | some t =>
      obtain ⟨h1, rfl⟩ := decX_some hr h2
      rw [decX_fwd wide_none wide_none false h1] at h
      cases h

/-- what Decode answers: the transaction, or what is wrong -/
def decT (b : List UInt8) : Except Nat Tx := match dec b with
  | .error e => .error e
  | .ok fs => match decX none none false fs with
    | none => .error 3
    | some t => .ok t
theorem decT_ref (b : List UInt8) : decT b = match dec b with
  | .error e => .error e
  | .ok fs => match decX (some 1099511627776) (some 1099511627776) true fs with
    | none => .error 3
    | some t => .ok t := by
  unfold decT
  cases h : dec b with
  | error e => rfl
  | ok fs =>
    dsimp only
    rw [decX_same fun f hf => ((dec_ok h).2.1 f hf).1]
theorem decT_ok {b : List UInt8} {t : Tx} (h : decT b = .ok t) : t.may = true ∧ encZ (flds t) = b := by
  unfold decT at h
  cases hd : dec b with
  | error e => rw [hd] at h; cases h
  | ok fs =>
    rw [hd] at h
    dsimp only at h
    have hr := (dec_ok hd).2.1
    cases hx : decX none none false fs with
    | none => rw [hx] at h; cases h
    | some u =>
      rw [hx] at h
      injection h with h
      subst h
      obtain ⟨h1, rfl⟩ := decX_some (fun f hf => (hr f hf).1) hx
      have h2 := (dec_ok hd).1
      rw [enc_flds h1] at h2
      injection h2 with h2
      exact ⟨h1, h2⟩
theorem flds_few {t : Tx} (h : May t) : (flds t).length ≤ 32767 := by
  have h1 := h.chs
  have h2 := h.sigs
  rw [flds_length]
  omega
theorem decT_enc {t : Tx} (h : t.may = true) : decT (encZ (flds t)) = .ok t := by
  have hm := may_of h
  unfold decT
  rw [dec_enc (flds_few hm) (flds_right hm)]
  dsimp only
  rw [decX_fwd wide_none wide_none false h]
theorem decT_more {t : Tx} (h : t.may = true) (x : UInt8) : decT (encZ (flds t) ++ [x]) = .error 3 := by
  have hm := may_of h
  unfold decT
  rw [dec_enc_more (flds_few hm) (flds_right hm), if_pos (by simp)]
theorem decT_cut {t : Tx} (h : t.may = true) {k : Nat} (hk : k < (encZ (flds t)).length) : decT ((encZ (flds t)).take k) = .error 2 := by
  have hm := may_of h
  unfold decT
  rw [dec_cut (flds_few hm) (flds_right hm) hk]
end Go.Proofs.Ytlkjmdkmcaaihaa.TxnMath
