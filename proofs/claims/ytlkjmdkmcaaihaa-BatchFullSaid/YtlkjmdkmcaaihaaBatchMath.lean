/-
  Plain mathematics of a sink's items (P16): which may be; their fields; how fields are read as an item, number by number, with or without a look at how great a number is; fields are read as an item that may be just where they are its fields; items joined. No program's numbers, no condition.
-/
import Derived.Test.YtlkjmdkmcaaihaaTxnMath
import Derived.Test.YtlkjmdkmcaaihaaGuardMath
namespace Go.Proofs.Ytlkjmdkmcaaihaa.BatchMath
set_option linter.unusedVariables false
set_option linter.unusedSimpArgs false
open FieldMath TxnMath
open GuardMath (Gp noGp snoc_ind)
set_option linter.ambiguousOpen false

structure Nt where
  kind : Int
  id : Int
  tbl : Int
  wt : Int
  at_ : Int
  cur : Int
  done : Bool
def noNt : Nt := ⟨0, 0, 0, 0, 0, 0, false⟩
instance : Inhabited Nt := ⟨noNt⟩
structure It where
  lsn : Int
  ops : List Gp
  notes : List Nt
def noIt : It := ⟨0, [], []⟩

/-! ### which may be -/
def och (o : Gp) : Ch := ⟨o.tbl, o.key, o.gone, o.val⟩
def opMay (L : Int) (o : Gp) : Bool := decide (1 ≤ o.lsn) && (decide (o.lsn ≤ L) && (och o).may 8)
def ntMay (L : Int) (n : Nt) : Bool := decide (1 ≤ n.id) && (decide (n.id ≤ 64) &&
  (if n.kind = 1 then decide (0 ≤ n.tbl) && (decide (n.tbl < 8) && (decide (1 ≤ n.wt) && (decide (n.wt ≤ 8) && (decide (1 ≤ n.at_) && (decide (n.at_ ≤ L) && (n.cur == 0 && !n.done))))))
   else if n.kind = 2 then n.tbl == 0 && (n.wt == 0 && (n.at_ == 0 && (decide (0 ≤ n.cur) && decide (n.cur ≤ 1099511627776))))
   else false))
def mayOps (L : Int) (l : List Gp) : Bool := l.all (opMay L)
def mayNotes (L : Int) (l : List Nt) : Bool := l.all (ntMay L)
def may (x : It) : Bool := decide (1 ≤ x.lsn) && (decide (x.lsn ≤ 1099511627776) && (decide (x.ops.length ≤ 4096) && (decide (x.notes.length ≤ 256) && (mayOps x.lsn x.ops && mayNotes x.lsn x.notes))))
structure OpOk (o : Gp) : Prop where
  lsn : 1 ≤ o.lsn ∧ o.lsn ≤ 1099511627776
  ch : ChMay (och o)
structure NtOk (n : Nt) : Prop where
  kind : 1 ≤ n.kind ∧ n.kind ≤ 2
  id : 1 ≤ n.id ∧ n.id ≤ 64
  tbl : 0 ≤ n.tbl ∧ n.tbl ≤ 7
  wt : 0 ≤ n.wt ∧ n.wt ≤ 8
  at_ : 0 ≤ n.at_ ∧ n.at_ ≤ 1099511627776
  cur : 0 ≤ n.cur ∧ n.cur ≤ 1099511627776
/-- what an item that may be is -/
structure MayI (x : It) : Prop where
  lsn : 1 ≤ x.lsn ∧ x.lsn ≤ 1099511627776
  ops : x.ops.length ≤ 4096
  notes : x.notes.length ≤ 256
  op : ∀ o ∈ x.ops, opMay x.lsn o = true
  nt : ∀ n ∈ x.notes, ntMay x.lsn n = true
theorem may_iff {x : It} : may x = true ↔ MayI x := by
  unfold may mayOps mayNotes
  simp only [Bool.and_eq_true, decide_eq_true_eq, List.all_eq_true]
  exact ⟨fun ⟨h1, h2, h3, h4, h5, h6⟩ => ⟨⟨h1, h2⟩, h3, h4, h5, h6⟩, fun h => ⟨h.lsn.1, h.lsn.2, h.ops, h.notes, h.op, h.nt⟩⟩
theorem opMay_parts {L : Int} {o : Gp} (h : opMay L o = true) : 1 ≤ o.lsn ∧ o.lsn ≤ L ∧ (och o).may 8 = true := by
  unfold opMay at h
  simp only [Bool.and_eq_true, decide_eq_true_eq] at h
  exact h
theorem opMay_ok {L : Int} {o : Gp} (hL : L ≤ 1099511627776) (h : opMay L o = true) : OpOk o := by
  obtain ⟨h1, h2, h3⟩ := opMay_parts h
  exact ⟨⟨h1, by omega⟩, chmay_of h3⟩
theorem ntMay_ok {L : Int} {n : Nt} (hL : L ≤ 1099511627776) (h : ntMay L n = true) : NtOk n := by
  unfold ntMay at h
  simp only [Bool.and_eq_true, decide_eq_true_eq] at h
  obtain ⟨h1, h2, h3⟩ := h
  split at h3
  · rename_i hk
    simp only [Bool.and_eq_true, decide_eq_true_eq, beq_iff_eq] at h3
    exact ⟨by omega, ⟨h1, h2⟩, by omega, by omega, by omega, by omega⟩
  · split at h3
    · rename_i hk
      simp only [Bool.and_eq_true, decide_eq_true_eq, beq_iff_eq] at h3
      exact ⟨by omega, ⟨h1, h2⟩, by omega, by omega, by omega, by omega⟩
    · cases h3
theorem opMay_up {L M : Int} {o : Gp} (h : L ≤ M) (ho : opMay L o = true) : opMay M o = true := by
  unfold opMay at ho ⊢
  simp only [Bool.and_eq_true, decide_eq_true_eq] at ho ⊢
  exact ⟨ho.1, by omega, ho.2.2⟩
theorem ntMay_up {L M : Int} {n : Nt} (h : L ≤ M) (hn : ntMay L n = true) : ntMay M n = true := by
  unfold ntMay at hn ⊢
  simp only [Bool.and_eq_true, decide_eq_true_eq] at hn ⊢
  refine ⟨hn.1, hn.2.1, ?_⟩
  have h3 := hn.2.2
  by_cases hk : n.kind = 1
  · rw [if_pos hk] at h3 ⊢
    simp only [Bool.and_eq_true, decide_eq_true_eq] at h3 ⊢
    exact ⟨h3.1, h3.2.1, h3.2.2.1, h3.2.2.2.1, h3.2.2.2.2.1, by omega, h3.2.2.2.2.2.2⟩
  · rw [if_neg hk] at h3 ⊢
    exact h3

/-! ### fields -/
def opF (o : Gp) : List Fld := numF o.lsn :: chF (och o)
def opsF (l : List Gp) : List Fld := l.flatMap opF
def ntF (n : Nt) : List Fld := [numF n.kind, numF n.id, numF n.tbl, numF n.wt, numF n.at_, numF n.cur, numF (flag n.done)]
def ntsF (l : List Nt) : List Fld := l.flatMap ntF
def ifl (x : It) : List Fld := [numF x.lsn, numF x.ops.length] ++ opsF x.ops ++ [numF x.notes.length] ++ ntsF x.notes
theorem opsF_length (l : List Gp) : (opsF l).length = l.length * 5 := by
  induction l with
  | nil => rfl
  | cons c l ih =>
    show (opF c ++ opsF l).length = _
    rw [List.length_append, ih, List.length_cons]
    show 5 + l.length * 5 = _
    omega
theorem ntsF_length (l : List Nt) : (ntsF l).length = l.length * 7 := by
  induction l with
  | nil => rfl
  | cons c l ih =>
    show (ntF c ++ ntsF l).length = _
    rw [List.length_append, ih, List.length_cons]
    show 7 + l.length * 7 = _
    omega
theorem opsF_snoc (l : List Gp) (o : Gp) : opsF (l ++ [o]) = opsF l ++ opF o := by unfold opsF; rw [List.flatMap_append]; simp
theorem ntsF_snoc (l : List Nt) (n : Nt) : ntsF (l ++ [n]) = ntsF l ++ ntF n := by unfold ntsF; rw [List.flatMap_append]; simp
theorem ifl_length (x : It) : (ifl x).length = 3 + x.ops.length * 5 + x.notes.length * 7 := by
  unfold ifl
  simp only [List.length_append, List.length_cons, List.length_nil, opsF_length, ntsF_length]
  omega
theorem numF_ok {n : Int} (h1 : -9223372036854775808 ≤ n) (h2 : n ≤ 9223372036854775807) : (numF n).right = true ∧ (numF n).ok := ⟨numF_right n, by simp [numF, Fld.ok, ByteArray.size]; omega⟩
theorem flag_ok (b : Bool) : (numF (flag b)).right = true ∧ (numF (flag b)).ok := by unfold flag; split <;> exact numF_ok (by omega) (by omega)
theorem opF_right {o : Gp} (h : OpOk o) : ∀ f ∈ opF o, f.right = true ∧ f.ok := by
  intro f hf
  have h0 := h.lsn
  have h1 := h.ch.tbl
  have h2 := h.ch.key
  have h3 := h.ch.val
  simp only [opF, chF, List.mem_cons, List.not_mem_nil, or_false] at hf
  rcases hf with rfl | rfl | rfl | rfl | rfl
  · exact numF_ok (by omega) (by omega)
  · exact numF_ok (by omega) (by omega)
  · exact numF_ok (by omega) (by omega)
  · exact flag_ok _
  · exact ⟨txtF_right (by omega), by simp [txtF, Fld.ok]; omega⟩
theorem ntF_right {n : Nt} (h : NtOk n) : ∀ f ∈ ntF n, f.right = true ∧ f.ok := by
  intro f hf
  have h0 := h.kind
  have h1 := h.id
  have h2 := h.tbl
  have h3 := h.wt
  have h4 := h.at_
  have h5 := h.cur
  simp only [ntF, List.mem_cons, List.not_mem_nil, or_false] at hf
  rcases hf with rfl | rfl | rfl | rfl | rfl | rfl | rfl
  · exact numF_ok (by omega) (by omega)
  · exact numF_ok (by omega) (by omega)
  · exact numF_ok (by omega) (by omega)
  · exact numF_ok (by omega) (by omega)
  · exact numF_ok (by omega) (by omega)
  · exact numF_ok (by omega) (by omega)
  · exact flag_ok _
theorem ifl_right {x : It} (h : MayI x) : ∀ f ∈ ifl x, f.right = true ∧ f.ok := by
  have h0 := h.lsn
  have h1 := h.ops
  have h2 := h.notes
  intro f hf
  unfold ifl at hf
  simp only [List.mem_append, List.mem_cons, List.not_mem_nil, or_false] at hf
  rcases hf with ((hf | hf) | hf) | hf
  · rcases hf with rfl | rfl
    · exact numF_ok (by omega) (by omega)
    · exact numF_ok (by omega) (by omega)
  · obtain ⟨o, ho, hf⟩ := List.mem_flatMap.1 hf
    exact opF_right (opMay_ok h0.2 (h.op o ho)) f hf
  · subst hf
    exact numF_ok (by omega) (by omega)
  · obtain ⟨n, hn, hf⟩ := List.mem_flatMap.1 hf
    exact ntF_right (ntMay_ok h0.2 (h.nt n hn)) f hf
theorem ifl_few {x : It} (h : MayI x) : (ifl x).length ≤ 32767 := by
  have h1 := h.ops
  have h2 := h.notes
  rw [ifl_length]
  omega
/-- what Encode answers -/
def encI (x : It) : Except Nat (List UInt8) := if may x then .ok (encZ (ifl x)) else .error 1
theorem enc_ifl {x : It} (h : may x = true) : enc (ifl x) = .ok (encZ (ifl x)) := enc_right (ifl_few (may_iff.1 h)) (ifl_right (may_iff.1 h))

/-! ### fields that are read -/
/-- a bound that what may be keeps to -/
def Covers (m : Option Int) (b : Int) : Prop := ∀ n : Int, 0 ≤ n → n ≤ b → fits m n = true
theorem covers_none (b : Int) : Covers none b := fun _ _ _ => rfl
theorem covers_some {m b : Int} (h : b ≤ m) : Covers (some m) b := fun n h0 h1 => by unfold fits; simp; omega
/-- how great the numbers of a note may be -/
structure NB where
  kind : Option Int
  id : Option Int
  tbl : Option Int
  wt : Option Int
  at_ : Option Int
  cur : Option Int
structure NB.Good (b : NB) : Prop where
  kind : Covers b.kind 2
  id : Covers b.id 64
  tbl : Covers b.tbl 7
  wt : Covers b.wt 8
  at_ : Covers b.at_ 1099511627776
  cur : Covers b.cur 1099511627776
def rdO (hl hk : Option Int) (s : Rs) : Gp × Rs := (⟨(rdN hl s).1, (rdC hk (rdN hl s).2).1.tbl, (rdC hk (rdN hl s).2).1.key, (rdC hk (rdN hl s).2).1.gone, (rdC hk (rdN hl s).2).1.val⟩, (rdC hk (rdN hl s).2).2)
def rdM (b : NB) (s : Rs) : Nt × Rs :=
  let a := rdN b.kind s
  let c := rdN b.id a.2
  let d := rdN b.tbl c.2
  let e := rdN b.wt d.2
  let f := rdN b.at_ e.2
  let g := rdN b.cur f.2
  let h := rdN (some 1) g.2
  (⟨a.1, c.1, d.1, e.1, f.1, g.1, h.1 == 1⟩, h.2)
/-- a way to read one of them, as its fields were laid -/
structure Way {α : Type} (rd : Rs → α × Rs) (F : α → List Fld) (P : α → Prop) : Prop where
  none_ : (rd none).2 = none
  was : ∀ {s : Rs}, AllR s → (rd s).2 ≠ none → Was s (F (rd s).1) (rd s).2
  fwd : ∀ {a : α}, P a → ∀ r, rd (some (F a ++ r)) = (a, some r)
theorem way_op {hl hk : Option Int} (h1 : Wide hl) (h2 : Wide hk) : Way (rdO hl hk) opF OpOk where
  none_ := rfl
  was := fun {s} hr h => by
    have w1 := rdN_was (most := hl) hr
    have r1 := w1.allR hr
    have w2 := rdC_was (hk := hk) r1 h
    exact w1.trans w2
  fwd := fun {o} ho r => by
    have hl1 := ho.lsn
    show rdO hl hk (some (numF o.lsn :: (chF (och o) ++ r))) = _
    unfold rdO
    rw [rdN_fwd _ (h1 _ (by omega) hl1.2)]
    dsimp only
    rw [rdC_fwd h2 ho.ch]
    rfl
theorem way_nt {b : NB} (hb : b.Good) : Way (rdM b) ntF NtOk where
  none_ := rfl
  was := fun {s} hr h => by
    have w1 := rdN_was (most := b.kind) hr
    have r1 := w1.allR hr
    have w2 := rdN_was (most := b.id) r1
    have r2 := w2.allR r1
    have w3 := rdN_was (most := b.tbl) r2
    have r3 := w3.allR r2
    have w4 := rdN_was (most := b.wt) r3
    have r4 := w4.allR r3
    have w5 := rdN_was (most := b.at_) r4
    have r5 := w5.allR r4
    have w6 := rdN_was (most := b.cur) r5
    have r6 := w6.allR r5
    have w7 := rdN_was (most := some 1) r6
    have h7 := rdN_fits (most := some 1) h
    have hf := h7
    unfold fits at hf
    simp only [Bool.and_eq_true, decide_eq_true_eq] at hf
    have hfl := flag_back hf.1 hf.2
    have w := (w1.trans w2).trans ((w3.trans w4).trans ((w5.trans w6).trans w7))
    have e2 : ntF (rdM b s).1 = [numF (rdN b.kind s).1] ++ [numF (rdN b.id (rdN b.kind s).2).1] ++ (([numF (rdN b.tbl (rdN b.id (rdN b.kind s).2).2).1] ++ [numF (rdN b.wt (rdN b.tbl (rdN b.id (rdN b.kind s).2).2).2).1]) ++ (([numF (rdN b.at_ (rdN b.wt (rdN b.tbl (rdN b.id (rdN b.kind s).2).2).2).2).1] ++ [numF (rdN b.cur (rdN b.at_ (rdN b.wt (rdN b.tbl (rdN b.id (rdN b.kind s).2).2).2).2).2).1]) ++ [numF (rdN (some 1) (rdN b.cur (rdN b.at_ (rdN b.wt (rdN b.tbl (rdN b.id (rdN b.kind s).2).2).2).2).2).2).1])) := by
      unfold ntF rdM
      dsimp only
      rw [hfl]
      rfl
    rw [e2]
    exact w
  fwd := fun {n} hn r => by
    have h1 := hn.kind
    have h2 := hn.id
    have h3 := hn.tbl
    have h4 := hn.wt
    have h5 := hn.at_
    have h6 := hn.cur
    have hf : fits (some 1) (flag n.done) = true := by unfold flag; split <;> exact fits_of (by omega) (by omega)
    show rdM b (some (numF n.kind :: numF n.id :: numF n.tbl :: numF n.wt :: numF n.at_ :: numF n.cur :: numF (flag n.done) :: r)) = _
    unfold rdM
    dsimp only
    rw [rdN_fwd _ (hb.kind _ (by omega) h1.2)]
    dsimp only
    rw [rdN_fwd _ (hb.id _ (by omega) h2.2)]
    dsimp only
    rw [rdN_fwd _ (hb.tbl _ h3.1 h3.2)]
    dsimp only
    rw [rdN_fwd _ (hb.wt _ h4.1 h4.2)]
    dsimp only
    rw [rdN_fwd _ (hb.at_ _ h5.1 h5.2)]
    dsimp only
    rw [rdN_fwd _ (hb.cur _ h6.1 h6.2)]
    dsimp only
    rw [rdN_fwd _ hf]
    obtain ⟨k, i, t, w, a, c, d⟩ := n
    cases d <;> rfl
/-- so many of them; with 'stop' no further behind a fault -/
def rdL {α : Type} (rd : Rs → α × Rs) (stop : Bool) : Nat → Rs → List α × Rs
  | 0, s => ([], s)
  | n + 1, s => if stop = true ∧ s.isNone = true then ([], s) else ((rd s).1 :: (rdL rd stop n (rd s).2).1, (rdL rd stop n (rd s).2).2)
section
variable {α : Type} {rd : Rs → α × Rs} {F : α → List Fld} {P : α → Prop}
theorem rdL_none (h : Way rd F P) (stop : Bool) : ∀ n, (rdL rd stop n none).2 = none
  | 0 => rfl
  | n + 1 => by
    unfold rdL
    split
    · rfl
    · rw [h.none_]
      exact rdL_none h stop n
theorem rdL_was (h : Way rd F P) {stop : Bool} : ∀ (n : Nat) {s : Rs}, AllR s → (rdL rd stop n s).2 ≠ none → Was s ((rdL rd stop n s).1.flatMap F) (rdL rd stop n s).2 ∧ (rdL rd stop n s).1.length = n
  | 0, s, _, _ => ⟨fun r e => e, rfl⟩
  | n + 1, s, hr, hn => by
    cases hs : s with
    | none => rw [hs, rdL_none h] at hn; exact absurd rfl hn
    | some l =>
      rw [← hs]
      have hne : ¬ (stop = true ∧ s.isNone = true) := by rw [hs]; simp
      rw [rdL, if_neg hne] at hn ⊢
      have hc : (rd s).2 ≠ none := fun e => by
        rw [e, rdL_none h] at hn
        exact absurd rfl hn
      have w1 := h.was hr hc
      obtain ⟨w2, hl⟩ := rdL_was h n (w1.allR hr) hn
      refine ⟨?_, by rw [List.length_cons, hl]⟩
      rw [List.flatMap_cons]
      exact w1.trans w2
theorem rdL_fwd (h : Way rd F P) (stop : Bool) : ∀ {l : List α}, (∀ a ∈ l, P a) → ∀ r, rdL rd stop l.length (some (l.flatMap F ++ r)) = (l, some r)
  | [], _, r => rfl
  | a :: l, hl, r => by
    rw [List.flatMap_cons, List.append_assoc, List.length_cons, rdL, if_neg (by simp), h.fwd (hl a List.mem_cons_self)]
    dsimp only
    rw [rdL_fwd h stop fun d hd => hl d (List.mem_cons_of_mem _ hd)]
/-- read one more -/
theorem rdL_len_le (stop : Bool) : ∀ (n : Nat) (s : Rs), (rdL rd stop n s).1.length ≤ n
  | 0, s => Nat.le_refl _
  | n + 1, s => by
    unfold rdL
    split
    · exact Nat.zero_le _
    · rw [List.length_cons]
      have := rdL_len_le stop n (rd s).2
      omega
end
def rdI (hl hk : Option Int) (b : NB) (stop : Bool) (s : Rs) : It × Rs :=
  let a := rdN hl s
  let n := rdN (some 4096) a.2
  let d := rdL (rdO hl hk) stop n.1.toNat n.2
  let m := rdN (some 256) d.2
  let e := rdL (rdM b) stop m.1.toNat m.2
  (⟨a.1, d.1, e.1⟩, e.2)
def isI (x : It) (s : Rs) : Bool := (match s with | some [] => true | _ => false) && may x
def decF (hl hk : Option Int) (b : NB) (stop : Bool) (fs : List Fld) : Option It := if isI (rdI hl hk b stop (some fs)).1 (rdI hl hk b stop (some fs)).2 then some (rdI hl hk b stop (some fs)).1 else none
theorem rdI_was {hl hk : Option Int} {b : NB} {stop : Bool} (h1 : Wide hl) (h2 : Wide hk) (hb : b.Good) {s : Rs} (hr : AllR s) (h : (rdI hl hk b stop s).2 ≠ none) : Was s (ifl (rdI hl hk b stop s).1) (rdI hl hk b stop s).2 := by
  unfold rdI at h ⊢
  dsimp only at h ⊢
  have wo := way_op h1 h2
  have wn := way_nt hb
  have w1 := rdN_was (most := hl) hr
  have r1 := w1.allR hr
  have w2 := rdN_was (most := some 4096) r1
  have r2 := w2.allR r1
  generalize hn : rdN (some 4096) (rdN hl s).2 = n at *
  have hd : (rdL (rdO hl hk) stop n.1.toNat n.2).2 ≠ none := fun e => by
    rw [e, rdN_none, rdL_none wn] at h
    exact absurd rfl h
  obtain ⟨w3, l3⟩ := rdL_was wo n.1.toNat r2 hd
  have r3 := w3.allR r2
  have w4 := rdN_was (most := some 256) r3
  have r4 := w4.allR r3
  generalize hm : rdN (some 256) (rdL (rdO hl hk) stop n.1.toNat n.2).2 = m at *
  have hm2 : m.2 ≠ none := fun e => by
    rw [e, rdL_none wn] at h
    exact absurd rfl h
  obtain ⟨w5, l5⟩ := rdL_was wn m.1.toNat r4 h
  have hnn : ((n.1.toNat : Nat) : Int) = n.1 := by
    rw [← hn]
    exact fits_nat (rdN_fits (by rw [hn]; exact some_of w3 hd))
  have hmm : ((m.1.toNat : Nat) : Int) = m.1 := by
    rw [← hm]
    exact fits_nat (rdN_fits (by rw [hm]; exact hm2))
  have w := ((w1.trans w2).trans w3).trans (w4.trans w5)
  have e2 : ifl ⟨(rdN hl s).1, (rdL (rdO hl hk) stop n.1.toNat n.2).1, (rdL (rdM b) stop m.1.toNat m.2).1⟩ = [numF (rdN hl s).1] ++ [numF n.1] ++ (rdL (rdO hl hk) stop n.1.toNat n.2).1.flatMap opF ++ ([numF m.1] ++ (rdL (rdM b) stop m.1.toNat m.2).1.flatMap ntF) := by
    unfold ifl opsF ntsF
    dsimp only
    rw [l3, l5, hnn, hmm]
    simp only [List.append_assoc, List.cons_append, List.nil_append]
  rw [e2]
  exact w
theorem rdI_fwd {hl hk : Option Int} {b : NB} (h1 : Wide hl) (h2 : Wide hk) (hb : b.Good) (stop : Bool) {x : It} (h : MayI x) : rdI hl hk b stop (some (ifl x)) = (x, some []) := by
  have k1 := h.lsn
  have k2 := h.ops
  have k3 := h.notes
  have e : ifl x = numF x.lsn :: numF x.ops.length :: (x.ops.flatMap opF ++ (numF x.notes.length :: (x.notes.flatMap ntF ++ []))) := by
    unfold ifl opsF ntsF
    simp
  rw [e]
  unfold rdI
  dsimp only
  rw [rdN_fwd _ (h1 _ (by omega) k1.2)]
  dsimp only
  rw [rdN_fwd _ (fits_of (by omega) (by omega))]
  dsimp only
  rw [Int.toNat_natCast, rdL_fwd (way_op h1 h2) stop fun o ho => opMay_ok k1.2 (h.op o ho)]
  dsimp only
  rw [rdN_fwd _ (fits_of (by omega) (by omega))]
  dsimp only
  rw [Int.toNat_natCast, rdL_fwd (way_nt hb) stop fun n hn => ntMay_ok k1.2 (h.nt n hn)]
/-- fields are read as an item just where they are its fields -/
theorem decF_some {hl hk : Option Int} {b : NB} {stop : Bool} (h1 : Wide hl) (h2 : Wide hk) (hb : b.Good) {fs : List Fld} {x : It} (hr : ∀ f ∈ fs, f.right = true) (h : decF hl hk b stop fs = some x) : may x = true ∧ ifl x = fs := by
  unfold decF at h
  split at h
  · rename_i hx
    injection h with h
    subst h
    unfold isI at hx
    rw [Bool.and_eq_true] at hx
    obtain ⟨g1, g2⟩ := hx
    have hs : (rdI hl hk b stop (some fs)).2 = some [] := by
      revert g1
      generalize (rdI hl hk b stop (some fs)).2 = s
      intro g1
      match s, g1 with
      | some [], _ => rfl
    have w := rdI_was (stop := stop) h1 h2 hb (s := some fs) (fun l e => by injection e with e; subst e; exact hr) (by rw [hs]; simp)
    have := w [] hs
    rw [List.append_nil] at this
    exact ⟨g2, (Option.some.inj this).symm⟩
  · cases h
theorem decF_fwd {hl hk : Option Int} {b : NB} (h1 : Wide hl) (h2 : Wide hk) (hb : b.Good) (stop : Bool) {x : It} (h : may x = true) : decF hl hk b stop (ifl x) = some x := by
  unfold decF
  rw [rdI_fwd h1 h2 hb stop (may_iff.1 h)]
  have : isI x (some []) = true := by unfold isI; simp [h]
  rw [if_pos this]
/-- how great a number is need not be looked at on the way -/
theorem decF_same {hl hk hl' hk' : Option Int} {b b' : NB} {stop stop' : Bool} (h1 : Wide hl) (h2 : Wide hk) (hb : b.Good) (h1' : Wide hl') (h2' : Wide hk') (hb' : b'.Good) {fs : List Fld} (hr : ∀ f ∈ fs, f.right = true) : decF hl hk b stop fs = decF hl' hk' b' stop' fs := by
  cases h : decF hl hk b stop fs with
  | some x =>
    obtain ⟨g1, rfl⟩ := decF_some h1 h2 hb hr h
    rw [decF_fwd h1' h2' hb' stop' g1]
  | none =>
    cases g : decF hl' hk' b' stop' fs with
    | none => rfl
    | some x =>
      obtain ⟨g1, rfl⟩ := decF_some h1' h2' hb' hr g
      rw [decF_fwd h1 h2 hb stop g1] at h
      cases h
/-- the document's bounds -/
def refB : NB := ⟨some 2, some 64, some 8, some 8, some 1099511627776, some 1099511627776⟩
theorem refB_good : refB.Good := ⟨covers_some (by omega), covers_some (by omega), covers_some (by omega), covers_some (by omega), covers_some (by omega), covers_some (by omega)⟩
/-- what Decode answers: the item, or what is wrong -/
def decI (b : List UInt8) : Except Nat It := match dec b with
  | .error e => .error e
  | .ok fs => match decF (some 1099511627776) (some 1099511627776) refB true fs with
    | none => .error 3
    | some x => .ok x
theorem decI_any {hl hk : Option Int} {nb : NB} (stop : Bool) (h1 : Wide hl) (h2 : Wide hk) (hb : nb.Good) (b : List UInt8) : decI b = match dec b with
  | .error e => .error e
  | .ok fs => match decF hl hk nb stop fs with
    | none => .error 3
    | some x => .ok x := by
  unfold decI
  cases h : dec b with
  | error e => rfl
  | ok fs =>
    dsimp only
    rw [decF_same (stop := true) (stop' := stop) wide_max wide_max refB_good h1 h2 hb fun f hf => ((dec_ok h).2.1 f hf).1]
theorem decI_ok {b : List UInt8} {x : It} (h : decI b = .ok x) : may x = true ∧ encZ (ifl x) = b := by
  unfold decI at h
  cases hd : dec b with
  | error e => rw [hd] at h; cases h
  | ok fs =>
    rw [hd] at h
    dsimp only at h
    have hr := (dec_ok hd).2.1
    cases hx : decF (some 1099511627776) (some 1099511627776) refB true fs with
    | none => rw [hx] at h; cases h
    | some u =>
      rw [hx] at h
      injection h with h
      subst h
      obtain ⟨h1, rfl⟩ := decF_some wide_max wide_max refB_good (fun f hf => (hr f hf).1) hx
      have h2 := (dec_ok hd).1
      rw [enc_ifl h1] at h2
      injection h2 with h2
      exact ⟨h1, h2⟩
theorem decI_enc {x : It} (h : may x = true) : decI (encZ (ifl x)) = .ok x := by
  have hm := may_iff.1 h
  unfold decI
  rw [dec_enc (ifl_few hm) (ifl_right hm)]
  dsimp only
  rw [decF_fwd wide_max wide_max refB_good true h]
theorem decI_more {x : It} (h : may x = true) (y : UInt8) : decI (encZ (ifl x) ++ [y]) = .error 3 := by
  have hm := may_iff.1 h
  unfold decI
  rw [dec_enc_more (ifl_few hm) (ifl_right hm), if_pos (by simp)]
theorem decI_cut {x : It} (h : may x = true) {k : Nat} (hk : k < (encZ (ifl x)).length) : decI ((encZ (ifl x)).take k) = .error 2 := by
  have hm := may_iff.1 h
  unfold decI
  rw [dec_cut (ifl_few hm) (ifl_right hm) hk]

/-! ### joined -/
def allOps (l : List It) : List Gp := l.flatMap (·.ops)
def allNotes (l : List It) : List Nt := l.flatMap (·.notes)
def lastLsn : Int → List It → Int
  | a, [] => a
  | _, x :: r => lastLsn x.lsn r
def rising : Int → List It → Bool
  | _, [] => true
  | a, x :: r => decide (a < x.lsn) && rising x.lsn r
def allMay (l : List It) : Bool := l.all may
def join (l : List It) : Except Nat It :=
  if l.isEmpty || !allMay l || decide (4096 < (allOps l).length) || decide (256 < (allNotes l).length) then .error 1
  else if rising 0 l then .ok ⟨lastLsn 0 l, allOps l, allNotes l⟩ else .error 10
theorem allOps_snoc (l : List It) (x : It) : allOps (l ++ [x]) = allOps l ++ x.ops := by unfold allOps; rw [List.flatMap_append]; simp
theorem allNotes_snoc (l : List It) (x : It) : allNotes (l ++ [x]) = allNotes l ++ x.notes := by unfold allNotes; rw [List.flatMap_append]; simp
theorem allOps_append (l m : List It) : allOps (l ++ m) = allOps l ++ allOps m := List.flatMap_append
theorem allNotes_append (l m : List It) : allNotes (l ++ m) = allNotes l ++ allNotes m := List.flatMap_append
theorem lastLsn_append (a : Int) (l m : List It) : lastLsn a (l ++ m) = lastLsn (lastLsn a l) m := by
  induction l generalizing a with
  | nil => rfl
  | cons x r ih => exact ih x.lsn
theorem lastLsn_snoc (a : Int) (l : List It) (x : It) : lastLsn a (l ++ [x]) = x.lsn := by rw [lastLsn_append]; rfl
theorem rising_append (a : Int) (l m : List It) : rising a (l ++ m) = (rising a l && rising (lastLsn a l) m) := by
  induction l generalizing a with
  | nil => rw [show rising a ([] ++ m) = rising a m from rfl]; simp [rising, lastLsn]
  | cons x r ih =>
    show (decide (a < x.lsn) && rising x.lsn (r ++ m)) = ((decide (a < x.lsn) && rising x.lsn r) && rising (lastLsn x.lsn r) m)
    rw [ih, Bool.and_assoc]
theorem rising_snoc (a : Int) (l : List It) (x : It) : rising a (l ++ [x]) = (rising a l && decide (lastLsn a l < x.lsn)) := by rw [rising_append]; simp [rising]
theorem allMay_snoc (l : List It) (x : It) : allMay (l ++ [x]) = (allMay l && may x) := by unfold allMay; rw [List.all_append]; simp
theorem allMay_append (l m : List It) : allMay (l ++ m) = (allMay l && allMay m) := List.all_append
theorem lastLsn_mem {a : Int} {l : List It} (hl : l ≠ []) : ∃ x ∈ l, lastLsn a l = x.lsn := by
  induction l generalizing a with
  | nil => exact absurd rfl hl
  | cons x r ih =>
    cases r with
    | nil => exact ⟨x, List.mem_cons_self, rfl⟩
    | cons y r =>
      obtain ⟨z, hz, e⟩ := ih (a := x.lsn) (by simp)
      exact ⟨z, List.mem_cons_of_mem _ hz, e⟩
theorem rising_le {a : Int} {l : List It} (h : rising a l = true) : a ≤ lastLsn a l ∧ ∀ x ∈ l, x.lsn ≤ lastLsn a l := by
  induction l generalizing a with
  | nil => exact ⟨Int.le_refl _, fun x hx => by cases hx⟩
  | cons x r ih =>
    unfold rising at h
    rw [Bool.and_eq_true, decide_eq_true_eq] at h
    obtain ⟨h1, h2⟩ := ih h.2
    show a ≤ lastLsn x.lsn r ∧ _
    refine ⟨by omega, fun y hy => ?_⟩
    rcases List.mem_cons.1 hy with rfl | hy
    · exact h1
    · exact h2 y hy
structure Joined (l : List It) : Prop where
  some_ : l ≠ []
  may : ∀ x ∈ l, MayI x
  ops : (allOps l).length ≤ 4096
  notes : (allNotes l).length ≤ 256
  rise : rising 0 l = true
theorem join_iff {l : List It} {x : It} : join l = .ok x ↔ Joined l ∧ x = ⟨lastLsn 0 l, allOps l, allNotes l⟩ := by
  unfold join
  constructor
  · intro h
    split at h
    · cases h
    · rename_i hn
      split at h
      · rename_i hr
        injection h with h
        simp only [Bool.or_eq_true, Bool.not_eq_true', decide_eq_true_eq, not_or, List.isEmpty_iff] at hn
        obtain ⟨⟨⟨h1, h2⟩, h3⟩, h4⟩ := hn
        have h2 : allMay l = true := by simpa using h2
        refine ⟨⟨h1, fun y hy => may_iff.1 (List.all_eq_true.1 h2 y hy), by omega, by omega, hr⟩, h.symm⟩
      · cases h
  · rintro ⟨⟨h1, h2, h3, h4, h5⟩, rfl⟩
    have h6 : allMay l = true := List.all_eq_true.2 fun y hy => may_iff.2 (h2 y hy)
    rw [if_neg, if_pos h5]
    simp only [Bool.or_eq_true, Bool.not_eq_true', decide_eq_true_eq, not_or, List.isEmpty_iff]
    exact ⟨⟨⟨h1, by rw [h6]; simp⟩, by omega⟩, by omega⟩
/-- what is joined may be -/
theorem join_may {l : List It} {x : It} (h : join l = .ok x) : may x = true := by
  obtain ⟨hj, rfl⟩ := join_iff.1 h
  obtain ⟨hr1, hr2⟩ := rising_le hj.rise
  obtain ⟨z, hz, e⟩ := lastLsn_mem (a := 0) hj.some_
  have hzl := (hj.may z hz).lsn
  refine may_iff.2 ⟨by show 1 ≤ lastLsn 0 l ∧ lastLsn 0 l ≤ _; rw [e]; exact hzl, hj.ops, hj.notes, fun o ho => ?_, fun n hn => ?_⟩
  · obtain ⟨y, hy, ho⟩ := List.mem_flatMap.1 ho
    exact opMay_up (hr2 y hy) ((hj.may y hy).op o ho)
  · obtain ⟨y, hy, hn⟩ := List.mem_flatMap.1 hn
    exact ntMay_up (hr2 y hy) ((hj.may y hy).nt n hn)
/-- piece by piece, as all at once -/
theorem join_parts {l m : List It} (hl : l ≠ []) (hm : m ≠ []) {x : It} (h : join (l ++ m) = .ok x) : ∃ a b, join l = .ok a ∧ join m = .ok b ∧ join [a, b] = .ok x := by
  obtain ⟨hj, rfl⟩ := join_iff.1 h
  have ho := hj.ops
  have hn := hj.notes
  have hr := hj.rise
  rw [allOps_append, List.length_append] at ho
  rw [allNotes_append, List.length_append] at hn
  rw [rising_append, Bool.and_eq_true] at hr
  have j1 : Joined l := ⟨hl, fun y hy => hj.may y (List.mem_append_left _ hy), by omega, by omega, hr.1⟩
  have hrm : rising 0 m = true := by
    cases m with
    | nil => exact absurd rfl hm
    | cons y r =>
      have h2 := hr.2
      unfold rising at h2 ⊢
      rw [Bool.and_eq_true, decide_eq_true_eq] at h2 ⊢
      have := (hj.may y (List.mem_append_right _ List.mem_cons_self)).lsn
      exact ⟨by omega, h2.2⟩
  have j2 : Joined m := ⟨hm, fun y hy => hj.may y (List.mem_append_right _ hy), by omega, by omega, hrm⟩
  have e1 := join_iff.2 ⟨j1, rfl⟩
  have e2 := join_iff.2 ⟨j2, rfl⟩
  refine ⟨_, _, e1, e2, ?_⟩
  have m1 := may_iff.1 (join_may e1)
  have m2 := may_iff.1 (join_may e2)
  have hlm : lastLsn 0 l < lastLsn 0 m := by
    cases m with
    | nil => exact absurd rfl hm
    | cons y r =>
      have h2 := hr.2
      unfold rising at h2
      rw [Bool.and_eq_true, decide_eq_true_eq] at h2
      have := (rising_le h2.2).1
      show lastLsn 0 l < lastLsn y.lsn r
      omega
  refine join_iff.2 ⟨⟨by simp, ?_, ?_, ?_, ?_⟩, ?_⟩
  · intro y hy
    simp only [List.mem_cons, List.not_mem_nil, or_false] at hy
    rcases hy with rfl | rfl
    · exact m1
    · exact m2
  · show (allOps l ++ (allOps m ++ [])).length ≤ 4096
    rw [List.length_append, List.length_append]
    simp
    omega
  · show (allNotes l ++ (allNotes m ++ [])).length ≤ 256
    rw [List.length_append, List.length_append]
    simp
    omega
  · show (decide (0 < lastLsn 0 l) && (decide (lastLsn 0 l < lastLsn 0 m) && true)) = true
    have := m1.lsn.1
    have h0 : 0 < lastLsn 0 l := by
      have : 1 ≤ lastLsn 0 l := this
      omega
    simp [h0, hlm]
  · show (⟨lastLsn 0 (l ++ m), allOps (l ++ m), allNotes (l ++ m)⟩ : It) = ⟨lastLsn 0 m, allOps l ++ (allOps m ++ []), allNotes l ++ (allNotes m ++ [])⟩
    have e3 : lastLsn 0 (l ++ m) = lastLsn 0 m := by
      rw [lastLsn_append]
      cases m with
      | nil => exact absurd rfl hm
      | cons y r => rfl
    rw [e3, allOps_append, allNotes_append, List.append_nil, List.append_nil]
end Go.Proofs.Ytlkjmdkmcaaihaa.BatchMath
