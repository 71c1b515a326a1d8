/-
  Plain mathematics of folding (P11.1, P11.2), of no program: what the changes of the first transactions come to, table by table; a key's value; that the rows that are there are just those that keys have values of; one transaction more; how the rows of a table lie by their keys.
-/
import Derived.Test.YtlgdbpejefgeaaaIdxMath
import Derived.Test.YtlgdbpejefgeaaaTxnMath
namespace Go.Proofs.Ytlgdbpejefgeaaa.FoldMath
set_option linter.unusedVariables false
set_option linter.unusedSimpArgs false
open IdxMath TxnMath

/-- what one change does to its table's rows -/
def step (r : List Rw) (c : Ch) : List Rw := if c.gone then del r c.key else put r c.key c.val
/-- .. to the rows of table t -/
def stepT (t : Int) (r : List Rw) (c : Ch) : List Rw := if c.tbl = t then step r c else r
/-- what changes come to, in table t -/
def rows (t : Int) (cs : List Ch) : List Rw := cs.foldl (stepT t) []
/-- the changes of the first k transactions -/
def chs (l : List Tx) (k : Nat) : List Ch := (l.take k).flatMap (·.chs)
/-- a number held from 0 to n -/
def held (k : Int) (n : Nat) : Nat := min k.toNat n
/-- what Fold answers -/
def foldT (n : Int) (l : List Tx) (k : Int) : List (List Rw) := if 1 ≤ n ∧ n ≤ 8 then (List.range n.toNat).map fun (t : Nat) => rows (t : Int) (chs l (held k l.length)) else []
def valStep (t key : Int) (v : Option ByteArray) (c : Ch) : Option ByteArray := if c.tbl = t ∧ c.key = key then (if c.gone then none else some c.val) else v
/-- a key's value behind changes -/
def value (t key : Int) (cs : List Ch) : Option ByteArray := cs.foldl (valStep t key) none
/-- is there a place from a to b behind which it has that value? -/
def between (l : List Tx) (a b : Int) (t key : Int) (v : ByteArray) : Bool :=
  (List.range (held b l.length + 1)).any fun k => decide (held a l.length ≤ k) && decide (value t key (chs l k) = some v)

theorem held_le (k : Int) (n : Nat) : held k n ≤ n := Nat.min_le_right _ _
theorem held_nat {k n : Nat} (h : k ≤ n) : held (k : Int) n = k := by unfold held; omega
theorem held_neg {k : Int} (n : Nat) (h : k ≤ 0) : held k n = 0 := by unfold held; omega
theorem rows_snoc (t : Int) (cs : List Ch) (c : Ch) : rows t (cs ++ [c]) = stepT t (rows t cs) c := by unfold rows; rw [List.foldl_append]; rfl
theorem rows_app (t : Int) (cs ds : List Ch) : rows t (cs ++ ds) = ds.foldl (stepT t) (rows t cs) := by unfold rows; rw [List.foldl_append]
theorem value_snoc (t key : Int) (cs : List Ch) (c : Ch) : value t key (cs ++ [c]) = valStep t key (value t key cs) c := by unfold value; rw [List.foldl_append]; rfl
theorem chs_zero (l : List Tx) : chs l 0 = [] := by simp [chs]
theorem chs_succ {l : List Tx} {k : Nat} {x : Tx} (h : l[k]? = some x) : chs l (k + 1) = chs l k ++ x.chs := by
  obtain ⟨hk, rfl⟩ := List.getElem?_eq_some_iff.1 h
  unfold chs
  rw [List.take_succ_eq_append_getElem hk, List.flatMap_append]
  simp
theorem step_rise {r : List Rw} (h : Rise r) (c : Ch) : Rise (step r c) := by
  unfold step
  split
  · exact h.del _
  · exact h.put _ _
theorem stepT_rise {r : List Rw} (h : Rise r) (t : Int) (c : Ch) : Rise (stepT t r c) := by
  unfold stepT
  split
  · exact step_rise h c
  · exact h
theorem foldl_rise {r : List Rw} (h : Rise r) (t : Int) (cs : List Ch) : Rise (cs.foldl (stepT t) r) := by
  induction cs generalizing r with
  | nil => exact h
  | cons c cs ih => exact ih (stepT_rise h t c)
theorem rows_rise (t : Int) (cs : List Ch) : Rise (rows t cs) := foldl_rise Rise.nil t cs
theorem step_length (r : List Rw) (c : Ch) : (step r c).length ≤ r.length + 1 := by
  unfold step
  split
  · exact Nat.le_succ_of_le (del_length _ _)
  · exact put_length_le _ _ _
theorem foldl_length (t : Int) (cs : List Ch) (r : List Rw) : (cs.foldl (stepT t) r).length ≤ r.length + cs.length := by
  induction cs generalizing r with
  | nil => simp
  | cons c cs ih =>
    have h1 := ih (stepT t r c)
    have h2 : (stepT t r c).length ≤ r.length + 1 := by
      unfold stepT
      split
      · exact step_length r c
      · omega
    rw [List.length_cons]
    show (cs.foldl (stepT t) (stepT t r c)).length ≤ _
    omega
theorem rows_length (t : Int) (cs : List Ch) : (rows t cs).length ≤ cs.length := by
  have := foldl_length t cs []
  simpa [rows] using this
theorem get_del {l : List Rw} (h : Rise l) (k k' : Int) : get (del l k) k' = if k = k' then none else get l k' := by
  rw [del_find h]
  induction l with
  | nil => simp [IdxMath.get]
  | cons x r ih =>
    have hr : Rise r := List.Pairwise.of_cons h
    have hx := fun z hz => List.rel_of_pairwise_cons h (a' := z) hz
    by_cases hk : x.key = k
    · rw [List.eraseP_cons_of_pos (by simpa using hk), get_cons]
      by_cases e : k = k'
      · rw [if_pos e, get_none (fun z hz => by have := hx z hz; omega)]
      · rw [if_neg e, if_neg (by omega)]
    · rw [List.eraseP_cons_of_neg (by simpa using hk), get_cons, get_cons, ih hr]
      by_cases e : k = k'
      · rw [if_pos e, if_pos e, if_neg (by omega)]
      · rw [if_neg e, if_neg e]
theorem get_step {r : List Rw} (h : Rise r) (c : Ch) (k : Int) : get (step r c) k = if c.key = k then (if c.gone then none else some c.val) else get r k := by
  unfold step
  split
  · rw [get_del h]
  · rw [get_put _ h]
/-- a key's value is what its row has -/
theorem get_rows (t : Int) (cs : List Ch) (k : Int) : get (rows t cs) k = value t k cs := by
  have key : ∀ (cs : List Ch) (r : List Rw) (v : Option ByteArray), Rise r → get r k = v → get (cs.foldl (stepT t) r) k = cs.foldl (valStep t k) v := by
    intro cs
    induction cs with
    | nil => exact fun r v _ h => h
    | cons c cs ih =>
      intro r v hr h
      refine ih _ _ (stepT_rise hr t c) ?_
      unfold stepT valStep
      by_cases h1 : c.tbl = t
      · rw [if_pos h1, get_step hr, h]
        by_cases h2 : c.key = k
        · simp [h1, h2]
        · simp [h1, h2]
      · rw [if_neg h1, if_neg (fun e => h1 e.1), h]
  exact key cs [] none Rise.nil rfl
theorem rows_mem {t : Int} {cs : List Ch} {x : Rw} (h : x ∈ rows t cs) : ∃ c ∈ cs, c.tbl = t ∧ c.key = x.key ∧ c.val = x.val ∧ c.gone = false := by
  have key : ∀ (cs : List Ch) (r : List Rw), x ∈ cs.foldl (stepT t) r → x ∈ r ∨ ∃ c ∈ cs, c.tbl = t ∧ c.key = x.key ∧ c.val = x.val ∧ c.gone = false := by
    intro cs
    induction cs with
    | nil => exact fun r h => .inl h
    | cons c cs ih =>
      intro r h
      rcases ih _ h with h1 | ⟨d, hd, h1⟩
      · unfold stepT at h1
        split at h1
        · next ht =>
          unfold step at h1
          split at h1
          · next hg =>
            refine .inl ?_
            unfold IdxMath.del at h1
            split at h1
            · exact List.mem_of_mem_eraseIdx h1
            · exact h1
          · next hg =>
            rcases put_mem h1 with rfl | h2
            · exact .inr ⟨c, List.mem_cons_self, ht, rfl, rfl, by simpa using hg⟩
            · exact .inl h2
        · exact .inl h1
      · exact .inr ⟨d, List.mem_cons_of_mem _ hd, h1⟩
  rcases key cs [] h with h1 | h1
  · cases h1
  · exact h1

/-! ### how a table's rows lie by their keys -/
/-- the row of a key that has a value stands at the key's place -/
theorem at_pos {l : List Rw} (h : Rise l) {k : Int} {v : ByteArray} (hv : get l k = some v) : l[pos l k]? = some ⟨k, v⟩ ∧ there l k = true := by
  rw [IdxMath.get_at h] at hv
  split at hv
  · next ht =>
    obtain ⟨x, hx, hk⟩ := pos_split l k ht
    rw [hx] at hv
    simp only [Option.map_some, Option.some.injEq] at hv
    obtain ⟨xk, xv⟩ := x
    dsimp only at hk hv
    subst hk hv
    exact ⟨hx, ht⟩
  · cases hv
theorem no_there {l : List Rw} (h : Rise l) {k : Int} (hv : get l k = none) : there l k = false := by
  cases ht : there l k with
  | false => rfl
  | true =>
    rw [IdxMath.get_at h, ht, if_pos rfl] at hv
    obtain ⟨x, hx, _⟩ := pos_split l k ht
    rw [hx] at hv
    cases hv
theorem pos_next {l : List Rw} (h : Rise l) (k : Int) : pos l (k + 1) = aft l k := by
  unfold aft
  induction l with
  | nil => rfl
  | cons x r ih =>
    have hr : Rise r := List.Pairwise.of_cons h
    have hx := fun z hz => List.rel_of_pairwise_cons h (a' := z) hz
    unfold pos there
    by_cases h1 : x.key < k
    · rw [if_pos (by omega), if_pos h1, if_pos h1, ih hr]
      by_cases ht : there r k = true
      · rw [if_pos ht, if_pos ht]
      · rw [if_neg ht, if_neg ht]
    · rw [if_neg h1, if_neg h1]
      by_cases h2 : x.key = k
      · rw [if_pos (by omega), decide_eq_true h2, if_pos rfl]
        have : pos r (k + 1) = 0 := by
          cases r with
          | nil => rfl
          | cons y s =>
            have := hx y List.mem_cons_self
            unfold pos
            rw [if_neg (by omega)]
        rw [this]
      · rw [if_neg (by omega), decide_eq_false h2]
        rfl
theorem pos_next_yes {l : List Rw} (h : Rise l) {k : Int} {v : ByteArray} (hv : get l k = some v) : pos l (k + 1) = pos l k + 1 := by
  rw [pos_next h, aft, (at_pos h hv).2]
  rfl
theorem pos_next_no {l : List Rw} (h : Rise l) {k : Int} (hv : get l k = none) : pos l (k + 1) = pos l k := by
  rw [pos_next h, aft, no_there h hv]
  rfl
theorem pos_low {l : List Rw} {k : Int} (h : ∀ x ∈ l, k ≤ x.key) : pos l k = 0 := by
  cases l with
  | nil => rfl
  | cons x r =>
    have := h x List.mem_cons_self
    unfold pos
    rw [if_neg (by omega)]
theorem pos_high {l : List Rw} (h : Rise l) {k : Int} {j : Nat} {x : Rw} (hj : pos l k ≤ j) (hx : l[j]? = some x) : k ≤ x.key := by
  induction l generalizing j with
  | nil => simp at hx
  | cons y r ih =>
    have hr : Rise r := List.Pairwise.of_cons h
    have hy := fun z hz => List.rel_of_pairwise_cons h (a' := z) hz
    unfold pos at hj
    split at hj
    · next h1 =>
      obtain ⟨j, rfl⟩ : ∃ i, j = i + 1 := ⟨j - 1, by omega⟩
      rw [List.getElem?_cons_succ] at hx
      exact ih hr (by omega) hx
    · next h1 =>
      cases j with
      | zero =>
        simp only [List.getElem?_cons_zero, Option.some.injEq] at hx
        subst hx
        omega
      | succ j =>
        rw [List.getElem?_cons_succ] at hx
        have := hy x (List.mem_of_getElem? hx)
        omega

/-! ### between -/
theorem between_yes {l : List Tx} {a b t key : Int} {v : ByteArray} {k : Nat} (h0 : held a l.length ≤ k) (h1 : k ≤ held b l.length) (hv : value t key (chs l k) = some v) : between l a b t key v = true := by
  unfold between
  rw [List.any_eq_true]
  exact ⟨k, List.mem_range.2 (by omega), by rw [decide_eq_true h0, decide_eq_true hv]; rfl⟩
theorem between_no {l : List Tx} {a b t key : Int} {v : ByteArray} (h : ∀ k, held a l.length ≤ k → k ≤ held b l.length → value t key (chs l k) ≠ some v) : between l a b t key v = false := by
  unfold between
  rw [List.any_eq_false]
  intro k hk
  have hk' := List.mem_range.1 hk
  by_cases h0 : held a l.length ≤ k
  · rw [decide_eq_false (h k h0 (by omega)), Bool.and_false]
    simp
  · rw [decide_eq_false h0]
    simp
theorem foldT_get {n : Int} {l : List Tx} {k : Int} (h1 : 1 ≤ n) (h8 : n ≤ 8) {i : Nat} (hi : i < n.toNat) : (foldT n l k)[i]? = some (rows (i : Int) (chs l (held k l.length))) := by
  unfold foldT
  rw [if_pos ⟨h1, h8⟩, List.getElem?_map, List.getElem?_range hi]
  rfl
theorem foldT_length {n : Int} {l : List Tx} {k : Int} : (foldT n l k).length = if 1 ≤ n ∧ n ≤ 8 then n.toNat else 0 := by
  unfold foldT
  split <;> simp
end Go.Proofs.Ytlgdbpejefgeaaa.FoldMath
