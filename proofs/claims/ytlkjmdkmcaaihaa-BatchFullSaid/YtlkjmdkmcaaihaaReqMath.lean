/-
  Requests, plain: which may be, one more, a chunk, those that are not done. No program's numbers, no condition.
-/
import Derived.WalkKit
namespace Go.Proofs.Ytlkjmdkmcaaihaa.ReqMath
set_option linter.unusedVariables false
set_option linter.unusedSimpArgs false

structure Rq where
  id : Int
  tbl : Int
  wt : Int
  at_ : Int
  cur : Int
  chs : Int
  done : Bool
def noRq : Rq := ⟨0, 0, 0, 0, 0, 0, false⟩
instance : Inhabited Rq := ⟨noRq⟩

def inb (r : Rq) : Bool := decide (0 ≤ r.tbl) && decide (r.tbl < 8) && decide (1 ≤ r.wt) && decide (r.wt ≤ 8) && decide (1 ≤ r.at_) && decide (r.at_ ≤ 1099511627776) && decide (0 ≤ r.cur) && decide (r.cur ≤ 1099511627776) && decide (0 ≤ r.chs) && decide (r.chs ≤ 1099511627776)
def waits (l : List Rq) (t : Int) : Bool := l.any fun r => r.tbl == t && !r.done
def lastAt (l : List Rq) : Int := match l.getLast? with
  | none => 0
  | some r => r.at_
def takes (l : List Rq) (r : Rq) : Bool := decide (l.length < 64) && decide (r.id = l.length + 1) && inb r && decide (lastAt l ≤ r.at_) && !waits l r.tbl
def mayAt (l : List Rq) (i : Nat) : Bool := match l[i]? with
  | none => true
  | some r => takes (l.take i) r
def may (l : List Rq) : Bool := (List.range l.length).all (mayAt l)

theorem may_iff {l : List Rq} : may l = true ↔ ∀ i r, l[i]? = some r → takes (l.take i) r = true := by
  unfold may
  rw [List.all_eq_true]
  constructor
  · intro h i r hr
    have hi : i < l.length := (List.getElem?_eq_some_iff.1 hr).1
    have := h i (List.mem_range.2 hi)
    unfold mayAt at this
    rw [hr] at this
    exact this
  · intro h i hi
    unfold mayAt
    have hl := List.mem_range.1 hi
    rw [List.getElem?_eq_getElem hl]
    exact h i _ (List.getElem?_eq_getElem hl)
theorem may_at {l : List Rq} (h : may l = true) {i : Nat} {r : Rq} (hr : l[i]? = some r) : takes (l.take i) r = true := may_iff.1 h i r hr
theorem may_no {l : List Rq} {i : Nat} {r : Rq} (hr : l[i]? = some r) (h : takes (l.take i) r = false) : may l = false := by
  cases hm : may l with
  | false => rfl
  | true => rw [may_at hm hr] at h; cases h
theorem may_nil : may [] = true := rfl
theorem may_snoc (l : List Rq) (r : Rq) : may (l ++ [r]) = (may l && takes l r) := by
  rw [Bool.eq_iff_iff, Bool.and_eq_true, may_iff, may_iff]
  constructor
  · intro h
    refine ⟨fun i x hx => ?_, ?_⟩
    · have hi : i < l.length := (List.getElem?_eq_some_iff.1 hx).1
      have := h i x (by rw [List.getElem?_append_left hi]; exact hx)
      rwa [List.take_append_of_le_length (by omega)] at this
    · have := h l.length r (by simp)
      rwa [List.take_left' rfl] at this
  · rintro ⟨h1, h2⟩ i x hx
    have hi : i < l.length + 1 := by simpa using (List.getElem?_eq_some_iff.1 hx).1
    by_cases hl : i < l.length
    · rw [List.getElem?_append_left hl] at hx
      rw [List.take_append_of_le_length (by omega)]
      exact h1 i x hx
    · obtain rfl : i = l.length := by omega
      simp at hx
      subst hx
      rwa [List.take_left' rfl]
theorem takes_parts {l : List Rq} {r : Rq} (h : takes l r = true) : l.length < 64 ∧ r.id = l.length + 1 ∧ inb r = true ∧ lastAt l ≤ r.at_ ∧ waits l r.tbl = false := by
  unfold takes at h
  simp only [Bool.and_eq_true, decide_eq_true_eq, Bool.not_eq_true'] at h
  obtain ⟨⟨⟨⟨h1, h2⟩, h3⟩, h4⟩, h5⟩ := h
  exact ⟨h1, h2, h3, h4, h5⟩
theorem takes_mk {l : List Rq} {r : Rq} (h1 : l.length < 64) (h2 : r.id = l.length + 1) (h3 : inb r = true) (h4 : lastAt l ≤ r.at_) (h5 : waits l r.tbl = false) : takes l r = true := by
  unfold takes
  simp [h1, h2, h3, h4, h5]
theorem inb_parts {r : Rq} (h : inb r = true) : 0 ≤ r.tbl ∧ r.tbl < 8 ∧ 1 ≤ r.wt ∧ r.wt ≤ 8 ∧ 1 ≤ r.at_ ∧ r.at_ ≤ 1099511627776 ∧ 0 ≤ r.cur ∧ r.cur ≤ 1099511627776 ∧ 0 ≤ r.chs ∧ r.chs ≤ 1099511627776 := by
  unfold inb at h
  simp only [Bool.and_eq_true, decide_eq_true_eq] at h
  omega
theorem inb_mk {r : Rq} (h : 0 ≤ r.tbl ∧ r.tbl < 8 ∧ 1 ≤ r.wt ∧ r.wt ≤ 8 ∧ 1 ≤ r.at_ ∧ r.at_ ≤ 1099511627776 ∧ 0 ≤ r.cur ∧ r.cur ≤ 1099511627776 ∧ 0 ≤ r.chs ∧ r.chs ≤ 1099511627776) : inb r = true := by
  unfold inb
  simp only [Bool.and_eq_true, decide_eq_true_eq]
  omega
theorem may_len {l : List Rq} (h : may l = true) : l.length ≤ 64 := by
  rcases List.eq_nil_or_concat l with rfl | ⟨m, r, rfl⟩
  · simp
  · rw [List.concat_eq_append] at h ⊢
    rw [may_snoc, Bool.and_eq_true] at h
    have := (takes_parts h.2).1
    simp
    omega
theorem may_in {l : List Rq} (h : may l = true) {i : Nat} {r : Rq} (hr : l[i]? = some r) : r.id = i + 1 ∧ inb r = true := by
  obtain ⟨_, h2, h3, _⟩ := takes_parts (may_at h hr)
  have hi : i < l.length := (List.getElem?_eq_some_iff.1 hr).1
  rw [List.length_take, Nat.min_eq_left (by omega)] at h2
  exact ⟨h2, h3⟩
theorem lastAt_take {l : List Rq} {i : Nat} {r : Rq} (h : l[i]? = some r) : lastAt (l.take (i + 1)) = r.at_ := by
  have hi : i < l.length := (List.getElem?_eq_some_iff.1 h).1
  unfold lastAt
  rw [List.getLast?_take]
  simp [h]
theorem lastAt_nil : lastAt [] = 0 := rfl
theorem lastAt_last {l : List Rq} {n : Nat} {r : Rq} (hn : l.length = n + 1) (h : l[n]? = some r) : lastAt l = r.at_ := by
  have := lastAt_take h
  rwa [List.take_of_length_le (by omega)] at this
theorem waits_snoc (l : List Rq) (r : Rq) (t : Int) : waits (l ++ [r]) t = (waits l t || (r.tbl == t && !r.done)) := by
  unfold waits
  rw [List.any_append]
  simp
theorem waits_yes {l : List Rq} {i : Nat} {r : Rq} {t : Int} (hr : l[i]? = some r) (h : (r.tbl == t && !r.done) = true) : waits l t = true := by
  unfold waits
  exact List.any_eq_true.2 ⟨r, List.mem_of_getElem? hr, h⟩

/-- one more -/
def fresh (l : List Rq) (t k a : Int) : Rq := ⟨l.length + 1, t, k, a, 0, 0, false⟩
def accept (l : List Rq) (t k a : Int) : Option (List Rq) := if may l && takes l (fresh l t k a) then some (l ++ [fresh l t k a]) else none
def goesOn (r : Rq) (c : Int) : Bool := !r.done && decide (r.cur ≤ c) && decide (c ≤ 1099511627776) && decide (r.chs < 1099511627776)
/-- r with one more chunk -/
def more (r : Rq) (c : Int) (d : Bool) : Rq := ⟨r.id, r.tbl, r.wt, r.at_, c, r.chs + 1, d⟩
def got (l : List Rq) (i : Int) : Option Rq := if 1 ≤ i ∧ i ≤ l.length then l[(i - 1).toNat]? else none
def chunk (l : List Rq) (i c : Int) (d : Bool) : Option (List Rq) := match got l i with
  | none => none
  | some r => if may l && goesOn r c then some (l.set (i - 1).toNat (more r c d)) else none
def opens (l : List Rq) : List Rq := l.filter fun r => !r.done

theorem accept_may (l : List Rq) (t k a : Int) : (may l && takes l (fresh l t k a)) = (may l && may (l ++ [fresh l t k a])) := by
  rw [may_snoc]
  cases may l <;> simp
theorem got_some {l : List Rq} {i : Int} {k : Nat} {r : Rq} (hi : i = k + 1) (hr : l[k]? = some r) : got l i = some r := by
  subst hi
  have hk : k < l.length := (List.getElem?_eq_some_iff.1 hr).1
  unfold got
  rw [if_pos (by omega)]
  rw [show ((k : Int) + 1 - 1).toNat = k by omega]
  exact hr
theorem got_none {l : List Rq} {i : Int} (h : i < 1 ∨ l.length < i) : got l i = none := by
  unfold got
  rw [if_neg (by omega)]
theorem chunk_none {l : List Rq} {i : Int} {c : Int} {d : Bool} (h : got l i = none) : chunk l i c d = none := by unfold chunk; rw [h]
theorem chunk_some {l : List Rq} {i : Int} {c : Int} {d : Bool} {r : Rq} (h : got l i = some r) : chunk l i c d = if may l && goesOn r c then some (l.set (i - 1).toNat (more r c d)) else none := by unfold chunk; rw [h]
theorem chunk_nomay {l : List Rq} {i : Int} {c : Int} {d : Bool} (h : may l = false) : chunk l i c d = none := by
  unfold chunk
  split
  · rfl
  · rw [h, Bool.false_and, if_neg (by simp)]
theorem goesOn_no {r : Rq} {c : Int} (h : r.done = true ∨ c < r.cur ∨ 1099511627776 < c ∨ 1099511627776 ≤ r.chs) : goesOn r c = false := by
  cases hg : goesOn r c with
  | false => rfl
  | true =>
    unfold goesOn at hg
    simp only [Bool.and_eq_true, decide_eq_true_eq, Bool.not_eq_true'] at hg
    rcases h with h | h | h | h
    · rw [hg.1.1.1] at h; cases h
    · omega
    · omega
    · omega
theorem goesOn_yes {r : Rq} {c : Int} (h1 : r.done = false) (h2 : r.cur ≤ c) (h3 : c ≤ 1099511627776) (h4 : r.chs < 1099511627776) : goesOn r c = true := by
  unfold goesOn
  simp [h1, h2, h3, h4]
theorem goesOn_parts {r : Rq} {c : Int} (h : goesOn r c = true) : r.done = false ∧ r.cur ≤ c ∧ c ≤ 1099511627776 ∧ r.chs < 1099511627776 := by
  unfold goesOn at h
  simp only [Bool.and_eq_true, decide_eq_true_eq, Bool.not_eq_true'] at h
  exact ⟨h.1.1.1, h.1.1.2, h.1.2, h.2⟩

theorem getLast_set {l : List Rq} {i : Nat} {r y : Rq} (h : l[i]? = some r) (hy : y.at_ = r.at_) : lastAt (l.set i y) = lastAt l := by
  have hi : i < l.length := (List.getElem?_eq_some_iff.1 h).1
  unfold lastAt
  rw [List.getLast?_eq_getElem?, List.getLast?_eq_getElem?, List.length_set]
  by_cases he : l.length - 1 = i
  · rw [he, h, List.getElem?_set_self hi]
    exact hy
  · rw [List.getElem?_set_ne (by omega)]
theorem waits_set {l : List Rq} {i : Nat} {r y : Rq} {t : Int} (h : l[i]? = some r) (hy : y.tbl = r.tbl) (hd : r.done = false) (hw : waits l t = false) : waits (l.set i y) t = false := by
  cases hx : waits (l.set i y) t with
  | false => rfl
  | true =>
    unfold waits at hx
    obtain ⟨x, hx1, hx2⟩ := List.any_eq_true.1 hx
    obtain ⟨k, hk⟩ := List.mem_iff_getElem?.1 hx1
    by_cases hki : i = k
    · subst hki
      have hi : i < l.length := (List.getElem?_eq_some_iff.1 h).1
      rw [List.getElem?_set_self hi] at hk
      injection hk with hk
      subst hk
      have : waits l t = true := waits_yes h (by rw [Bool.and_eq_true] at hx2 ⊢; rw [← hy]; exact ⟨hx2.1, by rw [hd]; rfl⟩)
      rw [this] at hw
      cases hw
    · rw [List.getElem?_set_ne hki] at hk
      have : waits l t = true := waits_yes hk hx2
      rw [this] at hw
      cases hw
theorem may_set {l : List Rq} {i : Nat} {r : Rq} {c : Int} {d : Bool} (hm : may l = true) (hr : l[i]? = some r) (hg : goesOn r c = true) : may (l.set i (more r c d)) = true := by
  obtain ⟨g1, g2, g3, g4⟩ := goesOn_parts hg
  have hi : i < l.length := (List.getElem?_eq_some_iff.1 hr).1
  rw [may_iff]
  intro k x hx
  have hk : k < l.length := by have := (List.getElem?_eq_some_iff.1 hx).1; rwa [List.length_set] at this
  by_cases hik : i = k
  · subst hik
    rw [List.getElem?_set_self hi] at hx
    injection hx with hx
    subst hx
    obtain ⟨t1, t2, t3, t4, t5⟩ := takes_parts (may_at hm hr)
    have hb := inb_parts t3
    rw [List.take_set_of_le (Nat.le_refl _)]
    exact takes_mk t1 t2 (inb_mk ⟨hb.1, hb.2.1, hb.2.2.1, hb.2.2.2.1, hb.2.2.2.2.1, hb.2.2.2.2.2.1, by have := hb.2.2.2.2.2.2.1; show 0 ≤ c; omega, g3, by have := hb.2.2.2.2.2.2.2.2.1; show 0 ≤ r.chs + 1; omega, by show r.chs + 1 ≤ _; omega⟩) t4 t5
  · rw [List.getElem?_set_ne hik] at hx
    obtain ⟨t1, t2, t3, t4, t5⟩ := takes_parts (may_at hm hx)
    by_cases hlt : i < k
    · rw [List.take_set]
      have hrk : (l.take k)[i]? = some r := by rw [List.getElem?_take_of_lt hlt]; exact hr
      exact takes_mk (by rw [List.length_set]; exact t1) (by rw [List.length_set]; exact t2) t3 (by rw [getLast_set (y := more r c d) hrk rfl]; exact t4) (waits_set hrk rfl g1 t5)
    · rw [List.take_set_of_le (by omega)]
      exact takes_mk t1 t2 t3 t4 t5
theorem may_accept {l m : List Rq} {t k a : Int} (h : accept l t k a = some m) : may m = true ∧ may l = true ∧ m = l ++ [fresh l t k a] := by
  unfold accept at h
  split at h
  · rename_i hc
    injection h with h
    rw [Bool.and_eq_true] at hc
    refine ⟨?_, hc.1, h.symm⟩
    rw [← h, may_snoc, hc.1, hc.2]
    rfl
  · cases h
theorem may_chunk {l m : List Rq} {i c : Int} {d : Bool} (h : chunk l i c d = some m) : may m = true ∧ may l = true ∧ ∃ (k : Nat) (r : Rq), i = k + 1 ∧ l[k]? = some r ∧ r.done = false ∧ m = l.set k (more r c d) := by
  unfold chunk at h
  split at h
  · cases h
  · rename_i r hr
    split at h
    · rename_i hc
      rw [Bool.and_eq_true] at hc
      injection h with h
      unfold got at hr
      split at hr
      · rename_i hb
        refine ⟨?_, hc.1, (i - 1).toNat, r, by omega, hr, (goesOn_parts hc.2).1, h.symm⟩
        rw [← h]
        exact may_set hc.1 hr hc.2
      · cases hr
    · cases h
theorem len_accept {l m : List Rq} {t k a : Int} (h : accept l t k a = some m) : m.length = l.length + 1 := by rw [(may_accept h).2.2, List.length_append]; rfl
theorem len_chunk {l m : List Rq} {i c : Int} {d : Bool} (h : chunk l i c d = some m) : m.length = l.length := by
  obtain ⟨_, _, k, r, _, _, _, rfl⟩ := may_chunk h
  rw [List.length_set]
theorem opens_snoc (l : List Rq) (r : Rq) : opens (l ++ [r]) = opens l ++ (if r.done then [] else [r]) := by
  unfold opens
  rw [List.filter_append]
  cases h : r.done <;> simp [h]
theorem opens_len (l : List Rq) : (opens l).length ≤ l.length := List.length_filter_le _ _
end Go.Proofs.Ytlkjmdkmcaaihaa.ReqMath
