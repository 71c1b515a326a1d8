/-
  Plain mathematics of tables (of no program): lists of tables' rows, a table by its number, changes done.
-/
import Derived.Test.YtlgdbpejefgeaaaIdxMath
import Derived.Test.YtlgdbpejefgeaaaTxnMath
namespace Go.Proofs.Ytlgdbpejefgeaaa.Tbl
set_option linter.unusedVariables false
open IdxMath
set_option linter.ambiguousOpen false
set_option linter.unusedSimpArgs false

def isT (T : List (List Rw)) (t : Int) : Bool := decide (0 ≤ t ∧ t < (T.length : Int))
/-- the t-th table, none if there is none -/
def tab (T : List (List Rw)) (t : Int) : List Rw := if isT T t then (T[t.toNat]?).getD [] else []
def Short (T : List (List Rw)) : Prop := ∀ l ∈ T, l.length ≤ 1099511627774
theorem tab_get {T : List (List Rw)} {i : Nat} {l : List Rw} (hi : i < T.length) (h : T[i]? = some l) : tab T (i : Int) = l := by
  unfold tab
  rw [show isT T (i : Int) = true from decide_eq_true (by omega), if_pos rfl, Int.toNat_natCast, h]
  rfl
theorem tab_none {T : List (List Rw)} {t : Int} (h : isT T t = false) : tab T t = [] := by
  unfold tab
  rw [h]
  rfl
theorem isT_nat {T : List (List Rw)} {t : Int} (h : isT T t = true) : ∃ i : Nat, t = (i : Int) ∧ i < T.length := by
  have := of_decide_eq_true h
  obtain ⟨i, rfl⟩ := Int.eq_ofNat_of_zero_le this.1
  exact ⟨i, rfl, by omega⟩

abbrev Cg := TxnMath.Ch
/-- what one change makes of a table's rows -/
def one (l : List Rw) (c : Cg) : List Rw := if c.gone then del l c.key else put l c.key c.val
/-- whether all changes are of tables that there are -/
def allT (T : List (List Rw)) (l : List Cg) : Bool := l.all fun c => isT T c.tbl
theorem allT_snoc (T : List (List Rw)) (l : List Cg) (c : Cg) : allT T (l ++ [c]) = (allT T l && isT T c.tbl) := by simp [allT]
theorem allT_not {T : List (List Rw)} {l : List Cg} {k : Nat} {f : Cg} (h : l[k]? = some f) (hf : isT T f.tbl = false) : allT T l = false := by
  unfold allT
  rw [List.all_eq_false]
  exact ⟨f, List.mem_of_getElem? h, by simp [hf]⟩
def do1 (T : List (List Rw)) (c : Cg) : List (List Rw) := T.set c.tbl.toNat (one (tab T c.tbl) c)
def doAll (T : List (List Rw)) (l : List Cg) : List (List Rw) := l.foldl do1 T
def appl (T : List (List Rw)) (l : List Cg) : List (List Rw) := if allT T l then doAll T l else T
theorem doAll_snoc (T : List (List Rw)) (l : List Cg) (c : Cg) : doAll T (l ++ [c]) = do1 (doAll T l) c := by simp [doAll]
theorem doAll_length (T : List (List Rw)) (l : List Cg) : (doAll T l).length = T.length := by
  induction l generalizing T with
  | nil => rfl
  | cons c l ih => exact (ih (do1 T c)).trans (by simp [do1])
theorem isT_length {T T' : List (List Rw)} (h : T'.length = T.length) (t : Int) : isT T' t = isT T t := by unfold isT; rw [h]
def Most (T : List (List Rw)) (M : Nat) : Prop := ∀ t : Int, (tab T t).length ≤ M
theorem tab_set {T : List (List Rw)} {i : Nat} (hi : i < T.length) (l : List Rw) (t : Int) : tab (T.set i l) t = if t = (i : Int) then l else tab T t := by
  unfold tab
  rw [isT_length (T := T) (by rw [List.length_set])]
  by_cases ht : isT T t = true
  · obtain ⟨j, rfl, hj⟩ := isT_nat ht
    rw [if_pos ht, if_pos ht, Int.toNat_natCast]
    by_cases hji : j = i
    · subst hji
      rw [if_pos rfl, List.getElem?_set_self hi]
      rfl
    · rw [if_neg (by omega), List.getElem?_set_ne (fun e => hji e.symm)]
  · rw [if_neg ht, if_neg ht, if_neg]
    rintro rfl
    exact ht (decide_eq_true (by omega))
theorem allT_at {T : List (List Rw)} {l : List Cg} {k : Nat} {f : Cg} (h : allT T l = true) (hf : l[k]? = some f) : isT T f.tbl = true := by
  unfold allT at h
  exact (List.all_eq_true.1 h) f (List.mem_of_getElem? hf)
theorem one_len (l : List Rw) (c : Cg) : (one l c).length ≤ l.length + 1 := by
  unfold one
  split
  · have := del_length l c.key; omega
  · exact put_length_le _ _ _
theorem Most.do1 {T : List (List Rw)} {M : Nat} (h : Most T M) {c : Cg} (hc : isT T c.tbl = true) : Most (do1 T c) (M + 1) := by
  intro t
  obtain ⟨i, e, hi⟩ := isT_nat hc
  unfold Tbl.do1
  rw [e, Int.toNat_natCast, tab_set hi]
  split
  · have := one_len (tab T (i : Int)) c
    have := h (i : Int)
    omega
  · have := h t
    omega
end Go.Proofs.Ytlgdbpejefgeaaa.Tbl
