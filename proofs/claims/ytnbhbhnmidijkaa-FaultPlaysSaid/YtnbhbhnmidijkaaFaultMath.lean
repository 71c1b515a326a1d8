/-
  Faults, plain: which may be, what a list of them makes of those that are there. No program's numbers, no condition.
-/
import Derived.WalkKit
namespace Go.Proofs.Ytnbhbhnmidijkaa.FaultMath
set_option linter.unusedVariables false
set_option linter.unusedSimpArgs false

structure Ft where
  kind : Int
  keep : Int
def noFt : Ft := ⟨0, 0⟩
instance : Inhabited Ft := ⟨noFt⟩

def may (f : Ft) : Bool := (decide (f.kind = 1) || decide (f.kind = 3)) && decide (f.keep = 0) || decide (f.kind = 2) && decide (0 ≤ f.keep)
/-- one more, if it may be and there is room -/
def put (p : List Ft) (f : Ft) : List Ft := if may f = true ∧ p.length < 1024 then p ++ [f] else p
def push (p l : List Ft) : List Ft := l.foldl put p

theorem push_nil (p : List Ft) : push p [] = p := rfl
theorem push_snoc (p l : List Ft) (f : Ft) : push p (l ++ [f]) = put (push p l) f := by unfold push; rw [List.foldl_append]; rfl
theorem put_ge (p : List Ft) (f : Ft) : p.length ≤ (put p f).length := by
  unfold put
  split
  · rw [List.length_append]; omega
  · omega
theorem put_le {p : List Ft} (h : p.length ≤ 1024) (f : Ft) : (put p f).length ≤ 1024 := by
  unfold put
  split
  · rename_i h2
    rw [List.length_append, List.length_singleton]; omega
  · exact h
theorem push_ge (p l : List Ft) : p.length ≤ (push p l).length := by
  induction l generalizing p with
  | nil => exact Nat.le_refl _
  | cons f l ih => exact Nat.le_trans (put_ge p f) (ih (put p f))
theorem push_le {p : List Ft} (h : p.length ≤ 1024) (l : List Ft) : (push p l).length ≤ 1024 := by
  induction l generalizing p with
  | nil => exact h
  | cons f l ih => exact ih (put_le h f)
theorem put_full {p : List Ft} (h : 1024 ≤ p.length) (f : Ft) : put p f = p := if_neg (fun h2 => by omega)
theorem push_full {p : List Ft} (h : 1024 ≤ p.length) (l : List Ft) : push p l = p := by
  induction l generalizing p with
  | nil => rfl
  | cons f l ih => show push (put p f) l = p; rw [put_full h]; exact ih h
theorem push_app (p l m : List Ft) : push p (l ++ m) = push (push p l) m := List.foldl_append
theorem push_stop {p l : List Ft} {k : Nat} (h : 1024 ≤ (push p (l.take k)).length) : push p l = push p (l.take k) := by
  conv => lhs; rw [← List.take_append_drop k l]
  rw [push_app, push_full h]
theorem put_yes {p : List Ft} {f : Ft} (h : may f = true) (h2 : p.length < 1024) : put p f = p ++ [f] := if_pos ⟨h, h2⟩
theorem put_no {p : List Ft} {f : Ft} (h : may f = false) : put p f = p := if_neg (fun h2 => by rw [h] at h2; cases h2.1)
/-- so many that were lost -/
def lost (n : Nat) : List Ft := List.replicate n ⟨3, 0⟩
theorem push_lost (p : List Ft) (n : Nat) (h : p.length ≤ 1024) : (push p (lost n)).length = p.length + min n (1024 - p.length) := by
  induction n generalizing p with
  | zero => show p.length = _; omega
  | succ n ih =>
    show (push (put p ⟨3, 0⟩) (lost n)).length = _
    rw [ih _ (put_le h _)]
    by_cases h2 : p.length < 1024
    · rw [put_yes rfl h2, List.length_append, List.length_singleton]; omega
    · rw [put_full (by omega)]; omega
end Go.Proofs.Ytnbhbhnmidijkaa.FaultMath
