/-
  Contracts of the comparisons of two rows of a table (by their keys).
-/
import Derived.Test.YtngncalbglbjdaaRowMem
namespace Go.Proofs.Ytngncalbglbjdaa.Idx
set_option linter.unusedVariables false
set_option maxRecDepth 100000
open Go.RowKit Base IdxMath
open Go.Sort (grow)
set_option linter.ambiguousOpen false
set_option linter.unusedSimpArgs false

/-! ### two rows held against each other -/
def cmpK (x y : Int) : Int := if x < y then -1 else if y < x then 1 else 0
theorem cmpK_neg {x y : Int} (h : x < y) : cmpK x y = -1 := by unfold cmpK; rw [if_pos h]
theorem cmpK_lt {x y : Int} : cmpK x y < 0 ↔ x < y := by
  unfold cmpK
  split
  · omega
  · split <;> omega
theorem cmpK_eq {x y : Int} : cmpK x y = 0 ↔ x = y := by
  unfold cmpK
  split
  · omega
  · split <;> omega
theorem isNaN_any (x : Int) (w : World) : Calls Try.prog 63 #[.int .i64 x] w fun e w' => e = .returned (.bool false) ∧ w = w' := by
  go_enter Try.func63, Try.ntmps63
  go_wp2
  go_ret
  exact ⟨by simp, rfl⟩
theorem compare_any (x y : Int) (w : World) : Calls Try.prog 57 #[.int .i64 x, .int .i64 y] w fun e w' => e = .returned (.int .i64 (cmpK x y)) ∧ w = w' := by
  have HE := Lib.hid (show cmpK x y = if x < y then -1 else if y < x then 1 else 0 from rfl)
  go_enter Try.func57, Try.ntmps57
  go_wp2_with (first | (refine (isNaN_any _ _).mono ?_; rintro e w1 ⟨rfl, rfl⟩) | fail)
  all_goals go_ret
  all_goals refine ⟨ret_int ?_, rfl⟩
  all_goals rw [HE.out]
  all_goals first | (rw [if_pos (by omega)]) | (rw [if_neg (by omega), if_pos (by omega)]) | (rw [if_neg (by omega), if_neg (by omega)])
theorem bykeys_any (x y : Rw) (w : World) : Calls Try.prog 48 #[rowv x, rowv y] w fun e w' => e = .returned (.int .i64 (cmpK x.key y.key)) ∧ ∃ q os, w' = grow (w.drewN q) os := by
  unfold rowv
  go_enter Try.func48, Try.ntmps48
  go_wp2_with (first | (refine (compare_any _ _ _).mono ?_; rintro e w1 ⟨rfl, rfl⟩) | fail)
  go_ret
  exact ⟨rfl, 0, _, by rw [Go.Sort.alloc_eq_grow, Go.Sort.alloc_eq_grow, Go.Sort.grow_grow]; rfl⟩
theorem samekey_any (x y : Rw) (w : World) : Calls Try.prog 50 #[rowv x, rowv y] w fun e w' => e = .returned (.bool (decide (x.key = y.key))) ∧ ∃ q os, w' = grow (w.drewN q) os := by
  unfold rowv
  go_enter Try.func50, Try.ntmps50
  go_wp2
  go_ret
  exact ⟨by simp [Bool.beq_eq_decide_eq], 0, _, by rw [Go.Sort.alloc_eq_grow, Go.Sort.alloc_eq_grow, Go.Sort.grow_grow]; rfl⟩
end Go.Proofs.Ytngncalbglbjdaa.Idx
