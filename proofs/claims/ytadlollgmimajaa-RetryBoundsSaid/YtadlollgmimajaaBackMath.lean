/-
  Plain mathematics of backoff: what may be, a delay, a wait. No condition.
-/
import Derived.Test.YtadlollgmimajaaRows
namespace Go.Proofs.Ytadlollgmimajaa.BackMath
def may (b m j : Int) : Bool := decide (1 ≤ b ∧ b ≤ m ∧ m ≤ 1073741824 ∧ 0 ≤ j ∧ j ≤ 1073741824)
/-- the lesser one of b, doubled k times, and m -/
def dd (k : Nat) (b m : Int) : Int := min (b * 2 ^ k) m
def dl (k b m : Int) : Int := bif may b m 0 then dd k.toNat b m else 0
def wt (k b m j d : Int) : Int := bif may b m j then dd k.toNat b m + (max d 0) % (j + 1) else 0
theorem may_out {b m j : Int} (h : may b m j = true) : 1 ≤ b ∧ b ≤ m ∧ m ≤ 1073741824 ∧ 0 ≤ j ∧ j ≤ 1073741824 := by simpa [may] using h
theorem may_in {b m j : Int} (h : 1 ≤ b ∧ b ≤ m ∧ m ≤ 1073741824 ∧ 0 ≤ j ∧ j ≤ 1073741824) : may b m j = true := by simpa [may] using h
theorem may_zero {b m j : Int} (h : may b m j = true) : may b m 0 = true := by have := may_out h; exact may_in ⟨by omega, by omega, by omega, by omega, by omega⟩
theorem pow_pos_ (k : Nat) : (0 : Int) < 2 ^ k := Int.pow_pos (by decide)
theorem pow_le_ {i k : Nat} (h : i ≤ k) : (2 : Int) ^ i ≤ 2 ^ k := by
  obtain ⟨d, rfl⟩ := Nat.exists_eq_add_of_le h
  rw [Int.pow_add]
  have h1 := pow_pos_ i
  have h2 := pow_pos_ d
  generalize (2 : Int) ^ i = x at h1 ⊢
  generalize (2 : Int) ^ d = y at h2 ⊢
  have h3 : x * 1 ≤ x * y := Int.mul_le_mul_of_nonneg_left (show (1 : Int) ≤ y by omega) (show (0 : Int) ≤ x by omega)
  omega
theorem mul_pow_le {b : Int} (hb : 0 ≤ b) {i k : Nat} (h : i ≤ k) : b * 2 ^ i ≤ b * 2 ^ k := Int.mul_le_mul_of_nonneg_left (pow_le_ h) hb
theorem dd_zero {b m : Int} (h : b ≤ m) : dd 0 b m = b := by unfold dd; rw [Int.pow_zero, Int.mul_one]; omega
theorem dd_ge {b m : Int} (hb : 1 ≤ b) (h : b ≤ m) (k : Nat) : b ≤ dd k b m := by
  have := mul_pow_le (b := b) (by omega) (Nat.zero_le k)
  rw [Int.pow_zero, Int.mul_one] at this
  unfold dd
  omega
theorem dd_le (k : Nat) (b m : Int) : dd k b m ≤ m := by unfold dd; omega
theorem dd_succ {b m : Int} (hb : 1 ≤ b) (hm : b ≤ m) (k : Nat) : dd (k + 1) b m = min (2 * dd k b m) m := by
  have h1 := pow_pos_ k
  have h2 : 0 < b * 2 ^ k := Int.mul_pos (by omega) h1
  unfold dd
  rw [show (2 : Int) ^ (k + 1) = 2 ^ k * 2 from Int.pow_succ _ _, ← Int.mul_assoc]
  generalize b * 2 ^ k = z at h2 ⊢
  rcases Int.le_total z m with h | h
  · rw [Int.min_eq_left h, Int.mul_comm z 2]
  · rw [Int.min_eq_right h, Int.min_eq_right (by omega), Int.min_eq_right (by omega)]
theorem dd_top {b m : Int} (hb : 1 ≤ b) {i k : Nat} (h : i ≤ k) (hi : m ≤ b * 2 ^ i) : dd k b m = m := by
  have := mul_pow_le (b := b) (by omega) h
  unfold dd
  omega
theorem dd_stop {b m : Int} (hb : 1 ≤ b) {i k : Nat} (h : i ≤ k) (hi : dd i b m = m) : dd k b m = m := by
  refine dd_top hb h ?_
  unfold dd at hi
  omega
theorem dd_most {b m : Int} (hb : 1 ≤ b) (hm : m ≤ 1073741824) {k : Nat} (h : 30 ≤ k) : dd k b m = m := by
  refine dd_top hb h ?_
  have : b * 2 ^ 0 ≤ b * 1073741824 := by omega
  rw [show (2 : Int) ^ 30 = 1073741824 by decide]
  omega
/-- the code's way: shifts that end at the number's bits -/
theorem shifted {b m : Int} (hb : 1 ≤ b) (h : b ≤ m) (hm : m ≤ 1073741824) (k : Nat) : (m / 2 ^ min k 64 < b → dd k b m = m) ∧ (b ≤ m / 2 ^ min k 64 → b * 2 ^ min k 64 = dd k b m ∧ b * 2 ^ min k 64 ≤ 1073741824) := by
  have hp := pow_pos_ (min k 64)
  refine ⟨fun hl => dd_top hb (Nat.min_le_left k 64) ?_, fun hl => ?_⟩
  · have := (Int.ediv_lt_iff_lt_mul hp).1 hl
    omega
  · have h1 := hl
    have h2 := (Int.le_ediv_iff_mul_le hp).1 h1
    have h3 : k ≤ 64 := by
      refine Decidable.byContradiction fun hk => ?_
      rw [Nat.min_eq_right (by omega)] at h2
      rw [show (2 : Int) ^ 64 = 18446744073709551616 by decide] at h2
      omega
    rw [Nat.min_eq_left h3] at *
    unfold dd
    omega
end Go.Proofs.Ytadlollgmimajaa.BackMath
