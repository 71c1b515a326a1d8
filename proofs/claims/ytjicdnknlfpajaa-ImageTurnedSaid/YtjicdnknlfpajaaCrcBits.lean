/-
  Plain mathematics of a pattern's bits, of no program.
-/
import Derived.Test.YtjicdnknlfpajaaMaths
namespace Go.Proofs.Ytjicdnknlfpajaa.Crc

/-! ### bits of the pattern -/
theorem mod_succ_one {x k : Nat} (h : x / 2 ^ k % 2 = 1) : x % 2 ^ (k + 1) = (x % 2 ^ k) ^^^ 2 ^ k := by
  apply Nat.eq_of_testBit_eq
  intro i
  rw [Nat.testBit_xor, Nat.testBit_mod_two_pow, Nat.testBit_mod_two_pow, Nat.testBit_two_pow]
  by_cases hi : i = k
  · subst hi
    have : x.testBit i = true := by rw [Nat.testBit_eq_decide_div_mod_eq, h]; rfl
    simp [this]
  · by_cases h1 : i < k
    · have : i < k + 1 := by omega
      have h2 : ¬ k = i := by omega
      simp [h1, this, h2]
    · have : ¬ i < k + 1 := by omega
      have h2 : ¬ k = i := by omega
      simp [h1, this, h2]
theorem mod_succ_zero {x k : Nat} (h : x / 2 ^ k % 2 = 0) : x % 2 ^ (k + 1) = x % 2 ^ k := by
  apply Nat.eq_of_testBit_eq
  intro i
  rw [Nat.testBit_mod_two_pow, Nat.testBit_mod_two_pow]
  by_cases hi : i = k
  · subst hi
    have : x.testBit i = false := by rw [Nat.testBit_eq_decide_div_mod_eq, h]; rfl
    simp [this]
  · by_cases h1 : i < k
    · have : i < k + 1 := by omega
      simp [h1, this]
    · have : ¬ i < k + 1 := by omega
      simp [h1, this]
theorem quo_nat {bs : Int} (h0 : 0 ≤ bs) (k : Nat) : bs / 2 ^ k = ((bs.toNat / 2 ^ k : Nat) : Int) := by
  rw [Int.natCast_ediv, Int.natCast_pow, Int.toNat_of_nonneg h0]
  rfl
theorem mul_xor (f a b : Nat) : 2 ^ f * (a ^^^ b) = 2 ^ f * a ^^^ 2 ^ f * b := by
  rw [Nat.mul_comm _ (a ^^^ b), Nat.mul_comm _ a, Nat.mul_comm _ b, ← Nat.shiftLeft_eq, ← Nat.shiftLeft_eq, ← Nat.shiftLeft_eq, Nat.shiftLeft_xor_distrib]
theorem pow_small {j : Nat} (h : j < 8) : ((2 : Int) ^ j % 256) = ((2 ^ j : Nat) : Int) ∧ 2 ^ j < 256 := by
  match j, h with
  | 0, _ => exact ⟨by decide, by decide⟩
  | 1, _ => exact ⟨by decide, by decide⟩
  | 2, _ => exact ⟨by decide, by decide⟩
  | 3, _ => exact ⟨by decide, by decide⟩
  | 4, _ => exact ⟨by decide, by decide⟩
  | 5, _ => exact ⟨by decide, by decide⟩
  | 6, _ => exact ⟨by decide, by decide⟩
  | 7, _ => exact ⟨by decide, by decide⟩
end Go.Proofs.Ytjicdnknlfpajaa.Crc
