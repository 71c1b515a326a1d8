/-
  Retries, plain: a clock held from 0 to the greatest; a failure; an op of the law's. No program's numbers, no condition.
-/
import Derived.Test.YtadlollgmimajaaBackMath
namespace Go.Proofs.Ytadlollgmimajaa.RetryMath
set_option linter.unusedVariables false
set_option linter.unusedSimpArgs false
open BackMath

structure To where
  kind : Int
  now : Int
  draw : Int
def noTo : To := ⟨0, 0, 0⟩
instance : Inhabited To := ⟨noTo⟩
def clk (n : Int) : Int := max 0 (min n 1125899906842624)
theorem clk_in (n : Int) : 0 ≤ clk n ∧ clk n ≤ 1125899906842624 := by unfold clk; omega
theorem wt_in (k b m j d : Int) : 0 ≤ wt k b m j d ∧ wt k b m j d ≤ 2147483648 := by
  unfold wt
  cases h : may b m j with
  | false => exact ⟨Int.le_refl _, (by decide : (0 : Int) ≤ 2147483648)⟩
  | true =>
    have ho := may_out h
    have h1 := dd_ge ho.1 ho.2.1 k.toNat
    have h2 := dd_le k.toNat b m
    have h3 := Int.emod_nonneg (max d 0) (b := j + 1) (by omega)
    have h4 := Int.emod_lt_of_pos (max d 0) (b := j + 1) (by omega)
    show 0 ≤ dd k.toNat b m + max d 0 % (j + 1) ∧ dd k.toNat b m + max d 0 % (j + 1) ≤ 2147483648
    omega
end Go.Proofs.Ytadlollgmimajaa.RetryMath
