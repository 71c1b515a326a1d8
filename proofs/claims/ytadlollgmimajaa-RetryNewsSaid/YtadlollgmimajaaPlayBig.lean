/-
  Contract of the statements' own Big: any number as one from 0 to n - 1.
-/
import Derived.Test.YtadlollgmimajaaRows
import Derived.Test.YtadlollgmimajaaBase
import Derived.Outline
import Derived.IntWalk
import Derived.WalkLawsBesides
namespace Go.Proofs.Ytadlollgmimajaa.Field
set_option maxRecDepth 100000
open Go.RowKit Base

def bigZ (v : Int) (n : Nat) : Nat := ((v % 18446744073709551616) % n).toNat
theorem bigZ_lt (v : Int) {n : Nat} (h : 0 < n) : bigZ v n < n := by
  unfold bigZ
  have h1 := Int.emod_nonneg (v % 18446744073709551616) (b := (n : Int)) (by omega)
  have h2 := Int.emod_lt_of_pos (v % 18446744073709551616) (b := (n : Int)) (by omega)
  omega
set_option maxHeartbeats 400000 in
theorem playbig_any (v : Int) (n : Nat) (w : World) (hn : 0 < n) (hm : n ≤ 4611686018427387904) :
    Calls Try.prog 12 #[.int .i64 v, .int .i64 n] w fun e w' => e = .returned (.int .i64 (bigZ v n)) ∧ w = w' := by
  have hne : ((n : Int) == 0) = false := by simp; omega
  go_enter Try.func12, Try.ntmps12
  go_wp2
  go_ret
  refine ⟨ret_int ?_, rfl⟩
  have hw : IntKind.u64.wrap v = v % 18446744073709551616 := by simp [IntKind.wrap, IntKind.bits, IntKind.signed]
  have h0 : 0 ≤ v % 18446744073709551616 := Int.emod_nonneg _ (by omega)
  rw [hw, Int.tmod_eq_emod_of_nonneg h0]
  unfold bigZ
  generalize v % 18446744073709551616 = y at h0
  have h1 : 0 ≤ y % (n : Int) := Int.emod_nonneg _ (by omega)
  have h2 : y % (n : Int) < n := Int.emod_lt_of_pos _ (by omega)
  generalize y % (n : Int) = z at h1 h2
  rw [IntWalk.wrap64_in z (by omega)]
  omega
end Go.Proofs.Ytadlollgmimajaa.Field
