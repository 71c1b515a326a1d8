/-
  Contracts of the statements' own helpers over rows of rows of bytes: two lists of rows held against each other.
-/
import Derived.Test.YthffmojmfghbiaaHelpBytes
import Derived.Test.YthffmojmfghbiaaRefNums
import Derived.Test.YthffmojmfghbiaaLists
namespace Go.Proofs.Ythffmojmfghbiaa.Help
open Go.RowKit Base
open Go.Proofs.Ythffmojmfghbiaa.Field
set_option linter.ambiguousOpen false

set_option maxRecDepth 100000 in
set_option maxHeartbeats 800000 in
theorem samelists_same (B B' : Nat) (A A' : Option Addr) (n c c' : Nat) (ls : List (List UInt8)) (w : World) (h : Lists w B A n c ls) (h' : Lists w B' A' n c' ls) (hB : B ≤ w.heap.size) (hB' : B' ≤ w.heap.size) :
    Calls Try.prog 27 #[.slice A n c, .slice A' n c', .func (.func 11) #[] #[]] w fun e w' => e = .returned (.bool true) ∧ Below w.heap.size w w' := by
  have hle := h.le
  have HR := Lib.hid h
  have HR' := Lib.hid h'
  clear h h'
  go_enter Try.func27, Try.ntmps27
  go_wp2
  go_loopw [7] (fun i wr => ∃ k : Nat, k ≤ n ∧ i = .int .i64 k ∧ Below w.heap.size w wr) (fun i _ => n - (intOf i).toNat)
  case atStart => exact ⟨0, by omega, rfl, Below.refl _ _⟩
  case round =>
    obtain ⟨k, hk, rfl, hbel⟩ := hrel
    have HB := Lib.hid hbel
    clear hbel
    by_cases hlt : k < n
    · obtain ⟨b, off, A1, n1, c1, l, rfl, hb, hcell, hy, hget, _⟩ := (HR.out.below (HB.out.mono hB)).at_ hlt
      obtain ⟨b', off', A2, n2, c2, l', rfl, hb', hcell', hy', hget', _⟩ := (HR'.out.below (HB.out.mono hB')).at_ hlt
      obtain rfl : l = l' := by rw [hget] at hget'; injection hget'
      have HY := Lib.hid hy
      have HY' := Lib.hid hy'
      clear hget hget' hy hy'
      have hk0 : (0 : Int) ≤ (k : Int) := by omega
      have hk1 : (k : Int) < (n : Int) := by omega
      go_wp2
      go_still_tail 9, (by kernel_rfl)
      go_wp2_with fail
      refine (bytes_same B B' A1 A2 n1 c1 n2 c2 l _ (HY.out.drewN 1) (HY'.out.drewN 1)).mono ?_
      rintro e w2 ⟨rfl, rfl⟩
      go_wp2
      go_roundw
      case rel => exact ⟨k + 1, by omega, by go_num, HB.out.drew⟩
      case measure => simp [intOf]; omega
    · go_wp2
      go_ret
      exact ⟨rfl, HB.out⟩

theorem many_same (B B' : Nat) (A A' : Option Addr) (n c c' : Nat) (ls : List (List UInt8)) (w : World) (h : Lists w B A n c ls) (h' : Lists w B' A' n c' ls) (hB : B ≤ w.heap.size) (hB' : B' ≤ w.heap.size) :
    Calls Try.prog 16 #[.slice A n c, .slice A' n c'] w fun e w' => e = .returned (.bool true) ∧ Below w.heap.size w w' := by
  go_enter Try.func16, Try.ntmps16
  go_wp2_with fail
  refine (samelists_same B B' A A' n c c' ls _ h h' hB hB').mono ?_
  rintro e w2 ⟨rfl, hb2⟩
  have HB2 := Lib.hid hb2
  clear hb2
  go_wp2
  go_ret
  exact ⟨rfl, HB2.out⟩
end Go.Proofs.Ythffmojmfghbiaa.Help
