/-
  Contracts of the statements' own helpers over tables' rows: two rows of tables that are the same.
-/
import Derived.Test.YtlgdbpejefgeaaaIdxHelp
import Derived.Test.YtlgdbpejefgeaaaLsts
namespace Go.Proofs.Ytlgdbpejefgeaaa.Same
set_option linter.unusedVariables false
set_option maxRecDepth 100000
open Go.RowKit Base
open IdxMath (Rw)
open Lsts (Lsts)
open Idx (Rs)
set_option linter.ambiguousOpen false

set_option maxHeartbeats 1600000 in
theorem tsame_any (B B' : Nat) (A A' : Option Addr) (n c c' : Nat) (T : List (List Rw)) (w : World) (h : Lsts Rs w B A n c T) (h' : Lsts Rs w B' A' n c' T) (hB : B ≤ w.heap.size) (hB' : B' ≤ w.heap.size) :
    Calls Try.prog 24 #[.slice A n c, .slice A' n c', .func (.func 21) #[] #[]] w fun e w' => e = .returned (.bool true) ∧ Below w.heap.size w w' := by
  have hle := h.le
  have HR := Lib.hid h
  have HR' := Lib.hid h'
  clear h h'
  go_enter Try.func24, Try.ntmps24
  go_wp2
  go_loopw [7] (fun i wr => ∃ k : Nat, k ≤ n ∧ i = .int .i64 k ∧ Below w.heap.size w wr) (fun i _ => n - (intOf i).toNat)
  case atStart => exact ⟨0, by omega, rfl, Below.refl _ _⟩
  case round =>
    obtain ⟨k, hk, rfl, hbel⟩ := hrel
    have HB := Lib.hid hbel
    clear hbel
    by_cases hlt : k < n
    · obtain ⟨b, off, A1, n1, c1, l, rfl, hb, q0, hrs, hget, _⟩ := (HR.out.below (HB.out.mono hB) (fun _ _ _ _ hh => Row.below hh (HB.out.mono hB))).at_ hlt
      obtain ⟨b', off', A2, n2, c2, l', rfl, hb', p0, hrs', hget', _⟩ := (HR'.out.below (HB.out.mono hB') (fun _ _ _ _ hh => Row.below hh (HB.out.mono hB'))).at_ hlt
      obtain rfl : l = l' := by rw [hget] at hget'; injection hget'
      have HS := Lib.hid hrs
      have HS' := Lib.hid hrs'
      clear hget hget' hrs hrs'
      go_wp2
      go_still_tail 9, (by kernel_rfl)
      go_wp2_with fail
      refine (Idx.rplain_same B B' A1 A2 n1 n2 c1 c2 l wr.drew HS.out HS'.out (Nat.le_trans hB HB.out.size) (Nat.le_trans hB' HB.out.size)).mono ?_
      rintro e w2 ⟨rfl, hb2⟩
      have HB2 := Lib.hid (HB.out.drew.trans (hb2.mono HB.out.size))
      clear hb2
      go_wp2
      go_roundw
      case rel => exact ⟨k + 1, by omega, by go_num, HB2.out⟩
      case measure => simp [intOf]; omega
    · go_wp2
      go_ret
      exact ⟨rfl, HB.out⟩
theorem tables_same (B B' : Nat) (A A' : Option Addr) (n n' c c' : Nat) (T : List (List Rw)) (w : World) (h : Lsts Rs w B A n c T) (h' : Lsts Rs w B' A' n' c' T) (hB : B ≤ w.heap.size) (hB' : B' ≤ w.heap.size) :
    Calls Try.prog 11 #[.slice A n c, .slice A' n' c'] w fun e w' => e = .returned (.bool true) ∧ Below w.heap.size w w' := by
  obtain rfl : n = n' := by rw [← h.len, ← h'.len]
  go_enter Try.func11, Try.ntmps11
  go_wp2_with fail
  refine (tsame_any B B' A A' n c c' T _ h h' hB hB').mono ?_
  rintro e w2 ⟨rfl, hb2⟩
  have HB2 := Lib.hid hb2
  clear hb2
  go_wp2
  go_ret
  exact ⟨rfl, HB2.out⟩
end Go.Proofs.Ytlgdbpejefgeaaa.Same
