/-
  Contracts of the statements' own helper that holds rows against rows (Plain of qanat/api.Row). No condition.
-/
import Derived.Test.YtlbgpfiiiggofaaRowMem
namespace Go.Proofs.Ytlbgpfiiiggofaa.Idx
set_option linter.unusedVariables false
set_option maxRecDepth 100000
open Go.RowKit Base IdxMath
open Go.Sort (grow)
set_option linter.ambiguousOpen false
set_option linter.unusedSimpArgs false

theorem ret_bool' {a b : Bool} (h : a = b) : Ending.returned (.bool a) = .returned (.bool b) := by rw [h]
set_option maxHeartbeats 400000 in
theorem req_same (k : Int) (s : ByteArray) (w : World) :
    Calls Try.prog 27 #[.agg #[.int .i64 k, .string s], .agg #[.int .i64 k, .string s]] w fun e w' => e = .returned (.bool true) ∧ Below w.heap.size w w' := by
  go_enter Try.func27, Try.ntmps27
  go_wp2
  go_ret
  exact ⟨ret_bool' (by simp), ((Below.refl _ _).alloc (Nat.le_refl _) _).alloc (by simp) _⟩
set_option maxHeartbeats 800000 in
theorem rsame_same (B B' : Nat) (A A' : Option Addr) (n c c' : Nat) (l : List Rw) (w : World) (h : Rs w B A n c l) (h' : Rs w B' A' n c' l) (hB : B ≤ w.heap.size) (hB' : B' ≤ w.heap.size) :
    Calls Try.prog 26 #[.slice A n c, .slice A' n c', .func (.func 27) #[] #[]] w fun e w' => e = .returned (.bool true) ∧ Below w.heap.size w w' := by
  have hle := h.le
  have HR := Lib.hid h
  have HR' := Lib.hid h'
  clear h h'
  go_enter Try.func26, Try.ntmps26
  go_wp2
  go_loopw [7] (fun i wr => ∃ k : Nat, k ≤ n ∧ i = .int .i64 k ∧ Below w.heap.size w wr) (fun i _ => n - (intOf i).toNat)
  case atStart => exact ⟨0, by omega, rfl, Below.refl _ _⟩
  case round =>
    obtain ⟨k, hk, rfl, hbel⟩ := hrel
    have HB := Lib.hid hbel
    clear hbel
    by_cases hlt : k < n
    · obtain ⟨b, off, f, rfl, hb, q0, q1, hget, _⟩ := (HR.out.below (HB.out.mono hB)).at_ hlt
      obtain ⟨b', off', f', rfl, hb', p0, p1, hget', _⟩ := (HR'.out.below (HB.out.mono hB')).at_ hlt
      obtain rfl : f = f' := by rw [hget] at hget'; injection hget'
      clear hget hget'
      go_wp2
      go_still_tail 9, (by kernel_rfl)
      go_wp2_with fail
      refine (req_same _ _ _).mono ?_
      rintro e w2 ⟨rfl, hb2⟩
      have HB2 := Lib.hid (HB.out.drew.trans (hb2.mono HB.out.size))
      clear hb2
      go_wp2
      go_roundw
      case rel => exact ⟨k + 1, by omega, by go_num, HB2.out⟩
      case measure => simp [intOf]; omega
    · go_wp2
      go_ret
      exact ⟨rfl, HB.out⟩
theorem rplain_same (B B' : Nat) (A A' : Option Addr) (n n' c c' : Nat) (l : List Rw) (w : World) (h : Rs w B A n c l) (h' : Rs w B' A' n' c' l) (hB : B ≤ w.heap.size) (hB' : B' ≤ w.heap.size) :
    Calls Try.prog 16 #[.slice A n c, .slice A' n' c'] w fun e w' => e = .returned (.bool true) ∧ Below w.heap.size w w' := by
  obtain rfl : n = n' := by rw [← h.len, ← h'.len]
  go_enter Try.func16, Try.ntmps16
  go_wp2_with fail
  refine (rsame_same B B' A A' n c c' l _ h h' hB hB').mono ?_
  rintro e w2 ⟨rfl, hb2⟩
  have HB2 := Lib.hid hb2
  clear hb2
  go_wp2
  go_ret
  exact ⟨rfl, HB2.out⟩

end Go.Proofs.Ytlbgpfiiiggofaa.Idx
