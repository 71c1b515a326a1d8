/-
  Contracts of the statements' own helpers over rows of a table; the first line of each statement on an index.
-/
import Derived.Test.YtpklgbpgmeeeoaaIdxRef
namespace Go.Proofs.Ytpklgbpgmeeeoaa.Idx
set_option linter.unusedVariables false
set_option maxRecDepth 100000
open Go.RowKit Base IdxMath Foot
open Go.Sort (grow)
set_option linter.ambiguousOpen false
set_option linter.unusedSimpArgs false

theorem ret_bool' {a b : Bool} (h : a = b) : Ending.returned (.bool a) = .returned (.bool b) := by rw [h]
set_option maxHeartbeats 400000 in
theorem req_same (k : Int) (s : ByteArray) (w : World) :
    Calls Try.prog 57 #[.agg #[.int .i64 k, .string s], .agg #[.int .i64 k, .string s]] w fun e w' => e = .returned (.bool true) ∧ Below w.heap.size w w' := by
  go_enter Try.func57, Try.ntmps57
  go_wp2
  go_ret
  exact ⟨ret_bool' (by simp), ((Below.refl _ _).alloc (Nat.le_refl _) _).alloc (by simp) _⟩
set_option maxHeartbeats 800000 in
theorem rsame_same (B B' : Nat) (A A' : Option Addr) (n c c' : Nat) (l : List Rw) (w : World) (h : Rs w B A n c l) (h' : Rs w B' A' n c' l) (hB : B ≤ w.heap.size) (hB' : B' ≤ w.heap.size) :
    Calls Try.prog 56 #[.slice A n c, .slice A' n c', .func (.func 57) #[] #[]] w fun e w' => e = .returned (.bool true) ∧ Below w.heap.size w w' := by
  have hle := h.le
  have HR := Lib.hid h
  have HR' := Lib.hid h'
  clear h h'
  go_enter Try.func56, Try.ntmps56
  go_wp2
  go_loopw [7] (fun i wr => ∃ k : Nat, k ≤ n ∧ i = .int .i64 k ∧ Below w.heap.size w wr) (fun i _ => n - (intOf i).toNat)
  case atStart => exact ⟨0, by omega, rfl, Below.refl _ _⟩
  case round =>
    obtain ⟨k, hk, rfl, hbel⟩ := hrel
    have HB := Lib.hid hbel
    clear hbel
    by_cases hlt : k < n
    · obtain ⟨b, off, f, rfl, hb, q0, q1, hget, _⟩ := (HR.out.below (HB.out.mono hB)).at_ hlt
      obtain ⟨b', off', f', rfl, hb', p0, p1, hget', _⟩ := (HR'.out.below (HB.out.mono hB')).at_ hlt
      obtain rfl : f = f' := by rw [hget] at hget'; injection hget'
      clear hget hget'
      go_wp2
      go_still_tail 9, (by kernel_rfl)
      go_wp2_with fail
      refine (req_same _ _ _).mono ?_
      rintro e w2 ⟨rfl, hb2⟩
      have HB2 := Lib.hid (HB.out.drew.trans (hb2.mono HB.out.size))
      clear hb2
      go_wp2
      go_roundw
      case rel => exact ⟨k + 1, by omega, by go_num, HB2.out⟩
      case measure => simp [intOf]; omega
    · go_wp2
      go_ret
      exact ⟨rfl, HB.out⟩
theorem rplain_same (B B' : Nat) (A A' : Option Addr) (n n' c c' : Nat) (l : List Rw) (w : World) (h : Rs w B A n c l) (h' : Rs w B' A' n' c' l) (hB : B ≤ w.heap.size) (hB' : B' ≤ w.heap.size) :
    Calls Try.prog 20 #[.slice A n c, .slice A' n' c'] w fun e w' => e = .returned (.bool true) ∧ Below w.heap.size w w' := by
  obtain rfl : n = n' := by rw [← h.len, ← h'.len]
  go_enter Try.func20, Try.ntmps20
  go_wp2_with fail
  refine (rsame_same B B' A A' n c c' l _ h h' hB hB').mono ?_
  rintro e w2 ⟨rfl, hb2⟩
  have HB2 := Lib.hid hb2
  clear hb2
  go_wp2
  go_ret
  exact ⟨rfl, HB2.out⟩

theorem Rs.new_of {w w' : World} {A : Option Addr} {c : Nat} {l : List Rw} (h : w'.ownsRow w.heap.size 38 2 (.slice A l.length c) l.length (rv l)) : Rs w' w'.heap.size A l.length c l := Rs.of_own h
theorem Begun.at_ {w w' : World} {l : List Rw} {e : Ending} (h : Begun w l e w') : ∃ p, e = .returned (.pointer (some ⟨p, 0, none⟩)) ∧ IdxAt w' (fun i => w.heap.size ≤ i ∧ i < w'.heap.size) p l ∧ Below w.heap.size w w' := h

def strA : ByteArray := ⟨#[97]⟩
def strB : ByteArray := ⟨#[98]⟩
theorem aw_make : make [⟨5, ⟨#[97]⟩⟩, ⟨3, ⟨#[98]⟩⟩] = [⟨3, ⟨#[98]⟩⟩, ⟨5, ⟨#[97]⟩⟩] := by rfl
theorem aw_after : after [⟨3, ⟨#[98]⟩⟩, ⟨5, ⟨#[97]⟩⟩] 3 9 = [⟨5, ⟨#[97]⟩⟩] := by rfl
set_option maxHeartbeats 1600000 in
theorem awake_any (w : World) : Calls Try.prog 26 #[] w fun e w' => e = .returned (.bool true) ∧ Below w.heap.size w w' := by
  have HR : Hid (Rs (w.alloc (.cells #[.int .i64 5, .string ⟨#[97]⟩, .int .i64 3, .string ⟨#[98]⟩] 38)) (w.heap.size + 1) (some ⟨w.heap.size, 0, none⟩) 2 2 [⟨5, ⟨#[97]⟩⟩, ⟨3, ⟨#[98]⟩⟩]) :=
    Row.lit w #[.int .i64 5, .string ⟨#[97]⟩, .int .i64 3, .string ⟨#[98]⟩] 38 (0, 0) rfl rfl (by omega)
  have HW : Hid (Below w.heap.size w (w.alloc (.cells #[.int .i64 5, .string ⟨#[97]⟩, .int .i64 3, .string ⟨#[98]⟩] 38))) := (Below.refl _ _).alloc (Nat.le_refl _) _
  go_enter Try.func26, Try.ntmps26
  go_wp2_with fail
  refine (new_any _ _ 2 2 _ _ HR.out (by simp) (by omega)).mono ?_
  intro e w1 h1
  obtain ⟨p, rfl, hx, hb⟩ := h1.at_
  rw [aw_make] at hx
  have HX := Lib.hid hx
  have HB := Lib.hid (held_two HW.out hb)
  clear h1 hx hb
  go_wp2_with fail
  refine (len_any _ p _ _ HX.out).mono ?_
  rintro e w2 ⟨rfl, rfl⟩
  go_wp2_with fail
  refine (after_any _ p _ 3 9 _ HX.out (by simp)).mono ?_
  rw [aw_after]
  rintro e w3 ⟨A3, c3, rfl, ho3, hb3⟩
  have HO3 := Lib.hid ho3
  have HB3 := Lib.hid (held_two HB.out hb3)
  clear ho3 hb3
  have hlit : Rs (w3.alloc (.cells #[.int .i64 5, .string ⟨#[97]⟩] 38)) (w3.heap.size + 1) (some ⟨w3.heap.size, 0, none⟩) 1 1 [⟨5, ⟨#[97]⟩⟩] := one_row w3 5 _ rfl
  have HLIT := Lib.hid hlit
  clear hlit
  go_wp2_with fail
  refine (rplain_same w3.heap.size _ A3 _ 1 1 c3 1 [⟨5, ⟨#[97]⟩⟩] _ (Rs.below (Rs.of_own HO3.out) ((Below.refl _ _).alloc (Nat.le_refl _) _)) HLIT.out (by simp) (by simp)).mono ?_
  rintro e w4 ⟨rfl, hb4⟩
  have HB4 := Lib.hid (held_two (HB3.out.alloc HB3.out.size _) hb4)
  clear hb4
  go_wp2
  go_ret
  exact ⟨rfl, HB4.out⟩
end Go.Proofs.Ytpklgbpgmeeeoaa.Idx
