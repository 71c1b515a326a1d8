/-
  The first line of each statement on records (awake), and contracts of Put and Take at known answers.
-/
import Derived.Test.YtgekmanbiadpoaaRecTake
import Derived.Test.YtgekmanbiadpoaaHelpBytes
namespace Go.Proofs.Ytgekmanbiadpoaa.Rec
open Go.RowKit Base FieldMath RecMath
open Go.Proofs.Ytgekmanbiadpoaa.Field Help
set_option linter.ambiguousOpen false

theorem put_val (B : Nat) (A : Option Addr) (n c : Nat) (l r : List UInt8) (m : Nat) (w : World) (hr : Bytes w B A n c l) (hB : B ≤ w.heap.size) (h : put l = .ok r) (hm : r.length = m) :
    Calls Try.prog 10 #[.slice A n c] w fun e w' => ∃ A' c', e = .returned (.tuple #[.slice A' m c', .int .i64 0]) ∧ w'.ownsRow w.heap.size 5 1 (.slice A' m c') m (bv r) ∧ Below w.heap.size w w' := by
  subst hm
  refine (put_any B A n c l w hr hB).mono ?_
  rintro e w' ⟨A', n', c', he, ho, hb⟩
  rw [h] at he ho
  have hn : r.length = n' := by have := ho.1; rw [show got (Except.ok r) = r from rfl, bv_length, Nat.mul_one] at this; exact this
  subst hn
  exact ⟨A', c', he, ho, hb⟩
theorem take_val (B : Nat) (A : Option Addr) (n c : Nat) (l p : List UInt8) (m : Nat) (w : World) (hr : Bytes w B A n c l) (hB : B ≤ w.heap.size) (h : tk l = .ok p) (hm : p.length = m) :
    Calls Try.prog 15 #[.slice A n c] w fun e w' => ∃ A' c', e = .returned (.tuple #[.slice A' m c', .int .i64 (8 + (m : Int)), .int .i64 0]) ∧ Bytes w' w'.heap.size A' m c' p ∧ Below w.heap.size w w' := by
  subst hm
  refine (take_any B A n c l w hr hB).mono ?_
  rintro e w' ⟨A', n', c', he, ho, hb⟩
  rw [h] at he ho
  have hn : p.length = n' := by have := ho.1; rw [show got (Except.ok p) = p from rfl, bv_length, Nat.mul_one] at this; exact this
  subst hn
  exact ⟨A', c', he, Bytes.of_own ho, hb⟩
theorem take_bad (B : Nat) (A : Option Addr) (n c : Nat) (l : List UInt8) (k : Nat) (w : World) (hr : Bytes w B A n c l) (hB : B ≤ w.heap.size) (h : tk l = .error k) :
    Calls Try.prog 15 #[.slice A n c] w fun e w' => ∃ A' n' c', e = .returned (.tuple #[.slice A' n' c', .int .i64 0, .int .i64 k]) ∧ Below w.heap.size w w' := by
  refine (take_any B A n c l w hr hB).mono ?_
  rintro e w' ⟨A', n', c', he, ho, hb⟩
  rw [h] at he
  exact ⟨A', n', c', he, hb⟩

theorem rec_none : recB [] = [0, 0, 0, 0, 33, 68, 223, 28] := by decide +kernel

set_option maxHeartbeats 800000 in
theorem awake_any (w : World) :
    Calls Try.prog 12 #[] w fun e w' => e = .returned (.bool true) ∧ Below w.heap.size w w' := by
  go_enter Try.func12, Try.ntmps12
  go_wp2_with fail
  refine (put_val 0 none 0 0 [] [0, 0, 0, 0, 33, 68, 223, 28] 8 _ (Bytes.nil_ _ _) (by omega) (by rw [← rec_none]; rfl) rfl).mono ?_
  rintro e w1 ⟨A1, c1, rfl, hown1, hb1⟩
  have HB1 := Lib.hid hb1
  have HY1 : Hid (Bytes w1 w1.heap.size A1 8 c1 [0, 0, 0, 0, 33, 68, 223, 28]) := Bytes.of_own hown1
  clear hown1 hb1
  go_wp2_with fail
  refine (take_val _ A1 8 c1 _ [] 0 _ HY1.out (Nat.le_refl _) (by rw [← rec_none]; exact tk_rec0 (by simp)) rfl).mono ?_
  rintro e w2 ⟨A2, c2, rfl, hy2, hb2⟩
  have hcv : (convert 22 9 (.slice A1 8 c1)).run Try.prog w2 = .ok (.string ⟨#[0, 0, 0, 0, 33, 68, 223, 28]⟩) w2 := (HY1.out.below hb2).str (P := Try.prog) Try.underlying22 Try.underlying5 Try.underlying9
  have HB2 := Lib.hid (held_two HB1.out hb2)
  clear hy2 hb2
  go_wp2
  go_ret
  exact ⟨rfl, HB2.out⟩
end Go.Proofs.Ytgekmanbiadpoaa.Rec
