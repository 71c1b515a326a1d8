/-
  Contracts of the statements' own helpers over bytes: two rows held against each other, and two lists of rows.
-/
import Derived.Test.YtlkjmdkmcaaihaaEb
import Derived.Outline
import Derived.IntWalk
import Derived.WalkLawsBesides
import Derived.Deep.QuietTactic
import Derived.BigQuiet
import Derived.StillTailTactics
namespace Go.Proofs.Ytlkjmdkmcaaihaa.Help
set_option maxRecDepth 100000
open Go.RowKit Base
open Go.Proofs.Ytlkjmdkmcaaihaa.Field
set_option linter.ambiguousOpen false

theorem ret_bool {a b : Bool} (h : a = b) : Ending.returned (.bool a) = .returned (.bool b) := by rw [h]

theorem bytes_same (B B' : Nat) (A A' : Option Addr) (n c n' c' : Nat) (l : List UInt8) (w : World) (h : Bytes w B A n c l) (h' : Bytes w B' A' n' c' l) :
    Calls Try.prog 17 #[.slice A n c, .slice A' n' c'] w fun e w' => e = .returned (.bool true) ∧ w = w' := by
  have k1 := h.str (P := Try.prog) Try.underlying35 Try.underlying5 Try.underlying9
  have k2 := h'.str (P := Try.prog) Try.underlying35 Try.underlying5 Try.underlying9
  clear h h'
  go_enter Try.func17, Try.ntmps17
  go_wp2
  go_ret
  exact ⟨ret_bool (by simp), rfl⟩
end Go.Proofs.Ytlkjmdkmcaaihaa.Help
