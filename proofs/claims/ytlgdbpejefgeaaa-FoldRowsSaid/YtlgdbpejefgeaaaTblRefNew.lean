/-
  The document's tables: NewSet.
-/
import Derived.Test.YtlgdbpejefgeaaaTblMath
import Derived.Test.YtlgdbpejefgeaaaIdxRef
namespace Go.Proofs.Ytlgdbpejefgeaaa.Tbl
set_option linter.unusedVariables false
set_option maxRecDepth 100000
open Go.RowKit Base IdxMath Foot Idx
set_option linter.ambiguousOpen false
set_option linter.unusedSimpArgs false

/-- what the document's NewSet does: no set, or one, in new blocks -/
def RefMade (w : World) (n : Int) (e : Ending) (w' : World) : Prop :=
  if 1 ≤ n ∧ n ≤ 8 then ∃ p, e = .returned (.pointer (some ⟨p, 0, none⟩)) ∧ Below w.heap.size w w'
  else e = .returned (.pointer none) ∧ w' = w
theorem er2 : Elem Try.prog 28 39 1 24 (.slice none 0 0) := .of (by rfl) (by rfl) rfl (by omega)
set_option maxHeartbeats 1600000 in
theorem refnewset_any (n : Int) (w : World) : Calls Try.prog 30 #[.int .i64 n] w (RefMade w n) := by
  rcases Int.lt_or_le n 1 with h1 | h1
  · go_enter Try.func30, Try.ntmps30
    go_wp2
    go_ret
    unfold RefMade
    rw [if_neg (by omega)]
    exact ⟨rfl, rfl⟩
  rcases Int.lt_or_le 8 n with h8 | h8
  · go_enter Try.func30, Try.ntmps30
    go_wp2
    go_ret
    unfold RefMade
    rw [if_neg (by omega)]
    exact ⟨rfl, rfl⟩
  obtain ⟨m, rfl⟩ := Int.eq_ofNat_of_zero_le (show 0 ≤ n by omega)
  have HM1 : 1 ≤ m := by omega
  have HM8 : m ≤ 8 := by omega
  go_enter Try.func30, Try.ntmps30
  go_wp2_with (first
    | (refine wpList_make_elem _ rfl (.tmp 9) (.tmp 9) rfl er2 w.heap.size .i64 .i64 _ _ m rfl rfl rfl rfl (by omega) (by omega) (Nat.le_refl _) ?_
       intro w1 ho1 hb1
       have HB1 := Lib.hid hb1
       clear ho1 hb1))
  go_ret
  unfold RefMade
  rw [if_pos (by omega)]
  exact ⟨_, rfl, HB1.out.alloc HB1.out.size _⟩
end Go.Proofs.Ytlgdbpejefgeaaa.Tbl
