/-
  TableNews: the walk of the law.
-/
import Derived.Test.YtpklgbpgmeeeoaaTblRefNew
namespace Go.Proofs.Ytpklgbpgmeeeoaa.Tbl
set_option linter.unusedVariables false
set_option maxRecDepth 100000
open Go.RowKit Base IdxMath Foot Idx
set_option linter.ambiguousOpen false
set_option linter.unusedSimpArgs false

set_option maxHeartbeats 1600000 in
theorem news_walk (n : Int) (w : World) : Calls Try.prog 7 #[.int .i64 n] w fun e w' => e = .returned (.bool true) ∧ Below w.heap.size w w' := by
  by_cases hn : 1 ≤ n ∧ n ≤ 8
  · have h1 := hn.1
    have h8 := hn.2
    clear hn
    go_enter Try.func7, Try.ntmps7
    go_wp2_with fail
    refine (new_any n w).mono ?_
    intro e w1 k1
    obtain ⟨p, rfl, _, hb⟩ := k1.at_ h1 h8
    have HB := Lib.hid hb
    clear k1 hb
    go_wp2_with fail
    refine (refnewset_any n w1).mono ?_
    intro e w2 k2
    unfold RefMade at k2
    rw [if_pos ⟨h1, h8⟩] at k2
    obtain ⟨p2, rfl, hb2⟩ := k2
    have HB2 := Lib.hid (held_two HB.out hb2)
    clear hb2
    go_wp2_with fail
    refine (awake_any w2).mono ?_
    rintro e w3 ⟨rfl, hb3⟩
    have HB3 := Lib.hid (held_two HB2.out hb3)
    clear hb3
    go_wp2
    go_ret
    exact ⟨rfl, HB3.out⟩
  · have HN := Lib.hid hn
    clear hn
    go_enter Try.func7, Try.ntmps7
    go_wp2_with fail
    refine (new_any n w).mono ?_
    intro e w1 k1
    obtain ⟨rfl, rfl⟩ := k1.not_ HN.out
    clear k1
    go_wp2_with fail
    refine (refnewset_any n w).mono ?_
    intro e w2 k2
    unfold RefMade at k2
    rw [if_neg HN.out] at k2
    obtain ⟨rfl, rfl⟩ := k2
    go_wp2_with fail
    refine (awake_any w2).mono ?_
    rintro e w3 ⟨rfl, hb3⟩
    have HB3 := Lib.hid hb3
    clear hb3
    go_wp2
    go_ret
    exact ⟨rfl, HB3.out⟩
end Go.Proofs.Ytpklgbpgmeeeoaa.Tbl
