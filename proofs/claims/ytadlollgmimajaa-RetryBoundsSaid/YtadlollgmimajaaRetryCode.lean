/-
  Contracts of package retry and of the document's Retry. No condition.
-/
import Derived.Test.YtadlollgmimajaaRetryMath
import Derived.Test.YtadlollgmimajaaBackCode
import Derived.BigRegion
import Derived.Deep.RegionHeld3
namespace Go.Proofs.Ytadlollgmimajaa.Rt
set_option linter.unusedVariables false
set_option maxRecDepth 100000
open Go.RowKit Base BackMath RetryMath Back
set_option linter.ambiguousOpen false
set_option linter.unusedSimpArgs false

def RetAt (w : World) (g : Nat) (b m j f u : Int) : Prop := Blk w g 47 #[.int .i64 b, .int .i64 m, .int .i64 j, .int .i64 f, .int .i64 u]
def RefAt (w : World) (g : Nat) (b m j f u : Int) : Prop := Blk w g 35 #[.int .i64 b, .int .i64 m, .int .i64 j, .int .i64 f, .int .i64 u]
theorem only_set {a w : World} {g : Nat} (h : a.grownBy w (some g)) (i : Nat) (u : Value) : a.grownBy (w.setCell ⟨g, i, none⟩ u) (some g) := only_setCell h (p := ⟨g, i, none⟩) (.inl rfl) u
set_option maxHeartbeats 400000 in
theorem clock_any (n : Int) (w : World) : Calls Try.prog 20 #[.int .i64 n] w fun e w' => e = .returned (.int .i64 (clk n)) ∧ w = w' := by
  go_enter Try.func20, Try.ntmps20
  go_wp2
  all_goals (go_ret; exact ⟨ret_int (by unfold clk; omega), rfl⟩)
set_option maxHeartbeats 400000 in
theorem refclock_any (n : Int) (w : World) : Calls Try.prog 22 #[.int .i64 n] w fun e w' => e = .returned (.int .i64 (clk n)) ∧ w = w' := by
  go_enter Try.func22, Try.ntmps22
  go_wp2
  all_goals (go_ret; exact ⟨ret_int (by unfold clk; omega), rfl⟩)
set_option maxHeartbeats 800000 in
theorem pwait_any (b m j k d : Int) (w : World) : Calls Try.prog 21 #[.agg #[.int .i64 b, .int .i64 m, .int .i64 j], .int .i64 k, .int .i64 d] w fun e w' => e = .returned (.int .i64 (wt k b m j d)) ∧ Gr w w' := by
  go_enter Try.func21, Try.ntmps21
  go_wp2_with fail
  refine (wait_any k b m j d _).mono ?_
  rintro e w2 ⟨rfl, hg⟩
  have HG := Lib.hid (((Gr.refl w).alloc (.cells #[.int .i64 b, .int .i64 m, .int .i64 j] 43)).trans hg)
  clear hg
  obtain ⟨W, hW⟩ : ∃ W, W = wt k b m j d := ⟨_, rfl⟩
  rw [← hW]
  have HW := Lib.hid hW
  clear hW
  go_wp2
  go_ret
  exact ⟨ret_int HW.out, HG.out⟩
/-- what New answers -/
def NewV (w : World) (b m j : Int) : Value := if may b m j then .tuple #[.pointer (some ⟨w.heap.size, 0, none⟩), .int .i64 0] else .tuple #[.pointer none, .int .i64 1]
set_option maxHeartbeats 800000 in
theorem new_any (b m j : Int) (w : World) : Calls Try.prog 6 #[.int .i64 b, .int .i64 m, .int .i64 j] w fun e w' => (may b m j = true ∧ e = .returned (.tuple #[.pointer (some ⟨w.heap.size, 0, none⟩), .int .i64 0]) ∧ w' = w.alloc (.cells #[.int .i64 b, .int .i64 m, .int .i64 j, .int .i64 0, .int .i64 0] 47)) ∨ (may b m j = false ∧ e = .returned (.tuple #[.pointer none, .int .i64 1]) ∧ w' = w) := by
  go_enter Try.func6, Try.ntmps6
  go_wp2_with fail
  refine (may_any b m j w).mono ?_
  rintro e wz ⟨rfl, rfl⟩
  cases hm : may b m j with
  | false =>
    go_wp2
    go_ret2
    exact .inr ⟨hm, rfl, rfl⟩
  | true =>
    go_wp2
    go_ret2
    exact .inl ⟨hm, rfl, rfl⟩
set_option maxHeartbeats 400000 in
theorem until_any (g : Nat) (b m j f u : Int) (w : World) (h : RetAt w g b m j f u) : Calls Try.prog 9 #[.pointer (some ⟨g, 0, none⟩)] w fun e w' => e = .returned (.int .i64 u) ∧ w = w' := by
  have c4 : w.cell? ⟨g, 4, none⟩ = some (.int .i64 u) := Blk.cell h 4
  clear h
  go_enter Try.func9, Try.ntmps9
  go_wp2
  go_ret
  exact ⟨rfl, rfl⟩
set_option maxHeartbeats 400000 in
theorem fails_any (g : Nat) (b m j f u : Int) (w : World) (h : RetAt w g b m j f u) : Calls Try.prog 10 #[.pointer (some ⟨g, 0, none⟩)] w fun e w' => e = .returned (.int .i64 f) ∧ w = w' := by
  have c3 : w.cell? ⟨g, 3, none⟩ = some (.int .i64 f) := Blk.cell h 3
  clear h
  go_enter Try.func10, Try.ntmps10
  go_wp2
  go_ret
  exact ⟨rfl, rfl⟩
set_option maxHeartbeats 400000 in
theorem ready_any (g : Nat) (b m j f u n : Int) (w : World) (h : RetAt w g b m j f u) : Calls Try.prog 11 #[.pointer (some ⟨g, 0, none⟩), .int .i64 n] w fun e w' => e = .returned (.bool (decide (u ≤ n))) ∧ w = w' := by
  have c4 : w.cell? ⟨g, 4, none⟩ = some (.int .i64 u) := Blk.cell h 4
  clear h
  go_enter Try.func11, Try.ntmps11
  go_wp2
  go_ret
  exact ⟨ret_bool (by first | rfl | exact decide_eq_decide.2 (by omega)), rfl⟩
set_option maxHeartbeats 800000 in
theorem done_any (g : Nat) (b m j f u : Int) (w : World) (h : RetAt w g b m j f u) : Calls Try.prog 16 #[.pointer (some ⟨g, 0, none⟩)] w fun e w' => e = .returned (.tuple #[]) ∧ RetAt w' g b m j 0 0 ∧ w.grownBy w' (some g) := by
  have HH := Lib.hid h
  have c3 : w.cell? ⟨g, 3, none⟩ = some (.int .i64 f) := Blk.cell h 3
  have c4 : w.cell? ⟨g, 4, none⟩ = some (.int .i64 u) := Blk.cell h 4
  have f3 := Blk.frozen h 3
  have f4 := Blk.frozen h 4
  clear h
  go_enter Try.func16, Try.ntmps16
  go_wp2
  go_end0
  refine ⟨rfl, ?_, ?_⟩
  · have := (Blk.set_ (Blk.set_ HH.out 3 (.int .i64 0)) 4 (.int .i64 0))
    exact this
  · exact only_set (only_set (World.grownBy.refl _ _) 3 _) 4 _
set_option maxHeartbeats 800000 in
theorem refdone_any (g : Nat) (b m j f u : Int) (w : World) (h : RefAt w g b m j f u) : Calls Try.prog 17 #[.pointer (some ⟨g, 0, none⟩)] w fun e w' => e = .returned (.tuple #[]) ∧ RefAt w' g b m j 0 0 ∧ w.grownBy w' (some g) := by
  have HH := Lib.hid h
  have c3 : w.cell? ⟨g, 3, none⟩ = some (.int .i64 f) := Blk.cell h 3
  have c4 : w.cell? ⟨g, 4, none⟩ = some (.int .i64 u) := Blk.cell h 4
  have f3 := Blk.frozen h 3
  have f4 := Blk.frozen h 4
  clear h
  go_enter Try.func17, Try.ntmps17
  go_wp2
  go_end0
  refine ⟨rfl, ?_, ?_⟩
  · have := (Blk.set_ (Blk.set_ HH.out 3 (.int .i64 0)) 4 (.int .i64 0))
    exact this
  · exact only_set (only_set (World.grownBy.refl _ _) 3 _) 4 _
end Go.Proofs.Ytadlollgmimajaa.Rt
