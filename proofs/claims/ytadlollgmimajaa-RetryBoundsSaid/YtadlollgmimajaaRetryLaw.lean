/-
  The laws on retries: their first line; the walks. No condition.
-/
import Derived.Test.YtadlollgmimajaaRetryFail
import Derived.Test.YtadlollgmimajaaRtOpOpen
import Derived.OwnWalk
namespace Go.Proofs.Ytadlollgmimajaa.Rt
set_option linter.unusedVariables false
set_option maxRecDepth 100000
open Go.RowKit Base BackMath RetryMath Back Last
open Go.Proofs.Ytadlollgmimajaa.Field (modZ modZ_lt mod_any bigZ bigZ_lt playbig_any)
set_option linter.ambiguousOpen false
set_option linter.unusedSimpArgs false

section
variable {w w' : World} {g x : Nat} {b m j f u : Int}
theorem RetAt.below (h : RetAt w g b m j f u) (hb : Below w.heap.size w w') : RetAt w' g b m j f u := Blk.below h hb (Blk.lt h)
theorem RefAt.below (h : RefAt w g b m j f u) (hb : Below w.heap.size w w') : RefAt w' g b m j f u := Blk.below h hb (Blk.lt h)
theorem RetAt.grown (h : RetAt w g b m j f u) (hb : w.grownBy w' (some x)) (hx : g ≠ x) : RetAt w' g b m j f u := Blk.grown h hb (fun e => hx (by injection e))
theorem RefAt.grown (h : RefAt w g b m j f u) (hb : w.grownBy w' (some x)) (hx : g ≠ x) : RefAt w' g b m j f u := Blk.grown h hb (fun e => hx (by injection e))
theorem ret_ne {b' m' j' f' u' : Int} (h : RetAt w g b m j f u) (k : RefAt w x b' m' j' f' u') : g ≠ x := fun e => by
  subst e
  have h1 : w.heap[g]? = _ := h
  have h2 : w.heap[g]? = _ := k
  rw [h1] at h2
  injection h2 with h2
  injection h2 with _ h2
  exact absurd h2 (by decide)
theorem ret_new (w : World) (b m j : Int) : RetAt (w.alloc (.cells #[.int .i64 b, .int .i64 m, .int .i64 j, .int .i64 0, .int .i64 0] 47)) w.heap.size b m j 0 0 := Blk.new _ _ _
theorem grown_below {B : Nat} (h : w.grownBy w' (some g)) (hg : B ≤ g) (hB : B ≤ w.heap.size) : Below B w w' := ⟨h.os, h.tape, h.output, h.size, fun i hi => h.block i (by omega) (fun e => by injection e with e; omega)⟩
end
set_option maxHeartbeats 1600000 in
theorem awake_any (w : World) : Calls Try.prog 8 #[] w fun e w' => e = .returned (.bool true) ∧ Below w.heap.size w w' := by
  go_enter Try.func8, Try.ntmps8
  go_wp2_with fail
  refine (new_any 5 100 0 w).mono ?_
  rintro e w1 (⟨_, rfl, hw1⟩ | ⟨h, _⟩)
  rotate_left
  · exact absurd h (by decide)
  have hr1 := ret_new w 5 100 0
  rw [← hw1] at hr1
  have hb1 : Below w.heap.size w w1 := by rw [hw1]; exact (Below.refl _ _).alloc (Nat.le_refl _) _
  obtain ⟨g, hg⟩ : ∃ g, g = w.heap.size := ⟨_, rfl⟩
  rw [← hg] at hr1 ⊢
  have HR1 := Lib.hid hr1
  have HB1 := Lib.hid hb1
  have HG := Lib.hid hg
  clear hr1 hb1 hg hw1
  go_wp2_with fail
  refine (new_any 0 1 0 w1).mono ?_
  rintro e w2 (⟨h, _⟩ | ⟨_, rfl, hw2⟩)
  · exact absurd h (by decide)
  obtain rfl : w1 = w2 := hw2.symm
  go_wp2_with fail
  refine (fail_any g 5 100 0 0 0 7 0 w1 HR1.out (by omega)).mono ?_
  rw [show clk 7 + wt (0 + 1) 5 100 0 0 = 17 by decide]
  rintro e w2 ⟨rfl, hr2, hg2⟩
  have HR2 := Lib.hid hr2
  have HB2 := Lib.hid (HB1.out.trans (grown_below hg2 (by rw [HG.out]; exact Nat.le_refl _) HB1.out.size))
  clear hr2 hg2
  go_wp2_with fail
  refine (fail_any g 5 100 0 (0 + 1) 17 17 0 w2 HR2.out (by omega)).mono ?_
  rw [show clk 17 + wt (0 + 1 + 1) 5 100 0 0 = 37 by decide]
  rintro e w3 ⟨rfl, hr3, hg3⟩
  have hr3' : RetAt w3 g 5 100 0 2 37 := hr3
  have HR3 := Lib.hid hr3'
  have HB3 := Lib.hid (HB2.out.trans (grown_below hg3 (by rw [HG.out]; exact Nat.le_refl _) HB2.out.size))
  clear hr3 hr3' hg3
  go_wp2_with fail
  refine (fails_any g _ _ _ _ _ w3 HR3.out).mono ?_
  rintro e wz ⟨rfl, rfl⟩
  go_wp2_with fail
  refine (until_any g _ _ _ _ _ w3 HR3.out).mono ?_
  rintro e wz ⟨rfl, rfl⟩
  go_wp2_with fail
  refine (ready_any g _ _ _ _ _ 36 w3 HR3.out).mono ?_
  rintro e wz ⟨rfl, rfl⟩
  rw [show decide ((37 : Int) ≤ 36) = false by decide]
  go_wp2_with fail
  refine (ready_any g _ _ _ _ _ 37 w3 HR3.out).mono ?_
  rintro e wz ⟨rfl, rfl⟩
  rw [show decide ((37 : Int) ≤ 37) = true by decide]
  go_wp2
  go_ret
  exact ⟨rfl, HB3.out⟩
set_option maxHeartbeats 1600000 in
theorem news_walk (b m j : Int) (w : World) : Calls Try.prog 3 #[.int .i64 b, .int .i64 m, .int .i64 j] w fun e w' => e = .returned (.bool true) ∧ Below w.heap.size w w' := by
  go_enter Try.func3, Try.ntmps3
  go_wp2_with fail
  refine (new_any b m j w).mono ?_
  rintro e w1 (⟨hm, rfl, hw1⟩ | ⟨hm, rfl, hw1⟩)
  · have hr1 := ret_new w b m j
    rw [← hw1] at hr1
    have hb1 : Below w.heap.size w w1 := by rw [hw1]; exact (Below.refl _ _).alloc (Nat.le_refl _) _
    obtain ⟨g, hg⟩ : ∃ g, g = w.heap.size := ⟨_, rfl⟩
    rw [← hg] at hr1 ⊢
    have HR1 := Lib.hid hr1
    have HB1 := Lib.hid hb1
    clear hr1 hb1 hg hw1
    go_wp2_with fail
    refine (refmay_any b m j w1).mono ?_
    rintro e wz ⟨rfl, rfl⟩
    rw [hm]
    clear hm
    go_wp2_with fail
    refine (awake_any w1).mono ?_
    rintro e w2 ⟨rfl, hb2⟩
    have HR2 := Lib.hid (HR1.out.below hb2)
    have HB2 := Lib.hid (held_two HB1.out hb2)
    clear hb2
    go_wp2_with fail
    refine (until_any g _ _ _ _ _ w2 HR2.out).mono ?_
    rintro e wz ⟨rfl, rfl⟩
    go_wp2_with fail
    refine (fails_any g _ _ _ _ _ w2 HR2.out).mono ?_
    rintro e wz ⟨rfl, rfl⟩
    go_wp2_with fail
    refine (ready_any g _ _ _ _ _ 0 w2 HR2.out).mono ?_
    rintro e wz ⟨rfl, rfl⟩
    rw [show decide ((0 : Int) ≤ 0) = true by decide]
    go_wp2
    go_ret
    exact ⟨rfl, HB2.out⟩
  · obtain rfl : w = w1 := hw1.symm
    go_wp2_with fail
    refine (refmay_any b m j w).mono ?_
    rintro e wz ⟨rfl, rfl⟩
    rw [hm]
    clear hm
    go_wp2_with fail
    refine (awake_any w).mono ?_
    rintro e w2 ⟨rfl, hb2⟩
    have HB2 := Lib.hid hb2
    clear hb2
    go_wp2
    go_ret
    exact ⟨rfl, HB2.out⟩
end Go.Proofs.Ytadlollgmimajaa.Rt
