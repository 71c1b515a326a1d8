/-
  Contracts of package disk's small functions: a file is found, an operation is counted, a file is cut.
-/
import Derived.Test.YtedfddnbgljcjaaGreatDiskMem
import Derived.Outline
import Derived.IntWalk
import Derived.WalkLawsBesides
import Derived.Deep.QuietTactic
import Derived.BigQuiet
namespace Go.Proofs.YtedfddnbgljcjaaGreat.Disk
set_option maxRecDepth 100000
open Go.RowKit Base DiskMath
set_option linter.ambiguousOpen false

/-- numbers that fit -/
def Fits (d : Dk) : Prop := d.ops < 4611686018427387904 ∧ d.left < 9223372036854775808
def I64 (f : Int) : Prop := -9223372036854775808 ≤ f ∧ f ≤ 9223372036854775807
theorem I64.wf {f : Int} (h : I64 f) : (Lit.int .i64 f).wf = true := by
  unfold I64 at h
  simp [Lit.wf, IntKind.min, IntKind.max, IntKind.signed, IntKind.bits]
  omega
theorem i64_of {f : Int} (h : (Lit.int .i64 f).wf = true) : I64 f := by
  simp [Lit.wf, IntKind.min, IntKind.max, IntKind.signed, IntKind.bits] at h
  exact ⟨by omega, by omega⟩
theorem Head.cells {w : World} {g m : Nat} {d : Dk} (h : Head w g d m) :
    w.cell? ⟨g, 0, none⟩ = some (.int .i64 d.ops) ∧ w.cell? ⟨g, 1, none⟩ = some (.int .i64 d.left) ∧ w.cell? ⟨g, 2, none⟩ = some (.bool d.off) ∧ w.cell? ⟨g, 3, none⟩ = some (.map (some m)) :=
  ⟨Blk.cell h 0, Blk.cell h 1, Blk.cell h 2, Blk.cell h 3⟩

theorem only_set {a w : World} {g : Nat} (h : a.grownBy w (some g)) (o : Nat) (u : Value) : a.grownBy (w.setCell ⟨g, o, none⟩ u) (some g) := only_setCell h (.inl rfl) u
theorem only_three (w : World) (g : Nat) (u v x : Value) : w.grownBy (((w.setCell ⟨g, 0, none⟩ u).setCell ⟨g, 1, none⟩ v).setCell ⟨g, 2, none⟩ x) (some g) := only_set (only_set (only_set (World.grownBy.refl _ _) _ _) _ _) _ _
set_option maxHeartbeats 400000 in
theorem spend_any (g m : Nat) (d : Dk) (w : World) (hh : Head w g d m) (hoff : d.off = false) (hf : Fits d) :
    Calls Tryz.prog 25 #[.pointer (some ⟨g, 0, none⟩)] w fun e w' => e = .returned (.int .i64 (told d)) ∧ Head w' g (tick d) m ∧ w.grownBy w' (some g) := by
  obtain ⟨files, left, off, ops⟩ := d
  obtain ⟨hf1, hf2⟩ := hf
  dsimp only at hoff hf1 hf2
  subst hoff
  obtain ⟨c0, c1, c2, _⟩ := hh.cells
  dsimp only at c0 c1 c2
  have z0 := Blk.frozen hh 0
  have z1 := Blk.frozen hh 1
  have z2 := Blk.frozen hh 2
  have HH := Lib.hid hh
  clear hh
  rcases Nat.eq_zero_or_pos left with h0 | h0
  · subst h0
    go_enter Tryz.func25, Tryz.ntmps25
    go_wp2
    go_ret
    refine ⟨rfl, ?_, only_set (World.grownBy.refl _ _) _ _⟩
    exact Blk.set_ HH.out 0 (.int .i64 (ops + 1))
  · by_cases h1 : left = 1
    · subst h1
      go_enter Tryz.func25, Tryz.ntmps25
      go_wp2
      go_ret
      refine ⟨rfl, ?_, only_three _ _ _ _ _⟩
      exact Blk.set_ (Blk.set_ (Blk.set_ HH.out 0 (.int .i64 (ops + 1))) 1 (.int .i64 0)) 2 (.bool true)
    · have hb : ((left : Int) - 1 == 0) = false := by simp; omega
      have HT := Lib.hid (show told ⟨files, left, false, ops⟩ = 0 from if_neg h1)
      have HL := Lib.hid (show ((left : Int) - 1) = ((left - 1 : Nat) : Int) by omega)
      have HB := Lib.hid (show decide (left = 1) = false from decide_eq_false h1)
      clear h1
      go_enter Tryz.func25, Tryz.ntmps25
      go_wp2
      go_ret
      refine ⟨by rw [HT.out]; rfl, ?_, only_three _ _ _ _ _⟩
      have := Blk.set_ (Blk.set_ (Blk.set_ HH.out 0 (.int .i64 (ops + 1))) 1 (.int .i64 (left - 1))) 2 (.bool false)
      unfold Head tick
      dsimp only
      rw [HB.out]
      rw [HL.out] at this ⊢
      exact this

theorem refuse_seen {d : Dk} {f : Int} {x : Fl} (hoff : d.off = false) (hu : Up 0 d.files) (hx : seek d.files f = some x) : 0 ≤ f ∧ f < 16384 ∧ refuse d f true = 0 := by
  obtain ⟨h1, h2⟩ := seek_mem hx
  have := hu.mem x h1
  refine ⟨by omega, by omega, ?_⟩
  unfold refuse
  rw [hoff, hx, if_neg (by simp), if_neg (by omega), if_neg (by simp)]

set_option maxHeartbeats 400000 in
/-- the file is there, and power is on -/
theorem find_yes (F : Nat → Prop) (g m : Nat) (pl : Int → Pl) (d : Dk) (f : Int) (x : Fl) (w : World) (hh : Head w g d m) (hb : Body w F d.files m pl) (hoff : d.off = false) (hx : seek d.files f = some x) :
    Calls Tryz.prog 24 #[.pointer (some ⟨g, 0, none⟩), .int .i64 f] w fun e w' => e = .returned (.tuple #[.pointer (some ⟨(pl f).p, 0, none⟩), .int .i64 0]) ∧ w = w' := by
  obtain ⟨h0, h1, h2⟩ := refuse_seen hoff hb.2.2.2 hx
  clear h2
  have hl := hb.finds (f := f) (I64.wf ⟨by omega, by omega⟩)
  obtain ⟨_, _, c2, c3⟩ := hh.cells
  rw [hoff] at c2
  rw [hx, Option.map_some] at hl
  clear hx hb hh hoff
  have h3 : decide (f < 0) = false := by simp; omega
  have h4 : decide (16384 ≤ f) = false := by simp; omega
  clear h0 h1
  go_enter Tryz.func24, Tryz.ntmps24
  go_wp2
  go_ret2
  exact ⟨rfl, rfl⟩

set_option maxHeartbeats 400000 in
/-- an operation on it is refused -/
theorem find_no (F : Nat → Prop) (g m : Nat) (pl : Int → Pl) (d : Dk) (f k : Int) (w : World) (hh : Head w g d m) (hb : Body w F d.files m pl) (hr : refuse d f true = k) (hk : k ≠ 0) :
    Calls Tryz.prog 24 #[.pointer (some ⟨g, 0, none⟩), .int .i64 f] w fun e w' => e = .returned (.tuple #[.pointer none, .int .i64 k]) ∧ w = w' := by
  obtain ⟨_, _, c2, c3⟩ := hh.cells
  unfold refuse at hr
  by_cases h1 : d.off = true
  · rw [h1] at c2
    rw [if_pos h1] at hr
    subst hr
    clear h1 hb hh
    go_enter Tryz.func24, Tryz.ntmps24
    go_wp2
    go_ret2
    exact ⟨rfl, rfl⟩
  · rw [Bool.not_eq_true] at h1
    rw [h1] at c2
    rw [h1, if_neg (by simp)] at hr
    by_cases h2 : f < 0 ∨ 16384 ≤ f
    · rw [if_pos h2] at hr
      subst hr
      rcases h2 with h2 | h2
      · clear h1 hb hh
        go_enter Tryz.func24, Tryz.ntmps24
        go_wp2
        go_ret2
        exact ⟨rfl, rfl⟩
      · have h3 : decide (f < 0) = false := by simp; omega
        clear h1 hb hh
        go_enter Tryz.func24, Tryz.ntmps24
        go_wp2
        go_ret2
        exact ⟨rfl, rfl⟩
    · rw [if_neg h2] at hr
      cases hx : seek d.files f with
      | some x =>
        rw [hx, if_neg (by simp)] at hr
        exact absurd hr.symm hk
      | none =>
        rw [hx, if_pos (by simp)] at hr
        subst hr
        have h3 : 0 ≤ f := by omega
        have h4 : f < 16384 := by omega
        have hl := hb.finds (f := f) (I64.wf ⟨by omega, by omega⟩)
        rw [hx, Option.map_none] at hl
        clear h1 h2 hb hh hx
        have h5 : decide (f < 0) = false := by simp; omega
        have h6 : decide (16384 ≤ f) = false := by simp; omega
        clear h3 h4
        go_enter Tryz.func24, Tryz.ntmps24
        go_wp2
        go_ret2
        exact ⟨rfl, rfl⟩
end Go.Proofs.YtedfddnbgljcjaaGreat.Disk
