/-
  The laws on faults: their first line; FaultMays.
-/
import Derived.Test.YtnbhbhnmidijkaaFaultPush
import Derived.Test.YtnbhbhnmidijkaaFaultRef
import Derived.Deep.DeepCutAuto
namespace Go.Proofs.Ytnbhbhnmidijkaa.Flt
set_option linter.unusedVariables false
set_option maxRecDepth 100000
open Go.RowKit Base FaultMath Foot
open Go.Proofs.Ytnbhbhnmidijkaa.Field (modZ modZ_lt mod_any)
set_option linter.ambiguousOpen false
set_option linter.unusedSimpArgs false

theorem ftwo (w : World) (f f' : Ft) {s : Nat} (hs : s = w.heap.size) : Fts (w.alloc (.cells #[.int .i64 f.kind, .int .i64 f.keep, .int .i64 f'.kind, .int .i64 f'.keep] 23)) (w.heap.size + 1) (some ⟨s, 0, none⟩) 2 2 [f, f'] :=
  Row.lit w #[.int .i64 f.kind, .int .i64 f.keep, .int .i64 f'.kind, .int .i64 f'.keep] _ (0, 0) hs rfl (by omega)
theorem out_none {w w' : World} {i : Nat} (h : Out (fun _ => False) w w' i) : w.heap.size ≤ i ∧ i < w'.heap.size := h.resolve_left id
theorem off_new {F : Nat → Prop} {w : World} (h : ∀ i, F i → i < w.heap.size) {s off : Nat} {n : Nat} (hs : w.heap.size ≤ s) : Off F (some ⟨s, off, none⟩) n := fun _ b hb hF => by
  injection hb with hb
  have hb : s = b := hb
  subst hb
  have := h _ hF
  omega
set_option maxHeartbeats 3200000 in
theorem awake_any (w : World) : Calls Try.prog 7 #[] w fun e w' => e = .returned (.bool true) ∧ Below w.heap.size w w' := by
  go_enter Try.func7, Try.ntmps7
  go_wp2_with fail
  refine (new_any w).mono ?_
  rintro e w1 ⟨rfl, hw1⟩
  have hp := plan_new w
  rw [← hw1] at hp
  have hb1 : Below w.heap.size w w1 := by rw [hw1]; exact (Below.refl _ _).alloc (Nat.le_refl _) _
  have hz1 : w.heap.size < w1.heap.size := by rw [hw1]; simp
  obtain ⟨F, hF⟩ : ∃ F, F = Out (fun _ => False) w w1 := ⟨_, rfl⟩
  have hFi : ∀ i, F i → w.heap.size ≤ i ∧ i < w1.heap.size := fun i hi => out_none (by rw [← hF]; exact hi)
  rw [← hF] at hp
  have HP := Lib.hid hp
  have HB1 := Lib.hid hb1
  have HF := Lib.hid hFi
  obtain ⟨g, hg⟩ : ∃ g, g = w.heap.size := ⟨_, rfl⟩
  rw [← hg] at HP hz1 ⊢
  have HG := Lib.hid hg
  clear hp hb1 hFi hF hw1 hg
  go_wp2_with fail
  have hb2 : Below w1.heap.size w1 (w1.alloc (.cells #[.int .i64 1, .int .i64 0, .int .i64 9, .int .i64 0] 23)) := (Below.refl _ _).alloc (Nat.le_refl _) _
  have HB2 := Lib.hid hb2
  have HP2 := Lib.hid (HP.out.below hb2)
  have HL2 := Lib.hid (ftwo w1 ⟨1, 0⟩ ⟨9, 0⟩ rfl)
  have hz2 : w1.heap.size + 1 ≤ (w1.alloc (.cells #[.int .i64 1, .int .i64 0, .int .i64 9, .int .i64 0] 23)).heap.size := by simp
  clear hb2
  generalize (w1.alloc (.cells #[.int .i64 1, .int .i64 0, .int .i64 9, .int .i64 0] 23)) = w2 at HB2 HP2 HL2 hz2 ⊢
  refine (push_any F g _ _ 2 2 [] _ w2 HP2.out HL2.out hz2 (off_new (fun i hi => (HF.out i hi).2) (Nat.le_refl _))).mono ?_
  rintro e w3 ⟨rfl, hp3, ht3⟩
  rw [show push [] [⟨1, 0⟩, ⟨9, 0⟩] = [⟨1, 0⟩] from rfl] at hp3 ⊢
  have HB3 : Hid (Below w.heap.size w w3) := Lib.hid ((HB1.out.trans (HB2.out.mono HB1.out.size)).trans (ht3.below (fun i hi => (HF.out i hi).1) (Nat.le_trans HB1.out.size HB2.out.size)))
  have HP3 := Lib.hid hp3
  have HF3 : Hid (∀ i, Out F w2 w3 i → w.heap.size ≤ i) := fun i hi => by
    rcases hi with hi | hi
    · exact (HF.out i hi).1
    · have := HB2.out.size; have := HB1.out.size; omega
  clear hp3 ht3
  go_wp2_with fail
  refine (next_some _ g ⟨1, 0⟩ [] w3 HP3.out).mono ?_
  rintro e w4 ⟨rfl, hp4, ht4⟩
  have HB4 : Hid (Below w.heap.size w w4) := Lib.hid (HB3.out.trans (ht4.below HF3.out HB3.out.size))
  have HP4 := Lib.hid hp4
  unfold firstV
  clear hp4 ht4
  go_wp2_with fail
  have hb5 : Below w4.heap.size w4 (w4.alloc (.cells #[.int .i64 1, .int .i64 0] 23)) := (Below.refl _ _).alloc (Nat.le_refl _) _
  refine (len_any _ g [] _ (HP4.out.below hb5)).mono ?_
  rintro e w5 ⟨rfl, rfl⟩
  have HB5 := Lib.hid (held_two HB4.out hb5)
  clear hb5
  go_wp2
  go_ret
  exact ⟨rfl, HB5.out⟩

set_option maxHeartbeats 6400000 in
theorem mays_walk (a b k : Int) (w : World) : Calls Try.prog 3 #[.agg #[.int .i64 a, .int .i64 b], .int .i64 k] w fun e w' => e = .returned (.bool true) ∧ Below w.heap.size w w' := by
  have HM := Lib.hid (fun w => mod_any a 5 w (by omega) (by omega))
  have HK := Lib.hid (fun w => mod_any k 3 w (by omega) (by omega))
  have hk := modZ_lt k (n := 3) (by omega)
  generalize modZ a 5 = m at HM
  generalize modZ k 3 = j at HK hk
  have W1 : IntKind.i64.wrap ((j : Int) - 1) = (j : Int) - 1 := IntWalk.i64_in _ (by omega)
  go_enter Try.func3, Try.ntmps3
  go_wp2_with fail
  refine (HM.out _).mono ?_
  rintro e w1 ⟨rfl, rfl⟩
  go_wp2_with fail
  refine (HK.out _).mono ?_
  rintro e w1 ⟨rfl, rfl⟩
  have hx : Blk ((w.alloc (.cells #[.int .i64 a, .int .i64 b] 23)).alloc (.cells #[.int .i64 m, .int .i64 ((j : Int) - 1)] 23)) w.heap.size 23 #[.int .i64 a, .int .i64 b] := (Blk.new w _ _).alloc _
  have hy : Blk ((w.alloc (.cells #[.int .i64 a, .int .i64 b] 23)).alloc (.cells #[.int .i64 m, .int .i64 ((j : Int) - 1)] 23)) (w.heap.size + 1) 23 #[.int .i64 m, .int .i64 ((j : Int) - 1)] := by
    have := Blk.new (w.alloc (.cells #[.int .i64 a, .int .i64 b] 23)) 23 #[.int .i64 m, .int .i64 ((j : Int) - 1)]
    simpa using this
  have hb : Below w.heap.size w ((w.alloc (.cells #[.int .i64 a, .int .i64 b] 23)).alloc (.cells #[.int .i64 m, .int .i64 ((j : Int) - 1)] 23)) := ((Below.refl _ _).alloc (Nat.le_refl _) _).alloc (by simp) _
  have HS : Hid (∀ wx, Below ((w.alloc (.cells #[.int .i64 a, .int .i64 b] 23)).alloc (.cells #[.int .i64 m, .int .i64 ((j : Int) - 1)] 23)).heap.size ((w.alloc (.cells #[.int .i64 a, .int .i64 b] 23)).alloc (.cells #[.int .i64 m, .int .i64 ((j : Int) - 1)] 23)) wx →
      wx.cell? ⟨w.heap.size, 0, none⟩ = some (.int .i64 a) ∧ wx.cell? ⟨w.heap.size, 1, none⟩ = some (.int .i64 b) ∧ wx.cell? ⟨w.heap.size + 1, 0, none⟩ = some (.int .i64 m) ∧ wx.cell? ⟨w.heap.size + 1, 1, none⟩ = some (.int .i64 ((j : Int) - 1)) ∧ Below ((w.alloc (.cells #[.int .i64 a, .int .i64 b] 23)).alloc (.cells #[.int .i64 m, .int .i64 ((j : Int) - 1)] 23)).heap.size ((w.alloc (.cells #[.int .i64 a, .int .i64 b] 23)).alloc (.cells #[.int .i64 m, .int .i64 ((j : Int) - 1)] 23)) wx) :=
    Lib.hid fun wx h => ⟨(hx.below h hx.lt).cell 0, (hx.below h hx.lt).cell 1, (hy.below h hy.lt).cell 0, (hy.below h hy.lt).cell 1, h⟩
  have HB := Lib.hid hb
  clear hx hy hb
  obtain ⟨p, hp⟩ : ∃ p, may ⟨a, b⟩ = p := ⟨_, rfl⟩
  obtain ⟨q, hq⟩ : ∃ q, may ⟨m, (j : Int) - 1⟩ = q := ⟨_, rfl⟩
  have C1 := Lib.hid hp
  have C3 := Lib.hid hq
  clear hp hq
  cases p
  all_goals cases q
  all_goals (
    go_upto_region 2 with fail
    obtain ⟨z, hz⟩ : ∃ z, z = (j : Int) - 1 := ⟨_, rfl⟩
    rw [← hz] at HS HB C3 ⊢
    generalize ((w.alloc (.cells #[.int .i64 a, .int .i64 b] 23)).alloc (.cells #[.int .i64 m, .int .i64 z] 23)) = V at HS HB ⊢
    clear hz W1 hk
    go_region_held3 (fun wx => wx.cell? ⟨w.heap.size, 0, none⟩ = some (.int .i64 a) ∧ wx.cell? ⟨w.heap.size, 1, none⟩ = some (.int .i64 b) ∧ wx.cell? ⟨w.heap.size + 1, 0, none⟩ = some (.int .i64 m) ∧ wx.cell? ⟨w.heap.size + 1, 1, none⟩ = some (.int .i64 z) ∧ Below V.heap.size V wx)
      (first
        | exact HS.out _ (held_start V)
        | (go_split_ands; exact HS.out _ (by assumption))
        | (go_split_ands; exact HS.out _ (held_call (by assumption) hbm)))
      (first
        | (go_at_call 7; refine (awake_any _).mono ?_; rintro e wm ⟨rfl, hbm⟩)
        | (go_at_call 8; refine (may_any _ _ _).mono ?_; rintro e wm ⟨rfl, hgm⟩; have hbm := hgm.below; clear hgm; first | rw [C1.out] | rw [C3.out])
        | (go_at_call 9; refine (refmay_any _ _ _).mono ?_; rintro e wm ⟨rfl, hgm⟩; have hbm := hgm.below; clear hgm; first | rw [C1.out] | rw [C3.out])
        | fail)
    all_goals (
      have HW9 : Hid (Below V.heap.size V wm) := by go_split_ands; assumption
      go_wp2
      go_ret
      exact ⟨rfl, held_two HB.out HW9.out⟩))
theorem mays_walk2 (x : Ft) (k : Int) (v : Value) (w : World) (hv : v = fval x) : Calls Try.prog 3 #[v, .int .i64 k] w fun e w' => e = .returned (.bool true) ∧ Below w.heap.size w w' := by
  subst hv
  exact mays_walk x.kind x.keep k w
end Go.Proofs.Ytnbhbhnmidijkaa.Flt
