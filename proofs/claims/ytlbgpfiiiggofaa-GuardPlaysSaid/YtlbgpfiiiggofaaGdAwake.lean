/-
  The first line of each statement on a replica (awake). No condition.
-/
import Derived.Test.YtlbgpfiiiggofaaGdPuts
import Derived.Test.YtlbgpfiiiggofaaRowHelp
namespace Go.Proofs.Ytlbgpfiiiggofaa.Gd
set_option linter.unusedVariables false
set_option linter.unusedSimpArgs false
set_option maxRecDepth 100000
open Go.RowKit Base GuardMath Foot
open Idx (rv rv_append er Rs)
set_option linter.ambiguousOpen false

theorem otwo (w : World) (f g : Gp) {s : Nat} (hs : s = w.heap.size) : Row (w.alloc (.cells #[.int .i64 f.lsn, .int .i64 f.tbl, .int .i64 f.key, .bool f.gone, .string f.val, .int .i64 g.lsn, .int .i64 g.tbl, .int .i64 g.key, .bool g.gone, .string g.val] 32)) (w.heap.size + 1) 5 (some ⟨s, 0, none⟩) 2 2 (ov [f, g]) :=
  Row.lit w #[.int .i64 f.lsn, .int .i64 f.tbl, .int .i64 f.key, .bool f.gone, .string f.val, .int .i64 g.lsn, .int .i64 g.tbl, .int .i64 g.key, .bool g.gone, .string g.val] _ (0, 0) hs rfl (by omega)
def awA : Gp := ⟨5, 0, 1, false, ⟨#[97]⟩⟩
def awB : Gp := ⟨4, 0, 1, true, ⟨#[]⟩⟩
theorem aw_cnt : cnt (E 1) [awA, awB] = 1 := by rfl
theorem aw_tab : tab (doAll (E 1) [awA, awB]) 0 = [⟨1, 5, false, ⟨#[97]⟩⟩] := by rfl
theorem aw_rows : rows [⟨1, 5, false, ⟨#[97]⟩⟩] = [⟨1, ⟨#[97]⟩⟩] := by rfl
theorem in64_small {k : Int} (h0 : -1000000 ≤ k) (h1 : k ≤ 1000000) : In64 k := ⟨by omega, by omega⟩
/-- what lies behind a replica is not its own -/
theorem not_own {g n s : Nat} (h : g + 2 + n ≤ s) : ¬ Own g n s := fun ho => by have := ho.2; omega
theorem turn_below {g n B : Nat} {w w' : World} (h : Turn (Own g n) w w') (hg : B ≤ g) (hB : B ≤ w.heap.size) : Below B w w' := h.below (fun i hi => Nat.le_trans hg hi.1) hB
set_option maxHeartbeats 3200000 in
theorem awake_any (w : World) : Calls Try.prog 19 #[] w fun e w' => e = .returned (.bool true) ∧ Below w.heap.size w w' := by
  go_enter Try.func19, Try.ntmps19
  go_wp2_with fail
  refine (new_any 1 (by omega) (by omega) _).mono ?_
  rintro e w1 ⟨rfl, hg, hz, hb⟩
  have HG := Lib.hid hg
  have HZ := Lib.hid hz
  have HB := Lib.hid hb
  clear hg hz hb
  go_wp2_with fail
  refine (new_none 9 (.inr (by omega)) _).mono ?_
  rintro e w2 ⟨rfl, rfl⟩
  have hlit : Gps (w1.alloc (.cells #[.int .i64 5, .int .i64 0, .int .i64 1, .bool false, .string ⟨#[97]⟩, .int .i64 4, .int .i64 0, .int .i64 1, .bool true, .string ⟨#[]⟩] 32)) (w1.heap.size + 1) (some ⟨w1.heap.size, 0, none⟩) 2 2 [awA, awB] := otwo w1 awA awB rfl
  have hga := HG.out.new (w' := w1.alloc (.cells #[.int .i64 5, .int .i64 0, .int .i64 1, .bool false, .string ⟨#[97]⟩, .int .i64 4, .int .i64 0, .int .i64 1, .bool true, .string ⟨#[]⟩] 32)) ((Below.refl _ _).alloc (Nat.le_refl _) _)
  have hba := HB.out.alloc HB.out.size (.cells #[.int .i64 5, .int .i64 0, .int .i64 1, .bool false, .string ⟨#[97]⟩, .int .i64 4, .int .i64 0, .int .i64 1, .bool true, .string ⟨#[]⟩] 32)
  have HL := Lib.hid hlit
  have HGA := Lib.hid hga
  have HBA := Lib.hid hba
  clear hlit hga hba
  go_wp2_with fail
  refine (put_any w.heap.size 1 0 (E 1) (w1.heap.size + 1) _ 2 2 [awA, awB] _ HGA.out HL.out (by simp) (fun b off e => by injection e with e; injection e with e1 _; subst e1; exact not_own (by rw [HZ.out]; omega)) (fun o ho => by simp [awA, awB] at ho; rcases ho with rfl | rfl <;> exact in64_small (by decide) (by decide)) (by simp) (by omega)).mono ?_
  rintro e w3 ⟨rfl, hg3, ht3⟩
  rw [aw_cnt]
  have HG3 := Lib.hid hg3
  have HB3 : Hid (Below w.heap.size w w3) := HBA.out.trans (turn_below ht3 (Nat.le_refl _) HBA.out.size)
  clear hg3 ht3
  go_wp2_with fail
  refine (rows_any w.heap.size 1 _ _ 0 _ HG3.out (by simp) (by omega)).mono ?_
  rw [aw_tab, aw_rows]
  rintro e w4 ⟨A4, c4, rfl, h4, hb4⟩
  have H4 := Lib.hid h4
  have HG4 := Lib.hid (HG3.out.new hb4)
  have HB4 : Hid (Below w.heap.size w w4) := held_two HB3.out hb4
  clear h4 hb4
  have hlit : Rs (w4.alloc (.cells #[.int .i64 1, .string ⟨#[97]⟩] 43)) (w4.heap.size + 1) (some ⟨w4.heap.size, 0, none⟩) 1 1 [⟨1, ⟨#[97]⟩⟩] := row_one w4 1 _ rfl
  have HLR := Lib.hid hlit
  clear hlit
  go_wp2_with fail
  refine (Idx.rplain_same w4.heap.size _ A4 _ 1 1 c4 1 [⟨1, ⟨#[97]⟩⟩] _ (Rs.below (Rs.of_own H4.out) ((Below.refl _ _).alloc (Nat.le_refl _) _)) HLR.out (by simp) (by simp)).mono ?_
  rintro e w5 ⟨rfl, hb5⟩
  have hb5' := held_two (((Below.refl w4.heap.size w4).alloc (Nat.le_refl _) _)) hb5
  have HG5 := Lib.hid (HG4.out.new hb5')
  have HB5 : Hid (Below w.heap.size w w5) := held_two HB4.out hb5'
  clear hb5 hb5'
  go_wp2_with fail
  refine (cells_any w.heap.size 1 _ _ 0 _ HG5.out (by simp) (by omega)).mono ?_
  rw [aw_tab]
  rintro e w6 ⟨A6, c6, rfl, h6, hb6⟩
  have HG6 := Lib.hid (HG5.out.new hb6)
  have HB6 : Hid (Below w.heap.size w w6) := held_two HB5.out hb6
  clear h6 hb6
  go_wp2_with fail
  refine (tables_any w.heap.size 1 _ _ _ HG6.out).mono ?_
  rintro e w7 ⟨rfl, rfl⟩
  go_wp2
  go_ret
  exact ⟨rfl, HB6.out⟩
end Go.Proofs.Ytlbgpfiiiggofaa.Gd
