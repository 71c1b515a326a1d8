/-
  Contracts of package batch's readers of an op and of a note.
-/
import Derived.Test.YtlkjmdkmcaaihaaTxnReader
import Derived.Test.YtlkjmdkmcaaihaaItMem
namespace Go.Proofs.Ytlkjmdkmcaaihaa.Bt
set_option linter.unusedVariables false
set_option maxRecDepth 100000
open Go.RowKit Base FieldMath TxnMath BatchMath
open GuardMath (Gp noGp)
open Gd (Gps ov ov_append ov_one ov_length ocells oval oel)
open Txn (Rd St St.start St.call St.store St.recv cnumber2_any upTo_any yes2_any ctext2_any)
open Go.Proofs.Ytlkjmdkmcaaihaa.Field (fv fv_append fv_one fv_length fv_get fv_take Flds ef ret_bool empty_iff)
set_option linter.ambiguousOpen false
set_option linter.unusedSimpArgs false

def opz : Array Value := #[.int .i64 0, .int .i64 0, .int .i64 0, .bool false, .string ⟨#[]⟩]
abbrev OpSt := St 74 29 opz
set_option maxHeartbeats 3200000 in
theorem op_any (B g : Nat) (s : Rs) (w : World) (h : Rd w B g s) :
    Calls Try.prog 65 #[.agg #[.pointer (some ⟨g, 0, none⟩)]] w fun e w' => e = .returned (oval (rdO none none s).1) ∧ Rd w' B g (rdO none none s).2 ∧ w.grownBy w' (some g) := by
  obtain ⟨z0, hz0⟩ : ∃ z0, z0 = rdN none s := ⟨_, rfl⟩
  obtain ⟨z1, hz1⟩ : ∃ z1, z1 = rdN (some 7) z0.2 := ⟨_, rfl⟩
  obtain ⟨z2, hz2⟩ : ∃ z2, z2 = rdN none z1.2 := ⟨_, rfl⟩
  obtain ⟨z3, hz3⟩ : ∃ z3, z3 = rdN (some 1) z2.2 := ⟨_, rfl⟩
  obtain ⟨z4, hz4⟩ : ∃ z4, z4 = rdT z3.2 := ⟨_, rfl⟩
  have HE : Hid (rdO none none s = (⟨z0.1, z1.1, z2.1, z3.1 == 1, z4.1⟩, z4.2)) := by
    show _ = _
    rw [hz4, hz3, hz2, hz1, hz0]
    rfl
  have Hz0 := Lib.hid hz0
  have Hz1 := Lib.hid hz1
  have Hz2 := Lib.hid hz2
  have Hz3 := Lib.hid hz3
  have Hz4 := Lib.hid hz4
  have HR := Lib.hid h
  have hlt := h.lt
  clear h hz0 hz1 hz2 hz3 hz4
  go_enter Try.func65, Try.ntmps65
  go_wp2_with fail
  have HS0 : Hid (OpSt w B g s opz (((w.alloc (.cells #[.pointer (some ⟨g, 0, none⟩)] 74)).alloc (.cells opz 29)).alloc (.cells opz 29))) := St.start HR.out
  refine (cnumber2_any B g s _ HS0.out.1).mono ?_
  rintro e w1 ⟨he1, hr1, hg1⟩
  rw [← Hz0.out] at he1 hr1
  subst he1
  have HT1 := Lib.hid (HS0.out.call hlt hr1 hg1)
  have k1 : w1.cell? ⟨w.heap.size + 2, 0, none⟩ = some (.int .i64 0) := HT1.out.2.1.cell 0
  have f1 := HT1.out.2.1.frozen 0
  have c1 := HT1.out.recv
  clear hr1 hg1 HS0
  go_wp2_with fail
  have HS1 := Lib.hid (HT1.out.store hlt 0 (.int .i64 z0.1))
  refine (upTo_any B g z0.2 7 _ HS1.out.1 (by omega)).mono ?_
  rintro e w2 ⟨he2, hr2, hg2⟩
  rw [show ((7 : Nat) : Int) = 7 from rfl, ← Hz1.out] at he2 hr2
  subst he2
  have HT2 := Lib.hid (HS1.out.call hlt hr2 hg2)
  have k2 : w2.cell? ⟨w.heap.size + 2, 1, none⟩ = some (.int .i64 0) := HT2.out.2.1.cell 1
  have f2 := HT2.out.2.1.frozen 1
  have c2 := HT2.out.recv
  clear hr2 hg2 k1 f1 c1 HT1 HS1
  go_wp2_with fail
  have HS2 := Lib.hid (HT2.out.store hlt 1 (.int .i64 z1.1))
  refine (cnumber2_any B g z1.2 _ HS2.out.1).mono ?_
  rintro e w3 ⟨he3, hr3, hg3⟩
  rw [← Hz2.out] at he3 hr3
  subst he3
  have HT3 := Lib.hid (HS2.out.call hlt hr3 hg3)
  have k3 : w3.cell? ⟨w.heap.size + 2, 2, none⟩ = some (.int .i64 0) := HT3.out.2.1.cell 2
  have f3 := HT3.out.2.1.frozen 2
  have c3 := HT3.out.recv
  clear hr3 hg3 k2 f2 c2 HT2 HS2
  go_wp2_with fail
  have HS3 := Lib.hid (HT3.out.store hlt 2 (.int .i64 z2.1))
  refine (yes2_any B g z2.2 _ HS3.out.1).mono ?_
  rintro e w4 ⟨he4, hr4, hg4⟩
  rw [← Hz3.out] at he4 hr4
  subst he4
  have HT4 := Lib.hid (HS3.out.call hlt hr4 hg4)
  have k4 : w4.cell? ⟨w.heap.size + 2, 3, none⟩ = some (.bool false) := HT4.out.2.1.cell 3
  have f4 := HT4.out.2.1.frozen 3
  have c4 := HT4.out.recv
  clear hr4 hg4 k3 f3 c3 HT3 HS3
  generalize hz3g : (z3.1 == 1) = z3g at HE
  have Hz3g := Lib.hid hz3g
  go_wp2_with fail
  clear hz3g
  have HS4 := Lib.hid (HT4.out.store hlt 3 (.bool z3g))
  refine (ctext2_any B g z3.2 _ HS4.out.1).mono ?_
  rintro e w5 ⟨he5, hr5, hg5⟩
  rw [← Hz4.out] at he5 hr5
  subst he5
  have HT5 : Hid (OpSt w B g z4.2 #[.int .i64 z0.1, .int .i64 z1.1, .int .i64 z2.1, .bool z3g, .string ⟨#[]⟩] w5) := HS4.out.call hlt hr5 hg5
  clear hr5 hg5 k4 f4 c4 HT4 HS4
  have hx := HT5.out.2.1
  have hy : Blk w5 (w.heap.size + 1) 29 #[.int .i64 0, .int .i64 0, .int .i64 0, .bool false, .string ⟨#[]⟩] := HT5.out.2.2.1
  have p0 : w5.cell? ⟨w.heap.size + 2, 0, none⟩ = some (.int .i64 z0.1) := hx.cell 0
  have p1 : w5.cell? ⟨w.heap.size + 2, 1, none⟩ = some (.int .i64 z1.1) := hx.cell 1
  have p2 : w5.cell? ⟨w.heap.size + 2, 2, none⟩ = some (.int .i64 z2.1) := hx.cell 2
  have p3 : w5.cell? ⟨w.heap.size + 2, 3, none⟩ = some (.bool z3g) := hx.cell 3
  have p4 : w5.cell? ⟨w.heap.size + 2, 4, none⟩ = some (.string ⟨#[]⟩) := hx.cell 4
  have q0 : w5.cell? ⟨w.heap.size + 1, 0, none⟩ = some (.int .i64 0) := hy.cell 0
  have q1 : w5.cell? ⟨w.heap.size + 1, 1, none⟩ = some (.int .i64 0) := hy.cell 1
  have q2 : w5.cell? ⟨w.heap.size + 1, 2, none⟩ = some (.int .i64 0) := hy.cell 2
  have q3 : w5.cell? ⟨w.heap.size + 1, 3, none⟩ = some (.bool false) := hy.cell 3
  have q4 : w5.cell? ⟨w.heap.size + 1, 4, none⟩ = some (.string ⟨#[]⟩) := hy.cell 4
  have e4 := hx.frozen 4
  have r0 := hy.frozen 0
  have r1 := hy.frozen 1
  have r2 := hy.frozen 2
  have r3 := hy.frozen 3
  have r4 := hy.frozen 4
  clear hx hy
  have HR5 := Lib.hid HT5.out.1
  have HG5 := Lib.hid HT5.out.2.2.2.1
  have hlt2 : g < w.heap.size + 1 := by omega
  have hlt3 : g < w.heap.size + 2 := by omega
  clear HT5
  go_wp2
  rw [HE.out]
  refine bodyPost_ret (v := oval ⟨z0.1, z1.1, z2.1, z3g, z4.1⟩) (by simp [oval, results, Try.results65, go_sem, q0, q1, q2, q3, q4]) rfl ⟨rfl, ?_, ?_⟩
  · exact (((((HR5.out.far (by exact hlt3) _).far (by exact hlt2) _).far (by exact hlt2) _).far (by exact hlt2) _).far (by exact hlt2) _).far (by exact hlt2) _
  · exact only_setCell (only_setCell (only_setCell (only_setCell (only_setCell (only_setCell HG5.out (.inr (by show w.heap.size ≤ w.heap.size + 2; omega)) _) (.inr (by simp)) _) (.inr (by simp)) _) (.inr (by simp)) _) (.inr (by simp)) _) (.inr (by simp)) _
end Go.Proofs.Ytlkjmdkmcaaihaa.Bt

namespace Go.Proofs.Ytlkjmdkmcaaihaa.Bt
set_option linter.unusedVariables false
set_option maxRecDepth 100000
open Go.RowKit Base FieldMath TxnMath BatchMath
open GuardMath (Gp noGp)
open Gd (Gps ov ov_append ov_one ov_length ocells oval oel)
open Txn (Rd St St.start St.call St.store St.recv cnumber2_any upTo_any yes2_any ctext2_any)
open Go.Proofs.Ytlkjmdkmcaaihaa.Field (fv fv_append fv_one fv_length fv_get fv_take Flds ef ret_bool empty_iff)
set_option linter.ambiguousOpen false
set_option linter.unusedSimpArgs false

/-- how the code looks at a note's numbers -/
def codeB : NB := ⟨some 2, some 64, some 7, some 8, none, none⟩
theorem codeB_good : codeB.Good := ⟨covers_some (by omega), covers_some (by omega), covers_some (by omega), covers_some (by omega), covers_none _, covers_none _⟩
def ntz : Array Value := #[.int .i64 0, .int .i64 0, .int .i64 0, .int .i64 0, .int .i64 0, .int .i64 0, .bool false]
abbrev NtSt := St 74 27 ntz
set_option maxHeartbeats 3200000 in
theorem note_any (B g : Nat) (s : Rs) (w : World) (h : Rd w B g s) :
    Calls Try.prog 66 #[.agg #[.pointer (some ⟨g, 0, none⟩)]] w fun e w' => e = .returned (ntval (rdM codeB s).1) ∧ Rd w' B g (rdM codeB s).2 ∧ w.grownBy w' (some g) := by
  obtain ⟨z0, hz0⟩ : ∃ z0, z0 = rdN (some 2) s := ⟨_, rfl⟩
  obtain ⟨z1, hz1⟩ : ∃ z1, z1 = rdN (some 64) z0.2 := ⟨_, rfl⟩
  obtain ⟨z2, hz2⟩ : ∃ z2, z2 = rdN (some 7) z1.2 := ⟨_, rfl⟩
  obtain ⟨z3, hz3⟩ : ∃ z3, z3 = rdN (some 8) z2.2 := ⟨_, rfl⟩
  obtain ⟨z4, hz4⟩ : ∃ z4, z4 = rdN none z3.2 := ⟨_, rfl⟩
  obtain ⟨z5, hz5⟩ : ∃ z5, z5 = rdN none z4.2 := ⟨_, rfl⟩
  obtain ⟨z6, hz6⟩ : ∃ z6, z6 = rdN (some 1) z5.2 := ⟨_, rfl⟩
  have HE : Hid (rdM codeB s = (⟨z0.1, z1.1, z2.1, z3.1, z4.1, z5.1, z6.1 == 1⟩, z6.2)) := by
    show _ = _
    rw [hz6, hz5, hz4, hz3, hz2, hz1, hz0]
    rfl
  have Hz0 := Lib.hid hz0
  have Hz1 := Lib.hid hz1
  have Hz2 := Lib.hid hz2
  have Hz3 := Lib.hid hz3
  have Hz4 := Lib.hid hz4
  have Hz5 := Lib.hid hz5
  have Hz6 := Lib.hid hz6
  have HR := Lib.hid h
  have hlt := h.lt
  clear h hz0 hz1 hz2 hz3 hz4 hz5 hz6
  go_enter Try.func66, Try.ntmps66
  go_wp2_with fail
  have HS0 : Hid (NtSt w B g s ntz (((w.alloc (.cells #[.pointer (some ⟨g, 0, none⟩)] 74)).alloc (.cells ntz 27)).alloc (.cells ntz 27))) := St.start HR.out
  refine (upTo_any B g s 2 _ HS0.out.1 (by omega)).mono ?_
  rintro e w1 ⟨he1, hr1, hg1⟩
  rw [show ((2 : Nat) : Int) = 2 from rfl, ← Hz0.out] at he1 hr1
  subst he1
  have HT1 := Lib.hid (HS0.out.call hlt hr1 hg1)
  have k1 : w1.cell? ⟨w.heap.size + 2, 0, none⟩ = some (.int .i64 0) := HT1.out.2.1.cell 0
  have f1 := HT1.out.2.1.frozen 0
  have c1 := HT1.out.recv
  clear hr1 hg1 HS0
  go_wp2_with fail
  have HS1 := Lib.hid (HT1.out.store hlt 0 (.int .i64 z0.1))
  refine (upTo_any B g z0.2 64 _ HS1.out.1 (by omega)).mono ?_
  rintro e w2 ⟨he2, hr2, hg2⟩
  rw [show ((64 : Nat) : Int) = 64 from rfl, ← Hz1.out] at he2 hr2
  subst he2
  have HT2 := Lib.hid (HS1.out.call hlt hr2 hg2)
  have k2 : w2.cell? ⟨w.heap.size + 2, 1, none⟩ = some (.int .i64 0) := HT2.out.2.1.cell 1
  have f2 := HT2.out.2.1.frozen 1
  have c2 := HT2.out.recv
  clear hr2 hg2 k1 f1 c1 HT1 HS1
  go_wp2_with fail
  have HS2 := Lib.hid (HT2.out.store hlt 1 (.int .i64 z1.1))
  refine (upTo_any B g z1.2 7 _ HS2.out.1 (by omega)).mono ?_
  rintro e w3 ⟨he3, hr3, hg3⟩
  rw [show ((7 : Nat) : Int) = 7 from rfl, ← Hz2.out] at he3 hr3
  subst he3
  have HT3 := Lib.hid (HS2.out.call hlt hr3 hg3)
  have k3 : w3.cell? ⟨w.heap.size + 2, 2, none⟩ = some (.int .i64 0) := HT3.out.2.1.cell 2
  have f3 := HT3.out.2.1.frozen 2
  have c3 := HT3.out.recv
  clear hr3 hg3 k2 f2 c2 HT2 HS2
  go_wp2_with fail
  have HS3 := Lib.hid (HT3.out.store hlt 2 (.int .i64 z2.1))
  refine (upTo_any B g z2.2 8 _ HS3.out.1 (by omega)).mono ?_
  rintro e w4 ⟨he4, hr4, hg4⟩
  rw [show ((8 : Nat) : Int) = 8 from rfl, ← Hz3.out] at he4 hr4
  subst he4
  have HT4 := Lib.hid (HS3.out.call hlt hr4 hg4)
  have k4 : w4.cell? ⟨w.heap.size + 2, 3, none⟩ = some (.int .i64 0) := HT4.out.2.1.cell 3
  have f4 := HT4.out.2.1.frozen 3
  have c4 := HT4.out.recv
  clear hr4 hg4 k3 f3 c3 HT3 HS3
  go_wp2_with fail
  have HS4 := Lib.hid (HT4.out.store hlt 3 (.int .i64 z3.1))
  refine (cnumber2_any B g z3.2 _ HS4.out.1).mono ?_
  rintro e w5 ⟨he5, hr5, hg5⟩
  rw [← Hz4.out] at he5 hr5
  subst he5
  have HT5 := Lib.hid (HS4.out.call hlt hr5 hg5)
  have k5 : w5.cell? ⟨w.heap.size + 2, 4, none⟩ = some (.int .i64 0) := HT5.out.2.1.cell 4
  have f5 := HT5.out.2.1.frozen 4
  have c5 := HT5.out.recv
  clear hr5 hg5 k4 f4 c4 HT4 HS4
  go_wp2_with fail
  have HS5 := Lib.hid (HT5.out.store hlt 4 (.int .i64 z4.1))
  refine (cnumber2_any B g z4.2 _ HS5.out.1).mono ?_
  rintro e w6 ⟨he6, hr6, hg6⟩
  rw [← Hz5.out] at he6 hr6
  subst he6
  have HT6 := Lib.hid (HS5.out.call hlt hr6 hg6)
  have k6 : w6.cell? ⟨w.heap.size + 2, 5, none⟩ = some (.int .i64 0) := HT6.out.2.1.cell 5
  have f6 := HT6.out.2.1.frozen 5
  have c6 := HT6.out.recv
  clear hr6 hg6 k5 f5 c5 HT5 HS5
  go_wp2_with fail
  have HS6 := Lib.hid (HT6.out.store hlt 5 (.int .i64 z5.1))
  refine (yes2_any B g z5.2 _ HS6.out.1).mono ?_
  rintro e w7 ⟨he7, hr7, hg7⟩
  rw [← Hz6.out] at he7 hr7
  subst he7
  have HT7 : Hid (NtSt w B g z6.2 #[.int .i64 z0.1, .int .i64 z1.1, .int .i64 z2.1, .int .i64 z3.1, .int .i64 z4.1, .int .i64 z5.1, .bool false] w7) := HS6.out.call hlt hr7 hg7
  clear hr7 hg7 k6 f6 c6 HT6 HS6
  generalize hz6g : (z6.1 == 1) = z6g at HE
  have Hz6g := Lib.hid hz6g
  have hx := HT7.out.2.1
  have hy : Blk w7 (w.heap.size + 1) 27 #[.int .i64 0, .int .i64 0, .int .i64 0, .int .i64 0, .int .i64 0, .int .i64 0, .bool false] := HT7.out.2.2.1
  have p0 : w7.cell? ⟨w.heap.size + 2, 0, none⟩ = some (.int .i64 z0.1) := hx.cell 0
  have p1 : w7.cell? ⟨w.heap.size + 2, 1, none⟩ = some (.int .i64 z1.1) := hx.cell 1
  have p2 : w7.cell? ⟨w.heap.size + 2, 2, none⟩ = some (.int .i64 z2.1) := hx.cell 2
  have p3 : w7.cell? ⟨w.heap.size + 2, 3, none⟩ = some (.int .i64 z3.1) := hx.cell 3
  have p4 : w7.cell? ⟨w.heap.size + 2, 4, none⟩ = some (.int .i64 z4.1) := hx.cell 4
  have p5 : w7.cell? ⟨w.heap.size + 2, 5, none⟩ = some (.int .i64 z5.1) := hx.cell 5
  have p6 : w7.cell? ⟨w.heap.size + 2, 6, none⟩ = some (.bool false) := hx.cell 6
  have q0 : w7.cell? ⟨w.heap.size + 1, 0, none⟩ = some (.int .i64 0) := hy.cell 0
  have q1 : w7.cell? ⟨w.heap.size + 1, 1, none⟩ = some (.int .i64 0) := hy.cell 1
  have q2 : w7.cell? ⟨w.heap.size + 1, 2, none⟩ = some (.int .i64 0) := hy.cell 2
  have q3 : w7.cell? ⟨w.heap.size + 1, 3, none⟩ = some (.int .i64 0) := hy.cell 3
  have q4 : w7.cell? ⟨w.heap.size + 1, 4, none⟩ = some (.int .i64 0) := hy.cell 4
  have q5 : w7.cell? ⟨w.heap.size + 1, 5, none⟩ = some (.int .i64 0) := hy.cell 5
  have q6 : w7.cell? ⟨w.heap.size + 1, 6, none⟩ = some (.bool false) := hy.cell 6
  have e6 := hx.frozen 6
  have r0 := hy.frozen 0
  have r1 := hy.frozen 1
  have r2 := hy.frozen 2
  have r3 := hy.frozen 3
  have r4 := hy.frozen 4
  have r5 := hy.frozen 5
  have r6 := hy.frozen 6
  clear hx hy
  have HR7 := Lib.hid HT7.out.1
  have HG7 := Lib.hid HT7.out.2.2.2.1
  have hlt2 : g < w.heap.size + 1 := by omega
  have hlt3 : g < w.heap.size + 2 := by omega
  clear HT7
  go_wp2
  rw [HE.out]
  refine bodyPost_ret (v := ntval ⟨z0.1, z1.1, z2.1, z3.1, z4.1, z5.1, z6g⟩) (by simp [ntval, results, Try.results66, go_sem, q0, q1, q2, q3, q4, q5, q6]) rfl ⟨rfl, ?_, ?_⟩
  · exact (((((((HR7.out.far (by exact hlt3) _).far (by exact hlt2) _).far (by exact hlt2) _).far (by exact hlt2) _).far (by exact hlt2) _).far (by exact hlt2) _).far (by exact hlt2) _).far (by exact hlt2) _
  · exact only_setCell (only_setCell (only_setCell (only_setCell (only_setCell (only_setCell (only_setCell (only_setCell HG7.out (.inr (by show w.heap.size ≤ w.heap.size + 2; omega)) _) (.inr (by simp)) _) (.inr (by simp)) _) (.inr (by simp)) _) (.inr (by simp)) _) (.inr (by simp)) _) (.inr (by simp)) _) (.inr (by simp)) _
end Go.Proofs.Ytlkjmdkmcaaihaa.Bt
