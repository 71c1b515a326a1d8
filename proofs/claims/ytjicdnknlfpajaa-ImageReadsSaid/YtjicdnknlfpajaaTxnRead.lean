/-
  Contract of package txn's reader of a change.
-/
import Derived.Test.YtjicdnknlfpajaaTxnReader
import Derived.Test.YtjicdnknlfpajaaTxnMem
namespace Go.Proofs.Ytjicdnknlfpajaa.Txn
set_option linter.unusedVariables false
set_option maxRecDepth 100000
open Go.RowKit Base FieldMath TxnMath
open Go.Proofs.Ytjicdnknlfpajaa.Field (fv fv_append fv_one fv_length fv_get fv_take Flds ef ret_bool empty_iff)
set_option linter.ambiguousOpen false

def chz : Array Value := #[.int .i64 0, .int .i64 0, .bool false, .string ⟨#[]⟩]
abbrev ChSt := St 80 27 chz
set_option maxHeartbeats 1600000 in
theorem change_any (B g : Nat) (s : Rs) (w : World) (h : Rd w B g s) :
    Calls Try.prog 84 #[.agg #[.pointer (some ⟨g, 0, none⟩)]] w fun e w' => e = .returned (chv (rdC none s).1) ∧ Rd w' B g (rdC none s).2 ∧ w.grownBy w' (some g) := by
  obtain ⟨a, ha⟩ : ∃ a, a = rdN (some 7) s := ⟨_, rfl⟩
  obtain ⟨b, hb⟩ : ∃ b, b = rdN none a.2 := ⟨_, rfl⟩
  obtain ⟨c, hc⟩ : ∃ c, c = rdN (some 1) b.2 := ⟨_, rfl⟩
  obtain ⟨d, hd⟩ : ∃ d, d = rdT c.2 := ⟨_, rfl⟩
  have HE : Hid (rdC none s = (⟨a.1, b.1, c.1 == 1, d.1⟩, d.2)) := by
    show _ = _
    rw [hd, hc, hb, ha]
    rfl
  have HA := Lib.hid ha
  have HBB := Lib.hid hb
  have HCC := Lib.hid hc
  have HDD := Lib.hid hd
  have HR := Lib.hid h
  have hlt := h.lt
  clear h ha hb hc hd
  go_enter Try.func84, Try.ntmps84
  go_wp2_with fail
  have HT0 : Hid (ChSt w B g s chz (((w.alloc (.cells #[.pointer (some ⟨g, 0, none⟩)] 80)).alloc (.cells chz 27)).alloc (.cells chz 27))) := St.start HR.out
  refine (upTo_any B g s 7 _ HT0.out.1 (by omega)).mono ?_
  rintro e w1 ⟨he1, hr1, hg1⟩
  rw [show ((7 : Nat) : Int) = 7 from rfl, ← HA.out] at he1 hr1
  subst he1
  have HT1 := Lib.hid (HT0.out.call hlt hr1 hg1)
  have k1 : w1.cell? ⟨w.heap.size + 2, 0, none⟩ = some (.int .i64 0) := HT1.out.2.1.cell 0
  have f1 := HT1.out.2.1.frozen 0
  have c1 := HT1.out.recv
  clear hr1 hg1 HT0
  go_wp2_with fail
  have HS1 := Lib.hid (HT1.out.store hlt 0 (.int .i64 a.1))
  refine (cnumber2_any B g a.2 _ HS1.out.1).mono ?_
  rintro e w2 ⟨he2, hr2, hg2⟩
  rw [← HBB.out] at he2 hr2
  subst he2
  have HT2 := Lib.hid (HS1.out.call hlt hr2 hg2)
  have k2 : w2.cell? ⟨w.heap.size + 2, 1, none⟩ = some (.int .i64 0) := HT2.out.2.1.cell 1
  have f2 := HT2.out.2.1.frozen 1
  have c2 := HT2.out.recv
  clear hr2 hg2 k1 f1 c1 HT1 HS1
  go_wp2_with fail
  have HS2 := Lib.hid (HT2.out.store hlt 1 (.int .i64 b.1))
  refine (yes2_any B g b.2 _ HS2.out.1).mono ?_
  rintro e w3 ⟨he3, hr3, hg3⟩
  rw [← HCC.out] at he3 hr3
  subst he3
  have HT3 := Lib.hid (HS2.out.call hlt hr3 hg3)
  have k3 : w3.cell? ⟨w.heap.size + 2, 2, none⟩ = some (.bool false) := HT3.out.2.1.cell 2
  have f3 := HT3.out.2.1.frozen 2
  have c3 := HT3.out.recv
  clear hr3 hg3 k2 f2 c2 HT2 HS2
  generalize hcg : (c.1 == 1) = cg at HE
  have HCG := Lib.hid hcg
  go_wp2_with fail
  clear hcg
  have HS3 := Lib.hid (HT3.out.store hlt 2 (.bool cg))
  refine (ctext2_any B g c.2 _ HS3.out.1).mono ?_
  rintro e w4 ⟨he4, hr4, hg4⟩
  rw [← HDD.out] at he4 hr4
  subst he4
  have HT4 : Hid (ChSt w B g d.2 #[.int .i64 a.1, .int .i64 b.1, .bool cg, .string ⟨#[]⟩] w4) := HS3.out.call hlt hr4 hg4
  have hx4 := HT4.out.2.1
  have hy4 : Blk w4 (w.heap.size + 1) 27 #[.int .i64 0, .int .i64 0, .bool false, .string ⟨#[]⟩] := HT4.out.2.2.1
  have p0 : w4.cell? ⟨w.heap.size + 2, 0, none⟩ = some (.int .i64 a.1) := hx4.cell 0
  have p1 : w4.cell? ⟨w.heap.size + 2, 1, none⟩ = some (.int .i64 b.1) := hx4.cell 1
  have p2 : w4.cell? ⟨w.heap.size + 2, 2, none⟩ = some (.bool cg) := hx4.cell 2
  have p3 : w4.cell? ⟨w.heap.size + 2, 3, none⟩ = some (.string ⟨#[]⟩) := hx4.cell 3
  have q0 : w4.cell? ⟨w.heap.size + 1, 0, none⟩ = some (.int .i64 0) := hy4.cell 0
  have q1 : w4.cell? ⟨w.heap.size + 1, 1, none⟩ = some (.int .i64 0) := hy4.cell 1
  have q2 : w4.cell? ⟨w.heap.size + 1, 2, none⟩ = some (.bool false) := hy4.cell 2
  have q3 : w4.cell? ⟨w.heap.size + 1, 3, none⟩ = some (.string ⟨#[]⟩) := hy4.cell 3
  have e3 := hx4.frozen 3
  have r0 := hy4.frozen 0
  have r1 := hy4.frozen 1
  have r2 := hy4.frozen 2
  have r3 := hy4.frozen 3
  clear hr4 hg4 k3 f3 c3 HT3 HS3 hx4 hy4
  have HR4 := Lib.hid HT4.out.1
  have HT5 := Lib.hid HT4.out.2.2.2.1
  have hlt2 : g < w.heap.size + 1 := by omega
  have hlt3 : g < w.heap.size + 2 := by omega
  clear HT4
  go_wp2
  rw [HE.out]
  refine bodyPost_ret (v := chv ⟨a.1, b.1, cg, d.1⟩) (by simp [chv, results, Try.results84, go_sem, q0, q1, q2, q3]) rfl ⟨rfl, ?_, ?_⟩
  · exact ((((HR4.out.far (by exact hlt3) _).far (by exact hlt2) _).far (by exact hlt2) _).far (by exact hlt2) _).far (by exact hlt2) _
  · exact only_setCell (only_setCell (only_setCell (only_setCell (only_setCell HT5.out (.inr (by show w.heap.size ≤ w.heap.size + 2; omega)) _) (.inr (by simp)) _) (.inr (by simp)) _) (.inr (by simp)) _) (.inr (by simp)) _
end Go.Proofs.Ytjicdnknlfpajaa.Txn
