/-
  Contract of package txn's reader of a change.
-/
import Derived.Test.YtjiicmkafidldaaTxnReader
namespace Go.Proofs.Ytjiicmkafidldaa.Txn
set_option linter.unusedVariables false
set_option maxRecDepth 100000
open Go.RowKit Base FieldMath TxnMath
open Go.Proofs.Ytjiicmkafidldaa.Field (fv fv_append fv_one fv_length fv_get fv_take Flds ef ret_bool empty_iff)
set_option linter.ambiguousOpen false

/-- a block of the call's own, kept where only block g and what is new turns -/
theorem Blk.kept {w w1 : World} {b g : Nat} {T : TypeId} {cs : Array Value} (h : Blk w b T cs) (hg : w.grownBy w1 (some g)) (hne : b ≠ g) : Blk w1 b T cs := h.grown hg (fun e => hne (by injection e))

set_option maxHeartbeats 1600000 in
theorem change_any (B g : Nat) (s : Rs) (w : World) (h : Rd w B g s) :
    Calls Try.prog 87 #[.pointer (some ⟨g, 0, none⟩)] w fun e w' => e = .returned (chv (rdC none s).1) ∧ Rd w' B g (rdC none s).2 ∧ w.grownBy w' (some g) := by
  obtain ⟨a, ha⟩ : ∃ a, a = rdN (some 7) s := ⟨_, rfl⟩
  obtain ⟨b, hb⟩ : ∃ b, b = rdN none a.2 := ⟨_, rfl⟩
  obtain ⟨c, hc⟩ : ∃ c, c = rdN (some 1) b.2 := ⟨_, rfl⟩
  obtain ⟨d, hd⟩ : ∃ d, d = rdT c.2 := ⟨_, rfl⟩
  have HE : Hid (rdC none s = (⟨a.1, b.1, c.1 == 1, d.1⟩, d.2)) := by
    show _ = _
    rw [hd, hc, hb, ha]
    rfl
  have HA := Lib.hid ha
  have HBB := Lib.hid hb
  have HCC := Lib.hid hc
  have HDD := Lib.hid hd
  have HR := Lib.hid h
  have hlt := h.lt
  have hlt1 : g < w.heap.size + 1 := by omega
  clear h ha hb hc hd
  go_enter Try.func87, Try.ntmps87
  go_wp2_with fail
  refine (upTo_any B g s 7 _ ((HR.out.alloc _).alloc _) (by omega)).mono ?_
  rintro e w1 ⟨he1, hr1, hg1⟩
  rw [show ((7 : Nat) : Int) = 7 from rfl, ← HA.out] at he1 hr1
  subst he1
  have HR1 := Lib.hid hr1
  have hz1 := hg1.size
  have HT1 : Hid (w.grownBy w1 (some g)) := only_trans (only_alloc (only_alloc (World.grownBy.refl w (some g)) _) _) hg1 (.inl rfl)
  have HX1 : Hid (Blk w1 (w.heap.size + 1) 27 #[.int .i64 0, .int .i64 0, .bool false, .string ⟨#[]⟩]) := Blk.kept (by have := Blk.new (w.alloc (.cells #[.int .i64 0, .int .i64 0, .bool false, .string ⟨#[]⟩] 27)) 27 #[.int .i64 0, .int .i64 0, .bool false, .string ⟨#[]⟩]; simpa using this) hg1 (by omega)
  have HY1 : Hid (Blk w1 w.heap.size 27 #[.int .i64 0, .int .i64 0, .bool false, .string ⟨#[]⟩]) := Blk.kept ((Blk.new w _ _).alloc _) hg1 (by omega)
  have k1 : w1.cell? ⟨w.heap.size + 1, 0, none⟩ = some (.int .i64 0) := HX1.out.cell 0
  have f1 := HX1.out.frozen 0
  clear hr1 hg1
  go_wp2_with fail
  refine (cnumber2_any B g a.2 _ (HR1.out.far (by exact hlt1) _)).mono ?_
  rintro e w2 ⟨he2, hr2, hg2⟩
  rw [← HBB.out] at he2 hr2
  subst he2
  have HR2 := Lib.hid hr2
  have HT2 : Hid (w.grownBy w2 (some g)) := only_trans (only_setCell HT1.out (.inr (by simp)) _) hg2 (.inl rfl)
  have HX2 : Hid (Blk w2 (w.heap.size + 1) 27 #[.int .i64 a.1, .int .i64 0, .bool false, .string ⟨#[]⟩]) := Blk.kept (HX1.out.set_ 0 _) hg2 (by omega)
  have HY2 : Hid (Blk w2 w.heap.size 27 #[.int .i64 0, .int .i64 0, .bool false, .string ⟨#[]⟩]) := Blk.kept (HY1.out.far (by simp) _) hg2 (by omega)
  have k2 : w2.cell? ⟨w.heap.size + 1, 1, none⟩ = some (.int .i64 0) := HX2.out.cell 1
  have f2 := HX2.out.frozen 1
  clear hr2 hg2 k1 f1 hz1 HX1 HY1 HR1
  go_wp2_with fail
  refine (upTo_any B g b.2 1 _ (HR2.out.far (by exact hlt1) _) (by omega)).mono ?_
  rintro e w3 ⟨he3, hr3, hg3⟩
  rw [show ((1 : Nat) : Int) = 1 from rfl, ← HCC.out] at he3 hr3
  subst he3
  have HR3 := Lib.hid hr3
  have HT3 : Hid (w.grownBy w3 (some g)) := only_trans (only_setCell HT2.out (.inr (by simp)) _) hg3 (.inl rfl)
  have HX3 : Hid (Blk w3 (w.heap.size + 1) 27 #[.int .i64 a.1, .int .i64 b.1, .bool false, .string ⟨#[]⟩]) := Blk.kept (HX2.out.set_ 1 _) hg3 (by omega)
  have HY3 : Hid (Blk w3 w.heap.size 27 #[.int .i64 0, .int .i64 0, .bool false, .string ⟨#[]⟩]) := Blk.kept (HY2.out.far (by simp) _) hg3 (by omega)
  have k3 : w3.cell? ⟨w.heap.size + 1, 2, none⟩ = some (.bool false) := HX3.out.cell 2
  have f3 := HX3.out.frozen 2
  clear hr3 hg3 k2 f2 HX2 HY2 HR2
  generalize hcg : (c.1 == 1) = cg at HE
  have HCG := Lib.hid hcg
  go_wp2_with fail
  clear hcg
  refine (ctext2_any B g c.2 _ (HR3.out.far (by exact hlt1) _)).mono ?_
  rintro e w4 ⟨he4, hr4, hg4⟩
  rw [← HDD.out] at he4 hr4
  subst he4
  have HR4 := Lib.hid hr4
  have HT4 : Hid (w.grownBy w4 (some g)) := only_trans (only_setCell HT3.out (.inr (by simp)) _) hg4 (.inl rfl)
  have hx4 : Blk w4 (w.heap.size + 1) 27 #[.int .i64 a.1, .int .i64 b.1, .bool cg, .string ⟨#[]⟩] := Blk.kept (HX3.out.set_ 2 _) hg4 (by omega)
  have hy4 : Blk w4 w.heap.size 27 #[.int .i64 0, .int .i64 0, .bool false, .string ⟨#[]⟩] := Blk.kept (HY3.out.far (by simp) _) hg4 (by omega)
  have p0 : w4.cell? ⟨w.heap.size + 1, 0, none⟩ = some (.int .i64 a.1) := hx4.cell 0
  have p1 : w4.cell? ⟨w.heap.size + 1, 1, none⟩ = some (.int .i64 b.1) := hx4.cell 1
  have p2 : w4.cell? ⟨w.heap.size + 1, 2, none⟩ = some (.bool cg) := hx4.cell 2
  have p3 : w4.cell? ⟨w.heap.size + 1, 3, none⟩ = some (.string ⟨#[]⟩) := hx4.cell 3
  have q0 : w4.cell? ⟨w.heap.size, 0, none⟩ = some (.int .i64 0) := hy4.cell 0
  have q1 : w4.cell? ⟨w.heap.size, 1, none⟩ = some (.int .i64 0) := hy4.cell 1
  have q2 : w4.cell? ⟨w.heap.size, 2, none⟩ = some (.bool false) := hy4.cell 2
  have q3 : w4.cell? ⟨w.heap.size, 3, none⟩ = some (.string ⟨#[]⟩) := hy4.cell 3
  have e3 := hx4.frozen 3
  have r0 := hy4.frozen 0
  have r1 := hy4.frozen 1
  have r2 := hy4.frozen 2
  have r3 := hy4.frozen 3
  clear hr4 hg4 k3 f3 HX3 HY3 HR3 hx4 hy4
  go_wp2
  rw [HE.out]
  refine bodyPost_ret (v := chv ⟨a.1, b.1, cg, d.1⟩) (by simp [chv, results, Try.results87, go_sem, q0, q1, q2, q3]) rfl ⟨rfl, ?_, ?_⟩
  · exact ((((HR4.out.far (by exact hlt1) _).far (by exact hlt) _).far (by exact hlt) _).far (by exact hlt) _).far (by exact hlt) _
  · exact only_setCell (only_setCell (only_setCell (only_setCell (only_setCell HT4.out (.inr (by simp)) _) (.inr (Nat.le_refl _)) _) (.inr (Nat.le_refl _)) _) (.inr (Nat.le_refl _)) _) (.inr (Nat.le_refl _)) _
end Go.Proofs.Ytjiicmkafidldaa.Txn
