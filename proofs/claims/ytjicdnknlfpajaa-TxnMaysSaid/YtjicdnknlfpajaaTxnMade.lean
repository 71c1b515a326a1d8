/-
  Contract of the statements' own one: a transaction that may be, of any one.
-/
import Derived.Test.YtjicdnknlfpajaaTxnTxns
namespace Go.Proofs.Ytjicdnknlfpajaa.Txn
set_option linter.unusedVariables false
set_option maxRecDepth 100000
open Go.RowKit Base FieldMath TxnMath
open Go.Proofs.Ytjicdnknlfpajaa.Field (ret_bool modZ modZ_lt mod_any bigZ bigZ_lt playbig_any cut_any)
set_option linter.ambiguousOpen false
set_option linter.unusedSimpArgs false

/-- sizes of texts that Go can have -/
def OkTx (t : Tx) : Prop := (∀ f ∈ t.chs, f.val.size ≤ 9223372036854775807) ∧ ∀ f ∈ t.sigs, f.size ≤ 9223372036854775807
def MadeOne (w : World) (e : Ending) (w' : World) : Prop := ∃ (t : Tx) (v : Value), e = .returned v ∧ t.may = true ∧ TxIn w' w'.heap.size t v ∧ Below w.heap.size w w'
set_option maxHeartbeats 3200000 in
theorem one_any (B : Nat) (t : Tx) (v : Value) (w : World) (h : TxIn w B t v) (hB : B ≤ w.heap.size) (hok : OkTx t) :
    Calls Try.prog 21 #[v] w (MadeOne w) := by
  obtain ⟨A, n, c, P, m, k, rfl, h1, h2⟩ := h
  unfold txv
  have HC := Lib.hid h1
  have HS := Lib.hid h2
  have HOK := Lib.hid hok
  have C1 := Lib.hid (fun w => playbig_any t.lsn 1099511627776 w (by omega) (by omega))
  have b1 := bigZ_lt t.lsn (n := 1099511627776) (by omega)
  generalize bigZ t.lsn 1099511627776 = z at C1 b1
  have hz : z ≤ 1099511627775 := by omega
  clear h1 h2 hok b1
  have HX : Hid (Blk ((w.alloc (.cells #[.int .i64 t.lsn, .int .i64 t.kind, .slice A n c, .slice P m k, .int .i64 t.mark] 25)).alloc (.cells txz 25)) w.heap.size 25 #[.int .i64 t.lsn, .int .i64 t.kind, .slice A n c, .slice P m k, .int .i64 t.mark]) := (Blk.new _ _ _).alloc _
  have HY : Hid (Blk ((w.alloc (.cells #[.int .i64 t.lsn, .int .i64 t.kind, .slice A n c, .slice P m k, .int .i64 t.mark] 25)).alloc (.cells txz 25)) (w.heap.size + 1) 25 txz) := by have := Blk.new (w.alloc (.cells #[.int .i64 t.lsn, .int .i64 t.kind, .slice A n c, .slice P m k, .int .i64 t.mark] 25)) 25 txz; exact Lib.hid (by simpa using this)
  have HW : Hid (Below w.heap.size w ((w.alloc (.cells #[.int .i64 t.lsn, .int .i64 t.kind, .slice A n c, .slice P m k, .int .i64 t.mark] 25)).alloc (.cells txz 25))) := ((Below.refl _ _).alloc (Nat.le_refl _) _).alloc (by simp) _
  have HZ : Hid (Blk (((w.alloc (.cells #[.int .i64 t.lsn, .int .i64 t.kind, .slice A n c, .slice P m k, .int .i64 t.mark] 25)).alloc (.cells txz 25)).alloc (.cells #[.int .i64 t.lsn, .int .i64 t.kind, .slice A n c, .slice P m k, .int .i64 t.mark] 25)) (w.heap.size + 2) 25 #[.int .i64 t.lsn, .int .i64 t.kind, .slice A n c, .slice P m k, .int .i64 t.mark]) := by have := Blk.new ((w.alloc (.cells #[.int .i64 t.lsn, .int .i64 t.kind, .slice A n c, .slice P m k, .int .i64 t.mark] 25)).alloc (.cells txz 25)) 25 #[.int .i64 t.lsn, .int .i64 t.kind, .slice A n c, .slice P m k, .int .i64 t.mark]; exact Lib.hid (by simpa using this)
  go_enter Try.func21, Try.ntmps21
  go_wp2_with fail
  refine (ptxns_any B (w.heap.size + 2) _ _ _ A n c t.chs P m k t.sigs _ HZ.out ((HC.out.below (HW.out.mono hB)).below ((Below.refl _ _).alloc (Nat.le_trans hB HW.out.size) _)) ((HS.out.below (HW.out.mono hB)).below ((Below.refl _ _).alloc (Nat.le_trans hB HW.out.size) _)) (by simp; omega) HOK.out.1 HOK.out.2).mono ?_
  rintro e w4 ⟨v0, rfl, ⟨A0, c0, kind, mark, A1, n1, c1, A2, n2, c2, rfl, hrow, hfit⟩, hb4⟩
  have HX4 := Lib.hid ((HX.out.alloc _).below hb4 (by first | (simp; done) | (simp; omega)))
  have HY4 := Lib.hid ((HY.out.alloc _).below hb4 (by first | (simp; done) | (simp; omega)))
  have HB4 := Lib.hid (held_two (HW.out.alloc HW.out.size _) hb4)
  obtain ⟨b, off, rfl, hbl, hcells⟩ := (Row.of_own hrow).at_ (k := 0) (by omega)
  have cell : ∀ (i : Nat) (u : Value), i < 5 → [Value.int .i64 1, .int .i64 kind, .slice A1 n1 c1, .slice A2 n2 c2, .int .i64 mark][0 * 5 + i]? = some u → w4.cell? ⟨b, off + (0 * 5 + i), none⟩ = some u := fun i u hi hu => by
    obtain ⟨u', h1, h2⟩ := hcells i hi
    rw [hu] at h1
    injection h1 with h1
    rw [h1]
    exact h2
  have e0 : w4.cell? ⟨b, off, none⟩ = some (.int .i64 1) := cell 0 _ (by omega) rfl
  have e1 : w4.cell? ⟨b, off + 1, none⟩ = some (.int .i64 kind) := cell 1 _ (by omega) rfl
  have e2 : w4.cell? ⟨b, off + 2, none⟩ = some (.slice A1 n1 c1) := cell 2 _ (by omega) rfl
  have e3 : w4.cell? ⟨b, off + 3, none⟩ = some (.slice A2 n2 c2) := cell 3 _ (by omega) rfl
  have e4 : w4.cell? ⟨b, off + 4, none⟩ = some (.int .i64 mark) := cell 4 _ (by omega) rfl
  have HF := Lib.hid hfit
  have x0 : w4.cell? ⟨w.heap.size, 0, none⟩ = some (.int .i64 t.lsn) := HX4.out.cell 0
  have hX4 : w.heap.size < w4.heap.size := HX4.out.lt
  have hY4 : w.heap.size + 1 < w4.heap.size := HY4.out.lt
  have q0 : w4.cell? ⟨w.heap.size + 1, 0, none⟩ = some (.int .i64 0) := HY4.out.cell 0
  have q1 : w4.cell? ⟨w.heap.size + 1, 1, none⟩ = some (.int .i64 0) := HY4.out.cell 1
  have q2 : w4.cell? ⟨w.heap.size + 1, 2, none⟩ = some (.slice none 0 0) := HY4.out.cell 2
  have q3 : w4.cell? ⟨w.heap.size + 1, 3, none⟩ = some (.slice none 0 0) := HY4.out.cell 3
  have q4 : w4.cell? ⟨w.heap.size + 1, 4, none⟩ = some (.int .i64 0) := HY4.out.cell 4
  have r0 := HY4.out.frozen 0
  have r1 := HY4.out.frozen 1
  have r2 := HY4.out.frozen 2
  have r3 := HY4.out.frozen 3
  have r4 := HY4.out.frozen 4
  clear hrow hfit hb4 hcells cell HX HY HW HZ
  go_wp2_with fail
  refine (C1.out _).mono ?_
  rintro e w5 ⟨rfl, rfl⟩
  go_wp2
  have hon := five_on w4 (w.heap.size + 1) (.int .i64 (1 + (z : Int))) (.int .i64 kind) (.slice A1 n1 c1) (.slice A2 n2 c2) (.int .i64 mark)
  obtain ⟨l1, m1, g1, g2, g3⟩ := HF.out
  refine bodyPost_ret (v := txv (1 + (z : Int)) kind mark A1 n1 c1 A2 n2 c2) (by simp [txv, results, Try.results21, go_sem, hY4, q0, q1, q2, q3, q4]) rfl ⟨⟨1 + (z : Int), kind, l1, m1, mark⟩, _, rfl, g3 _ (by omega) (by omega), ⟨A1, n1, c1, A2, n2, c2, rfl, ?_, ?_⟩, ?_⟩
  · exact Row.of_own (own_keep (g1.kept hon (.inr fun e => by have := (g1.lt _ e).1; simp at this; omega)) ((Below.refl _ _).alloc (Nat.le_refl _) _))
  · exact Row.of_own (own_keep (g2.kept hon (.inr fun e => by have := (g2.lt _ e).1; simp at this; omega)) ((Below.refl _ _).alloc (Nat.le_refl _) _))
  · exact (((((HB4.out.setCell (by exact Nat.le_succ _) _).setCell (by exact Nat.le_succ _) _).setCell (by exact Nat.le_succ _) _).setCell (by exact Nat.le_succ _) _).setCell (by exact Nat.le_succ _) _).alloc (by simp; omega) _
end Go.Proofs.Ytjicdnknlfpajaa.Txn
