/-
  Contract of the document's MayChange.
-/
import Derived.Test.YtlkjmdkmcaaihaaTxnChs
import Derived.Test.YtlkjmdkmcaaihaaGrow
namespace Go.Proofs.Ytlkjmdkmcaaihaa.Txn
set_option linter.unusedVariables false
set_option maxRecDepth 100000
open Go.RowKit Base FieldMath TxnMath
open Go.Proofs.Ytlkjmdkmcaaihaa.Field (ret_bool empty_iff)
set_option linter.ambiguousOpen false
set_option linter.unusedSimpArgs false

set_option maxHeartbeats 1600000 in
theorem refmaychange_gr (t k : Int) (g : Bool) (v : ByteArray) (n : Int) (w : World) : Calls Try.prog 33 #[.agg #[.int .i64 t, .int .i64 k, .bool g, .string v], .int .i64 n] w fun e w' => e = .returned (.bool (Ch.may n ⟨t, k, g, v⟩)) ∧ Gr w w' := by
  by_cases h1 : t < 0
  · have HE := Lib.hid (show Ch.may n ⟨t, k, g, v⟩ = false by simp [Ch.may]; omega)
    go_enter Try.func33, Try.ntmps33
    go_wp2
    go_ret
    exact ⟨ret_bool (a := false) HE.out.symm, (Gr.refl _).alloc _⟩
  · by_cases h2 : n ≤ t
    · have HE := Lib.hid (show Ch.may n ⟨t, k, g, v⟩ = false by simp [Ch.may]; omega)
      go_enter Try.func33, Try.ntmps33
      go_wp2
      go_ret
      exact ⟨ret_bool (a := false) HE.out.symm, (Gr.refl _).alloc _⟩
    · by_cases h3 : k < 1
      · have HE := Lib.hid (show Ch.may n ⟨t, k, g, v⟩ = false by simp [Ch.may]; omega)
        go_enter Try.func33, Try.ntmps33
        go_wp2
        go_ret
        exact ⟨ret_bool (a := false) HE.out.symm, (Gr.refl _).alloc _⟩
      · by_cases h4 : 1099511627776 < k
        · have HE := Lib.hid (show Ch.may n ⟨t, k, g, v⟩ = false by simp [Ch.may]; omega)
          go_enter Try.func33, Try.ntmps33
          go_wp2
          go_ret
          exact ⟨ret_bool (a := false) HE.out.symm, (Gr.refl _).alloc _⟩
        · have hE0 : Ch.may n ⟨t, k, g, v⟩ = if g then v.size == 0 else decide (v.size ≤ 32) := by
            unfold Ch.may
            dsimp only
            rw [decide_eq_true (show 0 ≤ t by omega), decide_eq_true (show t < n by omega), decide_eq_true (show 1 ≤ k by omega), decide_eq_true (show k ≤ 1099511627776 by omega)]
            rfl
          by_cases h5 : 32 < v.size
          · have HE := Lib.hid (show Ch.may n ⟨t, k, g, v⟩ = false by
              rw [hE0]
              cases g
              · exact decide_eq_false (by omega)
              · show (v.size == 0) = false
                rw [beq_eq_false_iff_ne]
                omega)
            clear hE0
            go_enter Try.func33, Try.ntmps33
            go_wp2
            go_ret
            exact ⟨ret_bool (a := false) HE.out.symm, (Gr.refl _).alloc _⟩
          · cases g with
            | true =>
              have HE := Lib.hid hE0
              clear hE0
              go_enter Try.func33, Try.ntmps33
              go_wp2
              go_ret
              exact ⟨ret_bool (by rw [HE.out]; simp [empty_iff]), (Gr.refl _).alloc _⟩
            | false =>
              have HE := Lib.hid (show Ch.may n ⟨t, k, false, v⟩ = true by rw [hE0]; simp; omega)
              clear hE0
              go_enter Try.func33, Try.ntmps33
              go_wp2
              go_ret
              exact ⟨ret_bool (a := true) HE.out.symm, (Gr.refl _).alloc _⟩
theorem refmaychange_any (t k : Int) (g : Bool) (v : ByteArray) (n : Int) (w : World) : Calls Try.prog 33 #[.agg #[.int .i64 t, .int .i64 k, .bool g, .string v], .int .i64 n] w fun e w' => e = .returned (.bool (Ch.may n ⟨t, k, g, v⟩)) ∧ Below w.heap.size w w' :=
  (refmaychange_gr t k g v n w).mono fun _ _ ⟨he, hg⟩ => ⟨he, hg.below⟩
end Go.Proofs.Ytlkjmdkmcaaihaa.Txn
