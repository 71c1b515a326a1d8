/-
  The document's Int where it fails at once: one was wrong already, there is no more, or another kind.
-/
import Derived.Test.YtjicdnknlfpajaaTxnRefRd
namespace Go.Proofs.Ytjicdnknlfpajaa.Txn
set_option linter.unusedVariables false
set_option maxRecDepth 100000
open Go.RowKit Base FieldMath TxnMath
open Go.Proofs.Ytjicdnknlfpajaa.Field (fv fv_append fv_one fv_length fv_get fv_take Flds ef ret_bool empty_iff Decoded)
set_option linter.ambiguousOpen false
set_option linter.unusedSimpArgs false

set_option maxHeartbeats 1600000 in
theorem rint_off (B g : Nat) (s : Rs) (m : Nat) (w : World) (A : Option Addr) (n c a : Nat) (hr : RR w B g s) (k0 : w.cell? ⟨g, 0, none⟩ = some (.slice A n c)) (k1 : w.cell? ⟨g, 1, none⟩ = some (.int .i64 a)) (k2 : w.cell? ⟨g, 2, none⟩ = some (.bool true)) (f1 : w.frozen? ⟨g, 1, none⟩ = false) (f2 : w.frozen? ⟨g, 2, none⟩ = false) (hlt : g < w.heap.size) (hle : n ≤ c ∧ c ≤ 9223372036854775807)  :
    Calls Try.prog 54 #[.pointer (some ⟨g, 0, none⟩), .int .i64 m] w (RInt w B g (0, none)) := by
  have HRR := Lib.hid hr
  clear hr
  go_enter Try.func54, Try.ntmps54
  go_wp2_with fail
  go_quiet (fail)
  go_wp2
  go_ret
  exact ⟨rfl, (HRR.out.drewN nq).wrong, only_setCell (only_drewN (World.grownBy.refl _ _) nq) (.inl rfl) _⟩
set_option maxHeartbeats 1600000 in
theorem rint_end (B g : Nat) (s : Rs) (m : Nat) (w : World) (A : Option Addr) (n c a : Nat) (hr : RR w B g s) (k0 : w.cell? ⟨g, 0, none⟩ = some (.slice A n c)) (k1 : w.cell? ⟨g, 1, none⟩ = some (.int .i64 a)) (k2 : w.cell? ⟨g, 2, none⟩ = some (.bool false)) (f1 : w.frozen? ⟨g, 1, none⟩ = false) (f2 : w.frozen? ⟨g, 2, none⟩ = false) (hlt : g < w.heap.size) (hle : n ≤ c ∧ c ≤ 9223372036854775807) (han : a = n) :
    Calls Try.prog 54 #[.pointer (some ⟨g, 0, none⟩), .int .i64 m] w (RInt w B g (0, none)) := by
  have HRR := Lib.hid hr
  clear hr
  subst han
  go_enter Try.func54, Try.ntmps54
  go_wp2_with fail
  go_quiet (fail)
  go_wp2
  go_ret
  exact ⟨rfl, (HRR.out.drewN nq).wrong, only_setCell (only_drewN (World.grownBy.refl _ _) nq) (.inl rfl) _⟩
set_option maxHeartbeats 1600000 in
theorem rint_kind (B g : Nat) (s : Rs) (m : Nat) (w : World) (A : Option Addr) (n c a : Nat) (hr : RR w B g s) (k0 : w.cell? ⟨g, 0, none⟩ = some (.slice A n c)) (k1 : w.cell? ⟨g, 1, none⟩ = some (.int .i64 a)) (k2 : w.cell? ⟨g, 2, none⟩ = some (.bool false)) (f1 : w.frozen? ⟨g, 1, none⟩ = false) (f2 : w.frozen? ⟨g, 2, none⟩ = false) (hlt : g < w.heap.size) (hle : n ≤ c ∧ c ≤ 9223372036854775807) (b off : Nat) (fk fn : Int) (fs : ByteArray) (hA : A = some ⟨b, off, none⟩) (han : a < n) (q0 : w.cell? ⟨b, off + a * 3, none⟩ = some (.int .i64 fk)) (q1 : w.cell? ⟨b, off + a * 3 + 1, none⟩ = some (.int .i64 fn)) (q2 : w.cell? ⟨b, off + a * 3 + 2, none⟩ = some (.string fs)) (hk : fk ≠ 1) :
    Calls Try.prog 54 #[.pointer (some ⟨g, 0, none⟩), .int .i64 m] w (RInt w B g (0, none)) := by
  have HRR := Lib.hid hr
  clear hr
  have hk1 : (fk != 1) = true := by simp [hk]
  have hk2 : (fk == 1) = false := by simp [hk]
  subst hA
  have t1 : decide (n ≤ a) = false := by simp; omega
  go_enter Try.func54, Try.ntmps54
  go_wp2_with fail
  go_quiet (fail)
  go_wp2
  go_ret
  exact ⟨rfl, (HRR.out.drewN nq).wrong, only_setCell (only_drewN (World.grownBy.refl _ _) nq) (.inl rfl) _⟩
end Go.Proofs.Ytjicdnknlfpajaa.Txn
