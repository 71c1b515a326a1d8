/-
  The document's Text.
-/
import Derived.Test.YtjicdnknlfpajaaTxnRefRd
namespace Go.Proofs.Ytjicdnknlfpajaa.Txn
set_option linter.unusedVariables false
set_option maxRecDepth 100000
open Go.RowKit Base FieldMath TxnMath
open Go.Proofs.Ytjicdnknlfpajaa.Field (fv fv_append fv_one fv_length fv_get fv_take Flds ef ret_bool empty_iff Decoded)
set_option linter.ambiguousOpen false
set_option linter.unusedSimpArgs false

set_option maxHeartbeats 1600000 in
theorem rtext_off (B g : Nat) (s : Rs) (w : World) (A : Option Addr) (n c a : Nat) (hr : RR w B g s) (k0 : w.cell? ⟨g, 0, none⟩ = some (.slice A n c)) (k1 : w.cell? ⟨g, 1, none⟩ = some (.int .i64 a)) (k2 : w.cell? ⟨g, 2, none⟩ = some (.bool true)) (f1 : w.frozen? ⟨g, 1, none⟩ = false) (f2 : w.frozen? ⟨g, 2, none⟩ = false) (hlt : g < w.heap.size) (hle : n ≤ c ∧ c ≤ 9223372036854775807)  :
    Calls Try.prog 56 #[.pointer (some ⟨g, 0, none⟩)] w (RText w B g (⟨#[]⟩, none)) := by
  have HRR := Lib.hid hr
  clear hr
  go_enter Try.func56, Try.ntmps56
  go_wp2_with fail
  go_quiet (fail)
  go_wp2
  go_ret
  exact ⟨rfl, (HRR.out.drewN nq).wrong, only_setCell (only_drewN (World.grownBy.refl _ _) nq) (.inl rfl) _⟩
set_option maxHeartbeats 1600000 in
theorem rtext_end (B g : Nat) (s : Rs) (w : World) (A : Option Addr) (n c a : Nat) (hr : RR w B g s) (k0 : w.cell? ⟨g, 0, none⟩ = some (.slice A n c)) (k1 : w.cell? ⟨g, 1, none⟩ = some (.int .i64 a)) (k2 : w.cell? ⟨g, 2, none⟩ = some (.bool false)) (f1 : w.frozen? ⟨g, 1, none⟩ = false) (f2 : w.frozen? ⟨g, 2, none⟩ = false) (hlt : g < w.heap.size) (hle : n ≤ c ∧ c ≤ 9223372036854775807) (han : a = n) :
    Calls Try.prog 56 #[.pointer (some ⟨g, 0, none⟩)] w (RText w B g (⟨#[]⟩, none)) := by
  have HRR := Lib.hid hr
  clear hr
  subst han
  go_enter Try.func56, Try.ntmps56
  go_wp2_with fail
  go_quiet (fail)
  go_wp2
  go_ret
  exact ⟨rfl, (HRR.out.drewN nq).wrong, only_setCell (only_drewN (World.grownBy.refl _ _) nq) (.inl rfl) _⟩
set_option maxHeartbeats 1600000 in
theorem rtext_kind (B g : Nat) (s : Rs) (w : World) (A : Option Addr) (n c a : Nat) (hr : RR w B g s) (k0 : w.cell? ⟨g, 0, none⟩ = some (.slice A n c)) (k1 : w.cell? ⟨g, 1, none⟩ = some (.int .i64 a)) (k2 : w.cell? ⟨g, 2, none⟩ = some (.bool false)) (f1 : w.frozen? ⟨g, 1, none⟩ = false) (f2 : w.frozen? ⟨g, 2, none⟩ = false) (hlt : g < w.heap.size) (hle : n ≤ c ∧ c ≤ 9223372036854775807) (b off : Nat) (fk fn : Int) (fs : ByteArray) (hA : A = some ⟨b, off, none⟩) (han : a < n) (q0 : w.cell? ⟨b, off + a * 3, none⟩ = some (.int .i64 fk)) (q1 : w.cell? ⟨b, off + a * 3 + 1, none⟩ = some (.int .i64 fn)) (q2 : w.cell? ⟨b, off + a * 3 + 2, none⟩ = some (.string fs)) (hk : fk ≠ 2) :
    Calls Try.prog 56 #[.pointer (some ⟨g, 0, none⟩)] w (RText w B g (⟨#[]⟩, none)) := by
  have HRR := Lib.hid hr
  clear hr
  have hk1 : (fk != 2) = true := by simp [hk]
  have hk2 : (fk == 2) = false := by simp [hk]
  subst hA
  go_enter Try.func56, Try.ntmps56
  go_wp2_with fail
  go_quiet (fail)
  go_wp2
  go_ret
  exact ⟨rfl, (HRR.out.drewN nq).wrong, only_setCell (only_drewN (World.grownBy.refl _ _) nq) (.inl rfl) _⟩
set_option maxHeartbeats 1600000 in
theorem rtext_ok (B g : Nat) (s : Rs) (l : List Fld) (w : World) (A : Option Addr) (n c a : Nat) (hbk : Blk w g 91 #[.slice A n c, .int .i64 (a : Int), .bool false]) (hf : Flds w B A n c l) (hB : B ≤ g) (k0 : w.cell? ⟨g, 0, none⟩ = some (.slice A n c)) (k1 : w.cell? ⟨g, 1, none⟩ = some (.int .i64 a)) (k2 : w.cell? ⟨g, 2, none⟩ = some (.bool false)) (f1 : w.frozen? ⟨g, 1, none⟩ = false) (f2 : w.frozen? ⟨g, 2, none⟩ = false) (hlt : g < w.heap.size) (hle : n ≤ c ∧ c ≤ 9223372036854775807) (b off : Nat) (fk fn : Int) (fs : ByteArray) (hA : A = some ⟨b, off, none⟩) (han : a < n) (q0 : w.cell? ⟨b, off + a * 3, none⟩ = some (.int .i64 fk)) (q1 : w.cell? ⟨b, off + a * 3 + 1, none⟩ = some (.int .i64 fn)) (q2 : w.cell? ⟨b, off + a * 3 + 2, none⟩ = some (.string fs)) (hk : fk = 2) (hb : b < g) :
    Calls Try.prog 56 #[.pointer (some ⟨g, 0, none⟩)] w (RText w B g (fs, some (l.drop (a + 1)))) := by
  subst hA
  have HBK := Lib.hid hbk
  have HF := Lib.hid hf
  clear hbk hf
  subst hk
  have hwp : IntKind.i64.wrap ((a : Int) + 1 - 1) = a := by rw [IntWalk.i64_in _ (by omega)]; omega
  have hap : (a : Int) + 1 - 1 = a := by omega
  have hbg : b ≠ g := by omega
  go_enter Try.func56, Try.ntmps56
  go_wp2_with fail
  go_quiet (fail)
  go_wp2
  go_quiet (fail)
  go_wp2
  go_ret
  exact ⟨rfl, RR.step HBK.out HF.out han hB _ _, only_drewN (only_setCell (only_drewN (World.grownBy.refl _ _) _) (.inl rfl) _) _⟩
end Go.Proofs.Ytjicdnknlfpajaa.Txn
