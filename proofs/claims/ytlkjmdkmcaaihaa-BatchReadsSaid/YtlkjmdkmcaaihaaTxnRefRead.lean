/-
  Contracts of the document's reader of fields (Int, Flag, Text, End, Change): what is read is what the plain mathematics says.
-/
import Derived.Test.YtlkjmdkmcaaihaaTxnRefRd
namespace Go.Proofs.Ytlkjmdkmcaaihaa.Txn
set_option linter.unusedVariables false
set_option maxRecDepth 100000
open Go.RowKit Base FieldMath TxnMath
open Go.Proofs.Ytlkjmdkmcaaihaa.Field (fv fv_append fv_one fv_length fv_get fv_take Flds ef ret_bool empty_iff Decoded)
set_option linter.ambiguousOpen false
set_option linter.unusedSimpArgs false

set_option maxHeartbeats 1600000 in
theorem rint_off (B g : Nat) (s : Rs) (m : Nat) (w : World) (A : Option Addr) (n c a : Nat) (hr : RR w B g s) (k0 : w.cell? ⟨g, 0, none⟩ = some (.slice A n c)) (k1 : w.cell? ⟨g, 1, none⟩ = some (.int .i64 a)) (k2 : w.cell? ⟨g, 2, none⟩ = some (.bool true)) (f1 : w.frozen? ⟨g, 1, none⟩ = false) (f2 : w.frozen? ⟨g, 2, none⟩ = false) (hlt : g < w.heap.size) (hle : n ≤ c ∧ c ≤ 9223372036854775807)  :
    Calls Try.prog 43 #[.pointer (some ⟨g, 0, none⟩), .int .i64 m] w (RInt w B g (0, none)) := by
  have HRR := Lib.hid hr
  clear hr
  go_enter Try.func43, Try.ntmps43
  go_wp2_with fail
  go_quiet (fail)
  go_wp2
  go_ret
  exact ⟨rfl, (HRR.out.drewN nq).wrong, only_setCell (only_drewN (World.grownBy.refl _ _) nq) (.inl rfl) _⟩
set_option maxHeartbeats 1600000 in
theorem rint_end (B g : Nat) (s : Rs) (m : Nat) (w : World) (A : Option Addr) (n c a : Nat) (hr : RR w B g s) (k0 : w.cell? ⟨g, 0, none⟩ = some (.slice A n c)) (k1 : w.cell? ⟨g, 1, none⟩ = some (.int .i64 a)) (k2 : w.cell? ⟨g, 2, none⟩ = some (.bool false)) (f1 : w.frozen? ⟨g, 1, none⟩ = false) (f2 : w.frozen? ⟨g, 2, none⟩ = false) (hlt : g < w.heap.size) (hle : n ≤ c ∧ c ≤ 9223372036854775807) (han : a = n) :
    Calls Try.prog 43 #[.pointer (some ⟨g, 0, none⟩), .int .i64 m] w (RInt w B g (0, none)) := by
  have HRR := Lib.hid hr
  clear hr
  subst han
  go_enter Try.func43, Try.ntmps43
  go_wp2_with fail
  go_quiet (fail)
  go_wp2
  go_ret
  exact ⟨rfl, (HRR.out.drewN nq).wrong, only_setCell (only_drewN (World.grownBy.refl _ _) nq) (.inl rfl) _⟩
set_option maxHeartbeats 1600000 in
theorem rint_kind (B g : Nat) (s : Rs) (m : Nat) (w : World) (A : Option Addr) (n c a : Nat) (hr : RR w B g s) (k0 : w.cell? ⟨g, 0, none⟩ = some (.slice A n c)) (k1 : w.cell? ⟨g, 1, none⟩ = some (.int .i64 a)) (k2 : w.cell? ⟨g, 2, none⟩ = some (.bool false)) (f1 : w.frozen? ⟨g, 1, none⟩ = false) (f2 : w.frozen? ⟨g, 2, none⟩ = false) (hlt : g < w.heap.size) (hle : n ≤ c ∧ c ≤ 9223372036854775807) (b off : Nat) (fk fn : Int) (fs : ByteArray) (hA : A = some ⟨b, off, none⟩) (han : a < n) (q0 : w.cell? ⟨b, off + a * 3, none⟩ = some (.int .i64 fk)) (q1 : w.cell? ⟨b, off + a * 3 + 1, none⟩ = some (.int .i64 fn)) (q2 : w.cell? ⟨b, off + a * 3 + 2, none⟩ = some (.string fs)) (hk : fk ≠ 1) :
    Calls Try.prog 43 #[.pointer (some ⟨g, 0, none⟩), .int .i64 m] w (RInt w B g (0, none)) := by
  have HRR := Lib.hid hr
  clear hr
  have hk1 : (fk != 1) = true := by simp [hk]
  have hk2 : (fk == 1) = false := by simp [hk]
  subst hA
  have t1 : decide (n ≤ a) = false := by simp; omega
  go_enter Try.func43, Try.ntmps43
  go_wp2_with fail
  go_quiet (fail)
  go_wp2
  go_ret
  exact ⟨rfl, (HRR.out.drewN nq).wrong, only_setCell (only_drewN (World.grownBy.refl _ _) nq) (.inl rfl) _⟩
end Go.Proofs.Ytlkjmdkmcaaihaa.Txn

namespace Go.Proofs.Ytlkjmdkmcaaihaa.Txn
set_option linter.unusedVariables false
set_option maxRecDepth 100000
open Go.RowKit Base FieldMath TxnMath
open Go.Proofs.Ytlkjmdkmcaaihaa.Field (fv fv_append fv_one fv_length fv_get fv_take Flds ef ret_bool empty_iff Decoded)
set_option linter.ambiguousOpen false
set_option linter.unusedSimpArgs false

set_option maxHeartbeats 1600000 in
theorem rint_neg (B g : Nat) (s : Rs) (m : Nat) (w : World) (A : Option Addr) (n c a : Nat) (hr : RR w B g s) (k0 : w.cell? ⟨g, 0, none⟩ = some (.slice A n c)) (k1 : w.cell? ⟨g, 1, none⟩ = some (.int .i64 a)) (k2 : w.cell? ⟨g, 2, none⟩ = some (.bool false)) (f1 : w.frozen? ⟨g, 1, none⟩ = false) (f2 : w.frozen? ⟨g, 2, none⟩ = false) (hlt : g < w.heap.size) (hle : n ≤ c ∧ c ≤ 9223372036854775807) (b off : Nat) (fk fn : Int) (fs : ByteArray) (hA : A = some ⟨b, off, none⟩) (han : a < n) (q0 : w.cell? ⟨b, off + a * 3, none⟩ = some (.int .i64 fk)) (q1 : w.cell? ⟨b, off + a * 3 + 1, none⟩ = some (.int .i64 fn)) (q2 : w.cell? ⟨b, off + a * 3 + 2, none⟩ = some (.string fs)) (hk : fk = 1) (h0 : fn < 0) :
    Calls Try.prog 43 #[.pointer (some ⟨g, 0, none⟩), .int .i64 m] w (RInt w B g (0, none)) := by
  have HRR := Lib.hid hr
  clear hr
  subst hk hA
  have t1 : decide (n ≤ a) = false := by simp; omega
  have t2 : decide (fn < 0) = true := by simpa using h0
  go_enter Try.func43, Try.ntmps43
  go_wp2_with fail
  go_quiet (fail)
  go_wp2
  go_ret
  exact ⟨rfl, (HRR.out.drewN nq).wrong, only_setCell (only_drewN (World.grownBy.refl _ _) nq) (.inl rfl) _⟩
set_option maxHeartbeats 1600000 in
theorem rint_over (B g : Nat) (s : Rs) (m : Nat) (w : World) (A : Option Addr) (n c a : Nat) (hr : RR w B g s) (k0 : w.cell? ⟨g, 0, none⟩ = some (.slice A n c)) (k1 : w.cell? ⟨g, 1, none⟩ = some (.int .i64 a)) (k2 : w.cell? ⟨g, 2, none⟩ = some (.bool false)) (f1 : w.frozen? ⟨g, 1, none⟩ = false) (f2 : w.frozen? ⟨g, 2, none⟩ = false) (hlt : g < w.heap.size) (hle : n ≤ c ∧ c ≤ 9223372036854775807) (b off : Nat) (fk fn : Int) (fs : ByteArray) (hA : A = some ⟨b, off, none⟩) (han : a < n) (q0 : w.cell? ⟨b, off + a * 3, none⟩ = some (.int .i64 fk)) (q1 : w.cell? ⟨b, off + a * 3 + 1, none⟩ = some (.int .i64 fn)) (q2 : w.cell? ⟨b, off + a * 3 + 2, none⟩ = some (.string fs)) (hk : fk = 1) (h0 : 0 ≤ fn) (h1 : (m : Int) < fn) :
    Calls Try.prog 43 #[.pointer (some ⟨g, 0, none⟩), .int .i64 m] w (RInt w B g (0, none)) := by
  have HRR := Lib.hid hr
  clear hr
  subst hk hA
  have t1 : decide (n ≤ a) = false := by simp; omega
  have t2 : decide (fn < 0) = false := by simp; omega
  have t3 : decide ((m : Int) < fn) = true := by simpa using h1
  go_enter Try.func43, Try.ntmps43
  go_wp2_with fail
  go_quiet (fail)
  go_wp2
  go_ret
  exact ⟨rfl, (HRR.out.drewN nq).wrong, only_setCell (only_drewN (World.grownBy.refl _ _) nq) (.inl rfl) _⟩
set_option maxHeartbeats 1600000 in
theorem rint_ok (B g : Nat) (s : Rs) (l : List Fld) (m : Nat) (w : World) (A : Option Addr) (n c a : Nat) (hbk : Blk w g 84 #[.slice A n c, .int .i64 (a : Int), .bool false]) (hf : Flds w B A n c l) (hB : B ≤ g) (k0 : w.cell? ⟨g, 0, none⟩ = some (.slice A n c)) (k1 : w.cell? ⟨g, 1, none⟩ = some (.int .i64 a)) (k2 : w.cell? ⟨g, 2, none⟩ = some (.bool false)) (f1 : w.frozen? ⟨g, 1, none⟩ = false) (f2 : w.frozen? ⟨g, 2, none⟩ = false) (hlt : g < w.heap.size) (hle : n ≤ c ∧ c ≤ 9223372036854775807) (b off : Nat) (fk fn : Int) (fs : ByteArray) (hA : A = some ⟨b, off, none⟩) (han : a < n) (q0 : w.cell? ⟨b, off + a * 3, none⟩ = some (.int .i64 fk)) (q1 : w.cell? ⟨b, off + a * 3 + 1, none⟩ = some (.int .i64 fn)) (q2 : w.cell? ⟨b, off + a * 3 + 2, none⟩ = some (.string fs)) (hk : fk = 1) (h0 : 0 ≤ fn) (h1 : fn ≤ (m : Int)) (hb : b < g) :
    Calls Try.prog 43 #[.pointer (some ⟨g, 0, none⟩), .int .i64 m] w (RInt w B g (fn, some (l.drop (a + 1)))) := by
  subst hA
  have HBK := Lib.hid hbk
  have HF := Lib.hid hf
  clear hbk hf
  subst hk
  have hwp : IntKind.i64.wrap ((a : Int) + 1 - 1) = a := by rw [IntWalk.i64_in _ (by omega)]; omega
  have hap : (a : Int) + 1 - 1 = a := by omega
  have hbg : b ≠ g := by omega
  have t1 : decide (n ≤ a) = false := by simp; omega
  have t2 : decide (fn < 0) = false := by simp; omega
  have t3 : decide ((m : Int) < fn) = false := by simp; omega
  go_enter Try.func43, Try.ntmps43
  go_wp2_with fail
  go_quiet (fail)
  go_wp2
  go_quiet (fail)
  go_wp2
  go_ret
  exact ⟨rfl, RR.step HBK.out HF.out han hB _ _, only_drewN (only_setCell (only_drewN (World.grownBy.refl _ _) _) (.inl rfl) _) _⟩
end Go.Proofs.Ytlkjmdkmcaaihaa.Txn

namespace Go.Proofs.Ytlkjmdkmcaaihaa.Txn
set_option linter.unusedVariables false
set_option maxRecDepth 100000
open Go.RowKit Base FieldMath TxnMath
open Go.Proofs.Ytlkjmdkmcaaihaa.Field (fv fv_append fv_one fv_length fv_get fv_take Flds ef ret_bool empty_iff Decoded)
set_option linter.ambiguousOpen false
set_option linter.unusedSimpArgs false

set_option maxHeartbeats 1600000 in
theorem rtext_off (B g : Nat) (s : Rs) (w : World) (A : Option Addr) (n c a : Nat) (hr : RR w B g s) (k0 : w.cell? ⟨g, 0, none⟩ = some (.slice A n c)) (k1 : w.cell? ⟨g, 1, none⟩ = some (.int .i64 a)) (k2 : w.cell? ⟨g, 2, none⟩ = some (.bool true)) (f1 : w.frozen? ⟨g, 1, none⟩ = false) (f2 : w.frozen? ⟨g, 2, none⟩ = false) (hlt : g < w.heap.size) (hle : n ≤ c ∧ c ≤ 9223372036854775807)  :
    Calls Try.prog 72 #[.pointer (some ⟨g, 0, none⟩)] w (RText w B g (⟨#[]⟩, none)) := by
  have HRR := Lib.hid hr
  clear hr
  go_enter Try.func72, Try.ntmps72
  go_wp2_with fail
  go_quiet (fail)
  go_wp2
  go_ret
  exact ⟨rfl, (HRR.out.drewN nq).wrong, only_setCell (only_drewN (World.grownBy.refl _ _) nq) (.inl rfl) _⟩
set_option maxHeartbeats 1600000 in
theorem rtext_end (B g : Nat) (s : Rs) (w : World) (A : Option Addr) (n c a : Nat) (hr : RR w B g s) (k0 : w.cell? ⟨g, 0, none⟩ = some (.slice A n c)) (k1 : w.cell? ⟨g, 1, none⟩ = some (.int .i64 a)) (k2 : w.cell? ⟨g, 2, none⟩ = some (.bool false)) (f1 : w.frozen? ⟨g, 1, none⟩ = false) (f2 : w.frozen? ⟨g, 2, none⟩ = false) (hlt : g < w.heap.size) (hle : n ≤ c ∧ c ≤ 9223372036854775807) (han : a = n) :
    Calls Try.prog 72 #[.pointer (some ⟨g, 0, none⟩)] w (RText w B g (⟨#[]⟩, none)) := by
  have HRR := Lib.hid hr
  clear hr
  subst han
  go_enter Try.func72, Try.ntmps72
  go_wp2_with fail
  go_quiet (fail)
  go_wp2
  go_ret
  exact ⟨rfl, (HRR.out.drewN nq).wrong, only_setCell (only_drewN (World.grownBy.refl _ _) nq) (.inl rfl) _⟩
set_option maxHeartbeats 1600000 in
theorem rtext_kind (B g : Nat) (s : Rs) (w : World) (A : Option Addr) (n c a : Nat) (hr : RR w B g s) (k0 : w.cell? ⟨g, 0, none⟩ = some (.slice A n c)) (k1 : w.cell? ⟨g, 1, none⟩ = some (.int .i64 a)) (k2 : w.cell? ⟨g, 2, none⟩ = some (.bool false)) (f1 : w.frozen? ⟨g, 1, none⟩ = false) (f2 : w.frozen? ⟨g, 2, none⟩ = false) (hlt : g < w.heap.size) (hle : n ≤ c ∧ c ≤ 9223372036854775807) (b off : Nat) (fk fn : Int) (fs : ByteArray) (hA : A = some ⟨b, off, none⟩) (han : a < n) (q0 : w.cell? ⟨b, off + a * 3, none⟩ = some (.int .i64 fk)) (q1 : w.cell? ⟨b, off + a * 3 + 1, none⟩ = some (.int .i64 fn)) (q2 : w.cell? ⟨b, off + a * 3 + 2, none⟩ = some (.string fs)) (hk : fk ≠ 2) :
    Calls Try.prog 72 #[.pointer (some ⟨g, 0, none⟩)] w (RText w B g (⟨#[]⟩, none)) := by
  have HRR := Lib.hid hr
  clear hr
  have hk1 : (fk != 2) = true := by simp [hk]
  have hk2 : (fk == 2) = false := by simp [hk]
  subst hA
  go_enter Try.func72, Try.ntmps72
  go_wp2_with fail
  go_quiet (fail)
  go_wp2
  go_ret
  exact ⟨rfl, (HRR.out.drewN nq).wrong, only_setCell (only_drewN (World.grownBy.refl _ _) nq) (.inl rfl) _⟩
set_option maxHeartbeats 1600000 in
theorem rtext_ok (B g : Nat) (s : Rs) (l : List Fld) (w : World) (A : Option Addr) (n c a : Nat) (hbk : Blk w g 84 #[.slice A n c, .int .i64 (a : Int), .bool false]) (hf : Flds w B A n c l) (hB : B ≤ g) (k0 : w.cell? ⟨g, 0, none⟩ = some (.slice A n c)) (k1 : w.cell? ⟨g, 1, none⟩ = some (.int .i64 a)) (k2 : w.cell? ⟨g, 2, none⟩ = some (.bool false)) (f1 : w.frozen? ⟨g, 1, none⟩ = false) (f2 : w.frozen? ⟨g, 2, none⟩ = false) (hlt : g < w.heap.size) (hle : n ≤ c ∧ c ≤ 9223372036854775807) (b off : Nat) (fk fn : Int) (fs : ByteArray) (hA : A = some ⟨b, off, none⟩) (han : a < n) (q0 : w.cell? ⟨b, off + a * 3, none⟩ = some (.int .i64 fk)) (q1 : w.cell? ⟨b, off + a * 3 + 1, none⟩ = some (.int .i64 fn)) (q2 : w.cell? ⟨b, off + a * 3 + 2, none⟩ = some (.string fs)) (hk : fk = 2) (hb : b < g) :
    Calls Try.prog 72 #[.pointer (some ⟨g, 0, none⟩)] w (RText w B g (fs, some (l.drop (a + 1)))) := by
  subst hA
  have HBK := Lib.hid hbk
  have HF := Lib.hid hf
  clear hbk hf
  subst hk
  have hwp : IntKind.i64.wrap ((a : Int) + 1 - 1) = a := by rw [IntWalk.i64_in _ (by omega)]; omega
  have hap : (a : Int) + 1 - 1 = a := by omega
  have hbg : b ≠ g := by omega
  go_enter Try.func72, Try.ntmps72
  go_wp2_with fail
  go_quiet (fail)
  go_wp2
  go_quiet (fail)
  go_wp2
  go_ret
  exact ⟨rfl, RR.step HBK.out HF.out han hB _ _, only_drewN (only_setCell (only_drewN (World.grownBy.refl _ _) _) (.inl rfl) _) _⟩
end Go.Proofs.Ytlkjmdkmcaaihaa.Txn

namespace Go.Proofs.Ytlkjmdkmcaaihaa.Txn
set_option linter.unusedVariables false
set_option maxRecDepth 100000
open Go.RowKit Base FieldMath TxnMath
open Go.Proofs.Ytlkjmdkmcaaihaa.Field (fv fv_append fv_one fv_length fv_get fv_take Flds ef ret_bool empty_iff Decoded)
set_option linter.ambiguousOpen false
set_option linter.unusedSimpArgs false

theorem rdN_no {m : Option Int} {f : Fld} {r : List Fld} (h : ¬ (f.kind = 1 ∧ fits m f.n = true)) : rdN m (some (f :: r)) = (0, none) := by unfold rdN; dsimp only; rw [if_neg h]
theorem rdN_yes {m : Option Int} {f : Fld} {r : List Fld} (h : f.kind = 1) (h2 : fits m f.n = true) : rdN m (some (f :: r)) = (f.n, some r) := by unfold rdN; dsimp only; rw [if_pos ⟨h, h2⟩]
theorem fits_no {m : Int} {n : Int} (h : n < 0 ∨ m < n) : fits (some m) n = false := by
  unfold fits
  dsimp only
  rcases h with h | h
  · rw [decide_eq_false (by omega), Bool.false_and]
  · rw [decide_eq_false (p := n ≤ m) (by omega), Bool.and_false]
theorem rint_any (B g : Nat) (s : Rs) (m : Nat) (w : World) (h : RR w B g s) :
    Calls Try.prog 43 #[.pointer (some ⟨g, 0, none⟩), .int .i64 m] w (RInt w B g (rdN (some m) s)) := by
  have h' := h
  obtain ⟨A, n, c, l, a, x, hb, hr, han, hB, rfl⟩ := h
  have hlt := hb.lt
  have hle := hr.le
  have k0 : w.cell? ⟨g, 0, none⟩ = some (.slice A n c) := hb.cell 0
  have k1 : w.cell? ⟨g, 1, none⟩ = some (.int .i64 a) := hb.cell 1
  have k2 : w.cell? ⟨g, 2, none⟩ = some (.bool x) := hb.cell 2
  have f1 := hb.frozen 1
  have f2 := hb.frozen 2
  cases x with
  | true => exact rint_off B g _ m w A n c a h' k0 k1 k2 f1 f2 hlt hle
  | false =>
    rw [if_neg (by simp)] at h' ⊢
    by_cases hn : a = n
    · have hd : l.drop a = [] := List.drop_of_length_le (by rw [hr.len]; omega)
      rw [hd] at h' ⊢
      exact rint_end B g _ m w A n c a h' k0 k1 k2 f1 f2 hlt hle hn
    · have han2 : a < n := by omega
      obtain ⟨b, off, f, hA, hbB, q0, q1, q2, hget, _⟩ := hr.at_ han2
      obtain ⟨fk, fn, fs⟩ := f
      rw [drop_get hget] at h' ⊢
      dsimp only at q0 q1 q2
      by_cases hk : fk = 1
      · by_cases h0 : fn < 0
        · rw [rdN_no (fun e => by rw [fits_no (.inl h0)] at e; cases e.2)]
          exact rint_neg B g _ m w A n c a h' k0 k1 k2 f1 f2 hlt hle b off fk fn fs hA han2 q0 q1 q2 hk h0
        · by_cases h1 : (m : Int) < fn
          · rw [rdN_no (fun e => by rw [fits_no (.inr h1)] at e; cases e.2)]
            exact rint_over B g _ m w A n c a h' k0 k1 k2 f1 f2 hlt hle b off fk fn fs hA han2 q0 q1 q2 hk (by omega) h1
          · rw [rdN_yes hk (fits_of (by dsimp only; omega) (by dsimp only; omega))]
            exact rint_ok B g (some l) l m w A n c a hb hr hB k0 k1 k2 f1 f2 hlt hle b off fk fn fs hA han2 q0 q1 q2 hk (by omega) (by omega) (by omega)
      · rw [rdN_no (fun e => hk e.1)]
        exact rint_kind B g _ m w A n c a h' k0 k1 k2 f1 f2 hlt hle b off fk fn fs hA han2 q0 q1 q2 hk
theorem rtext_any (B g : Nat) (s : Rs) (w : World) (h : RR w B g s) :
    Calls Try.prog 72 #[.pointer (some ⟨g, 0, none⟩)] w (RText w B g (rdT s)) := by
  have h' := h
  obtain ⟨A, n, c, l, a, x, hb, hr, han, hB, rfl⟩ := h
  have hlt := hb.lt
  have hle := hr.le
  have k0 : w.cell? ⟨g, 0, none⟩ = some (.slice A n c) := hb.cell 0
  have k1 : w.cell? ⟨g, 1, none⟩ = some (.int .i64 a) := hb.cell 1
  have k2 : w.cell? ⟨g, 2, none⟩ = some (.bool x) := hb.cell 2
  have f1 := hb.frozen 1
  have f2 := hb.frozen 2
  cases x with
  | true => exact rtext_off B g _ w A n c a h' k0 k1 k2 f1 f2 hlt hle
  | false =>
    rw [if_neg (by simp)] at h' ⊢
    by_cases hn : a = n
    · have hd : l.drop a = [] := List.drop_of_length_le (by rw [hr.len]; omega)
      rw [hd] at h' ⊢
      exact rtext_end B g _ w A n c a h' k0 k1 k2 f1 f2 hlt hle hn
    · have han2 : a < n := by omega
      obtain ⟨b, off, f, hA, hbB, q0, q1, q2, hget, _⟩ := hr.at_ han2
      obtain ⟨fk, fn, fs⟩ := f
      rw [drop_get hget] at h' ⊢
      dsimp only at q0 q1 q2
      by_cases hk : fk = 2
      · rw [show rdT (some (⟨fk, fn, fs⟩ :: l.drop (a + 1))) = (fs, some (l.drop (a + 1))) by unfold rdT; dsimp only; rw [if_pos hk]]
        exact rtext_ok B g (some l) l w A n c a hb hr hB k0 k1 k2 f1 f2 hlt hle b off fk fn fs hA han2 q0 q1 q2 hk (by omega)
      · rw [show rdT (some (⟨fk, fn, fs⟩ :: l.drop (a + 1))) = (⟨#[]⟩, none) by unfold rdT; dsimp only; rw [if_neg hk]]
        exact rtext_kind B g _ w A n c a h' k0 k1 k2 f1 f2 hlt hle b off fk fn fs hA han2 q0 q1 q2 hk
theorem rflag_any (B g : Nat) (s : Rs) (w : World) (h : RR w B g s) :
    Calls Try.prog 45 #[.pointer (some ⟨g, 0, none⟩)] w fun e w' => e = .returned (.bool ((rdN (some 1) s).1 == 1)) ∧ RR w' B g (rdN (some 1) s).2 ∧ w.grownBy w' (some g) := by
  have HR := Lib.hid h
  clear h
  go_enter Try.func45, Try.ntmps45
  go_wp2_with fail
  refine (rint_any B g s 1 _ HR.out).mono ?_
  rintro e w1 ⟨he, hr1, hg1⟩
  rw [show ((1 : Nat) : Int) = 1 from rfl] at he hr1
  subst he
  have H1 := Lib.hid hr1
  have HG1 := Lib.hid hg1
  clear hr1 hg1
  generalize hq : rdN (some 1) s = q at H1 ⊢
  have HQ := Lib.hid hq
  clear hq
  go_wp2
  go_ret
  rw [HQ.out]
  exact ⟨rfl, H1.out, HG1.out⟩
set_option maxHeartbeats 800000 in
theorem rend_any (B g : Nat) (s : Rs) (w : World) (h : RR w B g s) :
    Calls Try.prog 46 #[.pointer (some ⟨g, 0, none⟩)] w fun e w' => e = .returned (.bool (isEnd s)) ∧ ∃ k, w' = w.drewN k := by
  obtain ⟨A, n, c, l, a, x, hb, hr, han, hB, hs⟩ := h
  have hle := hr.le
  have k0 : w.cell? ⟨g, 0, none⟩ = some (.slice A n c) := hb.cell 0
  have k1 : w.cell? ⟨g, 1, none⟩ = some (.int .i64 a) := hb.cell 1
  have k2 : w.cell? ⟨g, 2, none⟩ = some (.bool x) := hb.cell 2
  have HL := Lib.hid hr.len
  have HS := Lib.hid hs
  clear hb hr hs
  cases x with
  | true =>
    have HE : Hid (isEnd s = false) := by show _ = _; rw [HS.out]; rfl
    go_enter Try.func46, Try.ntmps46
    go_wp2_with fail
    go_quiet (fail)
    go_wp2
    go_ret
    rw [HE.out]
    exact ⟨rfl, _, rfl⟩
  | false =>
    by_cases hn : a = n
    · have HE : Hid (isEnd s = true) := by show _ = _; rw [HS.out, if_neg (by simp), List.drop_of_length_le (by rw [HL.out]; omega)]; rfl
      subst hn
      go_enter Try.func46, Try.ntmps46
      go_wp2_with fail
      go_quiet (fail)
      go_wp2
      go_ret
      rw [HE.out]
      exact ⟨rfl, _, rfl⟩
    · have HE : Hid (isEnd s = false) := by
        show _ = _
        rw [HS.out, if_neg (by simp), List.drop_eq_getElem_cons (by rw [HL.out]; omega)]
        rfl
      have hn1 : ((a : Int) == (n : Int)) = false := by simp; omega
      have hn2 : (a == n) = false := by simp; omega
      go_enter Try.func46, Try.ntmps46
      go_wp2_with fail
      go_quiet (fail)
      go_wp2
      go_ret
      rw [HE.out]
      exact ⟨rfl, _, rfl⟩

set_option maxHeartbeats 1600000 in
theorem rchange_any (B g : Nat) (s : Rs) (w : World) (h : RR w B g s) :
    Calls Try.prog 44 #[.pointer (some ⟨g, 0, none⟩)] w fun e w' => e = .returned (chv (rdC (some 1099511627776) s).1) ∧ RR w' B g (rdC (some 1099511627776) s).2 ∧ w.grownBy w' (some g) := by
  obtain ⟨a, ha⟩ : ∃ a, a = rdN (some 7) s := ⟨_, rfl⟩
  obtain ⟨b, hb⟩ : ∃ b, b = rdN (some 1099511627776) a.2 := ⟨_, rfl⟩
  obtain ⟨c, hc⟩ : ∃ c, c = rdN (some 1) b.2 := ⟨_, rfl⟩
  obtain ⟨d, hd⟩ : ∃ d, d = rdT c.2 := ⟨_, rfl⟩
  have HE : Hid (rdC (some 1099511627776) s = (⟨a.1, b.1, c.1 == 1, d.1⟩, d.2)) := by
    show _ = _
    rw [hd, hc, hb, ha]
    rfl
  have HA := Lib.hid ha
  have HBB := Lib.hid hb
  have HCC := Lib.hid hc
  have HDD := Lib.hid hd
  have HR := Lib.hid h
  have hlt := h.lt
  clear h ha hb hc hd
  go_enter Try.func44, Try.ntmps44
  go_wp2_with fail
  refine (rint_any B g s 7 _ (HR.out.alloc _)).mono ?_
  rintro e w1 ⟨he1, hr1, hg1⟩
  rw [show ((7 : Nat) : Int) = 7 from rfl, ← HA.out] at he1 hr1
  subst he1
  have HR1 := Lib.hid hr1
  have hz1 : w.heap.size + 1 ≤ w1.heap.size := by have := hg1.size; simpa using this
  have HT1 : Hid (w.grownBy w1 (some g)) := only_trans (only_alloc (World.grownBy.refl w (some g)) _) hg1 (.inl rfl)
  have HY1 : Hid (Blk w1 w.heap.size 63 #[.int .i64 0, .int .i64 0, .bool false, .string ⟨#[]⟩]) := Blk.kept (Blk.new w _ _) hg1 (by omega)
  clear hr1 hg1
  have hltc : g < w1.heap.size := by omega
  go_wp2_with fail
  refine (rint_any B g a.2 1099511627776 _ (HR1.out.alloc _)).mono ?_
  rintro e w2 ⟨he2, hr2, hg2⟩
  rw [show ((1099511627776 : Nat) : Int) = 1099511627776 from rfl, ← HBB.out] at he2 hr2
  subst he2
  have HR2 := Lib.hid hr2
  have HT2 : Hid (w.grownBy w2 (some g)) := only_trans (only_alloc HT1.out _) hg2 (.inl rfl)
  have HX2 : Hid (Blk w2 w1.heap.size 63 #[.int .i64 a.1, .int .i64 0, .bool false, .string ⟨#[]⟩]) := Blk.kept (Blk.new w1 _ _) hg2 (by omega)
  have HY2 : Hid (Blk w2 w.heap.size 63 #[.int .i64 0, .int .i64 0, .bool false, .string ⟨#[]⟩]) := Blk.kept (HY1.out.alloc _) hg2 (by omega)
  have k2 : w2.cell? ⟨w1.heap.size, 1, none⟩ = some (.int .i64 0) := HX2.out.cell 1
  have f2 := HX2.out.frozen 1
  have hne : w.heap.size ≠ w1.heap.size := by omega
  have hwl : w.heap.size ≤ w1.heap.size := by omega
  clear hr2 hg2 HY1 HR1
  go_wp2_with fail
  refine (rflag_any B g b.2 _ (HR2.out.far (by exact hltc) _)).mono ?_
  rintro e w3 ⟨he3, hr3, hg3⟩
  rw [← HCC.out] at he3 hr3
  subst he3
  have HR3 := Lib.hid hr3
  have HT3 : Hid (w.grownBy w3 (some g)) := only_trans (only_setCell HT2.out (.inr (by exact hwl)) _) hg3 (.inl rfl)
  have HX3 : Hid (Blk w3 w1.heap.size 63 #[.int .i64 a.1, .int .i64 b.1, .bool false, .string ⟨#[]⟩]) := Blk.kept (HX2.out.set_ 1 _) hg3 (by omega)
  have HY3 : Hid (Blk w3 w.heap.size 63 #[.int .i64 0, .int .i64 0, .bool false, .string ⟨#[]⟩]) := Blk.kept (HY2.out.far (by exact hne) _) hg3 (by omega)
  have k3 : w3.cell? ⟨w1.heap.size, 2, none⟩ = some (.bool false) := HX3.out.cell 2
  have f3 := HX3.out.frozen 2
  clear hr3 hg3 k2 f2 HX2 HY2 HR2
  generalize hcg : (c.1 == 1) = cg at HE ⊢
  have HCG := Lib.hid hcg
  clear hcg
  go_wp2_with fail
  refine (rtext_any B g c.2 _ (HR3.out.far (by exact hltc) _)).mono ?_
  rintro e w4 ⟨he4, hr4, hg4⟩
  rw [← HDD.out] at he4 hr4
  subst he4
  have HR4 := Lib.hid hr4
  have HT4 : Hid (w.grownBy w4 (some g)) := only_trans (only_setCell HT3.out (.inr (by exact hwl)) _) hg4 (.inl rfl)
  have hx4 : Blk w4 w1.heap.size 63 #[.int .i64 a.1, .int .i64 b.1, .bool cg, .string ⟨#[]⟩] := Blk.kept (HX3.out.set_ 2 _) hg4 (by omega)
  have hy4 : Blk w4 w.heap.size 63 #[.int .i64 0, .int .i64 0, .bool false, .string ⟨#[]⟩] := Blk.kept (HY3.out.far (by exact hne) _) hg4 (by omega)
  have p0 : w4.cell? ⟨w1.heap.size, 0, none⟩ = some (.int .i64 a.1) := hx4.cell 0
  have p1 : w4.cell? ⟨w1.heap.size, 1, none⟩ = some (.int .i64 b.1) := hx4.cell 1
  have p2 : w4.cell? ⟨w1.heap.size, 2, none⟩ = some (.bool cg) := hx4.cell 2
  have p3 : w4.cell? ⟨w1.heap.size, 3, none⟩ = some (.string ⟨#[]⟩) := hx4.cell 3
  have q0 : w4.cell? ⟨w.heap.size, 0, none⟩ = some (.int .i64 0) := hy4.cell 0
  have q1 : w4.cell? ⟨w.heap.size, 1, none⟩ = some (.int .i64 0) := hy4.cell 1
  have q2 : w4.cell? ⟨w.heap.size, 2, none⟩ = some (.bool false) := hy4.cell 2
  have q3 : w4.cell? ⟨w.heap.size, 3, none⟩ = some (.string ⟨#[]⟩) := hy4.cell 3
  have e3 := hx4.frozen 3
  have r0 := hy4.frozen 0
  have r1 := hy4.frozen 1
  have r2 := hy4.frozen 2
  have r3 := hy4.frozen 3
  clear hr4 hg4 k3 f3 HX3 HY3 HR3 hx4 hy4
  have hne2 : w1.heap.size ≠ w.heap.size := by omega
  go_wp2
  rw [HE.out]
  refine bodyPost_ret (v := chv ⟨a.1, b.1, cg, d.1⟩) (by simp [chv, results, Try.results44, go_sem, hne, hne2, q0, q1, q2, q3]) rfl ⟨rfl, ?_, ?_⟩
  · exact ((((HR4.out.far (by exact hltc) _).far (by exact hlt) _).far (by exact hlt) _).far (by exact hlt) _).far (by exact hlt) _
  · exact only_setCell (only_setCell (only_setCell (only_setCell (only_setCell HT4.out (.inr (by exact hwl)) _) (.inr (Nat.le_refl _)) _) (.inr (Nat.le_refl _)) _) (.inr (Nat.le_refl _)) _) (.inr (Nat.le_refl _)) _
end Go.Proofs.Ytlkjmdkmcaaihaa.Txn
