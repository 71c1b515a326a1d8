/-
  Contracts of package batch's mayAll, fit, rise.
-/
import Derived.Test.YtlkjmdkmcaaihaaBtMay
import Derived.Deep.QuietTactic
import Derived.BigQuiet
namespace Go.Proofs.Ytlkjmdkmcaaihaa.Bt
set_option linter.unusedVariables false
set_option maxRecDepth 100000
open Go.RowKit Base FieldMath TxnMath BatchMath
open GuardMath (Gp noGp)
open Gd (Gps ov ov_append ov_one ov_length ocells oval oel)
open Txn (all_take all_not take_all)
open Go.Proofs.Ytlkjmdkmcaaihaa.Field (ret_bool empty_iff)
set_option linter.ambiguousOpen false
set_option linter.unusedSimpArgs false

set_option maxHeartbeats 1600000 in
theorem mayall_any (B : Nat) (A : Option Addr) (n c : Nat) (l : List It) (w : World) (h : Its w B A n c l) (hB : B ≤ w.heap.size) :
    Calls Try.prog 47 #[.slice A n c] w fun e w' => e = .returned (.bool (allMay l)) ∧ Below w.heap.size w w' := by
  have hle := h.le
  have HL := Lib.hid h.len
  have HR := Lib.hid h
  have HE := Lib.hid (show allMay l = l.all may from rfl)
  clear h
  go_enter Try.func47, Try.ntmps47
  go_wp2
  go_loopw [7] (fun i wr => AllRel w may l n i wr) (fun i _ => n - (intOf i).toNat)
  case atStart => exact ⟨0, Nat.zero_le _, rfl, (fun f hf => by simp at hf), Below.refl _ _⟩
  case round =>
    obtain ⟨k, hk, rfl, hall, hbel⟩ := hrel
    have HA := Lib.hid hall
    have HB := Lib.hid hbel
    clear hall hbel
    by_cases hlt : k < n
    · obtain ⟨b, off, x, rfl, hb, hget, htake, A1, n1, c1, A2, n2, c2, x0, x1, x2, hos, hns⟩ := (HR.out.below (HB.out.mono hB)).at_ hlt
      have HG := Lib.hid hget
      have HT := Lib.hid htake
      obtain ⟨L, ops, nts⟩ := x
      dsimp only at x0 hos hns
      have HBl := Lib.hid (show Below w.heap.size w (wr.alloc (.cells #[.int .i64 L, .slice A1 n1 c1, .slice A2 n2 c2] 25)) from HB.out.alloc HB.out.size _)
      have hBr : B ≤ wr.heap.size := Nat.le_trans hB HB.out.size
      have CM := Lib.hid (may_any B L A1 n1 c1 ops A2 n2 c2 nts (wr.alloc (.cells #[.int .i64 L, .slice A1 n1 c1, .slice A2 n2 c2] 25)) (hos.alloc hBr _) (hns.alloc hBr _) (Nat.le_trans hBr (by simp)))
      clear hget htake hos hns
      cases hm : may ⟨L, ops, nts⟩ with
      | true =>
        have HM := Lib.hid hm
        rw [hm] at CM
        clear hm
        go_wp2_with fail
        refine CM.out.mono ?_
        rintro e w1 ⟨rfl, hb1⟩
        have HB1 := Lib.hid (held_two HBl.out hb1)
        clear hb1
        go_wp2
        go_roundw
        case rel => exact ⟨k + 1, by omega, by go_num, take_all HA.out HT.out HM.out, HB1.out⟩
        case measure => simp [intOf]; omega
      | false =>
        have HM := Lib.hid hm
        rw [hm] at CM
        clear hm
        go_wp2_with fail
        refine CM.out.mono ?_
        rintro e w1 ⟨rfl, hb1⟩
        have HB1 := Lib.hid (held_two HBl.out hb1)
        clear hb1
        go_wp2
        go_ret
        exact ⟨ret_bool (a := false) (by rw [HE.out, all_not HG.out HM.out]), HB1.out⟩
    · go_wp2
      go_ret
      exact ⟨ret_bool (a := true) (by rw [HE.out, all_take (n := k) (by rw [HL.out]; omega) HA.out]), HB.out⟩
/-- what each of them has at most -/
def Small (l : List It) : Prop := ∀ x ∈ l, x.ops.length ≤ 4096 ∧ x.notes.length ≤ 256
theorem small_of {l : List It} (h : allMay l = true) : Small l := fun x hx => by
  have := may_iff.1 (List.all_eq_true.1 h x hx)
  exact ⟨this.ops, this.notes⟩
theorem Small.sums {l : List It} (h : Small l) : (allOps l).length ≤ 4096 * l.length ∧ (allNotes l).length ≤ 256 * l.length := by
  induction l with
  | nil => exact ⟨Nat.le_refl _, Nat.le_refl _⟩
  | cons x r ih =>
    have h1 := h x List.mem_cons_self
    have h2 := ih fun y hy => h y (List.mem_cons_of_mem _ hy)
    show (x.ops ++ allOps r).length ≤ _ ∧ (x.notes ++ allNotes r).length ≤ _
    rw [List.length_append, List.length_append, List.length_cons]
    omega
theorem Small.take {l : List It} (h : Small l) (k : Nat) : Small (l.take k) := fun x hx => h x (List.mem_of_mem_take hx)
def fits_ (l : List It) : Bool := decide ((allOps l).length ≤ 4096) && decide ((allNotes l).length ≤ 256)
def FitRel (w : World) (l : List It) (n : Nat) (a b i : Value) (wr : World) : Prop := ∃ k : Nat, k ≤ n ∧ i = .int .i64 k ∧ a = .int .i64 ((allOps (l.take k)).length : Int) ∧ b = .int .i64 ((allNotes (l.take k)).length : Int) ∧ Below w.heap.size w wr
set_option maxHeartbeats 1600000 in
theorem fit_any (B : Nat) (A : Option Addr) (n c : Nat) (l : List It) (w : World) (h : Its w B A n c l) (hB : B ≤ w.heap.size) (hs : Small l) (hn : n ≤ 1000000) :
    Calls Try.prog 48 #[.slice A n c] w fun e w' => e = .returned (.bool (fits_ l)) ∧ Below w.heap.size w w' := by
  have hle := h.le
  have HL := Lib.hid h.len
  have HR := Lib.hid h
  have HS := Lib.hid hs
  clear h hs
  go_enter Try.func48, Try.ntmps48
  go_wp2
  go_loopw [3, 4, 9] (fun a b i wr => FitRel w l n a b i wr) (fun _ _ i _ => n - (intOf i).toNat)
  case atStart => exact ⟨0, Nat.zero_le _, rfl, rfl, rfl, Below.refl _ _⟩
  case round =>
    obtain ⟨k, hk, rfl, rfl, rfl, hbel⟩ := hrel
    have HB := Lib.hid hbel
    clear hbel
    have hsum := (HS.out.take k).sums
    rw [List.length_take, HL.out] at hsum
    by_cases hlt : k < n
    · obtain ⟨b, off, x, rfl, hb, hget, htake, A1, n1, c1, A2, n2, c2, x0, x1, x2, hos, hns⟩ := (HR.out.below (HB.out.mono hB)).at_ hlt
      have hx := HS.out x (List.mem_of_getElem? hget)
      have h1 := hos.len
      have h2 := hns.len
      have HO1 := Lib.hid (show (allOps (l.take (k + 1))).length = (allOps (l.take k)).length + n1 by rw [htake, allOps_snoc, List.length_append, h1])
      have HN1 := Lib.hid (show (allNotes (l.take (k + 1))).length = (allNotes (l.take k)).length + n2 by rw [htake, allNotes_snoc, List.length_append, h2])
      rw [h1, h2] at hx
      have HBl := Lib.hid (show Below w.heap.size w (wr.alloc (.cells #[.int .i64 x.lsn, .slice A1 n1 c1, .slice A2 n2 c2] 25)) from HB.out.alloc HB.out.size _)
      clear hget htake h1 h2 hos hns
      generalize (allOps (l.take k)).length = p at *
      generalize (allNotes (l.take k)).length = q at *
      have l1 : (k : Int) < (n : Int) := by omega
      have w1 : IntKind.i64.wrap ((p : Int) + (n1 : Int)) = ((p + n1 : Nat) : Int) := by rw [IntWalk.i64_in _ (by omega)]; omega
      have w2 : IntKind.i64.wrap ((q : Int) + (n2 : Int)) = ((q + n2 : Nat) : Int) := by rw [IntWalk.i64_in _ (by omega)]; omega
      go_wp2
      go_roundw
      case rel => exact ⟨k + 1, by omega, by go_num, by rw [HO1.out]; go_num, by rw [HN1.out]; go_num, HBl.out⟩
      case measure => simp [intOf]; omega
    · obtain rfl : k = n := by omega
      have hlk : l.take k = l := List.take_of_length_le (by rw [HL.out]; omega)
      rw [hlk] at *
      have HE := Lib.hid (show fits_ l = (decide ((allOps l).length ≤ 4096) && decide ((allNotes l).length ≤ 256)) from rfl)
      generalize (allOps l).length = p at *
      generalize (allNotes l).length = q at *
      go_wp2
      all_goals (
        go_ret
        refine ⟨ret_bool ?_, HB.out⟩
        rw [HE.out]
        first
          | (rw [decide_eq_true (show p ≤ 4096 by omega), Bool.true_and]; exact decide_eq_decide.2 (by omega))
          | (rw [decide_eq_false (show ¬ p ≤ 4096 by omega)]; rfl))
theorem rising_front {a : Int} {l : List It} {k : Nat} (h : rising a (l.take k) = false) : rising a l = false := by
  rw [← List.take_append_drop k l, rising_append, h, Bool.false_and]
def RiseRel (w : World) (l : List It) (n : Nat) (i : Value) (wr : World) : Prop := ∃ k : Nat, k + 1 ≤ n ∧ i = .int .i64 ((k : Int) + 1) ∧ rising 0 (l.take (k + 1)) = true ∧ Below w.heap.size w wr
set_option maxHeartbeats 1600000 in
theorem rise_any (B : Nat) (A : Option Addr) (n c : Nat) (l : List It) (w : World) (h : Its w B A n c l) (hB : B ≤ w.heap.size) (hs : allMay l = true) (hn : n ≤ 1000000) (hn1 : 1 ≤ n) :
    Calls Try.prog 49 #[.slice A n c] w fun e w' => e = .returned (.bool (rising 0 l)) ∧ Below w.heap.size w w' := by
  have hle := h.le
  have HL := Lib.hid h.len
  have HR := Lib.hid h
  have H0 : Hid (rising 0 (l.take (0 + 1)) = true) := by
    show _ = _
    obtain ⟨b, off, x, _, _, hget, htake, _⟩ := h.at_ (k := 0) (by omega)
    have := (may_iff.1 (List.all_eq_true.1 hs x (List.mem_of_getElem? hget))).lsn
    rw [htake, rising_snoc]
    show (true && decide (0 < x.lsn)) = true
    rw [Bool.true_and, decide_eq_true_eq]
    omega
  clear h hs
  go_enter Try.func49, Try.ntmps49
  go_wp2
  go_loopw [3] (fun i wr => RiseRel w l n i wr) (fun i _ => n + 1 - (intOf i).toNat)
  case atStart => exact ⟨0, hn1, rfl, H0.out, Below.refl _ _⟩
  case round =>
    obtain ⟨k, hk, rfl, hri, hbel⟩ := hrel
    have HB := Lib.hid hbel
    have HI := Lib.hid hri
    clear hbel hri
    by_cases hlt : k + 1 < n
    · obtain ⟨b, off, x, rfl, hb, hget, htake, A1, n1, c1, A2, n2, c2, x0, x1, x2, hos, hns⟩ := (HR.out.below (HB.out.mono hB)).at_ hlt
      obtain ⟨b', off', y, he, hb', hget', htake', P1, m1, d1, P2, m2, d2, y0, y1, y2, hos', hns'⟩ := (HR.out.below (HB.out.mono hB)).at_ (show k < n by omega)
      obtain ⟨rfl, rfl, _⟩ : b = b' ∧ off = off' ∧ True := by injection he with he; injection he with e1 e2; exact ⟨e1, e2, trivial⟩
      have HLS : Hid (rising 0 (l.take (k + 1 + 1)) = decide (y.lsn < x.lsn)) := by
        show _ = _
        rw [htake, rising_snoc, HI.out, Bool.true_and, htake', lastLsn_snoc]
      clear hget htake hget' htake' he hos hns hos' hns' x1 x2 y1 y2
      have l1 : (k : Int) + 1 < (n : Int) := by omega
      have w1 : IntKind.i64.wrap ((k : Int) + 1 - 1) = (k : Int) := by rw [IntWalk.i64_in _ (by omega)]; omega
      have l2 : (k : Int) < (n : Int) := by omega
      rw [show off + (k + 1) * 3 = off + (k + 1) * 3 from rfl] at x0
      generalize x.lsn = u at *
      generalize y.lsn = v at *
      by_cases hle : u ≤ v
      · have HF : Hid (rising 0 l = false) := rising_front (by rw [HLS.out, decide_eq_false (by omega)])
        go_wp2_with fail
        go_quiet (fail)
        go_wp2
        go_ret
        exact ⟨ret_bool (a := false) HF.out.symm, below_drewN HB.out _⟩
      · have HF : Hid (rising 0 (l.take (k + 1 + 1)) = true) := by show _ = _; rw [HLS.out, decide_eq_true (by omega)]
        go_wp2_with fail
        go_quiet (fail)
        go_wp2
        go_roundw
        case rel => exact ⟨k + 1, by omega, by go_num, HF.out, below_drewN HB.out _⟩
        case measure => simp [intOf]; omega
    · obtain rfl : k + 1 = n := by omega
      have hlk : l.take (k + 1) = l := List.take_of_length_le (by rw [HL.out]; omega)
      rw [hlk] at HI
      have l1 : ¬ (k : Int) + 1 < ((k + 1 : Nat) : Int) := by omega
      go_wp2
      go_ret
      exact ⟨ret_bool (a := true) HI.out.symm, HB.out⟩
end Go.Proofs.Ytlkjmdkmcaaihaa.Bt
