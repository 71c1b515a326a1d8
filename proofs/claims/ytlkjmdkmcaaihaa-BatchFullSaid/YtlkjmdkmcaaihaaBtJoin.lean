/-
  Contract of package batch's Join: it answers what the plain mathematics says of the items.
-/
import Derived.Test.YtlkjmdkmcaaihaaBtMay
import Derived.Deep.QuietTactic
import Derived.BigQuiet
import Derived.Test.YtlkjmdkmcaaihaaBtGather
import Derived.Test.YtlkjmdkmcaaihaaBtItem
import Derived.Test.YtlkjmdkmcaaihaaBtDecode
namespace Go.Proofs.Ytlkjmdkmcaaihaa.Bt
set_option linter.unusedVariables false
set_option maxRecDepth 100000
open Go.RowKit Base FieldMath TxnMath BatchMath
open GuardMath (Gp noGp)
open Gd (Gps ov ov_append ov_one ov_length ocells oval oel)
open Txn (all_take all_not take_all)
open Go.Proofs.Ytlkjmdkmcaaihaa.Field (ret_bool empty_iff)
set_option linter.ambiguousOpen false
set_option linter.unusedSimpArgs false

set_option maxHeartbeats 1600000 in
theorem mayall_any (B : Nat) (A : Option Addr) (n c : Nat) (l : List It) (w : World) (h : Its w B A n c l) (hB : B ≤ w.heap.size) :
    Calls Try.prog 47 #[.slice A n c] w fun e w' => e = .returned (.bool (allMay l)) ∧ Below w.heap.size w w' := by
  have hle := h.le
  have HL := Lib.hid h.len
  have HR := Lib.hid h
  have HE := Lib.hid (show allMay l = l.all may from rfl)
  clear h
  go_enter Try.func47, Try.ntmps47
  go_wp2
  go_loopw [7] (fun i wr => AllRel w may l n i wr) (fun i _ => n - (intOf i).toNat)
  case atStart => exact ⟨0, Nat.zero_le _, rfl, (fun f hf => by simp at hf), Below.refl _ _⟩
  case round =>
    obtain ⟨k, hk, rfl, hall, hbel⟩ := hrel
    have HA := Lib.hid hall
    have HB := Lib.hid hbel
    clear hall hbel
    by_cases hlt : k < n
    · obtain ⟨b, off, x, rfl, hb, hget, htake, A1, n1, c1, A2, n2, c2, x0, x1, x2, hos, hns⟩ := (HR.out.below (HB.out.mono hB)).at_ hlt
      have HG := Lib.hid hget
      have HT := Lib.hid htake
      obtain ⟨L, ops, nts⟩ := x
      dsimp only at x0 hos hns
      have HBl := Lib.hid (show Below w.heap.size w (wr.alloc (.cells #[.int .i64 L, .slice A1 n1 c1, .slice A2 n2 c2] 25)) from HB.out.alloc HB.out.size _)
      have hBr : B ≤ wr.heap.size := Nat.le_trans hB HB.out.size
      have CM := Lib.hid (may_any B L A1 n1 c1 ops A2 n2 c2 nts (wr.alloc (.cells #[.int .i64 L, .slice A1 n1 c1, .slice A2 n2 c2] 25)) (hos.alloc hBr _) (hns.alloc hBr _) (Nat.le_trans hBr (by simp)))
      clear hget htake hos hns
      cases hm : may ⟨L, ops, nts⟩ with
      | true =>
        have HM := Lib.hid hm
        rw [hm] at CM
        clear hm
        go_wp2_with fail
        refine CM.out.mono ?_
        rintro e w1 ⟨rfl, hb1⟩
        have HB1 := Lib.hid (held_two HBl.out hb1)
        clear hb1
        go_wp2
        go_roundw
        case rel => exact ⟨k + 1, by omega, by go_num, take_all HA.out HT.out HM.out, HB1.out⟩
        case measure => simp [intOf]; omega
      | false =>
        have HM := Lib.hid hm
        rw [hm] at CM
        clear hm
        go_wp2_with fail
        refine CM.out.mono ?_
        rintro e w1 ⟨rfl, hb1⟩
        have HB1 := Lib.hid (held_two HBl.out hb1)
        clear hb1
        go_wp2
        go_ret
        exact ⟨ret_bool (a := false) (by rw [HE.out, all_not HG.out HM.out]), HB1.out⟩
    · go_wp2
      go_ret
      exact ⟨ret_bool (a := true) (by rw [HE.out, all_take (n := k) (by rw [HL.out]; omega) HA.out]), HB.out⟩
/-- what each of them has at most -/
def Small (l : List It) : Prop := ∀ x ∈ l, x.ops.length ≤ 4096 ∧ x.notes.length ≤ 256
theorem small_of {l : List It} (h : allMay l = true) : Small l := fun x hx => by
  have := may_iff.1 (List.all_eq_true.1 h x hx)
  exact ⟨this.ops, this.notes⟩
theorem Small.sums {l : List It} (h : Small l) : (allOps l).length ≤ 4096 * l.length ∧ (allNotes l).length ≤ 256 * l.length := by
  induction l with
  | nil => exact ⟨Nat.le_refl _, Nat.le_refl _⟩
  | cons x r ih =>
    have h1 := h x List.mem_cons_self
    have h2 := ih fun y hy => h y (List.mem_cons_of_mem _ hy)
    show (x.ops ++ allOps r).length ≤ _ ∧ (x.notes ++ allNotes r).length ≤ _
    rw [List.length_append, List.length_append, List.length_cons]
    omega
theorem Small.take {l : List It} (h : Small l) (k : Nat) : Small (l.take k) := fun x hx => h x (List.mem_of_mem_take hx)
def fits_ (l : List It) : Bool := decide ((allOps l).length ≤ 4096) && decide ((allNotes l).length ≤ 256)
def FitRel (w : World) (l : List It) (n : Nat) (a b i : Value) (wr : World) : Prop := ∃ k : Nat, k ≤ n ∧ i = .int .i64 k ∧ a = .int .i64 ((allOps (l.take k)).length : Int) ∧ b = .int .i64 ((allNotes (l.take k)).length : Int) ∧ Below w.heap.size w wr
set_option maxHeartbeats 1600000 in
theorem fit_any (B : Nat) (A : Option Addr) (n c : Nat) (l : List It) (w : World) (h : Its w B A n c l) (hB : B ≤ w.heap.size) (hs : Small l) (hn : n ≤ 1000000) :
    Calls Try.prog 48 #[.slice A n c] w fun e w' => e = .returned (.bool (fits_ l)) ∧ Below w.heap.size w w' := by
  have hle := h.le
  have HL := Lib.hid h.len
  have HR := Lib.hid h
  have HS := Lib.hid hs
  clear h hs
  go_enter Try.func48, Try.ntmps48
  go_wp2
  go_loopw [3, 4, 9] (fun a b i wr => FitRel w l n a b i wr) (fun _ _ i _ => n - (intOf i).toNat)
  case atStart => exact ⟨0, Nat.zero_le _, rfl, rfl, rfl, Below.refl _ _⟩
  case round =>
    obtain ⟨k, hk, rfl, rfl, rfl, hbel⟩ := hrel
    have HB := Lib.hid hbel
    clear hbel
    have hsum := (HS.out.take k).sums
    rw [List.length_take, HL.out] at hsum
    by_cases hlt : k < n
    · obtain ⟨b, off, x, rfl, hb, hget, htake, A1, n1, c1, A2, n2, c2, x0, x1, x2, hos, hns⟩ := (HR.out.below (HB.out.mono hB)).at_ hlt
      have hx := HS.out x (List.mem_of_getElem? hget)
      have h1 := hos.len
      have h2 := hns.len
      have HO1 := Lib.hid (show (allOps (l.take (k + 1))).length = (allOps (l.take k)).length + n1 by rw [htake, allOps_snoc, List.length_append, h1])
      have HN1 := Lib.hid (show (allNotes (l.take (k + 1))).length = (allNotes (l.take k)).length + n2 by rw [htake, allNotes_snoc, List.length_append, h2])
      rw [h1, h2] at hx
      have HBl := Lib.hid (show Below w.heap.size w (wr.alloc (.cells #[.int .i64 x.lsn, .slice A1 n1 c1, .slice A2 n2 c2] 25)) from HB.out.alloc HB.out.size _)
      clear hget htake h1 h2 hos hns
      generalize (allOps (l.take k)).length = p at *
      generalize (allNotes (l.take k)).length = q at *
      have l1 : (k : Int) < (n : Int) := by omega
      have w1 : IntKind.i64.wrap ((p : Int) + (n1 : Int)) = ((p + n1 : Nat) : Int) := by rw [IntWalk.i64_in _ (by omega)]; omega
      have w2 : IntKind.i64.wrap ((q : Int) + (n2 : Int)) = ((q + n2 : Nat) : Int) := by rw [IntWalk.i64_in _ (by omega)]; omega
      go_wp2
      go_roundw
      case rel => exact ⟨k + 1, by omega, by go_num, by rw [HO1.out]; go_num, by rw [HN1.out]; go_num, HBl.out⟩
      case measure => simp [intOf]; omega
    · obtain rfl : k = n := by omega
      have hlk : l.take k = l := List.take_of_length_le (by rw [HL.out]; omega)
      rw [hlk] at *
      have HE := Lib.hid (show fits_ l = (decide ((allOps l).length ≤ 4096) && decide ((allNotes l).length ≤ 256)) from rfl)
      generalize (allOps l).length = p at *
      generalize (allNotes l).length = q at *
      go_wp2
      all_goals (
        go_ret
        refine ⟨ret_bool ?_, HB.out⟩
        rw [HE.out]
        first
          | (rw [decide_eq_true (show p ≤ 4096 by omega), Bool.true_and]; exact decide_eq_decide.2 (by omega))
          | (rw [decide_eq_false (show ¬ p ≤ 4096 by omega)]; rfl))
theorem rising_front {a : Int} {l : List It} {k : Nat} (h : rising a (l.take k) = false) : rising a l = false := by
  rw [← List.take_append_drop k l, rising_append, h, Bool.false_and]
def RiseRel (w : World) (l : List It) (n : Nat) (i : Value) (wr : World) : Prop := ∃ k : Nat, k + 1 ≤ n ∧ i = .int .i64 ((k : Int) + 1) ∧ rising 0 (l.take (k + 1)) = true ∧ Below w.heap.size w wr
set_option maxHeartbeats 1600000 in
theorem rise_any (B : Nat) (A : Option Addr) (n c : Nat) (l : List It) (w : World) (h : Its w B A n c l) (hB : B ≤ w.heap.size) (hs : allMay l = true) (hn : n ≤ 1000000) (hn1 : 1 ≤ n) :
    Calls Try.prog 49 #[.slice A n c] w fun e w' => e = .returned (.bool (rising 0 l)) ∧ Below w.heap.size w w' := by
  have hle := h.le
  have HL := Lib.hid h.len
  have HR := Lib.hid h
  have H0 : Hid (rising 0 (l.take (0 + 1)) = true) := by
    show _ = _
    obtain ⟨b, off, x, _, _, hget, htake, _⟩ := h.at_ (k := 0) (by omega)
    have := (may_iff.1 (List.all_eq_true.1 hs x (List.mem_of_getElem? hget))).lsn
    rw [htake, rising_snoc]
    show (true && decide (0 < x.lsn)) = true
    rw [Bool.true_and, decide_eq_true_eq]
    omega
  clear h hs
  go_enter Try.func49, Try.ntmps49
  go_wp2
  go_loopw [3] (fun i wr => RiseRel w l n i wr) (fun i _ => n + 1 - (intOf i).toNat)
  case atStart => exact ⟨0, hn1, rfl, H0.out, Below.refl _ _⟩
  case round =>
    obtain ⟨k, hk, rfl, hri, hbel⟩ := hrel
    have HB := Lib.hid hbel
    have HI := Lib.hid hri
    clear hbel hri
    by_cases hlt : k + 1 < n
    · obtain ⟨b, off, x, rfl, hb, hget, htake, A1, n1, c1, A2, n2, c2, x0, x1, x2, hos, hns⟩ := (HR.out.below (HB.out.mono hB)).at_ hlt
      obtain ⟨b', off', y, he, hb', hget', htake', P1, m1, d1, P2, m2, d2, y0, y1, y2, hos', hns'⟩ := (HR.out.below (HB.out.mono hB)).at_ (show k < n by omega)
      obtain ⟨rfl, rfl, _⟩ : b = b' ∧ off = off' ∧ True := by injection he with he; injection he with e1 e2; exact ⟨e1, e2, trivial⟩
      have HLS : Hid (rising 0 (l.take (k + 1 + 1)) = decide (y.lsn < x.lsn)) := by
        show _ = _
        rw [htake, rising_snoc, HI.out, Bool.true_and, htake', lastLsn_snoc]
      clear hget htake hget' htake' he hos hns hos' hns' x1 x2 y1 y2
      have l1 : (k : Int) + 1 < (n : Int) := by omega
      have w1 : IntKind.i64.wrap ((k : Int) + 1 - 1) = (k : Int) := by rw [IntWalk.i64_in _ (by omega)]; omega
      have l2 : (k : Int) < (n : Int) := by omega
      rw [show off + (k + 1) * 3 = off + (k + 1) * 3 from rfl] at x0
      generalize x.lsn = u at *
      generalize y.lsn = v at *
      by_cases hle : u ≤ v
      · have HF : Hid (rising 0 l = false) := rising_front (by rw [HLS.out, decide_eq_false (by omega)])
        go_wp2_with fail
        go_quiet (fail)
        go_wp2
        go_ret
        exact ⟨ret_bool (a := false) HF.out.symm, below_drewN HB.out _⟩
      · have HF : Hid (rising 0 (l.take (k + 1 + 1)) = true) := by show _ = _; rw [HLS.out, decide_eq_true (by omega)]
        go_wp2_with fail
        go_quiet (fail)
        go_wp2
        go_roundw
        case rel => exact ⟨k + 1, by omega, by go_num, HF.out, below_drewN HB.out _⟩
        case measure => simp [intOf]; omega
    · obtain rfl : k + 1 = n := by omega
      have hlk : l.take (k + 1) = l := List.take_of_length_le (by rw [HL.out]; omega)
      rw [hlk] at HI
      have l1 : ¬ (k : Int) + 1 < ((k + 1 : Nat) : Int) := by omega
      go_wp2
      go_ret
      exact ⟨ret_bool (a := true) HI.out.symm, HB.out⟩
end Go.Proofs.Ytlkjmdkmcaaihaa.Bt

namespace Go.Proofs.Ytlkjmdkmcaaihaa.Bt
set_option linter.unusedVariables false
set_option maxRecDepth 100000
open Go.RowKit Base FieldMath TxnMath BatchMath
open GuardMath (Gp noGp)
open Gd (Gps ov ov_append ov_one ov_length ocells oval oel)
open Go.Proofs.Ytlkjmdkmcaaihaa.Field (ret_bool empty_iff)
set_option linter.ambiguousOpen false
set_option linter.unusedSimpArgs false

/-- items on their way to one: the joined one's block p, its rows behind block base -/
def JSt (w : World) (base p : Nat) (L : Int) (l : List It) (wr : World) : Prop := ∃ A N c A' N' c', Blk wr p 25 #[.int .i64 L, .slice A N c, .slice A' N' c'] ∧
  (allOps l).length = N ∧ (allNotes l).length = N' ∧ wr.ownsRow base 29 5 (.slice A N c) N (ov (allOps l)) ∧ wr.ownsRow base 27 7 (.slice A' N' c') N' (ntv (allNotes l)) ∧ Blk wr w.heap.size 25 itz ∧ Below w.heap.size w wr
def JRel (w : World) (base p : Nat) (L : Int) (l : List It) (n : Nat) (i : Value) (wr : World) : Prop := ∃ k : Nat, k ≤ n ∧ i = .int .i64 k ∧ JSt w base p L (l.take k) wr
theorem take_len {α : Type} {f : It → List α} (l : List It) (k : Nat) : ((l.take k).flatMap f).length ≤ (l.flatMap f).length := by
  have : l.flatMap f = (l.take k).flatMap f ++ (l.drop k).flatMap f := by rw [← List.flatMap_append, List.take_append_drop]
  rw [this, List.length_append]
  omega
set_option maxHeartbeats 6400000 in
theorem joined_any (B : Nat) (A : Option Addr) (n c : Nat) (l : List It) (w : World) (h : Its w B A n c l) (hB : B ≤ w.heap.size) (hn1 : 1 ≤ n) (h1 : (allOps l).length ≤ 4096) (h2 : (allNotes l).length ≤ 256) :
    Calls Try.prog 50 #[.slice A n c] w fun e w' => ∃ A1 n1 c1 A2 n2 c2, e = .returned (itv (lastLsn 0 l) A1 n1 c1 A2 n2 c2) ∧ ItOwn w' w.heap.size ⟨lastLsn 0 l, allOps l, allNotes l⟩ A1 n1 c1 A2 n2 c2 ∧ Below w.heap.size w w' := by
  have hle := h.le
  have HL := Lib.hid h.len
  have HR := Lib.hid h
  have HS1 := Lib.hid h1
  have HS2 := Lib.hid h2
  obtain ⟨m, rfl⟩ : ∃ m, n = m + 1 := ⟨n - 1, by omega⟩
  obtain ⟨b, off, x, rfl, hb, hget, htake, A1, n1, c1, A2, n2, c2, x0, x1, x2, hos, hns⟩ := h.at_ (k := m) (by omega)
  have hbw : b < w.heap.size := by omega
  have hbs : b ≠ w.heap.size := by omega
  have hsb : w.heap.size ≠ b := by omega
  have HLA : Hid (lastLsn 0 l = x.lsn) := by
    show _ = _
    have hl : l = l.take m ++ [x] := by rw [← htake, List.take_of_length_le (by rw [HL.out]; omega)]
    rw [hl, lastLsn_snoc]
  clear h h1 h2 hget htake hos hns x1 x2
  rw [HLA.out]
  generalize x.lsn = L at *
  have w1 : IntKind.i64.wrap (((m + 1 : Nat) : Int) - 1) = (m : Int) := by rw [IntWalk.i64_in _ (by omega)]; omega
  have w2 : ((m + 1 : Nat) : Int) - 1 = (m : Int) := by omega
  have w3 : IntKind.i64.wrap ((m : Int) + 1 - 1) = (m : Int) := by rw [IntWalk.i64_in _ (by omega)]; omega
  have l3 : (m : Int) < (m : Int) + 1 := by omega
  have l1 : (m : Int) < ((m + 1 : Nat) : Int) := by omega
  go_enter Try.func50, Try.ntmps50
  have HX0 : Hid (Blk (w.alloc (.cells itz 25)) w.heap.size 25 itz) := Blk.new _ _ _
  have HB0 : Hid (Below w.heap.size w (w.alloc (.cells itz 25))) := (Below.refl _ _).alloc (Nat.le_refl _) _
  have HJ0 : Hid (JSt w (w.heap.size + 2) (w.heap.size + 1) L [] ((w.alloc (.cells itz 25)).alloc (.cells #[.int .i64 L, .slice none 0 0, .slice none 0 0] 25))) :=
    ⟨none, 0, 0, none, 0, 0, by have := Blk.new (w.alloc (.cells itz 25)) 25 #[.int .i64 L, .slice none 0 0, .slice none 0 0]; simpa using this, rfl, rfl, World.ownsRow_nil _ _ _ _, World.ownsRow_nil _ _ _ _, HX0.out.alloc _, HB0.out.alloc HB0.out.size _⟩
  go_wp2
  go_loopw [16] (fun i wr => JRel w (w.heap.size + 2) (w.heap.size + 1) L l (m + 1) i wr) (fun i _ => m + 1 - (intOf i).toNat)
  case atStart => exact ⟨0, Nat.zero_le _, rfl, HJ0.out⟩
  case round =>
    obtain ⟨k, hk, rfl, A3, N3, c3, A4, N4, c4, hbx, hN3, hN4, ho3, ho4, hres, hbel⟩ := hrel
    have HX := Lib.hid hbx
    have HO3 := Lib.hid ho3
    have HO4 := Lib.hid ho4
    have HRS := Lib.hid hres
    have HB := Lib.hid hbel
    have HN3 := Lib.hid hN3
    have HN4 := Lib.hid hN4
    have hz2 : w.heap.size + 2 ≤ wr.heap.size := hbx.lt
    clear hbx hN3 hN4 ho3 ho4 hres hbel HJ0 x0
    by_cases hlt : k < m + 1
    · obtain ⟨b', off', x, he, hb', hget, htake, A5, n5, c5, A6, n6, c6, x0, x1, x2, hos, hns⟩ := (HR.out.below (HB.out.mono hB)).at_ hlt
      obtain ⟨rfl, rfl, _⟩ : b = b' ∧ off = off' ∧ True := by injection he with he; injection he with e1 e2; exact ⟨e1, e2, trivial⟩
      have h5 := hos.len
      have h6 := hns.len
      have HT1 := Lib.hid (show allOps (l.take (k + 1)) = allOps (l.take k) ++ x.ops by rw [htake, allOps_snoc])
      have HT2 := Lib.hid (show allNotes (l.take (k + 1)) = allNotes (l.take k) ++ x.notes by rw [htake, allNotes_snoc])
      have hb5 : N3 + n5 ≤ 4096 := by
        have h9 := take_len (f := (·.ops)) l (k + 1)
        have h8 : (allOps (l.take (k + 1))).length ≤ (allOps l).length := h9
        rw [HT1.out, List.length_append, HN3.out, h5] at h8
        exact Nat.le_trans h8 HS1.out
      have hb6 : N4 + n6 ≤ 256 := by
        have h9 := take_len (f := (·.notes)) l (k + 1)
        have h8 : (allNotes (l.take (k + 1))).length ≤ (allNotes l).length := h9
        rw [HT2.out, List.length_append, HN4.out, h6] at h8
        exact Nat.le_trans h8 HS2.out
      have HG1 := Lib.hid hos
      have HG2 := Lib.hid hns
      have H5 := Lib.hid h5
      have H6 := Lib.hid h6
      have hBr : B ≤ wr.heap.size := Nat.le_trans hB HB.out.size
      have k1 : wr.cell? ⟨w.heap.size + 1, 1, none⟩ = some (.slice A3 N3 c3) := HX.out.cell 1
      have k2 : wr.cell? ⟨w.heap.size + 1, 2, none⟩ = some (.slice A4 N4 c4) := HX.out.cell 2
      have fz1 := HX.out.frozen 1
      have lk : (k : Int) < ((m + 1 : Nat) : Int) := by omega
      have HY : Hid (Blk (wr.alloc (.cells #[.int .i64 x.lsn, .slice A5 n5 c5, .slice A6 n6 c6] 25)) wr.heap.size 25 #[.int .i64 x.lsn, .slice A5 n5 c5, .slice A6 n6 c6]) := Blk.new _ _ _
      have hz3 : w.heap.size + 1 < wr.heap.size := by omega
      have hz4 : w.heap.size + 1 ≠ wr.heap.size := by omega
      have hz5 : wr.heap.size ≠ w.heap.size + 1 := by omega
      have hne3 : (Value.slice A3 N3 c3).ownBlock ≠ some wr.heap.size := fun e => by have := (HO3.out.lt _ e).2; omega
      clear he hget htake h5 h6 hos hns
      go_wp2_with (first
        | (at_builtin
           refine wpList_append_row rfl (.tmp 21) (.tmp 23) rfl oel (w.heap.size + 2) _ N3 (ov (allOps (l.take k))) rfl (own_keep HO3.out ((Below.refl _ _).alloc (Nat.le_refl _) _)) B A5 n5 c5 (ov x.ops) rfl (HG1.out.alloc hBr _) (ov_one _) (by omega) (by omega) (by simp; omega) ?_
           intro A7 c7 w7 hown7 hg7 hb7
           rw [← ov_append, ← HT1.out] at hown7
           have HO7 := Lib.hid hown7
           have HP7 := Lib.hid ((own_keep HO4.out ((Below.refl _ _).alloc (Nat.le_refl _) (.cells #[.int .i64 x.lsn, .slice A5 n5 c5, .slice A6 n6 c6] 25))).kept hg7.1 (own_types HO4.out HO3.out (by decide)))
           have HX7 := Lib.hid ((HX.out.alloc (.cells #[.int .i64 x.lsn, .slice A5 n5 c5, .slice A6 n6 c6] 25)).below hb7 (by omega))
           have HR7 := Lib.hid ((HRS.out.alloc (.cells #[.int .i64 x.lsn, .slice A5 n5 c5, .slice A6 n6 c6] 25)).below hb7 (by omega))
           have HB7 := Lib.hid ((held_alloc HB.out (.cells #[.int .i64 x.lsn, .slice A5 n5 c5, .slice A6 n6 c6] 25)).trans (hb7.mono (by omega)))
           have HY7 := Lib.hid (bx_grew (W := wr) (base := w.heap.size + 2) hb7 hg7 hne3 HY.out ((Below.refl _ _).alloc hz2 _)).1
           have hz7 : wr.heap.size < w7.heap.size := HY7.out.lt
           have e1 : w7.cell? ⟨w.heap.size + 1, 1, none⟩ = some (.slice A3 N3 c3) := HX7.out.cell 1
           have e2 : w7.cell? ⟨w.heap.size + 1, 2, none⟩ = some (.slice A4 N4 c4) := HX7.out.cell 2
           have e3 : w7.cell? ⟨wr.heap.size, 2, none⟩ = some (.slice A6 n6 c6) := HY7.out.cell 2
           have fe1 := HX7.out.frozen 1
           have fe2 := HX7.out.frozen 2
           have hne1 : w.heap.size + 1 ≠ wr.heap.size := by omega
           have hne2 : wr.heap.size ≠ w.heap.size + 1 := by omega
           have HG7 := Lib.hid ((HG2.out.alloc hBr (.cells #[.int .i64 x.lsn, .slice A5 n5 c5, .slice A6 n6 c6] 25)).below (hb7.mono (by omega)))
           clear hown7 hg7 hb7 x0 x1 x2 k1 k2)
        | (at_builtin
           refine wpList_append_row rfl (.tmp 27) (.tmp 29) rfl ntel (w.heap.size + 2) _ N4 (ntv (allNotes (l.take k))) rfl (HP7.out.kept (only_setCell (World.grownBy.refl _ (some (w.heap.size + 1))) (.inl rfl) _) (.inr fun e => by have := (HP7.out.lt _ e).1; omega)) B A6 n6 c6 (ntv x.notes) rfl (HG7.out.setCell (by show B ≤ w.heap.size + 1; omega) _) (ntv_one _) (by omega) (by omega) (by simp; omega) ?_
           intro A8 c8 w8 hown8 hg8 hb8
           rw [← ntv_append, ← HT2.out] at hown8
           have HO8 := Lib.hid hown8
           have HP8 := Lib.hid ((HO7.out.kept (only_setCell (World.grownBy.refl _ (some (w.heap.size + 1))) (.inl rfl) (.slice A7 (N3 + n5) c7)) (.inr fun e => by have := (HO7.out.lt _ e).1; omega)).kept hg8.1 (own_types HO7.out HP7.out (by decide)))
           have HX8 : Hid (Blk w8 (w.heap.size + 1) 25 #[.int .i64 L, .slice A7 (N3 + n5) c7, .slice A4 N4 c4]) := (HX7.out.set_ 1 (.slice A7 (N3 + n5) c7)).below hb8 (by omega)
           have HR8 := Lib.hid ((HR7.out.far (p := ⟨w.heap.size + 1, 1, none⟩) (by simp) (.slice A7 (N3 + n5) c7)).below hb8 (by omega))
           have HB8 := Lib.hid ((HB7.out.setCell (p := ⟨w.heap.size + 1, 1, none⟩) (by simp) (.slice A7 (N3 + n5) c7)).trans (hb8.mono (by omega)))
           have e8 : w8.cell? ⟨w.heap.size + 1, 2, none⟩ = some (.slice A4 N4 c4) := HX8.out.cell 2
           have fe8 := HX8.out.frozen 2
           clear hown8 hg8 hb8)
        | fail)
      go_roundw
      case rel =>
        refine ⟨k + 1, by omega, by go_num, A7, N3 + n5, c7, A8, N4 + n6, c8, HX8.out.set_ 2 _, by rw [HT1.out, List.length_append, HN3.out, H5.out], by rw [HT2.out, List.length_append, HN4.out, H6.out], ?_, ?_, HR8.out.far (by simp) _, HB8.out.setCell (by simp) _⟩
        · exact HP8.out.kept (only_setCell (World.grownBy.refl _ (some (w.heap.size + 1))) (.inl rfl) _) (.inr fun e => by have := (HP8.out.lt _ e).1; omega)
        · exact HO8.out.kept (only_setCell (World.grownBy.refl _ (some (w.heap.size + 1))) (.inl rfl) _) (.inr fun e => by have := (HO8.out.lt _ e).1; omega)
      case measure => simp [intOf]; omega
    · have hlk : l.take k = l := List.take_of_length_le (by rw [HL.out]; omega)
      rw [hlk] at HO3 HO4
      have p0 : wr.cell? ⟨w.heap.size + 1, 0, none⟩ = some (.int .i64 L) := HX.out.cell 0
      have p1 : wr.cell? ⟨w.heap.size + 1, 1, none⟩ = some (.slice A3 N3 c3) := HX.out.cell 1
      have p2 : wr.cell? ⟨w.heap.size + 1, 2, none⟩ = some (.slice A4 N4 c4) := HX.out.cell 2
      have q0 : wr.cell? ⟨w.heap.size, 0, none⟩ = some (.int .i64 0) := HRS.out.cell 0
      have q1 : wr.cell? ⟨w.heap.size, 1, none⟩ = some (.slice none 0 0) := HRS.out.cell 1
      have q2 : wr.cell? ⟨w.heap.size, 2, none⟩ = some (.slice none 0 0) := HRS.out.cell 2
      have r0 := HRS.out.frozen 0
      have r1 := HRS.out.frozen 1
      have r2 := HRS.out.frozen 2
      have lk : ¬ (k : Int) < ((m + 1 : Nat) : Int) := by omega
      go_wp2
      have hon := three_on wr w.heap.size (.int .i64 L) (.slice A3 N3 c3) (.slice A4 N4 c4)
      refine bodyPost_ret (v := itv L A3 N3 c3 A4 N4 c4) (by simp [itv, results, Try.results50, go_sem, q0, q1, q2]) rfl ⟨A3, N3, c3, A4, N4, c4, rfl, ⟨?_, ?_⟩, ?_⟩
      · exact own_mono (HO3.out.kept hon (.inr fun e => by have := (HO3.out.lt _ e).1; omega)) (by omega)
      · exact own_mono (HO4.out.kept hon (.inr fun e => by have := (HO4.out.lt _ e).1; omega)) (by omega)
      · exact ((HB.out.setCell (by exact Nat.le_refl _) _).setCell (by exact Nat.le_refl _) _).setCell (by exact Nat.le_refl _) _
end Go.Proofs.Ytlkjmdkmcaaihaa.Bt

namespace Go.Proofs.Ytlkjmdkmcaaihaa.Bt
set_option linter.unusedVariables false
set_option maxRecDepth 100000
open Go.RowKit Base FieldMath TxnMath BatchMath
open GuardMath (Gp noGp)
open Gd (Gps ov ov_append ov_one ov_length ocells oval oel)
open Go.Proofs.Ytlkjmdkmcaaihaa.Field (ret_bool empty_iff)
set_option linter.ambiguousOpen false
set_option linter.unusedSimpArgs false

theorem join_nil : join [] = .error 1 := rfl
theorem join_bad {l : List It} (h : allMay l = false) : join l = .error 1 := by
  unfold join
  rw [if_pos]
  simp [h]
theorem join_much {l : List It} (h : fits_ l = false) : join l = .error 1 := by
  unfold join
  rw [if_pos]
  unfold fits_ at h
  simp only [Bool.and_eq_false_iff, decide_eq_false_iff_not] at h
  simp only [Bool.or_eq_true, decide_eq_true_eq]
  omega
theorem join_fine {l : List It} (h0 : l ≠ []) (h1 : allMay l = true) (h2 : fits_ l = true) : join l = if rising 0 l then .ok ⟨lastLsn 0 l, allOps l, allNotes l⟩ else .error 10 := by
  unfold join
  rw [if_neg]
  unfold fits_ at h2
  simp only [Bool.and_eq_true, decide_eq_true_eq] at h2
  simp only [Bool.or_eq_true, decide_eq_true_eq, List.isEmpty_iff, h1]
  simp [h0]
  omega
set_option maxHeartbeats 3200000 in
theorem join_any (B : Nat) (A : Option Addr) (n c : Nat) (l : List It) (w : World) (h : Its w B A n c l) (hB : B ≤ w.heap.size) (hn : n ≤ 1000000) :
    Calls Try.prog 23 #[.slice A n c] w (ItO w (join l)) := by
  have hle := h.le
  have HL := Lib.hid h.len
  have HX0 : Hid (Blk (w.alloc (.cells itz 25)) w.heap.size 25 itz) := Blk.new _ _ _
  have HB0 : Hid (Below w.heap.size w (w.alloc (.cells itz 25))) := (Below.refl _ _).alloc (Nat.le_refl _) _
  have HR := Lib.hid (h.below (HB0.out.mono hB))
  clear h
  by_cases h0 : n = 0
  · subst h0
    obtain rfl : l = [] := List.eq_nil_of_length_eq_zero HL.out
    have q0 : (w.alloc (.cells itz 25)).cell? ⟨w.heap.size, 0, none⟩ = some (.int .i64 0) := HX0.out.cell 0
    have q1 : (w.alloc (.cells itz 25)).cell? ⟨w.heap.size, 1, none⟩ = some (.slice none 0 0) := HX0.out.cell 1
    have q2 : (w.alloc (.cells itz 25)).cell? ⟨w.heap.size, 2, none⟩ = some (.slice none 0 0) := HX0.out.cell 2
    have HB1 := HB0
    go_enter Try.func23, Try.ntmps23
    go_wp2
    refine bodyPost_ret (v := .tuple #[itv 0 none 0 0 none 0 0, .int .i64 1]) (by simp [itv, results, Try.results23, go_sem]) rfl ?_
    exact itO_no join_nil rfl HB1.out
  have hne : l ≠ [] := fun e => h0 (by rw [← HL.out, e]; rfl)
  have HNE := Lib.hid hne
  have e0 : ((n : Int) == 0) = false := by simpa using h0
  have hn1 : 1 ≤ n := by omega
  clear h0 hne
  have C1 := Lib.hid (mayall_any B A n c l _ HR.out (Nat.le_trans hB HB0.out.size))
  go_enter Try.func23, Try.ntmps23
  cases hm : allMay l with
  | false =>
    rw [hm] at C1
    have HE := Lib.hid (join_bad hm)
    clear hm
    go_wp2_with fail
    refine C1.out.mono ?_
    rintro e w1 ⟨rfl, hb1⟩
    have HX1 := Lib.hid (HX0.out.below hb1 HX0.out.lt)
    have HB1 := Lib.hid (held_two HB0.out hb1)
    have q0 : w1.cell? ⟨w.heap.size, 0, none⟩ = some (.int .i64 0) := HX1.out.cell 0
    have q1 : w1.cell? ⟨w.heap.size, 1, none⟩ = some (.slice none 0 0) := HX1.out.cell 1
    have q2 : w1.cell? ⟨w.heap.size, 2, none⟩ = some (.slice none 0 0) := HX1.out.cell 2
    have r0 := HX1.out.frozen 0
    have r1 := HX1.out.frozen 1
    have r2 := HX1.out.frozen 2
    clear hb1 C1 HX0 HB0
    go_wp2
    refine bodyPost_ret (v := .tuple #[itv 0 none 0 0 none 0 0, .int .i64 1]) (by simp [itv, results, Try.results23, go_sem, q0, q1, q2]) rfl ?_
    exact itO_no HE.out rfl (three_below HB1.out _ _ _)
  | true =>
    rw [hm] at C1
    have HM := Lib.hid hm
    clear hm
    go_wp2_with fail
    refine C1.out.mono ?_
    rintro e w1 ⟨rfl, hb1⟩
    have HX1 := Lib.hid (HX0.out.below hb1 HX0.out.lt)
    have HR1 := Lib.hid (HR.out.below (hb1.mono (Nat.le_trans hB HB0.out.size)))
    have HB1 := Lib.hid (held_two HB0.out hb1)
    have hB1 : B ≤ w1.heap.size := Nat.le_trans hB HB1.out.size
    clear hb1 C1 HX0 HB0 HR
    have C2 := Lib.hid (fit_any B A n c l w1 HR1.out hB1 (small_of HM.out) hn)
    cases hf : fits_ l with
    | false =>
      rw [hf] at C2
      have HE := Lib.hid (join_much hf)
      clear hf
      go_wp2_with fail
      refine C2.out.mono ?_
      rintro e w2 ⟨rfl, hb2⟩
      have HX2 := Lib.hid (HX1.out.below hb2 HX1.out.lt)
      have HB2 := Lib.hid (held_two HB1.out hb2)
      have q0 : w2.cell? ⟨w.heap.size, 0, none⟩ = some (.int .i64 0) := HX2.out.cell 0
      have q1 : w2.cell? ⟨w.heap.size, 1, none⟩ = some (.slice none 0 0) := HX2.out.cell 1
      have q2 : w2.cell? ⟨w.heap.size, 2, none⟩ = some (.slice none 0 0) := HX2.out.cell 2
      have r0 := HX2.out.frozen 0
      have r1 := HX2.out.frozen 1
      have r2 := HX2.out.frozen 2
      clear hb2 C2
      go_wp2
      refine bodyPost_ret (v := .tuple #[itv 0 none 0 0 none 0 0, .int .i64 1]) (by simp [itv, results, Try.results23, go_sem, q0, q1, q2]) rfl ?_
      exact itO_no HE.out rfl (three_below HB2.out _ _ _)
    | true =>
      rw [hf] at C2
      have HJ := Lib.hid (join_fine HNE.out HM.out hf)
      have HF := Lib.hid hf
      clear hf
      go_wp2_with fail
      refine C2.out.mono ?_
      rintro e w2 ⟨rfl, hb2⟩
      have HX2 := Lib.hid (HX1.out.below hb2 HX1.out.lt)
      have HR2 := Lib.hid (HR1.out.below (hb2.mono hB1))
      have HB2 := Lib.hid (held_two HB1.out hb2)
      have hB2 : B ≤ w2.heap.size := Nat.le_trans hB HB2.out.size
      clear hb2 C2 HX1 HB1 HR1
      have C3 := Lib.hid (rise_any B A n c l w2 HR2.out hB2 HM.out hn hn1)
      cases hr : rising 0 l with
      | false =>
        rw [hr] at C3
        rw [hr] at HJ
        clear hr
        go_wp2_with fail
        refine C3.out.mono ?_
        rintro e w3 ⟨rfl, hb3⟩
        have HX3 := Lib.hid (HX2.out.below hb3 HX2.out.lt)
        have HB3 := Lib.hid (held_two HB2.out hb3)
        have q0 : w3.cell? ⟨w.heap.size, 0, none⟩ = some (.int .i64 0) := HX3.out.cell 0
        have q1 : w3.cell? ⟨w.heap.size, 1, none⟩ = some (.slice none 0 0) := HX3.out.cell 1
        have q2 : w3.cell? ⟨w.heap.size, 2, none⟩ = some (.slice none 0 0) := HX3.out.cell 2
        have r0 := HX3.out.frozen 0
        have r1 := HX3.out.frozen 1
        have r2 := HX3.out.frozen 2
        clear hb3 C3
        go_wp2
        refine bodyPost_ret (v := .tuple #[itv 0 none 0 0 none 0 0, .int .i64 10]) (by simp [itv, results, Try.results23, go_sem, q0, q1, q2]) rfl ?_
        exact itO_no (k := 10) HJ.out rfl (three_below HB3.out _ _ _)
      | true =>
        rw [hr] at C3
        rw [hr, if_pos rfl] at HJ
        clear hr
        go_wp2_with fail
        refine C3.out.mono ?_
        rintro e w3 ⟨rfl, hb3⟩
        have HX3 := Lib.hid (HX2.out.below hb3 HX2.out.lt)
        have HR3 := Lib.hid (HR2.out.below (hb3.mono hB2))
        have HB3 := Lib.hid (held_two HB2.out hb3)
        have hB3 : B ≤ w3.heap.size := Nat.le_trans hB HB3.out.size
        have hl := HF.out
        unfold fits_ at hl
        simp only [Bool.and_eq_true, decide_eq_true_eq] at hl
        clear hb3 C3
        go_wp2_with fail
        refine (joined_any B A n c l w3 HR3.out hB3 hn1 hl.1 hl.2).mono ?_
        rintro e w4 ⟨A1, n1, c1, A2, n2, c2, rfl, ho, hb4⟩
        have HX4 := Lib.hid (HX3.out.below hb4 HX3.out.lt)
        have HB4 := Lib.hid (held_two HB3.out hb4)
        have HO := Lib.hid ho
        have hz : w.heap.size < w3.heap.size := HX3.out.lt
        have q0 : w4.cell? ⟨w.heap.size, 0, none⟩ = some (.int .i64 0) := HX4.out.cell 0
        have q1 : w4.cell? ⟨w.heap.size, 1, none⟩ = some (.slice none 0 0) := HX4.out.cell 1
        have q2 : w4.cell? ⟨w.heap.size, 2, none⟩ = some (.slice none 0 0) := HX4.out.cell 2
        have r0 := HX4.out.frozen 0
        have r1 := HX4.out.frozen 1
        have r2 := HX4.out.frozen 2
        clear hb4 ho hl
        generalize hx : (⟨lastLsn 0 l, allOps l, allNotes l⟩ : It) = x at HO HJ
        have HLX : Hid (lastLsn 0 l = x.lsn) := by show _ = _; rw [← hx]
        rw [HLX.out]
        clear hx
        unfold itv
        go_wp2
        have hon := three_on w4 w.heap.size (.int .i64 x.lsn) (.slice A1 n1 c1) (.slice A2 n2 c2)
        refine bodyPost_ret (v := .tuple #[itv x.lsn A1 n1 c1 A2 n2 c2, .int .i64 0]) (by simp [itv, results, Try.results23, go_sem, q0, q1, q2]) rfl ?_
        unfold ItO
        rw [HJ.out]
        exact ⟨A1, n1, c1, A2, n2, c2, rfl, ⟨own_mono (HO.out.1.kept hon (.inr fun e => by have := (HO.out.1.lt _ e).1; omega)) (by omega), own_mono (HO.out.2.kept hon (.inr fun e => by have := (HO.out.2.lt _ e).1; omega)) (by omega)⟩, three_below HB4.out _ _ _⟩
end Go.Proofs.Ytlkjmdkmcaaihaa.Bt
