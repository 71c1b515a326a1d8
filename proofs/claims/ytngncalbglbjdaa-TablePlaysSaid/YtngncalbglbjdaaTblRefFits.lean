/-
  The document's set of tables: contract of Fits.
-/
import Derived.Test.YtngncalbglbjdaaTblRefApply
import Derived.Test.YtngncalbglbjdaaTblRefCopy
import Derived.Test.YtngncalbglbjdaaTblFits2
namespace Go.Proofs.Ytngncalbglbjdaa.Tbl
set_option linter.unusedVariables false
set_option maxRecDepth 100000
open Go.RowKit Base IdxMath Foot Idx
open PChg (Cs)
set_option linter.ambiguousOpen false
set_option linter.unusedSimpArgs false

set_option maxHeartbeats 6400000 in
theorem reffits_any (R : Nat → Prop) (p : Nat) (T : List (List Rw)) (M : Nat) (A : Option Addr) (n c : Nat) (l : List Cg) (w : World) (h : RAt w R p T) (hl : Cs w w.heap.size A n c l) (hM : Most T M) (hsz : M + n ≤ 1099511627774) :
    Calls Try.prog 12 #[.pointer (some ⟨p, 0, none⟩), .slice A n c] w fun e w' => e = .returned (.bool (fitsT T l)) ∧ Below w.heap.size w w' := by
  have HS := Lib.hid h
  have HC := Lib.hid hl
  have HM := Lib.hid hM
  clear h hl hM
  go_enter Try.func12, Try.ntmps12
  go_wp2_with fail
  refine (refcopy_any R p T M w HS.out HM.out (by omega)).mono ?_
  rintro e w1 ⟨q, rfl, hq, hb1⟩
  have HQ := Lib.hid hq
  have HB1 := Lib.hid hb1
  have hz1 := hb1.size
  clear hq hb1
  go_wp2_with fail
  refine (refapply_any (fun i => w.heap.size ≤ i ∧ i < w1.heap.size) q T M A n c l w1 HQ.out (fun wr ht => by
    have hb := ht.below (B := w.heap.size) (fun i hi => hi.1) hz1
    exact ((HC.out.below HB1.out).below hb).more (Nat.le_trans hz1 ht.size)) HM.out hsz).mono ?_
  rintro e w2 ⟨rfl, hr2, ht2⟩
  have HB2 : Hid (Below w.heap.size w w2) := HB1.out.trans (ht2.below (fun i hi => hi.1) hz1)
  have HR2 := Lib.hid hr2
  clear hr2 ht2
  cases ht : allT T l with
  | false =>
    have HF : Hid (fitsT T l = false) := by show _ = _; unfold fitsT; rw [ht]; rfl
    clear HR2
    go_wp2
    go_ret
    exact ⟨by rw [HF.out]; rfl, HB2.out⟩
  | true =>
    have HF : Hid (fitsT T l = small (doAll T l) T.length) := by show _ = _; unfold fitsT; rw [ht]; rfl
    have HR3 : Hid (RAt w2 (Out (fun i => w.heap.size ≤ i ∧ i < w1.heap.size) w1 w2) q (doAll T l)) := by have := HR2.out; unfold appl at this; rw [ht] at this; exact this
    have hlen := doAll_length T l
    generalize doAll T l = T1 at *
    obtain ⟨b, cs, hX⟩ := HR3.out
    have c0 : w2.cell? ⟨q, 0, none⟩ = some (.slice (some ⟨b, 0, none⟩) T1.length T1.length) := hX.box.cell 0
    have hm8 := hX.most
    have HX := Lib.hid hX
    clear HR2 HR3 ht hX
    go_wp2
    go_loopw [6] (fun vi wr => ∃ k : Nat, vi = .int .i64 k ∧ k ≤ T1.length ∧ small T1 k = true ∧ w2 = wr) (fun vi _ => T1.length - (intOf vi).toNat)
    case atStart => exact ⟨0, rfl, Nat.zero_le _, rfl, rfl⟩
    case round =>
      obtain ⟨k, rfl, hk, hsm, rfl⟩ := hrel
      have HSM := Lib.hid hsm
      clear hsm
      by_cases hkn : k < T1.length
      · obtain ⟨A3, m, c3, l3, e2, x1, ho, _, _⟩ := HX.out.get hkn
        have htab := tab_get hkn e2
        have hln := (Rs.of_own ho).len
        have l1 : (k : Int) < (T1.length : Int) := by omega
        clear ho
        by_cases h1000 : m ≤ 1000
        · have HS2 : Hid (small T1 (k + 1) = true) := by show _ = _; rw [small_succ, HSM.out, htab, hln]; simpa using h1000
          have hq : ¬ (1000 : Int) < (m : Int) := by omega
          clear e2 htab hln
          go_wp2
          go_roundw
          case rel => exact ⟨k + 1, by go_num, by omega, HS2.out, by first | trivial | rfl⟩
          case measure => simp [intOf]; omega
        · have HS2 := Lib.hid (small_not (T := T1) hkn (by rw [htab, hln]; exact h1000))
          have hq : (1000 : Int) < (m : Int) := by omega
          clear e2 htab hln
          go_wp2
          go_ret
          exact ⟨by rw [HF.out, ← hlen, HS2.out]; rfl, HB2.out⟩
      · obtain rfl : k = T1.length := by omega
        have l1 : ¬ ((T1.length : Nat) : Int) < (T1.length : Int) := by omega
        go_wp2
        go_ret
        exact ⟨by rw [HF.out, ← hlen, HSM.out]; rfl, HB2.out⟩
end Go.Proofs.Ytngncalbglbjdaa.Tbl
