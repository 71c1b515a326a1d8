/-
  Contracts of the statements' own helpers over transactions: few; the first line of each statement on folding.
-/
import Derived.Test.YtlgdbpejefgeaaaFoldCode
import Derived.Test.YtlgdbpejefgeaaaFoldBetween
import Derived.Test.YtlgdbpejefgeaaaTxOpen
namespace Go.Proofs.Ytlgdbpejefgeaaa.Fold
set_option linter.unusedVariables false
set_option linter.unusedSimpArgs false
set_option maxRecDepth 100000
open Go.RowKit Base IdxMath FoldMath Foot
open TxnMath (Ch Tx)
open PChg (gval Cs)
open PTx
open Lsts (Lsts)
open Idx (Rs)
set_option linter.ambiguousOpen false

/-- what few answers: where it says so, the transactions, and their changes, are not many -/
def FewAns (w : World) (l : List Tx) (e : Ending) (w' : World) : Prop := ∃ g : Bool, e = .returned (.bool g) ∧ w = w' ∧ (g = true → l.length < 400 ∧ (chs l l.length).length < 400)
def FewRel (w : World) (n : Nat) (l : List Tx) (vs vi : Value) (wr : World) : Prop := ∃ i : Nat, i ≤ n ∧ vi = .int .i64 i ∧ vs = .int .i64 (n + (chs l i).length : Nat) ∧ n + (chs l i).length ≤ 562949953421312 ∧ w = wr
set_option maxHeartbeats 1600000 in
theorem few_any (B : Nat) (A : Option Addr) (n c : Nat) (l : List Tx) (w : World) (h : Txs w B A n c l) (hok : ∀ x ∈ l, OkTx x) (hl : l.length ≤ 140737488355328) :
    Calls Try.prog 7 #[.slice A n c] w (FewAns w l) := by
  have hle := h.le
  have hlen := h.len
  have HR := Lib.hid h
  have HOK := Lib.hid hok
  clear h hok
  go_enter Try.func7, Try.ntmps7
  go_wp2
  go_loopw [3, 4] (fun vs vi wr => FewRel w n l vs vi wr) (fun _ vi _ => n - (Go.RowKit.intOf vi).toNat)
  case atStart => exact ⟨0, by omega, rfl, by rw [chs_zero]; rfl, by rw [chs_zero]; simp; omega, rfl⟩
  case round =>
    obtain ⟨i, hi, rfl, rfl, hs, rfl⟩ := hrel
    obtain ⟨S, hS⟩ : ∃ S, S = n + (chs l i).length := ⟨_, rfl⟩
    have HSS := Lib.hid hS
    rw [← hS] at hs ⊢
    clear hS
    by_cases hin : i < n
    · have l1 : (i : Int) < (n : Int) := by omega
      by_cases h4 : S < 400
      · have l2 : (S : Int) < 400 := by omega
        obtain ⟨b, off, x, rfl, hbB, hx, A1, n1, c1, A2, n2, c2, x0, x1, x2, x3, x4, hcs, _⟩ := HR.out.at_ hin
        have hq := (HOK.out x (List.mem_of_getElem? hx)).2.2
        have hl1 := hcs.len
        have HX : Hid (S + n1 = n + (chs l (i + 1)).length) := by show _ = _; rw [chs_succ hx, List.length_append, HSS.out]; omega
        clear hx hcs x0 x1 x3 x4
        go_wp2
        go_roundw
        case rel => exact ⟨i + 1, by omega, by go_num, by rw [← HX.out]; go_num, by rw [← HX.out]; omega, rfl⟩
        case measure => simp [Go.RowKit.intOf]; omega
      · have l2 : ¬ (S : Int) < 400 := by omega
        go_wp2
        go_ret
        exact ⟨false, rfl, rfl, fun h => by cases h⟩
    · have l1 : ¬ (i : Int) < (n : Int) := by omega
      obtain rfl : i = n := by omega
      by_cases h4 : S < 400
      · have l2 : (S : Int) < 400 := by omega
        have hd : decide ((S : Int) < 400) = true := decide_eq_true l2
        go_wp2
        go_ret
        exact ⟨true, rfl, rfl, fun _ => by have := HSS.out; rw [hlen]; omega⟩
      · have l2 : ¬ (S : Int) < 400 := by omega
        have hd : decide ((S : Int) < 400) = false := decide_eq_false l2
        go_wp2
        go_ret
        exact ⟨false, rfl, rfl, fun h => by cases h⟩
end Go.Proofs.Ytlgdbpejefgeaaa.Fold
