/-
  Contracts of how the statements make a signal, and signals, that may be, of any texts, for any number of tables.
-/
import Derived.Test.YtlgdbpejefgeaaaTxMem
import Derived.Test.YtlgdbpejefgeaaaPlayCut
namespace Go.Proofs.Ytlgdbpejefgeaaa.PTx
set_option linter.unusedVariables false
set_option maxRecDepth 100000
open Go.RowKit Base TxnMath
open Go.Proofs.Ytlgdbpejefgeaaa.Field (cut_any)
set_option linter.ambiguousOpen false
set_option linter.unusedSimpArgs false

theorem empty_iff (s : ByteArray) : s.toList.isEmpty = decide (s.size = 0) := by
  rw [ByteArray.toList_eq]
  show _ = decide (s.data.size = 0)
  rw [← Array.length_toList]
  cases s.data.toList with
  | nil => rfl
  | cons a b => simp
theorem one_byte_str (x : Int) (w : World) (s : Nat) (hs : s = w.heap.size) : (convert 90 9 (.slice (some ⟨s, 0, none⟩) 1 1)).run Try.prog (w.alloc (.cells #[.int .u8 x] 5)) = .ok (.string (strOfNums [x])) (w.alloc (.cells #[.int .u8 x] 5)) := by
  subst hs
  exact run_convert_bytes_arg (P := Try.prog) _ 90 5 Try.underlying90 Try.underlying5 w.heap.size 0 1 1 [x] rfl (fun i hi => by
    obtain rfl : i = 0 := by omega
    simp) 9 Try.underlying9
theorem strOfNums_one (x : Int) : (strOfNums [x]).size = 1 := rfl
def MadeSig (w : World) (e : Ending) (w' : World) : Prop := ∃ s : ByteArray, e = .returned (.string s) ∧ s.size ≤ 40 ∧ Below w.heap.size w w'
set_option maxHeartbeats 1600000 in
theorem psignal_any (N : Nat) (hN : 1 ≤ N) (hN8 : N ≤ 1000) (s : ByteArray) (w : World) (hs : s.size ≤ 9223372036854775807) :
    Calls Try.prog 40 #[.string s, .int .i64 N] w (MadeSig w) := by
  by_cases h0 : s.size = 0
  · have h1 : s.toList.isEmpty = true := by rw [empty_iff]; simpa using h0
    go_enter Try.func40, Try.ntmps40
    go_wp2
    go_ret
    exact ⟨⟨#[115, 110, 97, 112, 115, 104, 111, 116, 32, 48]⟩, rfl, by decide, Below.refl _ _⟩
  · have h1 : s.toList.isEmpty = false := by rw [empty_iff]; simpa using h0
    have hpos : 0 < s.size := by omega
    have hcv : (str (s.data.toList.take 40)).size ≤ 40 := by rw [str_size, List.length_take]; omega
    have CV := Lib.hid (fun w => cut_any s 40 w hs (by omega))
    have HCV := Lib.hid hcv
    have hx : s[0].toNat < 256 := s[0].toNat_lt
    clear hcv h0
    go_enter Try.func40, Try.ntmps40
    go_upto_if 14 with fail
    generalize s[0].toNat = b at hx
    have hc1 : ∀ x : Int, (convert 90 9 (.slice (some ⟨w.heap.size, 0, none⟩) 1 1)).run Try.prog (w.alloc (.cells #[.int .u8 x] 5)) = .ok (.string (strOfNums [x])) (w.alloc (.cells #[.int .u8 x] 5)) := fun x => one_byte_str x w _ rfl
    have hc2 : ∀ x y : Int, (convert 90 9 (.slice (some ⟨w.heap.size + 1, 0, none⟩) 1 1)).run Try.prog ((w.alloc (.cells #[.int .u8 y] 5)).alloc (.cells #[.int .u8 x] 5)) = .ok (.string (strOfNums [x])) ((w.alloc (.cells #[.int .u8 y] 5)).alloc (.cells #[.int .u8 x] 5)) := fun x y => one_byte_str x (w.alloc (.cells #[.int .u8 y] 5)) _ (by simp)
    have hn0 : ¬ ((N : Int) = 0) := by omega
    have hn1 : ¬ (N = 0) := by omega
    by_cases h3 : (b : Int) % 4 = 3
    · have t3 : ((b : Int) % 4 == 3) = true := by simpa using h3
      go_wp2_with fail
      refine (CV.out _).mono ?_
      rintro e w1 ⟨rfl, rfl⟩
      go_wp2
      go_ret
      exact ⟨_, rfl, HCV.out, Below.refl _ _⟩
    · have t3 : ((b : Int) % 4 == 3) = false := by simpa using h3
      by_cases h4 : 0 < (b : Int) % 4
      · go_wp2
        go_ret
        exact ⟨_, rfl, by
          rw [ByteArray.size_append, ByteArray.size_append, ByteArray.size_append, strOfNums_one, strOfNums_one]
          decide, ((Below.refl _ _).alloc (Nat.le_refl _) _).alloc (by simp) _⟩
      · go_wp2
        go_ret
        exact ⟨_, rfl, by
          rw [ByteArray.size_append, strOfNums_one]
          decide, (Below.refl _ _).alloc (Nat.le_refl _) _⟩
end Go.Proofs.Ytlgdbpejefgeaaa.PTx
