/-
  Contract of the statements' own Cut: a text of so many bytes at most.
-/
import Derived.Test.YtlkjmdkmcaaihaaPlayMod
namespace Go.Proofs.Ytlkjmdkmcaaihaa.Field
set_option maxRecDepth 100000
open Go.RowKit Base

theorem extract_take (s : ByteArray) (n : Nat) : s.extract 0 n = str (s.data.toList.take n) := by
  have h : (s.extract 0 n).data.toList = s.data.toList.take n := by simp [ByteArray.data_extract]
  rw [← str_of (s.extract 0 n), h]
theorem cut_any (s : ByteArray) (n : Nat) (w : World) (_hs : s.size ≤ 9223372036854775807) (hn : n ≤ 1099511627776) :
    Calls Try.prog 73 #[.string s, .int .i64 n] w fun e w' => e = .returned (.string (str (s.data.toList.take n))) ∧ w = w' := by
  by_cases hlt : n < s.size
  · go_enter Try.func73, Try.ntmps73
    go_wp2
    go_ret
    exact ⟨by rw [← extract_take]; rfl, rfl⟩
  · have e : str (s.data.toList.take n) = s := by rw [List.take_of_length_le (by rw [size_list]; omega), str_of]
    rw [e]
    clear e
    go_enter Try.func73, Try.ntmps73
    go_wp2
    go_ret
    exact ⟨rfl, rfl⟩
end Go.Proofs.Ytlkjmdkmcaaihaa.Field
