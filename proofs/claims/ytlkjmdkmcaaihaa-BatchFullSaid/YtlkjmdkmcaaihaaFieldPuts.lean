/-
  Contract of package field's putNumber: a number's bytes behind a row of the call's own.
-/
import Derived.Test.YtlkjmdkmcaaihaaRefNums
namespace Go.Proofs.Ytlkjmdkmcaaihaa.Field
set_option maxRecDepth 100000
open Go.RowKit Base FieldMath

/-- a number's bytes, on the way: j are left -/
def PutRel (base : Nat) (w : World) (row : Option Nat) (x n m : Nat) (l : List UInt8) (v i : Value) (wr : World) : Prop :=
  ∃ (j : Nat) (pre : List UInt8) (A : Option Addr) (c : Nat), pre.length + j = n ∧ pre ++ big x j = big x n ∧ v = .slice A (m + pre.length) c ∧ wr.ownsRow base 5 1 (.slice A (m + pre.length) c) (m + pre.length) (bv (l ++ pre)) ∧
    Grew w row wr (.slice A (m + pre.length) c) ∧ ((j = 0 ∧ i = .int .i64 (-1)) ∨ ∃ k : Nat, j = k + 1 ∧ i = .int .i64 k)
set_option maxHeartbeats 400000 in
theorem put_any (base : Nat) (A : Option Addr) (m c : Nat) (l : List UInt8) (x : Int) (n : Nat) (w : World) (hx0 : 0 ≤ x) (_hx1 : x < 18446744073709551616) (hn0 : 0 < n) (hn : n ≤ 8) (hm : m ≤ 1099511627776)
    (hown : w.ownsRow base 5 1 (.slice A m c) m (bv l)) (hbase : base ≤ w.heap.size) :
    Calls Try.prog 54 #[.slice A m c, .int .u64 x, .int .i64 n] w (OwnBytes base w (Value.slice A m c).ownBlock (l ++ big x.toNat n)) := by
  have HO := Lib.hid hown
  clear hown
  go_enter Try.func54, Try.ntmps54
  go_wp2
  go_loopw [0, 7] (fun v i wr => PutRel base w (Value.slice A m c).ownBlock x.toNat n m l v i wr) (fun _ i _ => (intOf i + 1).toNat)
  case atStart =>
    exact ⟨n, [], A, c, by simp, rfl, rfl, by simpa using HO.out, Grew.refl _ _, .inr ⟨n - 1, by omega, by congr 1; omega⟩⟩
  case round =>
    obtain ⟨j, pre, A1, c1, hj, hpre, rfl, hown, hbel, hi⟩ := hrel
    have HP := Lib.hid hpre
    have HO1 := Lib.hid hown
    have HB := Lib.hid hbel
    clear hpre hown hbel
    rcases hi with ⟨rfl, rfl⟩ | ⟨k, rfl, rfl⟩
    · go_wp2
      go_ret
      exact own_bytes rfl HO1.out (by have := HP.out; rw [big, List.append_nil] at this; rw [this]) HB.out
    · have hk : k < 8 := by omega
      go_wp2_with (first
        | (at_builtin
           refine wpList_append_row rfl (.tmp 14) (.tmp 20) rfl eb base _ (m + pre.length) (bv (l ++ pre)) rfl (HO1.out.alloc _) (wr.heap.size + 1) _ 1 1 (bv [UInt8.ofNat (x.toNat / 256 ^ k)]) rfl (one_byte wr _ _ rfl (byte_shr hx0 k)) (bv_one _) (by omega) (by omega) (by have := HB.out.1.size; simp; omega) ?_
           intro A2 c2 w2 hown2 hg2 _
           have HO2 := Lib.hid hown2
           have HB2 := Lib.hid ((HB.out.alloc _).step hg2)
           clear hown2 hg2))
      go_roundw
      case rel =>
        refine ⟨k, pre ++ [UInt8.ofNat (x.toNat / 256 ^ k)], A2, c2, by rw [List.length_append, List.length_singleton]; omega, ?_, ?_, ?_, ?_, ?_⟩
        · rw [List.append_assoc, ← HP.out]; rfl
        · simp [Nat.add_assoc]
        · have h := HO2.out
          rw [← bv_append, List.append_assoc] at h
          simpa [Nat.add_assoc] using h
        · have h := HB2.out
          simpa [Nat.add_assoc] using h
        · rcases Nat.eq_zero_or_pos k with h0 | h0
          · subst h0; exact .inl ⟨rfl, rfl⟩
          · exact .inr ⟨k - 1, by omega, by congr 1; omega⟩
      case measure => simp [intOf]
end Go.Proofs.Ytlkjmdkmcaaihaa.Field
