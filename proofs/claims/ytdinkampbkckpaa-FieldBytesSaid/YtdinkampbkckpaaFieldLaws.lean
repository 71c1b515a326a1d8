/-
  The walks of the laws on fields: each answers true, whatever the input, and writes nothing that was there.
-/
import Derived.Test.YtdinkampbkckpaaFieldAwake
namespace Go.Proofs.Ytdinkampbkckpaa.Field
open Go.RowKit Base FieldMath

set_option maxHeartbeats 1000000 in
theorem reads_walk (A : Option Addr) (n c : Nat) (l : List UInt8) (w : World) (hr : Bytes w w.heap.size A n c l) (hn : n ≤ 140737488355328) :
    Calls Try.prog 4 #[.slice A n c] w fun e w' => e = .returned (.bool true) ∧ Below w.heap.size w w' := by
  have HR := Lib.hid hr
  clear hr
  go_enter Try.func4, Try.ntmps4
  go_wp2_with (first
    | (at_builtin
       refine wpList_append_row rfl (.tmp 8) (.tmp 9) rfl eb w.heap.size _ 0 [] rfl (own_empty _ _ _ _ rfl (Nat.le_refl _)) w.heap.size A n c (bv l) rfl (HR.out.alloc (Nat.le_refl _) _) (bv_one _) (by omega) (by omega) (by simp) ?_
       intro A1 c1 w1 hown1 _ hb1
       rw [Nat.zero_add, List.nil_append] at hown1
       rw [Nat.zero_add]
       have HY1 := Lib.hid (Bytes.of_own hown1)
       have HB1 := Lib.hid (((Below.refl w.heap.size w).alloc (Nat.le_refl _) _).trans hb1)
       clear hown1 hb1)
    | fail)
  refine (decode_any _ _ _ _ l _ HY1.out (Nat.le_refl _)).mono ?_
  rintro e w2 ⟨A2, n2, c2, rfl, hf2, hb2⟩
  have HB2 := Lib.hid (HB1.out.trans (hb2.mono HB1.out.size))
  have HF2 := Lib.hid hf2
  clear hf2 hb2
  go_wp2_with fail
  refine (refdecode_any w.heap.size _ _ _ l _ (HR.out.below HB2.out) HB2.out.size).mono ?_
  rintro e w3 ⟨A3, n3, c3, rfl, hf3, hb3⟩
  have HB3 := Lib.hid (HB2.out.trans (hb3.mono HB2.out.size))
  have HF2' := Lib.hid (HF2.out.below hb3)
  have hz := hb3.size
  obtain rfl : n2 = n3 := by rw [← HF2.out.len, ← hf3.len]
  have HF3 := Lib.hid hf3
  clear hf3 hb3
  generalize err (dec l) = k
  go_wp2_with fail
  refine (awake_any _).mono ?_
  rintro e w4 ⟨rfl, hb4⟩
  have HB4 := Lib.hid (HB3.out.trans (hb4.mono HB3.out.size))
  have HG2 := Lib.hid (HF2'.out.below (hb4.mono hz))
  have HG3 := Lib.hid (HF3.out.below hb4)
  have hz4 := hb4.size
  clear hb4
  go_wp2_with fail
  refine (plain_same _ _ _ _ _ _ _ _ _ HG2.out HG3.out (by omega) hz4).mono ?_
  rintro e w5 ⟨rfl, hb5⟩
  have HB5 := Lib.hid (HB4.out.trans (hb5.mono HB4.out.size))
  clear hb5
  go_wp2
  go_ret
  exact ⟨rfl, HB5.out⟩

set_option maxHeartbeats 1000000 in
theorem bytes_walk (A : Option Addr) (n c : Nat) (fs : List Fld) (w : World) (hr : Flds w w.heap.size A n c fs) :
    Calls Try.prog 3 #[.slice A n c] w fun e w' => e = .returned (.bool true) ∧ Below w.heap.size w w' := by
  have hle := hr.le
  have hlen := hr.len
  have HL := Lib.hid hlen
  have HR := Lib.hid hr
  clear hr hlen
  by_cases hbig : 400 < n
  · go_enter Try.func3, Try.ntmps3
    go_wp2_with fail
    refine (awake_any _).mono ?_
    rintro e w1 ⟨rfl, hb⟩
    have HB := Lib.hid hb
    clear hb
    go_wp2
    go_ret
    exact ⟨rfl, HB.out⟩
  · have hsm : n ≤ 400 := by omega
    clear hbig
    go_enter Try.func3, Try.ntmps3
    go_wp2_with fail
    refine (own_any w.heap.size A n c fs ⟨0, 9, ⟨#[]⟩⟩ _ HR.out (Nat.le_refl _) (by omega)).mono ?_
    rintro e w1 ⟨A1, rfl, hf1, hb1⟩
    rw [HL.out] at hf1
    rw [HL.out]
    have HB1 := Lib.hid hb1
    have HF1 := Lib.hid hf1
    have hfr : Flds w1 w1.heap.size A1 n (n + 3) fs := by
      have := hf1.front (k := n) (by omega)
      rw [take_app _ _ HL.out] at this
      exact this
    have HFR := Lib.hid hfr
    clear hf1 hb1 hfr
    go_wp2_with fail
    refine (encode_any _ _ _ _ fs _ HFR.out (Nat.le_refl _)).mono ?_
    rintro e w2 ⟨A2, n2, c2, rfl, ho2, hb2⟩
    have HB2 := Lib.hid (HB1.out.trans (hb2.mono HB1.out.size))
    have HF2 := Lib.hid (HF1.out.below hb2)
    have hz2 := hb2.size
    have HY2 := Lib.hid (Bytes.of_own ho2)
    clear ho2 hb2
    go_wp2_with fail
    refine (refencode_any w.heap.size _ _ _ fs _ (HR.out.below HB2.out) HB2.out.size).mono ?_
    rintro e w3 ⟨A3, n3, c3, rfl, ho3, hb3⟩
    have HB3 := Lib.hid (HB2.out.trans (hb3.mono HB2.out.size))
    have HF3 := Lib.hid (HF2.out.below (hb3.mono hz2))
    have hz3 := hb3.size
    have HY3 := Lib.hid (HY2.out.below hb3)
    have HZ3 := Lib.hid (Bytes.of_own ho3)
    clear ho3 hb3
    generalize err (enc fs) = k
    go_wp2_with fail
    refine (awake_any _).mono ?_
    rintro e w4 ⟨rfl, hb4⟩
    have HB4 := Lib.hid (HB3.out.trans (hb4.mono HB3.out.size))
    have HF4 := Lib.hid (HF3.out.below (hb4.mono (by omega)))
    have HY4 := Lib.hid (HY3.out.below (hb4.mono hz3))
    have HZ4 := Lib.hid (HZ3.out.below hb4)
    have hz4 := hb4.size
    clear hb4
    go_wp2_with fail
    refine (bytes_same _ _ _ _ _ _ _ _ _ _ HY4.out HZ4.out).mono ?_
    rintro e w5 ⟨rfl, rfl⟩
    go_wp2_with fail
    refine (kept_same _ _ _ _ n c fs ⟨0, 9, ⟨#[]⟩⟩ _ HL.out HF4.out (HR.out.below HB4.out) (by omega) HB4.out.size (by omega)).mono ?_
    rintro e w6 ⟨rfl, hb6⟩
    have HB6 := Lib.hid (HB4.out.trans (hb6.mono HB4.out.size))
    clear hb6
    go_wp2
    go_ret
    exact ⟨rfl, HB6.out⟩
end Go.Proofs.Ytdinkampbkckpaa.Field
