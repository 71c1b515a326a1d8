/-
  The walks of the laws on records: a record's bytes are the document's; any bytes are read as the document says; what is put is taken.
-/
import Derived.Test.YtgekmanbiadpoaaRecAwake
import Derived.Test.YtgekmanbiadpoaaRecScan
import Derived.Test.YtgekmanbiadpoaaHelpOwn8
import Derived.Test.YtgekmanbiadpoaaHelpMany
import Derived.Test.YtgekmanbiadpoaaOpenBytes
namespace Go.Proofs.Ytgekmanbiadpoaa.Rec
open Go.RowKit Base FieldMath RecMath
open Go.Proofs.Ytgekmanbiadpoaa.Field Help
set_option linter.ambiguousOpen false

set_option maxHeartbeats 1000000 in
theorem puts_walk (A : Option Addr) (n c : Nat) (l : List UInt8) (w : World) (hr : Bytes w w.heap.size A n c l) (hn : n ≤ 140737488351232) :
    Calls Try.prog 3 #[.slice A n c] w fun e w' => e = .returned (.bool true) ∧ Below w.heap.size w w' := by
  have HL := Lib.hid hr.len
  have HR := Lib.hid hr
  clear hr
  go_enter Try.func3, Try.ntmps3
  go_wp2_with fail
  refine (own8_any w.heap.size A n c l 7 _ HR.out (Nat.le_refl _) hn).mono ?_
  rintro e w1 ⟨A1, rfl, hy1, hb1⟩
  have HB1 := Lib.hid hb1
  have HY1 := Lib.hid hy1
  have HF1 : Hid (Bytes w1 w1.heap.size A1 n (n + 3) l) := by
    have := hy1.front (k := n) (by omega)
    rw [take_app _ _ HL.out] at this
    exact this
  clear hy1 hb1
  go_wp2_with fail
  refine (put_any _ _ _ _ l _ HF1.out (Nat.le_refl _)).mono ?_
  rintro e w2 ⟨A2, n2, c2, rfl, ho2, hb2⟩
  have HB2 := Lib.hid (held_two HB1.out hb2)
  have HY2 := Lib.hid (HY1.out.below hb2)
  have hz2 := hb2.size
  have HP2 := Lib.hid (Bytes.of_own ho2)
  clear ho2 hb2
  go_wp2_with fail
  refine (refput_any w.heap.size _ _ _ l _ (HR.out.below HB2.out) HB2.out.size).mono ?_
  rintro e w3 ⟨A3, n3, c3, rfl, ho3, hb3⟩
  have HB3 := Lib.hid (held_two HB2.out hb3)
  have HY3 := Lib.hid (HY2.out.below (hb3.mono hz2))
  have hz3 := hb3.size
  have HP3 := Lib.hid (HP2.out.below hb3)
  have HQ3 := Lib.hid (Bytes.of_own ho3)
  clear ho3 hb3
  generalize err (put l) = k
  go_wp2_with fail
  refine (awake_any _).mono ?_
  rintro e w4 ⟨rfl, hb4⟩
  have HB4 := Lib.hid (held_two HB3.out hb4)
  have HY4 := Lib.hid (HY3.out.below (hb4.mono (by omega)))
  have HP4 := Lib.hid (HP3.out.below (hb4.mono hz3))
  have HQ4 := Lib.hid (HQ3.out.below hb4)
  have hz4 := hb4.size
  clear hb4
  go_wp2_with fail
  refine (bytes_same _ _ _ _ _ _ _ _ _ _ HP4.out HQ4.out).mono ?_
  rintro e w5 ⟨rfl, rfl⟩
  go_wp2_with fail
  refine (kept8_same _ _ _ _ n c l 7 _ HL.out HY4.out (HR.out.below HB4.out) (by omega) HB4.out.size hn).mono ?_
  rintro e w6 ⟨rfl, hb6⟩
  have HB6 := Lib.hid (held_two HB4.out hb6)
  clear hb6
  go_wp2
  go_ret
  exact ⟨rfl, HB6.out⟩

/-! ### any bytes -/
def ReadsRel (w W : World) (i : Value) (wr : World) : Prop := ∃ k : Nat, k ≤ 2 ∧ i = .int .i64 k ∧ Below W.heap.size W wr ∧ Below w.heap.size w wr

theorem scanned_len {w : World} {r : List (List UInt8) × Nat} {e : Ending} {w' : World} (h : Scanned w r e w') : ∃ A n c, ∃ x : Nat, n = r.1.length ∧ x = r.2 ∧ e = .returned (.tuple #[.slice A n c, .int .i64 x]) ∧ Lists w' w'.heap.size A n c r.1 ∧ Below w.heap.size w w' := by
  obtain ⟨A, c, h1, h2, h3⟩ := h
  exact ⟨A, _, c, _, rfl, rfl, h1, h2, h3⟩

set_option maxRecDepth 100000 in
set_option maxHeartbeats 1600000 in
theorem reads_walk (A : Option Addr) (n c : Nat) (l : List UInt8) (z : UInt8) (w : World) (hr : Bytes w w.heap.size A n c l) (hn : n ≤ 1048576) :
    Calls Try.prog 4 #[.slice A n c, .int .u8 z.toNat] w fun e w' => e = .returned (.bool true) ∧ Below w.heap.size w w' := by
  have HR := Lib.hid hr
  clear hr
  go_enter Try.func4, Try.ntmps4
  go_wp2_with fail
  refine (awake_any _).mono ?_
  rintro e w1 ⟨rfl, hb1⟩
  have HB1 := Lib.hid hb1
  have HR1 := Lib.hid (HR.out.below hb1)
  clear hb1
  go_wp2_with (first
    | (at_builtin
       refine wpList_append_row rfl (.tmp 21) (.tmp 22) rfl eb w1.heap.size _ 4 (bv [0, 0, 0, z]) rfl (World.ownsRow_lit w1 #[.int .u8 0, .int .u8 0, .int .u8 0, .int .u8 z.toNat] 4 (Nat.le_refl _) (by unfold maxLen; omega) rfl) w.heap.size A n c (bv l) rfl (HR1.out.alloc HB1.out.size _) (bv_one _) (by omega) (by omega) (by simp) ?_
       intro A2 c2 w2 hown2 _ hb2
       rw [← bv_append] at hown2
       have HY2 := Lib.hid (Bytes.of_own hown2)
       have HB2 := Lib.hid (((Below.refl w1.heap.size w1).alloc (Nat.le_refl _) _).trans hb2)
       clear hown2 hb2)
    | fail)
  have HL := Lib.hid (show Lists (w2.alloc (.cells #[.slice A n c, .slice A2 (4 + n) c2] 22)) (w2.alloc (.cells #[.slice A n c, .slice A2 (4 + n) c2] 22)).heap.size (some ⟨w2.heap.size, 0, none⟩) 2 2 [l, [0, 0, 0, z] ++ l] by
    have := Lists.two (HR1.out.below (HB2.out.mono HB1.out.size)) HY2.out (Nat.le_trans HB1.out.size HB2.out.size) (Nat.le_refl _) 22 rfl
    simpa using this)
  have HW : Hid (Below w.heap.size w (w2.alloc (.cells #[.slice A n c, .slice A2 (4 + n) c2] 22))) := (held_two HB1.out HB2.out).alloc (held_two HB1.out HB2.out).size _
  generalize w2.alloc (.cells #[.slice A n c, .slice A2 (4 + n) c2] 22) = W at HL HW
  generalize some (⟨w2.heap.size, 0, none⟩ : Addr) = A0 at HL
  have HK : Hid (∀ (k : Nat) m, [l, [0, 0, 0, z] ++ l][k]? = some m → m.length ≤ n + 4) := by
    intro k m hm
    have h0 := HR.out.len
    match k with
    | 0 =>
      simp only [List.getElem?_cons_zero, Option.some.injEq] at hm
      subst hm
      omega
    | 1 =>
      simp only [List.getElem?_cons_succ, List.getElem?_cons_zero, Option.some.injEq] at hm
      subst hm
      simp only [List.length_append, List.length_cons, List.length_nil]
      omega
    | k + 2 => simp at hm
  clear HR HR1 HB1 HB2 HY2
  go_loopw [6] (fun i wr => ReadsRel w W i wr) (fun i _ => 2 - (intOf i).toNat)
  case atStart => exact ⟨0, by omega, rfl, Below.refl _ _, HW.out⟩
  case round =>
    obtain ⟨k, hk, rfl, hbW, hbw⟩ := hrel
    have HBW := Lib.hid hbW
    have HBw := Lib.hid hbw
    clear hbW hbw
    by_cases hlt : k < 2
    · obtain ⟨b, off, A1, n1, c1, m, rfl, hb, hcell, hy, hget, _⟩ := (HL.out.below HBW.out).at_ hlt
      have hm := HK.out k m hget
      have hml := hy.len
      have hn1 : n1 ≤ n + 4 := by omega
      have HY := Lib.hid hy
      clear hget hy hm hml
      go_wp2_with fail
      refine (take_any _ _ _ _ m _ HY.out HBW.out.size).mono ?_
      rintro e w3 ⟨A3, n3, c3, rfl, ho3, hb3⟩
      have HBW3 := Lib.hid (held_two HBW.out hb3)
      have HBw3 := Lib.hid (held_two HBw.out hb3)
      have HP3 := Lib.hid (Bytes.of_own ho3)
      have HY3 := Lib.hid (HY.out.below (hb3.mono HBW.out.size))
      have hcell3 := held_cell hb3 hcell
      clear ho3 hb3 hcell
      go_wp2_with fail
      refine (reftake_any _ _ _ _ m _ HY3.out HBW3.out.size).mono ?_
      rintro e w4 ⟨A4, n4, c4, rfl, ho4, hb4⟩
      have HBW4 := Lib.hid (held_two HBW3.out hb4)
      have HBw4 := Lib.hid (held_two HBw3.out hb4)
      have HP4 := Lib.hid (HP3.out.below hb4)
      have HQ4 := Lib.hid (Bytes.of_own ho4)
      have HY4 := Lib.hid (HY3.out.below (hb4.mono HBW3.out.size))
      have hcell4 := held_cell hb4 hcell3
      have hz4 := hb4.size
      clear ho4 hb4 hcell3
      generalize err (tk m) = x1
      generalize tsize (tk m) = x2
      go_wp2_with fail
      refine (scan_any _ _ _ _ m _ HY4.out HBW4.out.size (by omega)).mono ?_
      rintro e w5 h5
      obtain ⟨A5, n5, c5, x5, hn5, hx5, rfl, hl5, hb5⟩ := scanned_len h5
      have HBW5 := Lib.hid (held_two HBW4.out hb5)
      have HBw5 := Lib.hid (held_two HBw4.out hb5)
      have HP5 := Lib.hid (HP4.out.below (hb5.mono hz4))
      have HQ5 := Lib.hid (HQ4.out.below hb5)
      have HY5 := Lib.hid (HY4.out.below (hb5.mono HBW4.out.size))
      have HL5 := Lib.hid hl5
      have hcell5 := held_cell hb5 hcell4
      have hz5 := hb5.size
      have HN5 := Lib.hid hn5
      have HX5 := Lib.hid hx5
      clear h5 hl5 hb5 hcell4 hn5 hx5
      go_wp2_with fail
      refine (refscan_any _ _ _ _ m _ HY5.out HBW5.out.size (by omega)).mono ?_
      rintro e w6 h6
      obtain ⟨A6, n6, c6, x6, hn6, hx6, rfl, hl6, hb6⟩ := scanned_len h6
      obtain rfl : n5 = n6 := by rw [HN5.out, hn6]
      obtain rfl : x5 = x6 := by rw [HX5.out, hx6]
      have HBW6 := Lib.hid (held_two HBW5.out hb6)
      have HBw6 := Lib.hid (held_two HBw5.out hb6)
      have HP6 := Lib.hid (HP5.out.below (hb6.mono (by omega)))
      have HQ6 := Lib.hid (HQ5.out.below (hb6.mono hz5))
      have HL6 := Lib.hid (HL5.out.below hb6)
      have HM6 := Lib.hid hl6
      have hz6 := hb6.size
      clear h6 hl6 hb6 hn6 hx6 hcell5
      go_wp2_with fail
      refine (bytes_same _ _ _ _ _ _ _ _ _ _ HP6.out HQ6.out).mono ?_
      rintro e w7 ⟨rfl, rfl⟩
      go_wp2_with fail
      refine (many_same _ _ _ _ _ _ _ _ _ HL6.out HM6.out hz6 (Nat.le_refl _)).mono ?_
      rintro e w7 ⟨rfl, hb7⟩
      have HBW7 := Lib.hid (held_two HBW6.out hb7)
      have HBw7 := Lib.hid (held_two HBw6.out hb7)
      clear hb7
      go_wp2
      go_roundw
      case rel => exact ⟨k + 1, by omega, by go_num, HBW7.out, HBw7.out⟩
      case measure => simp [intOf]; omega
    · go_wp2
      go_ret
      exact ⟨rfl, HBw.out⟩

theorem reads_walk8 (A : Option Addr) (n c : Nat) (l : List UInt8) (z : Int) (w : World) (hz : (Lit.int .u8 z).wf = true) (hr : Bytes w w.heap.size A n c l) (hn : n ≤ 1048576) :
    Calls Try.prog 4 #[.slice A n c, .int .u8 z] w fun e w' => e = .returned (.bool true) ∧ Below w.heap.size w w' := by
  rw [byte_of hz]
  exact reads_walk A n c l _ w hr hn
end Go.Proofs.Ytgekmanbiadpoaa.Rec
