/-
  The walk of the statement ImageReads: it answers true, whatever the input, and writes nothing that was there.
-/
import Derived.Test.YtjicdnknlfpajaaImgLaw2
import Derived.Test.YtjicdnknlfpajaaImgRefEncode
import Derived.Test.YtjicdnknlfpajaaImgRefRead
import Derived.Test.YtjicdnknlfpajaaHelpBytes
namespace Go.Proofs.Ytjicdnknlfpajaa.Img
set_option linter.unusedVariables false
set_option maxRecDepth 100000
open Go.RowKit Base FieldMath RecMath
open ImgMath
open TxnMath (numF)
open IdxMath (Rw)
open Go.Proofs.Ytjicdnknlfpajaa.Field (ret_bool bigZ bigZ_lt playbig_any eb ef fv fv_append fv_one fv_length Flds num_any)
set_option linter.ambiguousOpen false
set_option linter.unusedSimpArgs false

/-- the three rows of bytes that the statement goes through -/
def Three (w : World) (B g : Nat) (A : Option Addr) (n c : Nat) (l : List UInt8) (A' : Option Addr) (n' c' : Nat) (l' : List UInt8) (A'' : Option Addr) (n'' c'' : Nat) (l'' : List UInt8) (wr : World) : Prop :=
  Blk wr g 30 #[.slice A n c, .slice A' n' c', .slice A'' n'' c''] ∧ Bytes wr B A n c l ∧ Bytes wr B A' n' c' l' ∧ Bytes wr B A'' n'' c'' l'' ∧ B ≤ g ∧ Below w.heap.size w wr
def ThreeRel (w : World) (B g : Nat) (A : Option Addr) (n c : Nat) (l : List UInt8) (A' : Option Addr) (n' c' : Nat) (l' : List UInt8) (A'' : Option Addr) (n'' c'' : Nat) (l'' : List UInt8) (i : Value) (wr : World) : Prop := (∃ j : Nat, j ≤ 3 ∧ i = .int .i64 j) ∧ Three w B g A n c l A' n' c' l' A'' n'' c'' l'' wr
section
variable {w wr w1 : World} {B g : Nat} {A : Option Addr} {n c : Nat} {l : List UInt8} {A' : Option Addr} {n' c' : Nat} {l' : List UInt8} {A'' : Option Addr} {n'' c'' : Nat} {l'' : List UInt8}
theorem Three.new (h : Three w B g A n c l A' n' c' l' A'' n'' c'' l'' wr) (hb : Below wr.heap.size wr w1) : Three w B g A n c l A' n' c' l' A'' n'' c'' l'' w1 := by
  have hlt := h.1.lt
  have hB := h.2.2.2.2.1
  exact ⟨h.1.below hb h.1.lt, h.2.1.below (hb.mono (by omega)), h.2.2.1.below (hb.mono (by omega)), h.2.2.2.1.below (hb.mono (by omega)), hB, held_two h.2.2.2.2.2 hb⟩
theorem Three.at_ (h : Three w B g A n c l A' n' c' l' A'' n'' c'' l'' wr) (hn : n ≤ 140737488355328) (hn' : n' ≤ 140737488355328) (hn'' : n'' ≤ 140737488355328) (j : Nat) (hj : j < 3) :
    ∃ A0 n0 c0 l0, wr.cell? ⟨g, j, none⟩ = some (.slice A0 n0 c0) ∧ Bytes wr B A0 n0 c0 l0 ∧ n0 ≤ 140737488355328 := by
  match j, hj with
  | 0, _ => exact ⟨A, n, c, l, h.1.cell 0, h.2.1, hn⟩
  | 1, _ => exact ⟨A', n', c', l', h.1.cell 1, h.2.2.1, hn'⟩
  | 2, _ => exact ⟨A'', n'', c'', l'', h.1.cell 2, h.2.2.2.1, hn''⟩
end

set_option maxHeartbeats 12800000 in
theorem reads_walk (A : Option Addr) (n c : Nat) (l : List UInt8) (A' : Option Addr) (n' c' : Nat) (fs : List Fld) (lsn : Int) (w : World) (h1 : Bytes w w.heap.size A n c l) (hn : n ≤ 140737488355328) (h2 : Flds w w.heap.size A' n' c' fs) :
    Calls Try.prog 10 #[.slice A n c, .slice A' n' c', .int .i64 lsn] w fun e w' => e = .returned (.bool true) ∧ Below w.heap.size w w' := by
  have HR := Lib.hid h1
  have HF := Lib.hid h2
  have HL := Lib.hid h2.len
  clear h1 h2
  by_cases hbig : 300 < n'
  · go_enter Try.func10, Try.ntmps10
    go_wp2_with fail
    refine (awake_any _).mono ?_
    rintro e w2 ⟨rfl, hb2⟩
    have HB2 := Lib.hid hb2
    clear hb2
    go_wp2
    go_ret
    exact ⟨rfl, HB2.out⟩
  · have C1 : Hid (∀ wc, Calls Try.prog 32 #[.int .i64 lsn, .int .i64 99] wc fun e w' => e = .returned (.int .i64 ((bigZ lsn 99 : Nat) : Int)) ∧ wc = w') := fun wc => playbig_any lsn 99 wc (by omega) (by omega)
    generalize bigZ lsn 99 = z at C1
    go_enter Try.func10, Try.ntmps10
    go_wp2_with fail
    refine (record_any _ A' n' c' fs w HF.out (Nat.le_refl _) (by omega)).mono ?_
    rintro e w1 ⟨A1, n1, c1, l1, rfl, ho1, hn1, hb1⟩
    have HY1 := Lib.hid (Bytes.of_own ho1)
    have HB1 := Lib.hid hb1
    have HR1 := Lib.hid (HR.out.below hb1)
    have HF1 := Lib.hid (HF.out.below hb1)
    have hz1 := hb1.size
    clear ho1 hb1
    go_wp2_with fail
    refine (C1.out _).mono ?_
    rintro e w1' ⟨rfl, rfl⟩
    go_wp2_with fail
    refine (num_any (z : Int) w1).mono ?_
    rintro e w2 ⟨rfl, hb2⟩
    have HB2 := Lib.hid hb2
    clear hb2
    go_wp2_with fail
    refine (num_any 1 w2).mono ?_
    rintro e w3 ⟨rfl, hb3⟩
    have HB13 : Hid (Below w1.heap.size w1 w3) := held_two HB2.out hb3
    have hz3 := HB13.out.size
    have HB3 := Lib.hid (held_two HB1.out HB13.out)
    clear hb3 HB2
    have HF3 := Lib.hid (HF1.out.below (HB13.out.mono hz1))
    go_wp2_with (first
      | (at_builtin
         refine wpList_append_row rfl (.tmp 28) (.tmp 29) rfl ef w3.heap.size _ 2 _ rfl (own_two w3 w3.heap.size (z : Int) 1 rfl (Nat.le_refl _)) w.heap.size A' n' c' (fv fs) rfl (HF3.out.alloc (by omega) _) (fv_one _) (by omega) (by omega) (by simp) ?_
         intro A4 c4 w4 hown4 _ hb4
         rw [← fv_append] at hown4
         have HF4 := Lib.hid (Flds.of_own hown4)
         have HB34 : Hid (Below w3.heap.size w3 w4) := ((Below.refl w3.heap.size w3).alloc (Nat.le_refl _) _).trans hb4
         clear hown4 hb4)
      | fail)
    have HB4 := Lib.hid (held_two HB3.out HB34.out)
    have HB14 := Lib.hid (held_two HB13.out HB34.out)
    refine (record_any _ A4 (2 + n') c4 _ w4 HF4.out (Nat.le_refl _) (by omega)).mono ?_
    rintro e w5 ⟨A5, n5, c5, l5, rfl, ho5, hn5, hb5⟩
    have HY5 := Lib.hid (Bytes.of_own ho5)
    have HB5 := Lib.hid (held_two HB4.out hb5)
    have HB15 := Lib.hid (held_two HB14.out hb5)
    have hz5 := HB15.out.size
    clear ho5 hb5 HF4
    have HP : Hid (Three w w5.heap.size w5.heap.size A n c l A1 n1 c1 l1 A5 n5 c5 l5 (w5.alloc (.cells #[.slice A n c, .slice A1 n1 c1, .slice A5 n5 c5] 30))) :=
      ⟨Blk.new _ _ _, ((HR.out.below HB5.out).more HB5.out.size).alloc (Nat.le_refl _) _, ((HY1.out.below HB15.out).more hz5).alloc (Nat.le_refl _) _, HY5.out.alloc (Nat.le_refl _) _, Nat.le_refl _, HB5.out.alloc HB5.out.size _⟩
    go_wp2
    go_loopw [8] (fun i wr => ThreeRel w w5.heap.size w5.heap.size A n c l A1 n1 c1 l1 A5 n5 c5 l5 i wr) (fun i _ => 3 - (intOf i).toNat)
    case atStart => exact ⟨⟨0, by omega, rfl⟩, HP.out⟩
    case round =>
      obtain ⟨⟨j, hj, rfl⟩, hp⟩ := hrel
      have HQ := Lib.hid hp
      clear hp HP
      by_cases hlt : j < 3
      · obtain ⟨A0, n0, c0, l0, k0, hy0, hn0⟩ := HQ.out.at_ hn (by omega) (by omega) j hlt
        have HY0 := Lib.hid hy0
        have hBg := HQ.out.1.lt
        have hwr : w.heap.size ≤ wr.heap.size := HQ.out.2.2.2.2.2.size
        clear hy0
        go_wp2_with (first
          | (at_builtin
             refine wpList_append_row rfl (.tmp 38) (.tmp 42) rfl eb wr.heap.size _ 0 [] rfl (own_empty _ _ _ _ rfl (Nat.le_refl _)) w5.heap.size A0 n0 c0 (bv l0) rfl (HY0.out.alloc (by omega) _) (bv_one _) (by omega) (by omega) (by simp) ?_
             intro A2 c2 w2 hown2 _ hb2
             rw [Nat.zero_add, List.nil_append] at hown2
             rw [Nat.zero_add]
             have HY2 := Lib.hid (Bytes.of_own hown2)
             have HB2 : Hid (Below wr.heap.size wr w2) := ((Below.refl wr.heap.size wr).alloc (Nat.le_refl _) _).trans hb2
             clear hown2 hb2)
          | fail)
        cases hq : decI l0 with
        | none =>
          have HD := Lib.hid hq
          clear hq
          refine (decode_any _ A2 n0 c2 l0 w2 HY2.out (Nat.le_refl _)).mono ?_
          intro e w6 he6
          rw [HD.out] at he6
          obtain ⟨A6, n6, c6, rfl, ho6, hb6⟩ := he6
          have HT6 := Lib.hid ho6.tabs
          have HB6 := Lib.hid (held_two HB2.out hb6)
          have HQ6 := Lib.hid (HQ.out.new HB6.out)
          have k6 : w6.cell? ⟨w5.heap.size, j, none⟩ = some (.slice A0 n0 c0) := (HB6.out.cell (p := ⟨w5.heap.size, j, none⟩) hBg).trans k0
          have HY6 := Lib.hid (HY0.out.below (HB6.out.mono (Nat.le_of_lt hBg)))
          have hz6 := HB6.out.size
          clear ho6 hb6 k0
          simp only [gotI, noIm, Option.isSome_none, Bool.false_eq_true, if_false]
          have HT6' : Hid (Tabs w6 w6.heap.size A6 n6 c6 []) := HT6.out
          clear HT6
          go_wp2_with fail
          refine (fromimage_any w5.heap.size A0 n0 c0 l0 w6 HY6.out (by omega)).mono ?_
          intro e w7 he7
          rw [HD.out] at he7
          obtain ⟨A7, n7, c7, rfl, ho7, hb7⟩ := he7
          have HT7 : Hid (Tabs w7 w7.heap.size A7 n7 c7 []) := ho7.tabs
          have HB7 := Lib.hid (held_two HB6.out hb7)
          have HT67 := Lib.hid (HT6'.out.below hb7)
          have hz7 := hb7.size
          have k7 : w7.cell? ⟨w5.heap.size, j, none⟩ = some (.slice A0 n0 c0) := (hb7.cell (p := ⟨w5.heap.size, j, none⟩) (by show w5.heap.size < _; omega)).trans k6
          clear ho7 hb7 k6 HT6'
          simp only [gotI, noIm, Option.isSome_none, Bool.false_eq_true, if_false]
          go_wp2_with fail
          refine (tables_same w6.heap.size w7.heap.size A6 A7 n6 n7 c6 c7 [] w7 HT67.out HT7.out hz7 (Nat.le_refl _)).mono ?_
          rintro e w8 ⟨rfl, hb8⟩
          have HB8 := Lib.hid (held_two HB7.out hb8)
          have HT8 := Lib.hid (HT67.out.below (hb8.mono hz7))
          have hz8 := hb8.size
          clear hb8
          go_wp2_with fail
          refine (encode_any w6.heap.size 0 A6 n6 c6 [] w8 HT8.out (by omega)).mono ?_
          rintro e w9 ⟨A9, n9, c9, rfl, _, hb9⟩
          have HQ9 := Lib.hid (HQ.out.new (held_two HB8.out hb9))
          clear hb9
          generalize err (encI ⟨0, []⟩) = er
          go_wp2
          go_roundw
          case rel => exact ⟨⟨j + 1, by omega, by go_num⟩, HQ9.out⟩
          case measure => simp [intOf]; omega
        | some x =>
          have HD := Lib.hid hq
          obtain ⟨hmay, himg⟩ := decI_ok hq
          have HM := Lib.hid hmay
          have HIMG := Lib.hid himg
          clear hq hmay himg
          refine (decode_any _ A2 n0 c2 l0 w2 HY2.out (Nat.le_refl _)).mono ?_
          intro e w6 he6
          rw [HD.out] at he6
          obtain ⟨A6, n6, c6, rfl, ht6, hb6⟩ := decI_some he6
          have HT6 := Lib.hid ht6
          have HB6 := Lib.hid (held_two HB2.out hb6)
          have k6 : w6.cell? ⟨w5.heap.size, j, none⟩ = some (.slice A0 n0 c0) := (HB6.out.cell (p := ⟨w5.heap.size, j, none⟩) hBg).trans k0
          have HY6 := Lib.hid (HY0.out.below (HB6.out.mono (Nat.le_of_lt hBg)))
          have hz6 := HB6.out.size
          clear he6 ht6 hb6 k0
          go_wp2_with fail
          refine (fromimage_any w5.heap.size A0 n0 c0 l0 w6 HY6.out (by omega)).mono ?_
          intro e w7 he7
          rw [HD.out] at he7
          obtain ⟨A7, n7, c7, rfl, ht7, hb7⟩ := decI_some he7
          have HT7 := Lib.hid ht7
          have HB7 := Lib.hid (held_two HB6.out hb7)
          have HT67 := Lib.hid (HT6.out.below hb7)
          have HY7 := Lib.hid (HY6.out.below (hb7.mono (by omega)))
          have hz7 := hb7.size
          have k7 : w7.cell? ⟨w5.heap.size, j, none⟩ = some (.slice A0 n0 c0) := (hb7.cell (p := ⟨w5.heap.size, j, none⟩) (by show w5.heap.size < _; omega)).trans k6
          clear he7 ht7 hb7 k6 HT6 HY6
          go_wp2_with fail
          refine (tables_same w6.heap.size w7.heap.size A6 A7 n6 n7 c6 c7 x.tabs w7 HT67.out HT7.out hz7 (Nat.le_refl _)).mono ?_
          rintro e w8 ⟨rfl, hb8⟩
          have HB8 := Lib.hid (held_two HB7.out hb8)
          have HT8 := Lib.hid (HT67.out.below (hb8.mono hz7))
          have HY8 := Lib.hid (HY7.out.below (hb8.mono (by omega)))
          have hz8 := hb8.size
          have k8 : w8.cell? ⟨w5.heap.size, j, none⟩ = some (.slice A0 n0 c0) := (hb8.cell (p := ⟨w5.heap.size, j, none⟩) (by show w5.heap.size < _; omega)).trans k7
          clear hb8 k7
          go_wp2_with fail
          refine (encode_any w6.heap.size x.lsn A6 n6 c6 x.tabs w8 HT8.out (by omega)).mono ?_
          intro e w9 he9
          obtain ⟨A9, c9, rfl, hy9, _, hb9⟩ := encI_at he9 HM.out
          rw [show imgB ⟨x.lsn, x.tabs⟩ = l0 from HIMG.out] at hy9 ⊢
          have HY9 := Lib.hid hy9
          have HB9 := Lib.hid (held_two HB8.out hb9)
          have HQ9 := Lib.hid (HQ.out.new HB9.out)
          have HZ9 := Lib.hid (HY8.out.below (hb9.mono (by omega)))
          have hz9 := hb9.size
          have k9 : w9.cell? ⟨w5.heap.size, j, none⟩ = some (.slice A0 n0 c0) := (hb9.cell (p := ⟨w5.heap.size, j, none⟩) (by show w5.heap.size < _; omega)).trans k8
          clear he9 hy9 hb9 k8
          generalize l0.length = N9 at HY9 ⊢
          go_wp2_with fail
          refine (Go.Proofs.Ytjicdnknlfpajaa.Help.bytes_same w9.heap.size w5.heap.size A9 A0 N9 c9 n0 c0 l0 w9 HY9.out HZ9.out).mono ?_
          rintro e wz ⟨rfl, rfl⟩
          go_wp2
          go_roundw
          case rel => exact ⟨⟨j + 1, by omega, by go_num⟩, HQ9.out⟩
          case measure => simp [intOf]; omega
      · have hB := HQ.out.2.2.2.2.2
        have HBB := Lib.hid hB
        clear hB
        go_wp2_with fail
        refine (awake_any _).mono ?_
        rintro e w2 ⟨rfl, hb2⟩
        have HB2 := Lib.hid (held_two HBB.out hb2)
        clear hb2
        go_wp2
        go_ret
        exact ⟨rfl, HB2.out⟩
end Go.Proofs.Ytjicdnknlfpajaa.Img
