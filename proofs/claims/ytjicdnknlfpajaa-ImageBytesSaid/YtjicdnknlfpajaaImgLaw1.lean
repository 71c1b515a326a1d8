/-
  The walk of the statement ImageBytes: it answers true, whatever the input, and writes nothing that was there.
-/
import Derived.Test.YtjicdnknlfpajaaImgHelp
import Derived.Test.YtjicdnknlfpajaaImgRefEncode
import Derived.Test.YtjicdnknlfpajaaHelpBytes
namespace Go.Proofs.Ytjicdnknlfpajaa.Img
set_option linter.unusedVariables false
set_option maxRecDepth 100000
open Go.RowKit Base FieldMath
open ImgMath
open IdxMath (Rw)
open Go.Proofs.Ytjicdnknlfpajaa.Field (ret_bool)
set_option linter.ambiguousOpen false
set_option linter.unusedSimpArgs false

theorem encI_two {w w' : World} {x : Im} {e : Ending} (h : EncI w x e w') : ∃ A n c, e = .returned (.tuple #[.slice A n c, .int .i64 (err (encI x))]) ∧ Bytes w' w'.heap.size A n c (got (encI x)) ∧ Below w.heap.size w w' := by
  obtain ⟨A, n, c, he, ho, hb⟩ := h
  exact ⟨A, n, c, he, Bytes.of_own ho, hb⟩
set_option maxHeartbeats 3200000 in
theorem bytes_walk (lsn : Int) (A : Option Addr) (n c : Nat) (T : List (List Rw)) (w : World) (h : Tabs w w.heap.size A n c T) :
    Calls Try.prog 8 #[.int .i64 lsn, .slice A n c] w fun e w' => e = .returned (.bool true) ∧ Below w.heap.size w w' := by
  have HT := Lib.hid h
  clear h
  go_enter Try.func8, Try.ntmps8
  go_wp2_with fail
  refine (few_any _ A n c T w HT.out).mono ?_
  rintro e w1 ⟨g, rfl, rfl⟩
  cases g with
  | false =>
    go_wp2_with fail
    refine (awake_any _).mono ?_
    rintro e w2 ⟨rfl, hb2⟩
    have HB2 := Lib.hid hb2
    clear hb2
    go_wp2
    go_ret
    exact ⟨rfl, HB2.out⟩
  | true =>
    go_wp2_with fail
    refine (encode_any w.heap.size lsn A n c T w HT.out (Nat.le_refl _)).mono ?_
    intro e w2 h2
    obtain ⟨A2, n2, c2, rfl, hy2, hb2⟩ := encI_two h2
    have HY2 := Lib.hid hy2
    have HB2 := Lib.hid hb2
    clear h2 hy2 hb2
    go_wp2_with fail
    refine (refimage_any w.heap.size lsn A n c T w2 (HT.out.below HB2.out) HB2.out.size).mono ?_
    intro e w3 h3
    obtain ⟨A3, n3, c3, rfl, hy3, hb3⟩ := encI_two h3
    have HY3 := Lib.hid hy3
    have HZ3 := Lib.hid (HY2.out.below hb3)
    have HB3 := Lib.hid (held_two HB2.out hb3)
    have hz3 := hb3.size
    clear h3 hy3 hb3 HY2
    generalize err (encI ⟨lsn, T⟩) = er
    generalize got (encI ⟨lsn, T⟩) = bs at HY3 HZ3
    go_wp2_with fail
    refine (awake_any _).mono ?_
    rintro e w4 ⟨rfl, hb4⟩
    have HY4 := Lib.hid (HY3.out.below hb4)
    have HZ4 := Lib.hid (HZ3.out.below (hb4.mono hz3))
    have HB4 := Lib.hid (held_two HB3.out hb4)
    clear hb4
    go_wp2_with fail
    refine (Go.Proofs.Ytjicdnknlfpajaa.Help.bytes_same w2.heap.size w3.heap.size A2 A3 n2 c2 n3 c3 bs w4 HZ4.out HY4.out).mono ?_
    rintro e w5 ⟨rfl, rfl⟩
    go_wp2
    go_ret
    exact ⟨rfl, HB4.out⟩
end Go.Proofs.Ytjicdnknlfpajaa.Img
