/-
  The walk of the statement ImageBack: it answers true, whatever the input, and writes nothing that was there.
-/
import Derived.Test.YtjicdnknlfpajaaImgRight
import Derived.Test.YtjicdnknlfpajaaPlayMod
namespace Go.Proofs.Ytjicdnknlfpajaa.Img
set_option linter.unusedVariables false
set_option maxRecDepth 100000
open Go.RowKit Base FieldMath RecMath
open ImgMath
open IdxMath (Rw)
open Go.Proofs.Ytjicdnknlfpajaa.Field (ret_bool bigZ bigZ_lt modZ modZ_lt mod_any eb one_byte)
set_option linter.ambiguousOpen false
set_option linter.unusedSimpArgs false

theorem ret_i {a b : Int} (h : a = b) : Ending.returned (.int .i64 a) = .returned (.int .i64 b) := by rw [h]
set_option maxHeartbeats 400000 in
theorem playbig2_any (v : Int) (w : World) :
    Calls Try.prog 32 #[.int .i64 v, .int .i64 1099511627777] w fun e w' => e = .returned (.int .i64 ((bigZ v 1099511627777 : Nat) : Int)) ∧ w = w' := by
  go_enter Try.func32, Try.ntmps32
  go_wp2
  go_ret
  refine ⟨ret_i ?_, rfl⟩
  have hw : IntKind.u64.wrap v = v % 18446744073709551616 := by simp [IntKind.wrap, IntKind.bits, IntKind.signed]
  have h0 : 0 ≤ v % 18446744073709551616 := Int.emod_nonneg _ (by omega)
  rw [hw, Int.tmod_eq_emod_of_nonneg h0]
  unfold bigZ
  generalize v % 18446744073709551616 = y at h0
  have h1 : 0 ≤ y % ((1099511627777 : Nat) : Int) := Int.emod_nonneg _ (by omega)
  have h2 : y % ((1099511627777 : Nat) : Int) < ((1099511627777 : Nat) : Int) := Int.emod_lt_of_pos _ (by omega)
  rw [show (1099511627777 : Int) = ((1099511627777 : Nat) : Int) from rfl]
  generalize y % ((1099511627777 : Nat) : Int) = z at h1 h2
  rw [IntWalk.wrap64_in z (by omega)]
  omega
theorem imgB_size {x : Im} (h : x.may = true) : 9 ≤ (imgB x).length ∧ (imgB x).length ≤ 1048584 := by
  have h1 := encZ_len (may_of h)
  have h2 : 1 ≤ (encZ (fldsI x)).length := by unfold encZ; rw [List.length_append, big_length]; omega
  unfold imgB
  rw [recB_length]
  omega
/-- what Decode answers of bytes that are no image -/
theorem decI_none {w w' : World} {e : Ending} (h : DecI w none e w') : ∃ A n c, e = .returned (.tuple #[.int .i64 0, .slice A n c, .int .i64 3]) ∧ Below w.heap.size w w' := by
  obtain ⟨A, n, c, he, _, hb⟩ := h
  exact ⟨A, n, c, he, hb⟩
theorem decI_some {w w' : World} {x : Im} {e : Ending} (h : DecI w (some x) e w') : ∃ A n c, e = .returned (.tuple #[.int .i64 x.lsn, .slice A n c, .int .i64 0]) ∧ Tabs w' w'.heap.size A n c x.tabs ∧ Below w.heap.size w w' := by
  obtain ⟨A, n, c, he, ho, hb⟩ := h
  exact ⟨A, n, c, he, ho.tabs, hb⟩

set_option maxHeartbeats 6400000 in
theorem back_walk (lsn : Int) (A : Option Addr) (n c : Nat) (T0 : List (List Rw)) (x : UInt8) (xi cut : Int) (w : World) (h : Tabs w w.heap.size A n c T0) (hs : ∀ l ∈ T0, Short l) (hx : xi = ((x.toNat : Nat) : Int)) :
    Calls Try.prog 9 #[.int .i64 lsn, .slice A n c, .int .u8 xi, .int .i64 cut] w fun e w' => e = .returned (.bool true) ∧ Below w.heap.size w w' := by
  subst hx
  have HT := Lib.hid h
  have HS := Lib.hid hs
  clear h hs
  go_enter Try.func9, Try.ntmps9
  go_wp2_with fail
  refine (right_any w.heap.size A n c T0 w HT.out (Nat.le_refl _) HS.out).mono ?_
  rintro e w1 ⟨A1, n1, c1, T, rfl, ho1, hn1, hn8, hall, hb1⟩
  have HT1 := Lib.hid ho1.tabs
  have HB1 := Lib.hid hb1
  have C1 : Hid (∀ wc, Calls Try.prog 32 #[.int .i64 lsn, .int .i64 1099511627777] wc fun e w' => e = .returned (.int .i64 ((bigZ lsn 1099511627777 : Nat) : Int)) ∧ wc = w') := fun wc => playbig2_any lsn wc
  have hz1 := bigZ_lt lsn (n := 1099511627777) (by omega)
  generalize bigZ lsn 1099511627777 = k at C1 hz1
  have hmay := right_may (k := (k : Int)) (by omega) (by omega) ho1.len hn1 hn8 hall
  have HM := Lib.hid hmay
  obtain ⟨hs2, hs3⟩ := imgB_size hmay
  clear ho1 hb1 hall hmay HT HS
  go_wp2_with fail
  refine (C1.out _).mono ?_
  rintro e w1' ⟨rfl, rfl⟩
  go_wp2_with fail
  refine (encode_any w1.heap.size (k : Int) A1 n1 c1 T w1 HT1.out (Nat.le_refl _)).mono ?_
  intro e w2 he2
  obtain ⟨A2, c2, rfl, hy2, _, hb2⟩ := encI_at he2 HM.out
  obtain ⟨l, hl⟩ : ∃ l, l = imgB ⟨(k : Int), T⟩ := ⟨_, rfl⟩
  rw [← hl] at hy2 hs2 hs3 ⊢
  have HL := Lib.hid hl
  obtain ⟨N, hN⟩ : ∃ N, l.length = N := ⟨_, rfl⟩
  rw [hN] at hy2 hs2 hs3 ⊢
  have HN := Lib.hid hN
  have HB2 := Lib.hid (held_two HB1.out hb2)
  have HT2 := Lib.hid (HT1.out.below hb2)
  have HY2 := Lib.hid hy2
  have hcap := hy2.le
  have hz12 := hb2.size
  clear he2 hy2 hb2 hl hN HT1
  go_wp2_with fail
  refine (awake_any _).mono ?_
  rintro e w3 ⟨rfl, hb3⟩
  have HB3 := Lib.hid (held_two HB2.out hb3)
  have HT3 := Lib.hid (HT2.out.below (hb3.mono hz12))
  have HY3 := Lib.hid (HY2.out.below hb3)
  have hz23 := hb3.size
  clear hb3 HT2 HY2
  have hN0 : ((N : Int) == 0) = false := by simp; omega
  have hN1 : ¬ N = 0 := by omega
  go_wp2_with fail
  refine (decode_any w2.heap.size A2 N c2 l w3 HY3.out hz23).mono ?_
  intro e w4 he4
  rw [HL.out, decI_enc HM.out] at he4
  obtain ⟨A4, n4, c4, rfl, ht4, hb4⟩ := decI_some he4
  have HB4 := Lib.hid (held_two HB3.out hb4)
  have HT4 := Lib.hid (HT3.out.below (hb4.mono (by omega)))
  have HY4 := Lib.hid (HY3.out.below (hb4.mono hz23))
  have HU4 := Lib.hid ht4
  have hz34 := hb4.size
  dsimp only
  clear he4 ht4 hb4 HT3 HY3
  go_wp2_with (first
    | (at_builtin
       (refine wpList_append_row rfl (.tmp 50) (.tmp 51) rfl eb w4.heap.size _ 0 [] rfl (own_empty _ _ _ _ rfl (Nat.le_refl _)) w2.heap.size A2 N c2 (bv l) rfl (HY4.out.alloc (by omega) _) (bv_one _) (by omega) (by omega) (by simp) ?_)
       intro A6 c6 w6 hown6 _ hb6
       rw [Nat.zero_add, List.nil_append] at hown6
       rw [Nat.zero_add]
       have HO6 := Lib.hid hown6
       have HB6 : Hid (Below w4.heap.size w4 w6) := ((Below.refl w4.heap.size w4).alloc (Nat.le_refl _) _).trans hb6
       have hz46 : w4.heap.size ≤ w6.heap.size := HB6.out.size
       clear hown6 hb6)
    | (at_builtin
       refine wpList_append_row rfl (.tmp 52) (.tmp 54) rfl eb w4.heap.size _ N (bv l) rfl (HO6.out.alloc _) _ _ 1 1 (bv [x]) rfl (one_byte w6 _ x rfl rfl) (bv_one _) (by omega) (by omega) (by simp; omega) ?_
       intro A7 c7 w7 hown7 _ hb7
       rw [← bv_append] at hown7
       have HY7 := Lib.hid (Bytes.of_own hown7)
       have HB7 : Hid (Below w4.heap.size w4 w7) := (HB6.out.alloc HB6.out.size _).trans hb7
       clear hown7 hb7)
    | fail)
  refine (decode_any _ A7 (N + 1) c7 (l ++ [x]) w7 HY7.out (Nat.le_refl _)).mono ?_
  intro e w8 he8
  rw [HL.out, decI_more HM.out x] at he8
  obtain ⟨A8, n8, c8, rfl, hb8⟩ := decI_none he8
  have hb48 : Below w4.heap.size w4 w8 := held_two HB7.out hb8
  have HB8 := Lib.hid (held_two HB4.out hb48)
  have HT8 := Lib.hid (HT4.out.below (hb48.mono (by omega)))
  have HY8 := Lib.hid (HY4.out.below (hb48.mono (by omega)))
  have HU8 := Lib.hid (HU4.out.below hb48)
  have hz48 := hb48.size
  clear he8 hb8 hb48 HT4 HY4 HU4 HB7 HB6 HO6 HY7
  go_wp2_with fail
  refine (mod_any cut N _ (by omega) (by omega)).mono ?_
  rintro e w8' ⟨rfl, rfl⟩
  have hm := modZ_lt cut (n := N) (by omega)
  generalize modZ cut N = m at hm
  go_wp2_with fail
  refine (decode_any w2.heap.size A2 m c2 (l.take m) _ (HY8.out.front (by omega)) (by omega)).mono ?_
  intro e w9 he9
  rw [HL.out, decI_cut HM.out (by rw [← HL.out, HN.out]; exact hm)] at he9
  obtain ⟨A9, n9, c9, rfl, hb9⟩ := decI_none he9
  have HB9 := Lib.hid (held_two HB8.out hb9)
  have HT9 := Lib.hid (HT8.out.below (hb9.mono (by omega)))
  have HU9 := Lib.hid (HU8.out.below (hb9.mono (by omega)))
  have hz89 := hb9.size
  clear he9 hb9 HT8 HY8 HU8
  go_wp2_with fail
  refine (tables_same w1.heap.size w4.heap.size A1 A4 n1 n4 c1 c4 T w9 HT9.out HU9.out (by omega) (by omega)).mono ?_
  rintro e wz ⟨rfl, hbz⟩
  have HBZ := Lib.hid (held_two HB9.out hbz)
  clear hbz
  go_wp2
  go_ret
  exact ⟨rfl, HBZ.out⟩
end Go.Proofs.Ytjicdnknlfpajaa.Img
