/-
  The walks of two more laws on fields: what is encoded is decoded, cut off it is too short, with more behind it is none; with one byte another one the bytes are read as the document says.
-/
import Derived.Test.YtdinkampbkckpaaFieldLaws
namespace Go.Proofs.Ytdinkampbkckpaa.Field
open Go.RowKit Base FieldMath

theorem encF_le {f : Fld} (h : f.right = true) : (encF f).length ≤ 4100 := by
  have := right_size h
  rw [fsize_enc]
  unfold fsize
  split <;> omega
theorem flat_le {fs : List Fld} (h : ∀ f ∈ fs, f.right = true ∧ f.ok) : (fs.flatMap encF).length ≤ 4100 * fs.length := by
  induction fs with
  | nil => simp
  | cons f fs ih =>
    have h1 := encF_le (h f (List.mem_cons_self ..)).1
    have h2 := ih fun g hg => h g (List.mem_cons_of_mem _ hg)
    rw [List.flatMap_cons, List.length_append, List.length_cons]
    omega
theorem encZ_le {fs : List Fld} (h : ∀ f ∈ fs, f.right = true ∧ f.ok) (hl : fs.length ≤ 60) : (encZ fs).length ≤ 250000 := by
  have := flat_le h
  rw [encZ, List.length_append, big_length]
  omega

set_option maxRecDepth 100000 in
set_option maxHeartbeats 1600000 in
theorem back_walk (A : Option Addr) (n c : Nat) (fs : List Fld) (cut : Int) (more : UInt8) (w : World) (hr : Flds w w.heap.size A n c fs) (hok : ∀ f ∈ fs, f.ok) :
    Calls Try.prog 5 #[.slice A n c, .int .i64 cut, .int .u8 more.toNat] w fun e w' => e = .returned (.bool true) ∧ Below w.heap.size w w' := by
  have HR := Lib.hid hr
  have HOK := Lib.hid hok
  have hrt := mkL_right fs hok
  have hml := mkL_length fs
  have he := enc_right (by omega) hrt
  have hlen := encZ_le hrt hml
  have h2 := encZ_two (mkL fs)
  have HD1 := Lib.hid (dec_enc (by omega) hrt)
  have HD2 := Lib.hid (fun k (hk : k < (encZ (mkL fs)).length) => dec_cut (by omega) hrt hk)
  have HD3 := Lib.hid (dec_enc_more (by omega) hrt [more])
  have HE := Lib.hid he
  clear hr hok hrt he
  go_enter Try.func5, Try.ntmps5
  go_wp2_with fail
  refine (mk_any w.heap.size A n c fs _ HR.out HOK.out (Nat.le_refl _)).mono ?_
  clear HR HOK
  generalize mkL fs = xs at hml HD1 HD2 HD3 HE hlen h2
  rintro e w1 ⟨A1, c1, rfl, ho1, hb1⟩
  have HB1 := Lib.hid hb1
  have HF1 := Lib.hid (Flds.of_own ho1)
  clear ho1 hb1
  go_wp2_with fail
  refine (encode_val _ _ _ _ xs _ _ HF1.out (Nat.le_refl _) HE.out).mono ?_
  generalize encZ xs = l at hlen h2 HD1 HD2 HD3
  clear HE
  rintro e w2 ⟨A2, c2, rfl, ho2, hb2⟩
  have HB2 := Lib.hid (HB1.out.trans (hb2.mono HB1.out.size))
  have HF2 := Lib.hid (HF1.out.below hb2)
  have hz2 := hb2.size
  have HY2 := Lib.hid (Bytes.of_own ho2)
  clear ho2 hb2
  generalize hln : l.length = ln at hlen h2 HY2
  have HLN := Lib.hid hln
  clear hln
  go_wp2_with fail
  refine (awake_any _).mono ?_
  rintro e w3 ⟨rfl, hb3⟩
  have HB3 := Lib.hid (HB2.out.trans (hb3.mono HB2.out.size))
  have HF3 := Lib.hid (HF2.out.below (hb3.mono hz2))
  have HY3 := Lib.hid (HY2.out.below hb3)
  have hz3 := hb3.size
  clear hb3
  go_wp2_with fail
  refine (decode_val _ _ _ _ _ xs _ HY3.out hz3 HD1.out).mono ?_
  rintro e w4 ⟨A4, c4, rfl, hf4, hb4⟩
  have HB4 := Lib.hid (HB3.out.trans (hb4.mono HB3.out.size))
  have HF4 := Lib.hid (HF3.out.below (hb4.mono (by omega)))
  have HG4 := Lib.hid hf4
  have HY4 := Lib.hid (HY3.out.below (hb4.mono hz3))
  have hz4 := hb4.size
  have hc2 := HY4.out.le
  clear hf4 hb4
  go_wp2_with fail
  refine (mod_any cut ln _ (by omega) (by omega)).mono ?_
  rintro e w5 ⟨rfl, rfl⟩
  have hcut := modZ_lt cut (n := ln) (by omega)
  generalize modZ cut ln = ct at hcut
  have hcc : ct ≤ c2 := by omega
  go_wp2_with fail
  refine (decode_bad _ A2 ct c2 _ 2 _ (HY4.out.front (by omega)) (by omega) (HD2.out ct (by rw [HLN.out]; exact hcut))).mono ?_
  rintro e w5 ⟨A5, n5, c5, rfl, hb5⟩
  have HB5 := Lib.hid (HB4.out.trans (hb5.mono HB4.out.size))
  have HF5 := Lib.hid (HF4.out.below (hb5.mono (by omega)))
  have HG5 := Lib.hid (HG4.out.below hb5)
  have HY5 := Lib.hid (HY4.out.below (hb5.mono (by omega)))
  have hz5 := hb5.size
  clear hb5
  have hzz := HB5.out.size
  go_wp2_with (first
    | (at_builtin
       refine wpList_append_row rfl (.tmp 50) (.tmp 51) rfl eb w5.heap.size _ 0 [] rfl (own_empty _ _ _ _ rfl (Nat.le_refl _)) _ A2 ln c2 (bv l) rfl (HY5.out.alloc (by omega) _) (bv_one _) (by omega) (by omega) (by simp) ?_
       intro A6 c6 w6 hown6 _ hb6
       rw [Nat.zero_add, List.nil_append] at hown6
       rw [Nat.zero_add]
       have HO6 := Lib.hid hown6
       have HB6 := Lib.hid (((Below.refl w5.heap.size w5).alloc (Nat.le_refl _) _).trans hb6)
       have hz6 := HB6.out.size
       clear hown6 hb6)
    | (at_builtin
       refine wpList_append_row rfl (.tmp 52) (.tmp 54) rfl eb w5.heap.size _ ln (bv l) rfl (HO6.out.alloc _) _ _ 1 1 (bv [more]) rfl (one_byte w6 _ more rfl rfl) (bv_one _) (by omega) (by omega) (by simp; omega) ?_
       intro A7 c7 w7 hown7 _ hb7
       rw [← bv_append] at hown7
       have HY7 := Lib.hid (Bytes.of_own hown7)
       have HB7 := Lib.hid ((HB6.out.alloc hz6 _).trans hb7)
       have hz7 := HB7.out.size
       clear hown7 hb7)
    | fail)
  refine (decode_bad _ A7 _ c7 _ 3 _ HY7.out (Nat.le_refl _) (by rw [HD3.out, if_pos (by simp)])).mono ?_
  rintro e w8 ⟨A8, n8, c8, rfl, hb8⟩
  have HB8 := Lib.hid ((HB5.out.trans (HB7.out.mono hzz)).trans (hb8.mono (by omega)))
  have HF8 := Lib.hid ((HF5.out.below (HB7.out.mono (by omega))).below (hb8.mono (by omega)))
  have HG8 := Lib.hid ((HG5.out.below (HB7.out.mono (by omega))).below (hb8.mono (by omega)))
  have hz8 := hb8.size
  clear hb8
  go_wp2_with fail
  refine (plain_same _ _ _ _ _ _ _ _ _ HF8.out HG8.out (by omega) (by omega)).mono ?_
  rintro e w9 ⟨rfl, hb9⟩
  have HB9 := Lib.hid (HB8.out.trans (hb9.mono HB8.out.size))
  clear hb9
  go_wp2
  go_ret
  exact ⟨rfl, HB9.out⟩

theorem bv_set (l : List UInt8) (i : Nat) (z : UInt8) : (bv l).set i (.int .u8 z.toNat) = bv (l.set i z) := by
  rw [bv, bv, List.map_set]
theorem add_byte (x y : UInt8) : ((x.toNat : Int) + (y.toNat : Int)) % 256 = (((x + y).toNat : Nat) : Int) := by
  rw [UInt8.toNat_add]
  omega

theorem takeN_err {n : Nat} {b : List UInt8} {e : Nat} (h : takeN n b = .error e) : e = 2 ∨ e = 3 := by
  induction n generalizing b with
  | zero => cases h
  | succ n ih =>
    rw [takeN] at h
    split at h
    · rename_i hf
      injection h with h
      subst h
      exact takeF_err hf
    · split at h
      · rename_i hg
        injection h with h
        subst h
        exact ih hg
      · cases h
theorem dec_err_ne {l : List UInt8} {e : Nat} (h : dec l = .error e) : e = 2 ∨ e = 3 := by
  unfold dec at h
  split at h
  · injection h with h; omega
  · split at h
    · injection h with h; omega
    · split at h
      · rename_i hg
        injection h with h
        subst h
        exact takeN_err hg
      · split at h
        · injection h with h; omega
        · cases h

set_option maxRecDepth 100000 in
set_option maxHeartbeats 1600000 in
theorem turned_walk (A : Option Addr) (n c : Nat) (fs : List Fld) (at_ : Int) (by_ : UInt8) (w : World) (hr : Flds w w.heap.size A n c fs) (hok : ∀ f ∈ fs, f.ok) :
    Calls Try.prog 6 #[.slice A n c, .int .i64 at_, .int .u8 by_.toNat] w fun e w' => e = .returned (.bool true) ∧ Below w.heap.size w w' := by
  have HR := Lib.hid hr
  have HOK := Lib.hid hok
  have hrt := mkL_right fs hok
  have hml := mkL_length fs
  have he := enc_right (by omega) hrt
  have hlen := encZ_le hrt hml
  have h2 := encZ_two (mkL fs)
  have HE := Lib.hid he
  clear hr hok hrt he
  go_enter Try.func6, Try.ntmps6
  go_wp2_with fail
  refine (mk_any w.heap.size A n c fs _ HR.out HOK.out (Nat.le_refl _)).mono ?_
  clear HR HOK
  generalize mkL fs = xs at hml HE hlen h2
  rintro e w1 ⟨A1, c1, rfl, ho1, hb1⟩
  have HB1 := Lib.hid hb1
  have HF1 := Lib.hid (Flds.of_own ho1)
  have hz1 := hb1.size
  clear ho1 hb1
  go_wp2_with fail
  refine (refencode_any _ _ _ _ xs _ HF1.out (Nat.le_refl _)).mono ?_
  rintro e w2 ⟨A2, ln, c2, rfl, ho2, hb2⟩
  rw [HE.out] at ho2
  rw [HE.out]
  have HB2 := Lib.hid (HB1.out.trans (hb2.mono HB1.out.size))
  have hz2 := HB2.out.size
  replace ho2 : w2.ownsRow w1.heap.size 5 1 (.slice A2 ln c2) ln (bv (encZ xs)) := ho2
  generalize encZ xs = l at hlen h2 ho2
  obtain rfl : l.length = ln := by have := ho2.1; rw [bv_length, Nat.mul_one] at this; exact this
  obtain ⟨g, rfl⟩ : ∃ g, A2 = some ⟨g, 0, none⟩ := by
    rcases ho2.2 with ⟨_, h⟩ | ⟨g, cap, cur, h, _⟩
    · omega
    · simp only [Value.slice.injEq] at h
      exact ⟨g, h.1⟩
  have HO2 := Lib.hid ho2
  clear ho2 hb2
  show _
  go_wp2_with fail
  refine (mod_any at_ l.length _ (by omega) (by omega)).mono ?_
  rintro e w3 ⟨rfl, rfl⟩
  have hi := modZ_lt at_ (n := l.length) (by omega)
  generalize modZ at_ l.length = i at hi
  have hcell : w2.cell? ⟨g, i, none⟩ = some (.int .u8 (l[i]).toNat) := by
    rw [HO2.out.cellAt i (by omega), bv, List.getElem?_map, List.getElem?_eq_getElem hi]; rfl
  have hfro := HO2.out.frozenAt i
  have hst := HO2.out.stored i (.int .u8 ((l[i] + by_).toNat : Nat))
  rw [bv_set] at hst
  have HA := Lib.hid (add_byte l[i] by_)
  generalize hl1 : l.set i (l[i] + by_) = l1 at hst
  have HST := Lib.hid hst
  have hz9 : l[i].toNat < 256 := l[i].toNat_lt
  have hz8 : by_.toNat < 256 := by_.toNat_lt
  generalize l[i] = z at HA hcell HST hz9
  clear hst hl1
  go_wp2_with fail
  rw [HA.out]
  generalize w2.setCell ⟨g, i, none⟩ (.int .u8 ((z + by_).toNat : Nat)) = w3 at HST
  clear hcell hfro HA
  have HO3 := Lib.hid HST.out.1
  have HB3 := Lib.hid (HB2.out.grown HST.out.2 HB2.out.size (fun k hk => by injection hk with hk; have := (HO2.out.lt g rfl).1; omega))
  have HY3 : Hid (Bytes w3 w3.heap.size (some ⟨g, 0, none⟩) l.length c2 l1) := Bytes.of_own HO3.out
  clear HST HO3 HO2
  generalize l.length = ln at hlen h2 HY3
  generalize err (Except.ok l) = e0
  refine (decode_any _ _ _ _ l1 _ HY3.out (Nat.le_refl _)).mono ?_
  rintro e w4 ⟨A4, n4, c4, rfl, hf4, hb4⟩
  have HB4 := Lib.hid (HB3.out.trans (hb4.mono HB3.out.size))
  have HY4 := Lib.hid (HY3.out.below hb4)
  have HF4 := Lib.hid hf4
  have hz4 := hb4.size
  clear hf4 hb4
  go_wp2_with fail
  refine (refdecode_any _ _ _ _ l1 _ HY4.out hz4).mono ?_
  rintro e w5 ⟨A5, n5, c5, rfl, hf5, hb5⟩
  obtain rfl : n4 = n5 := by rw [← HF4.out.len, ← hf5.len]
  have HB5 := Lib.hid (HB4.out.trans (hb5.mono HB4.out.size))
  have HY5 := Lib.hid (HY4.out.below (hb5.mono hz4))
  have HF5 := Lib.hid (HF4.out.below hb5)
  have HG5 := Lib.hid hf5
  have hz5 := hb5.size
  clear hf5 hb5
  generalize hk : err (dec l1) = k
  go_wp2_with fail
  refine (awake_any _).mono ?_
  rintro e w6 ⟨rfl, hb6⟩
  have HB6 := Lib.hid (HB5.out.trans (hb6.mono HB5.out.size))
  have HY6 := Lib.hid (HY5.out.below (hb6.mono (by omega)))
  have HF6 := Lib.hid (HF5.out.below (hb6.mono hz5))
  have HG6 := Lib.hid (HG5.out.below hb6)
  have hz6 := hb6.size
  clear hb6
  have HK := Lib.hid hk
  clear hk
  go_wp2_with fail
  refine (plain_same _ _ _ _ _ _ _ _ _ HF6.out HG6.out (by omega) hz6).mono ?_
  rintro e w7 ⟨rfl, hb7⟩
  have HB7 := Lib.hid (HB6.out.trans (hb7.mono HB6.out.size))
  have HY7 := Lib.hid (HY6.out.below (hb7.mono (by omega)))
  have HF7 := Lib.hid (HF6.out.below (hb7.mono (by omega)))
  have hz7 := hb7.size
  clear hb7
  cases hd : dec l1 with
  | error q =>
    have hq := dec_err_ne hd
    have hk2 : (k : Int) = q := by rw [← HK.out, hd]; rfl
    have hk3 : ((k : Int) != 0) = true := by simp; omega
    clear hd hk2
    go_wp2
    go_ret
    exact ⟨rfl, HB7.out⟩
  | ok gs =>
    have hk0 : k = 0 := by rw [← HK.out, hd]; rfl
    subst hk0
    have HEG := Lib.hid (dec_ok hd).1
    rw [show got (dec l1) = gs by rw [hd]; rfl] at HF7
    clear hd HF4 HF5 HF6 HG5 HG6 HK
    go_wp2_with fail
    refine (encode_val _ _ _ _ gs l1 _ HF7.out (by omega) HEG.out).mono ?_
    rintro e w8 ⟨A8, c8, rfl, ho8, hb8⟩
    have HB8 := Lib.hid (HB7.out.trans (hb8.mono HB7.out.size))
    have HY8 := Lib.hid (HY7.out.below (hb8.mono (by omega)))
    have HZ8 := Lib.hid (Bytes.of_own ho8)
    clear ho8 hb8
    go_wp2_with fail
    refine (bytes_same _ _ _ _ _ _ _ _ _ _ HY8.out HZ8.out).mono ?_
    rintro e w9 ⟨rfl, rfl⟩
    go_wp2
    go_ret
    exact ⟨rfl, HB8.out⟩
end Go.Proofs.Ytdinkampbkckpaa.Field
