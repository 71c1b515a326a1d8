/-
  The walks of the laws on segments: each answers true, whatever the input, and writes nothing that was there.
-/
import Derived.Test.YthffmojmfghbiaaSegBase
import Derived.Test.YthffmojmfghbiaaOpenBytes
namespace Go.Proofs.Ythffmojmfghbiaa.Seg
open Go.RowKit Base FieldMath RecMath SegMath
open Go.Proofs.Ythffmojmfghbiaa.Field Go.Proofs.Ythffmojmfghbiaa.Rec Help
set_option linter.ambiguousOpen false

set_option maxHeartbeats 800000 in
theorem heads_walk (x : Int) (w : World) :
    Calls Try.prog 3 #[.int .i64 x] w fun e w' => e = .returned (.bool true) ∧ Below w.heap.size w w' := by
  go_enter Try.func3, Try.ntmps3
  go_wp2_with fail
  refine (head_any x w).mono ?_
  rintro e w1 ⟨A1, n1, c1, rfl, ho1, hb1⟩
  have HY1 := Lib.hid (Bytes.of_own ho1)
  have HB1 := Lib.hid hb1
  clear ho1 hb1
  go_wp2_with fail
  refine (refhead_any x w1).mono ?_
  rintro e w2 ⟨A2, n2, c2, rfl, ho2, hb2⟩
  have HP2 := Lib.hid (HY1.out.below hb2)
  have HQ2 := Lib.hid (Bytes.of_own ho2)
  have HB2 := Lib.hid (held_two HB1.out hb2)
  have hz2 := hb2.size
  clear ho2 hb2
  generalize err (head x) = k
  go_wp2_with fail
  refine (awake_any w2).mono ?_
  rintro e w3 ⟨rfl, hb3⟩
  have HP3 := Lib.hid (HP2.out.below (hb3.mono hz2))
  have HQ3 := Lib.hid (HQ2.out.below hb3)
  have HB3 := Lib.hid (held_two HB2.out hb3)
  clear hb3
  go_wp2_with fail
  refine (bytes_same _ _ _ _ _ _ _ _ _ _ HP3.out HQ3.out).mono ?_
  rintro e w4 ⟨rfl, rfl⟩
  go_wp2
  go_ret
  exact ⟨rfl, HB3.out⟩

/-- the number that a statement makes -/
theorem made_num (v : Int) : 1 ≤ (1 : Int) + (bigZ v 1099511627776 : Nat) ∧ (1 : Int) + (bigZ v 1099511627776 : Nat) ≤ 1099511627776 := by
  have := bigZ_lt v (n := 1099511627776) (by omega)
  omega

set_option maxHeartbeats 1600000 in
theorem reads_walk (x : Int) (A : Option Addr) (n c : Nat) (l : List UInt8) (w : World) (hr : Bytes w w.heap.size A n c l) (hn : n ≤ 1048576) :
    Calls Try.prog 4 #[.int .i64 x, .slice A n c] w fun e w' => e = .returned (.bool true) ∧ Below w.heap.size w w' := by
  have HR := Lib.hid hr
  clear hr
  go_enter Try.func4, Try.ntmps4
  go_wp2_with fail
  refine (playbig_any x 1099511627776 w (by omega) (by omega)).mono ?_
  rintro e w1 ⟨rfl, rfl⟩
  have hy := made_num x
  generalize bigZ x 1099511627776 = y at hy
  go_wp2_with fail
  refine (bytes_any 0 _ none 0 0 [] _ (Lists.nil_ _ _) (by omega) hy.1 hy.2).mono ?_
  rintro e w1 ⟨A1, n1, c1, rfl, ho1, hb1⟩
  have hn1 : n1 ≤ 31457539 := by rw [← own_len ho1]; exact (bytesB_len _ _).2
  have HO1 := Lib.hid ho1
  have HB1 := Lib.hid hb1
  clear ho1 hb1
  generalize bytesB (1 + (y : Int)) [] = h at HO1
  go_wp2_with fail
  refine (awake_any w1).mono ?_
  rintro e w2 ⟨rfl, hb2⟩
  have HO2 := Lib.hid (own_keep HO1.out hb2)
  have HB2 := Lib.hid (held_two HB1.out hb2)
  clear hb2
  go_wp2_with fail
  refine (alike_any w.heap.size A n c l _ (HR.out.below HB2.out) HB2.out.size (by omega)).mono ?_
  rintro e w3 ⟨rfl, hb3⟩
  have HO3 := Lib.hid (own_keep HO2.out hb3)
  have HB3 := Lib.hid (held_two HB2.out hb3)
  clear hb3
  go_wp2_with (first
    | (at_builtin
       refine wpList_append_want (by rfl) (.tmp 16) (.tmp 17) rfl eb w.heap.size _ n1 _ rfl HO3.out w.heap.size A n c (bv l) rfl (HR.out.below HB3.out) (bv_one _) (by omega) (by omega) HB3.out.size ?_
       intro A4 c4 w4 hown4 _ hb4
       rw [← bv_append] at hown4
       have HY4 := Lib.hid (Bytes.of_own hown4)
       have HB4 := Lib.hid (HB3.out.trans hb4)
       clear hown4 hb4)
    | fail)
  refine (alike_any _ A4 _ c4 _ _ HY4.out (Nat.le_refl _) (by omega)).mono ?_
  rintro e w5 ⟨rfl, hb5⟩
  have HB5 := Lib.hid (held_two HB4.out hb5)
  clear hb5
  go_wp2
  go_ret
  exact ⟨rfl, HB5.out⟩

/-! ### one byte another one -/
theorem bv_put (l : List UInt8) (i : Nat) (z : UInt8) : (bv l).set i (.int .u8 z.toNat) = bv (l.set i z) := by
  rw [bv, bv, List.map_set]
theorem byte_add (x y : UInt8) : ((x.toNat : Int) + (y.toNat : Int)) % 256 = (((x + y).toNat : Nat) : Int) := by
  rw [UInt8.toNat_add]
  omega

set_option maxHeartbeats 1600000 in
theorem turned_walk (x : Int) (A : Option Addr) (n c : Nat) (ls : List (List UInt8)) (at_ : Int) (by_ : UInt8) (w : World) (hr : Lists w w.heap.size A n c ls) :
    Calls Try.prog 6 #[.int .i64 x, .slice A n c, .int .i64 at_, .int .u8 by_.toNat] w fun e w' => e = .returned (.bool true) ∧ Below w.heap.size w w' := by
  have HR := Lib.hid hr
  clear hr
  go_enter Try.func6, Try.ntmps6
  go_wp2_with fail
  refine (playbig_any x 1099511627776 w (by omega) (by omega)).mono ?_
  rintro e w1 ⟨rfl, rfl⟩
  have hy := made_num x
  generalize bigZ x 1099511627776 = y at hy
  go_wp2_with fail
  refine (bytes_any w.heap.size _ A n c ls _ HR.out (Nat.le_refl _) hy.1 hy.2).mono ?_
  rintro e w2 ⟨A2, ln, c2, rfl, ho2, hb2⟩
  have hlen := bytesB_len (1 + (y : Int)) ls
  generalize bytesB (1 + (y : Int)) ls = l at hlen ho2
  obtain rfl : l.length = ln := own_len ho2
  obtain ⟨g, rfl⟩ : ∃ g, A2 = some ⟨g, 0, none⟩ := by
    rcases ho2.2 with ⟨_, h⟩ | ⟨g, cap, cur, h, _⟩
    · omega
    · simp only [Value.slice.injEq] at h
      exact ⟨g, h.1⟩
  have HO2 := Lib.hid ho2
  have HB2 := Lib.hid hb2
  clear ho2 hb2
  go_wp2_with fail
  refine (mod_any at_ l.length _ (by omega) (by omega)).mono ?_
  rintro e w3 ⟨rfl, rfl⟩
  have hi := modZ_lt at_ (n := l.length) (by omega)
  generalize modZ at_ l.length = i at hi
  have hcell : w2.cell? ⟨g, i, none⟩ = some (.int .u8 (l[i]).toNat) := by
    rw [HO2.out.cellAt i (by omega), bv, List.getElem?_map, List.getElem?_eq_getElem hi]; rfl
  have hfro := HO2.out.frozenAt i
  have hst := HO2.out.stored i (.int .u8 ((l[i] + by_).toNat : Nat))
  rw [bv_put] at hst
  have HA := Lib.hid (byte_add l[i] by_)
  generalize hl1 : l.set i (l[i] + by_) = l1 at hst
  have HST := Lib.hid hst
  have hz9 : l[i].toNat < 256 := l[i].toNat_lt
  have hz8 : by_.toNat < 256 := by_.toNat_lt
  generalize l[i] = z at HA hcell HST hz9
  clear hst hl1
  go_wp2_with fail
  rw [HA.out]
  generalize w2.setCell ⟨g, i, none⟩ (.int .u8 ((z + by_).toNat : Nat)) = w3 at HST
  clear hcell hfro HA
  have HO3 := Lib.hid HST.out.1
  have HB3 := Lib.hid (HB2.out.grown HST.out.2 HB2.out.size (fun k hk => by injection hk with hk; have := (HO2.out.lt g rfl).1; omega))
  have HY3 : Hid (Bytes w3 w3.heap.size (some ⟨g, 0, none⟩) l.length c2 l1) := Bytes.of_own HO3.out
  clear HST HO3 HO2
  generalize l.length = ln at hlen HY3
  refine (awake_any _).mono ?_
  rintro e w4 ⟨rfl, hb4⟩
  have HB4 := Lib.hid (held_two HB3.out hb4)
  have HY4 := Lib.hid (HY3.out.below hb4)
  have hz4 := hb4.size
  clear hb4
  go_wp2_with fail
  refine (alike_any _ _ _ _ l1 _ HY4.out hz4 (by omega)).mono ?_
  rintro e w5 ⟨rfl, hb5⟩
  have HB5 := Lib.hid (held_two HB4.out hb5)
  clear hb5
  go_wp2
  go_ret
  exact ⟨rfl, HB5.out⟩

theorem turned_walk8 (x : Int) (A : Option Addr) (n c : Nat) (ls : List (List UInt8)) (at_ : Int) (by_ : Int) (w : World) (hz : (Lit.int .u8 by_).wf = true) (hr : Lists w w.heap.size A n c ls) :
    Calls Try.prog 6 #[.int .i64 x, .slice A n c, .int .i64 at_, .int .u8 by_] w fun e w' => e = .returned (.bool true) ∧ Below w.heap.size w w' := by
  rw [byte_of hz]
  exact turned_walk x A n c ls at_ _ w hr

/-! ### a record that is another one than a head's -/
theorem enc_cases {fs : List Fld} (hl : fs.length ≤ 200) (hok : ∀ f ∈ fs, f.ok) : enc fs = .error 1 ∨ (enc fs = .ok (encZ fs) ∧ (fs.length ≠ 1 → sread (putB (encZ fs)) = bad)) := by
  by_cases h : fs.all Fld.right = true
  · refine .inr ⟨?_, fun h1 => ?_⟩
    · unfold enc; rw [if_neg (by rw [h]; simp; omega)]
    · rw [List.all_eq_true] at h
      exact sread_fields (fun f hf => ⟨h f hf, hok f hf⟩) (by omega) h1
  · refine .inl ?_
    unfold enc
    rw [if_pos (.inr (by simpa using h))]

/-- what was appended to still reads as it did -/
theorem own_front {w w' : World} {base n m c c' : Nat} {A A' : Option Addr} {l r : List UInt8} {e : TypeId} (h : w.ownsRow base e 1 (.slice A n c) n (bv l)) (h' : w'.ownsRow base e 1 (.slice A' m c') m (bv (l ++ r))) (hg : (Value.slice A' m c').ownBlock = (Value.slice A n c).ownBlock ∨ Below w.heap.size w w') : Bytes w' w'.heap.size A n c l := by
  have hlen := own_len h
  have hlen' := own_len h'
  rw [List.length_append] at hlen'
  rcases hg with hA | hA
  · have h1 := (Bytes.of_own h').front (k := n) (by omega)
    rw [take_app _ _ hlen] at h1
    refine ⟨h1.1, (Bytes.of_own h).2.1, (Bytes.of_own h).2.2.1, fun hn => ?_⟩
    obtain ⟨b, off, he, hb, hc⟩ := h1.2.2.2 hn
    rcases h.2 with ⟨he2, h0⟩ | ⟨g, cap, cur, he2, _⟩
    · omega
    · simp only [Value.slice.injEq] at he2
      obtain ⟨rfl, _, _⟩ := he2
      rcases h'.2 with ⟨he3, h0⟩ | ⟨g', cap', cur', he3, _⟩
      · omega
      · simp only [Value.slice.injEq] at he3
        obtain ⟨rfl, _, _⟩ := he3
        simp only [Value.ownBlock, Option.some.injEq] at hA
        subst hA
        exact ⟨_, _, he, hb, hc⟩
  · exact ((Bytes.of_own h).below hA).more hA.size

set_option maxHeartbeats 1600000 in
theorem headless_walk (A : Option Addr) (n c : Nat) (fs : List Fld) (A' : Option Addr) (n' c' : Nat) (l : List UInt8) (w : World) (hf : Flds w w.heap.size A n c fs) (hok : ∀ f ∈ fs, f.ok) (hr : Bytes w w.heap.size A' n' c' l) (hn : n' ≤ 1048576) :
    Calls Try.prog 7 #[.slice A n c, .slice A' n' c'] w fun e w' => e = .returned (.bool true) ∧ Below w.heap.size w w' := by
  have hlen := hf.len
  have hle := hf.le
  have HF := Lib.hid hf
  have HR := Lib.hid hr
  clear hf hr
  by_cases h200 : 200 < n
  · clear hlen hok
    go_enter Try.func7, Try.ntmps7
    go_wp2_with fail
    refine (awake_any _).mono ?_
    rintro e w1 ⟨rfl, hb1⟩
    have HB1 := Lib.hid hb1
    clear hb1
    go_wp2
    go_ret
    exact ⟨rfl, HB1.out⟩
  · have hc := enc_cases (fs := fs) (by omega) hok
    rw [hlen] at hc
    have HC := Lib.hid hc
    clear hok hlen hc
    go_enter Try.func7, Try.ntmps7
    go_wp2_with fail
    refine (refencode_any w.heap.size A n c fs _ HF.out (Nat.le_refl _)).mono ?_
    rintro e w1 ⟨A1, n1, c1, rfl, ho1, hb1⟩
    have HB1 := Lib.hid hb1
    rcases HC.out with he | ⟨he, hs⟩
    · rw [show err (enc fs) = 1 by rw [he]; rfl]
      clear ho1 hb1 he HC
      go_wp2_with fail
      refine (refput_any w.heap.size A' n' c' l _ (HR.out.below HB1.out) HB1.out.size).mono ?_
      rintro e w2 ⟨A2, n2, c2, rfl, ho2, hb2⟩
      have hn2 : n2 ≤ 1048584 := by rw [← own_len ho2]; exact putB_le l
      have HB2 := Lib.hid (held_two HB1.out hb2)
      have HO2 : Hid (w2.ownsRow w.heap.size 5 1 (.slice A2 n2 c2) n2 (bv (putB l))) := own_mono ho2 HB1.out.size
      clear ho2 hb2
      generalize err (put l) = q
      generalize putB l = r at HO2
      go_wp2_with fail
      refine (awake_any _).mono ?_
      rintro e w3 ⟨rfl, hb3⟩
      have HO3 := Lib.hid (own_keep HO2.out hb3)
      have HB3 := Lib.hid (held_two HB2.out hb3)
      clear hb3
      go_wp2_with (first
        | (at_builtin
           refine wpList_append_want (by rfl) (.tmp 28) (.tmp 29) rfl eb w.heap.size _ n2 _ rfl HO3.out w.heap.size A' n' c' (bv l) rfl (HR.out.below HB3.out) (bv_one _) (by omega) (by omega) HB3.out.size ?_
           intro A4 c4 w4 hown4 _ hb4
           rw [← bv_append] at hown4
           have HY4 := Lib.hid (Bytes.of_own hown4)
           have HB4 := Lib.hid (HB3.out.trans hb4)
           clear hown4 hb4)
        | fail)
      refine (alike_any _ A4 _ c4 _ _ HY4.out (Nat.le_refl _) (by omega)).mono ?_
      rintro e w5 ⟨rfl, hb5⟩
      have HB5 := Lib.hid (held_two HB4.out hb5)
      clear hb5
      by_cases h1 : n = 1
      · subst h1
        go_wp2
        go_ret
        exact ⟨rfl, HB5.out⟩
      · have h1' : ((n : Int) == 1) = false := by simp; omega
        clear h1
        go_wp2
        go_ret
        exact ⟨rfl, HB5.out⟩
    · rw [show err (enc fs) = 0 by rw [he]; rfl]
      rw [show got (enc fs) = encZ fs by rw [he]; rfl] at ho1
      have HY1 := Lib.hid (Bytes.of_own ho1)
      have HS := Lib.hid hs
      clear ho1 hb1 he HC hs
      generalize encZ fs = p at HY1 HS
      go_wp2_with fail
      refine (refput_any _ A1 n1 c1 p _ HY1.out (Nat.le_refl _)).mono ?_
      rintro e w2 ⟨A2, n2, c2, rfl, ho2, hb2⟩
      have hn2 : n2 ≤ 1048584 := by rw [← own_len ho2]; exact putB_le p
      have HB2 := Lib.hid (held_two HB1.out hb2)
      have HO2 : Hid (w2.ownsRow w.heap.size 5 1 (.slice A2 n2 c2) n2 (bv (putB p))) := own_mono ho2 HB1.out.size
      clear ho2 hb2
      generalize err (put p) = q
      generalize putB p = r at HO2 HS
      go_wp2_with fail
      refine (awake_any _).mono ?_
      rintro e w3 ⟨rfl, hb3⟩
      have HO3 := Lib.hid (own_keep HO2.out hb3)
      have HB3 := Lib.hid (held_two HB2.out hb3)
      clear hb3
      go_wp2_with (first
        | (at_builtin
           refine wpList_append_apart (by rfl) (.tmp 28) (.tmp 29) rfl eb w.heap.size _ n2 _ rfl HO3.out w.heap.size A' n' c' (bv l) rfl (HR.out.below HB3.out) (bv_one _) (by omega) (by omega) HB3.out.size ?_
           intro A4 c4 w4 hown4 _ hb4 hg4
           rw [← bv_append] at hown4
           have HY4 := Lib.hid (Bytes.of_own hown4)
           have HB4 := Lib.hid (HB3.out.trans hb4)
           have HZ4 := Lib.hid (own_front HO3.out hown4 hg4)
           clear hown4 hg4 hb4)
        | fail)
      refine (alike_any _ A4 _ c4 _ _ HY4.out (Nat.le_refl _) (by omega)).mono ?_
      rintro e w5 ⟨rfl, hb5⟩
      have HB5 := Lib.hid (held_two HB4.out hb5)
      have HZ5 := Lib.hid (HZ4.out.below hb5)
      have hz5 := hb5.size
      clear hb5
      by_cases h1 : n = 1
      · subst h1
        go_wp2
        go_ret
        exact ⟨rfl, HB5.out⟩
      · have h1' : ((n : Int) == 1) = false := by simp; omega
        have HS' := Lib.hid (HS.out h1)
        clear h1
        go_wp2_with fail
        refine (one_any _ A2 n2 c2 r _ HZ5.out hz5 (by omega) HS'.out).mono ?_
        rintro e w6 ⟨rfl, hb6⟩
        have HB6 := Lib.hid (held_two HB5.out hb6)
        clear hb6
        go_wp2
        go_ret
        exact ⟨rfl, HB6.out⟩
end Go.Proofs.Ythffmojmfghbiaa.Seg
