/-
  The walk of FoldRows: the rows that are there are just those that keys have values of.
-/
import Derived.Test.YtlgdbpejefgeaaaFoldLaw1
namespace Go.Proofs.Ytlgdbpejefgeaaa.Fold
set_option linter.unusedVariables false
set_option linter.unusedSimpArgs false
set_option maxRecDepth 100000
open Go.RowKit Base IdxMath FoldMath Foot
open TxnMath (Ch Tx)
open PChg (gval Cs)
open PTx
open Lsts (Lsts)
open Idx (Rs Rz)
open Go.Proofs.Ytlgdbpejefgeaaa.Field (modZ modZ_lt mod_any)
set_option linter.ambiguousOpen false

theorem foldT_two' {t : List Tx} {q n : Nat} (hn : t.length = n) (hq : q ≤ n) : foldT 2 t (q : Int) = rowsL 2 (chs t q) := by
  rw [show (2 : Int) = ((2 : Nat) : Int) from rfl, foldT_rows (by omega) (by omega), hn, held_nat hq]
set_option maxHeartbeats 6400000 in
theorem rows_walk (k : Int) (A : Option Addr) (n c : Nat) (l : List Tx) (w : World) (h : Txs w w.heap.size A n c l) (hok : ∀ x ∈ l, OkTx x) :
    Calls Try.prog 6 #[.slice A n c, .int .i64 k] w (Yes w) := by
  have HL := Lib.hid h
  have HOK := Lib.hid hok
  clear h hok
  go_enter Try.func6, Try.ntmps6
  go_wp2_with fail
  refine (ptxns_any 2 30 (by omega) (by omega) (by omega) w.heap.size A n c l w HL.out (Nat.le_refl _) (ok_play HOK.out)).mono ?_
  rintro e w1 ⟨t, A1, n1, c1, rfl, hn1, ht1, hgood, hb1⟩
  have HT1 := Lib.hid ht1
  have HGD := Lib.hid hgood
  have HB1 := Lib.hid hb1
  have hlen := ht1.len
  clear ht1 hgood hb1
  go_wp2_with fail
  refine (mod_any k (n1 + 1) w1 (by omega) (by omega)).mono ?_
  rintro e w2 ⟨rfl, rfl⟩
  have hq := modZ_lt k (n := n1 + 1) (by omega)
  generalize modZ k (n1 + 1) = q at hq ⊢
  have hlq := good_len HGD.out n1
  have hlen2 : (chs t n1).length < 1099511627774 := by omega
  go_wp2_with fail
  refine (fold_any 2 w1.heap.size A1 n1 c1 t q w1 HT1.out (Nat.le_refl _) (good_in64 HGD.out) hlen2).mono ?_
  rintro e w2 ⟨A2, n2, c2, rfl, hls2, hb2⟩
  rw [foldT_two' hlen (by omega)] at hls2
  obtain rfl : 2 = n2 := by rw [← hls2.len, rowsL_length]
  have HS2 := Lib.hid hls2
  have HT2 := Lib.hid ((HT1.out.below hb2).more hb2.size)
  have HB2 : Hid (Below w.heap.size w w2) := held_two HB1.out hb2
  clear hls2 hb2
  go_wp2_with fail
  refine (awake_any w2).mono ?_
  rintro e w4 ⟨rfl, hb4⟩
  have HT4 := Lib.hid ((HT2.out.below hb4).more hb4.size)
  have HF : Hid (Lsts Rz w4 w4.heap.size A2 2 c2 (rowsL 2 (chs t q))) := (HS2.out.below hb4 fun _ _ _ _ hh => hh.below hb4).more hb4.size fun _ _ _ _ hh => hh.more hb4.size
  have HB4 : Hid (Below w.heap.size w w4) := held_two HB2.out hb4
  clear hb4 HS2 HT1 HT2
  go_wp2_with fail
  go_loopw [8] (fun vi wr => ∃ i : Nat, vi = .int .i64 i ∧ i ≤ 2 ∧ Below w4.heap.size w4 wr) (fun vi _ => 2 - (Go.RowKit.intOf vi).toNat)
  case atStart => exact ⟨0, rfl, by omega, Below.refl _ _⟩
  case round =>
    obtain ⟨i, rfl, hi, hb⟩ := hrel
    have HB := Lib.hid hb
    clear hb
    by_cases hi2 : i < 2
    · have l1 : (i : Int) < 2 := by omega
      -- the rows of this table
      obtain ⟨b, off, A6, n6, c6, l6, rfl, hbb6, z6, hz6, hg6, _⟩ := HF.out.at_ hi2
      rw [rowsL_get hi2] at hg6
      obtain rfl := Option.some.inj hg6
      have HCELL : Hid (∀ wx, Below w4.heap.size w4 wx → wx.cell? ⟨b, off + i, none⟩ = some (.slice A6 n6 c6)) := fun wx hbx => (hbx.cell hbb6).trans z6
      have HROW : Hid (∀ wx, Below w4.heap.size w4 wx → Rs wx w4.heap.size A6 n6 c6 (rows (i : Int) (chs t q))) := fun wx hbx => hz6.1.below hbx
      have hln := hz6.1.len
      have hle6 := hz6.1.le
      have HRI := Lib.hid (rows_rise (i : Int) (chs t q))
      have HKEY : Hid (∀ x ∈ rows (i : Int) (chs t q), 1 ≤ x.key) := fun x hx => by
        obtain ⟨c, hc, _, e, _⟩ := rows_mem hx
        rw [← e]
        exact (may_key (good_chs HGD.out hc)).1
      have HGET : Hid (∀ key, IdxMath.get (rows (i : Int) (chs t q)) key = value (i : Int) key (chs t q)) := fun key => get_rows _ _ _
      clear hz6 hg6 z6
      generalize hrr : rows (i : Int) (chs t q) = r at *
      clear hrr
      go_wp2_with fail
      go_loopw [9, 10] (fun va vk wx => ∃ key : Nat, vk = .int .i64 key ∧ 1 ≤ key ∧ key ≤ 13 ∧ va = .int .i64 (pos r key : Nat) ∧ Below w4.heap.size w4 wx) (fun _ vk _ => 13 - (Go.RowKit.intOf vk).toNat)
      case atStart => exact ⟨1, rfl, by omega, by omega, by rw [pos_low (k := ((1 : Nat) : Int)) (fun x hx => by have := HKEY.out x hx; omega)]; rfl, HB.out⟩
      case round =>
        clear HB
        obtain ⟨key, rfl, hk1, hk13, rfl, hb⟩ := hrel
        have HB := Lib.hid hb
        have y0 := HCELL.out wr hb
        clear hb
        by_cases hk : key ≤ 12
        · have l2 : (key : Int) ≤ 12 := by omega
          go_wp2_with fail
          refine (value_any w4.heap.size A1 n1 c1 t q i key wr (HT4.out.below HB.out) HB.out.size hlen2).mono ?_
          rintro e w8 ⟨rfl, hb8⟩
          rw [hlen, held_nat (show q ≤ n1 by omega), ← HGET.out]
          have HB8 : Hid (Below w4.heap.size w4 w8) := held_two HB.out hb8
          have y8 := HCELL.out w8 HB8.out
          clear hb8 y0
          cases hv : IdxMath.get r (key : Int) with
          | none =>
            have hs1 : (none : Option ByteArray).isSome = false := rfl
            have hs2 : (none : Option ByteArray).getD ⟨#[]⟩ = ⟨#[]⟩ := rfl
            have HP : Hid (pos r ((key : Int) + 1) = pos r (key : Int)) := pos_next_no HRI.out hv
            rw [hs1, hs2]
            clear hv
            go_wp2
            go_roundw
            case rel => exact ⟨key + 1, by go_num, by omega, by omega, by rw [Int.natCast_add]; rw [show ((1 : Nat) : Int) = 1 from rfl, HP.out], HB8.out⟩
            case measure => simp [Go.RowKit.intOf]; omega
          | some v =>
            have hs1 : (some v : Option ByteArray).isSome = true := rfl
            have hs2 : (some v : Option ByteArray).getD ⟨#[]⟩ = v := rfl
            have HP : Hid (pos r ((key : Int) + 1) = pos r (key : Int) + 1) := pos_next_yes HRI.out hv
            have hat := (at_pos HRI.out hv).1
            have hpl : pos r (key : Int) < r.length := (List.getElem?_eq_some_iff.1 hat).1
            obtain ⟨b3, off3, f, rfl, _, q0, q1, hf, _⟩ := (HROW.out w8 HB8.out).at_ (k := pos r (key : Int)) (by omega)
            rw [hat] at hf
            obtain rfl := Option.some.inj hf
            dsimp only at q0 q1
            have HV : Hid (value (i : Int) (key : Int) (chs t q) = some v) := by show _ = _; rw [← HGET.out]; exact hv
            rw [hs1, hs2]
            clear hv hf hat
            generalize hpp : pos r (key : Int) = p at *
            have HPP := Lib.hid hpp
            clear hpp
            have CB := Lib.hid (between_any w4.heap.size A1 n1 c1 t q q i key v w8 (HT4.out.below HB8.out) HB8.out.size hlen2 (by omega))
            rw [between_yes (k := q) (by rw [hlen, held_nat (show q ≤ n1 by omega)]; exact Nat.le_refl _) (by rw [hlen, held_nat (show q ≤ n1 by omega)]; exact Nat.le_refl _) HV.out] at CB
            have l3 : ¬ ((n6 : Int) ≤ (p : Int)) := by omega
            have l4 : (p : Int) < (n6 : Int) := by omega
            go_wp2_with fail
            refine CB.out.mono ?_
            rintro e w9 ⟨rfl, hb9⟩
            have HB9 : Hid (Below w4.heap.size w4 w9) := held_two HB8.out hb9
            clear hb9
            go_wp2
            go_roundw
            case rel => exact ⟨key + 1, by go_num, by omega, by omega, by rw [Int.natCast_add]; rw [show ((1 : Nat) : Int) = 1 from rfl, HP.out]; go_num, HB9.out⟩
            case measure => simp [Go.RowKit.intOf]; omega
        · have l2 : ¬ (key : Int) ≤ 12 := by omega
          obtain rfl : key = 13 := by omega
          have hpl := pos_le r ((13 : Nat) : Int)
          obtain ⟨p0, hp0⟩ : ∃ p0, p0 = pos r ((13 : Nat) : Int) := ⟨_, rfl⟩
          rw [← hp0] at hpl ⊢
          have HP0 := Lib.hid hp0
          clear hp0
          go_wp2_with fail
          go_loopw [9] (fun va wx => ∃ p : Nat, va = .int .i64 p ∧ p0 ≤ p ∧ p ≤ n6 ∧ Below w4.heap.size w4 wx) (fun va _ => n6 - (Go.RowKit.intOf va).toNat)
          case atStart => exact ⟨p0, rfl, Nat.le_refl _, by omega, HB.out⟩
          case round =>
            clear HB y0
            obtain ⟨p, rfl, hp, hpn, hb⟩ := hrel
            have HB := Lib.hid hb
            have y0 := HCELL.out wr hb
            clear hb
            by_cases hp6 : p < n6
            · have l3 : (p : Int) < (n6 : Int) := by omega
              obtain ⟨b3, off3, f, rfl, _, q0, q1, hf, _⟩ := (HROW.out wr HB.out).at_ hp6
              have hkk := pos_high HRI.out (k := ((13 : Nat) : Int)) (by rw [← HP0.out]; exact hp) hf
              have l4 : (12 : Int) < f.key := by omega
              clear hf hkk
              go_wp2
              go_roundw
              case rel => exact ⟨p + 1, by go_num, by omega, by omega, HB.out⟩
              case measure => simp [Go.RowKit.intOf]; omega
            · obtain rfl : p = n6 := by omega
              have l3 : ¬ (p : Int) < (p : Int) := by omega
              go_wp2
              go_roundw
              case rel => exact ⟨i + 1, by go_num, by omega, HB.out⟩
              case measure => simp [Go.RowKit.intOf]; omega
    · have l1 : ¬ (i : Int) < 2 := by omega
      have HB9 : Hid (Below w.heap.size w wr) := held_two HB4.out HB.out
      go_wp2
      go_ret
      exact ⟨rfl, HB9.out⟩
end Go.Proofs.Ytlgdbpejefgeaaa.Fold
