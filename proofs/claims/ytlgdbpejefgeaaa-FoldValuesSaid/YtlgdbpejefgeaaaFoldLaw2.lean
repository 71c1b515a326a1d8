/-
  The walk of FoldValues: a key's value, and whether a row has been there, is what the document says.
-/
import Derived.Test.YtlgdbpejefgeaaaFoldLaw1
import Derived.Test.YtlgdbpejefgeaaaFoldRef2
import Derived.Deep.RegionHeld3
import Derived.Deep.DeepCutAuto
namespace Go.Proofs.Ytlgdbpejefgeaaa.Fold
set_option linter.unusedVariables false
set_option linter.unusedSimpArgs false
set_option maxRecDepth 100000
open Go.RowKit Base IdxMath FoldMath Foot
open TxnMath (Ch Tx)
open PChg (gval Cs)
open PTx
open Lsts (Lsts)
open Idx (Rs Rz)
open Go.Proofs.Ytlgdbpejefgeaaa.Field (modZ modZ_lt mod_any bigZ bigZ_lt playbig_any)
set_option linter.ambiguousOpen false

set_option maxHeartbeats 6400000 in
theorem values_walk (a b tb key : Int) (s : ByteArray) (A : Option Addr) (n c : Nat) (l : List Tx) (w : World) (h : Txs w w.heap.size A n c l) (hok : ∀ x ∈ l, OkTx x) (hl : l.length ≤ 140737488355328) :
    Calls Try.prog 4 #[.slice A n c, .int .i64 a, .int .i64 b, .int .i64 tb, .int .i64 key, .string s] w (Yes w) := by
  have hlen := h.len
  have HL := Lib.hid h
  have HOK := Lib.hid hok
  clear h hok
  go_enter Try.func4, Try.ntmps4
  go_wp2_with fail
  refine (few_any w.heap.size A n c l w HL.out HOK.out hl).mono ?_
  rintro e w1 ⟨g, rfl, rfl, hg⟩
  cases g with
  | false =>
    go_wp2_with fail
    refine (awake_any w).mono ?_
    rintro e w1 ⟨rfl, hb⟩
    have HB := Lib.hid hb
    clear hb
    go_wp2
    go_ret
    exact ⟨rfl, HB.out⟩
  | true =>
    obtain ⟨hg1, hg2⟩ := hg rfl
    rw [hlen] at hg2
    have HG2 : Hid ((chs l n).length < 1099511627774) := Nat.lt_trans hg2 (by omega)
    have hn4 : n ≤ 1099511627774 := by omega
    clear hg hg2
    go_wp2_with fail
    refine (ptxns_any 3 30 (by omega) (by omega) (by omega) w.heap.size A n c l w HL.out (Nat.le_refl _) (ok_play HOK.out)).mono ?_
    rintro e w1 ⟨t, A1, n1, c1, rfl, hn1, ht1, hgood, hb1⟩
    have HT1 := Lib.hid ht1
    have HB1 := Lib.hid hb1
    have hlen1 := ht1.len
    have HM1 : Hid ((chs t n1).length < 1099511627774) := by have := good_len hgood n1; show _ < _; omega
    have hn14 : n1 ≤ 1099511627774 := by omega
    clear ht1 hgood hb1
    go_wp2_with fail
    refine (mod_any a (n1 + 2) w1 (by omega) (by omega)).mono ?_
    rintro e w2 ⟨rfl, rfl⟩
    have hma := modZ_lt a (n := n1 + 2) (by omega)
    generalize modZ a (n1 + 2) = ma at hma ⊢
    go_wp2_with fail
    refine (mod_any b (n1 + 2) w1 (by omega) (by omega)).mono ?_
    rintro e w2 ⟨rfl, rfl⟩
    have hmb := modZ_lt b (n := n1 + 2) (by omega)
    generalize modZ b (n1 + 2) = mb at hmb ⊢
    go_wp2_with fail
    refine (playbig_any key 12 w1 (by omega) (by omega)).mono ?_
    rintro e w2 ⟨rfl, rfl⟩
    have hkk := bigZ_lt key (n := 12) (by omega)
    generalize bigZ key 12 = kk at hkk ⊢
    have CM := Lib.hid (fun wx => mod_any tb 3 wx (by omega) (by omega))
    have htq := modZ_lt tb (n := 3) (by omega)
    generalize modZ tb 3 = tq at CM htq
    go_wp2_with fail
    refine (CM.out _).mono ?_
    rintro e w2 ⟨rfl, rfl⟩
    go_wp2_with fail
    refine (value_any w1.heap.size A1 n1 c1 t ((ma : Int) - 1) tq (1 + (kk : Int)) w1 HT1.out (Nat.le_refl _) HM1.out).mono ?_
    rintro e w2 ⟨rfl, hb2⟩
    have HB2 : Hid (Below w.heap.size w w2) := held_two HB1.out hb2
    have HT2 := Lib.hid ((HT1.out.below hb2).more hb2.size)
    clear hb2
    obtain ⟨o1, ho1⟩ : ∃ o, o = value (tq : Int) (1 + (kk : Int)) (chs t (held ((ma : Int) - 1) t.length)) := ⟨_, rfl⟩
    rw [← ho1]
    have HO1 := Lib.hid ho1
    clear ho1
    go_wp2_with fail
    refine (CM.out _).mono ?_
    rintro e w3 ⟨rfl, rfl⟩
    go_wp2_with fail
    refine (refvalue_any w2.heap.size A1 n1 c1 t ((ma : Int) - 1) tq (1 + (kk : Int)) w2 HT2.out (Nat.le_refl _)).mono ?_
    rintro e w3 ⟨rfl, hb3⟩
    rw [← HO1.out]
    have HB3 : Hid (Below w.heap.size w w3) := held_two HB2.out hb3
    have HT3 := Lib.hid ((HT2.out.below hb3).more hb3.size)
    clear hb3 HT1 HT2
    obtain ⟨o2, ho2⟩ : ∃ o, o = value tb key (chs l (held a l.length)) := ⟨_, rfl⟩
    have HO2 := Lib.hid ho2
    clear ho2
    go_wp2_with fail
    refine (value_any w.heap.size A n c l a tb key w3 (HL.out.below HB3.out) HB3.out.size HG2.out).mono ?_
    rintro e w4 ⟨rfl, hb4⟩
    rw [← HO2.out]
    have HB4 : Hid (Below w.heap.size w w4) := held_two HB3.out hb4
    have HT4 := Lib.hid ((HT3.out.below hb4).more hb4.size)
    clear hb4 HT3
    go_wp2_with fail
    refine (refvalue_any w.heap.size A n c l a tb key w4 (HL.out.below HB4.out) HB4.out.size).mono ?_
    rintro e w5 ⟨rfl, hb5⟩
    rw [← HO2.out]
    have HB5 : Hid (Below w.heap.size w w5) := held_two HB4.out hb5
    have HT5 := Lib.hid ((HT4.out.below hb5).more hb5.size)
    clear hb5 HT4
    generalize o2.getD ⟨#[]⟩ = s2
    generalize o2.isSome = b2
    generalize o1.getD ⟨#[]⟩ = s1
    generalize o1.isSome = b1
    have e1 : (s1.toList == s1.toList) = true := by simp
    have e2 : (s2.toList == s2.toList) = true := by simp
    have e3 : (b1 != b1) = false := by simp
    have e4 : (b2 != b2) = false := by simp
    have e5 : (s1.toList != s1.toList) = false := by simp
    have e6 : (s2.toList != s2.toList) = false := by simp
    go_wp2_with fail
    refine (CM.out _).mono ?_
    rintro e w6 ⟨rfl, rfl⟩
    go_wp2_with fail
    refine (refvalue_any w5.heap.size A1 n1 c1 t ((mb : Int) - 1) tq (1 + (kk : Int)) w5 HT5.out (Nat.le_refl _)).mono ?_
    rintro e w6 ⟨rfl, hb6⟩
    have HB6 : Hid (Below w.heap.size w w6) := held_two HB5.out hb6
    have HT6 := Lib.hid ((HT5.out.below hb6).more hb6.size)
    clear hb6 HT5 e1 e2 e3 e4 e5 e6
    generalize value (tq : Int) (1 + (kk : Int)) (chs t (held ((mb : Int) - 1) t.length)) = o3
    generalize o3.getD ⟨#[]⟩ = s3
    generalize o3.isSome = b3
    have HX7 : Hid (Blk (w6.alloc (.cells #[.string s, .string s3, .string s1] 9)) w6.heap.size 9 #[.string s, .string s3, .string s1]) := Blk.new _ _ _
    have hb7 : Below w6.heap.size w6 (w6.alloc (.cells #[.string s, .string s3, .string s1] 9)) := (Below.refl _ _).alloc (Nat.le_refl _) _
    have HB7 : Hid (Below w.heap.size w (w6.alloc (.cells #[.string s, .string s3, .string s1] 9))) := held_two HB6.out hb7
    have HT7 := Lib.hid ((HT6.out.below hb7).more hb7.size)
    clear hb7 HT6
    go_wp2_with fail
    generalize (w6.alloc (.cells #[.string s, .string s3, .string s1] 9)) = w7 at HX7 HB7 HT7 ⊢
    go_loopw [117] (fun vi wr => ∃ j : Nat, vi = .int .i64 j ∧ j ≤ 3 ∧ Below w7.heap.size w7 wr) (fun vi _ => 3 - (Go.RowKit.intOf vi).toNat)
    case atStart => exact ⟨0, rfl, by omega, Below.refl _ _⟩
    case round =>
      obtain ⟨j, rfl, hj, hb⟩ := hrel
      have HB := Lib.hid hb
      have hblk := HX7.out.below hb HX7.out.lt
      clear hb
      by_cases hj3 : j < 3
      · have l1 : (j : Int) < 3 := by omega
        obtain ⟨sx, hsx⟩ : ∃ sx, wr.cell? ⟨w6.heap.size, j, none⟩ = some (.string sx) := by
          rw [hblk.cell]
          match j, hj3 with
          | 0, _ => exact ⟨_, rfl⟩
          | 1, _ => exact ⟨_, rfl⟩
          | 2, _ => exact ⟨_, rfl⟩
        clear hblk
        go_upto_region 17 with fail
        have hb8 : Below wr.heap.size wr (wr.alloc (.cells #[.int .i64 (1 + (kk : Int)), .string sx] 36)) := (Below.refl _ _).alloc (Nat.le_refl _) _
        have hx8 : Blk (wr.alloc (.cells #[.int .i64 (1 + (kk : Int)), .string sx] 36)) wr.heap.size 36 #[.int .i64 (1 + (kk : Int)), .string sx] := Blk.new _ _ _
        generalize (wr.alloc (.cells #[.int .i64 (1 + (kk : Int)), .string sx] 36)) = W at hb8 hx8 ⊢
        have HBW : Hid (Below w7.heap.size w7 W) := held_two HB.out hb8
        have d0 : W.cell? ⟨wr.heap.size, 0, none⟩ = some (.int .i64 (1 + (kk : Int))) := hx8.cell 0
        have d1 : W.cell? ⟨wr.heap.size, 1, none⟩ = some (.string sx) := hx8.cell 1
        have HTW := Lib.hid ((HT7.out.below HBW.out).more HBW.out.size)
        obtain ⟨bb, hbb⟩ : ∃ bb, bb = between t ((ma : Int) - 1) ((mb : Int) - 1) (tq : Int) (1 + (kk : Int)) sx := ⟨_, rfl⟩
        have CA : Hid (∀ wx, Below W.heap.size W wx → Calls Try.prog 17 #[.slice A1 n1 c1, .int .i64 ((ma : Int) - 1), .int .i64 ((mb : Int) - 1), .int .i64 tq, .agg #[.int .i64 (1 + (kk : Int)), .string sx]] wx fun e w' => e = .returned (.bool bb) ∧ Below wx.heap.size wx w') := fun wx hbx => by
          rw [hbb]
          exact between_any W.heap.size A1 n1 c1 t _ _ _ _ sx wx (HTW.out.below hbx) hbx.size HM1.out hn14
        have CB : Hid (∀ wx, Below W.heap.size W wx → Calls Try.prog 18 #[.slice A1 n1 c1, .int .i64 ((ma : Int) - 1), .int .i64 ((mb : Int) - 1), .int .i64 tq, .agg #[.int .i64 (1 + (kk : Int)), .string sx]] wx fun e w' => e = .returned (.bool bb) ∧ Below wx.heap.size wx w') := fun wx hbx => by
          rw [hbb]
          exact refbetween_any W.heap.size A1 n1 c1 t _ _ _ _ sx wx (HTW.out.below hbx) hbx.size hn14
        have e7 : (bb != bb) = false := by simp
        have e8 : (bb == bb) = true := by simp
        clear hbb hx8 hb8 hsx
        go_cut [138] (fun v wx => v = .bool false ∧ Below W.heap.size W wx)
        case first =>
          go_region_held3 (fun w' => w'.cell? ⟨wr.heap.size, 0, none⟩ = some (.int .i64 (1 + (kk : Int))) ∧ w'.cell? ⟨wr.heap.size, 1, none⟩ = some (.string sx) ∧ Below W.heap.size W w')
            (first
              | exact held2 (held_start W) d0 d1
              | (go_split_ands; exact held2 (held_call (by assumption) hbA) d0 d1)
              | (go_split_ands; exact held2 (held_call (by assumption) hbB) d0 d1)
              | assumption)
            (first
              | (go_at_call 9; refine (CM.out _).mono ?_; rintro e wm ⟨rfl, rfl⟩)
              | (go_at_call 17; go_split_ands; refine (CA.out _ (by assumption)).mono ?_; rintro e wA ⟨rfl, hbA⟩)
              | (go_at_call 18; go_split_ands; refine (CB.out _ (by assumption)).mono ?_; rintro e wB ⟨rfl, hbB⟩)
              | fail)
          all_goals (
            go_wp2_with fail
            go_meet
            exact ⟨rfl, by first | exact held_call (held_call (held_start W) hbA) hbB | exact held_call (held_call (held_start W) hbB) hbA⟩)
        case rest =>
          obtain ⟨rfl, hb9⟩ := hcut
          have HB9 : Hid (Below w7.heap.size w7 wc) := held_two HBW.out hb9
          clear hb9
          go_wp2
          go_roundw
          case rel => exact ⟨j + 1, by go_num, by omega, HB9.out⟩
          case measure => simp [Go.RowKit.intOf]; omega
      · have l1 : ¬ (j : Int) < 3 := by omega
        have HB8 : Hid (Below w.heap.size w wr) := held_two HB7.out HB.out
        clear hblk
        go_wp2_with fail
        refine (awake_any wr).mono ?_
        rintro e wa ⟨rfl, hba⟩
        have HBa : Hid (Below w.heap.size w wa) := held_two HB8.out hba
        clear hba
        obtain ⟨bb, hbb⟩ : ∃ bb, bb = between l a b tb key s := ⟨_, rfl⟩
        have HBB := Lib.hid hbb
        clear hbb
        go_wp2_with fail
        refine (between_any w.heap.size A n c l a b tb key s wa (HL.out.below HBa.out) HBa.out.size HG2.out hn4).mono ?_
        rintro e wb ⟨rfl, hbb⟩
        rw [← HBB.out]
        have HBb : Hid (Below w.heap.size w wb) := held_two HBa.out hbb
        clear hbb
        go_wp2_with fail
        refine (refbetween_any w.heap.size A n c l a b tb key s wb (HL.out.below HBb.out) HBb.out.size hn4).mono ?_
        rintro e wd ⟨rfl, hbd⟩
        rw [← HBB.out]
        have HBd : Hid (Below w.heap.size w wd) := held_two HBb.out hbd
        have e8 : (bb == bb) = true := by simp
        clear hbd
        go_wp2
        go_ret
        exact ⟨rfl, HBd.out⟩
end Go.Proofs.Ytlgdbpejefgeaaa.Fold
