/-
  The walk of the statement BatchBack: it answers true, whatever the input, and writes nothing that was there.
-/
import Derived.Test.YtlkjmdkmcaaihaaBtHelp
import Derived.Test.YtlkjmdkmcaaihaaBtSome
import Derived.Deep.DeepCutAuto
import Derived.Deep.RegionWith
namespace Go.Proofs.Ytlkjmdkmcaaihaa.Bt
set_option linter.unusedVariables false
set_option maxRecDepth 100000
open Go.RowKit Base FieldMath TxnMath BatchMath
open GuardMath (Gp noGp)
open Gd (Gps)
open Go.Proofs.Ytlkjmdkmcaaihaa.Field (ret_bool eb Flds one_byte bigZ bigZ_lt playbig_any)
set_option linter.ambiguousOpen false
set_option linter.unusedSimpArgs false

theorem encZ_size {x : It} (h : may x = true) : 2 ≤ (encZ (ifl x)).length ∧ (encZ (ifl x)).length ≤ 4100 * 32767 + 2 := by
  have hm := may_iff.1 h
  have hr := ifl_right hm
  have hl := ifl_few hm
  unfold encZ
  rw [List.length_append, big_length]
  have : ((ifl x).flatMap encF).length ≤ 4100 * (ifl x).length := by
    generalize ifl x = fs at hr
    clear hl
    induction fs with
    | nil => exact Nat.le_refl _
    | cons f r ih =>
      rw [List.flatMap_cons, List.length_append, List.length_cons]
      have h1 := ih fun g hg => hr g (List.mem_cons_of_mem _ hg)
      have h2 : (encF f).length ≤ 4100 := by
        have hsz : f.s.size ≤ 4096 := by rcases right_cases (hr f List.mem_cons_self).1 with ⟨_, h⟩ | ⟨_, _, h⟩ <;> omega
        unfold encF
        split
        · rw [List.length_cons, big_length]; omega
        · rw [List.length_cons, List.length_append, big_length, size_list]; omega
      omega
  omega
/-- an item that was made, in a block of its own -/
def MadeCut (w : World) (m : Nat) (p : Value) (wx : World) : Prop := ∃ (Z : Nat) (t : It) (A1 : Option Addr) (n1 c1 : Nat) (P1 : Option Addr) (m1 q1 : Nat), p = .pointer (some ⟨Z, 0, none⟩) ∧ Made m t ∧ Blk wx Z 25 #[.int .i64 t.lsn, .slice A1 n1 c1, .slice P1 m1 q1] ∧ ItOwn wx 0 t A1 n1 c1 P1 m1 q1 ∧ Below w.heap.size w wx
theorem MadeCut.new {w w1 : World} {m : Nat} {t : It} {A1 : Option Addr} {n1 c1 : Nat} {P1 : Option Addr} {m1 q1 : Nat} (hm : Made m t) (ho : ItOwn w1 0 t A1 n1 c1 P1 m1 q1) (hb : Below w.heap.size w w1) : MadeCut w m (.pointer (some ⟨w1.heap.size, 0, none⟩)) (w1.alloc (.cells #[.int .i64 t.lsn, .slice A1 n1 c1, .slice P1 m1 q1] 25)) :=
  ⟨_, t, A1, n1, c1, P1, m1, q1, rfl, hm, Blk.new _ _ _, ho.keep ((Below.refl _ _).alloc (Nat.le_refl _) _), hb.alloc hb.size _⟩
theorem MadeCut.old {w w1 : World} {m Z : Nat} {t : It} {A1 : Option Addr} {n1 c1 : Nat} {P1 : Option Addr} {m1 q1 : Nat} {x0 x1 x2 : Value} (hm : Made m t) (ho : ItOwn w1 0 t A1 n1 c1 P1 m1 q1) (hb : Below w.heap.size w w1) (hz : Blk w1 Z 25 #[x0, x1, x2]) (hZ : w.heap.size ≤ Z) :
    MadeCut w m (.pointer (some ⟨Z, 0, none⟩)) (((w1.setCell ⟨Z, 0, none⟩ (.int .i64 t.lsn)).setCell ⟨Z, 1, none⟩ (.slice A1 n1 c1)).setCell ⟨Z, 2, none⟩ (.slice P1 m1 q1)) := by
  have hon := three_on w1 Z (.int .i64 t.lsn) (.slice A1 n1 c1) (.slice P1 m1 q1)
  exact ⟨Z, t, A1, n1, c1, P1, m1, q1, rfl, hm, ((hz.set_ 0 _).set_ 1 _).set_ 2 _, ⟨ho.1.kept hon (.inr (own_ne ho.1 hz (by decide))), ho.2.kept hon (.inr (own_ne ho.2 hz (by decide)))⟩, ((hb.setCell (by exact hZ) _).setCell (by exact hZ) _).setCell (by exact hZ) _⟩
set_option maxHeartbeats 6400000 in
theorem back_walk (x : It) (v : Value) (lz : Int) (y : UInt8) (yi : Int) (w : World) (h : ItIn w w.heap.size x v) (hok : ∀ o ∈ x.ops, o.val.size ≤ 9223372036854775807) (hy : yi = ((y.toNat : Nat) : Int)) :
    Calls Try.prog 4 #[v, .int .i64 lz, .int .u8 yi] w fun e w' => e = .returned (.bool true) ∧ Below w.heap.size w w' := by
  subst hy
  obtain ⟨A, n, c, A', n', c', rfl, hin, _, _⟩ := h.agg
  have D1 := Lib.hid (fun w => playbig_any lz 1073741824 w (by omega) (by omega))
  have b1 := bigZ_lt lz (n := 1073741824) (by omega)
  generalize bigZ lz 1073741824 = m at D1 b1
  have CS := Lib.hid (fun (wx : World) (hb : Below w.heap.size w wx) => (some_any w.heap.size m (by omega) x _ wx (hin.below hb) hb.size hok).mono (R' := fun e w' => MadeI m wx e w' ∧ Below w.heap.size w w') fun e w' (h1 : MadeI m wx e w') => ⟨h1, by obtain ⟨_, _, _, _, _, _, _, _, _, _, h2⟩ := h1; exact held_two hb h2⟩)
  have HX : Hid (Blk (w.alloc (.cells #[.int .i64 x.lsn, .slice A n c, .slice A' n' c'] 25)) w.heap.size 25 #[.int .i64 x.lsn, .slice A n c, .slice A' n' c']) := Blk.new _ _ _
  have HW : Hid (Below w.heap.size w (w.alloc (.cells #[.int .i64 x.lsn, .slice A n c, .slice A' n' c'] 25))) := (Below.refl _ _).alloc (Nat.le_refl _) _
  clear h hok hin
  go_enter Try.func4, Try.ntmps4
  go_upto_region 1 with fail
  generalize (w.alloc (.cells #[.int .i64 x.lsn, .slice A n c, .slice A' n' c'] 25)) = W at HX HW ⊢
  have HH : Hid (∀ wx, Below W.heap.size W wx → wx.cell? ⟨w.heap.size, 0, none⟩ = some (.int .i64 x.lsn) ∧ wx.cell? ⟨w.heap.size, 1, none⟩ = some (.slice A n c) ∧ wx.cell? ⟨w.heap.size, 2, none⟩ = some (.slice A' n' c') ∧ Below W.heap.size W wx) :=
    fun wx h => ⟨(h.cell HX.out.lt).trans (HX.out.cell 0), (h.cell HX.out.lt).trans (HX.out.cell 1), (h.cell HX.out.lt).trans (HX.out.cell 2), h⟩
  have x0 : W.cell? ⟨w.heap.size, 0, none⟩ = some (.int .i64 x.lsn) := HX.out.cell 0
  have x1 : W.cell? ⟨w.heap.size, 1, none⟩ = some (.slice A n c) := HX.out.cell 1
  have x2 : W.cell? ⟨w.heap.size, 2, none⟩ = some (.slice A' n' c') := HX.out.cell 2
  have hxlt : w.heap.size < W.heap.size := HX.out.lt
  go_cut [7] (fun p wx => MadeCut w m p wx)
  case first =>
    go_region_with (first
      | (go_at_call 18; refine (D1.out _).mono ?_; rintro e w0 ⟨rfl, rfl⟩)
      | (go_at_call 11; refine (CS.out _ (by first | exact HW.out.trans ((held_start W).mono HW.out.size) | exact HW.out.trans ((held_alloc (held_start W) _).mono HW.out.size))).mono ?_; rintro e w1 ⟨⟨t, A1, n1, c1, P1, m1, q1, rfl, hmade, ho1, hb1⟩, hbw⟩; unfold itv; have y0 := (HH.out _ (Below.trans (by first | exact held_start W | exact held_alloc (held_start W) _) (hb1.mono (Below.size (by first | exact held_start W | exact held_alloc (held_start W) _))))).1; try (have hz : Blk w1 W.heap.size 25 #[.int .i64 0, .slice none 0 0, .slice none 0 0] := (Blk.new W.drew 25 itz).below hb1 (by simp); have hzl := hz.lt; have z0 := hz.cell 0; have z1 := hz.cell 1; have z2 := hz.cell 2; have zf0 := hz.frozen 0; have zf1 := hz.frozen 1; have zf2 := hz.frozen 2))
      | fail)
    all_goals (
      go_wp2_with fail
      go_meet
      first
        | exact MadeCut.new hmade (ho1.mono (Nat.zero_le _)) hbw
        | exact MadeCut.old hmade (ho1.mono (Nat.zero_le _)) hbw hz HW.out.size)
  case rest =>
    obtain ⟨Z, t, A1, n1, c1, P1, m1, q1, rfl, hmade, hbz, ho1, hbw⟩ := hcut
    have hin1 := ho1.in_
    unfold itv at hin1
    have hmay := hmade.may (by omega)
    have HM := Lib.hid hmay
    have HB1 := Lib.hid hbw
    have HT1 := Lib.hid hin1
    have HX1 := Lib.hid hbz
    obtain ⟨hs2, hs3⟩ := encZ_size hmay
    have z0 : wc.cell? ⟨Z, 0, none⟩ = some (.int .i64 t.lsn) := hbz.cell 0
    have z1 : wc.cell? ⟨Z, 1, none⟩ = some (.slice A1 n1 c1) := hbz.cell 1
    have z2 : wc.cell? ⟨Z, 2, none⟩ = some (.slice P1 m1 q1) := hbz.cell 2
    clear hmade hmay hin1 ho1 hbz hbw CS HH HX HW x0 x1 x2 hxlt D1
    go_wp2_with fail
    refine (encode_in wc.heap.size t _ _ HT1.out (Nat.le_refl _)).mono ?_
    intro e w2 he2
    obtain ⟨A2, c2, rfl, ho2, hb2⟩ := encI_val he2 HM.out
    obtain ⟨l, hl⟩ : ∃ l, l = encZ (ifl t) := ⟨_, rfl⟩
    rw [← hl] at ho2 hs2 hs3 ⊢
    have HL := Lib.hid hl
    obtain ⟨N, hN⟩ : ∃ N, l.length = N := ⟨_, rfl⟩
    rw [hN] at ho2 hs2 hs3 ⊢
    have HN := Lib.hid hN
    have HB2 := Lib.hid (held_two HB1.out hb2)
    have HX2 := Lib.hid (HX1.out.below hb2 HX1.out.lt)
    have HT2 := Lib.hid (HT1.out.below hb2)
    have HY2 := Lib.hid (Bytes.of_own ho2)
    have hz12 : wc.heap.size ≤ w2.heap.size := hb2.size
    have hcap := (Bytes.of_own ho2).le
    clear he2 ho2 hb2 hl hN HX1 HT1 z0 z1 z2
    generalize wc.heap.size = b0 at HT2 hz12
    go_wp2_with fail
    refine (awake_any _).mono ?_
    rintro e w3 ⟨rfl, hb3⟩
    have HB3 := Lib.hid (held_two HB2.out hb3)
    have HX3 := Lib.hid (HX2.out.below hb3 HX2.out.lt)
    have HT3 := Lib.hid (HT2.out.below (hb3.mono hz12))
    have HY3 := Lib.hid (HY2.out.below hb3)
    have hz23 := hb3.size
    clear hb3 HX2 HT2 HY2
    have hN0 : ((N : Int) == 0) = false := by simp; omega
    have hN1 : (N == 0) = false := by simp; omega
    go_wp2_with fail
    refine (decode_any w2.heap.size A2 N c2 l w3 HY3.out hz23).mono ?_
    intro e w4 he4
    obtain ⟨v4, he, hti4, hb4⟩ := he4.at_
    rw [HL.out, decI_enc HM.out] at he hti4
    obtain ⟨A4, n4, c4, P4, m4, q4, hv, hin4, _, _⟩ := hti4.agg
    subst hv
    subst he
    rw [show gotI (.ok t : Except Nat It) = t from rfl, show ((err (Except.ok t : Except Nat It) : Nat) : Int) = 0 from rfl]
    rw [show gotI (.ok t : Except Nat It) = t from rfl] at hin4
    have HB4 := Lib.hid (held_two HB3.out hb4)
    have HX4 := Lib.hid (HX3.out.below hb4 HX3.out.lt)
    have HT4 := Lib.hid (HT3.out.below (hb4.mono (by omega)))
    have HY4 := Lib.hid (HY3.out.below (hb4.mono hz23))
    have HU4 := Lib.hid hin4
    have HZ4 : Hid (Blk (w4.alloc (.cells #[.int .i64 t.lsn, .slice A4 n4 c4, .slice P4 m4 q4] 25)) w4.heap.size 25 #[.int .i64 t.lsn, .slice A4 n4 c4, .slice P4 m4 q4]) := Blk.new _ _ _
    have hz34 := hb4.size
    clear he4 hti4 hin4 hb4 HX3 HT3 HY3
    have hwN : IntKind.i64.wrap ((N : Int) - 1) = (((N - 1 : Nat)) : Int) := by rw [IntWalk.i64_in _ (by omega)]; omega
    have hN2 : (N : Int) - 1 = (((N - 1 : Nat)) : Int) := by omega
    go_wp2_with fail
    refine (decode_any w2.heap.size A2 (N - 1) c2 (l.take (N - 1)) _ ((HY4.out.front (by omega)).alloc (by omega) _) (by simp; omega)).mono ?_
    intro e w5 he5
    obtain ⟨v5, he, hti5, hb5⟩ := he5.at_
    have hcut : decI (l.take (N - 1)) = .error 2 := by rw [HL.out]; exact decI_cut HM.out (by rw [← HL.out, HN.out]; omega)
    rw [hcut] at he hti5
    obtain ⟨A5, n5, c5, P5, m5, q5, hv, _, _, _⟩ := hti5.agg
    subst hv
    subst he
    rw [show ((err (Except.error 2 : Except Nat It) : Nat) : Int) = 2 from rfl]
    have HB5 := Lib.hid (held_two (HB4.out.alloc HB4.out.size _) hb5)
    have HX5 := Lib.hid ((HX4.out.alloc _).below hb5 (by have := HX4.out.lt; simp; omega))
    have HT5 := Lib.hid ((HT4.out.alloc (by omega) _).below (hb5.mono (by simp; omega)))
    have HY5 := Lib.hid ((HY4.out.alloc (by omega) _).below (hb5.mono (by simp; omega)))
    have HU5 := Lib.hid ((HU4.out.alloc (Nat.le_refl _) _).below (hb5.mono (by simp)))
    have HZ5 := Lib.hid (HZ4.out.below hb5 (by simp))
    have hz45 : w4.heap.size < w5.heap.size := HZ5.out.lt
    clear he5 hti5 hb5 HX4 HT4 HY4 HU4 HZ4 hcut hwN hN2
    generalize gotI (Except.error 2 : Except Nat It) = no
    go_wp2_with (first
      | (at_builtin
         refine wpList_append_row rfl (.tmp 51) (.tmp 52) rfl eb (w5.heap.size + 1) _ 0 [] rfl (own_empty _ _ _ _ (by simp) (by simp)) w2.heap.size A2 N c2 (bv l) rfl ((HY5.out.alloc (by omega) _).alloc (by simp; omega) _) (bv_one _) (by omega) (by omega) (by simp) ?_
         intro A6 c6 w6 hown6 _ hb6
         rw [Nat.zero_add, List.nil_append] at hown6
         rw [Nat.zero_add]
         have HO6 := Lib.hid hown6
         have HB6 : Hid (Below w5.heap.size w5 w6) := (((Below.refl w5.heap.size w5).alloc (Nat.le_refl _) _).alloc (by simp) _).trans (hb6.mono (by omega))
         have hz56 : w5.heap.size + 1 ≤ w6.heap.size := Nat.le_trans (by simp) hb6.size
         clear hown6 hb6)
      | (at_builtin
         refine wpList_append_row rfl (.tmp 53) (.tmp 55) rfl eb (w5.heap.size + 1) _ N (bv l) rfl (HO6.out.alloc _) _ _ 1 1 (bv [y]) rfl (one_byte w6 _ y rfl rfl) (bv_one _) (by omega) (by omega) (by simp; omega) ?_
         intro A7 c7 w7 hown7 _ hb7
         rw [← bv_append] at hown7
         have HY7 := Lib.hid (Bytes.of_own hown7)
         have HB7 : Hid (Below w5.heap.size w5 w7) := (HB6.out.alloc (by omega) _).trans (hb7.mono (by omega))
         clear hown7 hb7)
      | fail)
    refine (decode_any _ A7 (N + 1) c7 (l ++ [y]) w7 HY7.out (Nat.le_refl _)).mono ?_
    intro e w8 he8
    obtain ⟨v8, he, hti8, hb8⟩ := he8.at_
    have hmore : decI (l ++ [y]) = .error 3 := by rw [HL.out]; exact decI_more HM.out y
    rw [hmore] at he hti8
    obtain ⟨A8, n8, c8, P8, m8, q8, hv, _, _, _⟩ := hti8.agg
    subst hv
    subst he
    rw [show ((err (Except.error 3 : Except Nat It) : Nat) : Int) = 3 from rfl]
    have hb58 : Below w5.heap.size w5 w8 := held_two HB7.out hb8
    have HB8 := Lib.hid (held_two HB5.out hb58)
    have HX8 := Lib.hid (HX5.out.below hb58 HX5.out.lt)
    have HT8 := Lib.hid (HT5.out.below (hb58.mono (by omega)))
    have HU8 := Lib.hid (HU5.out.below (hb58.mono (by omega)))
    have HZ8 := Lib.hid (HZ5.out.below hb58 HZ5.out.lt)
    have hz58 := hb58.size
    clear he8 hti8 hb8 hb58 hmore HX5 HT5 HU5 HZ5 HY5
    generalize gotI (Except.error 3 : Except Nat It) = no2
    have x0 : w8.cell? ⟨Z, 0, none⟩ = some (.int .i64 t.lsn) := HX8.out.cell 0
    have x1 : w8.cell? ⟨Z, 1, none⟩ = some (.slice A1 n1 c1) := HX8.out.cell 1
    have x2 : w8.cell? ⟨Z, 2, none⟩ = some (.slice P1 m1 q1) := HX8.out.cell 2
    have y0 : w8.cell? ⟨w4.heap.size, 0, none⟩ = some (.int .i64 t.lsn) := HZ8.out.cell 0
    have y1 : w8.cell? ⟨w4.heap.size, 1, none⟩ = some (.slice A4 n4 c4) := HZ8.out.cell 1
    have y2 : w8.cell? ⟨w4.heap.size, 2, none⟩ = some (.slice P4 m4 q4) := HZ8.out.cell 2
    have hz18 : Z < w8.heap.size := HX8.out.lt
    have hz48 : w4.heap.size < w8.heap.size := HZ8.out.lt
    go_wp2_with fail
    refine (itsame_any b0 w4.heap.size t _ _ _ (HT8.out.alloc (by omega) _) (HU8.out.alloc (by omega) _) (by simp; omega) (by simp; omega)).mono ?_
    rintro e w9 ⟨rfl, hb9⟩
    have HB9 := Lib.hid (held_two (HB8.out.alloc HB8.out.size _) hb9)
    clear hb9
    go_wp2
    go_ret
    exact ⟨rfl, HB9.out⟩
end Go.Proofs.Ytlkjmdkmcaaihaa.Bt
