/-
  The walk of SignalTexts. No condition.
-/
import Derived.Test.YtffjoacflchomaaDoorSigLaw
import Derived.Test.YtffjoacflchomaaDoorPlayMod
import Derived.BigQuiet
import Derived.BigRegion
namespace Go.Proofs.YtffjoacflchomaaDoor.Sig
set_option linter.unusedVariables false
set_option maxRecDepth 100000
open Go.RowKit Base
open Go.Proofs.YtffjoacflchomaaDoor.Field (modZ modZ_lt mod_any)

theorem says_may {t k : Int} (h : mayB t k = true) : Says (sg (textL t k)) = .tuple #[.agg #[.int .i64 t, .int .i64 k], .bool true] := by
  rw [sg_text h]
  have h := of_decide_eq_true h
  show Value.tuple #[.agg #[.int .i64 (t.toNat : Int), .int .i64 (k.toNat : Int)], .bool true] = _
  rw [Int.toNat_of_nonneg (by omega), Int.toNat_of_nonneg (by omega)]
theorem textL_size (t k : Int) : (⟨(textL t k).toArray⟩ : ByteArray).size ≤ 9223372036854775806 := by
  show (textL t k).length ≤ _
  exact Nat.le_of_lt (show 12 < _ by omega)

set_option maxHeartbeats 1600000 in
theorem texts_walk (a b : Int) (w : World) :
    Calls Tryd.prog 4 #[.int .i64 a, .int .i64 b] w fun e w' => e = .returned (.bool true) ∧ Below w.heap.size w w' := by
  have hm1 := modZ_lt a (n := 10) (by omega)
  have hm2 := modZ_lt b (n := 11) (by omega)
  generalize hq1 : modZ a 10 = m1 at hm1
  generalize hq2 : modZ b 11 = m2 at hm2
  have HQ1 := Lib.hid hq1
  have HQ2 := Lib.hid hq2
  clear hq1 hq2
  go_enter Tryd.func4, Tryd.ntmps4
  go_wp2_with fail
  refine (mod_any _ 10 _ (by omega) (by omega)).mono ?_
  rintro e w2 ⟨rfl, rfl⟩
  rw [HQ1.out]
  go_wp2_with fail
  refine (mod_any _ 11 _ (by omega) (by omega)).mono ?_
  rintro e w2 ⟨rfl, rfl⟩
  rw [HQ2.out]
  go_wp2_with fail
  have hB0 : Hid (Blk (w.alloc (Obj.cells #[.int .i64 a, .int .i64 b, .int .i64 (m1 - 1), .int .i64 (m2 - 1)] 25)) w.heap.size 25 #[.int .i64 a, .int .i64 b, .int .i64 (m1 - 1), .int .i64 (m2 - 1)]) := Blk.new w _ _
  go_loopw [6] (fun i wr => ∃ k : Nat, k ≤ 2 ∧ i = .int .i64 k ∧ Below w.heap.size w wr ∧ Blk wr w.heap.size 25 #[.int .i64 a, .int .i64 b, .int .i64 (m1 - 1), .int .i64 (m2 - 1)]) (fun i _ => 2 - (intOf i).toNat)
  case atStart => exact ⟨0, by omega, rfl, (Below.refl _ _).alloc (Nat.le_refl _) _, hB0.out⟩
  case round =>
    obtain ⟨k, hk, rfl, hbel, hblk⟩ := hrel
    have HB1 := Lib.hid hbel
    have HK1 := Lib.hid hblk
    have hz1 := hbel.size
    have hlt0 := hblk.lt
    clear hbel hblk hB0
    by_cases hlt : k < 2
    · obtain ⟨t, s, q0, q1⟩ : ∃ t s : Int, wr.cell? ⟨w.heap.size, k * 2, none⟩ = some (.int .i64 t) ∧ wr.cell? ⟨w.heap.size, k * 2 + 1, none⟩ = some (.int .i64 s) := by
        obtain rfl | rfl : k = 0 ∨ k = 1 := by omega
        · exact ⟨_, _, HK1.out.cell 0, HK1.out.cell 1⟩
        · exact ⟨_, _, HK1.out.cell 2, HK1.out.cell 3⟩
      go_wp2_with fail
      refine (text_any t s _).mono ?_
      rintro e w1 ⟨rfl, hb⟩
      have r0 : w1.cell? ⟨w.heap.size, k * 2, none⟩ = some (.int .i64 t) := (hb.cell (by exact hlt0)).trans q0
      have r1 : w1.cell? ⟨w.heap.size, k * 2 + 1, none⟩ = some (.int .i64 s) := (hb.cell (by exact hlt0)).trans q1
      have hz2 := hb.size
      have HB2 := Lib.hid (HB1.out.trans (hb.mono hz1))
      have HK2 := Lib.hid (HK1.out.below hb hlt0)
      clear hb q0 q1
      unfold TextAns
      cases hm : mayB t s
      · rw [if_neg (by decide)]
        have HM := Lib.hid hm
        clear hm
        go_wp2_with fail
        refine (reftext_any t s _).mono ?_
        rintro e w2 ⟨rfl, hb⟩
        rw [TextAns, HM.out, if_neg (by decide)]
        have hlt1 := HK2.out.lt
        have q0 : w2.cell? ⟨w.heap.size, k * 2, none⟩ = some (.int .i64 t) := (hb.cell (by exact hlt1)).trans r0
        have q1 : w2.cell? ⟨w.heap.size, k * 2 + 1, none⟩ = some (.int .i64 s) := (hb.cell (by exact hlt1)).trans r1
        have hz3 := hb.size
        have HB3 := Lib.hid (HB2.out.trans (hb.mono (by omega)))
        have HK3 := Lib.hid (HK2.out.below hb hlt1)
        clear hb r0 r1
        go_wp2_with fail
        refine (parse_any ⟨#[]⟩ _ (by decide)).mono ?_
        rintro e w3 ⟨rfl, hb⟩
        rw [show Says (sg (⟨#[]⟩ : ByteArray).data.toList) = .tuple #[.agg #[.int .i64 0, .int .i64 0], .bool false] from rfl]
        have hlt2 := HK3.out.lt
        have r0 : w3.cell? ⟨w.heap.size, k * 2, none⟩ = some (.int .i64 t) := (hb.cell (by exact hlt2)).trans q0
        have r1 : w3.cell? ⟨w.heap.size, k * 2 + 1, none⟩ = some (.int .i64 s) := (hb.cell (by exact hlt2)).trans q1
        have hz4 := hb.size
        have HB4 := Lib.hid (HB3.out.trans (hb.mono (by omega)))
        have HK4 := Lib.hid (HK3.out.below hb hlt2)
        have hlt3 := HK4.out.lt
        clear hb q0 q1
        go_wp2_with fail
        go_quiet (fail)
        go_wp2
        exact ⟨⟨k + 1, by omega, by go_num, below_drewN (HB4.out.alloc HB4.out.size _) _, (HK4.out.alloc _).drewN _⟩, by simp [intOf]; omega⟩
      · rw [if_pos rfl]
        have HM := Lib.hid hm
        clear hm
        generalize hx : (⟨(textL t s).toArray⟩ : ByteArray) = x
        go_wp2_with fail
        refine (reftext_any t s _).mono ?_
        rintro e w2 ⟨rfl, hb⟩
        rw [TextAns, HM.out, if_pos rfl, hx]
        have hlt1 := HK2.out.lt
        have q0 : w2.cell? ⟨w.heap.size, k * 2, none⟩ = some (.int .i64 t) := (hb.cell (by exact hlt1)).trans r0
        have q1 : w2.cell? ⟨w.heap.size, k * 2 + 1, none⟩ = some (.int .i64 s) := (hb.cell (by exact hlt1)).trans r1
        have hz3 := hb.size
        have HB3 := Lib.hid (HB2.out.trans (hb.mono (by omega)))
        have HK3 := Lib.hid (HK2.out.below hb hlt1)
        clear hb r0 r1
        go_wp2_with fail
        refine (parse_any x _ (by subst hx; exact textL_size t s)).mono ?_
        rintro e w3 ⟨rfl, hb⟩
        rw [show Says (sg x.data.toList) = .tuple #[.agg #[.int .i64 t, .int .i64 s], .bool true] by subst hx; exact says_may HM.out]
        have hlt2 := HK3.out.lt
        have r0 : w3.cell? ⟨w.heap.size, k * 2, none⟩ = some (.int .i64 t) := (hb.cell (by exact hlt2)).trans q0
        have r1 : w3.cell? ⟨w.heap.size, k * 2 + 1, none⟩ = some (.int .i64 s) := (hb.cell (by exact hlt2)).trans q1
        have hz4 := hb.size
        have HB4 := Lib.hid (HB3.out.trans (hb.mono (by omega)))
        have HK4 := Lib.hid (HK3.out.below hb hlt2)
        have hlt3 := HK4.out.lt
        clear hb q0 q1
        go_wp2_with fail
        go_quiet (fail)
        go_wp2
        exact ⟨⟨k + 1, by omega, by go_num, below_drewN (HB4.out.alloc HB4.out.size _) _, (HK4.out.alloc _).drewN _⟩, by simp [intOf]; omega⟩
    · obtain rfl : k = 2 := by omega
      go_wp2_with fail
      refine (awake_any wr).mono ?_
      rintro e w1 ⟨rfl, hb⟩
      have HB2 := Lib.hid (HB1.out.trans (hb.mono hz1))
      clear hb
      go_wp2
      go_ret
      exact ⟨rfl, HB2.out⟩
end Go.Proofs.YtffjoacflchomaaDoor.Sig
