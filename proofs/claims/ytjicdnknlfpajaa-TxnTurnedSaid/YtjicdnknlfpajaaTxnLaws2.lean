/-
  The walk of the statement TxnBack: it answers true, whatever the input, and writes nothing that was there.
-/
import Derived.Test.YtjicdnknlfpajaaTxnMade
namespace Go.Proofs.Ytjicdnknlfpajaa.Txn
set_option linter.unusedVariables false
set_option maxRecDepth 100000
open Go.RowKit Base FieldMath TxnMath
open Go.Proofs.Ytjicdnknlfpajaa.Field (ret_bool eb Flds one_byte)
set_option linter.ambiguousOpen false
set_option linter.unusedSimpArgs false

theorem encZ_size {t : Tx} (h : t.may = true) : 2 ≤ (encZ (flds t)).length ∧ (encZ (flds t)).length ≤ 1000000 := by
  have hm := may_of h
  have h1 := hm.chs
  have h2 := hm.sigs
  have hr := flds_right hm
  have hl : (flds t).length ≤ 71 := by rw [flds_length]; omega
  unfold encZ
  rw [List.length_append, big_length]
  have : ((flds t).flatMap encF).length ≤ 4100 * (flds t).length := by
    generalize flds t = fs at hr
    clear hl
    induction fs with
    | nil => exact Nat.le_refl _
    | cons f r ih =>
      rw [List.flatMap_cons, List.length_append, List.length_cons]
      have h1 := ih fun g hg => hr g (List.mem_cons_of_mem _ hg)
      have h2 : (encF f).length ≤ 4100 := by
        have hsz : f.s.size ≤ 4096 := by rcases right_cases (hr f List.mem_cons_self).1 with ⟨_, h⟩ | ⟨_, _, h⟩ <;> omega
        unfold encF
        split
        · rw [List.length_cons, big_length]; omega
        · rw [List.length_cons, List.length_append, big_length, size_list]; omega
      omega
  omega

set_option maxHeartbeats 6400000 in
theorem back_walk (t0 : Tx) (v0 : Value) (x : UInt8) (xi : Int) (w : World) (h : TxIn w w.heap.size t0 v0) (hok : OkTx t0) (hx : xi = ((x.toNat : Nat) : Int)) :
    Calls Try.prog 4 #[v0, .int .u8 xi] w fun e w' => e = .returned (.bool true) ∧ Below w.heap.size w w' := by
  subst hx
  obtain ⟨A, n, c, A', n', c', rfl, hin⟩ := h.agg
  have HI := Lib.hid hin
  have HOK := Lib.hid hok
  clear h hin hok
  have HW : Hid (Below w.heap.size w (w.alloc (.cells #[.int .i64 t0.lsn, .int .i64 t0.kind, .slice A n c, .slice A' n' c', .int .i64 t0.mark] 25))) := (Below.refl _ _).alloc (Nat.le_refl _) _
  go_enter Try.func4, Try.ntmps4
  go_wp2_with fail
  refine (one_any w.heap.size t0 _ _ (HI.out.alloc (Nat.le_refl _) _) (by simp) HOK.out).mono ?_
  rintro e w1 ⟨t, v1, rfl, hmay, hti, hb1⟩
  obtain ⟨A1, n1, c1, P1, m1, q1, rfl, hin1⟩ := hti.agg
  have HM := Lib.hid hmay
  have HB1 := Lib.hid (held_two HW.out hb1)
  have HT1 := Lib.hid hin1
  have HX1 : Hid (Blk (w1.alloc (.cells #[.int .i64 t.lsn, .int .i64 t.kind, .slice A1 n1 c1, .slice P1 m1 q1, .int .i64 t.mark] 25)) w1.heap.size 25 #[.int .i64 t.lsn, .int .i64 t.kind, .slice A1 n1 c1, .slice P1 m1 q1, .int .i64 t.mark]) := Blk.new _ _ _
  obtain ⟨hs2, hs3⟩ := encZ_size hmay
  clear hmay hti hin1 hb1 HI HOK HW
  go_wp2_with fail
  refine (encode_in w1.heap.size t _ _ (HT1.out.alloc (Nat.le_refl _) _) (by simp)).mono ?_
  intro e w2 he2
  obtain ⟨A2, c2, rfl, ho2, hb2⟩ := encT_val he2 HM.out
  obtain ⟨l, hl⟩ : ∃ l, l = encZ (flds t) := ⟨_, rfl⟩
  rw [← hl] at ho2 hs2 hs3 ⊢
  have HL := Lib.hid hl
  obtain ⟨N, hN⟩ : ∃ N, l.length = N := ⟨_, rfl⟩
  rw [hN] at ho2 hs2 hs3 ⊢
  have HN := Lib.hid hN
  have HB2 := Lib.hid (held_two (HB1.out.alloc HB1.out.size _) hb2)
  have HX2 := Lib.hid (HX1.out.below hb2 (by simp))
  have HT2 := Lib.hid ((HT1.out.alloc (Nat.le_refl _) _).below (hb2.mono (by simp)))
  have HY2 := Lib.hid (Bytes.of_own ho2)
  have hz12 : w1.heap.size < w2.heap.size := HX2.out.lt
  have hcap := (Bytes.of_own ho2).le
  clear he2 ho2 hb2 hl hN HX1 HT1
  go_wp2_with fail
  refine (awake_any _).mono ?_
  rintro e w3 ⟨rfl, hb3⟩
  have HB3 := Lib.hid (held_two HB2.out hb3)
  have HX3 := Lib.hid (HX2.out.below hb3 HX2.out.lt)
  have HT3 := Lib.hid (HT2.out.below (hb3.mono (Nat.le_of_lt hz12)))
  have HY3 := Lib.hid (HY2.out.below hb3)
  have hz23 := hb3.size
  clear hb3 HX2 HT2 HY2
  have hN0 : ((N : Int) == 0) = false := by simp; omega
  have hN1 : (N == 0) = false := by simp; omega
  go_wp2_with fail
  refine (decode_any w2.heap.size A2 N c2 l w3 HY3.out hz23).mono ?_
  intro e w4 he4
  obtain ⟨v4, he, hti4, hb4⟩ := decT_in he4
  rw [HL.out, decT_enc HM.out] at he hti4
  obtain ⟨A4, n4, c4, P4, m4, q4, hv, hin4⟩ := hti4.agg
  subst hv
  subst he
  rw [show gotX (.ok t : Except Nat Tx) = t from rfl, show ((err (Except.ok t : Except Nat Tx) : Nat) : Int) = 0 from rfl]
  rw [show gotX (.ok t : Except Nat Tx) = t from rfl] at hin4
  have HB4 := Lib.hid (held_two HB3.out hb4)
  have HX4 := Lib.hid (HX3.out.below hb4 HX3.out.lt)
  have HT4 := Lib.hid (HT3.out.below (hb4.mono (by omega)))
  have HY4 := Lib.hid (HY3.out.below (hb4.mono hz23))
  have HU4 := Lib.hid hin4
  have HZ4 : Hid (Blk (w4.alloc (.cells #[.int .i64 t.lsn, .int .i64 t.kind, .slice A4 n4 c4, .slice P4 m4 q4, .int .i64 t.mark] 25)) w4.heap.size 25 #[.int .i64 t.lsn, .int .i64 t.kind, .slice A4 n4 c4, .slice P4 m4 q4, .int .i64 t.mark]) := Blk.new _ _ _
  have hz34 := hb4.size
  clear he4 hti4 hin4 hb4 HX3 HT3 HY3
  have hwN : IntKind.i64.wrap ((N : Int) - 1) = (((N - 1 : Nat)) : Int) := by rw [IntWalk.i64_in _ (by omega)]; omega
  have hN2 : (N : Int) - 1 = (((N - 1 : Nat)) : Int) := by omega
  go_wp2_with fail
  refine (decode_any w2.heap.size A2 (N - 1) c2 (l.take (N - 1)) _ ((HY4.out.front (by omega)).alloc (by omega) _) (by simp; omega)).mono ?_
  intro e w5 he5
  obtain ⟨v5, he, hti5, hb5⟩ := decT_in he5
  have hcut : decT (l.take (N - 1)) = .error 2 := by rw [HL.out]; exact decT_cut HM.out (by rw [← HL.out, HN.out]; omega)
  rw [hcut] at he hti5
  obtain ⟨A5, n5, c5, P5, m5, q5, hv, _⟩ := hti5.agg
  subst hv
  subst he
  rw [show ((err (Except.error 2 : Except Nat Tx) : Nat) : Int) = 2 from rfl]
  have HB5 := Lib.hid (held_two (HB4.out.alloc HB4.out.size _) hb5)
  have HX5 := Lib.hid ((HX4.out.alloc _).below hb5 (by simp; omega))
  have HT5 := Lib.hid ((HT4.out.alloc (by omega) _).below (hb5.mono (by simp; omega)))
  have HY5 := Lib.hid ((HY4.out.alloc (by omega) _).below (hb5.mono (by simp; omega)))
  have HU5 := Lib.hid ((HU4.out.alloc (Nat.le_refl _) _).below (hb5.mono (by simp)))
  have HZ5 := Lib.hid (HZ4.out.below hb5 (by simp))
  have hz45 : w4.heap.size < w5.heap.size := HZ5.out.lt
  clear he5 hti5 hb5 HX4 HT4 HY4 HU4 HZ4 hcut hwN hN2
  generalize gotX (Except.error 2 : Except Nat Tx) = no
  go_wp2_with (first
    | (at_builtin
       refine wpList_append_row rfl (.tmp 47) (.tmp 48) rfl eb (w5.heap.size + 1) _ 0 [] rfl (own_empty _ _ _ _ (by simp) (by simp)) w2.heap.size A2 N c2 (bv l) rfl ((HY5.out.alloc (by omega) _).alloc (by simp; omega) _) (bv_one _) (by omega) (by omega) (by simp) ?_
       intro A6 c6 w6 hown6 _ hb6
       rw [Nat.zero_add, List.nil_append] at hown6
       rw [Nat.zero_add]
       have HO6 := Lib.hid hown6
       have HB6 : Hid (Below w5.heap.size w5 w6) := (((Below.refl w5.heap.size w5).alloc (Nat.le_refl _) _).alloc (by simp) _).trans (hb6.mono (by omega))
       have hz56 : w5.heap.size + 1 ≤ w6.heap.size := Nat.le_trans (by simp) hb6.size
       clear hown6 hb6)
    | (at_builtin
       refine wpList_append_row rfl (.tmp 49) (.tmp 51) rfl eb (w5.heap.size + 1) _ N (bv l) rfl (HO6.out.alloc _) _ _ 1 1 (bv [x]) rfl (one_byte w6 _ x rfl rfl) (bv_one _) (by omega) (by omega) (by simp; omega) ?_
       intro A7 c7 w7 hown7 _ hb7
       rw [← bv_append] at hown7
       have HY7 := Lib.hid (Bytes.of_own hown7)
       have HB7 : Hid (Below w5.heap.size w5 w7) := (HB6.out.alloc (by omega) _).trans (hb7.mono (by omega))
       clear hown7 hb7)
    | fail)
  refine (decode_any _ A7 (N + 1) c7 (l ++ [x]) w7 HY7.out (Nat.le_refl _)).mono ?_
  intro e w8 he8
  obtain ⟨v8, he, hti8, hb8⟩ := decT_in he8
  have hmore : decT (l ++ [x]) = .error 3 := by rw [HL.out]; exact decT_more HM.out x
  rw [hmore] at he hti8
  obtain ⟨A8, n8, c8, P8, m8, q8, hv, _⟩ := hti8.agg
  subst hv
  subst he
  rw [show ((err (Except.error 3 : Except Nat Tx) : Nat) : Int) = 3 from rfl]
  have hb58 : Below w5.heap.size w5 w8 := held_two HB7.out hb8
  have HB8 := Lib.hid (held_two HB5.out hb58)
  have HX8 := Lib.hid (HX5.out.below hb58 HX5.out.lt)
  have HT8 := Lib.hid (HT5.out.below (hb58.mono (by omega)))
  have HU8 := Lib.hid (HU5.out.below (hb58.mono (by omega)))
  have HZ8 := Lib.hid (HZ5.out.below hb58 HZ5.out.lt)
  have hz58 := hb58.size
  clear he8 hti8 hb8 hb58 hmore HX5 HT5 HU5 HZ5 HY5
  generalize gotX (Except.error 3 : Except Nat Tx) = no2
  have x0 : w8.cell? ⟨w1.heap.size, 0, none⟩ = some (.int .i64 t.lsn) := HX8.out.cell 0
  have x1 : w8.cell? ⟨w1.heap.size, 1, none⟩ = some (.int .i64 t.kind) := HX8.out.cell 1
  have x2 : w8.cell? ⟨w1.heap.size, 2, none⟩ = some (.slice A1 n1 c1) := HX8.out.cell 2
  have x3 : w8.cell? ⟨w1.heap.size, 3, none⟩ = some (.slice P1 m1 q1) := HX8.out.cell 3
  have x4 : w8.cell? ⟨w1.heap.size, 4, none⟩ = some (.int .i64 t.mark) := HX8.out.cell 4
  have y0 : w8.cell? ⟨w4.heap.size, 0, none⟩ = some (.int .i64 t.lsn) := HZ8.out.cell 0
  have y1 : w8.cell? ⟨w4.heap.size, 1, none⟩ = some (.int .i64 t.kind) := HZ8.out.cell 1
  have y2 : w8.cell? ⟨w4.heap.size, 2, none⟩ = some (.slice A4 n4 c4) := HZ8.out.cell 2
  have y3 : w8.cell? ⟨w4.heap.size, 3, none⟩ = some (.slice P4 m4 q4) := HZ8.out.cell 3
  have y4 : w8.cell? ⟨w4.heap.size, 4, none⟩ = some (.int .i64 t.mark) := HZ8.out.cell 4
  have hz18 : w1.heap.size < w8.heap.size := HX8.out.lt
  have hz48 : w4.heap.size < w8.heap.size := HZ8.out.lt
  go_wp2_with fail
  refine (txnsame_any w1.heap.size w4.heap.size t _ _ _ (HT8.out.alloc (by omega) _) (HU8.out.alloc (by omega) _) (by simp; omega) (by simp; omega)).mono ?_
  rintro e w9 ⟨rfl, hb9⟩
  have HB9 := Lib.hid (held_two (HB8.out.alloc HB8.out.size _) hb9)
  clear hb9
  go_wp2
  go_ret
  exact ⟨rfl, HB9.out⟩
end Go.Proofs.Ytjicdnknlfpajaa.Txn
