/-
  The walk of the statement TxnTurned: it answers true, whatever the input, and writes nothing that was there.
-/
import Derived.Test.YtjicdnknlfpajaaTxnMade
import Derived.Test.YtjicdnknlfpajaaTxnLaws
import Derived.Test.YtjicdnknlfpajaaTxnLaws2
import Derived.Test.YtjicdnknlfpajaaTxnRefDecode
namespace Go.Proofs.Ytjicdnknlfpajaa.Txn
set_option linter.unusedVariables false
set_option maxRecDepth 100000
open Go.RowKit Base FieldMath TxnMath
open Go.Proofs.Ytjicdnknlfpajaa.Field (ret_bool eb Flds one_byte modZ modZ_lt mod_any)
set_option linter.ambiguousOpen false
set_option linter.unusedSimpArgs false

theorem bv_set (l : List UInt8) (i : Nat) (z : UInt8) : (bv l).set i (.int .u8 z.toNat) = bv (l.set i z) := by
  rw [bv, bv, List.map_set]
theorem add_byte (x y : UInt8) : ((x.toNat : Int) + (y.toNat : Int)) % 256 = (((x + y).toNat : Nat) : Int) := by
  rw [UInt8.toNat_add]
  omega
theorem refencode_in (B : Nat) (t : Tx) (v : Value) (w : World) (h : TxIn w B t v) (hB : B ≤ w.heap.size) : Calls Try.prog 15 #[v] w (EncT w t) := by
  obtain ⟨A, n, c, P, m, k, rfl, h1, h2⟩ := h
  exact refencode_any B _ _ _ _ _ _ _ _ _ _ _ w h1 h2 hB
theorem decT_why {l : List UInt8} {k : Nat} (h : decT l = .error k) : k = 2 ∨ k = 3 := by
  unfold decT at h
  split at h
  · rename_i h1
    injection h with h
    subst h
    exact dec_why h1
  · split at h
    · injection h with h; omega
    · cases h

set_option maxHeartbeats 6400000 in
theorem turned_walk (t0 : Tx) (v0 : Value) (at_ : Int) (by_ : UInt8) (xi : Int) (w : World) (h : TxIn w w.heap.size t0 v0) (hok : OkTx t0) (hx : xi = ((by_.toNat : Nat) : Int)) :
    Calls Try.prog 6 #[v0, .int .i64 at_, .int .u8 xi] w fun e w' => e = .returned (.bool true) ∧ Below w.heap.size w w' := by
  subst hx
  obtain ⟨A, n, c, A', n', c', rfl, hin⟩ := h.agg
  have HI := Lib.hid hin
  have HOK := Lib.hid hok
  clear h hin hok
  have HW : Hid (Below w.heap.size w (w.alloc (.cells #[.int .i64 t0.lsn, .int .i64 t0.kind, .slice A n c, .slice A' n' c', .int .i64 t0.mark] 25))) := (Below.refl _ _).alloc (Nat.le_refl _) _
  go_enter Try.func6, Try.ntmps6
  go_wp2_with fail
  refine (one_any w.heap.size t0 _ _ (HI.out.alloc (Nat.le_refl _) _) (by simp) HOK.out).mono ?_
  rintro e w1 ⟨t, v1, rfl, hmay, hti, hb1⟩
  have HM := Lib.hid hmay
  have HB1 := Lib.hid (held_two HW.out hb1)
  have HT1 := Lib.hid hti
  obtain ⟨hs2, hs3⟩ := encZ_size hmay
  clear hmay hti hb1 HI HOK HW
  go_wp2_with fail
  refine (refencode_in w1.heap.size t _ _ HT1.out (Nat.le_refl _)).mono ?_
  intro e w2 he2
  obtain ⟨A2, c2, rfl, ho2, hb2⟩ := encT_val he2 HM.out
  generalize encZ (flds t) = l at ho2 hs2 hs3 ⊢
  have HB2 := Lib.hid (held_two HB1.out hb2)
  obtain ⟨g, rfl⟩ : ∃ g, A2 = some ⟨g, 0, none⟩ := by
    rcases ho2.2 with ⟨_, h⟩ | ⟨g, cap, cur, h, _⟩
    · omega
    · simp only [Value.slice.injEq] at h
      exact ⟨g, h.1⟩
  have HO2 := Lib.hid ho2
  have hz2 := HB2.out.size
  have hz12 : w.heap.size ≤ w1.heap.size := HB1.out.size
  clear he2 ho2 hb2 HT1 HM
  go_wp2_with fail
  refine (mod_any at_ l.length _ (by omega) (by omega)).mono ?_
  rintro e w3 ⟨rfl, rfl⟩
  have hi := modZ_lt at_ (n := l.length) (by omega)
  generalize modZ at_ l.length = i at hi
  have hcell : w2.cell? ⟨g, i, none⟩ = some (.int .u8 (l[i]).toNat) := by
    rw [HO2.out.cellAt i (by omega), bv, List.getElem?_map, List.getElem?_eq_getElem hi]; rfl
  have hfro := HO2.out.frozenAt i
  have hst := HO2.out.stored i (.int .u8 ((l[i] + by_).toNat : Nat))
  rw [bv_set] at hst
  have HA := Lib.hid (add_byte l[i] by_)
  generalize hl1 : l.set i (l[i] + by_) = l1 at hst
  have HST := Lib.hid hst
  have hz9 : l[i].toNat < 256 := l[i].toNat_lt
  have hz8 : by_.toNat < 256 := by_.toNat_lt
  generalize l[i] = z at HA hcell HST hz9
  clear hst hl1
  go_wp2_with fail
  rw [HA.out]
  generalize w2.setCell ⟨g, i, none⟩ (.int .u8 ((z + by_).toNat : Nat)) = w3 at HST
  clear hcell hfro HA
  have HO3 := Lib.hid HST.out.1
  have HB3 : Hid (Below w.heap.size w w3) := HB2.out.grown HST.out.2 HB2.out.size (fun k hk => by injection hk with hk; have := (HO2.out.lt g rfl).1; omega)
  have HY3 : Hid (Bytes w3 w3.heap.size (some ⟨g, 0, none⟩) l.length c2 l1) := Bytes.of_own HO3.out
  clear HST HO3 HO2
  generalize l.length = ln at hs2 hs3 hi HY3 ⊢
  refine (decode_any _ _ _ _ l1 _ HY3.out (Nat.le_refl _)).mono ?_
  intro e w4 he4
  obtain ⟨v4, he, hti4, hb4⟩ := decT_in he4
  obtain ⟨A4, n4, c4, P4, m4, q4, hv, hin4⟩ := hti4.agg
  subst hv
  subst he
  have HB4 := Lib.hid (held_two HB3.out hb4)
  have HY4 := Lib.hid (HY3.out.below hb4)
  have HU4 := Lib.hid hin4
  have hz34 := hb4.size
  have HZ4 : Hid (Blk (w4.alloc (.cells #[.int .i64 (gotX (decT l1)).lsn, .int .i64 (gotX (decT l1)).kind, .slice A4 n4 c4, .slice P4 m4 q4, .int .i64 (gotX (decT l1)).mark] 25)) w4.heap.size 25 #[.int .i64 (gotX (decT l1)).lsn, .int .i64 (gotX (decT l1)).kind, .slice A4 n4 c4, .slice P4 m4 q4, .int .i64 (gotX (decT l1)).mark]) := Blk.new _ _ _
  clear he4 hti4 hin4 hb4
  go_wp2_with fail
  refine (refdecode_any w3.heap.size (some ⟨g, 0, none⟩) ln c2 l1 _ (HY4.out.alloc hz34 _) (by simp; omega)).mono ?_
  intro e w5 he5
  obtain ⟨v5, he, hti5, hb5⟩ := decT_in he5
  obtain ⟨A5, n5, c5, P5, m5, q5, hv, hin5⟩ := hti5.agg
  subst hv
  subst he
  have HB5 := Lib.hid (held_two (HB4.out.alloc HB4.out.size _) hb5)
  have HY5 := Lib.hid ((HY4.out.alloc hz34 _).below (hb5.mono (by simp; omega)))
  have HU5 := Lib.hid ((HU4.out.alloc (Nat.le_refl _) _).below (hb5.mono (by simp)))
  have HV5 := Lib.hid hin5
  have HZ5 := Lib.hid (HZ4.out.below hb5 (by simp))
  have hz45 : w4.heap.size < w5.heap.size := HZ5.out.lt
  have HX5 : Hid (Blk (w5.alloc (.cells #[.int .i64 (gotX (decT l1)).lsn, .int .i64 (gotX (decT l1)).kind, .slice A5 n5 c5, .slice P5 m5 q5, .int .i64 (gotX (decT l1)).mark] 25)) w5.heap.size 25 #[.int .i64 (gotX (decT l1)).lsn, .int .i64 (gotX (decT l1)).kind, .slice A5 n5 c5, .slice P5 m5 q5, .int .i64 (gotX (decT l1)).mark]) := Blk.new _ _ _
  clear he5 hti5 hin5 hb5 HY4 HU4 HZ4
  obtain ⟨er, her⟩ : ∃ er, err (decT l1) = er := ⟨_, rfl⟩
  obtain ⟨tt, htt⟩ : ∃ tt, gotX (decT l1) = tt := ⟨_, rfl⟩
  rw [htt] at HU5 HV5 HZ5 HX5 ⊢
  rw [her]
  have HER := Lib.hid her
  have HTT := Lib.hid htt
  clear her htt
  go_wp2_with fail
  refine (awake_any _).mono ?_
  rintro e w6 ⟨rfl, hb6⟩
  have HB6 := Lib.hid (held_two (HB5.out.alloc HB5.out.size _) hb6)
  have HX6 := Lib.hid (HX5.out.below hb6 (by simp))
  have HZ6 := Lib.hid ((HZ5.out.alloc _).below hb6 (by simp; omega))
  have HY6 := Lib.hid ((HY5.out.alloc (by omega) _).below (hb6.mono (by simp; omega)))
  have HU6 := Lib.hid ((HU5.out.alloc (by omega) _).below (hb6.mono (by simp; omega)))
  have HV6 := Lib.hid ((HV5.out.alloc (Nat.le_refl _) _).below (hb6.mono (by simp)))
  have hz56 : w5.heap.size < w6.heap.size := HX6.out.lt
  clear hb6 HX5 HZ5 HY5 HU5 HV5
  have x0 : w6.cell? ⟨w4.heap.size, 0, none⟩ = some (.int .i64 tt.lsn) := HZ6.out.cell 0
  have x1 : w6.cell? ⟨w4.heap.size, 1, none⟩ = some (.int .i64 tt.kind) := HZ6.out.cell 1
  have x2 : w6.cell? ⟨w4.heap.size, 2, none⟩ = some (.slice A4 n4 c4) := HZ6.out.cell 2
  have x3 : w6.cell? ⟨w4.heap.size, 3, none⟩ = some (.slice P4 m4 q4) := HZ6.out.cell 3
  have x4 : w6.cell? ⟨w4.heap.size, 4, none⟩ = some (.int .i64 tt.mark) := HZ6.out.cell 4
  have y0 : w6.cell? ⟨w5.heap.size, 0, none⟩ = some (.int .i64 tt.lsn) := HX6.out.cell 0
  have y1 : w6.cell? ⟨w5.heap.size, 1, none⟩ = some (.int .i64 tt.kind) := HX6.out.cell 1
  have y2 : w6.cell? ⟨w5.heap.size, 2, none⟩ = some (.slice A5 n5 c5) := HX6.out.cell 2
  have y3 : w6.cell? ⟨w5.heap.size, 3, none⟩ = some (.slice P5 m5 q5) := HX6.out.cell 3
  have y4 : w6.cell? ⟨w5.heap.size, 4, none⟩ = some (.int .i64 tt.mark) := HX6.out.cell 4
  go_wp2_with fail
  refine (txnsame_any w4.heap.size w5.heap.size tt _ _ _ HU6.out HV6.out (by omega) (by omega)).mono ?_
  rintro e w7 ⟨rfl, hb7⟩
  have HB7 := Lib.hid (held_two HB6.out hb7)
  have HZ7 := Lib.hid (HZ6.out.below hb7 HZ6.out.lt)
  have HY7 := Lib.hid (HY6.out.below (hb7.mono (by omega)))
  have HU7 := Lib.hid (HU6.out.below (hb7.mono (by omega)))
  have hz67 := hb7.size
  clear hb7 x0 x1 x2 x3 x4 y0 y1 y2 y3 y4 HX6 HZ6 HY6 HU6 HV6
  have x0 : w7.cell? ⟨w4.heap.size, 0, none⟩ = some (.int .i64 tt.lsn) := HZ7.out.cell 0
  have x1 : w7.cell? ⟨w4.heap.size, 1, none⟩ = some (.int .i64 tt.kind) := HZ7.out.cell 1
  have x2 : w7.cell? ⟨w4.heap.size, 2, none⟩ = some (.slice A4 n4 c4) := HZ7.out.cell 2
  have x3 : w7.cell? ⟨w4.heap.size, 3, none⟩ = some (.slice P4 m4 q4) := HZ7.out.cell 3
  have x4 : w7.cell? ⟨w4.heap.size, 4, none⟩ = some (.int .i64 tt.mark) := HZ7.out.cell 4
  go_wp2_with fail
  refine (encode_in w4.heap.size tt _ _ HU7.out (by omega)).mono ?_
  intro e w8 he8
  obtain ⟨A8, c8, rfl, hy8, hb8⟩ := encT_both he8
  have HB8 := Lib.hid (held_two HB7.out hb8)
  have HY8 := Lib.hid (HY7.out.below (hb8.mono (by omega)))
  have HE8 := Lib.hid hy8
  clear he8 hy8 hb8
  cases hd : decT l1 with
  | error k =>
    have hk := decT_why hd
    obtain rfl : k = er := by have := HER.out; rw [hd] at this; exact this
    have hk1 : ((k : Int) != 0) = true := by simp; omega
    clear hd
    generalize (got (encT tt)).length = N8
    generalize ((err (encT tt) : Nat) : Int) = e8
    go_wp2
    go_ret
    exact ⟨rfl, HB8.out⟩
  | ok t2 =>
    obtain ⟨hm2, he2⟩ := decT_ok hd
    obtain rfl : t2 = tt := by have := HTT.out; rw [hd] at this; exact this
    obtain rfl : 0 = er := by have := HER.out; rw [hd] at this; exact this
    rw [encT_ok hm2, he2] at HE8 ⊢
    rw [show got (.ok l1 : Except Nat (List UInt8)) = l1 from rfl] at HE8 ⊢
    rw [show ((err (Except.ok l1 : Except Nat (List UInt8)) : Nat) : Int) = 0 from rfl]
    clear hd hm2 he2
    generalize l1.length = N8 at HE8 ⊢
    go_wp2_with fail
    refine (Go.Proofs.Ytjicdnknlfpajaa.Help.bytes_same w3.heap.size w8.heap.size _ A8 ln c2 N8 c8 l1 _ HY8.out HE8.out).mono ?_
    rintro e w9 ⟨rfl, rfl⟩
    go_wp2
    go_ret
    exact ⟨rfl, HB8.out⟩
end Go.Proofs.Ytjicdnknlfpajaa.Txn
