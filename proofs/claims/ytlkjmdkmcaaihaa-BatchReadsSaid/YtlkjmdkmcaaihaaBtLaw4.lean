/-
  The walk of the statement BatchReads: it answers true, whatever the input, and writes nothing that was there.
-/
import Derived.Test.YtlkjmdkmcaaihaaBtRefHelp
import Derived.Test.YtlkjmdkmcaaihaaRbDecode
import Derived.Test.YtlkjmdkmcaaihaaBtLaw1
import Derived.Test.YtlkjmdkmcaaihaaHelpBytes
namespace Go.Proofs.Ytlkjmdkmcaaihaa.Bt
set_option linter.unusedVariables false
set_option maxRecDepth 100000
open Go.RowKit Base FieldMath TxnMath BatchMath
open GuardMath (Gp noGp)
open Gd (Gps ov ov_append ov_one oval oel oone)
open Go.Proofs.Ytlkjmdkmcaaihaa.Field (ret_bool eb Flds one_byte modZ modZ_lt mod_any)
open Help (bytes_same)
set_option linter.ambiguousOpen false
set_option linter.unusedSimpArgs false

theorem got_len {fs : List Fld} : (got (enc fs)).length ≤ 2 + 4100 * fs.length := by
  unfold enc
  split
  · exact Nat.zero_le _
  · rename_i h
    have hall : ∀ f ∈ fs, f.right = true := by
      intro f hf
      have h2 : fs.all Fld.right = true := by
        cases h3 : fs.all Fld.right with
        | true => rfl
        | false => exact absurd (.inr h3) h
      exact List.all_eq_true.1 h2 f hf
    show (encZ fs).length ≤ _
    unfold encZ
    rw [List.length_append, big_length]
    clear h
    have : (fs.flatMap encF).length ≤ 4100 * fs.length := by
      induction fs with
      | nil => exact Nat.le_refl _
      | cons f r ih =>
        rw [List.flatMap_cons, List.length_append, List.length_cons]
        have h1 := ih fun g hg => hall g (List.mem_cons_of_mem _ hg)
        have h2 : (encF f).length ≤ 4100 := by
          have h3 := Field.right_size (hall f List.mem_cons_self)
          rw [Field.fsize_enc]
          unfold Field.fsize
          split <;> omega
        omega
    omega
theorem bv_set (l : List UInt8) (i : Nat) (z : UInt8) : (bv l).set i (.int .u8 z.toNat) = bv (l.set i z) := by
  unfold bv
  rw [List.map_set]
theorem add_byte (x y : UInt8) : ((x.toNat : Int) + (y.toNat : Int)) % 256 = (((x + y).toNat : Nat) : Int) := by
  rw [UInt8.toNat_add]
  omega
/-- the three rows of bytes that the statement goes through -/
def Trip (w : World) (B g : Nat) (A1 : Option Addr) (n1 c1 : Nat) (l1 : List UInt8) (A2 : Option Addr) (n2 c2 : Nat) (l2 : List UInt8) (A3 : Option Addr) (n3 c3 : Nat) (l3 : List UInt8) (wr : World) : Prop :=
  Blk wr g 35 #[.slice A1 n1 c1, .slice A2 n2 c2, .slice A3 n3 c3] ∧ Bytes wr B A1 n1 c1 l1 ∧ Bytes wr B A2 n2 c2 l2 ∧ Bytes wr B A3 n3 c3 l3 ∧ B ≤ g ∧ Below w.heap.size w wr
def TripRel (w : World) (g : Nat) (A1 : Option Addr) (n1 c1 : Nat) (l1 : List UInt8) (A2 : Option Addr) (n2 c2 : Nat) (l2 : List UInt8) (A3 : Option Addr) (n3 c3 : Nat) (l3 : List UInt8) (i : Value) (wr : World) : Prop := (∃ j : Nat, j ≤ 3 ∧ i = .int .i64 j) ∧ Trip w g g A1 n1 c1 l1 A2 n2 c2 l2 A3 n3 c3 l3 wr
theorem Trip.new {w wr w1 : World} {B g : Nat} {A1 A2 A3 : Option Addr} {n1 n2 n3 c1 c2 c3 : Nat} {l1 l2 l3 : List UInt8} (h : Trip w B g A1 n1 c1 l1 A2 n2 c2 l2 A3 n3 c3 l3 wr) (hb : Below wr.heap.size wr w1) : Trip w B g A1 n1 c1 l1 A2 n2 c2 l2 A3 n3 c3 l3 w1 := by
  have hlt := h.1.lt
  have hB := h.2.2.2.2.1
  exact ⟨h.1.below hb h.1.lt, h.2.1.below (hb.mono (by omega)), h.2.2.1.below (hb.mono (by omega)), h.2.2.2.1.below (hb.mono (by omega)), hB, held_two h.2.2.2.2.2 hb⟩
theorem Trip.at_ {w wr : World} {B g : Nat} {A1 A2 A3 : Option Addr} {n1 n2 n3 c1 c2 c3 : Nat} {l1 l2 l3 : List UInt8} (h : Trip w B g A1 n1 c1 l1 A2 n2 c2 l2 A3 n3 c3 l3 wr) (h1 : n1 ≤ 140737488355328) (h2 : n2 ≤ 140737488355328) (h3 : n3 ≤ 140737488355328) (j : Nat) (hj : j < 3) :
    ∃ A0 n0 c0 l0, wr.cell? ⟨g, j, none⟩ = some (.slice A0 n0 c0) ∧ Bytes wr B A0 n0 c0 l0 ∧ n0 ≤ 140737488355328 := by
  match j, hj with
  | 0, _ => exact ⟨A1, n1, c1, l1, h.1.cell 0, h.2.1, h1⟩
  | 1, _ => exact ⟨A2, n2, c2, l2, h.1.cell 1, h.2.2.1, h2⟩
  | 2, _ => exact ⟨A3, n3, c3, l3, h.1.cell 2, h.2.2.2.1, h3⟩
theorem decI_why {l : List UInt8} : err (decI l) = 0 ∨ err (decI l) = 2 ∨ err (decI l) = 3 := by
  unfold decI
  cases h : dec l with
  | error k =>
    have := Txn.dec_why h
    show k = 0 ∨ k = 2 ∨ k = 3
    omega
  | ok fs =>
    dsimp only
    split
    · exact .inr (.inr rfl)
    · exact .inl rfl
theorem decI_fine {l : List UInt8} (h : err (decI l) = 0) : ∃ x, decI l = .ok x ∧ may x = true ∧ encZ (ifl x) = l := by
  cases hd : decI l with
  | error k =>
    rw [hd] at h
    have h2 : k = 0 := h
    exfalso
    unfold decI at hd
    cases hdd : dec l with
    | error j =>
      rw [hdd] at hd
      have := Txn.dec_why hdd
      injection hd with hd
      omega
    | ok fs =>
      rw [hdd] at hd
      dsimp only at hd
      split at hd
      · injection hd with hd; omega
      · cases hd
  | ok x =>
    obtain ⟨h1, h2⟩ := decI_ok hd
    exact ⟨x, rfl, h1, h2⟩
set_option maxHeartbeats 12800000 in
theorem reads_walk (A : Option Addr) (n c : Nat) (l : List UInt8) (A' : Option Addr) (n' c' : Nat) (fs : List Fld) (x : It) (v : Value) (at_ : Int) (by_ : UInt8) (xi : Int) (w : World) (h1 : Bytes w w.heap.size A n c l) (hn : n ≤ 140737488355328) (h2 : Flds w w.heap.size A' n' c' fs) (h : ItIn w w.heap.size x v) (hok : ∀ o ∈ x.ops, o.val.size ≤ 9223372036854775807) (hx : xi = ((by_.toNat : Nat) : Int)) :
    Calls Try.prog 5 #[.slice A n c, .slice A' n' c', v, .int .i64 at_, .int .u8 xi] w fun e w' => e = .returned (.bool true) ∧ Below w.heap.size w w' := by
  subst hx
  obtain ⟨XA, xn, xc, XP, xm, xq, rfl, hin, _, _⟩ := h.agg
  have HR := Lib.hid h1
  have HF := Lib.hid h2
  have HL := Lib.hid h2.len
  have HI := Lib.hid hin
  have HOK := Lib.hid hok
  have HXB : Hid (Blk (w.alloc (.cells #[.int .i64 x.lsn, .slice XA xn xc, .slice XP xm xq] 25)) w.heap.size 25 #[.int .i64 x.lsn, .slice XA xn xc, .slice XP xm xq]) := Blk.new _ _ _
  have HW : Hid (Below w.heap.size w (w.alloc (.cells #[.int .i64 x.lsn, .slice XA xn xc, .slice XP xm xq] 25))) := (Below.refl _ _).alloc (Nat.le_refl _) _
  clear h1 h2 h hin hok
  by_cases hbig : 300 < n'
  · go_enter Try.func5, Try.ntmps5
    go_wp2_with fail
    refine (awake_any _).mono ?_
    rintro e w2 ⟨rfl, hb2⟩
    have HB2 := Lib.hid (held_two HW.out hb2)
    clear hb2
    go_wp2
    go_ret
    exact ⟨rfl, HB2.out⟩
  go_enter Try.func5, Try.ntmps5
  go_wp2_with fail
  refine (Field.refencode_any w.heap.size A' n' c' fs _ (HF.out.below HW.out) HW.out.size).mono ?_
  rintro e w1 ⟨A1, n1, c1, rfl, ho1, hb1⟩
  have hn1 : n1 ≤ 140737488355328 := by
    have h := ho1.1
    have h3 := got_len (fs := fs)
    rw [bv_length] at h
    have := HL.out
    omega
  have HY1 := Lib.hid (Bytes.of_own ho1)
  have HB1 := Lib.hid (held_two HW.out hb1)
  have HX1 := Lib.hid (HXB.out.below hb1 HXB.out.lt)
  have x0 : w1.cell? ⟨w.heap.size, 0, none⟩ = some (.int .i64 x.lsn) := HX1.out.cell 0
  have x1 : w1.cell? ⟨w.heap.size, 1, none⟩ = some (.slice XA xn xc) := HX1.out.cell 1
  have x2 : w1.cell? ⟨w.heap.size, 2, none⟩ = some (.slice XP xm xq) := HX1.out.cell 2
  clear ho1 hb1 HXB HW
  generalize ((err (enc fs) : Nat) : Int) = q
  generalize got (enc fs) = l1 at HY1
  go_wp2_with fail
  refine (some_any w.heap.size 3 (by omega) x _ w1 (HI.out.below HB1.out) HB1.out.size HOK.out).mono ?_
  rintro e w2 ⟨t, T1, tn, tc, U1, un, uc, rfl, hmade, hot, hb2⟩
  have hmay := hmade.may (by omega)
  have HM := Lib.hid hmay
  have HT2 := Lib.hid hot.in_
  have HB2 := Lib.hid (held_two HB1.out hb2)
  have HY2 := Lib.hid (HY1.out.below hb2)
  have hz12 := hb2.size
  obtain ⟨hs2, hs3⟩ := encZ_size hmay
  clear hmade hmay hot hb2 x0 x1 x2 HX1
  go_wp2_with fail
  refine (refencode_in w2.heap.size t _ _ HT2.out (Nat.le_refl _)).mono ?_
  intro e w3 he3
  obtain ⟨A2, c2, rfl, ho2, hb3⟩ := encI_val he3 HM.out
  generalize encZ (ifl t) = l2 at ho2 hs2 hs3 ⊢
  have HB3 := Lib.hid (held_two HB2.out hb3)
  have HY3 := Lib.hid (HY2.out.below (hb3.mono hz12))
  obtain ⟨g, rfl⟩ : ∃ g, A2 = some ⟨g, 0, none⟩ := by
    rcases ho2.2 with ⟨_, h⟩ | ⟨g, cap, cur, h, _⟩
    · omega
    · simp only [Value.slice.injEq] at h
      exact ⟨g, h.1⟩
  have HO2 := Lib.hid ho2
  have hz23 := hb3.size
  have hzw1 := HB1.out.size
  clear he3 ho2 hb3 HT2 HM HY1 HY2
  have hl0 : ((l2.length : Int) == 0) = false := by rw [beq_eq_false_iff_ne]; omega
  go_wp2_with fail
  refine (mod_any at_ l2.length _ (by omega) (by omega)).mono ?_
  rintro e w4 ⟨rfl, rfl⟩
  have hi := modZ_lt at_ (n := l2.length) (by omega)
  generalize modZ at_ l2.length = i at hi
  have hcell : w3.cell? ⟨g, i, none⟩ = some (.int .u8 (l2[i]).toNat) := by
    rw [HO2.out.cellAt i (by omega), bv, List.getElem?_map, List.getElem?_eq_getElem hi]; rfl
  have hfro := HO2.out.frozenAt i
  have hst := HO2.out.stored i (.int .u8 ((l2[i] + by_).toNat : Nat))
  rw [bv_set] at hst
  have HA := Lib.hid (add_byte l2[i] by_)
  generalize hl1 : l2.set i (l2[i] + by_) = l3 at hst
  have HST := Lib.hid hst
  have hz9 : l2[i].toNat < 256 := l2[i].toNat_lt
  have hz8 : by_.toNat < 256 := by_.toNat_lt
  generalize l2[i] = z at HA hcell HST hz9
  clear hst hl1
  go_upto_region 8 with fail
  rw [HA.out]
  have hgb := (HO2.out.lt g rfl).1
  have HY5 : Hid (Bytes (w3.setCell ⟨g, i, none⟩ (.int .u8 ((z + by_).toNat : Nat))) w1.heap.size A1 n1 c1 l1) := HY3.out.setCell (by show w1.heap.size ≤ g; omega) _
  have HB5 : Hid (Below w.heap.size w (w3.setCell ⟨g, i, none⟩ (.int .u8 ((z + by_).toNat : Nat)))) := HB3.out.setCell (by show w.heap.size ≤ g; omega) _
  generalize w3.setCell ⟨g, i, none⟩ (.int .u8 ((z + by_).toNat : Nat)) = V at HST HY5 HB5 ⊢
  generalize (((z + by_).toNat : Nat) : Int) = zb
  clear hcell hfro HA HY3 HB3
  have HY6 : Hid (Bytes V V.heap.size (some ⟨g, 0, none⟩) l2.length c2 l3) := Bytes.of_own HST.out.1
  have hzV : w1.heap.size ≤ V.heap.size := Nat.le_trans (show w1.heap.size ≤ w3.heap.size by omega) HST.out.2.size
  clear HST HO2 hi
  generalize l2.length = ln at hs2 hs3 HY6 hl0 ⊢
  have HP : Hid (Trip w V.heap.size V.heap.size A n c l A1 n1 c1 l1 (some ⟨g, 0, none⟩) ln c2 l3 (V.alloc (.cells #[.slice A n c, .slice A1 n1 c1, .slice (some ⟨g, 0, none⟩) ln c2] 35))) :=
    ⟨Blk.new _ _ _, ((HR.out.below HB5.out).more HB5.out.size).alloc (Nat.le_refl _) _, (HY5.out.more hzV).alloc (Nat.le_refl _) _, HY6.out.alloc (Nat.le_refl _) _, Nat.le_refl _, HB5.out.alloc HB5.out.size _⟩
  go_wp2
  generalize (V.alloc (.cells #[.slice A n c, .slice A1 n1 c1, .slice (some ⟨g, 0, none⟩) ln c2] 35)) = V2 at HP ⊢
  generalize V.heap.size = G at HP ⊢
  go_loopw [55] (fun i wr => TripRel w G A n c l A1 n1 c1 l1 (some ⟨g, 0, none⟩) ln c2 l3 i wr) (fun i _ => 3 - (intOf i).toNat)
  case atStart => exact ⟨⟨0, by omega, rfl⟩, HP.out⟩
  case round =>
    obtain ⟨⟨j, hj, rfl⟩, hp⟩ := hrel
    have HQ := Lib.hid hp
    clear hp HP HY5 HY6 HB5
    by_cases hlt : j < 3
    · obtain ⟨A0, n0, c0, l0, k0, hy0, hn0⟩ := HQ.out.at_ hn hn1 (by omega) j hlt
      have HY0 := Lib.hid hy0
      have hBg := HQ.out.1.lt
      have hwr : w.heap.size ≤ wr.heap.size := HQ.out.2.2.2.2.2.size
      have lj : (j : Int) < 3 := by omega
      clear hy0
      go_wp2_with (first
        | (at_builtin
           refine wpList_append_row rfl (.tmp 60) (.tmp 61) rfl eb wr.heap.size _ 0 [] rfl (own_empty _ _ _ _ rfl (Nat.le_refl _)) G A0 n0 c0 (bv l0) rfl (HY0.out.alloc (by omega) _) (bv_one _) (by omega) (by omega) (by simp) ?_
           intro A2 c2 w2 hown2 _ hb2
           rw [Nat.zero_add, List.nil_append] at hown2
           rw [Nat.zero_add]
           have HY2 := Lib.hid (Bytes.of_own hown2)
           have HB2 : Hid (Below wr.heap.size wr w2) := ((Below.refl wr.heap.size wr).alloc (Nat.le_refl _) _).trans hb2
           clear hown2 hb2)
        | fail)
      refine (decode_any _ A2 n0 c2 l0 w2 HY2.out (Nat.le_refl _)).mono ?_
      intro e w3 he3
      obtain ⟨v3, he, hti3, hb3⟩ := he3.at_
      obtain ⟨A3, n3, c3, P3, m3, q3, hv, hin3, _, _⟩ := hti3.agg
      subst hv
      subst he
      have HB3 := Lib.hid (held_two HB2.out hb3)
      have HT3 := Lib.hid hin3
      have HX3 : Hid (Blk (w3.alloc (.cells #[.int .i64 (gotI (decI l0)).lsn, .slice A3 n3 c3, .slice P3 m3 q3] 25)) w3.heap.size 25 #[.int .i64 (gotI (decI l0)).lsn, .slice A3 n3 c3, .slice P3 m3 q3]) := Blk.new _ _ _
      have hg3 : G < w3.heap.size := Nat.lt_of_lt_of_le hBg HB3.out.size
      have HY3 := Lib.hid (HY0.out.below (HB3.out.mono (Nat.le_of_lt hBg)))
      clear he3 hti3 hin3 hb3 k0 HB2 HY2
      go_wp2_with fail
      refine (refdecode_any G A0 n0 c0 l0 _ (HY3.out.alloc (by omega) _) (by simp; omega)).mono ?_
      intro e w4 he4
      obtain ⟨v4, he, hti4, hb4⟩ := he4.at_
      obtain ⟨A4, n4, c4, P4, m4, q4, hv, hin4, _, _⟩ := hti4.agg
      subst hv
      subst he
      have HB4 := Lib.hid (held_two (HB3.out.alloc HB3.out.size _) hb4)
      have HT4 := Lib.hid hin4
      have HT4' := Lib.hid ((HT3.out.alloc (Nat.le_refl _) _).below (hb4.mono (by simp)))
      have hx4 := HX3.out.below hb4 (by simp)
      have HX4 := Lib.hid hx4
      have HY4 := Lib.hid ((HY3.out.alloc (by omega) _).below (hb4.mono (by simp; omega)))
      have hz34 : w3.heap.size < w4.heap.size := hx4.lt
      have u0 : w4.cell? ⟨w3.heap.size, 0, none⟩ = some (.int .i64 (gotI (decI l0)).lsn) := hx4.cell 0
      have u1 : w4.cell? ⟨w3.heap.size, 1, none⟩ = some (.slice A3 n3 c3) := hx4.cell 1
      have u2 : w4.cell? ⟨w3.heap.size, 2, none⟩ = some (.slice P3 m3 q3) := hx4.cell 2
      have hwhy := decI_why (l := l0)
      have HFINE := Lib.hid (decI_fine (l := l0))
      clear he4 hti4 hin4 hb4 hx4 HY3 HX3 HT3
      obtain ⟨er, her⟩ : ∃ er, er = err (decI l0) := ⟨_, rfl⟩
      obtain ⟨tt, htt⟩ : ∃ tt, tt = gotI (decI l0) := ⟨_, rfl⟩
      rw [← her] at hwhy HFINE ⊢
      rw [← htt] at HT4 HT4' HX4 u0 ⊢
      have HTT := Lib.hid htt
      clear her htt
      go_wp2_with fail
      refine (itsame_any w3.heap.size w4.heap.size tt _ _ _ (HT4'.out.alloc (by omega) _) (HT4.out.alloc (Nat.le_refl _) _) (by simp; omega) (by simp)).mono ?_
      rintro e w5 ⟨rfl, hb5⟩
      have HB5 := Lib.hid (held_two (HB4.out.alloc HB4.out.size _) hb5)
      have HX5 := Lib.hid ((HX4.out.alloc _).below hb5 (by simp; omega))
      have HT5 := Lib.hid ((HT4'.out.alloc (by omega) _).below (hb5.mono (by simp; omega)))
      have HY5 := Lib.hid ((HY4.out.alloc (by omega) _).below (hb5.mono (by simp; omega)))
      have hz5 : w3.heap.size < w5.heap.size := HX5.out.lt
      have u0 : w5.cell? ⟨w3.heap.size, 0, none⟩ = some (.int .i64 tt.lsn) := HX5.out.cell 0
      have u1 : w5.cell? ⟨w3.heap.size, 1, none⟩ = some (.slice A3 n3 c3) := HX5.out.cell 1
      have u2 : w5.cell? ⟨w3.heap.size, 2, none⟩ = some (.slice P3 m3 q3) := HX5.out.cell 2
      clear hb5 HX4 HT4 HT4' HY4 HB4 HB3
      go_wp2_with fail
      refine (encode_in w3.heap.size tt _ _ HT5.out (Nat.le_of_lt hz5)).mono ?_
      intro e w6 he6
      rcases hwhy with rfl | hwhy
      · obtain ⟨y, hd, hmy, hly⟩ := HFINE.out rfl
        have hty : tt = y := by rw [HTT.out, hd]; rfl
        subst hty
        obtain ⟨E1, e1, rfl, ho6, hb6⟩ := encI_val he6 hmy
        rw [hly] at ho6 ⊢
        have HE6 := Lib.hid (Bytes.of_own ho6)
        have HY6 := Lib.hid (HY5.out.below (hb6.mono (by omega)))
        have HB6 := Lib.hid (held_two HB5.out hb6)
        clear ho6 hb6 he6 hd hmy hly HFINE HTT
        go_wp2_with fail
        refine (bytes_same w6.heap.size G E1 A0 _ e1 n0 c0 l0 _ HE6.out HY6.out).mono ?_
        rintro e w7 ⟨rfl, rfl⟩
        have HQ7 := Lib.hid (HQ.out.new HB6.out)
        go_wp2
        go_roundw
        case rel => exact ⟨⟨j + 1, by omega, by go_num⟩, HQ7.out⟩
        case measure => simp [intOf]; omega
      · obtain ⟨E1, e1, rfl, _, hb6⟩ := encI_both he6
        have HB6 := Lib.hid (held_two HB5.out hb6)
        have HQ7 := Lib.hid (HQ.out.new HB6.out)
        clear hb6 he6 HFINE HTT
        generalize (got (encI tt)).length = en
        generalize err (encI tt) = er2
        rcases hwhy with rfl | rfl
        all_goals (
          go_wp2
          go_roundw
          case rel => exact ⟨⟨j + 1, by omega, by go_num⟩, HQ7.out⟩
          case measure => simp [intOf]; omega)
    · have hB := HQ.out.2.2.2.2.2
      have HBB := Lib.hid hB
      have lj : ¬ (j : Int) < 3 := by omega
      clear hB
      go_wp2_with fail
      refine (awake_any _).mono ?_
      rintro e w2 ⟨rfl, hb2⟩
      have HB2 := Lib.hid (held_two HBB.out hb2)
      clear hb2
      go_wp2
      go_ret
      exact ⟨rfl, HB2.out⟩
end Go.Proofs.Ytlkjmdkmcaaihaa.Bt
