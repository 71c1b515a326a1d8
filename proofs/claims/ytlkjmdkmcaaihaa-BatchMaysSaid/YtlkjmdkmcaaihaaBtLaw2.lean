/-
  The walk of the statement BatchMays: it answers true, whatever the input, and writes nothing that was there.
-/
import Derived.Test.YtlkjmdkmcaaihaaBtRefHelp
import Derived.Test.YtlkjmdkmcaaihaaHelpBytes
namespace Go.Proofs.Ytlkjmdkmcaaihaa.Bt
set_option linter.unusedVariables false
set_option maxRecDepth 100000
open Go.RowKit Base FieldMath TxnMath BatchMath
open GuardMath (Gp noGp)
open Gd (Gps ov ov_append ov_one oval oel oone)
open Go.Proofs.Ytlkjmdkmcaaihaa.Field (ret_bool eb Flds one_byte modZ modZ_lt mod_any bigZ bigZ_lt playbig_any)
open Help (bytes_same)
set_option linter.ambiguousOpen false
set_option linter.unusedSimpArgs false

def MayRel (w : World) (B Z : Nat) (l : List It) (i : Value) (wr : World) : Prop := ∃ j : Nat, j ≤ 3 ∧ i = .int .i64 j ∧ Its wr B (some ⟨Z, 0, none⟩) 3 3 l ∧ B ≤ wr.heap.size ∧ Below w.heap.size w wr
theorem its_lit {V : World} {x y z : It} {A1 A2 A3 P1 P2 P3 : Option Addr} {n1 n2 n3 c1 c2 c3 m1 m2 m3 q1 q2 q3 : Nat}
    (h1 : Gps V V.heap.size A1 n1 c1 x.ops) (k1 : Nts V V.heap.size P1 m1 q1 x.notes) (h2 : Gps V V.heap.size A2 n2 c2 y.ops) (k2 : Nts V V.heap.size P2 m2 q2 y.notes) (h3 : Gps V V.heap.size A3 n3 c3 z.ops) (k3 : Nts V V.heap.size P3 m3 q3 z.notes) :
    Its (V.alloc (.cells #[.int .i64 x.lsn, .slice A1 n1 c1, .slice P1 m1 q1, .int .i64 y.lsn, .slice A2 n2 c2, .slice P2 m2 q2, .int .i64 z.lsn, .slice A3 n3 c3, .slice P3 m3 q3] 25)) (V.heap.size + 1) (some ⟨V.heap.size, 0, none⟩) 3 3 [x, y, z] :=
  its_three (Blk.new V _ _) ((h1.alloc (Nat.le_refl _) _).more (Nat.le_succ _)) ((k1.alloc (Nat.le_refl _) _).more (Nat.le_succ _)) ((h2.alloc (Nat.le_refl _) _).more (Nat.le_succ _)) ((k2.alloc (Nat.le_refl _) _).more (Nat.le_succ _)) ((h3.alloc (Nat.le_refl _) _).more (Nat.le_succ _)) ((k3.alloc (Nat.le_refl _) _).more (Nat.le_succ _)) (Nat.lt_succ_self _)
set_option maxHeartbeats 12800000 in
theorem mays_walk (x : It) (nt : Nt) (o : Gp) (wh : Int) (v v1 v2 : Value) (w : World) (h : ItIn w w.heap.size x v) (hok : ∀ o ∈ x.ops, o.val.size ≤ 9223372036854775807) (hv1 : v1 = ntval nt) (hv2 : v2 = oval o) :
    Calls Try.prog 3 #[v, v1, v2, .int .i64 wh] w fun e w' => e = .returned (.bool true) ∧ Below w.heap.size w w' := by
  subst hv1 hv2
  obtain ⟨A, n, c, A', n', c', rfl, hin, hps, hns⟩ := h.agg
  obtain ⟨f0, f1, f2, f3, f4, f5, f6⟩ := nt
  obtain ⟨o0, o1, o2, o3, o4⟩ := o
  unfold ntval oval
  dsimp only
  have C0 := Lib.hid (fun w => mod_any wh 2 w (by omega) (by omega))
  have b0 := modZ_lt wh (n := 2) (by omega)
  generalize modZ wh 2 = k0 at C0 b0
  have HX : Hid (Blk (((w.alloc (.cells #[.int .i64 x.lsn, .slice A n c, .slice A' n' c'] 25)).alloc (.cells #[.int .i64 f0, .int .i64 f1, .int .i64 f2, .int .i64 f3, .int .i64 f4, .int .i64 f5, .bool f6] 27)).alloc (.cells #[.int .i64 o0, .int .i64 o1, .int .i64 o2, .bool o3, .string o4] 29)) w.heap.size 25 #[.int .i64 x.lsn, .slice A n c, .slice A' n' c']) := ((Blk.new _ _ _).alloc _).alloc _
  have HN : Hid (Blk (((w.alloc (.cells #[.int .i64 x.lsn, .slice A n c, .slice A' n' c'] 25)).alloc (.cells #[.int .i64 f0, .int .i64 f1, .int .i64 f2, .int .i64 f3, .int .i64 f4, .int .i64 f5, .bool f6] 27)).alloc (.cells #[.int .i64 o0, .int .i64 o1, .int .i64 o2, .bool o3, .string o4] 29)) (w.heap.size + 1) 27 #[.int .i64 f0, .int .i64 f1, .int .i64 f2, .int .i64 f3, .int .i64 f4, .int .i64 f5, .bool f6]) := by
    have h1 := (Blk.new (w.alloc (.cells #[.int .i64 x.lsn, .slice A n c, .slice A' n' c'] 25)) 27 #[.int .i64 f0, .int .i64 f1, .int .i64 f2, .int .i64 f3, .int .i64 f4, .int .i64 f5, .bool f6]).alloc (.cells #[.int .i64 o0, .int .i64 o1, .int .i64 o2, .bool o3, .string o4] 29)
    rw [show (w.alloc (.cells #[.int .i64 x.lsn, .slice A n c, .slice A' n' c'] 25)).heap.size = w.heap.size + 1 by simp] at h1
    exact h1
  have HO : Hid (Blk (((w.alloc (.cells #[.int .i64 x.lsn, .slice A n c, .slice A' n' c'] 25)).alloc (.cells #[.int .i64 f0, .int .i64 f1, .int .i64 f2, .int .i64 f3, .int .i64 f4, .int .i64 f5, .bool f6] 27)).alloc (.cells #[.int .i64 o0, .int .i64 o1, .int .i64 o2, .bool o3, .string o4] 29)) (w.heap.size + 2) 29 #[.int .i64 o0, .int .i64 o1, .int .i64 o2, .bool o3, .string o4]) := by
    have h1 := Blk.new ((w.alloc (.cells #[.int .i64 x.lsn, .slice A n c, .slice A' n' c'] 25)).alloc (.cells #[.int .i64 f0, .int .i64 f1, .int .i64 f2, .int .i64 f3, .int .i64 f4, .int .i64 f5, .bool f6] 27)) 29 #[.int .i64 o0, .int .i64 o1, .int .i64 o2, .bool o3, .string o4]
    rw [show ((w.alloc (.cells #[.int .i64 x.lsn, .slice A n c, .slice A' n' c'] 25)).alloc (.cells #[.int .i64 f0, .int .i64 f1, .int .i64 f2, .int .i64 f3, .int .i64 f4, .int .i64 f5, .bool f6] 27)).heap.size = w.heap.size + 2 by simp] at h1
    exact h1
  have HW : Hid (Below w.heap.size w (((w.alloc (.cells #[.int .i64 x.lsn, .slice A n c, .slice A' n' c'] 25)).alloc (.cells #[.int .i64 f0, .int .i64 f1, .int .i64 f2, .int .i64 f3, .int .i64 f4, .int .i64 f5, .bool f6] 27)).alloc (.cells #[.int .i64 o0, .int .i64 o1, .int .i64 o2, .bool o3, .string o4] 29))) := (((Below.refl _ _).alloc (Nat.le_refl _) _).alloc (by simp) _).alloc (by simp; omega) _
  have HI := Lib.hid hin
  have HG1 := Lib.hid hps
  have HG2 := Lib.hid hns
  have HOK := Lib.hid hok
  clear h hok hin hps hns
  go_enter Try.func3, Try.ntmps3
  go_wp2_with fail
  refine (great_any x.lsn A n c A' n' c' _).mono ?_
  rintro e w1 ⟨rfl, hb1⟩
  have HX1 := Lib.hid (HX.out.below hb1 HX.out.lt)
  have HN1 := Lib.hid (HN.out.below hb1 HN.out.lt)
  have HO1 := Lib.hid (HO.out.below hb1 HO.out.lt)
  have HB1 := Lib.hid (held_two HW.out hb1)
  generalize (decide (100 < n) || decide (300 < n')) = g
  clear hb1 HX HN HO HW
  cases g with
  | true =>
    go_wp2_with fail
    refine (awake_any _).mono ?_
    rintro e w2 ⟨rfl, hb2⟩
    have HB2 := Lib.hid (held_two HB1.out hb2)
    clear hb2
    go_wp2
    go_ret
    exact ⟨rfl, HB2.out⟩
  | false =>
    have x0 : w1.cell? ⟨w.heap.size, 0, none⟩ = some (.int .i64 x.lsn) := HX1.out.cell 0
    have x1 : w1.cell? ⟨w.heap.size, 1, none⟩ = some (.slice A n c) := HX1.out.cell 1
    have x2 : w1.cell? ⟨w.heap.size, 2, none⟩ = some (.slice A' n' c') := HX1.out.cell 2
    go_wp2_with fail
    refine (some_any w.heap.size 5 (by omega) x _ w1 (HI.out.below HB1.out) HB1.out.size HOK.out).mono ?_
    rintro e w2 ⟨y, A1, n1, c1, P1, m1, q1, rfl, hmy, hoy, hb2⟩
    unfold itv
    have hyr := hoy.rows
    have HY1 := Lib.hid hyr.1
    have HY2 := Lib.hid hyr.2
    have HX2 := Lib.hid (HX1.out.below hb2 HX1.out.lt)
    have HN2 := Lib.hid (HN1.out.below hb2 HN1.out.lt)
    have HO2 := Lib.hid (HO1.out.below hb2 HO1.out.lt)
    have HB2 := Lib.hid (held_two HB1.out hb2)
    have HYB : Hid (Blk (w2.alloc (.cells #[.int .i64 y.lsn, .slice A1 n1 c1, .slice P1 m1 q1] 25)) w2.heap.size 25 #[.int .i64 y.lsn, .slice A1 n1 c1, .slice P1 m1 q1]) := Blk.new _ _ _
    have hxl : w.heap.size < w2.heap.size := HX2.out.lt
    have u0 : w2.cell? ⟨w.heap.size, 0, none⟩ = some (.int .i64 x.lsn) := HX2.out.cell 0
    have u1 : w2.cell? ⟨w.heap.size, 1, none⟩ = some (.slice A n c) := HX2.out.cell 1
    have u2 : w2.cell? ⟨w.heap.size, 2, none⟩ = some (.slice A' n' c') := HX2.out.cell 2
    clear hmy hoy hyr hb2 x0 x1 x2 HX1 HN1 HO1
    go_wp2_with fail
    have HB2a : Hid (Below w.heap.size w (w2.alloc (.cells #[.int .i64 y.lsn, .slice A1 n1 c1, .slice P1 m1 q1] 25))) := HB2.out.alloc HB2.out.size _
    refine (some_any w.heap.size 5 (by omega) x _ _ (HI.out.below HB2a.out) HB2a.out.size HOK.out).mono ?_
    rintro e w3 ⟨z, A2, n2, c2, P2, m2, q2, rfl, hmz, hoz, hb3⟩
    unfold itv
    have hz1 := hmz.ops
    have hz2 := hmz.notes
    have hl1 : n2 = z.ops.length := by have := hoz.1.1; rw [Gd.ov_length] at this; omega
    have hl2 : m2 = z.notes.length := by have := hoz.2.1; rw [ntv_length] at this; omega
    have hn5 : n2 ≤ 5 := by omega
    have hm4 : m2 ≤ 4 := by omega
    have HZ1 := Lib.hid hoz.1
    have HZ2 := Lib.hid hoz.2
    have hb23 : Below w2.heap.size w2 w3 := ((Below.refl _ _).alloc (Nat.le_refl _) _).trans (hb3.mono (by simp))
    have HY3 := Lib.hid (HY1.out.below hb23)
    have HY3' := Lib.hid (HY2.out.below hb23)
    have HX3 := Lib.hid (HX2.out.below hb23 HX2.out.lt)
    have HN3 := Lib.hid (HN2.out.below hb23 HN2.out.lt)
    have HO3 := Lib.hid (HO2.out.below hb23 HO2.out.lt)
    have HYB3 := Lib.hid (HYB.out.below hb3 (by simp))
    have HB3 := Lib.hid (held_two HB2.out hb23)
    have hz23 : w2.heap.size < w3.heap.size := HYB3.out.lt
    have hbs : (w2.alloc (.cells #[.int .i64 y.lsn, .slice A1 n1 c1, .slice P1 m1 q1] 25)).heap.size = w2.heap.size + 1 := by simp
    generalize (w2.alloc (.cells #[.int .i64 y.lsn, .slice A1 n1 c1, .slice P1 m1 q1] 25)).heap.size = bz at HZ1 HZ2 hb3 hbs
    have hbz3 : bz ≤ w3.heap.size := by omega
    clear hmz hoz hb23 hb3 u0 u1 u2 HX2 HN2 HO2 HYB HB2a hl1 hl2 hz1 hz2
    go_wp2_with fail
    refine (C0.out _).mono ?_
    rintro e w4 ⟨rfl, rfl⟩
    have HZ4 : Hid (Blk (w3.alloc (.cells #[.int .i64 z.lsn, .slice A2 n2 c2, .slice P2 m2 q2] 25)) w3.heap.size 25 #[.int .i64 z.lsn, .slice A2 n2 c2, .slice P2 m2 q2]) := Blk.new _ _ _
    have HU1 := Lib.hid (own_keep HZ1.out ((Below.refl _ _).alloc (Nat.le_refl _) (.cells #[.int .i64 z.lsn, .slice A2 n2 c2, .slice P2 m2 q2] 25)))
    have HU2 := Lib.hid (own_keep HZ2.out ((Below.refl _ _).alloc (Nat.le_refl _) (.cells #[.int .i64 z.lsn, .slice A2 n2 c2, .slice P2 m2 q2] 25)))
    have HX4 := Lib.hid (HX3.out.alloc (.cells #[.int .i64 z.lsn, .slice A2 n2 c2, .slice P2 m2 q2] 25))
    have HN4 := Lib.hid (HN3.out.alloc (.cells #[.int .i64 z.lsn, .slice A2 n2 c2, .slice P2 m2 q2] 25))
    have HO4 := Lib.hid (HO3.out.alloc (.cells #[.int .i64 z.lsn, .slice A2 n2 c2, .slice P2 m2 q2] 25))
    have HYB4 := Lib.hid (HYB3.out.alloc (.cells #[.int .i64 z.lsn, .slice A2 n2 c2, .slice P2 m2 q2] 25))
    have HY4 := Lib.hid (HY3.out.alloc (Nat.le_of_lt hz23) (.cells #[.int .i64 z.lsn, .slice A2 n2 c2, .slice P2 m2 q2] 25))
    have HY4' := Lib.hid (HY3'.out.alloc (Nat.le_of_lt hz23) (.cells #[.int .i64 z.lsn, .slice A2 n2 c2, .slice P2 m2 q2] 25))
    have HB4 := Lib.hid (held_alloc HB3.out (.cells #[.int .i64 z.lsn, .slice A2 n2 c2, .slice P2 m2 q2] 25))
    generalize hV : (w3.alloc (.cells #[.int .i64 z.lsn, .slice A2 n2 c2, .slice P2 m2 q2] 25)) = V at HZ4 HU1 HU2 HX4 HN4 HO4 HYB4 HY4 HY4' HB4 ⊢
    clear hV HX3 HN3 HO3 HYB3 HY3 HY3' HB3 HZ1 HZ2
    generalize w3.heap.size = Z at HZ4 hz23 hbz3 ⊢
    have hzV : Z < V.heap.size := HZ4.out.lt
    have p0' : V.cell? ⟨Z, 0, none⟩ = some (.int .i64 z.lsn) := HZ4.out.cell 0
    have hkk : k0 = 0 ∨ k0 = 1 := by omega
    clear b0
    rcases hkk with rfl | rfl
    · have e0 : ((0 : Nat) : Int) = 0 := rfl
      have g0 : V.cell? ⟨w.heap.size + 1, 0, none⟩ = some (.int .i64 f0) := HN4.out.cell 0
      have g1 : V.cell? ⟨w.heap.size + 1, 1, none⟩ = some (.int .i64 f1) := HN4.out.cell 1
      have g2 : V.cell? ⟨w.heap.size + 1, 2, none⟩ = some (.int .i64 f2) := HN4.out.cell 2
      have g3 : V.cell? ⟨w.heap.size + 1, 3, none⟩ = some (.int .i64 f3) := HN4.out.cell 3
      have g4 : V.cell? ⟨w.heap.size + 1, 4, none⟩ = some (.int .i64 f4) := HN4.out.cell 4
      have g5 : V.cell? ⟨w.heap.size + 1, 5, none⟩ = some (.int .i64 f5) := HN4.out.cell 5
      have g6 : V.cell? ⟨w.heap.size + 1, 6, none⟩ = some (.bool f6) := HN4.out.cell 6
      have z1 : V.cell? ⟨Z, 2, none⟩ = some (.slice P2 m2 q2) := HZ4.out.cell 2
      go_wp2_with (first
        | (at_builtin
           refine wpList_append_row rfl (.tmp 28) (.tmp 30) rfl ntel bz _ m2 (ntv z.notes) rfl (own_keep HU2.out ((Below.refl _ _).alloc (Nat.le_refl _) _)) _ _ 1 1 (ntv [⟨f0, f1, f2, f3, f4, f5, f6⟩]) rfl (ntone V ⟨f0, f1, f2, f3, f4, f5, f6⟩ rfl) (ntv_one _) (by omega) (by omega) (by simp; omega) ?_
           intro A5 c5 w5 hown5 hg5 hb5
           rw [← ntv_append] at hown5
           have hZ5 := (HZ4.out.alloc (.cells #[.int .i64 f0, .int .i64 f1, .int .i64 f2, .int .i64 f3, .int .i64 f4, .int .i64 f5, .bool f6] 27)).grown hg5.1 (fun e => own_ne HU2.out HZ4.out (by decide) e.symm)
           have HZ5 := Lib.hid hZ5
           have HO5 := Lib.hid hown5
           have HV5 := Lib.hid ((own_keep HU1.out ((Below.refl _ _).alloc (Nat.le_refl _) (.cells #[.int .i64 f0, .int .i64 f1, .int .i64 f2, .int .i64 f3, .int .i64 f4, .int .i64 f5, .bool f6] 27))).kept hg5.1 (own_types HU1.out HU2.out (by decide)))
           have HX5 := Lib.hid ((HX4.out.alloc (.cells #[.int .i64 f0, .int .i64 f1, .int .i64 f2, .int .i64 f3, .int .i64 f4, .int .i64 f5, .bool f6] 27)).below hb5 (by omega))
           have HYB5 := Lib.hid ((HYB4.out.alloc (.cells #[.int .i64 f0, .int .i64 f1, .int .i64 f2, .int .i64 f3, .int .i64 f4, .int .i64 f5, .bool f6] 27)).below hb5 (by omega))
           have HY5 := Lib.hid ((HY4.out.alloc (by omega) (.cells #[.int .i64 f0, .int .i64 f1, .int .i64 f2, .int .i64 f3, .int .i64 f4, .int .i64 f5, .bool f6] 27)).below (hb5.mono (by omega)))
           have HY5' := Lib.hid ((HY4'.out.alloc (by omega) (.cells #[.int .i64 f0, .int .i64 f1, .int .i64 f2, .int .i64 f3, .int .i64 f4, .int .i64 f5, .bool f6] 27)).below (hb5.mono (by omega)))
           have HB5 := Lib.hid ((held_alloc HB4.out (.cells #[.int .i64 f0, .int .i64 f1, .int .i64 f2, .int .i64 f3, .int .i64 f4, .int .i64 f5, .bool f6] 27)).trans (hb5.mono (by omega)))
           have hzl : Z < w5.heap.size := hZ5.lt
           have i0 : w5.cell? ⟨w.heap.size, 0, none⟩ = some (.int .i64 x.lsn) := HX5.out.cell 0
           have i1 : w5.cell? ⟨w.heap.size, 1, none⟩ = some (.slice A n c) := HX5.out.cell 1
           have i2 : w5.cell? ⟨w.heap.size, 2, none⟩ = some (.slice A' n' c') := HX5.out.cell 2
           have j0 : w5.cell? ⟨w2.heap.size, 0, none⟩ = some (.int .i64 y.lsn) := HYB5.out.cell 0
           have j1 : w5.cell? ⟨w2.heap.size, 1, none⟩ = some (.slice A1 n1 c1) := HYB5.out.cell 1
           have j2 : w5.cell? ⟨w2.heap.size, 2, none⟩ = some (.slice P1 m1 q1) := HYB5.out.cell 2
           have k0' : w5.cell? ⟨Z, 0, none⟩ = some (.int .i64 z.lsn) := hZ5.cell 0
           have k1' : w5.cell? ⟨Z, 2, none⟩ = some (.slice P2 m2 q2) := hZ5.cell 2
           have k2' : w5.cell? ⟨Z, 1, none⟩ = some (.slice A2 n2 c2) := hZ5.cell 1
           have kf := hZ5.frozen 2
           have hne1 : w.heap.size ≠ Z := by omega
           have hne2 : w2.heap.size ≠ Z := by omega
           have hne3 : Z ≠ w.heap.size := by omega
           have hne4 : Z ≠ w2.heap.size := by omega
           clear hown5 hg5 hb5 hZ5)
        | fail)
      have HO6 := Lib.hid (HO5.out.kept (only_setCell (World.grownBy.refl w5 (some Z)) (p := ⟨Z, 2, none⟩) (.inl rfl) (.slice A5 (m2 + 1) c5)) (.inr (own_ne HO5.out HZ5.out (by decide))))
      have HV6 := Lib.hid (HV5.out.kept (only_setCell (World.grownBy.refl w5 (some Z)) (p := ⟨Z, 2, none⟩) (.inl rfl) (.slice A5 (m2 + 1) c5)) (.inr (own_ne HV5.out HZ5.out (by decide))))
      have HB6 : Hid (Below w.heap.size w (w5.setCell ⟨Z, 2, none⟩ (.slice A5 (m2 + 1) c5))) := HB5.out.setCell (by show w.heap.size ≤ Z; omega) _
      have hs6 : (w5.setCell ⟨Z, 2, none⟩ (.slice A5 (m2 + 1) c5)).heap.size = w5.heap.size := by simp
      have hs66 := HB6.out.size
      have HL := Lib.hid (its_lit (V := w5.setCell ⟨Z, 2, none⟩ (.slice A5 (m2 + 1) c5)) (x := x) (y := y) (z := ⟨z.lsn, z.ops, z.notes ++ [⟨f0, f1, f2, f3, f4, f5, f6⟩]⟩) ((HG1.out.below HB6.out).more hs66) ((HG2.out.below HB6.out).more hs66) ((HY5.out.setCell (by show w2.heap.size ≤ Z; omega) _).more (by rw [hs6]; omega)) ((HY5'.out.setCell (by show w2.heap.size ≤ Z; omega) _).more (by rw [hs6]; omega)) (Row.of_own HV6.out) (Row.of_own HO6.out))
      rw [hs6] at HL
      have HBF := Lib.hid (held_alloc HB6.out (.cells #[.int .i64 x.lsn, .slice A n c, .slice A' n' c', .int .i64 y.lsn, .slice A1 n1 c1, .slice P1 m1 q1, .int .i64 z.lsn, .slice A2 n2 c2, .slice A5 (m2 + 1) c5] 25))
      have hBF : w5.heap.size + 1 ≤ ((w5.setCell ⟨Z, 2, none⟩ (.slice A5 (m2 + 1) c5)).alloc (.cells #[.int .i64 x.lsn, .slice A n c, .slice A' n' c', .int .i64 y.lsn, .slice A1 n1 c1, .slice P1 m1 q1, .int .i64 z.lsn, .slice A2 n2 c2, .slice A5 (m2 + 1) c5] 25)).heap.size := by simp
      generalize hLST : [x, y, ⟨z.lsn, z.ops, z.notes ++ [⟨f0, f1, f2, f3, f4, f5, f6⟩]⟩] = LST at HL
      dsimp only at HL
      generalize ((w5.setCell ⟨Z, 2, none⟩ (.slice A5 (m2 + 1) c5)).alloc (.cells #[.int .i64 x.lsn, .slice A n c, .slice A' n' c', .int .i64 y.lsn, .slice A1 n1 c1, .slice P1 m1 q1, .int .i64 z.lsn, .slice A2 n2 c2, .slice A5 (m2 + 1) c5] 25)) = VF at HL HBF hBF ⊢
      generalize w5.heap.size = ZF at HL hBF ⊢
      clear hLST hs6 hs66 HO6 HV6 HB6 HB5 HY5 HY5' HYB5 HX5 HV5 HO5 HZ5 i0 i1 i2 j0 j1 j2 k0' k1' k2' kf hne1 hne2 hne3 hne4 hzl z1 HB4 HY4 HY4' HYB4 HO4 HN4 HX4 HU1 HU2 HZ4
      go_loopw [44] (fun i wr => MayRel w (ZF + 1) ZF LST i wr) (fun i _ => 3 - (intOf i).toNat)
      case atStart => exact ⟨0, by omega, rfl, HL.out, hBF, HBF.out⟩
      case round =>
        obtain ⟨j, hj, rfl, hits, hbl, hbel⟩ := hrel
        have HT := Lib.hid hits
        have HB := Lib.hid hbel
        clear hits hbel HL HBF
        by_cases hlt : j < 3
        · obtain ⟨b, off, u, he, hbb, _, _, hat⟩ := HT.out.at_ hlt
          obtain ⟨rfl, rfl, _⟩ : ZF = b ∧ 0 = off ∧ True := by injection he with he; injection he with e1 e2; exact ⟨e1, e2, trivial⟩
          obtain ⟨B1, r1, d1, B2, r2, d2, y0, y1, y2, hui⟩ := itAt_in hat
          simp only [Nat.zero_add] at y0 y1 y2
          have HU := Lib.hid hui
          have l1 : (j : Int) < 3 := by omega
          have hzl : ZF < wr.heap.size := by omega
          have HXW : Hid (Blk (wr.alloc (.cells #[.int .i64 u.lsn, .slice B1 r1 d1, .slice B2 r2 d2] 25)) wr.heap.size 25 #[.int .i64 u.lsn, .slice B1 r1 d1, .slice B2 r2 d2]) := Blk.new _ _ _
          clear hat hui he
          go_wp2_with fail
          refine (encode_in (ZF + 1) u _ _ (HU.out.alloc hbl _) (by simp; omega)).mono ?_
          intro e w6 he6
          obtain ⟨E1, k1, rfl, hy6, hb6⟩ := encI_both he6
          have HY6 := Lib.hid hy6
          have HX6 := Lib.hid (HXW.out.below hb6 HXW.out.lt)
          have HU6 := Lib.hid ((HU.out.alloc hbl (.cells #[.int .i64 u.lsn, .slice B1 r1 d1, .slice B2 r2 d2] 25)).below (hb6.mono (by simp; omega)))
          have HR6 := Lib.hid (((Below.refl wr.heap.size wr).alloc (Nat.le_refl _) (.cells #[.int .i64 u.lsn, .slice B1 r1 d1, .slice B2 r2 d2] 25)).trans (hb6.mono (by simp)))
          have hz6 : wr.heap.size < w6.heap.size := HX6.out.lt
          have x0 : w6.cell? ⟨wr.heap.size, 0, none⟩ = some (.int .i64 u.lsn) := HX6.out.cell 0
          have x1 : w6.cell? ⟨wr.heap.size, 1, none⟩ = some (.slice B1 r1 d1) := HX6.out.cell 1
          have x2 : w6.cell? ⟨wr.heap.size, 2, none⟩ = some (.slice B2 r2 d2) := HX6.out.cell 2
          clear he6 hy6 hb6 HXW y0 y1 y2
          go_wp2_with fail
          refine (refencode_in (ZF + 1) u _ _ HU6.out (by omega)).mono ?_
          intro e w7 he7
          obtain ⟨E2, k2, rfl, hy7, hb7⟩ := encI_both he7
          have HY7 := Lib.hid hy7
          have HY67 := Lib.hid (HY6.out.below hb7)
          have HX7 := Lib.hid (HX6.out.below hb7 HX6.out.lt)
          have HU7 := Lib.hid (HU6.out.below (hb7.mono (by omega)))
          have HR7 := Lib.hid (HR6.out.trans (hb7.mono (Nat.le_of_lt hz6)))
          have hz67 := hb7.size
          have hz7 : wr.heap.size < w7.heap.size := HX7.out.lt
          clear he7 hy7 hb7 HY6 HX6 HU6 HR6 x0 x1 x2
          have HHS : Hid (∀ wx, Below w7.heap.size w7 wx → wx.cell? ⟨wr.heap.size, 0, none⟩ = some (.int .i64 u.lsn) ∧ wx.cell? ⟨wr.heap.size, 1, none⟩ = some (.slice B1 r1 d1) ∧ wx.cell? ⟨wr.heap.size, 2, none⟩ = some (.slice B2 r2 d2) ∧ Below w7.heap.size w7 wx) :=
            fun wx h => ⟨(h.cell hz7).trans (HX7.out.cell 0), (h.cell hz7).trans (HX7.out.cell 1), (h.cell hz7).trans (HX7.out.cell 2), h⟩
          have CM := Lib.hid (fun (wx : World) (hb : Below w7.heap.size w7 wx) => may_in (ZF + 1) u _ wx (HU7.out.below (hb.mono (by omega))) (Nat.le_trans (by omega) hb.size))
          have CR := Lib.hid (fun (wx : World) (hb : Below w7.heap.size w7 wx) => refmay_in (ZF + 1) u _ wx (HU7.out.below (hb.mono (by omega))) (Nat.le_trans (by omega) hb.size))
          have CB := Lib.hid (fun (wx : World) (hb : Below w7.heap.size w7 wx) => bytes_same w6.heap.size w7.heap.size E1 E2 _ k1 _ k2 (got (encI u)) wx (HY67.out.below (hb.mono hz67)) (HY7.out.below hb))
          generalize (got (encI u)).length = N at CB ⊢
          obtain ⟨mb, hmb⟩ : ∃ mb, mb = may u := ⟨_, rfl⟩
          rw [← hmb] at CM CR
          have hq : err (encI u) = 0 ∨ err (encI u) = 1 := by
            cases hm : may u with
            | true => left; rw [encI_ok hm]; rfl
            | false => right; rw [encI_bad hm]; rfl
          generalize err (encI u) = q at hq ⊢
          clear hmb
          cases mb
          all_goals (rcases hq with rfl | rfl)
          all_goals (
            go_upto_region 13 with fail
            go_region_held3 (fun wx => wx.cell? ⟨wr.heap.size, 0, none⟩ = some (.int .i64 u.lsn) ∧ wx.cell? ⟨wr.heap.size, 1, none⟩ = some (.slice B1 r1 d1) ∧ wx.cell? ⟨wr.heap.size, 2, none⟩ = some (.slice B2 r2 d2) ∧ Below w7.heap.size w7 wx)
              (first
                | exact HHS.out _ (held_start w7)
                | (go_split_ands; exact HHS.out _ (by assumption))
                | (go_split_ands; exact HHS.out _ (held_call (by assumption) hbm)))
              (first
                | (go_at_call 15; refine (CM.out _ (by first | exact held_start w7 | (go_split_ands; assumption))).mono ?_; rintro e wm ⟨rfl, hbm⟩)
                | (go_at_call 16; refine (CR.out _ (by first | exact held_start w7 | (go_split_ands; assumption))).mono ?_; rintro e wm ⟨rfl, hbm⟩)
                | (go_at_call 17; refine (CB.out _ (by go_split_ands; assumption)).mono ?_; rintro e wb ⟨rfl, rfl⟩)
                | fail)
            all_goals (
              have HW9 : Hid (Below w7.heap.size w7 wm) := by go_split_ands; assumption
              clear hbm
              have HR9 := Lib.hid (HR7.out.trans (HW9.out.mono (Nat.le_of_lt hz7)))
              go_wp2
              go_roundw
              case rel => exact ⟨j + 1, by omega, by go_num, HT.out.below (HR9.out.mono hbl), Nat.le_trans hbl HR9.out.size, held_two HB.out HR9.out⟩
              case measure => simp [intOf]; omega))
        · have l1 : ¬ (j : Int) < 3 := by omega
          go_wp2_with fail
          refine (awake_any _).mono ?_
          rintro e w9 ⟨rfl, hb9⟩
          have HB9 := Lib.hid (held_two HB.out hb9)
          clear hb9
          go_wp2
          go_ret
          exact ⟨rfl, HB9.out⟩
    · have e0 : ((1 : Nat) : Int) = 1 := rfl
      have g0 : V.cell? ⟨w.heap.size + 2, 0, none⟩ = some (.int .i64 o0) := HO4.out.cell 0
      have g1 : V.cell? ⟨w.heap.size + 2, 1, none⟩ = some (.int .i64 o1) := HO4.out.cell 1
      have g2 : V.cell? ⟨w.heap.size + 2, 2, none⟩ = some (.int .i64 o2) := HO4.out.cell 2
      have g3 : V.cell? ⟨w.heap.size + 2, 3, none⟩ = some (.bool o3) := HO4.out.cell 3
      have g4 : V.cell? ⟨w.heap.size + 2, 4, none⟩ = some (.string o4) := HO4.out.cell 4
      have z1 : V.cell? ⟨Z, 1, none⟩ = some (.slice A2 n2 c2) := HZ4.out.cell 1
      go_wp2_with (first
        | (at_builtin
           refine wpList_append_row rfl (.tmp 34) (.tmp 36) rfl oel bz _ n2 (ov z.ops) rfl (own_keep HU1.out ((Below.refl _ _).alloc (Nat.le_refl _) _)) _ _ 1 1 (ov [⟨o0, o1, o2, o3, o4⟩]) rfl (oone V ⟨o0, o1, o2, o3, o4⟩ rfl) (ov_one _) (by omega) (by omega) (by simp; omega) ?_
           intro A5 c5 w5 hown5 hg5 hb5
           rw [← ov_append] at hown5
           have hZ5 := (HZ4.out.alloc (.cells #[.int .i64 o0, .int .i64 o1, .int .i64 o2, .bool o3, .string o4] 29)).grown hg5.1 (fun e => own_ne HU1.out HZ4.out (by decide) e.symm)
           have HZ5 := Lib.hid hZ5
           have HO5 := Lib.hid hown5
           have HV5 := Lib.hid ((own_keep HU2.out ((Below.refl _ _).alloc (Nat.le_refl _) (.cells #[.int .i64 o0, .int .i64 o1, .int .i64 o2, .bool o3, .string o4] 29))).kept hg5.1 (own_types HU2.out HU1.out (by decide)))
           have HX5 := Lib.hid ((HX4.out.alloc (.cells #[.int .i64 o0, .int .i64 o1, .int .i64 o2, .bool o3, .string o4] 29)).below hb5 (by omega))
           have HYB5 := Lib.hid ((HYB4.out.alloc (.cells #[.int .i64 o0, .int .i64 o1, .int .i64 o2, .bool o3, .string o4] 29)).below hb5 (by omega))
           have HY5 := Lib.hid ((HY4.out.alloc (by omega) (.cells #[.int .i64 o0, .int .i64 o1, .int .i64 o2, .bool o3, .string o4] 29)).below (hb5.mono (by omega)))
           have HY5' := Lib.hid ((HY4'.out.alloc (by omega) (.cells #[.int .i64 o0, .int .i64 o1, .int .i64 o2, .bool o3, .string o4] 29)).below (hb5.mono (by omega)))
           have HB5 := Lib.hid ((held_alloc HB4.out (.cells #[.int .i64 o0, .int .i64 o1, .int .i64 o2, .bool o3, .string o4] 29)).trans (hb5.mono (by omega)))
           have hzl : Z < w5.heap.size := hZ5.lt
           have i0 : w5.cell? ⟨w.heap.size, 0, none⟩ = some (.int .i64 x.lsn) := HX5.out.cell 0
           have i1 : w5.cell? ⟨w.heap.size, 1, none⟩ = some (.slice A n c) := HX5.out.cell 1
           have i2 : w5.cell? ⟨w.heap.size, 2, none⟩ = some (.slice A' n' c') := HX5.out.cell 2
           have j0 : w5.cell? ⟨w2.heap.size, 0, none⟩ = some (.int .i64 y.lsn) := HYB5.out.cell 0
           have j1 : w5.cell? ⟨w2.heap.size, 1, none⟩ = some (.slice A1 n1 c1) := HYB5.out.cell 1
           have j2 : w5.cell? ⟨w2.heap.size, 2, none⟩ = some (.slice P1 m1 q1) := HYB5.out.cell 2
           have k0' : w5.cell? ⟨Z, 0, none⟩ = some (.int .i64 z.lsn) := hZ5.cell 0
           have k1' : w5.cell? ⟨Z, 1, none⟩ = some (.slice A2 n2 c2) := hZ5.cell 1
           have k2' : w5.cell? ⟨Z, 2, none⟩ = some (.slice P2 m2 q2) := hZ5.cell 2
           have kf := hZ5.frozen 1
           have hne1 : w.heap.size ≠ Z := by omega
           have hne2 : w2.heap.size ≠ Z := by omega
           have hne3 : Z ≠ w.heap.size := by omega
           have hne4 : Z ≠ w2.heap.size := by omega
           clear hown5 hg5 hb5 hZ5)
        | fail)
      have HO6 := Lib.hid (HO5.out.kept (only_setCell (World.grownBy.refl w5 (some Z)) (p := ⟨Z, 1, none⟩) (.inl rfl) (.slice A5 (n2 + 1) c5)) (.inr (own_ne HO5.out HZ5.out (by decide))))
      have HV6 := Lib.hid (HV5.out.kept (only_setCell (World.grownBy.refl w5 (some Z)) (p := ⟨Z, 1, none⟩) (.inl rfl) (.slice A5 (n2 + 1) c5)) (.inr (own_ne HV5.out HZ5.out (by decide))))
      have HB6 : Hid (Below w.heap.size w (w5.setCell ⟨Z, 1, none⟩ (.slice A5 (n2 + 1) c5))) := HB5.out.setCell (by show w.heap.size ≤ Z; omega) _
      have hs6 : (w5.setCell ⟨Z, 1, none⟩ (.slice A5 (n2 + 1) c5)).heap.size = w5.heap.size := by simp
      have hs66 := HB6.out.size
      have HL := Lib.hid (its_lit (V := w5.setCell ⟨Z, 1, none⟩ (.slice A5 (n2 + 1) c5)) (x := x) (y := y) (z := ⟨z.lsn, z.ops ++ [⟨o0, o1, o2, o3, o4⟩], z.notes⟩) ((HG1.out.below HB6.out).more hs66) ((HG2.out.below HB6.out).more hs66) ((HY5.out.setCell (by show w2.heap.size ≤ Z; omega) _).more (by rw [hs6]; omega)) ((HY5'.out.setCell (by show w2.heap.size ≤ Z; omega) _).more (by rw [hs6]; omega)) (Row.of_own HO6.out) (Row.of_own HV6.out))
      rw [hs6] at HL
      have HBF := Lib.hid (held_alloc HB6.out (.cells #[.int .i64 x.lsn, .slice A n c, .slice A' n' c', .int .i64 y.lsn, .slice A1 n1 c1, .slice P1 m1 q1, .int .i64 z.lsn, .slice A5 (n2 + 1) c5, .slice P2 m2 q2] 25))
      have hBF : w5.heap.size + 1 ≤ ((w5.setCell ⟨Z, 1, none⟩ (.slice A5 (n2 + 1) c5)).alloc (.cells #[.int .i64 x.lsn, .slice A n c, .slice A' n' c', .int .i64 y.lsn, .slice A1 n1 c1, .slice P1 m1 q1, .int .i64 z.lsn, .slice A5 (n2 + 1) c5, .slice P2 m2 q2] 25)).heap.size := by simp
      generalize hLST : [x, y, ⟨z.lsn, z.ops ++ [⟨o0, o1, o2, o3, o4⟩], z.notes⟩] = LST at HL
      dsimp only at HL
      generalize ((w5.setCell ⟨Z, 1, none⟩ (.slice A5 (n2 + 1) c5)).alloc (.cells #[.int .i64 x.lsn, .slice A n c, .slice A' n' c', .int .i64 y.lsn, .slice A1 n1 c1, .slice P1 m1 q1, .int .i64 z.lsn, .slice A5 (n2 + 1) c5, .slice P2 m2 q2] 25)) = VF at HL HBF hBF ⊢
      generalize w5.heap.size = ZF at HL hBF ⊢
      clear hLST hs6 hs66 HO6 HV6 HB6 HB5 HY5 HY5' HYB5 HX5 HV5 HO5 HZ5 i0 i1 i2 j0 j1 j2 k0' k1' k2' kf hne1 hne2 hne3 hne4 hzl z1 HB4 HY4 HY4' HYB4 HO4 HN4 HX4 HU1 HU2 HZ4
      go_loopw [44] (fun i wr => MayRel w (ZF + 1) ZF LST i wr) (fun i _ => 3 - (intOf i).toNat)
      case atStart => exact ⟨0, by omega, rfl, HL.out, hBF, HBF.out⟩
      case round =>
        obtain ⟨j, hj, rfl, hits, hbl, hbel⟩ := hrel
        have HT := Lib.hid hits
        have HB := Lib.hid hbel
        clear hits hbel HL HBF
        by_cases hlt : j < 3
        · obtain ⟨b, off, u, he, hbb, _, _, hat⟩ := HT.out.at_ hlt
          obtain ⟨rfl, rfl, _⟩ : ZF = b ∧ 0 = off ∧ True := by injection he with he; injection he with e1 e2; exact ⟨e1, e2, trivial⟩
          obtain ⟨B1, r1, d1, B2, r2, d2, y0, y1, y2, hui⟩ := itAt_in hat
          simp only [Nat.zero_add] at y0 y1 y2
          have HU := Lib.hid hui
          have l1 : (j : Int) < 3 := by omega
          have hzl : ZF < wr.heap.size := by omega
          have HXW : Hid (Blk (wr.alloc (.cells #[.int .i64 u.lsn, .slice B1 r1 d1, .slice B2 r2 d2] 25)) wr.heap.size 25 #[.int .i64 u.lsn, .slice B1 r1 d1, .slice B2 r2 d2]) := Blk.new _ _ _
          clear hat hui he
          go_wp2_with fail
          refine (encode_in (ZF + 1) u _ _ (HU.out.alloc hbl _) (by simp; omega)).mono ?_
          intro e w6 he6
          obtain ⟨E1, k1, rfl, hy6, hb6⟩ := encI_both he6
          have HY6 := Lib.hid hy6
          have HX6 := Lib.hid (HXW.out.below hb6 HXW.out.lt)
          have HU6 := Lib.hid ((HU.out.alloc hbl (.cells #[.int .i64 u.lsn, .slice B1 r1 d1, .slice B2 r2 d2] 25)).below (hb6.mono (by simp; omega)))
          have HR6 := Lib.hid (((Below.refl wr.heap.size wr).alloc (Nat.le_refl _) (.cells #[.int .i64 u.lsn, .slice B1 r1 d1, .slice B2 r2 d2] 25)).trans (hb6.mono (by simp)))
          have hz6 : wr.heap.size < w6.heap.size := HX6.out.lt
          have x0 : w6.cell? ⟨wr.heap.size, 0, none⟩ = some (.int .i64 u.lsn) := HX6.out.cell 0
          have x1 : w6.cell? ⟨wr.heap.size, 1, none⟩ = some (.slice B1 r1 d1) := HX6.out.cell 1
          have x2 : w6.cell? ⟨wr.heap.size, 2, none⟩ = some (.slice B2 r2 d2) := HX6.out.cell 2
          clear he6 hy6 hb6 HXW y0 y1 y2
          go_wp2_with fail
          refine (refencode_in (ZF + 1) u _ _ HU6.out (by omega)).mono ?_
          intro e w7 he7
          obtain ⟨E2, k2, rfl, hy7, hb7⟩ := encI_both he7
          have HY7 := Lib.hid hy7
          have HY67 := Lib.hid (HY6.out.below hb7)
          have HX7 := Lib.hid (HX6.out.below hb7 HX6.out.lt)
          have HU7 := Lib.hid (HU6.out.below (hb7.mono (by omega)))
          have HR7 := Lib.hid (HR6.out.trans (hb7.mono (Nat.le_of_lt hz6)))
          have hz67 := hb7.size
          have hz7 : wr.heap.size < w7.heap.size := HX7.out.lt
          clear he7 hy7 hb7 HY6 HX6 HU6 HR6 x0 x1 x2
          have HHS : Hid (∀ wx, Below w7.heap.size w7 wx → wx.cell? ⟨wr.heap.size, 0, none⟩ = some (.int .i64 u.lsn) ∧ wx.cell? ⟨wr.heap.size, 1, none⟩ = some (.slice B1 r1 d1) ∧ wx.cell? ⟨wr.heap.size, 2, none⟩ = some (.slice B2 r2 d2) ∧ Below w7.heap.size w7 wx) :=
            fun wx h => ⟨(h.cell hz7).trans (HX7.out.cell 0), (h.cell hz7).trans (HX7.out.cell 1), (h.cell hz7).trans (HX7.out.cell 2), h⟩
          have CM := Lib.hid (fun (wx : World) (hb : Below w7.heap.size w7 wx) => may_in (ZF + 1) u _ wx (HU7.out.below (hb.mono (by omega))) (Nat.le_trans (by omega) hb.size))
          have CR := Lib.hid (fun (wx : World) (hb : Below w7.heap.size w7 wx) => refmay_in (ZF + 1) u _ wx (HU7.out.below (hb.mono (by omega))) (Nat.le_trans (by omega) hb.size))
          have CB := Lib.hid (fun (wx : World) (hb : Below w7.heap.size w7 wx) => bytes_same w6.heap.size w7.heap.size E1 E2 _ k1 _ k2 (got (encI u)) wx (HY67.out.below (hb.mono hz67)) (HY7.out.below hb))
          generalize (got (encI u)).length = N at CB ⊢
          obtain ⟨mb, hmb⟩ : ∃ mb, mb = may u := ⟨_, rfl⟩
          rw [← hmb] at CM CR
          have hq : err (encI u) = 0 ∨ err (encI u) = 1 := by
            cases hm : may u with
            | true => left; rw [encI_ok hm]; rfl
            | false => right; rw [encI_bad hm]; rfl
          generalize err (encI u) = q at hq ⊢
          clear hmb
          cases mb
          all_goals (rcases hq with rfl | rfl)
          all_goals (
            go_upto_region 13 with fail
            go_region_held3 (fun wx => wx.cell? ⟨wr.heap.size, 0, none⟩ = some (.int .i64 u.lsn) ∧ wx.cell? ⟨wr.heap.size, 1, none⟩ = some (.slice B1 r1 d1) ∧ wx.cell? ⟨wr.heap.size, 2, none⟩ = some (.slice B2 r2 d2) ∧ Below w7.heap.size w7 wx)
              (first
                | exact HHS.out _ (held_start w7)
                | (go_split_ands; exact HHS.out _ (by assumption))
                | (go_split_ands; exact HHS.out _ (held_call (by assumption) hbm)))
              (first
                | (go_at_call 15; refine (CM.out _ (by first | exact held_start w7 | (go_split_ands; assumption))).mono ?_; rintro e wm ⟨rfl, hbm⟩)
                | (go_at_call 16; refine (CR.out _ (by first | exact held_start w7 | (go_split_ands; assumption))).mono ?_; rintro e wm ⟨rfl, hbm⟩)
                | (go_at_call 17; refine (CB.out _ (by go_split_ands; assumption)).mono ?_; rintro e wb ⟨rfl, rfl⟩)
                | fail)
            all_goals (
              have HW9 : Hid (Below w7.heap.size w7 wm) := by go_split_ands; assumption
              clear hbm
              have HR9 := Lib.hid (HR7.out.trans (HW9.out.mono (Nat.le_of_lt hz7)))
              go_wp2
              go_roundw
              case rel => exact ⟨j + 1, by omega, by go_num, HT.out.below (HR9.out.mono hbl), Nat.le_trans hbl HR9.out.size, held_two HB.out HR9.out⟩
              case measure => simp [intOf]; omega))
        · have l1 : ¬ (j : Int) < 3 := by omega
          go_wp2_with fail
          refine (awake_any _).mono ?_
          rintro e w9 ⟨rfl, hb9⟩
          have HB9 := Lib.hid (held_two HB.out hb9)
          clear hb9
          go_wp2
          go_ret
          exact ⟨rfl, HB9.out⟩
end Go.Proofs.Ytlkjmdkmcaaihaa.Bt
