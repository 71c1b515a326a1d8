/-
  Contracts of package rec's Take, with the bytes' copy, and of the document's own Put and Take (qanatref01).
-/
import Derived.Test.YtedfddnbgljcjaaGreatRecFront
namespace Go.Proofs.YtedfddnbgljcjaaGreat.Rec
set_option maxRecDepth 100000
open Go.RowKit Base FieldMath RecMath
open Go.Proofs.YtedfddnbgljcjaaGreat.Field
set_option linter.ambiguousOpen false

set_option maxHeartbeats 400000 in
theorem clone_any (B : Nat) (A : Option Addr) (n c : Nat) (l : List UInt8) (w : World) (hr : Bytes w B A n c l) (hB : B ≤ w.heap.size) (hn : n ≤ 140737488355328) :
    Calls Tryz.prog 53 #[.slice A n c] w (NewOwn w n l) := by
  have hnil : ∀ w, (binOp .eql 31 (.slice A n c) (.slice none 0 0)).run Tryz.prog w = .ok (.bool A.isNone) w := fun w => Lib.run_eql_slice_nil (P := Tryz.prog) w 31 5 A n c 0 0 Tryz.underlying31
  cases A with
  | none =>
    have h0 : n = 0 := by
      rcases Nat.eq_zero_or_pos n with h0 | h0
      · exact h0
      · obtain ⟨b, off, h, _⟩ := hr.2.2.2 h0
        cases h
    subst h0
    obtain rfl : l = [] := List.eq_nil_of_length_eq_zero hr.len
    clear hr hn
    go_enter Tryz.func53, Tryz.ntmps53
    go_wp2
    go_ret
    exact ⟨none, 0, rfl, World.ownsRow_nil _ _ _ _, Below.refl _ _⟩
  | some a =>
    have HR := Lib.hid hr
    clear hr
    go_enter Tryz.func53, Tryz.ntmps53
    go_wp2_with (first
      | (at_builtin
         refine wpList_append_row rfl (.tmp 5) (.tmp 6) rfl eb w.heap.size _ 0 [] rfl (own_empty _ _ _ _ rfl (Nat.le_refl _)) B (some a) n c (bv l) rfl (HR.out.alloc hB _) (bv_one _) (by omega) (by omega) (by simp) ?_
         intro A1 c1 w1 hown1 _ hb1
         rw [Nat.zero_add, List.nil_append] at hown1
         rw [Nat.zero_add]
         have HY1 := Lib.hid hown1
         have HB1 := Lib.hid (((Below.refl w.heap.size w).alloc (Nat.le_refl _) _).trans hb1)
         clear hown1 hb1)
      | fail)
    go_ret
    exact ⟨A1, c1, rfl, HY1.out, HB1.out⟩

/-- what Take answers -/
def Taken (w : World) (r : Except Nat (List UInt8)) (e : Ending) (w' : World) : Prop :=
  ∃ A n c, e = .returned (.tuple #[.slice A n c, .int .i64 (tsize r), .int .i64 (err r)]) ∧ w'.ownsRow w.heap.size 5 1 (.slice A n c) n (bv (got r)) ∧ Below w.heap.size w w'

set_option maxHeartbeats 800000 in
theorem take_any (B : Nat) (A : Option Addr) (n c : Nat) (l : List UInt8) (w : World) (hr : Bytes w B A n c l) (hB : B ≤ w.heap.size) :
    Calls Tryz.prog 127 #[.slice A n c] w (Taken w (tk l)) := by
  have HR := Lib.hid hr
  clear hr
  go_enter Tryz.func127, Tryz.ntmps127
  go_wp2_with fail
  refine (front_any B A n c l w HR.out hB).mono ?_
  rintro e w1 (⟨k, hk, rfl, hb1⟩ | ⟨p, A1, c1, x, hk, rfl, hy1, hb1⟩)
  · have h3 := tk_err hk
    have hkn : ((k : Int) != 0) = true := by simp; omega
    have HK := Lib.hid hk
    have HB1 := Lib.hid hb1
    clear hk hb1
    go_wp2
    refine bodyPost_ret (v := .tuple #[.slice none 0 0, .int .i64 0, .int .i64 k]) (by simp [results, Tryz.results127, go_sem]) rfl ?_
    rw [HK.out]
    exact ⟨none, 0, 0, rfl, World.ownsRow_nil _ _ _ _, HB1.out.alloc HB1.out.size _⟩
  · have hf := (tk_fits hk).2
    have HK := Lib.hid hk
    have HY1 := Lib.hid hy1
    have HB1 := Lib.hid hb1
    clear hk hb1 hy1
    generalize hpl : p.length = m at hf HY1
    have HPL := Lib.hid hpl
    clear hpl
    go_wp2_with fail
    have hc0 : (w1.alloc (.cells #[.slice A1 m c1, .int .u32 x] 144)).cell? ⟨w1.heap.size, 0, none⟩ = some (.slice A1 m c1) := by simp
    have hc1 : (w1.alloc (.cells #[.slice A1 m c1, .int .u32 x] 144)).cell? ⟨w1.heap.size, 1, none⟩ = some (.int .u32 x) := by simp
    have HW : Hid (Below w.heap.size w (w1.alloc (.cells #[.slice A1 m c1, .int .u32 x] 144))) := HB1.out.alloc HB1.out.size _
    have HY2 : Hid (Bytes (w1.alloc (.cells #[.slice A1 m c1, .int .u32 x] 144)) B A1 m c1 p) := HY1.out.alloc (Nat.le_trans hB HB1.out.size) _
    generalize w1.alloc (.cells #[.slice A1 m c1, .int .u32 x] 144) = W at hc0 hc1 HW HY2
    generalize w1.heap.size = g at hc0 hc1
    have hBW : B ≤ W.heap.size := Nat.le_trans hB HW.out.size
    go_region_held3 (fun w' => w'.cell? ⟨g, 0, none⟩ = some (.slice A1 m c1) ∧ w'.cell? ⟨g, 1, none⟩ = some (.int .u32 x) ∧ Below W.heap.size W w')
      (first
        | exact held2 (held_start W) hc0 hc1
        | (go_split_ands; exact held2 (held_call (by assumption) hbc) hc0 hc1)
        | (go_split_ands; exact held2 (held_call (by assumption) hbs) hc0 hc1))
      (first
        | (go_at_call 53; go_split_ands; refine (clone_any B _ _ _ p _ (HY2.out.below (Below.mono (by assumption) hBW)) (Nat.le_trans hBW (Below.size (by assumption))) (by omega)).mono ?_; rintro e wc ⟨Ac, cc, rfl, hyc, hbc⟩)
        | (go_at_call 98; refine (size_any _ _ _ _ _ hf).mono ?_; rintro e ws ⟨rfl, hbs⟩)
        | fail)
    have HS := Lib.hid (held_call (held_call (held_start W) hbc) hbs)
    have HYc := Lib.hid (own_mono (own_keep hyc hbs) HW.out.size)
    clear hbc hbs hyc
    go_wp2
    refine bodyPost_ret (v := .tuple #[.slice Ac m cc, .int .i64 (8 + m), .int .i64 0]) (by simp [results, Tryz.results127, go_sem]) rfl ?_
    rw [HK.out]
    exact ⟨Ac, m, cc, by rw [tsize, HPL.out]; rfl, HYc.out, held_two HW.out HS.out⟩

set_option maxHeartbeats 800000 in
theorem refput_any (B : Nat) (A : Option Addr) (n c : Nat) (l : List UInt8) (w : World) (hr : Bytes w B A n c l) (hB : B ≤ w.heap.size) :
    Calls Tryz.prog 56 #[.slice A n c] w (Putted w (put l)) := by
  have hlen := hr.len
  have hle := hr.le
  by_cases hbig : 1048576 < n
  · have HE := Lib.hid (show put l = .error 1 by unfold put; rw [if_pos (by omega)])
    clear hr hlen
    go_enter Tryz.func56, Tryz.ntmps56
    go_wp2
    go_ret2
    rw [HE.out]
    exact ⟨none, 0, 0, rfl, World.ownsRow_nil _ _ _ _, Below.refl _ _⟩
  · have hn : n ≤ 1048576 := by omega
    have HE := Lib.hid (show put l = .ok (big n 4 ++ (big (sum (big n 4 ++ l)) 4 ++ l)) by unfold put; rw [if_neg (by omega), recB, hlen])
    have HR := Lib.hid hr
    clear hr hlen hbig
    go_enter Tryz.func56, Tryz.ntmps56
    go_wp2_with fail
    refine (big_any n 4 _ (by omega) (by omega) (by omega) (by omega)).mono ?_
    rintro e w1 ⟨A1, c1, rfl, hown1, hg1⟩
    rw [Int.toNat_natCast, big_length] at hown1
    rw [Int.toNat_natCast, big_length]
    have HB1 : Hid (Below w.heap.size w w1) := (Below.refl w.heap.size w).grown hg1.1 (Nat.le_refl _) (fun k hk => by cases hk)
    have HO1 := Lib.hid hown1
    have HY1 : Hid (Bytes w1 w1.heap.size A1 4 c1 (big n 4)) := Bytes.of_own hown1
    clear hown1 hg1
    go_wp2_with fail
    refine (Crc.refsum_val _ 4 _ (zs (big n 4)) _ (sum (big n 4) : Nat) (row8 HY1.out (Nat.le_refl _)) (sum_cast _).symm).mono ?_
    rintro e w2 ⟨rfl, rfl⟩
    have hs1 := sum_lt (big n 4)
    go_wp2_with fail
    refine (Crc.refmore_val _ _ n _ (zs l) _ (sum (big n 4 ++ l) : Nat) (by omega) (by omega) (row8 (HR.out.below (HB1.out.mono hB)) (Nat.le_trans hB HB1.out.size)) (more_sum _ _)).mono ?_
    rintro e w2 ⟨rfl, rfl⟩
    have hs2 := sum_lt (big n 4 ++ l)
    generalize sum (big n 4 ++ l) = x at hs2 HE
    generalize sum (big n 4) = x0 at hs1
    go_wp2_with fail
    refine (big_any x 4 _ (by omega) (by omega) (by omega) (by omega)).mono ?_
    rintro e w2 ⟨A2, c2, rfl, hown2, hg2⟩
    rw [Int.toNat_natCast, big_length] at hown2
    rw [Int.toNat_natCast, big_length]
    have HB2 := Lib.hid ((Below.refl w1.heap.size w1).grown hg2.1 (Nat.le_refl _) (fun k hk => by cases hk))
    have HO2 := Lib.hid (own_keep HO1.out HB2.out)
    have HY2 : Hid (Bytes w2 w2.heap.size A2 4 c2 (big x 4)) := Bytes.of_own hown2
    have HBB := Lib.hid (held_two HB1.out HB2.out)
    clear hown2 hg2 HO1
    go_wp2_with (first
      | (at_builtin
         refine wpList_append_row rfl (.tmp 17) (.tmp 20) rfl eb w.heap.size _ 4 (bv (big n 4)) rfl HO2.out _ _ 4 c2 (bv (big x 4)) rfl HY2.out (bv_one _) (by omega) (by omega) HBB.out.size ?_
         intro A3 c3 w3 hown3 _ hb3
         rw [← bv_append] at hown3
         have HO3 := Lib.hid hown3
         have HB3 := Lib.hid (HBB.out.trans hb3)
         clear hown3 hb3)
      | (at_builtin
         refine wpList_append_row rfl (.tmp 22) (.tmp 23) rfl eb w.heap.size _ 8 (bv (big n 4 ++ big x 4)) rfl HO3.out B A n c (bv l) rfl (HR.out.below (HB3.out.mono hB)) (bv_one _) (by omega) (by omega) HB3.out.size ?_
         intro A4 c4 w4 hown4 _ hb4
         rw [← bv_append, List.append_assoc] at hown4
         have HO4 := Lib.hid hown4
         have HB4 := Lib.hid (HB3.out.trans hb4)
         clear hown4 hb4)
      | fail)
    go_ret2
    rw [HE.out]
    exact ⟨A4, 8 + n, c4, rfl, HO4.out, HB4.out⟩
set_option maxHeartbeats 800000 in
theorem reftake_any (B : Nat) (A : Option Addr) (n c : Nat) (l : List UInt8) (w : World) (hr : Bytes w B A n c l) (hB : B ≤ w.heap.size) :
    Calls Tryz.prog 82 #[.slice A n c] w (Taken w (tk l)) := by
  have hlen := hr.len
  have hle := hr.le
  by_cases h8 : n < 8
  · have HE := Lib.hid (tk_short (b := l) (by omega))
    clear hr hlen
    go_enter Tryz.func82, Tryz.ntmps82
    go_wp2
    refine bodyPost_ret (v := .tuple #[.slice none 0 0, .int .i64 0, .int .i64 2]) (by simp [results, Tryz.results82, go_sem]) rfl ?_
    rw [HE.out]
    exact ⟨none, 0, 0, rfl, World.ownsRow_nil _ _ _ _, Below.refl _ _⟩
  · obtain ⟨b, off, rfl, hb, _⟩ := hr.2.2.2 (by omega)
    have HL := Lib.hid hlen
    have hx := num4_lt (r := l) (by omega)
    have H4 := Lib.hid (hr.front (k := 4) (by omega))
    have HR := Lib.hid hr
    clear hr hlen
    generalize hy : num (l.take 4) = y at hx
    have HY := Lib.hid hy
    clear hy
    by_cases hbig : 1048576 < y
    · have HE := Lib.hid (tk_long (b := l) (by rw [HL.out]; omega) (by rw [HY.out]; exact hbig))
      go_enter Tryz.func82, Tryz.ntmps82
      go_wp2_with fail
      refine (number_any B _ 4 c (l.take 4) _ H4.out (by omega)).mono ?_
      rintro e w1 ⟨rfl, rfl⟩
      rw [HY.out]
      go_wp2
      refine bodyPost_ret (v := .tuple #[.slice none 0 0, .int .i64 0, .int .i64 3]) (by simp [results, Tryz.results82, go_sem]) rfl ?_
      rw [HE.out]
      exact ⟨none, 0, 0, rfl, World.ownsRow_nil _ _ _ _, Below.refl _ _⟩
    · have hsm : y ≤ 1048576 := by omega
      clear hbig
      by_cases hlk : n - 8 < y
      · have HE := Lib.hid (tk_lacks (b := l) (by rw [HL.out]; omega) (by rw [HY.out]; exact hsm) (by rw [HY.out, HL.out]; exact hlk))
        go_enter Tryz.func82, Tryz.ntmps82
        go_wp2_with fail
        refine (number_any B _ 4 c (l.take 4) _ H4.out (by omega)).mono ?_
        rintro e w1 ⟨rfl, rfl⟩
        rw [HY.out]
        go_wp2
        refine bodyPost_ret (v := .tuple #[.slice none 0 0, .int .i64 0, .int .i64 2]) (by simp [results, Tryz.results82, go_sem]) rfl ?_
        rw [HE.out]
        exact ⟨none, 0, 0, rfl, World.ownsRow_nil _ _ _ _, Below.refl _ _⟩
      · have hy8 : y ≤ n - 8 := by omega
        have hy9 : (8 : Int) + y ≤ c := by omega
        have hc4 : ¬ c = 4 := by omega
        have hsl : ∀ w, (Instr.sliceAt 31 (.slice (some ⟨b, off, none⟩) n c) (some (.int .i64 8)) (some (.int .i64 (8 + (y : Int)))) none).run Tryz.prog w = .ok (.slice (cutAt (some ⟨b, off, none⟩) c 8) y (c - 8)) w := fun w => run_mid w _ n c 8 y (by omega) rfl
        have HP := Lib.hid ((HR.out.cut (k := 8) (by omega)).front (k := y) (by omega))
        have HM := Lib.hid (HR.out.mid (a := 4) (m := 4) (by omega) hc4)
        generalize cutAt (some ⟨b, off, none⟩) c 8 = Ar at hsl HP
        have h8c : (8 : Int) ≤ (c : Int) := by omega
        have h4c : (4 : Int) ≤ (c : Int) := by omega
        clear hlk
        have h4l : (l.take 4).length = 4 := by rw [List.length_take, HL.out]; omega
        have HBG : Hid (big y 4 = l.take 4) := by
          have := big_num (l.take 4)
          rw [h4l, HY.out] at this
          exact this
        clear h4l
        have HPL : Hid (((l.drop 8).take (num (l.take 4))).length = y) := by
          rw [HY.out]
          exact HP.out.len
        generalize hv : sum (l.take 4 ++ (l.drop 8).take y) = v
        have hvl : v < 4294967296 := by rw [← hv]; exact sum_lt _
        have HV := Lib.hid hv
        clear hv
        generalize hq : num ((l.drop 4).take 4) = q
        have HQ := Lib.hid hq
        clear hq
        have hs1 := sum_lt (l.take 4)
        generalize hz : sum (l.take 4) = z0 at hs1
        have HZ := Lib.hid hz
        clear hz
        have hwr : IntKind.u64.wrap (v : Int) = v := by rw [IntKind.wrap_u64]; omega
        go_enter Tryz.func82, Tryz.ntmps82
        go_wp2_with fail
        refine (number_any B _ 4 c (l.take 4) _ H4.out (by omega)).mono ?_
        rintro e w1 ⟨rfl, rfl⟩
        rw [HY.out]
        go_wp2_with fail
        go_region_held3 (fun w' => Below w.heap.size w w')
          (first
            | exact held_start w
            | assumption)
          (first
            | (go_at_call 77; refine (Crc.refsum_val _ 4 _ (zs (l.take 4)) _ (z0 : Nat) (row8 (H4.out.below (Below.mono (by assumption) hB)) (Nat.le_trans hB (Below.size (by assumption)))) (by rw [← HZ.out]; exact (sum_cast _).symm)).mono ?_; rintro e w1 ⟨rfl, rfl⟩)
            | (go_at_call 76; refine (Crc.refmore_val _ _ y _ (zs ((l.drop 8).take y)) _ (v : Nat) (by omega) (by omega) (row8 (HP.out.below (Below.mono (by assumption) hB)) (Nat.le_trans hB (Below.size (by assumption)))) (by rw [← HZ.out, ← HV.out]; exact more_sum _ _)).mono ?_; rintro e w1 ⟨rfl, rfl⟩)
            | (go_at_call 83; refine (number_any B _ 4 _ ((l.drop 4).take 4) _ (HM.out.below (Below.mono (by assumption) hB)) (by omega)).mono ?_; rintro e w1 ⟨rfl, rfl⟩)
            | fail)
        rw [HQ.out]
        have HW := Lib.hid (held_start w)
        generalize w.drew = W at HW
        by_cases heq : q = v
        · have HE := Lib.hid (tk_ok (b := l) (by rw [HL.out]; omega) (by rw [HY.out]; exact hsm) (by rw [HY.out, HL.out]; exact hy8) (by rw [HQ.out, HY.out, HV.out]; exact heq))
          subst heq
          go_wp2_with (first
            | (at_builtin
               refine wpList_append_row rfl (.tmp 35) (.tmp 36) rfl eb w.heap.size _ 0 [] rfl (own_empty _ _ _ _ rfl HW.out.size) B Ar y (c - 8) (bv ((l.drop 8).take y)) rfl ((HP.out.below (HW.out.mono hB)).alloc (Nat.le_trans hB HW.out.size) _) (bv_one _) (by omega) (by omega) (by have := HW.out.size; simp; omega) ?_
               intro A1 c1 w1 hown1 _ hb1
               rw [Nat.zero_add, List.nil_append] at hown1
               rw [Nat.zero_add]
               have HY1 := Lib.hid hown1
               have HB1 := Lib.hid ((HW.out.alloc HW.out.size _).trans hb1)
               clear hown1 hb1)
            | fail)
          refine bodyPost_ret (v := .tuple #[.slice A1 y c1, .int .i64 (8 + y), .int .i64 0]) (by simp [results, Tryz.results82, go_sem]) rfl ?_
          rw [HE.out]
          exact ⟨A1, y, c1, by rw [tsize, HPL.out]; rfl, by rw [HY.out]; exact HY1.out, HB1.out⟩
        · have hne : ((v : Int) != (q : Int)) = true := by simp; omega
          have HE := Lib.hid (tk_bad (b := l) (by rw [HL.out]; omega) (by rw [HY.out]; exact hsm) (by rw [HY.out, HL.out]; exact hy8) (by rw [HQ.out, HY.out, HV.out]; exact heq))
          clear heq
          go_wp2
          refine bodyPost_ret (v := .tuple #[.slice none 0 0, .int .i64 0, .int .i64 4]) (by simp [results, Tryz.results82, go_sem]) rfl ?_
          rw [HE.out]
          exact ⟨none, 0, 0, rfl, World.ownsRow_nil _ _ _ _, HW.out⟩
end Go.Proofs.YtedfddnbgljcjaaGreat.Rec
