/-
  The document's functions at an item by value; three items in one row.
-/
import Derived.Test.YtlkjmdkmcaaihaaRbMay
import Derived.Test.YtlkjmdkmcaaihaaBtGather
import Derived.Test.YtlkjmdkmcaaihaaBtHelp
import Derived.Test.YtlkjmdkmcaaihaaBtSome
namespace Go.Proofs.Ytlkjmdkmcaaihaa.Bt
set_option linter.unusedVariables false
set_option maxRecDepth 100000
open Go.RowKit Base FieldMath TxnMath BatchMath
open GuardMath (Gp noGp)
open Gd (Gps ov ov_append ov_one ov_length ocells oval oel)
open Txn (one_fld2 changeFields_any refflag_any)
open Go.Proofs.Ytlkjmdkmcaaihaa.Field (fv fv_append fv_one fv_length fval Flds ef ret_bool empty_iff num_any text_any Encoded)
set_option linter.ambiguousOpen false
set_option linter.unusedSimpArgs false

section
variable {w w1 W : World} {base s N : Nat} {v v' : Value} {xs : List Value} {T : TypeId} {cs : Array Value}
theorem num_o (n : Int) (w : World) (h : OB w base v N xs) :
    Calls Try.prog 28 #[.int .i64 n] w fun e w' => e = .returned (.agg #[.int .i64 1, .int .i64 n, .string ⟨#[]⟩]) ∧ Below w.heap.size w w' ∧ OB w' base v N xs :=
  (num_any n w).mono fun _ _ ⟨he, hb⟩ => ⟨he, hb, h.keep hb⟩
theorem flag_o (b : Bool) (w : World) (h : OB w base v N xs) :
    Calls Try.prog 30 #[.bool b] w fun e w' => e = .returned (.agg #[.int .i64 1, .int .i64 (flag b), .string ⟨#[]⟩]) ∧ Below w.heap.size w w' ∧ OB w' base v N xs :=
  (refflag_any b w).mono fun _ _ ⟨he, hb⟩ => ⟨he, hb, h.keep hb⟩
end
theorem own_two (w : World) (base a b : _) {s : Nat} (hs : s = w.heap.size) (hb : base ≤ w.heap.size) : (w.alloc (.cells #[.int .i64 1, .int .i64 a, .string ⟨#[]⟩, .int .i64 1, .int .i64 b, .string ⟨#[]⟩] 59)).ownsRow base 59 3 (.slice (some ⟨s, 0, none⟩) 2 2) 2 (fv [numF a, numF b]) := by
  subst hs
  exact World.ownsRow_lit w #[.int .i64 1, .int .i64 a, .string ⟨#[]⟩, .int .i64 1, .int .i64 b, .string ⟨#[]⟩] 2 hb (by unfold maxLen; omega) rfl
theorem seven_ntF (w : World) (e : TypeId) (x : Nt) {s : Nat} (hs : s = w.heap.size) : Flds (w.alloc (.cells #[.int .i64 1, .int .i64 x.kind, .string ⟨#[]⟩, .int .i64 1, .int .i64 x.id, .string ⟨#[]⟩, .int .i64 1, .int .i64 x.tbl, .string ⟨#[]⟩, .int .i64 1, .int .i64 x.wt, .string ⟨#[]⟩, .int .i64 1, .int .i64 x.at_, .string ⟨#[]⟩, .int .i64 1, .int .i64 x.cur, .string ⟨#[]⟩, .int .i64 1, .int .i64 (flag x.done), .string ⟨#[]⟩] e)) (w.heap.size + 1) (some ⟨s, 0, none⟩) 7 7 (ntF x) :=
  Row.lit w #[.int .i64 1, .int .i64 x.kind, .string ⟨#[]⟩, .int .i64 1, .int .i64 x.id, .string ⟨#[]⟩, .int .i64 1, .int .i64 x.tbl, .string ⟨#[]⟩, .int .i64 1, .int .i64 x.wt, .string ⟨#[]⟩, .int .i64 1, .int .i64 x.at_, .string ⟨#[]⟩, .int .i64 1, .int .i64 x.cur, .string ⟨#[]⟩, .int .i64 1, .int .i64 (flag x.done), .string ⟨#[]⟩] e (0, 0) hs rfl (by omega)
set_option maxHeartbeats 12800000 in
theorem refencode_any (B : Nat) (L : Int) (A : Option Addr) (n c : Nat) (l : List Gp) (A' : Option Addr) (n' c' : Nat) (m : List Nt) (w : World) (h1 : Gps w B A n c l) (h2 : Nts w B A' n' c' m) (hB : B ≤ w.heap.size) :
    Calls Try.prog 14 #[.agg #[.int .i64 L, .slice A n c, .slice A' n' c']] w (EncI w ⟨L, l, m⟩) := by
  have HL := Lib.hid h1.len
  have HL' := Lib.hid h2.len
  have hle := h1.le
  have hle' := h2.le
  have HC := Lib.hid h1
  have HS := Lib.hid h2
  have HW : Hid (Below w.heap.size w (w.alloc (.cells #[.int .i64 L, .slice A n c, .slice A' n' c'] 25))) := (Below.refl _ _).alloc (Nat.le_refl _) _
  have HX : Hid (Blk (w.alloc (.cells #[.int .i64 L, .slice A n c, .slice A' n' c'] 25)) w.heap.size 25 #[.int .i64 L, .slice A n c, .slice A' n' c']) := Blk.new _ _ _
  clear h1 h2
  go_enter Try.func14, Try.ntmps14
  go_wp2_with fail
  refine (refmay_any B L A n c l A' n' c' m _ (HC.out.below (HW.out.mono hB)) (HS.out.below (HW.out.mono hB)) (Nat.le_trans hB HW.out.size)).mono ?_
  rintro e W ⟨rfl, hb1⟩
  have HX1 := Lib.hid (HX.out.below hb1 HX.out.lt)
  have HB1 := Lib.hid (held_two HW.out hb1)
  have hzW : w.heap.size + 1 ≤ W.heap.size := HX1.out.lt
  clear hb1 HX HW
  cases hm : may ⟨L, l, m⟩ with
  | false =>
    have HM := Lib.hid hm
    clear hm
    go_wp2
    go_ret2
    exact encI_err HM.out rfl HB1.out
  | true =>
    have HM := Lib.hid hm
    have hn : n ≤ 4096 := by have := (may_iff.1 hm).ops; have h3 := HL.out; dsimp only at this; omega
    have hn' : n' ≤ 256 := by have := (may_iff.1 hm).notes; have h3 := HL'.out; dsimp only at this; omega
    clear hm
    have HH0 : Hid (∀ wx, Below W.heap.size W wx → wx.cell? ⟨w.heap.size, 0, none⟩ = some (.int .i64 L) ∧ wx.cell? ⟨w.heap.size, 1, none⟩ = some (.slice A n c) ∧ Below W.heap.size W wx) :=
      fun wx h => ⟨(h.cell HX1.out.lt).trans (HX1.out.cell 0), (h.cell HX1.out.lt).trans (HX1.out.cell 1), h⟩
    go_upto_region 3 with fail
    go_region_held3 (fun wx => wx.cell? ⟨w.heap.size, 0, none⟩ = some (.int .i64 L) ∧ wx.cell? ⟨w.heap.size, 1, none⟩ = some (.slice A n c) ∧ Below W.heap.size W wx)
      (first
        | exact HH0.out _ (held_start W)
        | (go_split_ands; exact HH0.out _ (held_call (by assumption) hb1))
        | (go_split_ands; exact HH0.out _ (held_alloc (by assumption) _)))
      (first
        | (go_at_call 28; refine (num_any _ _).mono ?_; rintro e w1 ⟨rfl, hb1⟩; have hz1 : W.heap.size ≤ w1.heap.size := (by go_split_ands; exact Nat.le_trans (Below.size (by assumption)) hb1.size))
        | fail)
    all_goals (
      have HT3 : Hid (Gat w #[.int .i64 L, .slice A n c, .slice A' n' c'] [numF L, numF (n : Int)] (.slice (some ⟨w1.heap.size, 0, none⟩) 2 2) (w1.alloc (.cells #[.int .i64 1, .int .i64 L, .string ⟨#[]⟩, .int .i64 1, .int .i64 n, .string ⟨#[]⟩] 59))) := by
        go_split_ands
        have hbw : Below W.heap.size W (w1.alloc (.cells #[.int .i64 1, .int .i64 L, .string ⟨#[]⟩, .int .i64 1, .int .i64 n, .string ⟨#[]⟩] 59)) := by assumption
        exact ⟨_, 2, _, rfl, rfl, ⟨own_two w1 (w.heap.size + 1) L n rfl (Nat.le_trans hzW hz1), Nat.le_trans hzW hbw.size⟩, HX1.out.below hbw HX1.out.lt, held_two HB1.out hbw⟩
      generalize (w1.alloc (.cells #[.int .i64 1, .int .i64 L, .string ⟨#[]⟩, .int .i64 1, .int .i64 n, .string ⟨#[]⟩] 59)) = W1 at HT3
      generalize (Value.slice (some ⟨w1.heap.size, 0, none⟩) 2 2) = v0 at HT3
      obtain ⟨pre, hpre⟩ : ∃ pre, pre = [numF L, numF (n : Int)] := ⟨_, rfl⟩
      rw [← hpre] at HT3
      have HPL : Hid (pre.length = 2) := by show _ = _; rw [hpre]; rfl
      have HPRE := Lib.hid hpre
      have HXX := Lib.hid hzW
      clear hpre hb1 hz1 HH0
      go_wp2
      go_loopw [4, 5] (fun v i wr => GatOps w #[.int .i64 L, .slice A n c, .slice A' n' c'] pre l n v i wr) (fun _ i _ => n - (intOf i).toNat)
      case atStart => exact ⟨0, Nat.zero_le _, rfl, by simpa [opsF] using HT3.out⟩
      case round =>
        obtain ⟨k, hk, rfl, A1, N, c1, rfl, hN, hob, hbx, hbel⟩ := hrel
        have HO := Lib.hid hob
        have HXr := Lib.hid hbx
        have HB := Lib.hid hbel
        have HN := Lib.hid hN
        have c1' : wr.cell? ⟨w.heap.size, 1, none⟩ = some (.slice A n c) := hbx.cell 1
        have c2' : wr.cell? ⟨w.heap.size, 2, none⟩ = some (.slice A' n' c') := hbx.cell 2
        have hNl : N ≤ 30000 := by rw [← hN, List.length_append, opsF_length, List.length_take, HPL.out]; omega
        have hgr := HO.out.2
        clear hob hbx hbel hN HT3
        by_cases hlt : k < n
        · obtain ⟨b, off, f, rfl, hb, d0, d1, d2, d3, d4, hget, htake⟩ := (HC.out.below (HB.out.mono hB)).at_ hlt
          have HTK := Lib.hid (show opsF (l.take (k + 1)) = opsF (l.take k) ++ ([numF f.lsn] ++ chF ⟨f.tbl, f.key, f.gone, f.val⟩) by rw [htake, opsF_snoc]; rfl)
          clear hget htake
          obtain ⟨f0, f1, f2, f3, f4⟩ := f
          dsimp only at d0 d1 d2 d3 d4 HTK
          have l1 : (k : Int) < (n : Int) := by omega
          have HY : Hid (Blk (wr.alloc (.cells #[.int .i64 f0, .int .i64 f1, .int .i64 f2, .bool f3, .string f4] 29)) wr.heap.size 29 #[.int .i64 f0, .int .i64 f1, .int .i64 f2, .bool f3, .string f4]) := Blk.new _ _ _
          go_wp2_with fail
          refine (num_any f0 _).mono ?_
          rintro e w1 ⟨rfl, hb1⟩
          have HY1 := Lib.hid (HY.out.below hb1 HY.out.lt)
          have HO1 := Lib.hid ((HO.out.keep ((Below.refl _ _).alloc (Nat.le_refl _) (.cells #[.int .i64 f0, .int .i64 f1, .int .i64 f2, .bool f3, .string f4] 29))).keep hb1)
          have HX2 := Lib.hid ((HXr.out.alloc (.cells #[.int .i64 f0, .int .i64 f1, .int .i64 f2, .bool f3, .string f4] 29)).below hb1 (by have := HXr.out.lt; simp; omega))
          have HB2 := Lib.hid (held_two (held_alloc HB.out (.cells #[.int .i64 f0, .int .i64 f1, .int .i64 f2, .bool f3, .string f4] 29)) hb1)
          have hz1 := HO1.out.2
          clear hb1 HY
          go_wp2_with (first
            | (at_builtin
               refine wpList_append_row rfl (.tmp 32) (.tmp 36) rfl ef (w.heap.size + 1) _ N (fv (pre ++ opsF (l.take k))) rfl (own_keep HO1.out.1 ((Below.refl _ _).alloc (Nat.le_refl _) _)) _ _ 1 1 (fv [numF f0]) rfl (one_fld2 w1 _ (numF f0) rfl) (fv_one _) (by omega) (by omega) (by simp; omega) ?_
               intro A3 c3 w3 hown3 hg3 hb3
               rw [← fv_append] at hown3
               have hY3 := (HY1.out.alloc (.cells #[.int .i64 1, .int .i64 f0, .string ⟨#[]⟩] 59)).grown hg3.1 (fun e => own_ne HO1.out.1 HY1.out (by decide) e.symm)
               have HY3 := Lib.hid hY3
               have e1 : w3.cell? ⟨wr.heap.size, 1, none⟩ = some (.int .i64 f1) := hY3.cell 1
               have e2 : w3.cell? ⟨wr.heap.size, 2, none⟩ = some (.int .i64 f2) := hY3.cell 2
               have e3 : w3.cell? ⟨wr.heap.size, 3, none⟩ = some (.bool f3) := hY3.cell 3
               have e4 : w3.cell? ⟨wr.heap.size, 4, none⟩ = some (.string f4) := hY3.cell 4
               have HO3 := Lib.hid hown3
               have HX3 := Lib.hid ((HX2.out.alloc (.cells #[.int .i64 1, .int .i64 f0, .string ⟨#[]⟩] 59)).below hb3 (by omega))
               have HB3 := Lib.hid ((held_alloc HB2.out (.cells #[.int .i64 1, .int .i64 f0, .string ⟨#[]⟩] 59)).trans (hb3.mono (by omega)))
               have hz3 : w.heap.size + 1 ≤ w3.heap.size := HX3.out.lt
               clear hown3 hg3 hb3 hY3)
            | fail)
          refine (changeFields_any ⟨f1, f2, f3, f4⟩ _).mono ?_
          rintro e w4 ⟨A4, rfl, hf4, hb4⟩
          have HF4 := Lib.hid hf4
          have HX4 := Lib.hid (HX3.out.below hb4 HX3.out.lt)
          have HO4 := Lib.hid (own_keep HO3.out hb4)
          have HB4 := Lib.hid (held_two HB3.out hb4)
          have hz4 : w.heap.size + 1 ≤ w4.heap.size := HX4.out.lt
          clear hf4 hb4
          go_wp2_with (first
            | (at_builtin
               refine wpList_append_row rfl (.tmp 38) (.tmp 48) rfl ef (w.heap.size + 1) _ (N + 1) _ rfl HO4.out _ A4 4 4 (fv (chF ⟨f1, f2, f3, f4⟩)) rfl HF4.out (fv_one _) (by omega) (by omega) hz4 ?_
               intro A5 c5 w5 hown5 _ hb5
               rw [← fv_append, List.append_assoc, List.append_assoc, ← HTK.out] at hown5
               have HO5 : Hid (OB w5 (w.heap.size + 1) (.slice A5 (N + 1 + 4) c5) (N + 1 + 4) (fv (pre ++ opsF (l.take (k + 1))))) := ⟨hown5, Nat.le_trans hz4 hb5.size⟩
               have HX5 := Lib.hid (HX4.out.below hb5 (by omega))
               have HB5 := Lib.hid (HB4.out.trans (hb5.mono (by omega)))
               clear hown5 hb5)
            | fail)
          go_roundw
          case rel => exact ⟨k + 1, by omega, by go_num, A5, N + 1 + 4, c5, rfl, by rw [HTK.out, ← List.append_assoc, List.length_append, HN.out]; rfl, HO5.out, HX5.out, HB5.out⟩
          case measure => simp [intOf]; omega
        · obtain rfl : k = n := by omega
          have hlk : l.take k = l := List.take_of_length_le (by rw [HL.out]; omega)
          rw [hlk] at HO HN
          have l1 : ¬ (k : Int) < (k : Int) := by omega
          clear hlk hlt hk
          go_wp2_with fail
          refine (num_any _ _).mono ?_
          rintro e w2 ⟨rfl, hb2⟩
          have HX2 := Lib.hid (HXr.out.below hb2 HXr.out.lt)
          have HB2 := Lib.hid (held_two HB.out hb2)
          have HO2 := Lib.hid (HO.out.keep hb2)
          have hlt2 : w.heap.size < w2.heap.size := HX2.out.lt
          clear hb2
          go_wp2_with (first
            | (at_builtin
               refine wpList_append_row rfl (.tmp 50) (.tmp 55) rfl ef (w.heap.size + 1) _ N (fv (pre ++ opsF l)) rfl (own_keep HO2.out.1 ((Below.refl _ _).alloc (Nat.le_refl _) _)) _ _ 1 1 (fv [numF n']) rfl (one_fld2 w2 _ (numF n') rfl) (fv_one _) (by omega) (by omega) (by simp; omega) ?_
               intro A3 c3 w3 hown3 _ hb3
               rw [← fv_append] at hown3
               have HT3 : Hid (Gat w #[.int .i64 L, .slice A k c, .slice A' n' c'] (pre ++ opsF l ++ [numF (n' : Int)]) (.slice A3 (N + 1) c3) w3) :=
                 ⟨A3, N + 1, c3, rfl, by rw [List.length_append, HN.out]; rfl, ⟨hown3, Nat.le_trans (by simp; omega) hb3.size⟩, (HX2.out.alloc _).below hb3 (by omega), (held_alloc HB2.out _).trans (hb3.mono (by omega))⟩
               have q3 : w3.cell? ⟨w.heap.size, 2, none⟩ = some (.slice A' n' c') := by obtain ⟨_, _, _, _, _, _, h, _⟩ := HT3.out; exact h.cell 2
               clear hown3 hb3)
            | fail)
          have HE3 : Hid (pre ++ opsF l ++ [numF (n' : Int)] ++ ntsF m = ifl ⟨L, l, m⟩) := by
            show _ = _
            unfold ifl
            dsimp only
            rw [HPRE.out, HL.out, HL'.out]
          have HPL2 : Hid ((pre ++ opsF l ++ [numF (n' : Int)]).length ≤ 30001) := by show _ ≤ _; rw [List.length_append, HN.out]; simp; omega
          generalize pre ++ opsF l ++ [numF (n' : Int)] = pre2 at HT3 HE3 HPL2
          clear HX2 HB2 HO2 HO HN HXr HB
          go_loopw [4, 7] (fun v i wr => GatNts w #[.int .i64 L, .slice A k c, .slice A' n' c'] pre2 m n' v i wr) (fun _ i _ => n' - (intOf i).toNat)
          case atStart => exact ⟨0, Nat.zero_le _, rfl, by simpa [ntsF] using HT3.out⟩
          case round =>
            obtain ⟨j, hj, rfl, A5, N5, c5, rfl, hN, hob, hbx, hbel⟩ := hrel
            have HO := Lib.hid hob
            have HXr := Lib.hid hbx
            have HB := Lib.hid hbel
            have HN := Lib.hid hN
            have e2' : wr.cell? ⟨w.heap.size, 2, none⟩ = some (.slice A' n' c') := hbx.cell 2
            have hNl5 : N5 ≤ 40000 := by rw [← hN, List.length_append, ntsF_length, List.length_take]; have := HPL2.out; omega
            clear hob hbx hbel hN HT3 q3
            by_cases hlt : j < n'
            · obtain ⟨b, off, f, rfl, hb, d0, d1, d2, d3, d4, d5, d6, hget, htake⟩ := (HS.out.below (HB.out.mono hB)).at_ hlt
              have HTK := Lib.hid (show ntsF (m.take (j + 1)) = ntsF (m.take j) ++ ntF f by rw [htake, ntsF_snoc])
              clear hget htake
              obtain ⟨f0, f1, f2, f3, f4, f5, f6⟩ := f
              dsimp only at d0 d1 d2 d3 d4 d5 d6
              have l1 : (j : Int) < (n' : Int) := by omega
              have hgr5 := HO.out.2
              go_wp2_with fail
              have hx : Blk (wr.alloc (.cells #[.int .i64 f0, .int .i64 f1, .int .i64 f2, .int .i64 f3, .int .i64 f4, .int .i64 f5, .bool f6] 27)) wr.heap.size 27 #[.int .i64 f0, .int .i64 f1, .int .i64 f2, .int .i64 f3, .int .i64 f4, .int .i64 f5, .bool f6] := Blk.new _ _ _
              have HOV : Hid (OB (wr.alloc (.cells #[.int .i64 f0, .int .i64 f1, .int .i64 f2, .int .i64 f3, .int .i64 f4, .int .i64 f5, .bool f6] 27)) (w.heap.size + 1) (.slice A5 N5 c5) N5 (fv (pre2 ++ ntsF (m.take j)))) := HO.out.keep ((Below.refl _ _).alloc (Nat.le_refl _) _)
              have HBV : Hid (Below w.heap.size w (wr.alloc (.cells #[.int .i64 f0, .int .i64 f1, .int .i64 f2, .int .i64 f3, .int .i64 f4, .int .i64 f5, .bool f6] 27))) := held_alloc HB.out _
              have HXV : Hid (Blk (wr.alloc (.cells #[.int .i64 f0, .int .i64 f1, .int .i64 f2, .int .i64 f3, .int .i64 f4, .int .i64 f5, .bool f6] 27)) w.heap.size 25 #[.int .i64 L, .slice A k c, .slice (some ⟨b, off, none⟩) n' c']) := HXr.out.alloc _
              have hne : (Value.slice A5 N5 c5).ownBlock ≠ some wr.heap.size := fun e => by have := (HO.out.1.lt _ e).2; omega
              generalize (wr.alloc (.cells #[.int .i64 f0, .int .i64 f1, .int .i64 f2, .int .i64 f3, .int .i64 f4, .int .i64 f5, .bool f6] 27)) = V at hx HOV HBV HXV
              generalize wr.heap.size = s5 at hx hne
              have HGV : Hid (w.heap.size + 1 ≤ V.heap.size) := HOV.out.2
              have HNE := Lib.hid hne
              have HX5 := Lib.hid hx
              have HH : Hid (∀ (wx : World), Blk wx s5 27 #[.int .i64 f0, .int .i64 f1, .int .i64 f2, .int .i64 f3, .int .i64 f4, .int .i64 f5, .bool f6] ∧ Below (w.heap.size + 1) V wx → wx.cell? ⟨s5, 0, none⟩ = some (.int .i64 f0) ∧ wx.cell? ⟨s5, 1, none⟩ = some (.int .i64 f1) ∧ wx.cell? ⟨s5, 2, none⟩ = some (.int .i64 f2) ∧ wx.cell? ⟨s5, 3, none⟩ = some (.int .i64 f3) ∧ wx.cell? ⟨s5, 4, none⟩ = some (.int .i64 f4) ∧ wx.cell? ⟨s5, 5, none⟩ = some (.int .i64 f5) ∧ wx.cell? ⟨s5, 6, none⟩ = some (.bool f6) ∧ Blk wx s5 27 #[.int .i64 f0, .int .i64 f1, .int .i64 f2, .int .i64 f3, .int .i64 f4, .int .i64 f5, .bool f6] ∧ Below (w.heap.size + 1) V wx) :=
                fun wx h => ⟨h.1.cell 0, h.1.cell 1, h.1.cell 2, h.1.cell 3, h.1.cell 4, h.1.cell 5, h.1.cell 6, h.1, h.2⟩
              clear hx hne
              go_region_held3 (fun wx => wx.cell? ⟨s5, 0, none⟩ = some (.int .i64 f0) ∧ wx.cell? ⟨s5, 1, none⟩ = some (.int .i64 f1) ∧ wx.cell? ⟨s5, 2, none⟩ = some (.int .i64 f2) ∧ wx.cell? ⟨s5, 3, none⟩ = some (.int .i64 f3) ∧ wx.cell? ⟨s5, 4, none⟩ = some (.int .i64 f4) ∧ wx.cell? ⟨s5, 5, none⟩ = some (.int .i64 f5) ∧ wx.cell? ⟨s5, 6, none⟩ = some (.bool f6) ∧ Blk wx s5 27 #[.int .i64 f0, .int .i64 f1, .int .i64 f2, .int .i64 f3, .int .i64 f4, .int .i64 f5, .bool f6] ∧ Below (w.heap.size + 1) V wx)
                (first
                  | exact HH.out V.drew ⟨HX5.out, (Below.refl _ _).drew⟩
                  | (go_split_ands; exact HH.out _ (bx_call HGV.out hb1 (by assumption) (by assumption)))
                  | (go_split_ands; exact HH.out _ (bx_alloc HGV.out _ (by assumption) (by assumption)))
                  | (go_split_ands; exact HH.out _ (bx_grew hb9 hg9 HNE.out (by assumption) (by assumption))))
                (first
                  | (go_at_call 28; refine (num_o (base := w.heap.size + 1) (v := .slice A5 N5 c5) (N := N5) (xs := fv (pre2 ++ ntsF (m.take j))) _ _ (by first | assumption | exact HOV.out)).mono ?_; rintro e w1 ⟨rfl, hb1, ho1⟩)
                  | (go_at_call 30; refine (flag_o (base := w.heap.size + 1) (v := .slice A5 N5 c5) (N := N5) (xs := fv (pre2 ++ ntsF (m.take j))) _ _ (by assumption)).mono ?_; rintro e w1 ⟨rfl, hb1, ho1⟩)
                  | (refine step_append_row (by rfl) (.tmp 69) (.tmp 91) (by rfl) ef (w.heap.size + 1) (.slice A5 N5 c5) N5 (fv (pre2 ++ ntsF (m.take j))) (by rfl) (own_keep ho1.1 ((Below.refl _ _).alloc (Nat.le_refl _) _)) _ _ 7 7 (fv (ntF ⟨f0, f1, f2, f3, f4, f5, f6⟩)) (by rfl) (seven_ntF _ _ ⟨f0, f1, f2, f3, f4, f5, f6⟩ (by rfl)) (fv_one _) (by omega) (by omega) (by have := ho1.2; simp; omega) ?_; intro A9 c9 w9 hown9 hg9 hb9)
                  | fail)
              all_goals (
                have HZ : Hid (Gat w #[.int .i64 L, .slice A k c, .slice (some ⟨b, off, none⟩) n' c'] (pre2 ++ ntsF (m.take (j + 1))) (.slice A9 (N5 + 7) c9) w9) := by
                  go_split_ands
                  have hbw : Below (w.heap.size + 1) V w9 := by assumption
                  rw [← fv_append, List.append_assoc, ← HTK.out] at hown9
                  refine ⟨A9, N5 + 7, c9, rfl, ?_, ⟨hown9, Nat.le_trans HGV.out hbw.size⟩, HXV.out.below hbw (Nat.lt_succ_self _), HBV.out.trans (hbw.mono (Nat.le_succ _))⟩
                  rw [HTK.out, ← List.append_assoc, List.length_append, HN.out]
                  rfl
                clear hown9 hg9 hb9 hb1 ho1
                go_wp2
                go_roundw
                case rel => exact ⟨j + 1, by omega, by go_num, HZ.out⟩
                case measure => simp [intOf]; omega)
            · obtain rfl : j = n' := by omega
              have hlk : m.take j = m := List.take_of_length_le (by rw [HL'.out]; omega)
              rw [hlk, HE3.out] at HO
              clear hlk hlt hj
              have l1 : ¬ (j : Int) < (j : Int) := by omega
              have HFq := Lib.hid (Flds.of_own HO.out.1)
              go_wp2_with fail
              refine (Field.refencode_any _ A5 N5 c5 _ _ HFq.out (Nat.le_refl _)).mono ?_
              rintro e w9 ⟨A9, n9, c9, rfl, ho9, hb9⟩
              have HO9 := Lib.hid ho9
              have HB9 := Lib.hid (held_two HB.out hb9)
              clear ho9 hb9
              generalize hq : err (enc (ifl ⟨L, l, m⟩)) = q
              have HQ := Lib.hid hq
              clear hq
              go_wp2
              go_ret2
              exact encI_of HM.out (by rw [HQ.out]; rfl) HO9.out HB.out.size HB9.out)
end Go.Proofs.Ytlkjmdkmcaaihaa.Bt

namespace Go.Proofs.Ytlkjmdkmcaaihaa.Bt
set_option linter.unusedVariables false
set_option maxRecDepth 100000
open Go.RowKit Base FieldMath TxnMath BatchMath
open GuardMath (Gp noGp)
open Gd (Gps)
set_option linter.ambiguousOpen false
set_option linter.unusedSimpArgs false

theorem refencode_in (B : Nat) (x : It) (v : Value) (w : World) (h : ItIn w B x v) (hB : B ≤ w.heap.size) : Calls Try.prog 14 #[v] w (EncI w x) := by
  obtain ⟨A, n, c, A', n', c', rfl, h2, h3⟩ := h
  exact refencode_any B x.lsn A n c x.ops A' n' c' x.notes w h2 h3 hB
theorem refmay_in (B : Nat) (x : It) (v : Value) (w : World) (h : ItIn w B x v) (hB : B ≤ w.heap.size) : Calls Try.prog 16 #[v] w fun e w' => e = .returned (.bool (may x)) ∧ Below w.heap.size w w' := by
  obtain ⟨A, n, c, A', n', c', rfl, h2, h3⟩ := h
  exact refmay_any B x.lsn A n c x.ops A' n' c' x.notes w h2 h3 hB
theorem itAt_in {w : World} {B b o : Nat} {x : It} (h : ItAt w B b o x) : ∃ A n c A' n' c', w.cell? ⟨b, o, none⟩ = some (.int .i64 x.lsn) ∧ w.cell? ⟨b, o + 1, none⟩ = some (.slice A n c) ∧ w.cell? ⟨b, o + 2, none⟩ = some (.slice A' n' c') ∧ ItIn w B x (.agg #[.int .i64 x.lsn, .slice A n c, .slice A' n' c']) := by
  obtain ⟨A, n, c, A', n', c', h0, h1, h2, h3, h4⟩ := h
  exact ⟨A, n, c, A', n', c', h0, h1, h2, A, n, c, A', n', c', rfl, h3, h4⟩
section
variable {w : World} {B Z : Nat} {T : TypeId} {x y z : It} {A1 A2 A3 P1 P2 P3 : Option Addr} {n1 n2 n3 c1 c2 c3 m1 m2 m3 q1 q2 q3 : Nat}
theorem its_three (hz : Blk w Z T #[.int .i64 x.lsn, .slice A1 n1 c1, .slice P1 m1 q1, .int .i64 y.lsn, .slice A2 n2 c2, .slice P2 m2 q2, .int .i64 z.lsn, .slice A3 n3 c3, .slice P3 m3 q3])
    (h1 : Gps w B A1 n1 c1 x.ops) (k1 : Nts w B P1 m1 q1 x.notes) (h2 : Gps w B A2 n2 c2 y.ops) (k2 : Nts w B P2 m2 q2 y.notes) (h3 : Gps w B A3 n3 c3 z.ops) (k3 : Nts w B P3 m3 q3 z.notes) (hB : Z < B) : Its w B (some ⟨Z, 0, none⟩) 3 3 [x, y, z] := by
  refine ⟨rfl, Nat.le_refl _, by omega, fun i u hi => ?_⟩
  match i, hi with
  | 0, hi =>
    simp only [List.getElem?_cons_zero, Option.some.injEq] at hi
    subst hi
    exact ⟨Z, 0, rfl, hB, A1, n1, c1, P1, m1, q1, hz.cell 0, hz.cell 1, hz.cell 2, h1, k1⟩
  | 1, hi =>
    simp only [List.getElem?_cons_succ, List.getElem?_cons_zero, Option.some.injEq] at hi
    subst hi
    exact ⟨Z, 0, rfl, hB, A2, n2, c2, P2, m2, q2, hz.cell 3, hz.cell 4, hz.cell 5, h2, k2⟩
  | 2, hi =>
    simp only [List.getElem?_cons_succ, List.getElem?_cons_zero, Option.some.injEq] at hi
    subst hi
    exact ⟨Z, 0, rfl, hB, A3, n3, c3, P3, m3, q3, hz.cell 6, hz.cell 7, hz.cell 8, h3, k3⟩
  | i + 3, hi => simp at hi
theorem its_two (hz : Blk w Z T #[.int .i64 x.lsn, .slice A1 n1 c1, .slice P1 m1 q1, .int .i64 y.lsn, .slice A2 n2 c2, .slice P2 m2 q2])
    (h1 : Gps w B A1 n1 c1 x.ops) (k1 : Nts w B P1 m1 q1 x.notes) (h2 : Gps w B A2 n2 c2 y.ops) (k2 : Nts w B P2 m2 q2 y.notes) (hB : Z < B) : Its w B (some ⟨Z, 0, none⟩) 2 2 [x, y] := by
  refine ⟨rfl, Nat.le_refl _, by omega, fun i u hi => ?_⟩
  match i, hi with
  | 0, hi =>
    simp only [List.getElem?_cons_zero, Option.some.injEq] at hi
    subst hi
    exact ⟨Z, 0, rfl, hB, A1, n1, c1, P1, m1, q1, hz.cell 0, hz.cell 1, hz.cell 2, h1, k1⟩
  | 1, hi =>
    simp only [List.getElem?_cons_succ, List.getElem?_cons_zero, Option.some.injEq] at hi
    subst hi
    exact ⟨Z, 0, rfl, hB, A2, n2, c2, P2, m2, q2, hz.cell 3, hz.cell 4, hz.cell 5, h2, k2⟩
  | i + 2, hi => simp at hi
theorem its_one (hz : Blk w Z T #[.int .i64 x.lsn, .slice A1 n1 c1, .slice P1 m1 q1])
    (h1 : Gps w B A1 n1 c1 x.ops) (k1 : Nts w B P1 m1 q1 x.notes) (hB : Z < B) : Its w B (some ⟨Z, 0, none⟩) 1 1 [x] := by
  refine ⟨rfl, Nat.le_refl _, by omega, fun i u hi => ?_⟩
  match i, hi with
  | 0, hi =>
    simp only [List.getElem?_cons_zero, Option.some.injEq] at hi
    subst hi
    exact ⟨Z, 0, rfl, hB, A1, n1, c1, P1, m1, q1, hz.cell 0, hz.cell 1, hz.cell 2, h1, k1⟩
  | i + 1, hi => simp at hi
end
end Go.Proofs.Ytlkjmdkmcaaihaa.Bt
