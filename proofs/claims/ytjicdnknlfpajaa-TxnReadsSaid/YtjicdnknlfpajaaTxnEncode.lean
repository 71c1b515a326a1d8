/-
  Contracts of package txn's Encode, of the document's May, ChangeFields and Encode: each answers what the plain mathematics says of the transaction.
-/
import Derived.Test.YtjicdnknlfpajaaTxnGather
namespace Go.Proofs.Ytjicdnknlfpajaa.Txn
set_option linter.unusedVariables false
set_option maxRecDepth 100000
open Go.RowKit Base FieldMath TxnMath
open Go.Proofs.Ytjicdnknlfpajaa.Field (fv fv_append fv_one fv_length fval Flds ef ret_bool empty_iff num_any text_any Encoded)
set_option linter.ambiguousOpen false

theorem encT_bad {t : Tx} (h : t.may = false) : encT t = .error 1 := by unfold encT; rw [if_neg (by rw [h]; simp)]
theorem encT_ok {t : Tx} (h : t.may = true) : encT t = .ok (encZ (flds t)) := by unfold encT; rw [if_pos h]
theorem encT_err {w w' : World} {t : Tx} {e : Ending} (h : t.may = false) (he : e = .returned (.tuple #[.slice none 0 0, .int .i64 1])) (hb : Below w.heap.size w w') : EncT w t e w' := by
  unfold EncT
  rw [encT_bad h]
  exact ⟨none, 0, 0, he, World.ownsRow_nil _ _ _ _, hb⟩
theorem encT_of {w w1 w' : World} {t : Tx} {e : Ending} {A : Option Addr} {n c : Nat} (h : t.may = true) (he : e = .returned (.tuple #[.slice A n c, .int .i64 (err (enc (flds t)))])) (ho : w'.ownsRow w1.heap.size 5 1 (.slice A n c) n (bv (got (enc (flds t))))) (hs : w.heap.size ≤ w1.heap.size) (hb : Below w.heap.size w w') : EncT w t e w' := by
  unfold EncT
  rw [encT_ok h, ← enc_flds h]
  exact ⟨A, n, c, he, own_mono ho hs, hb⟩

set_option maxHeartbeats 1600000 in
theorem encode_any (B : Nat) (lsn kind mark : Int) (A : Option Addr) (n c : Nat) (l : List Ch) (A' : Option Addr) (n' c' : Nat) (m : List ByteArray) (w : World) (h1 : Chs w B A n c l) (h2 : Sigs w B A' n' c' m) (hB : B ≤ w.heap.size) :
    Calls Try.prog 14 #[.agg #[.int .i64 lsn, .int .i64 kind, .slice A n c, .slice A' n' c', .int .i64 mark]] w (EncT w ⟨lsn, kind, l, m, mark⟩) := by
  have HL := Lib.hid h1.len
  have HL' := Lib.hid h2.len
  have HC := Lib.hid h1
  have HS := Lib.hid h2
  clear h1 h2
  have HW : Hid (Below w.heap.size w (w.alloc (.cells #[.int .i64 lsn, .int .i64 kind, .slice A n c, .slice A' n' c', .int .i64 mark] 25))) := (Below.refl _ _).alloc (Nat.le_refl _) _
  have HX : Hid (Blk (w.alloc (.cells #[.int .i64 lsn, .int .i64 kind, .slice A n c, .slice A' n' c', .int .i64 mark] 25)) w.heap.size 25 #[.int .i64 lsn, .int .i64 kind, .slice A n c, .slice A' n' c', .int .i64 mark]) := Blk.new _ _ _
  go_enter Try.func14, Try.ntmps14
  go_wp2_with fail
  refine (may_any B lsn kind mark A n c l A' n' c' m _ (HC.out.below (HW.out.mono hB)) (HS.out.below (HW.out.mono hB)) (Nat.le_trans hB HW.out.size)).mono ?_
  rintro e w1 ⟨rfl, hb1⟩
  have hx1 := HX.out.below hb1 HX.out.lt
  have k0 : w1.cell? ⟨w.heap.size, 0, none⟩ = some (.int .i64 lsn) := hx1.cell 0
  have k1 : w1.cell? ⟨w.heap.size, 1, none⟩ = some (.int .i64 kind) := hx1.cell 1
  have k2 : w1.cell? ⟨w.heap.size, 2, none⟩ = some (.slice A n c) := hx1.cell 2
  have k3 : w1.cell? ⟨w.heap.size, 3, none⟩ = some (.slice A' n' c') := hx1.cell 3
  have k4 : w1.cell? ⟨w.heap.size, 4, none⟩ = some (.int .i64 mark) := hx1.cell 4
  have HB1 := Lib.hid (held_two HW.out hb1)
  clear hb1 hx1 HX HW
  cases hm : Tx.may ⟨lsn, kind, l, m, mark⟩ with
  | false =>
    have HM := Lib.hid hm
    clear hm
    go_wp2
    go_ret2
    exact encT_err HM.out rfl HB1.out
  | true =>
    have HM := Lib.hid hm
    have hn : n ≤ 16 := by have := (may_of hm).chs; have h3 := HL.out; dsimp only at this; omega
    have hn' : n' ≤ 2 := by have := (may_of hm).sigs; have h3 := HL'.out; dsimp only at this; omega
    clear hm
    go_wp2_with fail
    refine (fieldsOf_any B lsn kind mark A n c l A' n' c' m _ (HC.out.below (HB1.out.mono hB)) (HS.out.below (HB1.out.mono hB)) (Nat.le_trans hB HB1.out.size) hn hn').mono ?_
    rintro e w2 ⟨A2, n2, c2, rfl, hf2, hb2⟩
    have HF2 := Lib.hid hf2
    have HB2 := Lib.hid (held_two HB1.out hb2)
    clear hf2 hb2
    go_wp2_with fail
    refine (Field.encode_any _ A2 n2 c2 _ _ HF2.out (Nat.le_refl _)).mono ?_
    rintro e w3 ⟨A3, n3, c3, rfl, ho3, hb3⟩
    have HO3 := Lib.hid ho3
    have HB3 := Lib.hid (held_two HB2.out hb3)
    clear ho3 hb3
    generalize hq : err (enc (flds ⟨lsn, kind, l, m, mark⟩)) = q
    have HQ := Lib.hid hq
    clear hq
    go_wp2
    go_ret2
    exact encT_of HM.out (by rw [HQ.out]; rfl) HO3.out HB2.out.size HB3.out

/-! ### the document's May -/
def RMayRel (w : World) (s : Nat) (cs : Array Value) (l : List Ch) (n : Nat) (i : Value) (wr : World) : Prop := ∃ k : Nat, k ≤ n ∧ i = .int .i64 k ∧ (∀ f ∈ l.take k, f.may 8 = true) ∧ Blk wr s 25 cs ∧ Below w.heap.size w wr
set_option maxHeartbeats 3200000 in
theorem refmay_any (B : Nat) (lsn kind mark : Int) (A : Option Addr) (n c : Nat) (l : List Ch) (A' : Option Addr) (n' c' : Nat) (m : List ByteArray) (w : World) (h1 : Chs w B A n c l) (h2 : Sigs w B A' n' c' m) (hB : B ≤ w.heap.size) :
    Calls Try.prog 17 #[.agg #[.int .i64 lsn, .int .i64 kind, .slice A n c, .slice A' n' c', .int .i64 mark]] w fun e w' => e = .returned (.bool (Tx.may ⟨lsn, kind, l, m, mark⟩)) ∧ Below w.heap.size w w' := by
  have HN := Lib.hid h1.len
  have HN' := Lib.hid h2.len
  have HC := Lib.hid h1
  have HS := Lib.hid h2
  clear h1 h2
  have HW : Hid (Below w.heap.size w (w.alloc (.cells #[.int .i64 lsn, .int .i64 kind, .slice A n c, .slice A' n' c', .int .i64 mark] 25))) := (Below.refl _ _).alloc (Nat.le_refl _) _
  have HX : Hid (Blk (w.alloc (.cells #[.int .i64 lsn, .int .i64 kind, .slice A n c, .slice A' n' c', .int .i64 mark] 25)) w.heap.size 25 #[.int .i64 lsn, .int .i64 kind, .slice A n c, .slice A' n' c', .int .i64 mark]) := Blk.new _ _ _
  by_cases l1 : lsn < 1
  · have HE := Lib.hid (may_lsn (kind := kind) (mark := mark) (l := l) (m := m) (show mayLsn lsn = false by unfold mayLsn; rw [decide_eq_false (by omega), Bool.false_and]))
    go_enter Try.func17, Try.ntmps17
    go_wp2
    go_ret
    exact ⟨ret_bool (a := false) HE.out.symm, HW.out⟩
  by_cases l2 : 1099511627776 < lsn
  · have HE := Lib.hid (may_lsn (kind := kind) (mark := mark) (l := l) (m := m) (show mayLsn lsn = false by unfold mayLsn; rw [decide_eq_false (p := lsn ≤ 1099511627776) (by omega), Bool.and_false]))
    go_enter Try.func17, Try.ntmps17
    go_wp2
    go_ret
    exact ⟨ret_bool (a := false) HE.out.symm, HW.out⟩
  have H1 := Lib.hid (show mayLsn lsn = true by unfold mayLsn; rw [decide_eq_true (by omega), decide_eq_true (by omega)]; rfl)
  by_cases k1 : kind = 1
  · subst k1
    by_cases hm : mark = 0
    · subst hm
      have HE := Lib.hid (show Tx.may ⟨lsn, 1, l, m, 0⟩ = (mayChs l && maySigs m) by rw [may_one H1.out]; rfl)
      by_cases n16 : 16 < n
      · have HF := Lib.hid (show mayChs l = false by unfold mayChs; rw [HN.out, decide_eq_false (by omega), Bool.false_and])
        go_enter Try.func17, Try.ntmps17
        go_wp2
        go_ret
        exact ⟨ret_bool (a := false) (by rw [HE.out, HF.out]; rfl), HW.out⟩
      by_cases n2 : 2 < n'
      · have HF := Lib.hid (show maySigs m = false by unfold maySigs; rw [HN'.out, decide_eq_false (by omega), Bool.false_and])
        go_enter Try.func17, Try.ntmps17
        go_wp2
        go_ret
        exact ⟨ret_bool (a := false) (by rw [HE.out, HF.out, Bool.and_false]), HW.out⟩
      have HF1 := Lib.hid (show mayChs l = l.all (Ch.may 8) by unfold mayChs; rw [HN.out, decide_eq_true (by omega), Bool.true_and])
      have HF2 := Lib.hid (show maySigs m = m.all (fun s => decide (s.size ≤ 40)) by unfold maySigs; rw [HN'.out, decide_eq_true (by omega), Bool.true_and])
      go_enter Try.func17, Try.ntmps17
      go_wp2
      go_loopw [3] (fun i wr => RMayRel w w.heap.size #[.int .i64 lsn, .int .i64 1, .slice A n c, .slice A' n' c', .int .i64 0] l n i wr) (fun i _ => n - (intOf i).toNat)
      case atStart => exact ⟨0, Nat.zero_le _, rfl, (fun f hf => by simp at hf), HX.out, HW.out⟩
      case round =>
        obtain ⟨k, hk, rfl, hall, hbx, hbel⟩ := hrel
        have c2 : wr.cell? ⟨w.heap.size, 2, none⟩ = some (.slice A n c) := hbx.cell 2
        have c3 : wr.cell? ⟨w.heap.size, 3, none⟩ = some (.slice A' n' c') := hbx.cell 3
        have HX1 := Lib.hid hbx
        have HA := Lib.hid hall
        have HB := Lib.hid hbel
        clear hall hbel hbx HX HW
        by_cases hlt : k < n
        · obtain ⟨b, off, f, rfl, hb, q0, q1, q2, q3, hget, htake⟩ := (HC.out.below (HB.out.mono hB)).at_ hlt
          have HG := Lib.hid hget
          have HT := Lib.hid htake
          clear hget htake
          obtain ⟨t, ky, g, v⟩ := f
          dsimp only at q0 q1 q2 q3
          go_wp2_with fail
          refine (refmaychange_any t ky g v 8 _).mono ?_
          rintro e w1 ⟨rfl, hb1⟩
          have HB1 := Lib.hid (held_two HB.out hb1)
          have HX2 := Lib.hid (HX1.out.below hb1 HX1.out.lt)
          clear hb1
          cases hm : Ch.may 8 ⟨t, ky, g, v⟩ with
          | true =>
            have HM := Lib.hid hm
            clear hm
            go_wp2
            go_roundw
            case rel => exact ⟨k + 1, by omega, by go_num, take_all HA.out HT.out HM.out, HX2.out, HB1.out⟩
            case measure => simp [intOf]; omega
          | false =>
            have HM := Lib.hid hm
            clear hm
            go_wp2
            go_ret
            exact ⟨ret_bool (a := false) (by rw [HE.out, HF1.out, all_not HG.out HM.out]; rfl), HB1.out⟩
        · have HAL := Lib.hid (all_take (n := k) (by rw [HN.out]; omega) HA.out)
          rw [← HF1.out] at HAL
          go_wp2
          go_loop [4] (fun i => SigRel m n' i) (fun i => n' - (intOf i).toNat)
          case atStart => exact ⟨0, Nat.zero_le _, rfl, fun f hf => by simp at hf⟩
          case round =>
            obtain ⟨j, hj, rfl, hall⟩ := hrel
            have HA2 := Lib.hid hall
            clear hall
            by_cases hlt2 : j < n'
            · obtain ⟨b, off, s, rfl, hb, q0, hget, htake⟩ := (HS.out.below (HB.out.mono hB)).at_ hlt2
              have HG := Lib.hid hget
              have HT := Lib.hid htake
              clear hget htake
              by_cases hs : s.size ≤ 40
              · have HM := Lib.hid (decide_eq_true hs)
                go_wp2
                go_round
                case rel => exact ⟨j + 1, by omega, by go_num, take_all HA2.out HT.out HM.out⟩
                case measure => simp [intOf]; omega
              · have HM := Lib.hid (decide_eq_false hs)
                go_wp2
                go_ret
                exact ⟨ret_bool (a := false) (by rw [HE.out, HF2.out, all_not HG.out HM.out, Bool.and_false]), HB.out⟩
            · go_wp2
              go_ret
              exact ⟨ret_bool (a := true) (by rw [HE.out, HAL.out, HF2.out, all_take (n := j) (by rw [HN'.out]; omega) HA2.out]; rfl), HB.out⟩
    · have HE := Lib.hid (show Tx.may ⟨lsn, 1, l, m, mark⟩ = false by rw [may_one H1.out]; simp [hm])
      have hm' : (mark == 0) = false := by simpa using hm
      have hm2 : (mark != 0) = true := by simpa using hm
      clear hm
      go_enter Try.func17, Try.ntmps17
      go_wp2
      go_ret
      exact ⟨ret_bool (a := false) HE.out.symm, HW.out⟩
  · have k1' : (kind == 1) = false := by simpa using k1
    by_cases k23 : kind = 2 ∨ kind = 3
    · have HE := Lib.hid (may_two (mark := mark) (l := l) (m := m) H1.out k23)
      rw [HN.out, HN'.out] at HE
      by_cases m1 : 1 ≤ mark
      · by_cases m2 : mark ≤ 1099511627776
        · have HM := Lib.hid (show mayLsn mark = true by unfold mayLsn; rw [decide_eq_true m1, decide_eq_true m2]; rfl)
          by_cases hn0 : n = 0
          · subst hn0
            rcases k23 with rfl | rfl
            all_goals (
              clear k1 k1'
              go_enter Try.func17, Try.ntmps17
              go_wp2
              go_ret
              exact ⟨ret_bool (by rw [HE.out, HM.out]; exact beq_nat n'), HW.out⟩)
          · have hn1 : ((n : Int) == 0) = false := by simpa using hn0
            have hn2 : (n == 0) = false := by simpa using hn0
            clear hn0
            rcases k23 with rfl | rfl
            all_goals (
              clear k1 k1'
              go_enter Try.func17, Try.ntmps17
              go_wp2
              go_ret
              exact ⟨ret_bool (a := false) (by rw [HE.out, hn2]; simp), HW.out⟩)
        · have HM := Lib.hid (show mayLsn mark = false by unfold mayLsn; rw [decide_eq_false m2, Bool.and_false])
          rcases k23 with rfl | rfl
          all_goals (
            clear k1 k1'
            go_enter Try.func17, Try.ntmps17
            go_wp2
            go_ret
            exact ⟨ret_bool (a := false) (by rw [HE.out, HM.out]; rfl), HW.out⟩)
      · have HM := Lib.hid (show mayLsn mark = false by unfold mayLsn; rw [decide_eq_false m1, Bool.false_and])
        rcases k23 with rfl | rfl
        all_goals (
          clear k1 k1'
          go_enter Try.func17, Try.ntmps17
          go_wp2
          go_ret
          exact ⟨ret_bool (a := false) (by rw [HE.out, HM.out]; rfl), HW.out⟩)
    · have HE := Lib.hid (may_none (mark := mark) (l := l) (m := m) H1.out k1 (fun e => k23 (.inl e)) (fun e => k23 (.inr e)))
      have k2' : (kind == 2) = false := by simp; omega
      have k3' : (kind == 3) = false := by simp; omega
      clear k1 k23
      go_enter Try.func17, Try.ntmps17
      go_wp2
      go_ret
      exact ⟨ret_bool (a := false) HE.out.symm, HW.out⟩
end Go.Proofs.Ytjicdnknlfpajaa.Txn
