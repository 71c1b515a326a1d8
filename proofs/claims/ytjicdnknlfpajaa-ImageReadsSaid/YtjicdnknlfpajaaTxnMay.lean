/-
  Contracts of which transactions may be: the code's May (package txn), and the document's MayChange and May.
-/
import Derived.Test.YtjicdnknlfpajaaTxnMem
namespace Go.Proofs.Ytjicdnknlfpajaa.Txn
set_option linter.unusedVariables false
set_option maxRecDepth 100000
open Go.RowKit Base FieldMath TxnMath
open Go.Proofs.Ytjicdnknlfpajaa.Field (ret_bool empty_iff)
set_option linter.ambiguousOpen false

theorem beq_nat (n : Nat) : ((n : Int) == 0) = (true && (0 == 0 && n == 0)) := by rw [Bool.eq_iff_iff]; simp
/-- the box of a transaction -/
def bx (lsn kind mark : Int) (A : Option Addr) (n c : Nat) (A' : Option Addr) (n' c' : Nat) : Array Value := #[.int .i64 lsn, .int .i64 kind, .slice A n c, .slice A' n' c', .int .i64 mark]
theorem may_lsn {lsn kind mark : Int} {l : List Ch} {m : List ByteArray} (h : mayLsn lsn = false) : Tx.may ⟨lsn, kind, l, m, mark⟩ = false := by unfold Tx.may; rw [h]; rfl
theorem may_one {lsn mark : Int} {l : List Ch} {m : List ByteArray} (h : mayLsn lsn = true) : Tx.may ⟨lsn, 1, l, m, mark⟩ = (mark == 0 && (mayChs l && maySigs m)) := by unfold Tx.may; rw [h]; rfl
theorem may_two {lsn kind mark : Int} {l : List Ch} {m : List ByteArray} (h : mayLsn lsn = true) (hk : kind = 2 ∨ kind = 3) : Tx.may ⟨lsn, kind, l, m, mark⟩ = (mayLsn mark && (l.length == 0 && m.length == 0)) := by
  unfold Tx.may
  dsimp only
  rw [h, if_neg (by omega), if_pos hk]
  rfl
theorem may_none {lsn kind mark : Int} {l : List Ch} {m : List ByteArray} (h : mayLsn lsn = true) (h1 : kind ≠ 1) (h2 : kind ≠ 2) (h3 : kind ≠ 3) : Tx.may ⟨lsn, kind, l, m, mark⟩ = false := by
  unfold Tx.may
  dsimp only
  rw [h, if_neg h1, if_neg (by omega)]
  rfl

set_option maxHeartbeats 3200000 in
theorem may_any (B : Nat) (lsn kind mark : Int) (A : Option Addr) (n c : Nat) (l : List Ch) (A' : Option Addr) (n' c' : Nat) (m : List ByteArray) (w : World) (h1 : Chs w B A n c l) (h2 : Sigs w B A' n' c' m) (hB : B ≤ w.heap.size) :
    Calls Try.prog 16 #[.agg #[.int .i64 lsn, .int .i64 kind, .slice A n c, .slice A' n' c', .int .i64 mark]] w fun e w' => e = .returned (.bool (Tx.may ⟨lsn, kind, l, m, mark⟩)) ∧ Below w.heap.size w w' := by
  have HL := Lib.hid (fun w => mayLsn_any lsn w)
  have HK := Lib.hid (fun w => mayLsn_any mark w)
  have HN := Lib.hid h1.len
  have HN' := Lib.hid h2.len
  have HW : Hid (Below w.heap.size w (w.alloc (.cells #[.int .i64 lsn, .int .i64 kind, .slice A n c, .slice A' n' c', .int .i64 mark] 25))) := (Below.refl _ _).alloc (Nat.le_refl _) _
  have hX : Blk (w.alloc (.cells #[.int .i64 lsn, .int .i64 kind, .slice A n c, .slice A' n' c', .int .i64 mark] 25)) w.heap.size 25 #[.int .i64 lsn, .int .i64 kind, .slice A n c, .slice A' n' c', .int .i64 mark] := Blk.new _ _ _
  have HX := Lib.hid hX
  have HC := Lib.hid (h1.below (HW.out.mono hB))
  have HS := Lib.hid (h2.below (HW.out.mono hB))
  have HBW := Lib.hid (Nat.le_trans hB HW.out.size)
  clear h1 h2 hX
  cases hl : mayLsn lsn with
  | false =>
    have HE := Lib.hid (may_lsn (kind := kind) (mark := mark) (l := l) (m := m) hl)
    rw [hl] at HL
    clear hl
    go_enter Try.func16, Try.ntmps16
    go_wp2_with (first | (go_at_call 42; refine (HL.out _).mono ?_; rintro e w1 ⟨rfl, rfl⟩) | fail)
    go_ret
    exact ⟨ret_bool (a := false) HE.out.symm, HW.out⟩
  | true =>
    have H1 := Lib.hid hl
    rw [hl] at HL
    clear hl
    by_cases k1 : kind = 1
    · subst k1
      by_cases hm : mark = 0
      · subst hm
        cases hc : mayChs l with
        | false =>
          have HE := Lib.hid (show Tx.may ⟨lsn, 1, l, m, 0⟩ = false by rw [may_one H1.out, hc]; rfl)
          have CC := Lib.hid (mayChanges_any B A n c l _ HC.out HBW.out)
          rw [hc] at CC
          clear hc
          go_enter Try.func16, Try.ntmps16
          go_wp2_with (first
            | (go_at_call 42; refine (HL.out _).mono ?_; rintro e w1 ⟨rfl, rfl⟩)
            | (go_at_call 43; refine CC.out.mono ?_; rintro e w1 ⟨rfl, hb1⟩; have HB1 := Lib.hid (held_two HW.out hb1); clear hb1)
            | fail)
          go_ret
          exact ⟨ret_bool (a := false) HE.out.symm, HB1.out⟩
        | true =>
          have HE := Lib.hid (show Tx.may ⟨lsn, 1, l, m, 0⟩ = maySigs m by rw [may_one H1.out, hc]; simp)
          have CC := Lib.hid (mayChanges_any B A n c l _ HC.out HBW.out)
          rw [hc] at CC
          clear hc
          go_enter Try.func16, Try.ntmps16
          go_wp2_with fail
          refine (HL.out _).mono ?_
          rintro e w1 ⟨rfl, rfl⟩
          go_wp2_with fail
          refine CC.out.mono ?_
          rintro e w1 ⟨rfl, hb1⟩
          have HB1 := Lib.hid (held_two HW.out hb1)
          have HX1 := Lib.hid (HX.out.below hb1 (by simp))
          have x3 : w1.cell? ⟨w.heap.size, 3, none⟩ = some (.slice A' n' c') := HX1.out.cell 3
          have HS1 := Lib.hid (HS.out.below (hb1.mono HBW.out))
          clear hb1 CC
          go_wp2_with fail
          refine (maySignals_any B A' n' c' m _ HS1.out).mono ?_
          rintro e w2 ⟨rfl, rfl⟩
          go_wp2
          go_ret
          exact ⟨ret_bool HE.out.symm, HB1.out⟩
      · have HE := Lib.hid (show Tx.may ⟨lsn, 1, l, m, mark⟩ = false by rw [may_one H1.out]; simp [hm])
        have hm' : (mark == 0) = false := by simpa using hm
        clear hm
        go_enter Try.func16, Try.ntmps16
        go_wp2_with (first | (go_at_call 42; refine (HL.out _).mono ?_; rintro e w1 ⟨rfl, rfl⟩) | fail)
        go_ret
        exact ⟨ret_bool (a := false) HE.out.symm, HW.out⟩
    · have k1' : (kind == 1) = false := by simpa using k1
      by_cases k23 : kind = 2 ∨ kind = 3
      · have HE := Lib.hid (may_two (mark := mark) (l := l) (m := m) H1.out k23)
        rw [HN.out, HN'.out] at HE
        generalize mayLsn mark = mk at *
        rcases k23 with rfl | rfl
        all_goals (
          cases mk with
          | false =>
            clear k1 k1'
            go_enter Try.func16, Try.ntmps16
            go_wp2_with fail
            refine (HL.out _).mono ?_
            rintro e w1 ⟨rfl, rfl⟩
            go_wp2_with fail
            refine (HK.out _).mono ?_
            rintro e w1 ⟨rfl, rfl⟩
            go_wp2
            go_ret
            exact ⟨ret_bool (a := false) (by rw [HE.out]; rfl), HW.out⟩
          | true =>
            clear k1 k1'
            by_cases hn0 : n = 0
            · subst hn0
              go_enter Try.func16, Try.ntmps16
              go_wp2_with fail
              refine (HL.out _).mono ?_
              rintro e w1 ⟨rfl, rfl⟩
              go_wp2_with fail
              refine (HK.out _).mono ?_
              rintro e w1 ⟨rfl, rfl⟩
              go_wp2
              go_ret
              exact ⟨ret_bool (by rw [HE.out]; exact beq_nat n'), HW.out⟩
            · have hn1 : ((n : Int) == 0) = false := by simpa using hn0
              have hn2 : (n == 0) = false := by simpa using hn0
              clear hn0
              go_enter Try.func16, Try.ntmps16
              go_wp2_with fail
              refine (HL.out _).mono ?_
              rintro e w1 ⟨rfl, rfl⟩
              go_wp2_with fail
              refine (HK.out _).mono ?_
              rintro e w1 ⟨rfl, rfl⟩
              go_wp2
              go_ret
              exact ⟨ret_bool (a := false) (by rw [HE.out, hn2]; rfl), HW.out⟩)
      · have HE := Lib.hid (may_none (mark := mark) (l := l) (m := m) H1.out k1 (fun e => k23 (.inl e)) (fun e => k23 (.inr e)))
        have k2' : (kind == 2) = false := by simp; omega
        have k3' : (kind == 3) = false := by simp; omega
        clear k1 k23
        go_enter Try.func16, Try.ntmps16
        go_wp2_with (first | (go_at_call 42; refine (HL.out _).mono ?_; rintro e w1 ⟨rfl, rfl⟩) | fail)
        go_ret
        exact ⟨ret_bool (a := false) HE.out.symm, HW.out⟩

set_option maxHeartbeats 1600000 in
theorem refmaychange_any (t k : Int) (g : Bool) (v : ByteArray) (n : Int) (w : World) : Calls Try.prog 20 #[.agg #[.int .i64 t, .int .i64 k, .bool g, .string v], .int .i64 n] w fun e w' => e = .returned (.bool (Ch.may n ⟨t, k, g, v⟩)) ∧ Below w.heap.size w w' := by
  by_cases h1 : t < 0
  · have HE := Lib.hid (show Ch.may n ⟨t, k, g, v⟩ = false by simp [Ch.may]; omega)
    go_enter Try.func20, Try.ntmps20
    go_wp2
    go_ret
    exact ⟨ret_bool (a := false) HE.out.symm, (Below.refl _ _).alloc (Nat.le_refl _) _⟩
  · by_cases h2 : n ≤ t
    · have HE := Lib.hid (show Ch.may n ⟨t, k, g, v⟩ = false by simp [Ch.may]; omega)
      go_enter Try.func20, Try.ntmps20
      go_wp2
      go_ret
      exact ⟨ret_bool (a := false) HE.out.symm, (Below.refl _ _).alloc (Nat.le_refl _) _⟩
    · by_cases h3 : k < 1
      · have HE := Lib.hid (show Ch.may n ⟨t, k, g, v⟩ = false by simp [Ch.may]; omega)
        go_enter Try.func20, Try.ntmps20
        go_wp2
        go_ret
        exact ⟨ret_bool (a := false) HE.out.symm, (Below.refl _ _).alloc (Nat.le_refl _) _⟩
      · by_cases h4 : 1099511627776 < k
        · have HE := Lib.hid (show Ch.may n ⟨t, k, g, v⟩ = false by simp [Ch.may]; omega)
          go_enter Try.func20, Try.ntmps20
          go_wp2
          go_ret
          exact ⟨ret_bool (a := false) HE.out.symm, (Below.refl _ _).alloc (Nat.le_refl _) _⟩
        · have hE0 : Ch.may n ⟨t, k, g, v⟩ = if g then v.size == 0 else decide (v.size ≤ 32) := by
            unfold Ch.may
            dsimp only
            rw [decide_eq_true (show 0 ≤ t by omega), decide_eq_true (show t < n by omega), decide_eq_true (show 1 ≤ k by omega), decide_eq_true (show k ≤ 1099511627776 by omega)]
            rfl
          by_cases h5 : 32 < v.size
          · have HE := Lib.hid (show Ch.may n ⟨t, k, g, v⟩ = false by
              rw [hE0]
              cases g
              · exact decide_eq_false (by omega)
              · show (v.size == 0) = false
                rw [beq_eq_false_iff_ne]
                omega)
            clear hE0
            go_enter Try.func20, Try.ntmps20
            go_wp2
            go_ret
            exact ⟨ret_bool (a := false) HE.out.symm, (Below.refl _ _).alloc (Nat.le_refl _) _⟩
          · cases g with
            | true =>
              have HE := Lib.hid hE0
              clear hE0
              go_enter Try.func20, Try.ntmps20
              go_wp2
              go_ret
              exact ⟨ret_bool (by rw [HE.out]; simp [empty_iff]), (Below.refl _ _).alloc (Nat.le_refl _) _⟩
            | false =>
              have HE := Lib.hid (show Ch.may n ⟨t, k, false, v⟩ = true by rw [hE0]; simp; omega)
              clear hE0
              go_enter Try.func20, Try.ntmps20
              go_wp2
              go_ret
              exact ⟨ret_bool (a := true) HE.out.symm, (Below.refl _ _).alloc (Nat.le_refl _) _⟩
end Go.Proofs.Ytjicdnknlfpajaa.Txn
