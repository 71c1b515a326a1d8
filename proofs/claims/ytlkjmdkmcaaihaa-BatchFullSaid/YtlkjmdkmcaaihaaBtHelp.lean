/-
  Contracts of the statements' own helpers at slices of qanat/api.Op: held against each other (alike), a copy with something behind it, whether it is as it was, and all of it written over. What the statements of package batch share: two items held against each other, whether one is great, their last line.
-/
import Derived.Test.YtlkjmdkmcaaihaaOpMem
import Derived.StillTailTactics
import Derived.BigQuiet
import Derived.Test.YtlkjmdkmcaaihaaItMem
import Derived.Test.YtlkjmdkmcaaihaaBtJoin
namespace Go.Proofs.Ytlkjmdkmcaaihaa.Gd
set_option linter.unusedVariables false
set_option maxRecDepth 100000
open Go.RowKit Base GuardMath
set_option linter.ambiguousOpen false
set_option linter.unusedSimpArgs false

set_option maxHeartbeats 400000 in
theorem oeq_same (a0 : Int) (a1 : Int) (a2 : Int) (a3 : Bool) (a4 : ByteArray) (w : World) :
    Calls Try.prog 68 #[.agg #[.int .i64 a0, .int .i64 a1, .int .i64 a2, .bool a3, .string a4], .agg #[.int .i64 a0, .int .i64 a1, .int .i64 a2, .bool a3, .string a4]] w fun e w' => e = .returned (.bool true) ∧ Below w.heap.size w w' := by
  go_enter Try.func68, Try.ntmps68
  go_wp2
  go_ret
  exact ⟨by simp, ((Below.refl _ _).alloc (Nat.le_refl _) _).alloc (by simp) _⟩
set_option maxHeartbeats 800000 in
theorem osame_same (B B' : Nat) (A A' : Option Addr) (n c c' : Nat) (l : List Gp) (w : World) (h : Gps w B A n c l) (h' : Gps w B' A' n c' l) (hB : B ≤ w.heap.size) (hB' : B' ≤ w.heap.size) :
    Calls Try.prog 67 #[.slice A n c, .slice A' n c', .func (.func 68) #[] #[]] w fun e w' => e = .returned (.bool true) ∧ Below w.heap.size w w' := by
  have hle := h.le
  have HR := Lib.hid h
  have HR' := Lib.hid h'
  clear h h'
  go_enter Try.func67, Try.ntmps67
  go_wp2
  go_loopw [7] (fun i wr => ∃ k : Nat, k ≤ n ∧ i = .int .i64 k ∧ Below w.heap.size w wr) (fun i _ => n - (intOf i).toNat)
  case atStart => exact ⟨0, by omega, rfl, Below.refl _ _⟩
  case round =>
    obtain ⟨k, hk, rfl, hbel⟩ := hrel
    have HB := Lib.hid hbel
    clear hbel
    by_cases hlt : k < n
    · obtain ⟨b, off, f, rfl, hb, q0, q1, q2, q3, q4, hget, _⟩ := (HR.out.below (HB.out.mono hB)).at_ hlt
      obtain ⟨b', off', f', rfl, hb', p0, p1, p2, p3, p4, hget', _⟩ := (HR'.out.below (HB.out.mono hB')).at_ hlt
      obtain rfl : f = f' := by rw [hget] at hget'; injection hget'
      clear hget hget'
      go_wp2
      go_still_tail 9, (by kernel_rfl)
      go_wp2_with fail
      refine (oeq_same _ _ _ _ _ _).mono ?_
      rintro e w2 ⟨rfl, hb2⟩
      have HB2 := Lib.hid (HB.out.drew.trans (hb2.mono HB.out.size))
      clear hb2
      go_wp2
      go_roundw
      case rel => exact ⟨k + 1, by omega, by go_num, HB2.out⟩
      case measure => simp [intOf]; omega
    · go_wp2
      go_ret
      exact ⟨rfl, HB.out⟩
theorem oplain_same (B B' : Nat) (A A' : Option Addr) (n n' c c' : Nat) (l : List Gp) (w : World) (h : Gps w B A n c l) (h' : Gps w B' A' n' c' l) (hB : B ≤ w.heap.size) (hB' : B' ≤ w.heap.size) :
    Calls Try.prog 38 #[.slice A n c, .slice A' n' c'] w fun e w' => e = .returned (.bool true) ∧ Below w.heap.size w w' := by
  obtain rfl : n = n' := by rw [← h.len, ← h'.len]
  go_enter Try.func38, Try.ntmps38
  go_wp2_with fail
  refine (osame_same B B' A A' n c c' l _ h h' hB hB').mono ?_
  rintro e w2 ⟨rfl, hb2⟩
  have HB2 := Lib.hid hb2
  clear hb2
  go_wp2
  go_ret
  exact ⟨rfl, HB2.out⟩
end Go.Proofs.Ytlkjmdkmcaaihaa.Gd

namespace Go.Proofs.Ytlkjmdkmcaaihaa.Bt
set_option linter.unusedVariables false
set_option maxRecDepth 100000
open Go.RowKit Base BatchMath
set_option linter.ambiguousOpen false
set_option linter.unusedSimpArgs false

set_option maxHeartbeats 400000 in
theorem nteq_same (a0 : Int) (a1 : Int) (a2 : Int) (a3 : Int) (a4 : Int) (a5 : Int) (a6 : Bool) (w : World) :
    Calls Try.prog 70 #[.agg #[.int .i64 a0, .int .i64 a1, .int .i64 a2, .int .i64 a3, .int .i64 a4, .int .i64 a5, .bool a6], .agg #[.int .i64 a0, .int .i64 a1, .int .i64 a2, .int .i64 a3, .int .i64 a4, .int .i64 a5, .bool a6]] w fun e w' => e = .returned (.bool true) ∧ Below w.heap.size w w' := by
  go_enter Try.func70, Try.ntmps70
  go_wp2
  go_ret
  exact ⟨by simp, ((Below.refl _ _).alloc (Nat.le_refl _) _).alloc (by simp) _⟩
set_option maxHeartbeats 800000 in
theorem ntsame_same (B B' : Nat) (A A' : Option Addr) (n c c' : Nat) (l : List Nt) (w : World) (h : Nts w B A n c l) (h' : Nts w B' A' n c' l) (hB : B ≤ w.heap.size) (hB' : B' ≤ w.heap.size) :
    Calls Try.prog 69 #[.slice A n c, .slice A' n c', .func (.func 70) #[] #[]] w fun e w' => e = .returned (.bool true) ∧ Below w.heap.size w w' := by
  have hle := h.le
  have HR := Lib.hid h
  have HR' := Lib.hid h'
  clear h h'
  go_enter Try.func69, Try.ntmps69
  go_wp2
  go_loopw [7] (fun i wr => ∃ k : Nat, k ≤ n ∧ i = .int .i64 k ∧ Below w.heap.size w wr) (fun i _ => n - (intOf i).toNat)
  case atStart => exact ⟨0, by omega, rfl, Below.refl _ _⟩
  case round =>
    obtain ⟨k, hk, rfl, hbel⟩ := hrel
    have HB := Lib.hid hbel
    clear hbel
    by_cases hlt : k < n
    · obtain ⟨b, off, f, rfl, hb, q0, q1, q2, q3, q4, q5, q6, hget, _⟩ := (HR.out.below (HB.out.mono hB)).at_ hlt
      obtain ⟨b', off', f', rfl, hb', p0, p1, p2, p3, p4, p5, p6, hget', _⟩ := (HR'.out.below (HB.out.mono hB')).at_ hlt
      obtain rfl : f = f' := by rw [hget] at hget'; injection hget'
      clear hget hget'
      go_wp2
      go_still_tail 9, (by kernel_rfl)
      go_wp2_with fail
      refine (nteq_same _ _ _ _ _ _ _ _).mono ?_
      rintro e w2 ⟨rfl, hb2⟩
      have HB2 := Lib.hid (HB.out.drew.trans (hb2.mono HB.out.size))
      clear hb2
      go_wp2
      go_roundw
      case rel => exact ⟨k + 1, by omega, by go_num, HB2.out⟩
      case measure => simp [intOf]; omega
    · go_wp2
      go_ret
      exact ⟨rfl, HB.out⟩
theorem ntplain_same (B B' : Nat) (A A' : Option Addr) (n n' c c' : Nat) (l : List Nt) (w : World) (h : Nts w B A n c l) (h' : Nts w B' A' n' c' l) (hB : B ≤ w.heap.size) (hB' : B' ≤ w.heap.size) :
    Calls Try.prog 39 #[.slice A n c, .slice A' n' c'] w fun e w' => e = .returned (.bool true) ∧ Below w.heap.size w w' := by
  obtain rfl : n = n' := by rw [← h.len, ← h'.len]
  go_enter Try.func39, Try.ntmps39
  go_wp2_with fail
  refine (ntsame_same B B' A A' n c c' l _ h h' hB hB').mono ?_
  rintro e w2 ⟨rfl, hb2⟩
  have HB2 := Lib.hid hb2
  clear hb2
  go_wp2
  go_ret
  exact ⟨rfl, HB2.out⟩
end Go.Proofs.Ytlkjmdkmcaaihaa.Bt

namespace Go.Proofs.Ytlkjmdkmcaaihaa.Bt
set_option linter.unusedVariables false
set_option maxRecDepth 100000
open Go.RowKit Base FieldMath TxnMath BatchMath
open GuardMath (Gp noGp)
open Gd (Gps ov ov_append ov_one ov_length ocells oval oel oplain_same)
open Go.Proofs.Ytlkjmdkmcaaihaa.Field (ret_bool)
set_option linter.ambiguousOpen false
set_option linter.unusedSimpArgs false

theorem ItIn.agg {w : World} {B : Nat} {x : It} {v : Value} (h : ItIn w B x v) : ∃ A n c A' n' c', v = .agg #[.int .i64 x.lsn, .slice A n c, .slice A' n' c'] ∧ ItIn w B x (.agg #[.int .i64 x.lsn, .slice A n c, .slice A' n' c']) ∧ Gps w B A n c x.ops ∧ Nts w B A' n' c' x.notes := by
  obtain ⟨A, n, c, A', n', c', rfl, h2, h3⟩ := h
  exact ⟨A, n, c, A', n', c', rfl, ⟨A, n, c, A', n', c', rfl, h2, h3⟩, h2, h3⟩
theorem ItIn.alloc {w : World} {B : Nat} {x : It} {v : Value} (h : ItIn w B x v) (hB : B ≤ w.heap.size) (o : Obj) : ItIn (w.alloc o) B x v := h.below ((Below.refl _ _).alloc hB o)
theorem ItO.at_ {w w' : World} {q : Except Nat It} {e : Ending} (h : ItO w q e w') : ∃ v, e = .returned (.tuple #[v, .int .i64 (err q)]) ∧ ItIn w' w'.heap.size (gotI q) v ∧ Below w.heap.size w w' := by
  obtain ⟨A, n, c, P, m, k, he, ho, hb⟩ := h
  exact ⟨_, he, ho.in_, hb⟩
theorem encI_val {w w' : World} {x : It} {e : Ending} (h : EncI w x e w') (hm : may x = true) : ∃ A c, e = .returned (.tuple #[.slice A (encZ (ifl x)).length c, .int .i64 0]) ∧ w'.ownsRow w.heap.size 5 1 (.slice A (encZ (ifl x)).length c) (encZ (ifl x)).length (bv (encZ (ifl x))) ∧ Below w.heap.size w w' := by
  unfold EncI at h
  rw [encI_ok hm] at h
  obtain ⟨A, n, c, he, ho, hb⟩ := h
  have hn : n = (encZ (ifl x)).length := by have := ho.1; rw [show got (Except.ok (encZ (ifl x)) : Except Nat (List UInt8)) = encZ (ifl x) from rfl, bv_length, Nat.mul_one] at this; exact this.symm
  subst hn
  exact ⟨A, c, he, ho, hb⟩
theorem encI_both {w w' : World} {x : It} {e : Ending} (h : EncI w x e w') : ∃ A c, e = .returned (.tuple #[.slice A (got (encI x)).length c, .int .i64 (err (encI x))]) ∧ Bytes w' w'.heap.size A (got (encI x)).length c (got (encI x)) ∧ Below w.heap.size w w' := by
  obtain ⟨A, n, c, he, ho, hb⟩ := h
  have hn : n = (got (encI x)).length := by have := ho.1; rw [bv_length, Nat.mul_one] at this; exact this.symm
  subst hn
  exact ⟨A, c, he, Bytes.of_own ho, hb⟩
theorem encode_in (B : Nat) (x : It) (v : Value) (w : World) (h : ItIn w B x v) (hB : B ≤ w.heap.size) : Calls Try.prog 13 #[v] w (EncI w x) := by
  obtain ⟨A, n, c, A', n', c', rfl, h2, h3⟩ := h
  exact encode_any B x.lsn A n c x.ops A' n' c' x.notes w h2 h3 hB
theorem may_in (B : Nat) (x : It) (v : Value) (w : World) (h : ItIn w B x v) (hB : B ≤ w.heap.size) : Calls Try.prog 15 #[v] w fun e w' => e = .returned (.bool (may x)) ∧ Below w.heap.size w w' := by
  obtain ⟨A, n, c, A', n', c', rfl, h2, h3⟩ := h
  exact may_any B x.lsn A n c x.ops A' n' c' x.notes w h2 h3 hB
theorem great_any (L : Int) (A : Option Addr) (n c : Nat) (A' : Option Addr) (n' c' : Nat) (w : World) :
    Calls Try.prog 9 #[.agg #[.int .i64 L, .slice A n c, .slice A' n' c']] w fun e w' => e = .returned (.bool (decide (100 < n) || decide (300 < n'))) ∧ Below w.heap.size w w' := by
  by_cases h1 : 100 < n
  · have l1 : (100 : Int) < (n : Int) := by omega
    go_enter Try.func9, Try.ntmps9
    go_wp2
    go_ret
    exact ⟨ret_bool (a := true) (by rw [decide_eq_true h1]; rfl), (Below.refl _ _).alloc (Nat.le_refl _) _⟩
  · have l1 : ¬ (100 : Int) < (n : Int) := by omega
    go_enter Try.func9, Try.ntmps9
    go_wp2
    go_ret
    exact ⟨ret_bool (by first | exact decide_eq_decide.2 (by omega) | (rw [decide_eq_false h1, Bool.false_or]; exact decide_eq_decide.2 (by omega))), (Below.refl _ _).alloc (Nat.le_refl _) _⟩
set_option maxHeartbeats 800000 in
theorem itsame_any (B B' : Nat) (x : It) (v v' : Value) (w : World) (h : ItIn w B x v) (h' : ItIn w B' x v') (hB : B ≤ w.heap.size) (hB' : B' ≤ w.heap.size) :
    Calls Try.prog 20 #[v, v'] w fun e w' => e = .returned (.bool true) ∧ Below w.heap.size w w' := by
  obtain ⟨A, n, c, P, m, k, rfl, h1, h2⟩ := h
  obtain ⟨A', n', c', P', m', k', rfl, h1', h2'⟩ := h'
  unfold itv
  obtain ⟨L, ops, nts⟩ := x
  dsimp only at h1 h2 h1' h2' ⊢
  have hbw : Below w.heap.size w ((w.alloc (.cells #[.int .i64 L, .slice A n c, .slice P m k] 25)).alloc (.cells #[.int .i64 L, .slice A' n' c', .slice P' m' k'] 25)) := ((Below.refl _ _).alloc (Nat.le_refl _) _).alloc (by simp) _
  have hx : Blk ((w.alloc (.cells #[.int .i64 L, .slice A n c, .slice P m k] 25)).alloc (.cells #[.int .i64 L, .slice A' n' c', .slice P' m' k'] 25)) w.heap.size 25 #[.int .i64 L, .slice A n c, .slice P m k] := (Blk.new _ _ _).alloc _
  have hy : Blk ((w.alloc (.cells #[.int .i64 L, .slice A n c, .slice P m k] 25)).alloc (.cells #[.int .i64 L, .slice A' n' c', .slice P' m' k'] 25)) (w.heap.size + 1) 25 #[.int .i64 L, .slice A' n' c', .slice P' m' k'] := by have := Blk.new (w.alloc (.cells #[.int .i64 L, .slice A n c, .slice P m k] 25)) 25 #[.int .i64 L, .slice A' n' c', .slice P' m' k']; simpa using this
  have C1 := Lib.hid (oplain_same B B' A A' n n' c c' ops _ (h1.below (hbw.mono hB)) (h1'.below (hbw.mono hB')) (Nat.le_trans hB hbw.size) (Nat.le_trans hB' hbw.size))
  have H2 := Lib.hid (h2.below (hbw.mono hB))
  have H2' := Lib.hid (h2'.below (hbw.mono hB'))
  have HBW := Lib.hid hbw
  have HX := Lib.hid hx
  have HY := Lib.hid hy
  clear h1 h2 h1' h2' hbw hx hy
  go_enter Try.func20, Try.ntmps20
  go_wp2_with fail
  refine C1.out.mono ?_
  rintro e w1 ⟨rfl, hb1⟩
  have x2 : w1.cell? ⟨w.heap.size, 2, none⟩ = some (.slice P m k) := (HX.out.below hb1 HX.out.lt).cell 2
  have y2 : w1.cell? ⟨w.heap.size + 1, 2, none⟩ = some (.slice P' m' k') := (HY.out.below hb1 HY.out.lt).cell 2
  have HB1 := Lib.hid (held_two HBW.out hb1)
  have C2 := Lib.hid (ntplain_same B B' P P' m m' k k' nts w1 (H2.out.below (hb1.mono (Nat.le_trans hB HBW.out.size))) (H2'.out.below (hb1.mono (Nat.le_trans hB' HBW.out.size))) (Nat.le_trans hB HB1.out.size) (Nat.le_trans hB' HB1.out.size))
  clear hb1 C1 HX HY
  go_wp2_with fail
  refine C2.out.mono ?_
  rintro e w2 ⟨rfl, hb2⟩
  have HB2 := Lib.hid (held_two HB1.out hb2)
  clear hb2
  go_wp2
  go_ret
  exact ⟨rfl, HB2.out⟩
def aw1 : It := ⟨1, [], []⟩
def aw2 : It := ⟨2, [], []⟩
theorem aw_join : join [aw1, aw2] = .ok aw2 := by rfl
theorem aw_order : join [aw2, aw2] = .error 10 := by rfl
theorem aw_may : may aw2 = true := by rfl
theorem aw_len : (encZ (ifl aw2)).length = 29 := by rfl
theorem lit_two (w : World) (a b : Int) {s : Nat} (hs : s = w.heap.size) : Its (w.alloc (.cells #[.int .i64 a, .slice none 0 0, .slice none 0 0, .int .i64 b, .slice none 0 0, .slice none 0 0] 25)) (w.heap.size + 1) (some ⟨s, 0, none⟩) 2 2 [⟨a, [], []⟩, ⟨b, [], []⟩] := by
  subst hs
  have hx := Blk.new w 25 #[.int .i64 a, .slice none 0 0, .slice none 0 0, .int .i64 b, .slice none 0 0, .slice none 0 0]
  refine ⟨rfl, Nat.le_refl _, by omega, fun i x hi => ?_⟩
  match i, hi with
  | 0, hi =>
    simp only [List.getElem?_cons_zero, Option.some.injEq] at hi
    subst hi
    exact ⟨_, 0, rfl, Nat.lt_succ_self _, none, 0, 0, none, 0, 0, hx.cell 0, hx.cell 1, hx.cell 2, Row.nil_ _ _ _, Row.nil_ _ _ _⟩
  | 1, hi =>
    simp only [List.getElem?_cons_succ, List.getElem?_cons_zero, Option.some.injEq] at hi
    subst hi
    exact ⟨_, 0, rfl, Nat.lt_succ_self _, none, 0, 0, none, 0, 0, hx.cell 3, hx.cell 4, hx.cell 5, Row.nil_ _ _ _, Row.nil_ _ _ _⟩
  | i + 2, hi => simp at hi
set_option maxHeartbeats 3200000 in
theorem awake_any (w : World) : Calls Try.prog 10 #[] w fun e w' => e = .returned (.bool true) ∧ Below w.heap.size w w' := by
  have HW : Hid (Below w.heap.size w (w.alloc (.cells #[.int .i64 1, .slice none 0 0, .slice none 0 0, .int .i64 2, .slice none 0 0, .slice none 0 0] 25))) := (Below.refl _ _).alloc (Nat.le_refl _) _
  go_enter Try.func10, Try.ntmps10
  go_wp2_with fail
  refine (join_any (w.heap.size + 1) _ 2 2 [aw1, aw2] _ (lit_two w 1 2 rfl) (by simp) (by omega)).mono ?_
  intro e w1 h1
  rw [aw_join] at h1
  obtain ⟨v1, rfl, hin1, hb1⟩ := h1.at_
  rw [show gotI (.ok aw2 : Except Nat It) = aw2 from rfl] at hin1
  obtain ⟨A1, n1, c1, P1, m1, k1, rfl, hin1, _⟩ := hin1.agg
  have HI1 := Lib.hid hin1
  have HB1 := Lib.hid (held_two HW.out hb1)
  have HX1 : Hid (Blk (w1.alloc (.cells #[.int .i64 aw2.lsn, .slice A1 n1 c1, .slice P1 m1 k1] 25)) w1.heap.size 25 #[.int .i64 aw2.lsn, .slice A1 n1 c1, .slice P1 m1 k1]) := Blk.new _ _ _
  rw [show ((err (Except.ok aw2 : Except Nat It) : Nat) : Int) = 0 from rfl]
  clear h1 hin1 hb1 HW
  go_wp2_with fail
  refine (join_any (w1.heap.size + 1 + 1) _ 2 2 [aw2, aw2] _ (by have := lit_two (w1.alloc (.cells #[.int .i64 aw2.lsn, .slice A1 n1 c1, .slice P1 m1 k1] 25)) 2 2 rfl; rw [show (w1.alloc (.cells #[.int .i64 aw2.lsn, .slice A1 n1 c1, .slice P1 m1 k1] 25)).heap.size = w1.heap.size + 1 by simp] at this; exact this) (by simp) (by omega)).mono ?_
  intro e w2 h2
  rw [aw_order] at h2
  obtain ⟨v2, rfl, hin2, hb2⟩ := h2.at_
  obtain ⟨A2, n2, c2, P2, m2, k2, rfl, _, _⟩ := hin2.agg
  generalize (gotI (.error 10 : Except Nat It)).lsn = lo
  rw [show ((err (Except.error 10 : Except Nat It) : Nat) : Int) = 10 from rfl]
  have HBA : Hid (Below w1.heap.size w1 ((w1.alloc (.cells #[.int .i64 aw2.lsn, .slice A1 n1 c1, .slice P1 m1 k1] 25)).alloc (.cells #[.int .i64 2, .slice none 0 0, .slice none 0 0, .int .i64 2, .slice none 0 0, .slice none 0 0] 25))) := ((Below.refl _ _).alloc (Nat.le_refl _) _).alloc (by simp) _
  have HB12 := Lib.hid (held_two HBA.out hb2)
  have HX2 := Lib.hid ((HX1.out.alloc (.cells #[.int .i64 2, .slice none 0 0, .slice none 0 0, .int .i64 2, .slice none 0 0, .slice none 0 0] 25)).below hb2 (by simp; omega))
  have HI2 := Lib.hid (HI1.out.below HB12.out)
  have HB2 := Lib.hid (held_two HB1.out HB12.out)
  have hz2 : w1.heap.size < w2.heap.size := HX2.out.lt
  have x0 : w2.cell? ⟨w1.heap.size, 0, none⟩ = some (.int .i64 aw2.lsn) := HX2.out.cell 0
  have x1 : w2.cell? ⟨w1.heap.size, 1, none⟩ = some (.slice A1 n1 c1) := HX2.out.cell 1
  have x2 : w2.cell? ⟨w1.heap.size, 2, none⟩ = some (.slice P1 m1 k1) := HX2.out.cell 2
  clear h2 hin2 hb2 HBA HX1
  go_wp2_with fail
  refine (encode_in w1.heap.size aw2 _ _ (HI2.out.alloc (Nat.le_of_lt hz2) _) (by simp; omega)).mono ?_
  intro e w3 h3
  obtain ⟨A3, c3, rfl, ho3, hb3⟩ := encI_val h3 aw_may
  rw [aw_len] at ho3
  rw [aw_len]
  have HY3 : Hid (Bytes w3 w3.heap.size A3 29 c3 (encZ (ifl aw2))) := Bytes.of_own ho3
  have HX3 := Lib.hid ((HX2.out.alloc (.cells #[.int .i64 lo, .slice A2 n2 c2, .slice P2 m2 k2] 25)).below hb3 (by simp; omega))
  have HI3 := Lib.hid ((HI2.out.alloc (Nat.le_of_lt hz2) (.cells #[.int .i64 lo, .slice A2 n2 c2, .slice P2 m2 k2] 25)).below (hb3.mono (by simp; omega)))
  have HB3 := Lib.hid (held_two (held_alloc HB2.out (.cells #[.int .i64 lo, .slice A2 n2 c2, .slice P2 m2 k2] 25)) hb3)
  have hz3 : w1.heap.size < w3.heap.size := HX3.out.lt
  clear h3 ho3 hb3 x0 x1 x2 HX2 HI2 HB2
  go_wp2_with fail
  refine (decode_any w3.heap.size A3 29 c3 _ w3 HY3.out (Nat.le_refl _)).mono ?_
  intro e w4 h4
  rw [decI_enc aw_may] at h4
  obtain ⟨v4, rfl, hin4, hb4⟩ := h4.at_
  rw [show gotI (.ok aw2 : Except Nat It) = aw2 from rfl] at hin4
  obtain ⟨A4, n4, c4, P4, m4, k4, rfl, _, _⟩ := hin4.agg
  rw [show ((err (Except.ok aw2 : Except Nat It) : Nat) : Int) = 0 from rfl]
  have HX4 := Lib.hid (HX3.out.below hb4 HX3.out.lt)
  have HI4 := Lib.hid (HI3.out.below (hb4.mono (Nat.le_of_lt hz3)))
  have HB4 := Lib.hid (held_two HB3.out hb4)
  have hz4 : w1.heap.size < w4.heap.size := HX4.out.lt
  have x0 : w4.cell? ⟨w1.heap.size, 0, none⟩ = some (.int .i64 aw2.lsn) := HX4.out.cell 0
  have x1 : w4.cell? ⟨w1.heap.size, 1, none⟩ = some (.slice A1 n1 c1) := HX4.out.cell 1
  have x2 : w4.cell? ⟨w1.heap.size, 2, none⟩ = some (.slice P1 m1 k1) := HX4.out.cell 2
  have hl2 : aw2.lsn = 2 := rfl
  clear h4 hin4 hb4 HX3 HI3 HB3
  rw [hl2] at x0 ⊢
  go_wp2_with fail
  refine (may_in w1.heap.size aw2 _ _ (HI4.out.alloc (Nat.le_of_lt hz4) _) (by simp; omega)).mono ?_
  rintro e w5 ⟨rfl, hb5⟩
  rw [aw_may]
  have HB5 := Lib.hid (held_two (held_alloc HB4.out _) hb5)
  clear hb5
  go_wp2
  go_ret
  exact ⟨rfl, HB5.out⟩
end Go.Proofs.Ytlkjmdkmcaaihaa.Bt
