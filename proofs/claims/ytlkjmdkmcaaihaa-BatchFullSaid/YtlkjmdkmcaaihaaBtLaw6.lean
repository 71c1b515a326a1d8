/-
  The walk of the statement BatchFull: it answers true, whatever the input, and writes nothing that was there.
-/
import Derived.Test.YtlkjmdkmcaaihaaItRow
namespace Go.Proofs.Ytlkjmdkmcaaihaa.Bt
set_option linter.unusedVariables false
set_option maxRecDepth 100000
open Go.RowKit Base FieldMath TxnMath BatchMath
open GuardMath (Gp noGp)
open Gd (Gps ov ov_append ov_one oval oel oone)
open Go.Proofs.Ytlkjmdkmcaaihaa.Field (ret_bool modZ modZ_lt mod_any)
set_option linter.ambiguousOpen false
set_option linter.unusedSimpArgs false
def fo (j : Nat) : Gp := ⟨1, 0, (j : Int) + 1, false, ⟨#[]⟩⟩
def fos : Nat → List Gp
  | 0 => []
  | n + 1 => fos n ++ [fo n]
def fit' (i : Nat) : It := ⟨(i : Int) + 1, fos 64, []⟩
def fits' : Nat → List It
  | 0 => []
  | n + 1 => fits' n ++ [fit' n]
def fn : Nt := ⟨2, 1, 0, 0, 0, 0, false⟩
def fns : Nat → List Nt
  | 0 => []
  | n + 1 => fns n ++ [fn]
theorem fos_length (n : Nat) : (fos n).length = n := by
  induction n with
  | zero => rfl
  | succ n ih => show (fos n ++ [fo n]).length = _; rw [List.length_append, ih]; rfl
theorem fns_length (n : Nat) : (fns n).length = n := by
  induction n with
  | zero => rfl
  | succ n ih => show (fns n ++ [fn]).length = _; rw [List.length_append, ih]; rfl
theorem fits_length (n : Nat) : (fits' n).length = n := by
  induction n with
  | zero => rfl
  | succ n ih => show (fits' n ++ [fit' n]).length = _; rw [List.length_append, ih]; rfl
theorem fo_may {L : Int} {j : Nat} (hL : 1 ≤ L) (hj : j < 100) : opMay L (fo j) = true := by
  unfold opMay
  rw [decide_eq_true (show 1 ≤ (fo j).lsn from Int.le_refl 1), decide_eq_true (show (fo j).lsn ≤ L from hL)]
  simp only [Bool.true_and]
  show (decide ((0 : Int) ≤ 0) && (decide ((0 : Int) < 8) && (decide (1 ≤ (j : Int) + 1) && (decide ((j : Int) + 1 ≤ 1099511627776) && true)))) = true
  rw [decide_eq_true (show 1 ≤ (j : Int) + 1 by omega), decide_eq_true (show (j : Int) + 1 ≤ 1099511627776 by omega)]
  rfl
theorem fos_may {L : Int} (hL : 1 ≤ L) {n : Nat} (hn : n ≤ 100) : ∀ o ∈ fos n, opMay L o = true := by
  induction n with
  | zero => intro o ho; cases ho
  | succ n ih =>
    intro o ho
    rcases List.mem_append.1 ho with ho | ho
    · exact ih (by omega) o ho
    · rw [List.mem_singleton] at ho; subst ho; exact fo_may hL (by omega)
theorem fns_may {L : Int} (n : Nat) : ∀ o ∈ fns n, ntMay L o = true := by
  induction n with
  | zero => intro o ho; cases ho
  | succ n ih =>
    intro o ho
    rcases List.mem_append.1 ho with ho | ho
    · exact ih o ho
    · rw [List.mem_singleton] at ho; subst ho; rfl
theorem fit_may {i : Nat} (hi : i < 1000) : may (fit' i) = true :=
  may_iff.2 ⟨⟨by show 1 ≤ (i : Int) + 1; omega, by show (i : Int) + 1 ≤ _; omega⟩, by show (fos 64).length ≤ _; rw [fos_length]; omega, by show (0 : Nat) ≤ _; omega, fos_may (by show 1 ≤ (i : Int) + 1; omega) (by omega), fun o ho => by cases ho⟩
theorem fits_all {n : Nat} (hn : n ≤ 1000) : allMay (fits' n) = true ∧ rising 0 (fits' n) = true ∧ lastLsn 0 (fits' n) = n ∧ (allOps (fits' n)).length = 64 * n ∧ allNotes (fits' n) = [] := by
  induction n with
  | zero => exact ⟨rfl, rfl, rfl, rfl, rfl⟩
  | succ n ih =>
    obtain ⟨h1, h2, h3, h4, h5⟩ := ih (by omega)
    refine ⟨?_, ?_, ?_, ?_, ?_⟩
    · show allMay (fits' n ++ [fit' n]) = true
      rw [allMay_snoc, h1, fit_may (by omega)]; rfl
    · show rising 0 (fits' n ++ [fit' n]) = true
      rw [rising_snoc, h2, h3]
      show (true && decide ((n : Int) < (n : Int) + 1)) = true
      rw [decide_eq_true (by omega)]; rfl
    · show lastLsn 0 (fits' n ++ [fit' n]) = _
      rw [lastLsn_snoc]; show (n : Int) + 1 = ((n + 1 : Nat) : Int); omega
    · show (allOps (fits' n ++ [fit' n])).length = _
      rw [allOps_snoc, List.length_append, h4]; show _ + (fos 64).length = _; rw [fos_length]; omega
    · show allNotes (fits' n ++ [fit' n]) = _
      rw [allNotes_snoc, h5]; rfl
theorem fits_join {k : Nat} (h0 : 0 < k) (hk : k ≤ 1000) : join (fits' k) = if 64 * k ≤ 4096 then .ok ⟨k, allOps (fits' k), []⟩ else .error 1 := by
  obtain ⟨h1, h2, h3, h4, h5⟩ := fits_all hk
  by_cases h : 64 * k ≤ 4096
  · rw [if_pos h, join_fine (by intro e; have := congrArg List.length e; rw [fits_length, List.length_nil] at this; omega) h1 (by unfold fits_; rw [h4, h5, decide_eq_true h]; rfl), h2, h3, h5]; rfl
  · rw [if_neg h]
    exact join_much (by unfold fits_; rw [h4, decide_eq_false h]; rfl)
theorem fn_may (j : Nat) : may ⟨1, [], fns j⟩ = decide (j ≤ 256) := by
  by_cases h : j ≤ 256
  · rw [decide_eq_true h]
    exact may_iff.2 ⟨⟨by show (1 : Int) ≤ 1; omega, by show (1 : Int) ≤ _; omega⟩, by show (0 : Nat) ≤ _; omega, by show (fns j).length ≤ _; rw [fns_length]; omega, (fun o ho => by cases ho), fns_may j⟩
  · rw [decide_eq_false h]
    cases hm : may ⟨1, [], fns j⟩ with
    | false => rfl
    | true => have := (may_iff.1 hm).notes; rw [show (⟨1, [], fns j⟩ : It).notes = fns j from rfl, fns_length] at this; omega
theorem fn_join (j : Nat) : join [⟨1, [], fns j⟩] = if j ≤ 256 then .ok ⟨1, [], fns j⟩ else .error 1 := by
  by_cases h : j ≤ 256
  · rw [if_pos h, join_fine (by simp) (by show ([⟨1, [], fns j⟩] : List It).all may = true; rw [List.all_cons, fn_may, decide_eq_true h]; rfl) (by
      unfold fits_
      show (decide (0 ≤ 4096) && decide ((fns j ++ []).length ≤ 256)) = true
      rw [List.append_nil, fns_length, decide_eq_true h]; rfl)]
    show (if true = true then _ else _) = _
    rw [if_pos rfl]
    show (Except.ok ⟨1, [], fns j ++ []⟩ : Except Nat It) = _
    rw [List.append_nil]
  · rw [if_neg h]
    exact join_bad (by show ([⟨1, [], fns j⟩] : List It).all may = false; rw [List.all_cons, fn_may, decide_eq_false h]; rfl)
def FuRel (w : World) (k : Nat) (vin vi : Value) (wr : World) : Prop := ∃ (i : Nat) (A : Option Addr) (c : Nat), i ≤ k ∧ vi = .int .i64 i ∧ vin = .slice A i c ∧ ItRow wr w.heap.size A i c (fits' i) ∧ Below w.heap.size w wr
def FnRel (wo : World) (J : Nat) (vj : Value) (wr : World) : Prop := ∃ (j : Nat) (A : Option Addr) (c : Nat), j ≤ J ∧ vj = .int .i64 j ∧ Blk wr wo.heap.size 25 #[.int .i64 1, .slice none 0 0, .slice A j c] ∧ wr.ownsRow (wo.heap.size + 1) 27 7 (.slice A j c) j (ntv (fns j)) ∧ Below wo.heap.size wo wr
def FiRel (wo : World) (i : Nat) (vj : Value) (wr : World) : Prop := ∃ (j : Nat) (A : Option Addr) (c : Nat), j ≤ 64 ∧ vj = .int .i64 j ∧ Blk wr wo.heap.size 25 #[.int .i64 ((i : Int) + 1), .slice A j c, .slice none 0 0] ∧ wr.ownsRow (wo.heap.size + 1) 29 5 (.slice A j c) j (ov (fos j)) ∧ Below wo.heap.size wo wr
set_option maxHeartbeats 12800000 in
theorem full_walk (n m : Int) (w : World) : Calls Try.prog 8 #[.int .i64 n, .int .i64 m] w fun e w' => e = .returned (.bool true) ∧ Below w.heap.size w w' := by
  have HMC := Lib.hid (fun w => mod_any n 3 w (by omega) (by omega))
  have hj3 := modZ_lt n (n := 3) (by omega)
  generalize modZ n 3 = q at HMC hj3
  have HMD := Lib.hid (fun w => mod_any m 3 w (by omega) (by omega))
  have hd3 := modZ_lt m (n := 3) (by omega)
  generalize modZ m 3 = d at HMD hd3
  obtain ⟨k, hk⟩ : ∃ k, k = 63 + q := ⟨_, rfl⟩
  have hk65 : 63 ≤ k ∧ k ≤ 65 := by omega
  have W1 : IntKind.i64.wrap (63 + (q : Int)) = (k : Int) := by rw [IntWalk.i64_in _ (by omega)]; omega
  have N1 : 63 + (q : Int) = (k : Int) := by omega
  clear hk
  go_enter Try.func8, Try.ntmps8
  go_wp2_with fail
  refine (HMC.out _).mono ?_
  rintro e w1 ⟨rfl, rfl⟩
  clear HMC
  go_wp2
  clear W1 N1
  go_loopw [6, 7] (fun vin vi wr => FuRel w k vin vi wr) (fun _ vi _ => k - (intOf vi).toNat)
  case atStart => exact ⟨0, none, 0, by omega, rfl, rfl, ItRow.nil_ _ _, Below.refl _ _⟩
  case round =>
    obtain ⟨i, A, c, hi, rfl, rfl, hrow, hbel⟩ := hrel
    have HB := Lib.hid hbel
    have HROW := Lib.hid hrow
    have hbz := hbel.size
    clear hrow hbel
    by_cases hlt : i < k
    · have l1 : (i : Int) < (k : Int) := by omega
      have Wi : IntKind.i64.wrap ((i : Int) + 1) = (i : Int) + 1 := IntWalk.i64_in _ (by omega)
      go_wp2
      obtain ⟨wo, hwo⟩ : ∃ wo, wo = wr := ⟨_, rfl⟩
      have HX0 : Hid (FiRel wo i (.int .i64 0) (wo.alloc (.cells #[.int .i64 ((i : Int) + 1), .slice none 0 0, .slice none 0 0] 25))) := ⟨0, none, 0, by omega, rfl, Blk.new _ _ _, World.ownsRow_nil _ _ _ _, (Below.refl _ _).alloc (Nat.le_refl _) _⟩
      rw [← hwo] at HB HROW hbz ⊢
      clear hwo wr
      go_loopw [9] (fun vj wr => FiRel wo i vj wr) (fun vj _ => 64 - (intOf vj).toNat)
      case atStart => exact HX0.out
      case round =>
        obtain ⟨j, Aj, cj, hj, rfl, hbx, hown, hbel⟩ := hrel
        have HX := Lib.hid hbx
        have HO := Lib.hid hown
        have HBO := Lib.hid hbel
        have hz := hbx.lt
        have hcap := (Row.of_own hown).le
        have x0 : wr.cell? ⟨wo.heap.size, 0, none⟩ = some (.int .i64 ((i : Int) + 1)) := hbx.cell 0
        have x1 : wr.cell? ⟨wo.heap.size, 1, none⟩ = some (.slice Aj j cj) := hbx.cell 1
        have x2 : wr.cell? ⟨wo.heap.size, 2, none⟩ = some (.slice none 0 0) := hbx.cell 2
        clear hbx hown hbel HX0
        by_cases hjl : j < 64
        · have l2 : (j : Int) < 64 := by omega
          have Wj : IntKind.i64.wrap ((j : Int) + 1) = (j : Int) + 1 := IntWalk.i64_in _ (by omega)
          go_wp2_with (first
            | (at_builtin
               refine wpList_append_row rfl (.tmp 33) (.tmp 37) rfl oel (wo.heap.size + 1) _ j (ov (fos j)) rfl (own_keep HO.out ((Below.refl _ _).alloc (Nat.le_refl _) _)) _ _ 1 1 (ov [fo j]) rfl (oone wr (fo j) rfl) (ov_one _) (by omega) (by omega) (by simp; omega) ?_
               intro A9 c9 w9 hown9 hg9 hb9
               rw [← ov_append] at hown9
               have HO9 := Lib.hid hown9
               have HX9 := Lib.hid ((HX.out.alloc (.cells #[.int .i64 1, .int .i64 0, .int .i64 ((j : Int) + 1), .bool false, .string ⟨#[]⟩] 29)).grown hg9.1 (fun e => by have := (HO.out.lt _ e.symm).1; omega))
               have HB9 : Hid (Below wo.heap.size wo w9) := (HBO.out.alloc HBO.out.size _).trans (hb9.mono (Nat.le_succ _))
               have z1 := HX9.out.cell 1
               have zf1 := HX9.out.frozen 1
               clear hown9 hg9 hb9)
            | fail)
          go_roundw
          case rel => exact ⟨j + 1, A9, c9, by omega, by go_num, HX9.out.set_ 1 _, HO9.out.kept (only_setCell (World.grownBy.refl _ (some wo.heap.size)) (.inl rfl) _) (.inr (fun e => by have := (HO9.out.lt _ e).1; omega)), HB9.out.setCell (by exact Nat.le_refl _) _⟩
          case measure => simp [intOf]; omega
        · obtain rfl : j = 64 := by omega
          have HRW := Lib.hid (HROW.out.new HBO.out)
          have HBW := Lib.hid (held_two HB.out HBO.out)
          have HTW : Hid (ItOwn wr 0 (fit' i) Aj 64 cj none 0 0) := ⟨own_mono HO.out (Nat.zero_le _), World.ownsRow_nil _ _ _ _⟩
          have hz2 : w.heap.size ≤ wr.heap.size := HBW.out.size
          obtain ⟨vs, r1, r2, r3⟩ := HRW.out
          have HOW := Lib.hid r1
          have HLN := Lib.hid r2
          have HIV := Lib.hid r3
          have hci := (Row.of_own r1).le
          clear r1 r2 r3
          go_wp2_with (first
            | (at_builtin
               refine wpList_append_row rfl (.tmp 40) (.tmp 42) rfl itel w.heap.size _ i vs rfl (own_keep HOW.out ((Below.refl _ _).alloc (Nat.le_refl _) _)) _ _ 1 1 (itcells ((i : Int) + 1) Aj 64 cj none 0 0) rfl (it_one wr ((i : Int) + 1) Aj 64 cj none 0 0 rfl) (itcells_one _ _ _ _ _ _ _) (by omega) (by omega) (by simp; omega) ?_
               intro A9 c9 w9 hown9 hg9 hb9
               have HG9 : Hid (wr.grownBy w9 (Value.slice A i c).ownBlock) := only_trans (only_alloc (World.grownBy.refl wr _) (.cells #[.int .i64 ((i : Int) + 1), .slice Aj 64 cj, .slice none 0 0] 25)) hg9.1 (.inl rfl)
               have HBQ : Hid (Below w.heap.size wr w9) := ((Below.refl _ _).alloc hz2 _).trans hb9
               have HP := Lib.hid (ItRow.push (x := fit' i) HOW.out HLN.out HIV.out hown9 HG9.out HTW.out)
               clear hown9 hg9 hb9)
            | fail)
          go_roundw
          case rel => exact ⟨i + 1, A9, c9, by omega, by go_num, rfl, HP.out, HBW.out.trans HBQ.out⟩
          case measure => simp [intOf]; omega
    · have l1 : ¬ (i : Int) < (k : Int) := by omega
      obtain rfl : i = k := by omega
      obtain ⟨J, hJ⟩ : ∃ J, J = 255 + d := ⟨_, rfl⟩
      have hJ7 : 255 ≤ J ∧ J ≤ 257 := by omega
      have Wm : IntKind.i64.wrap (255 + (d : Int)) = (J : Int) := by rw [IntWalk.i64_in _ (by omega)]; omega
      have Nm : 255 + (d : Int) = (J : Int) := by omega
      clear hJ hd3
      go_wp2_with fail
      refine (HMD.out _).mono ?_
      rintro e w1 ⟨rfl, rfl⟩
      clear HMD
      go_wp2
      clear Wm Nm
      obtain ⟨wo, hwo⟩ : ∃ wo, wo = wr := ⟨_, rfl⟩
      have HX0 : Hid (FnRel wo J (.int .i64 0) (wo.alloc (.cells #[.int .i64 1, .slice none 0 0, .slice none 0 0] 25))) := ⟨0, none, 0, by omega, rfl, Blk.new _ _ _, World.ownsRow_nil _ _ _ _, (Below.refl _ _).alloc (Nat.le_refl _) _⟩
      rw [← hwo] at HB HROW hbz ⊢
      clear hwo wr
      go_loopw [12] (fun vj wr => FnRel wo J vj wr) (fun vj _ => J - (intOf vj).toNat)
      case atStart => exact HX0.out
      case round =>
        obtain ⟨j, Aj, cj, hj, rfl, hbx, hown, hbel⟩ := hrel
        have HX := Lib.hid hbx
        have HO := Lib.hid hown
        have HBO := Lib.hid hbel
        have hz := hbx.lt
        have hcap := (Row.of_own hown).le
        have x0 : wr.cell? ⟨wo.heap.size, 0, none⟩ = some (.int .i64 1) := hbx.cell 0
        have x1 : wr.cell? ⟨wo.heap.size, 1, none⟩ = some (.slice none 0 0) := hbx.cell 1
        have x2 : wr.cell? ⟨wo.heap.size, 2, none⟩ = some (.slice Aj j cj) := hbx.cell 2
        clear hbx hown hbel HX0
        by_cases hjl : j < J
        · have l2 : (j : Int) < (J : Int) := by omega
          go_wp2_with (first
            | (at_builtin
               refine wpList_append_row rfl (.tmp 54) (.tmp 56) rfl ntel (wo.heap.size + 1) _ j (ntv (fns j)) rfl (own_keep HO.out ((Below.refl _ _).alloc (Nat.le_refl _) _)) _ _ 1 1 (ntv [fn]) rfl (ntone wr fn rfl) (ntv_one _) (by omega) (by omega) (by simp; omega) ?_
               intro A9 c9 w9 hown9 hg9 hb9
               rw [← ntv_append] at hown9
               have HO9 := Lib.hid hown9
               have HX9 := Lib.hid ((HX.out.alloc (.cells #[.int .i64 2, .int .i64 1, .int .i64 0, .int .i64 0, .int .i64 0, .int .i64 0, .bool false] 27)).grown hg9.1 (fun e => by have := (HO.out.lt _ e.symm).1; omega))
               have HB9 : Hid (Below wo.heap.size wo w9) := (HBO.out.alloc HBO.out.size _).trans (hb9.mono (Nat.le_succ _))
               have z1 := HX9.out.cell 2
               have zf1 := HX9.out.frozen 2
               clear hown9 hg9 hb9)
            | fail)
          go_roundw
          case rel => exact ⟨j + 1, A9, c9, by omega, by go_num, HX9.out.set_ 2 _, HO9.out.kept (only_setCell (World.grownBy.refl _ (some wo.heap.size)) (.inl rfl) _) (.inr (fun e => by have := (HO9.out.lt _ e).1; omega)), HB9.out.setCell (by exact Nat.le_refl _) _⟩
          case measure => simp [intOf]; omega
        · have l2 : ¬ (j : Int) < (J : Int) := by omega
          obtain rfl : j = J := by omega
          have HRW := Lib.hid (HROW.out.new HBO.out)
          have HBW := Lib.hid (held_two HB.out HBO.out)
          have HTW := Lib.hid (Nts.of_own HO.out)
          go_wp2_with fail
          have hlx := HX.out.lt
          have hJ1 : join (fits' i) = if 64 * i ≤ 4096 then .ok ⟨i, allOps (fits' i), []⟩ else .error 1 := fits_join (by omega) (by omega)
          have hJ2 := (fits_all (n := i) (by omega)).2.2.2.1
          refine (join_any wr.heap.size A i c (fits' i) wr HRW.out.its (Nat.le_refl _) (by omega)).mono ?_
          intro e w2 he2
          obtain ⟨v2, he, hi2, hb2⟩ := he2.at_
          obtain ⟨A2, n2, c2, P2, m2, q2, hv, hin2, hg2, _⟩ := hi2.agg
          have hn2 := hg2.len
          have hc1 : (i ≤ 64 ∧ err (join (fits' i)) = 0 ∧ n2 = 64 * i) ∨ (64 < i ∧ err (join (fits' i)) = 1 ∧ n2 = 0) := by
            rw [hJ1] at hn2 ⊢
            by_cases h : 64 * i ≤ 4096
            · rw [if_pos h] at hn2 ⊢
              exact .inl ⟨by omega, rfl, by rw [← hn2]; exact hJ2⟩
            · rw [if_neg h] at hn2 ⊢
              exact .inr ⟨by omega, rfl, hn2.symm⟩
          subst hv
          subst he
          generalize err (join (fits' i)) = e1 at hc1 ⊢
          generalize (gotI (join (fits' i))).lsn = L1
          have HX2 := Lib.hid (HX.out.below hb2 hlx)
          have HT2 := Lib.hid (HTW.out.below hb2)
          have HB2 := Lib.hid (held_two HBW.out hb2)
          have hz2 := hb2.size
          have x0 : w2.cell? ⟨wo.heap.size, 0, none⟩ = some (.int .i64 1) := HX2.out.cell 0
          have x1 : w2.cell? ⟨wo.heap.size, 1, none⟩ = some (.slice none 0 0) := HX2.out.cell 1
          have x2 : w2.cell? ⟨wo.heap.size, 2, none⟩ = some (.slice Aj j cj) := HX2.out.cell 2
          have hxl : wo.heap.size < w2.heap.size := HX2.out.lt
          clear he2 hi2 hin2 hg2 hb2 hJ1 hJ2 hn2 HRW HBW HTW HX HO HBO HROW HB
          have hl1 : Below w2.heap.size w2 (w2.alloc (.cells #[.int .i64 L1, .slice A2 n2 c2, .slice P2 m2 q2] 25)) := (Below.refl _ _).alloc (Nat.le_refl _) _
          have HXV : Hid (Blk (w2.alloc (.cells #[.int .i64 L1, .slice A2 n2 c2, .slice P2 m2 q2] 25)) w2.heap.size 25 #[.int .i64 L1, .slice A2 n2 c2, .slice P2 m2 q2]) := Blk.new _ _ _
          have HYV := Lib.hid (HX2.out.below hl1 hxl)
          have HTV := Lib.hid (HT2.out.below (hl1.mono hz2))
          have HBV := Lib.hid (held_two HB2.out hl1)
          have hsz : (w2.alloc (.cells #[.int .i64 L1, .slice A2 n2 c2, .slice P2 m2 q2] 25)).heap.size = w2.heap.size + 1 := by simp
          clear hl1 HX2 HT2 HB2
          go_wp2_with fail
          clear x0 x1 x2
          generalize (w2.alloc (.cells #[.int .i64 L1, .slice A2 n2 c2, .slice P2 m2 q2] 25)) = V2 at HXV HYV HTV HBV hsz ⊢
          have hl2 : Below V2.heap.size V2 (V2.alloc (.cells #[.int .i64 1, .slice none 0 0, .slice Aj j cj] 25)) := (Below.refl _ _).alloc (Nat.le_refl _) _
          have HLB : Hid (Blk (V2.alloc (.cells #[.int .i64 1, .slice none 0 0, .slice Aj j cj] 25)) V2.heap.size 25 #[.int .i64 1, .slice none 0 0, .slice Aj j cj]) := Blk.new _ _ _
          have HTL := Lib.hid (HTV.out.below (hl2.mono (by omega)))
          have HITS : Hid (Its (V2.alloc (.cells #[.int .i64 1, .slice none 0 0, .slice Aj j cj] 25)) (V2.heap.size + 1) (some ⟨V2.heap.size, 0, none⟩) 1 1 [⟨1, [], fns j⟩]) := its_one (x := ⟨1, [], fns j⟩) HLB.out (Gps.nil_ _ _) (HTL.out.more (by omega)) (Nat.lt_succ_self _)
          have HXL := Lib.hid (HXV.out.below hl2 HXV.out.lt)
          have HYL := Lib.hid (HYV.out.below hl2 HYV.out.lt)
          have HBL := Lib.hid (held_two HBV.out hl2)
          have hzl : (V2.alloc (.cells #[.int .i64 1, .slice none 0 0, .slice Aj j cj] 25)).heap.size = V2.heap.size + 1 := by simp
          clear hl2 HLB HXV HYV HTV HBV
          rw [← hsz]
          generalize (V2.alloc (.cells #[.int .i64 1, .slice none 0 0, .slice Aj j cj] 25)) = V3 at HTL HITS HXL HYL HBL hzl ⊢
          have hJ3 := fn_join j
          have hJ4 := fns_length j
          refine (join_any (V2.heap.size + 1) _ 1 1 [⟨1, [], fns j⟩] V3 HITS.out (by omega) (by omega)).mono ?_
          intro e w4 he4
          obtain ⟨v4, he, hi4, hb4⟩ := he4.at_
          obtain ⟨A4, n4, c4, P4, m4, q4, hv, hin4, _, hg4⟩ := hi4.agg
          have hm4 := hg4.len
          have hc2 : (j ≤ 256 ∧ err (join [⟨1, [], fns j⟩]) = 0 ∧ m4 = j) ∨ (256 < j ∧ err (join [⟨1, [], fns j⟩]) = 1 ∧ True) := by
            rw [hJ3] at hm4 ⊢
            by_cases h : j ≤ 256
            · rw [if_pos h] at hm4 ⊢
              exact .inl ⟨h, rfl, by rw [← hm4]; exact hJ4⟩
            · rw [if_neg h] at hm4 ⊢
              exact .inr ⟨by omega, rfl, trivial⟩
          subst hv
          subst he
          generalize err (join [⟨1, [], fns j⟩]) = e2 at hc2 ⊢
          generalize (gotI (join [⟨1, [], fns j⟩])).lsn = L2
          have HX4 := Lib.hid (HXL.out.below hb4 HXL.out.lt)
          have HY4 := Lib.hid (HYL.out.below hb4 HYL.out.lt)
          have HT4 := Lib.hid (HTL.out.below (hb4.mono (by omega)))
          have HB4 := Lib.hid (held_two HBL.out hb4)
          have hz4 := hb4.size
          have y0 : w4.cell? ⟨wo.heap.size, 0, none⟩ = some (.int .i64 1) := HY4.out.cell 0
          have y1 : w4.cell? ⟨wo.heap.size, 1, none⟩ = some (.slice none 0 0) := HY4.out.cell 1
          have y2 : w4.cell? ⟨wo.heap.size, 2, none⟩ = some (.slice Aj j cj) := HY4.out.cell 2
          have x0 : w4.cell? ⟨w2.heap.size, 0, none⟩ = some (.int .i64 L1) := HX4.out.cell 0
          have x1 : w4.cell? ⟨w2.heap.size, 1, none⟩ = some (.slice A2 n2 c2) := HX4.out.cell 1
          have x2 : w4.cell? ⟨w2.heap.size, 2, none⟩ = some (.slice P2 m2 q2) := HX4.out.cell 2
          have hyl : wo.heap.size < w4.heap.size := HY4.out.lt
          have hxl4 : w2.heap.size < w4.heap.size := HX4.out.lt
          have hBT : wr.heap.size ≤ w4.heap.size := by omega
          clear he4 hi4 hin4 hg4 hb4 hJ3 hJ4 hm4 HITS HXL HYL HTL HBL hsz hzl
          have HC2 := Lib.hid hc2
          clear hc2
          have hik : i = 63 ∨ i = 64 ∨ i = 65 := by omega
          rcases hik with rfl | rfl | rfl
          · obtain ⟨rfl, rfl⟩ : e1 = 0 ∧ n2 = 4032 := by omega
            clear hc1
            rcases HC2.out with ⟨hj6, he0, hm0⟩ | ⟨hj5, he0, _⟩
            · subst he0
              have hm1 := hm0.symm
              subst hm1
              have lj : (j : Int) ≤ 256 := by omega
              clear HC2
              have hl5 : Below w4.heap.size w4 (w4.alloc (.cells #[.int .i64 L2, .slice A4 n4 c4, .slice P4 j q4] 25)) := (Below.refl _ _).alloc (Nat.le_refl _) _
              have HZ5 : Hid (Blk (w4.alloc (.cells #[.int .i64 L2, .slice A4 n4 c4, .slice P4 j q4] 25)) w4.heap.size 25 #[.int .i64 L2, .slice A4 n4 c4, .slice P4 j q4]) := Blk.new _ _ _
              have HY5 := Lib.hid (HY4.out.below hl5 hyl)
              have HT5 := Lib.hid (HT4.out.below (hl5.mono hBT))
              have HB5 := Lib.hid (held_two HB4.out hl5)
              have hz5 : w4.heap.size < (w4.alloc (.cells #[.int .i64 L2, .slice A4 n4 c4, .slice P4 j q4] 25)).heap.size := HZ5.out.lt
              clear hl5
              go_wp2_with fail
              clear x0 x1 x2 y0 y1 y2
              generalize (w4.alloc (.cells #[.int .i64 L2, .slice A4 n4 c4, .slice P4 j q4] 25)) = V5 at HZ5 HY5 HT5 HB5 hz5 ⊢
              refine (awake_any _).mono ?_
              rintro e w6 ⟨rfl, hb6⟩
              have hz6 := hb6.size
              have HZ6 := Lib.hid (HZ5.out.below hb6 hz5)
              have HY6 := Lib.hid (HY5.out.below hb6 (by omega))
              have HT6 := Lib.hid (HT5.out.below (hb6.mono (by omega)))
              have HB6 := Lib.hid (held_two HB5.out hb6)
              have y0 : w6.cell? ⟨wo.heap.size, 0, none⟩ = some (.int .i64 1) := HY6.out.cell 0
              have y1 : w6.cell? ⟨wo.heap.size, 1, none⟩ = some (.slice none 0 0) := HY6.out.cell 1
              have y2 : w6.cell? ⟨wo.heap.size, 2, none⟩ = some (.slice Aj j cj) := HY6.out.cell 2
              clear hb6 HZ5 HY5 HT5 HB5
              go_wp2_with fail
              refine (may_in wr.heap.size ⟨1, [], fns j⟩ _ w6 ⟨none, 0, 0, Aj, j, cj, rfl, Gps.nil_ _ _, HT6.out⟩ (by omega)).mono ?_
              rintro e w7 ⟨rfl, hb7⟩
              rw [fn_may, decide_eq_true hj6]
              have HB7 := Lib.hid (held_two HB6.out hb7)
              have HZ7 := Lib.hid (HZ6.out.below hb7 (by omega))
              have z0 : w7.cell? ⟨w4.heap.size, 0, none⟩ = some (.int .i64 L2) := HZ7.out.cell 0
              have z1 : w7.cell? ⟨w4.heap.size, 1, none⟩ = some (.slice A4 n4 c4) := HZ7.out.cell 1
              have z2 : w7.cell? ⟨w4.heap.size, 2, none⟩ = some (.slice P4 j q4) := HZ7.out.cell 2
              clear hb7 y0 y1 y2 HZ6
              go_wp2
              go_ret
              first
                | exact ⟨rfl, HB7.out⟩
                | exact ⟨ret_bool (a := !decide ((j : Int) ≤ 256)) (b := true) (by rw [decide_eq_false (show ¬ (j : Int) ≤ 256 by omega)]; rfl), HB7.out⟩
                | exact ⟨by show Ending.returned (.bool (!decide ((j : Int) ≤ 256))) = _; rw [decide_eq_false (show ¬ (j : Int) ≤ 256 by omega)]; rfl, HB7.out⟩
            · subst he0
              have hj6 : ¬ j ≤ 256 := by omega
              have lj : ¬ (j : Int) ≤ 256 := by omega
              clear HC2
              have hl5 : Below w4.heap.size w4 (w4.alloc (.cells #[.int .i64 L2, .slice A4 n4 c4, .slice P4 m4 q4] 25)) := (Below.refl _ _).alloc (Nat.le_refl _) _
              have HZ5 : Hid (Blk (w4.alloc (.cells #[.int .i64 L2, .slice A4 n4 c4, .slice P4 m4 q4] 25)) w4.heap.size 25 #[.int .i64 L2, .slice A4 n4 c4, .slice P4 m4 q4]) := Blk.new _ _ _
              have HY5 := Lib.hid (HY4.out.below hl5 hyl)
              have HT5 := Lib.hid (HT4.out.below (hl5.mono hBT))
              have HB5 := Lib.hid (held_two HB4.out hl5)
              have hz5 : w4.heap.size < (w4.alloc (.cells #[.int .i64 L2, .slice A4 n4 c4, .slice P4 m4 q4] 25)).heap.size := HZ5.out.lt
              clear hl5
              go_wp2_with fail
              clear x0 x1 x2 y0 y1 y2
              generalize (w4.alloc (.cells #[.int .i64 L2, .slice A4 n4 c4, .slice P4 m4 q4] 25)) = V5 at HZ5 HY5 HT5 HB5 hz5 ⊢
              refine (awake_any _).mono ?_
              rintro e w6 ⟨rfl, hb6⟩
              have hz6 := hb6.size
              have HZ6 := Lib.hid (HZ5.out.below hb6 hz5)
              have HY6 := Lib.hid (HY5.out.below hb6 (by omega))
              have HT6 := Lib.hid (HT5.out.below (hb6.mono (by omega)))
              have HB6 := Lib.hid (held_two HB5.out hb6)
              have y0 : w6.cell? ⟨wo.heap.size, 0, none⟩ = some (.int .i64 1) := HY6.out.cell 0
              have y1 : w6.cell? ⟨wo.heap.size, 1, none⟩ = some (.slice none 0 0) := HY6.out.cell 1
              have y2 : w6.cell? ⟨wo.heap.size, 2, none⟩ = some (.slice Aj j cj) := HY6.out.cell 2
              clear hb6 HZ5 HY5 HT5 HB5
              go_wp2_with fail
              refine (may_in wr.heap.size ⟨1, [], fns j⟩ _ w6 ⟨none, 0, 0, Aj, j, cj, rfl, Gps.nil_ _ _, HT6.out⟩ (by omega)).mono ?_
              rintro e w7 ⟨rfl, hb7⟩
              rw [fn_may, decide_eq_false hj6]
              have HB7 := Lib.hid (held_two HB6.out hb7)
              have HZ7 := Lib.hid (HZ6.out.below hb7 (by omega))
              have z0 : w7.cell? ⟨w4.heap.size, 0, none⟩ = some (.int .i64 L2) := HZ7.out.cell 0
              have z1 : w7.cell? ⟨w4.heap.size, 1, none⟩ = some (.slice A4 n4 c4) := HZ7.out.cell 1
              have z2 : w7.cell? ⟨w4.heap.size, 2, none⟩ = some (.slice P4 m4 q4) := HZ7.out.cell 2
              clear hb7 y0 y1 y2 HZ6
              go_wp2
              go_ret
              first
                | exact ⟨rfl, HB7.out⟩
                | exact ⟨ret_bool (a := !decide ((j : Int) ≤ 256)) (b := true) (by rw [decide_eq_false (show ¬ (j : Int) ≤ 256 by omega)]; rfl), HB7.out⟩
                | exact ⟨by show Ending.returned (.bool (!decide ((j : Int) ≤ 256))) = _; rw [decide_eq_false (show ¬ (j : Int) ≤ 256 by omega)]; rfl, HB7.out⟩
          · obtain ⟨rfl, rfl⟩ : e1 = 0 ∧ n2 = 4096 := by omega
            clear hc1
            rcases HC2.out with ⟨hj6, he0, hm0⟩ | ⟨hj5, he0, _⟩
            · subst he0
              have hm1 := hm0.symm
              subst hm1
              have lj : (j : Int) ≤ 256 := by omega
              clear HC2
              have hl5 : Below w4.heap.size w4 (w4.alloc (.cells #[.int .i64 L2, .slice A4 n4 c4, .slice P4 j q4] 25)) := (Below.refl _ _).alloc (Nat.le_refl _) _
              have HZ5 : Hid (Blk (w4.alloc (.cells #[.int .i64 L2, .slice A4 n4 c4, .slice P4 j q4] 25)) w4.heap.size 25 #[.int .i64 L2, .slice A4 n4 c4, .slice P4 j q4]) := Blk.new _ _ _
              have HY5 := Lib.hid (HY4.out.below hl5 hyl)
              have HT5 := Lib.hid (HT4.out.below (hl5.mono hBT))
              have HB5 := Lib.hid (held_two HB4.out hl5)
              have hz5 : w4.heap.size < (w4.alloc (.cells #[.int .i64 L2, .slice A4 n4 c4, .slice P4 j q4] 25)).heap.size := HZ5.out.lt
              clear hl5
              go_wp2_with fail
              clear x0 x1 x2 y0 y1 y2
              generalize (w4.alloc (.cells #[.int .i64 L2, .slice A4 n4 c4, .slice P4 j q4] 25)) = V5 at HZ5 HY5 HT5 HB5 hz5 ⊢
              refine (awake_any _).mono ?_
              rintro e w6 ⟨rfl, hb6⟩
              have hz6 := hb6.size
              have HZ6 := Lib.hid (HZ5.out.below hb6 hz5)
              have HY6 := Lib.hid (HY5.out.below hb6 (by omega))
              have HT6 := Lib.hid (HT5.out.below (hb6.mono (by omega)))
              have HB6 := Lib.hid (held_two HB5.out hb6)
              have y0 : w6.cell? ⟨wo.heap.size, 0, none⟩ = some (.int .i64 1) := HY6.out.cell 0
              have y1 : w6.cell? ⟨wo.heap.size, 1, none⟩ = some (.slice none 0 0) := HY6.out.cell 1
              have y2 : w6.cell? ⟨wo.heap.size, 2, none⟩ = some (.slice Aj j cj) := HY6.out.cell 2
              clear hb6 HZ5 HY5 HT5 HB5
              go_wp2_with fail
              refine (may_in wr.heap.size ⟨1, [], fns j⟩ _ w6 ⟨none, 0, 0, Aj, j, cj, rfl, Gps.nil_ _ _, HT6.out⟩ (by omega)).mono ?_
              rintro e w7 ⟨rfl, hb7⟩
              rw [fn_may, decide_eq_true hj6]
              have HB7 := Lib.hid (held_two HB6.out hb7)
              have HZ7 := Lib.hid (HZ6.out.below hb7 (by omega))
              have z0 : w7.cell? ⟨w4.heap.size, 0, none⟩ = some (.int .i64 L2) := HZ7.out.cell 0
              have z1 : w7.cell? ⟨w4.heap.size, 1, none⟩ = some (.slice A4 n4 c4) := HZ7.out.cell 1
              have z2 : w7.cell? ⟨w4.heap.size, 2, none⟩ = some (.slice P4 j q4) := HZ7.out.cell 2
              clear hb7 y0 y1 y2 HZ6
              go_wp2
              go_ret
              first
                | exact ⟨rfl, HB7.out⟩
                | exact ⟨ret_bool (a := !decide ((j : Int) ≤ 256)) (b := true) (by rw [decide_eq_false (show ¬ (j : Int) ≤ 256 by omega)]; rfl), HB7.out⟩
                | exact ⟨by show Ending.returned (.bool (!decide ((j : Int) ≤ 256))) = _; rw [decide_eq_false (show ¬ (j : Int) ≤ 256 by omega)]; rfl, HB7.out⟩
            · subst he0
              have hj6 : ¬ j ≤ 256 := by omega
              have lj : ¬ (j : Int) ≤ 256 := by omega
              clear HC2
              have hl5 : Below w4.heap.size w4 (w4.alloc (.cells #[.int .i64 L2, .slice A4 n4 c4, .slice P4 m4 q4] 25)) := (Below.refl _ _).alloc (Nat.le_refl _) _
              have HZ5 : Hid (Blk (w4.alloc (.cells #[.int .i64 L2, .slice A4 n4 c4, .slice P4 m4 q4] 25)) w4.heap.size 25 #[.int .i64 L2, .slice A4 n4 c4, .slice P4 m4 q4]) := Blk.new _ _ _
              have HY5 := Lib.hid (HY4.out.below hl5 hyl)
              have HT5 := Lib.hid (HT4.out.below (hl5.mono hBT))
              have HB5 := Lib.hid (held_two HB4.out hl5)
              have hz5 : w4.heap.size < (w4.alloc (.cells #[.int .i64 L2, .slice A4 n4 c4, .slice P4 m4 q4] 25)).heap.size := HZ5.out.lt
              clear hl5
              go_wp2_with fail
              clear x0 x1 x2 y0 y1 y2
              generalize (w4.alloc (.cells #[.int .i64 L2, .slice A4 n4 c4, .slice P4 m4 q4] 25)) = V5 at HZ5 HY5 HT5 HB5 hz5 ⊢
              refine (awake_any _).mono ?_
              rintro e w6 ⟨rfl, hb6⟩
              have hz6 := hb6.size
              have HZ6 := Lib.hid (HZ5.out.below hb6 hz5)
              have HY6 := Lib.hid (HY5.out.below hb6 (by omega))
              have HT6 := Lib.hid (HT5.out.below (hb6.mono (by omega)))
              have HB6 := Lib.hid (held_two HB5.out hb6)
              have y0 : w6.cell? ⟨wo.heap.size, 0, none⟩ = some (.int .i64 1) := HY6.out.cell 0
              have y1 : w6.cell? ⟨wo.heap.size, 1, none⟩ = some (.slice none 0 0) := HY6.out.cell 1
              have y2 : w6.cell? ⟨wo.heap.size, 2, none⟩ = some (.slice Aj j cj) := HY6.out.cell 2
              clear hb6 HZ5 HY5 HT5 HB5
              go_wp2_with fail
              refine (may_in wr.heap.size ⟨1, [], fns j⟩ _ w6 ⟨none, 0, 0, Aj, j, cj, rfl, Gps.nil_ _ _, HT6.out⟩ (by omega)).mono ?_
              rintro e w7 ⟨rfl, hb7⟩
              rw [fn_may, decide_eq_false hj6]
              have HB7 := Lib.hid (held_two HB6.out hb7)
              have HZ7 := Lib.hid (HZ6.out.below hb7 (by omega))
              have z0 : w7.cell? ⟨w4.heap.size, 0, none⟩ = some (.int .i64 L2) := HZ7.out.cell 0
              have z1 : w7.cell? ⟨w4.heap.size, 1, none⟩ = some (.slice A4 n4 c4) := HZ7.out.cell 1
              have z2 : w7.cell? ⟨w4.heap.size, 2, none⟩ = some (.slice P4 m4 q4) := HZ7.out.cell 2
              clear hb7 y0 y1 y2 HZ6
              go_wp2
              go_ret
              first
                | exact ⟨rfl, HB7.out⟩
                | exact ⟨ret_bool (a := !decide ((j : Int) ≤ 256)) (b := true) (by rw [decide_eq_false (show ¬ (j : Int) ≤ 256 by omega)]; rfl), HB7.out⟩
                | exact ⟨by show Ending.returned (.bool (!decide ((j : Int) ≤ 256))) = _; rw [decide_eq_false (show ¬ (j : Int) ≤ 256 by omega)]; rfl, HB7.out⟩
          · obtain ⟨rfl, rfl⟩ : e1 = 1 ∧ n2 = 0 := by omega
            clear hc1
            rcases HC2.out with ⟨hj6, he0, hm0⟩ | ⟨hj5, he0, _⟩
            · subst he0
              have hm1 := hm0.symm
              subst hm1
              have lj : (j : Int) ≤ 256 := by omega
              clear HC2
              have hl5 : Below w4.heap.size w4 (w4.alloc (.cells #[.int .i64 L2, .slice A4 n4 c4, .slice P4 j q4] 25)) := (Below.refl _ _).alloc (Nat.le_refl _) _
              have HZ5 : Hid (Blk (w4.alloc (.cells #[.int .i64 L2, .slice A4 n4 c4, .slice P4 j q4] 25)) w4.heap.size 25 #[.int .i64 L2, .slice A4 n4 c4, .slice P4 j q4]) := Blk.new _ _ _
              have HY5 := Lib.hid (HY4.out.below hl5 hyl)
              have HT5 := Lib.hid (HT4.out.below (hl5.mono hBT))
              have HB5 := Lib.hid (held_two HB4.out hl5)
              have hz5 : w4.heap.size < (w4.alloc (.cells #[.int .i64 L2, .slice A4 n4 c4, .slice P4 j q4] 25)).heap.size := HZ5.out.lt
              clear hl5
              go_wp2_with fail
              clear x0 x1 x2 y0 y1 y2
              generalize (w4.alloc (.cells #[.int .i64 L2, .slice A4 n4 c4, .slice P4 j q4] 25)) = V5 at HZ5 HY5 HT5 HB5 hz5 ⊢
              refine (awake_any _).mono ?_
              rintro e w6 ⟨rfl, hb6⟩
              have hz6 := hb6.size
              have HZ6 := Lib.hid (HZ5.out.below hb6 hz5)
              have HY6 := Lib.hid (HY5.out.below hb6 (by omega))
              have HT6 := Lib.hid (HT5.out.below (hb6.mono (by omega)))
              have HB6 := Lib.hid (held_two HB5.out hb6)
              have y0 : w6.cell? ⟨wo.heap.size, 0, none⟩ = some (.int .i64 1) := HY6.out.cell 0
              have y1 : w6.cell? ⟨wo.heap.size, 1, none⟩ = some (.slice none 0 0) := HY6.out.cell 1
              have y2 : w6.cell? ⟨wo.heap.size, 2, none⟩ = some (.slice Aj j cj) := HY6.out.cell 2
              clear hb6 HZ5 HY5 HT5 HB5
              go_wp2_with fail
              refine (may_in wr.heap.size ⟨1, [], fns j⟩ _ w6 ⟨none, 0, 0, Aj, j, cj, rfl, Gps.nil_ _ _, HT6.out⟩ (by omega)).mono ?_
              rintro e w7 ⟨rfl, hb7⟩
              rw [fn_may, decide_eq_true hj6]
              have HB7 := Lib.hid (held_two HB6.out hb7)
              have HZ7 := Lib.hid (HZ6.out.below hb7 (by omega))
              have z0 : w7.cell? ⟨w4.heap.size, 0, none⟩ = some (.int .i64 L2) := HZ7.out.cell 0
              have z1 : w7.cell? ⟨w4.heap.size, 1, none⟩ = some (.slice A4 n4 c4) := HZ7.out.cell 1
              have z2 : w7.cell? ⟨w4.heap.size, 2, none⟩ = some (.slice P4 j q4) := HZ7.out.cell 2
              clear hb7 y0 y1 y2 HZ6
              go_wp2
              go_ret
              first
                | exact ⟨rfl, HB7.out⟩
                | exact ⟨ret_bool (a := !decide ((j : Int) ≤ 256)) (b := true) (by rw [decide_eq_false (show ¬ (j : Int) ≤ 256 by omega)]; rfl), HB7.out⟩
                | exact ⟨by show Ending.returned (.bool (!decide ((j : Int) ≤ 256))) = _; rw [decide_eq_false (show ¬ (j : Int) ≤ 256 by omega)]; rfl, HB7.out⟩
            · subst he0
              have hj6 : ¬ j ≤ 256 := by omega
              have lj : ¬ (j : Int) ≤ 256 := by omega
              clear HC2
              have hl5 : Below w4.heap.size w4 (w4.alloc (.cells #[.int .i64 L2, .slice A4 n4 c4, .slice P4 m4 q4] 25)) := (Below.refl _ _).alloc (Nat.le_refl _) _
              have HZ5 : Hid (Blk (w4.alloc (.cells #[.int .i64 L2, .slice A4 n4 c4, .slice P4 m4 q4] 25)) w4.heap.size 25 #[.int .i64 L2, .slice A4 n4 c4, .slice P4 m4 q4]) := Blk.new _ _ _
              have HY5 := Lib.hid (HY4.out.below hl5 hyl)
              have HT5 := Lib.hid (HT4.out.below (hl5.mono hBT))
              have HB5 := Lib.hid (held_two HB4.out hl5)
              have hz5 : w4.heap.size < (w4.alloc (.cells #[.int .i64 L2, .slice A4 n4 c4, .slice P4 m4 q4] 25)).heap.size := HZ5.out.lt
              clear hl5
              go_wp2_with fail
              clear x0 x1 x2 y0 y1 y2
              generalize (w4.alloc (.cells #[.int .i64 L2, .slice A4 n4 c4, .slice P4 m4 q4] 25)) = V5 at HZ5 HY5 HT5 HB5 hz5 ⊢
              refine (awake_any _).mono ?_
              rintro e w6 ⟨rfl, hb6⟩
              have hz6 := hb6.size
              have HZ6 := Lib.hid (HZ5.out.below hb6 hz5)
              have HY6 := Lib.hid (HY5.out.below hb6 (by omega))
              have HT6 := Lib.hid (HT5.out.below (hb6.mono (by omega)))
              have HB6 := Lib.hid (held_two HB5.out hb6)
              have y0 : w6.cell? ⟨wo.heap.size, 0, none⟩ = some (.int .i64 1) := HY6.out.cell 0
              have y1 : w6.cell? ⟨wo.heap.size, 1, none⟩ = some (.slice none 0 0) := HY6.out.cell 1
              have y2 : w6.cell? ⟨wo.heap.size, 2, none⟩ = some (.slice Aj j cj) := HY6.out.cell 2
              clear hb6 HZ5 HY5 HT5 HB5
              go_wp2_with fail
              refine (may_in wr.heap.size ⟨1, [], fns j⟩ _ w6 ⟨none, 0, 0, Aj, j, cj, rfl, Gps.nil_ _ _, HT6.out⟩ (by omega)).mono ?_
              rintro e w7 ⟨rfl, hb7⟩
              rw [fn_may, decide_eq_false hj6]
              have HB7 := Lib.hid (held_two HB6.out hb7)
              have HZ7 := Lib.hid (HZ6.out.below hb7 (by omega))
              have z0 : w7.cell? ⟨w4.heap.size, 0, none⟩ = some (.int .i64 L2) := HZ7.out.cell 0
              have z1 : w7.cell? ⟨w4.heap.size, 1, none⟩ = some (.slice A4 n4 c4) := HZ7.out.cell 1
              have z2 : w7.cell? ⟨w4.heap.size, 2, none⟩ = some (.slice P4 m4 q4) := HZ7.out.cell 2
              clear hb7 y0 y1 y2 HZ6
              go_wp2
              go_ret
              first
                | exact ⟨rfl, HB7.out⟩
                | exact ⟨ret_bool (a := !decide ((j : Int) ≤ 256)) (b := true) (by rw [decide_eq_false (show ¬ (j : Int) ≤ 256 by omega)]; rfl), HB7.out⟩
                | exact ⟨by show Ending.returned (.bool (!decide ((j : Int) ≤ 256))) = _; rw [decide_eq_false (show ¬ (j : Int) ≤ 256 by omega)]; rfl, HB7.out⟩
end Go.Proofs.Ytlkjmdkmcaaihaa.Bt
