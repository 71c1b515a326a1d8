/-
  Contracts of package image's Encode, of the document's MayImage and Image.
-/
import Derived.Test.YtjicdnknlfpajaaImgGather
import Derived.BigQuiet
namespace Go.Proofs.Ytjicdnknlfpajaa.Img
set_option linter.unusedVariables false
set_option maxRecDepth 100000
open Go.RowKit Base FieldMath TxnMath RecMath
open ImgMath
open IdxMath (Rw)
open Go.Proofs.Ytjicdnknlfpajaa.Field (fv fv_append fv_one fv_length fval Flds ef ret_bool empty_iff num_any text_any Encoded)
open Rec (Putted)
set_option linter.ambiguousOpen false
set_option linter.unusedSimpArgs false

/-- what Encode answers, of an image -/
def EncI (w : World) (x : Im) (e : Ending) (w' : World) : Prop :=
  ∃ A n c, e = .returned (.tuple #[.slice A n c, .int .i64 (err (encI x))]) ∧ w'.ownsRow w.heap.size 5 1 (.slice A n c) n (bv (got (encI x))) ∧ Below w.heap.size w w'
theorem encI_bad {x : Im} (h : x.may = false) : encI x = .error 1 := by unfold encI; rw [if_neg (by rw [h]; simp)]
theorem encI_ok {x : Im} (h : x.may = true) : encI x = .ok (imgB x) := by unfold encI; rw [if_pos h]
theorem encI_no {w w' : World} {x : Im} {e : Ending} (h : x.may = false) (he : e = .returned (.tuple #[.slice none 0 0, .int .i64 1])) (hb : Below w.heap.size w w') : EncI w x e w' := by
  unfold EncI
  rw [encI_bad h]
  exact ⟨none, 0, 0, he, World.ownsRow_nil _ _ _ _, hb⟩
theorem encI_put {w w1 w' : World} {x : Im} {e : Ending} (h : x.may = true) (hp : Putted w1 (RecMath.put (encZ (fldsI x))) e w') (hb : Below w.heap.size w w1) : EncI w x e w' := by
  obtain ⟨A, n, c, he, ho, hb1⟩ := hp
  rw [put_fldsI h] at he ho
  unfold EncI
  rw [encI_ok h]
  exact ⟨A, n, c, he, own_mono ho hb.size, held_two hb hb1⟩
set_option maxHeartbeats 1600000 in
theorem encode_any (B : Nat) (lsn : Int) (A : Option Addr) (n c : Nat) (T : List (List Rw)) (w : World) (h : Tabs w B A n c T) (hB : B ≤ w.heap.size) :
    Calls Try.prog 29 #[.int .i64 lsn, .slice A n c] w (EncI w ⟨lsn, T⟩) := by
  have HT := Lib.hid h
  clear h
  go_enter Try.func29, Try.ntmps29
  go_wp2_with fail
  refine (may_any B lsn A n c T w HT.out hB).mono ?_
  rintro e w1 ⟨rfl, hb1⟩
  have HB1 := Lib.hid hb1
  clear hb1
  cases hm : Im.may ⟨lsn, T⟩ with
  | false =>
    have HM := Lib.hid hm
    clear hm
    go_wp2
    go_ret2
    exact encI_no HM.out rfl HB1.out
  | true =>
    have HM := Lib.hid hm
    clear hm
    go_wp2_with fail
    refine (fieldsOf_any B lsn A n c T w1 (HT.out.below (HB1.out.mono hB)) (Nat.le_trans hB HB1.out.size) (may_of HM.out)).mono ?_
    rintro e w2 ⟨A2, n2, c2, rfl, hf2, hb2⟩
    have HB2 := Lib.hid (held_two HB1.out hb2)
    have HF2 := Lib.hid hf2
    clear hf2 hb2
    go_wp2_with fail
    refine (Field.encode_any w2.heap.size A2 n2 c2 _ w2 HF2.out (Nat.le_refl _)).mono ?_
    rintro e w3 ⟨A3, n3, c3, rfl, ho3, hb3⟩
    rw [enc_fldsI HM.out] at ho3 ⊢
    have HB3 := Lib.hid (held_two HB2.out hb3)
    have HO3 : Hid (Bytes w3 w3.heap.size A3 n3 c3 (encZ (fldsI ⟨lsn, T⟩))) := Bytes.of_own ho3
    rw [show ((err (Except.ok (encZ (fldsI ⟨lsn, T⟩)) : Except Nat (List UInt8)) : Nat) : Int) = 0 from rfl]
    clear ho3 hb3 HF2
    have HEI := Lib.hid (fun e w' => @encI_put w w3 w' ⟨lsn, T⟩ e HM.out)
    generalize encZ (fldsI ⟨lsn, T⟩) = bs at *
    go_wp2_with fail
    refine (Rec.put_any w3.heap.size A3 n3 c3 bs w3 HO3.out (Nat.le_refl _)).mono ?_
    intro e w4 hp
    have hp0 := hp
    obtain ⟨A4, n4, c4, rfl, ho4, hb4⟩ := hp
    have HP := Lib.hid (HEI.out _ _ hp0 HB3.out)
    clear hp0 ho4 hb4
    generalize err (RecMath.put bs) = er at *
    go_wp2
    go_ret2
    exact HP.out

/-! ### the document's -/
theorem keyat {l : List Rw} {j : Nat} {x : Rw} (h : l[j]? = some x) (w : World) (B : Nat) (n c : Nat) (b off : Nat) (hr : Idx.Rs w B (some ⟨b, off, none⟩) n c l) : w.cell? ⟨b, off + j * 2, none⟩ = some (.int .i64 x.key) := by
  have hj : j < n := by rw [← hr.len]; exact (List.getElem?_eq_some_iff.1 h).1
  obtain ⟨b', off', f, e, _, c0, _, hg, _⟩ := hr.at_ hj
  simp only [Option.some.injEq, Addr.mk.injEq, and_true] at e
  obtain ⟨rfl, rfl⟩ := e
  rw [h] at hg
  injection hg with hg
  subst hg
  exact c0
def RmRel (w : World) (n : Nat) (l : List Rw) (vi : Value) (wr : World) : Prop := ∃ (k : Nat) (m : Int), vi = .int .i64 k ∧ k ≤ n ∧ risesFrom 0 l = risesFrom m (l.drop k) ∧ 0 ≤ m ∧ (k = 0 → m = 0) ∧ (0 < k → ∃ x, l[k - 1]? = some x ∧ x.key = m ∧ 1 ≤ m) ∧ ∃ q, wr = w.drewN q
def RyRel (w : World) (n : Nat) (T : List (List Rw)) (vi : Value) (wr : World) : Prop := ∃ k : Nat, vi = .int .i64 k ∧ k ≤ n ∧ (T.take k).all mayTab = true ∧ ∃ q, wr = w.drewN q
set_option maxHeartbeats 6400000 in
theorem refmay_any (B : Nat) (lsn : Int) (A : Option Addr) (n c : Nat) (T : List (List Rw)) (w : World) (h : Tabs w B A n c T) :
    Calls Try.prog 61 #[.int .i64 lsn, .slice A n c] w fun e w' => e = .returned (.bool (Im.mk lsn T).may) ∧ ∃ q, w' = w.drewN q := by
  have hle := h.le
  have HL := Lib.hid h.len
  have HR := Lib.hid h
  clear h
  by_cases h0 : lsn < 0
  · have HE := Lib.hid (may_not lsn T (fun e => by omega))
    go_enter Try.func61, Try.ntmps61
    go_wp2
    go_ret
    exact ⟨ret_b (a := false) HE.out.symm, 0, rfl⟩
  by_cases h1 : 1099511627776 < lsn
  · have HE := Lib.hid (may_not lsn T (fun e => by omega))
    go_enter Try.func61, Try.ntmps61
    go_wp2
    go_ret
    exact ⟨ret_b (a := false) HE.out.symm, 0, rfl⟩
  by_cases h2 : n < 1
  · have HE := Lib.hid (may_not lsn T (fun e => by have := HL.out; omega))
    go_enter Try.func61, Try.ntmps61
    go_wp2
    go_ret
    exact ⟨ret_b (a := false) HE.out.symm, 0, rfl⟩
  by_cases h3 : 8 < n
  · have HE := Lib.hid (may_not lsn T (fun e => by have := HL.out; omega))
    go_enter Try.func61, Try.ntmps61
    go_wp2
    go_ret
    exact ⟨ret_b (a := false) HE.out.symm, 0, rfl⟩
  have HE := Lib.hid (may_mk lsn T (by omega) (by omega) (by have := HL.out; omega) (by have := HL.out; omega))
  go_enter Try.func61, Try.ntmps61
  go_wp2
  go_loopw [5, 6, 7] (fun vi _ _ wr => RyRel w n T vi wr) (fun vi _ _ _ => n - (intOf vi).toNat)
  case atStart => exact ⟨0, rfl, Nat.zero_le _, rfl, 0, rfl⟩
  case round =>
    obtain ⟨k, rfl, hk, hall, q, rfl⟩ := hrel
    have HA := Lib.hid hall
    clear hall
    by_cases hlt : k < n
    · obtain ⟨b, off, A', n', c', l, rfl, hb, c0, hrs, hget, htake⟩ := HR.out.at_ hlt
      have HG := Lib.hid hget
      have HT := Lib.hid htake
      have HRS := Lib.hid hrs
      have HLL := Lib.hid hrs.len
      have hle' := hrs.le
      have l1 : (k : Int) < (n : Int) := by omega
      clear hget htake hrs
      by_cases h1000 : 1000 < n'
      · have HM := Lib.hid (all_no HG.out (show mayTab l = false by unfold mayTab; rw [decide_eq_false (by rw [HLL.out]; omega)]; rfl))
        go_wp2
        go_ret
        exact ⟨ret_b (a := false) (by rw [HE.out, HM.out]), q, rfl⟩
      · have HMT := Lib.hid (show mayTab l = risesFrom 0 l by unfold mayTab; rw [decide_eq_true (by rw [HLL.out]; omega)]; rfl)
        go_wp2
        go_loopw [7] (fun vi wr => RmRel w n' l vi wr) (fun vi _ => n' - (intOf vi).toNat)
        case atStart => exact ⟨0, 0, rfl, Nat.zero_le _, rfl, Int.le_refl _, fun _ => rfl, fun h => absurd h (by omega), q, rfl⟩
        case round =>
          obtain ⟨i, m, rfl, hi, hris, hm0, hmz, hmp, q2, rfl⟩ := hrel
          have HRI := Lib.hid hris
          clear hris
          by_cases hlt2 : i < n'
          · obtain ⟨b2, off2, x, rfl, hb2, d0, d1, hget2, _⟩ := HRS.out.at_ hlt2
            have HD := Lib.hid (drop_at hget2)
            have HG2 := Lib.hid hget2
            obtain ⟨xk, xv⟩ := x
            dsimp only at d0 d1
            have l2 : (i : Int) < (n' : Int) := by omega
            clear hget2
            by_cases h1 : xk < 1
            · have t1 : decide (xk < 1) = true := decide_eq_true h1
              have HM := Lib.hid (all_no HG.out (show mayTab l = false by rw [HMT.out, HRI.out, HD.out]; exact rises_no (fun e => by have e1 := e.1; have e2 := e.2.1; have e3 := e.2.2; dsimp only at e1 e2 e3; omega)))
              go_upto_region 12 with fail
              go_quiet (fail)
              go_wp2
              go_ret
              exact ⟨ret_b (a := false) (by rw [HE.out, HM.out]), q2 + nq, by first | rfl | rw [World.drewN_drewN]⟩
            · have t1 : decide (xk < 1) = false := decide_eq_false h1
              by_cases h2 : 1099511627776 < xk
              · have t2 : decide ((1099511627776 : Int) < xk) = true := decide_eq_true h2
                have HM := Lib.hid (all_no HG.out (show mayTab l = false by rw [HMT.out, HRI.out, HD.out]; exact rises_no (fun e => by have e1 := e.1; have e2 := e.2.1; have e3 := e.2.2; dsimp only at e1 e2 e3; omega)))
                go_upto_region 12 with fail
                go_quiet (fail)
                go_wp2
                go_ret
                exact ⟨ret_b (a := false) (by rw [HE.out, HM.out]), q2 + nq, by first | rfl | rw [World.drewN_drewN]⟩
              · have t2 : decide ((1099511627776 : Int) < xk) = false := decide_eq_false h2
                by_cases h3 : 32 < xv.size
                · have t3 : decide ((32 : Int) < (xv.size : Int)) = true := decide_eq_true (by omega)
                  have t3' : decide (32 < xv.size) = true := decide_eq_true h3
                  have HM := Lib.hid (all_no HG.out (show mayTab l = false by rw [HMT.out, HRI.out, HD.out]; exact rises_no (fun e => by have e1 := e.1; have e2 := e.2.1; have e3 := e.2.2; dsimp only at e1 e2 e3; omega)))
                  go_upto_region 12 with fail
                  go_quiet (fail)
                  go_wp2
                  go_ret
                  exact ⟨ret_b (a := false) (by rw [HE.out, HM.out]), q2 + nq, by first | rfl | rw [World.drewN_drewN]⟩
                · have t3 : decide ((32 : Int) < (xv.size : Int)) = false := decide_eq_false (by omega)
                  have t3' : decide (32 < xv.size) = false := decide_eq_false h3
                  cases i with
                  | zero =>
                    have hm := hmz rfl
                    clear hmp hmz
                    subst hm
                    have t4 : decide ((0 : Int) < ((0 : Nat) : Int)) = false := by decide
                    rw [Nat.zero_mul, Nat.add_zero] at d0 d1
                    have HS := Lib.hid (rises_yes (m := 0) (x := ⟨xk, xv⟩) (r := l.drop (0 + 1)) ⟨by dsimp only; omega, by dsimp only; omega, by dsimp only; omega⟩)
                    go_upto_region 12 with fail
                    go_quiet (fail)
                    go_wp2
                    go_roundw
                    case rel => exact ⟨0 + 1, xk, by go_num, by omega, by rw [HRI.out, HD.out, HS.out], by omega, fun h => absurd h (by omega), fun _ => ⟨⟨xk, xv⟩, HG2.out, rfl, by omega⟩, q2 + nq, by first | rfl | rw [World.drewN_drewN]⟩
                    case measure => simp [intOf]; omega
                  | succ j =>
                    obtain ⟨px, hpx, rfl, hp1⟩ := hmp (by omega)
                    rw [Nat.add_sub_cancel] at hpx
                    have d2 := keyat hpx w B _ _ _ _ HRS.out
                    have t4 : decide ((0 : Int) < (j : Int) + 1) = true := decide_eq_true (by omega)
                    have t4' : decide ((0 : Int) < ((j + 1 : Nat) : Int)) = true := decide_eq_true (by omega)
                    obtain ⟨pk, pv⟩ := px
                    dsimp only at d2 hp1 hm0 HRI
                    clear hpx hmz
                    by_cases h5 : xk ≤ pk
                    · have t5 : decide (xk ≤ pk) = true := decide_eq_true h5
                      have HM := Lib.hid (all_no HG.out (show mayTab l = false by rw [HMT.out, HRI.out, HD.out]; exact rises_no (fun e => by have e1 := e.1; have e2 := e.2.1; have e3 := e.2.2; dsimp only at e1 e2 e3; omega)))
                      go_upto_region 12 with fail
                      go_quiet (fail)
                      go_wp2
                      go_ret
                      exact ⟨ret_b (a := false) (by rw [HE.out, HM.out]), q2 + nq, by first | rfl | rw [World.drewN_drewN]⟩
                    · have t5 : decide (xk ≤ pk) = false := decide_eq_false h5
                      have HS := Lib.hid (rises_yes (m := pk) (x := ⟨xk, xv⟩) (r := l.drop (j + 1 + 1)) ⟨by dsimp only; omega, by dsimp only; omega, by dsimp only; omega⟩)
                      go_upto_region 12 with fail
                      go_quiet (fail)
                      go_wp2
                      go_roundw
                      case rel => exact ⟨j + 1 + 1, xk, by go_num, by omega, by rw [HRI.out, HD.out, HS.out], by omega, fun h => absurd h (by omega), fun _ => ⟨⟨xk, xv⟩, HG2.out, rfl, by omega⟩, q2 + nq, by first | rfl | rw [World.drewN_drewN]⟩
                      case measure => simp [intOf]; omega
          · have HN : Hid (mayTab l = true) := by show _ = _; rw [HMT.out, HRI.out, List.drop_of_length_le (by rw [HLL.out]; omega)]; rfl
            have HM := Lib.hid (all_step HA.out HT.out HN.out)
            have l2 : ¬ (i : Int) < (n' : Int) := by omega
            clear hmp
            go_wp2
            go_roundw
            case rel => exact ⟨k + 1, by go_num, by omega, HM.out, q2, rfl⟩
            case measure => simp [intOf]; omega
    · have HM := Lib.hid (all_end (l := T) (n := k) (by rw [HL.out]; omega) HA.out)
      go_wp2
      go_ret
      exact ⟨ret_b (a := true) (by rw [HE.out, HM.out]), q, rfl⟩
end Go.Proofs.Ytjicdnknlfpajaa.Img
