/-
  Contract of the document's Image: an image's bytes, or a refusal.
-/
import Derived.Test.YtjicdnknlfpajaaImgEncode
namespace Go.Proofs.Ytjicdnknlfpajaa.Img
set_option linter.unusedVariables false
set_option maxRecDepth 100000
open Go.RowKit Base FieldMath TxnMath RecMath
open ImgMath
open IdxMath (Rw)
open Go.Proofs.Ytjicdnknlfpajaa.Field (fv fv_append fv_one fv_length fval Flds ef ret_bool empty_iff num_any text_any Encoded)
open Rec (Putted)
set_option linter.ambiguousOpen false
set_option linter.unusedSimpArgs false

theorem own_two (w : World) (base a b : _) {s : Nat} (hs : s = w.heap.size) (hb : base ≤ w.heap.size) : (w.alloc (.cells #[.int .i64 1, .int .i64 a, .string ⟨#[]⟩, .int .i64 1, .int .i64 b, .string ⟨#[]⟩] 61)).ownsRow base 61 3 (.slice (some ⟨s, 0, none⟩) 2 2) 2 (fv [numF a, numF b]) := by
  subst hs
  exact World.ownsRow_lit w #[.int .i64 1, .int .i64 a, .string ⟨#[]⟩, .int .i64 1, .int .i64 b, .string ⟨#[]⟩] 2 hb (by unfold maxLen; omega) rfl
section
variable {wr w' w'' : World} {base : Nat}
theorem hs_call (hz : base ≤ wr.heap.size) (h : Below base wr w') (hb : Below w'.heap.size w' w'') : Below base wr w'' := h.trans (hb.mono (Nat.le_trans hz h.size))
theorem hs_alloc (hz : base ≤ wr.heap.size) (h : Below base wr w') (o : Obj) : Below base wr (w'.alloc o) := h.alloc (Nat.le_trans hz h.size) o
end
/-- the document's Image on its way -/
def RefI (w : World) (pre : List Fld) (vl : Value) (wr : World) : Prop := ∃ N A c, N = pre.length ∧ vl = .slice A N c ∧ wr.ownsRow w.heap.size 61 3 (.slice A N c) N (fv pre) ∧ Below w.heap.size w wr
def RefTb (w : World) (pre : List Fld) (T : List (List Rw)) (n : Nat) (vl vi : Value) (wr : World) : Prop := ∃ k : Nat, k ≤ n ∧ vi = .int .i64 k ∧ RefI w (pre ++ tabsF (T.take k)) vl wr
def RefRw (w : World) (pre : List Fld) (l : List Rw) (n : Nat) (vl vi : Value) (wr : World) : Prop := ∃ k : Nat, k ≤ n ∧ vi = .int .i64 k ∧ RefI w (pre ++ rowsF (l.take k)) vl wr
set_option maxHeartbeats 12800000 in
theorem refimage_any (B : Nat) (lsn : Int) (A : Option Addr) (n c : Nat) (T : List (List Rw)) (w : World) (h : Tabs w B A n c T) (hB : B ≤ w.heap.size) :
    Calls Try.prog 30 #[.int .i64 lsn, .slice A n c] w (EncI w ⟨lsn, T⟩) := by
  have hle := h.le
  have HL := Lib.hid h.len
  have HT := Lib.hid h
  clear h
  go_enter Try.func30, Try.ntmps30
  go_wp2_with fail
  refine (refmay_any B lsn A n c T w HT.out).mono ?_
  rintro e w1 ⟨rfl, q1, rfl⟩
  cases hm : Im.may ⟨lsn, T⟩ with
  | false =>
    have HM := Lib.hid hm
    clear hm
    go_wp2
    go_ret2
    exact encI_no HM.out rfl (below_drewN (Below.refl _ _) _)
  | true =>
    have HM := Lib.hid hm
    have hmm := may_of hm
    have hn8 : n ≤ 8 := by have := hmm.tabs.2; have h2 := HL.out; dsimp only at this; omega
    have H1000 := Lib.hid (fun l (hl : l ∈ T) => (hmm.tab l hl).1)
    have HFEW := Lib.hid (few_fields (T := T) (fun l hl => (hmm.tab l hl).1) (by have := HL.out; omega))
    clear hm hmm
    go_wp2_with fail
    refine (num_any lsn _).mono ?_
    rintro e w2 ⟨rfl, hb2⟩
    go_wp2_with fail
    refine (num_any (n : Int) w2).mono ?_
    rintro e w3 ⟨rfl, hb3⟩
    have HB3 : Hid (Below w.heap.size w w3) := held_two (held_two (below_drewN (Below.refl _ _) q1) hb2) hb3
    clear hb2 hb3
    have S1 : Hid (RefI w [numF lsn, numF (n : Int)] (.slice (some ⟨w3.heap.size, 0, none⟩) 2 2) (w3.alloc (.cells #[.int .i64 1, .int .i64 lsn, .string ⟨#[]⟩, .int .i64 1, .int .i64 n, .string ⟨#[]⟩] 61))) :=
      ⟨2, _, 2, rfl, rfl, own_two w3 w.heap.size lsn (n : Int) rfl HB3.out.size, HB3.out.alloc HB3.out.size _⟩
    have HFI : Hid (fldsI ⟨lsn, T⟩ = [numF lsn, numF (n : Int)] ++ tabsF T) := by show _ = _; unfold fldsI; dsimp only; rw [HL.out]
    have HPL : Hid ([numF lsn, numF (n : Int)].length = 2) := rfl
    generalize [numF lsn, numF (n : Int)] = pre at S1 HFI HPL
    go_wp2
    go_loopw [6, 7, 8] (fun vl vi _ wr => RefTb w pre T n vl vi wr) (fun _ vi _ _ => n - (intOf vi).toNat)
    case atStart => exact ⟨0, Nat.zero_le _, rfl, by simpa [tabsF] using S1.out⟩
    case round =>
      obtain ⟨k, hk, rfl, N, A6, c6, hN, rfl, hown, hbel⟩ := hrel
      have HO := Lib.hid hown
      have HB := Lib.hid hbel
      have HN := Lib.hid hN
      have hbs := hbel.size
      clear hown hbel S1 hN
      by_cases hlt : k < n
      · obtain ⟨b, off, A', n', c', l, rfl, hb, c0w, hrs, hget, htake⟩ := HT.out.at_ hlt
        have c0 : wr.cell? ⟨b, off + k, none⟩ = some (.slice A' n' c') := ((HB.out.mono hB).cell hb).trans c0w
        have HTK := Lib.hid (tabsF_take htake)
        have hl1000 := H1000.out l (List.mem_of_getElem? hget)
        have HLL := Lib.hid hrs.len
        have hn1000 : n' ≤ 1000 := by have := hrs.len; omega
        have hle' := hrs.le
        have HRS := Lib.hid hrs
        have hN16 : N ≤ 16010 := by rw [HN.out, List.length_append, HPL.out]; have := HFEW.out k; omega
        have l1 : (k : Int) < (n : Int) := by omega
        clear hget htake hrs hl1000
        go_wp2_with fail
        refine (num_any (n' : Int) wr).mono ?_
        rintro e w4 ⟨rfl, hb4⟩
        have HO4 := Lib.hid (own_keep HO.out hb4)
        have HB4 := Lib.hid (held_two HB.out hb4)
        clear hb4
        have hz4 := HB4.out.size
        go_wp2_with (first
          | (at_builtin
             refine wpList_append_row rfl (.tmp 27) (.tmp 34) rfl ef w.heap.size _ N (fv _) rfl (own_keep HO4.out ((Below.refl _ _).alloc (Nat.le_refl _) _)) _ _ 1 1 (fv [numF n']) rfl (one_fld2 w4 _ (numF n') rfl) (fv_one _) (by omega) (by omega) (by simp; omega) ?_
             intro A5 c5 w5 hown5 _ hb5
             rw [← fv_append] at hown5
             have HO5 := Lib.hid hown5
             have HB5 := Lib.hid ((held_alloc HB4.out _).trans hb5)
             clear hown5 hb5)
          | fail)
        have S2 : Hid (RefI w (pre ++ tabsF (T.take k) ++ [numF (n' : Int)]) (.slice A5 (N + 1) c5) w5) := ⟨N + 1, A5, c5, by rw [List.length_append, ← HN.out]; rfl, rfl, HO5.out, HB5.out⟩
        have HEQ : Hid (pre ++ tabsF (T.take (k + 1)) = pre ++ tabsF (T.take k) ++ [numF (n' : Int)] ++ rowsF l) := by show _ = _; rw [HTK.out]; unfold tabF; rw [HLL.out]; simp
        have HPL5 : Hid ((pre ++ tabsF (T.take k) ++ [numF (n' : Int)]).length ≤ 16011) := by show _ ≤ _; rw [List.length_append, ← HN.out]; simp; omega
        generalize pre ++ tabsF (T.take k) ++ [numF (n' : Int)] = pre2 at S2 HEQ HPL5
        clear HO HB HO4 HB4 HO5 HB5 HN
        go_wp2
        go_loopw [6, 8] (fun vl vi wr => RefRw w pre2 l n' vl vi wr) (fun _ vi _ => n' - (intOf vi).toNat)
        case atStart => exact ⟨0, Nat.zero_le _, rfl, by simpa [rowsF] using S2.out⟩
        case round =>
          obtain ⟨j, hj, rfl, N2, A7, c7, hN2, rfl, hown, hbel⟩ := hrel
          have HO := Lib.hid hown
          have HB := Lib.hid hbel
          have HN := Lib.hid hN2
          have hz := hbel.size
          have hbW := HB.out
          have e0 : wr.cell? ⟨b, off + k, none⟩ = some (.slice A' n' c') := ((HB.out.mono hB).cell hb).trans c0w
          clear hown hbel S2 hN2
          by_cases hlt2 : j < n'
          · obtain ⟨b2, off2, x, rfl, hb2, d0, d1, hget2, htake2⟩ := (HRS.out.below (HB.out.mono hB)).at_ hlt2
            have HTK2 := Lib.hid (tabF_take htake2)
            obtain ⟨xk, xv⟩ := x
            dsimp only at d0 d1
            have l2 : (j : Int) < (n' : Int) := by omega
            have hN2l : N2 ≤ 20000 := by rw [HN.out, List.length_append, rowsF_length, List.length_take]; have := HPL5.out; omega
            have HS : Hid (∀ wx, Below w.heap.size wr wx → wx.cell? ⟨b, off + k, none⟩ = some (.slice (some ⟨b2, off2, none⟩) n' c') ∧ wx.cell? ⟨b2, off2 + j * 2, none⟩ = some (.int .i64 xk) ∧ wx.cell? ⟨b2, off2 + j * 2 + 1, none⟩ = some (.string xv) ∧ Below w.heap.size wr wx) :=
              fun wx hbx => ⟨((hbx.mono hB).cell hb).trans e0, ((hbx.mono hB).cell hb2).trans d0, ((hbx.mono hB).cell hb2).trans d1, hbx⟩
            clear hget2 htake2 hbW
            go_upto_region 11 with fail
            go_region_held3 (fun w' => w'.cell? ⟨b, off + k, none⟩ = some (.slice (some ⟨b2, off2, none⟩) n' c') ∧ w'.cell? ⟨b2, off2 + j * 2, none⟩ = some (.int .i64 xk) ∧ w'.cell? ⟨b2, off2 + j * 2 + 1, none⟩ = some (.string xv) ∧ Below w.heap.size wr w')
              (first
                | exact HS.out _ ((Below.refl _ _).drew)
                | (go_split_ands; exact HS.out _ (hs_call hz (by assumption) hbn))
                | (go_split_ands; exact HS.out _ (hs_call hz (by assumption) hbt))
                | (go_split_ands; exact HS.out _ ((by assumption : Below w.heap.size wr _).trans hb9))
                | (go_split_ands; exact HS.out _ (hs_alloc hz (by assumption) _)))
              (first
                | (go_at_call 36; refine (num_any _ _).mono ?_; rintro e wn ⟨rfl, hbn⟩)
                | (go_at_call 41; refine (text_any _ _).mono ?_; rintro e wt ⟨rfl, hbt⟩)
                | (refine step_append_row (by rfl) (.tmp 45) (.tmp 64) (by rfl) ef w.heap.size (.slice A7 N2 c7) N2 (fv _) (by rfl) (own_keep HO.out (by first | exact held_alloc (held_two (held_two (held_start wr) hbn) hbt) _ | exact held_alloc (held_two (held_two (held_start wr) hbt) hbn) _)) _ _ 2 2 (fv (rowF ⟨xk, xv⟩)) (by rfl) (two_rowF _ _ ⟨xk, xv⟩ (by rfl)) (fv_one _) (by omega) (by omega) (by have h1 := hbn.size; have h2 := hbt.size; simp at h1 h2 ⊢; omega) ?_; intro A9 c9 w9 hown9 hg9 hb9)
                | fail)
            all_goals (
              have HZ : Hid (RefI w (pre2 ++ rowsF (l.take (j + 1))) (.slice A9 (N2 + 2) c9) w9) := by
                go_split_ands
                refine ⟨N2 + 2, A9, c9, ?_, rfl, ?_, HB.out.trans (by assumption)⟩
                · rw [HTK2.out, ← List.append_assoc, List.length_append, ← HN.out]; rfl
                · rw [HTK2.out, ← List.append_assoc, fv_append]; exact hown9
              clear hown9 hg9 hb9
              go_wp2
              go_roundw
              case rel => exact ⟨j + 1, by omega, by go_num, HZ.out⟩
              case measure => simp [intOf]; omega)
          · have hlk : l.take j = l := List.take_of_length_le (by rw [HLL.out]; omega)
            have l2 : ¬ (j : Int) < (n' : Int) := by omega
            have HZ : Hid (RefI w (pre ++ tabsF (T.take (k + 1))) (.slice A7 N2 c7) wr) := by
              rw [hlk] at HO HN
              rw [← HEQ.out] at HO HN
              exact ⟨N2, A7, c7, HN.out, rfl, HO.out, HB.out⟩
            clear hlk hbW
            go_wp2
            go_roundw
            case rel => exact ⟨k + 1, by omega, by go_num, HZ.out⟩
            case measure => simp [intOf]; omega
      · have hlk : T.take k = T := List.take_of_length_le (by rw [HL.out]; omega)
        have l1 : ¬ (k : Int) < (n : Int) := by omega
        rw [hlk, ← HFI.out] at HO
        clear hlk HN
        have HF := Lib.hid (Flds.of_own HO.out)
        go_wp2_with fail
        refine (Field.refencode_any _ A6 N c6 _ wr HF.out (Nat.le_refl _)).mono ?_
        rintro e w5 ⟨A5, n5, c5, rfl, ho5, hb5⟩
        rw [enc_fldsI HM.out] at ho5 ⊢
        have HB5 := Lib.hid (held_two HB.out hb5)
        have HO5 : Hid (Bytes w5 w5.heap.size A5 n5 c5 (encZ (fldsI ⟨lsn, T⟩))) := Bytes.of_own ho5
        rw [show ((err (Except.ok (encZ (fldsI ⟨lsn, T⟩)) : Except Nat (List UInt8)) : Nat) : Int) = 0 from rfl]
        have HEI := Lib.hid (fun e w' => @encI_put w w5 w' ⟨lsn, T⟩ e HM.out)
        clear ho5 hb5 HF HO
        generalize encZ (fldsI ⟨lsn, T⟩) = bs at *
        go_wp2_with fail
        refine (Rec.refput_any w5.heap.size A5 n5 c5 bs w5 HO5.out (Nat.le_refl _)).mono ?_
        intro e w6 hp
        have hp0 := hp
        obtain ⟨A8, n8, c8, rfl, ho8, hb8⟩ := hp
        have HP := Lib.hid (HEI.out _ _ hp0 HB5.out)
        clear hp0 ho8 hb8
        generalize err (RecMath.put bs) = er at *
        go_wp2
        go_ret2
        exact HP.out
end Go.Proofs.Ytjicdnknlfpajaa.Img
