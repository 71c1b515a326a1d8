/-
  The contract of the stable sort (slices.SortStableFunc by keys), at rows of a table in a block of the call's own.
-/
import Derived.Test.YtngncalbglbjdaaIdxMerge2
namespace Go.Proofs.Ytngncalbglbjdaa.Idx
set_option linter.unusedVariables false
set_option maxRecDepth 100000
open Go.RowKit Base IdxMath
open Go.Sort (grow)
set_option linter.ambiguousOpen false
set_option linter.unusedSimpArgs false

theorem merge_all (b c N : Nat) (hsz : N ≤ 1099511627776) : ∀ s, MergeAll b c N s := by
  intro s
  induction s with
  | zero => exact fun P U V R a m e w hlt => by omega
  | succ s ih =>
    intro P U V R a m e w hlt h hN hP hU hV hu hv hs ht
    by_cases h1 : U.length = 1
    · match U, h1 with
      | [u], _ => exact merge_one b c N P V R u a m e w h hN hP (by simpa using hU) hV ht (by omega)
    · by_cases h2 : V.length = 1
      · match V, h2 with
        | [v], _ => exact merge_last b c N P U R v a m e w h hN hP hU (by simpa using hV) h1 hs (by omega)
      · exact merge_step b c N P U V R a m e w (fun P' U' V' R' a' m' e' w' hlt' => ih P' U' V' R' a' m' e' w' (by omega)) h hN hP hU hV (by omega) (by omega) hs ht hsz

/-! ### runs -/
inductive Runs (bs : Nat) : List Rw → Prop
  | last (l : List Rw) : l.length ≤ bs → Srt l → Runs bs l
  | cons (A B : List Rw) : A.length = bs → Srt A → Runs bs B → Runs bs (A ++ B)
def Full (bs : Nat) (P : List Rw) : Prop := ∀ Q, Runs bs Q → Runs bs (P ++ Q)
theorem Full.nil (bs : Nat) : Full bs [] := fun _ h => h
theorem Full.snoc {bs : Nat} {P A : List Rw} (h : Full bs P) (h1 : A.length = bs) (h2 : Srt A) : Full bs (P ++ A) := fun Q hQ => by
  rw [List.append_assoc]
  exact h _ (.cons A Q h1 h2 hQ)
theorem Runs.one {bs : Nat} {Q : List Rw} (h : Runs bs Q) (hl : Q.length ≤ bs) : Srt Q := by
  cases h with
  | last _ _ h => exact h
  | cons A B h1 h2 h3 =>
    rw [List.length_append] at hl
    have : B = [] := List.eq_nil_of_length_eq_zero (by omega)
    subst this
    simpa using h2
theorem Runs.front {bs : Nat} {Q : List Rw} (h : Runs bs Q) (hl : bs ≤ Q.length) : ∃ A B, Q = A ++ B ∧ A.length = bs ∧ Srt A ∧ Runs bs B := by
  cases h with
  | last _ h1 h2 => exact ⟨Q, [], by simp, by omega, h2, .last [] (Nat.zero_le _) Srt.nil⟩
  | cons A B h1 h2 h3 => exact ⟨A, B, rfl, h1, h2, h3⟩

def BlockRel (w : World) (b c : Nat) (l : List Rw) (va vb : Value) (wr : World) : Prop :=
  ∃ (a : Nat) (P Q : List Rw), va = .int .i64 a ∧ vb = .int .i64 ((a + 20 : Nat) : Int) ∧ P.length = a ∧ Full 20 P ∧ St l (P ++ Q) ∧ (P ++ Q).length = l.length ∧ Arr wr b c (P ++ Q) ∧ w.grownBy wr (some b)
def RunRel (w : World) (b c : Nat) (l : List Rw) (v : Value) (wr : World) : Prop :=
  ∃ (bs : Nat) (L : List Rw), v = .int .i64 bs ∧ 20 ≤ bs ∧ bs ≤ 2199023255552 ∧ Runs bs L ∧ St l L ∧ L.length = l.length ∧ Arr wr b c L ∧ w.grownBy wr (some b)
def PairRel (w : World) (b c bs : Nat) (l : List Rw) (va vb : Value) (wr : World) : Prop :=
  ∃ (a : Nat) (P Q : List Rw), va = .int .i64 a ∧ vb = .int .i64 ((a : Int) + 2 * (bs : Int)) ∧ P.length = a ∧ Full (2 * bs) P ∧ Runs bs Q ∧ St l (P ++ Q) ∧ (P ++ Q).length = l.length ∧ Arr wr b c (P ++ Q) ∧ w.grownBy wr (some b)
theorem grown_on {w w1 w2 : World} {b : Nat} (h : w.grownBy w1 (some b)) (k : w1.grownBy w2 (some b)) : w.grownBy w2 (some b) := only_trans h k (.inl rfl)

set_option maxHeartbeats 6400000 in
theorem stableCmp_any (b c : Nat) (l : List Rw) (n : Nat) (w : World) (h : Arr w b c l) (hn : n = l.length) (hsz : n ≤ 1099511627776) :
    Calls Try.prog 56 #[.slice (some ⟨b, 0, none⟩) n c, .int .i64 n, .func (.func 48) #[] #[]] w fun e w' => e = .returned (.tuple #[]) ∧ w.grownBy w' (some b) ∧ ∃ l', Srt l' ∧ St l l' ∧ l'.length = l.length ∧ Arr w' b c l' := by
  have HA := Lib.hid h
  have HN := Lib.hid hn
  have HMA := Lib.hid (merge_all b c n hsz)
  clear h hn
  go_enter Try.func56, Try.ntmps56
  go_wp2
  go_loopw [7, 8] (fun x y wr => BlockRel w b c l x y wr) (fun x _ _ => n - (intOf x).toNat)
  case atStart => exact ⟨0, [], l, rfl, rfl, rfl, Full.nil _, St.refl _, rfl, HA.out, World.grownBy.refl _ _⟩
  case round =>
    obtain ⟨a, P, Q, rfl, rfl, hP, hF, hst, hlen, harr, hg⟩ := hrel
    have HG := Lib.hid hg
    have HST := Lib.hid hst
    have HF := Lib.hid hF
    have HAR := Lib.hid harr
    have HP := Lib.hid (show P.length = a ∧ a + Q.length = n from ⟨hP, by rw [HN.out, ← hlen, List.length_append]; omega⟩)
    have l1 : a ≤ n := by have := HP.out; omega
    clear hP hF hst hlen harr hg
    by_cases hlt : a + 20 ≤ n
    · have y1 : ((a + 20 : Nat) : Int) ≤ (n : Int) := by omega
      have hQ := List.take_append_drop 20 Q
      have hq1 : (Q.take 20).length = 20 := by rw [List.length_take]; have := HP.out; omega
      have hq2 : (Q.drop 20).length + 20 = Q.length := by rw [List.length_drop]; have := HP.out; omega
      generalize Q.take 20 = U at *
      generalize Q.drop 20 = R at *
      have HQ := Lib.hid (And.intro hQ (And.intro hq1 hq2))
      clear hQ hq1 hq2
      go_wp2_with fail
      refine (insertion_any b c n P U R a (a + 20) _ (by have := HAR.out; rw [← HQ.out.1] at this; simpa using this) (by have := HP.out; have := HQ.out; rw [List.length_append, List.length_append]; omega) HP.out.1 (by have := HQ.out; omega) (by omega)).mono ?_
      rintro e w1 ⟨rfl, hg1, U', h1, h2, h3, h4⟩
      have HG1 := Lib.hid (grown_on HG.out hg1)
      have HU := Lib.hid (And.intro h1 (And.intro h2 (And.intro h3 h4)))
      clear hg1 h1 h2 h3 h4
      go_wp2
      go_roundw
      case rel =>
        obtain ⟨h1, h2, h3, h4⟩ := HU.out
        have := HQ.out
        have := HP.out
        refine ⟨a + 20, P ++ U', R, by go_num, by go_num, by rw [List.length_append]; omega, HF.out.snoc (by omega) h1, ?_, by rw [List.length_append, List.length_append]; have := HN.out; omega, h4, HG1.out⟩
        have h5 := ((St.refl P).app h2).app (St.refl R)
        refine HST.out.trans ?_
        rw [← HQ.out.1, ← List.append_assoc]
        exact h5
      case measure => simp [intOf]; omega
    · have y1 : decide ((a : Int) + 20 ≤ (n : Int)) = false := decide_eq_false (by omega)
      go_wp2_with fail
      refine (insertion_any b c n P Q [] a n _ (by simpa using HAR.out) (by have := HP.out; simp; omega) HP.out.1 (by have := HP.out; omega) (by omega)).mono ?_
      rintro e w1 ⟨rfl, hg1, U', h1, h2, h3, h4⟩
      have HG1 := Lib.hid (grown_on HG.out hg1)
      have S1 : Hid (RunRel w b c l (.int .i64 20) w1) := ⟨20, P ++ U', rfl, by omega, by omega, HF.out _ (.last U' (by have := HP.out; omega) h1), HST.out.trans ((St.refl P).app h2), by have := HP.out; have := HN.out; rw [List.length_append]; omega, by simpa using h4, HG1.out⟩
      clear hg1 h1 h2 h3 h4 HG1 HG HST HF HAR HP l1 y1 hlt
      go_wp2
      go_loopw [6] (fun v wr => RunRel w b c l v wr) (fun v _ => n - (intOf v).toNat)
      case atStart => exact S1.out
      case round =>
        obtain ⟨bs, L, rfl, h20, hbs, hR, hst, hlen, harr, hg⟩ := hrel
        by_cases hlt : bs < n
        · have y1 : (bs : Int) < (n : Int) := by omega
          have S2 : Hid (PairRel w b c bs l (.int .i64 0) (.int .i64 (2 * (bs : Int))) wr) := ⟨0, [], L, rfl, by simp, rfl, Full.nil _, hR, hst, hlen, harr, hg⟩
          clear hR hst hlen harr hg
          go_wp2
          go_loopw [7, 8] (fun x y wr => PairRel w b c bs l x y wr) (fun x _ _ => n - (intOf x).toNat)
          case atStart => exact S2.out
          case round =>
            obtain ⟨a, P, Q, rfl, rfl, hP, hF, hR, hst, hlen, harr, hg⟩ := hrel
            have HG := Lib.hid hg
            have HST := Lib.hid hst
            have HF := Lib.hid hF
            have HR := Lib.hid hR
            have HAR := Lib.hid harr
            have HP := Lib.hid (show P.length = a ∧ a + Q.length = n from ⟨hP, by rw [HN.out, ← hlen, List.length_append]; omega⟩)
            have l1 : a ≤ n := by have := HP.out; omega
            clear hP hF hR hst hlen harr hg
            have l2 : a + 2 * bs ≤ 5497558138880 := by omega
            by_cases hlt2 : a + 2 * bs ≤ n
            · have y2 : (a : Int) + 2 * (bs : Int) ≤ (n : Int) := by omega
              obtain ⟨A, Q1, hA1, hA2, hA3, hA4⟩ := HR.out.front (by have := HP.out; omega)
              obtain ⟨B, Q2, hB1, hB2, hB3, hB4⟩ := hA4.front (by have := HP.out; rw [hA1, List.length_append] at this; omega)
              subst hB1
              subst hA1
              have HQ := Lib.hid (And.intro (And.intro hA2 hA3) (And.intro hB2 (And.intro hB3 hB4)))
              clear hA2 hA3 hA4 hB2 hB3 hB4
              go_wp2_with fail
              refine (HMA.out _ P A B Q2 a (a + bs) (a + 2 * bs) _ (Nat.lt_succ_self _) (by have := HAR.out; simpa using this) (by have := HP.out; simp at this ⊢; omega) HP.out.1 (by have := HQ.out; omega) (by have := HQ.out; omega) (by have := HQ.out; omega) (by have := HQ.out; omega) HQ.out.1.2 HQ.out.2.2.1).mono ?_
              rintro e w2 ⟨rfl, hg2, M, h1, h2, h3, h4⟩
              have HG2 := Lib.hid (grown_on HG.out hg2)
              have HM := Lib.hid (And.intro h1 (And.intro h2 (And.intro h3 h4)))
              clear hg2 h1 h2 h3 h4
              go_wp2
              go_roundw
              case rel =>
                obtain ⟨h1, h2, h3, h4⟩ := HM.out
                have hq := HQ.out
                have hp := HP.out
                simp at hp
                refine ⟨a + 2 * bs, P ++ M, Q2, by go_num, (by first | rfl | (congr 1; omega) | (congr 1 <;> simp <;> omega)), by rw [List.length_append]; omega, HF.out.snoc (by omega) h1, hq.2.2.2, ?_, by rw [List.length_append, List.length_append]; have := HN.out; omega, h4, HG2.out⟩
                have h5 := ((St.refl P).app h2).app (St.refl Q2)
                refine HST.out.trans ?_
                have e5 : P ++ (A ++ (B ++ Q2)) = P ++ (A ++ B) ++ Q2 := by simp only [List.append_assoc]
                rw [e5]
                exact h5
              case measure => simp [intOf]; omega
            · have y2 : ¬ (a : Int) + 2 * (bs : Int) ≤ (n : Int) := by omega
              by_cases hlt3 : a + bs < n
              · have y3 : (a : Int) + (bs : Int) < (n : Int) := by omega
                obtain ⟨A, B, hA1, hA2, hA3, hA4⟩ := HR.out.front (by have := HP.out; omega)
                subst hA1
                have hB := hA4.one (by have := HP.out; rw [List.length_append] at this; omega)
                have HQ := Lib.hid (And.intro (And.intro hA2 hA3) hB)
                clear hA2 hA3 hA4 hB
                go_wp2_with fail
                refine (HMA.out _ P A B [] a (a + bs) n _ (Nat.lt_succ_self _) (by have := HAR.out; simpa using this) (by have := HP.out; simp at this ⊢; omega) HP.out.1 (by have := HQ.out; omega) (by have := HQ.out; have := HP.out; rw [List.length_append] at this; omega) (by have := HQ.out; omega) (by have := HQ.out; have := HP.out; rw [List.length_append] at this; omega) HQ.out.1.2 HQ.out.2).mono ?_
                rintro e w2 ⟨rfl, hg2, M, h1, h2, h3, h4⟩
                have HG2 := Lib.hid (grown_on HG.out hg2)
                have HM := Lib.hid (And.intro h1 (And.intro h2 (And.intro h3 h4)))
                clear hg2 h1 h2 h3 h4
                go_wp2
                go_roundw
                case rel =>
                  obtain ⟨h1, h2, h3, h4⟩ := HM.out
                  have hq := HQ.out
                  have hp := HP.out
                  simp at hp
                  exact ⟨2 * bs, P ++ M, (by first | rfl | (congr 1; omega) | (congr 1 <;> simp <;> omega)), by omega, by omega, HF.out _ (.last M (by omega) h1), HST.out.trans ((St.refl P).app h2), by rw [List.length_append]; have := HN.out; omega, by simpa using h4, HG2.out⟩
                case measure => simp [intOf]; omega
              · have y3 : ¬ (a : Int) + (bs : Int) < (n : Int) := by omega
                go_wp2
                go_roundw
                case rel =>
                  have hp := HP.out
                  exact ⟨2 * bs, P ++ Q, (by first | rfl | (congr 1; omega) | (congr 1 <;> simp <;> omega)), by omega, by omega, HF.out _ (.last Q (by omega) (HR.out.one (by omega))), HST.out, by rw [List.length_append]; have := HN.out; omega, HAR.out, HG.out⟩
                case measure => simp [intOf]; omega
        · go_wp2
          go_end0
          exact ⟨rfl, hg, L, hR.one (by rw [hlen, ← HN.out]; omega), hst, hlen, harr⟩
set_option maxHeartbeats 800000 in
theorem stable_any (b c : Nat) (l : List Rw) (n : Nat) (w : World) (h : Arr w b c l) (hn : n = l.length) (hsz : n ≤ 1099511627776) :
    Calls Try.prog 47 #[.slice (some ⟨b, 0, none⟩) n c, .func (.func 48) #[] #[]] w fun e w' => e = .returned (.tuple #[]) ∧ w.grownBy w' (some b) ∧ ∃ l', Srt l' ∧ St l l' ∧ l'.length = l.length ∧ Arr w' b c l' := by
  have HC := Lib.hid (stableCmp_any b c l n w h hn hsz)
  clear h hn
  go_enter Try.func47, Try.ntmps47
  go_wp2_with fail
  refine HC.out.mono ?_
  rintro e w1 ⟨rfl, h1, h2⟩
  have H1 := Lib.hid (And.intro h1 h2)
  clear h1 h2
  go_wp2
  go_end0
  exact ⟨rfl, H1.out.1, H1.out.2⟩
end Go.Proofs.Ytngncalbglbjdaa.Idx
