/-
  Contracts of the sort's rotation of two ranges that lie side by side, and of its insertion, at rows of a table in a block of the call's own.
-/
import Derived.Test.YtngncalbglbjdaaIdxSwap
import Derived.BigQuiet
namespace Go.Proofs.Ytngncalbglbjdaa.Idx
set_option linter.unusedVariables false
set_option maxRecDepth 100000
open Go.RowKit Base IdxMath
open Go.Sort (grow)
set_option linter.ambiguousOpen false
set_option linter.unusedSimpArgs false

def RotRel (w : World) (b c m : Nat) (F : List Rw) (vi vj : Value) (wr : World) : Prop :=
  ∃ (i j : Nat) (P U V R : List Rw), vi = .int .i64 i ∧ vj = .int .i64 j ∧ 0 < i ∧ 0 < j ∧ P.length + i = m ∧ U.length = i ∧ V.length = j ∧ F = P ++ V ++ U ++ R ∧ Arr wr b c (P ++ U ++ V ++ R) ∧ w.grownBy wr (some b)
def sum2 (i j : Value) : Nat := (intOf i).toNat + (intOf j).toNat
set_option maxHeartbeats 1600000 in
theorem rotate_any (b c N : Nat) (P U V R : List Rw) (a m e : Nat) (w : World) (h : Arr w b c (P ++ U ++ V ++ R)) (hN : N = (P ++ U ++ V ++ R).length) (hP : P.length = a) (hU : a + U.length = m) (hV : m + V.length = e) (h1 : 0 < U.length) (h2 : 0 < V.length) :
    Calls Try.prog 66 #[.slice (some ⟨b, 0, none⟩) N c, .int .i64 a, .int .i64 m, .int .i64 e, .func (.func 48) #[] #[]] w fun e w' => e = .returned (.tuple #[]) ∧ Arr w' b c (P ++ V ++ U ++ R) ∧ w.grownBy w' (some b) := by
  have hle := h.le
  rw [← hN] at hle
  have HF : Hid (∀ (P' U' V' R' : List Rw), P ++ V ++ U ++ R = P' ++ V' ++ U' ++ R' → N = (P' ++ U' ++ V' ++ R').length) := fun P' U' V' R' he => by
    have := congrArg List.length he
    rw [hN]
    simp at this ⊢
    omega
  have S0 : Hid (RotRel w b c m (P ++ V ++ U ++ R) (.int .i64 U.length) (.int .i64 V.length) w) := ⟨_, _, P, U, V, R, rfl, rfl, h1, h2, by omega, rfl, rfl, rfl, h, World.grownBy.refl _ _⟩
  have l0 : e ≤ N := by rw [hN]; simp; omega
  obtain ⟨u, hu⟩ : ∃ u, U.length = u := ⟨_, rfl⟩
  obtain ⟨v, hv⟩ : ∃ v, V.length = v := ⟨_, rfl⟩
  rw [hu, hv] at S0
  have e1 : (m : Int) - (a : Int) = (u : Int) := by omega
  have e2 : (e : Int) - (m : Int) = (v : Int) := by omega
  have l1 : u ≤ N := by omega
  have l2 : v ≤ N := by omega
  have l3 : m ≤ N := by omega
  clear h hN h1 h2 hU hV hP hu hv
  generalize P ++ V ++ U ++ R = F at *
  go_enter Try.func66, Try.ntmps66
  go_wp2
  clear e1 e2 l1 l2
  go_loopw [10, 11] (fun i j wr => RotRel w b c m F i j wr) (fun i j _ => sum2 i j)
  case atStart => exact S0.out
  case round =>
    obtain ⟨i, j, P1, U1, V1, R1, rfl, rfl, h1, h2, hm, hi, hj, hF, harr, hg⟩ := hrel
    have hN := HF.out P1 U1 V1 R1 hF
    have hlen : P1.length + i + j ≤ N := by rw [hN]; simp; omega
    obtain ⟨p, hp⟩ : ∃ p, P1.length = p := ⟨_, rfl⟩
    rw [hp] at hm hlen
    have e3 : (m : Int) - (i : Int) = (p : Int) := by omega
    have l4 : i ≤ N := by omega
    have l5 : m + j ≤ N := by omega
    have l6 : j ≤ N := by omega
    have l7 : p ≤ N := by omega
    have HA := Lib.hid harr
    have HG := Lib.hid hg
    have HFE := Lib.hid hF
    have HN := Lib.hid hN
    have HI := Lib.hid (show U1.length = i ∧ V1.length = j ∧ P1.length = p ∧ p + i = m ∧ 0 < i ∧ 0 < j from ⟨hi, hj, hp, hm, h1, h2⟩)
    clear harr hg hF hN hi hj hp hlen h1 h2 hm
    by_cases hij : i = j
    · subst hij
      go_wp2_with fail
      refine (swaprange_any b c N P1 U1 [] V1 R1 i p m _ (by simpa using HA.out) (by simpa using HN.out) HI.out.2.2.1 HI.out.1 HI.out.2.1 (by have := HI.out; simp; omega) _).mono ?_
      rintro e w1 ⟨rfl, ha1, hg1⟩
      have HA1 := Lib.hid ha1
      have HG1 := Lib.hid (only_trans HG.out hg1 (.inl rfl))
      clear ha1 hg1
      go_wp2
      go_end0
      exact ⟨rfl, by rw [HFE.out]; simpa using HA1.out, HG1.out⟩
    · rcases Nat.lt_or_ge j i with hlt | hge
      · have hz : (j : Int) < (i : Int) := by omega
        have hz2 : ¬ (i : Int) = (j : Int) := by omega
        have e4 : (i : Int) - (j : Int) = ((i - j : Nat) : Int) := by omega
        have HJ := Lib.hid hlt
        have eU : U1.take j ++ U1.drop j = U1 := List.take_append_drop _ _
        have HX : Hid (P1 ++ U1 ++ V1 ++ R1 = P1 ++ U1.take j ++ U1.drop j ++ V1 ++ R1) := by show _ = _; rw [List.append_assoc P1 (U1.take j), eU]
        clear eU
        go_wp2_with fail
        refine (swaprange_any b c N P1 (U1.take j) (U1.drop j) V1 R1 j p m _ (by rw [← HX.out]; exact HA.out) (by rw [← HX.out]; exact HN.out) HI.out.2.2.1 (by rw [List.length_take, HI.out.1]; omega) HI.out.2.1 (by have := HI.out; rw [List.length_drop]; omega) _).mono ?_
        rintro e w1 ⟨rfl, ha1, hg1⟩
        have HA1 := Lib.hid ha1
        have HG1 := Lib.hid (only_trans HG.out hg1 (.inl rfl))
        clear ha1 hg1
        go_wp2
        go_roundw
        case rel =>
          have := HI.out
          refine ⟨i - j, j, P1 ++ V1, U1.drop j, U1.take j, R1, rfl, rfl, by omega, by omega, by rw [List.length_append]; omega, by rw [List.length_drop]; omega, by rw [List.length_take]; omega, by rw [HFE.out]; simp [← List.append_assoc (U1.take j), List.take_append_drop], HA1.out, HG1.out⟩
        case measure =>
          have := HI.out
          simp [intOf, sum2]; omega
      · have hz : ¬ (j : Int) < (i : Int) := by omega
        have hz2 : ¬ (i : Int) = (j : Int) := by omega
        have e4 : (j : Int) - (i : Int) = ((j - i : Nat) : Int) := by omega
        have e5 : (m : Int) + (j : Int) - (i : Int) = ((m + j - i : Nat) : Int) := by omega
        have HJ := Lib.hid (show i < j by omega)
        have eU : V1.take (j - i) ++ V1.drop (j - i) = V1 := List.take_append_drop _ _
        have HX : Hid (P1 ++ U1 ++ V1 ++ R1 = P1 ++ U1 ++ V1.take (j - i) ++ V1.drop (j - i) ++ R1) := by show _ = _; rw [List.append_assoc (P1 ++ U1) (V1.take (j - i)), eU]
        clear eU
        go_wp2_with fail
        refine (swaprange_any b c N P1 U1 (V1.take (j - i)) (V1.drop (j - i)) R1 i p (m + j - i) _ (by rw [← HX.out]; exact HA.out) (by rw [← HX.out]; exact HN.out) HI.out.2.2.1 HI.out.1 (by have := HI.out; rw [List.length_drop]; omega) (by have := HI.out; rw [List.length_take]; omega) _).mono ?_
        rintro e w1 ⟨rfl, ha1, hg1⟩
        have HA1 := Lib.hid ha1
        have HG1 := Lib.hid (only_trans HG.out hg1 (.inl rfl))
        clear ha1 hg1
        go_wp2
        go_roundw
        case rel =>
          have := HI.out
          have := HJ.out
          refine ⟨i, j - i, P1, V1.drop (j - i), V1.take (j - i), U1 ++ R1, rfl, rfl, by omega, by omega, by omega, by rw [List.length_drop]; omega, by rw [List.length_take]; omega, by rw [HFE.out]; simp [← List.append_assoc (V1.take (j - i)), List.take_append_drop], by simpa using HA1.out, HG1.out⟩
        case measure =>
          have := HI.out
          have := HJ.out
          simp [intOf, sum2]; omega
end Go.Proofs.Ytngncalbglbjdaa.Idx
