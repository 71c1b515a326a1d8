/-
  Contracts of slices.Reverse and of the sort's exchange of two ranges, at rows of a table in a block of the call's own.
-/
import Derived.Test.YtngncalbglbjdaaIdxMem
import Derived.BigRegion
namespace Go.Proofs.Ytngncalbglbjdaa.Idx
set_option linter.unusedVariables false
set_option maxRecDepth 100000
open Go.RowKit Base IdxMath
open Go.Sort (grow)
set_option linter.ambiguousOpen false
set_option linter.unusedSimpArgs false

/-- what an exchange of two rows finds: the four cells, none of them frozen, and what the block holds behind it, in either order of the stores -/
theorem swap_facts {wr : World} {b c : Nat} {P M R : List Rw} {x y : Rw} (h : Arr wr b c (P ++ x :: M ++ y :: R)) {i j : Nat} (hi : P.length = i) (hj : i + 1 + M.length = j) :
    (wr.cell? ⟨b, i * 2, none⟩ = some (.int .i64 x.key) ∧ wr.cell? ⟨b, i * 2 + 1, none⟩ = some (.string x.val) ∧ wr.cell? ⟨b, j * 2, none⟩ = some (.int .i64 y.key) ∧ wr.cell? ⟨b, j * 2 + 1, none⟩ = some (.string y.val)) ∧
    (wr.frozen? ⟨b, i * 2, none⟩ = false ∧ wr.frozen? ⟨b, i * 2 + 1, none⟩ = false ∧ wr.frozen? ⟨b, j * 2, none⟩ = false ∧ wr.frozen? ⟨b, j * 2 + 1, none⟩ = false) ∧
    (¬ i * 2 = j * 2 ∧ ¬ i * 2 = j * 2 + 1 ∧ ¬ i * 2 + 1 = j * 2 ∧ ¬ i * 2 + 1 = j * 2 + 1 ∧ ¬ j * 2 = i * 2 ∧ ¬ j * 2 = i * 2 + 1 ∧ ¬ j * 2 + 1 = i * 2 ∧ ¬ j * 2 + 1 = i * 2 + 1 ∧ ¬ i = j ∧ ¬ j = i) ∧
    Hid (Arr ((((wr.setCell ⟨b, i * 2, none⟩ (.int .i64 y.key)).setCell ⟨b, i * 2 + 1, none⟩ (.string y.val)).setCell ⟨b, j * 2, none⟩ (.int .i64 x.key)).setCell ⟨b, j * 2 + 1, none⟩ (.string x.val)) b c (P ++ y :: M ++ x :: R)) ∧
    Hid (Arr ((((wr.setCell ⟨b, j * 2, none⟩ (.int .i64 x.key)).setCell ⟨b, j * 2 + 1, none⟩ (.string x.val)).setCell ⟨b, i * 2, none⟩ (.int .i64 y.key)).setCell ⟨b, i * 2 + 1, none⟩ (.string y.val)) b c (P ++ y :: M ++ x :: R)) := by
  have g1 := h.get (k := i) (x := x) (by rw [List.append_assoc]; exact get_app hi)
  have g2 := h.get (k := j) (x := y) (get_app (by simp; omega))
  have s1 := (h.set i y).set j x
  have s2 := (h.set j x).set i y
  subst hi hj
  rw [set_swap] at s1
  rw [set_swap'] at s2
  exact ⟨⟨g1.1, g1.2, g2.1, g2.2⟩, ⟨h.frozen _, h.frozen _, h.frozen _, h.frozen _⟩, by omega, Lib.hid s1, Lib.hid s2⟩
theorem four_on {w wr : World} {b : Nat} (h : w.grownBy wr (some b)) (p q r s : Nat) (t u v x : Value) : w.grownBy ((((wr.setCell ⟨b, p, none⟩ t).setCell ⟨b, q, none⟩ u).setCell ⟨b, r, none⟩ v).setCell ⟨b, s, none⟩ x) (some b) :=
  only_setCell (only_setCell (only_setCell (only_setCell h (.inl rfl) _) (.inl rfl) _) (.inl rfl) _) (.inl rfl) _

def RevRel (w : World) (b c n : Nat) (l : List Rw) (i j : Value) (wr : World) : Prop :=
  ∃ (k : Nat) (X M Y : List Rw), i = .int .i64 k ∧ j = .int .i64 ((n : Int) - 1 - k) ∧ X.length = k ∧ Y.length = k ∧ l = Y.reverse ++ M ++ X.reverse ∧ Arr wr b c (X ++ M ++ Y) ∧ w.grownBy wr (some b)
set_option maxHeartbeats 800000 in
theorem reverse_any (b c : Nat) (l : List Rw) (w : World) (h : Arr w b c l) :
    Calls Try.prog 46 #[.slice (some ⟨b, 0, none⟩) l.length c] w fun e w' => e = .returned (.tuple #[]) ∧ Arr w' b c l.reverse ∧ w.grownBy w' (some b) := by
  obtain ⟨n, hn⟩ : ∃ n, n = l.length := ⟨_, rfl⟩
  have hle := h.le
  rw [← hn] at hle ⊢
  have HN := Lib.hid hn
  have HA := Lib.hid h
  clear hn h
  go_enter Try.func46, Try.ntmps46
  go_wp2
  go_loopw [2, 3] (fun i j wr => RevRel w b c n l i j wr) (fun i _ _ => n - (intOf i).toNat)
  case atStart => exact ⟨0, [], l, [], rfl, by simp, rfl, rfl, by simp, by simpa using HA.out, World.grownBy.refl _ _⟩
  case round =>
    obtain ⟨k, X, M, Y, rfl, rfl, hX, hY, hl, harr, hg⟩ := hrel
    have hlen : n = k + M.length + k := by rw [HN.out, hl]; simp [hX, hY]; omega
    by_cases hlt : k + k + 1 < n
    · obtain ⟨x, M1, rfl⟩ : ∃ x M1, M = x :: M1 := by
        cases M with
        | nil => simp at hlen; omega
        | cons x M1 => exact ⟨x, M1, rfl⟩
      rcases List.eq_nil_or_concat M1 with rfl | ⟨M', y, rfl⟩
      · simp at hlen; omega
      rw [List.concat_eq_append] at *
      have hm : n = k + (M'.length + 2) + k := by rw [hlen]; simp
      obtain ⟨j, hj⟩ : ∃ j : Nat, k + 1 + M'.length = j := ⟨_, rfl⟩
      have hjz : (n : Int) - 1 - (k : Int) = (j : Int) := by omega
      rw [hjz]
      have earr : X ++ (x :: (M' ++ [y])) ++ Y = X ++ x :: M' ++ y :: Y := by simp
      rw [earr] at harr
      obtain ⟨⟨a1, a2, a3, a4⟩, ⟨f1, f2, f3, f4⟩, ⟨n1, n2, n3, n4, n5, n6, n7, n8, n9, n10⟩, HS, _⟩ := swap_facts harr hX hj
      have l1 : (k : Int) < (n : Int) := by omega
      have l2 : (j : Int) < (n : Int) := by omega
      have l3 : (k : Int) < (j : Int) := by omega
      have HG := Lib.hid hg
      have HL := Lib.hid hl
      have HM := Lib.hid (show (k < n) ∧ n = k + (M'.length + 2) + k ∧ j = k + 1 + M'.length from ⟨by omega, hm, hj.symm⟩)
      have HX := Lib.hid hX
      have HY := Lib.hid hY
      clear harr hg hl hm hj hjz earr hlen hlt hX hY
      go_wp2_with fail
      go_region
      go_wp2
      go_roundw
      case rel =>
        have := HM.out
        refine ⟨k + 1, X ++ [y], M', x :: Y, by go_num, by congr 1; omega, by simp [HX.out], by simp [HY.out], by rw [HL.out]; simp, ?_, only_drewN (four_on HG.out _ _ _ _ _ _ _ _) 1⟩
        rw [show X ++ [y] ++ M' ++ x :: Y = X ++ y :: M' ++ x :: Y by simp]
        exact HS.out
      case measure =>
        have := HM.out.1
        simp [intOf]; omega
    · go_wp2
      go_end0
      refine ⟨rfl, ?_, hg⟩
      have : M.reverse = M := by
        match M, hlen with
        | [], _ => rfl
        | [x], _ => rfl
        | x :: y :: r, h => simp at h; omega
      rw [hl, List.reverse_append, List.reverse_append, List.reverse_reverse, List.reverse_reverse, this, ← List.append_assoc]
      exact harr

set_option maxHeartbeats 800000 in
theorem swaprange_any (b c N : Nat) (P A M C R : List Rw) (n a0 b0 : Nat) (w : World) (h : Arr w b c (P ++ A ++ M ++ C ++ R)) (hN : N = (P ++ A ++ M ++ C ++ R).length) (hP : P.length = a0) (hA : A.length = n) (hC : C.length = n) (hM : a0 + n + M.length = b0) (v : Value) :
    Calls Try.prog 68 #[.slice (some ⟨b, 0, none⟩) N c, .int .i64 a0, .int .i64 b0, .int .i64 n, v] w fun e w' => e = .returned (.tuple #[]) ∧ Arr w' b c (P ++ C ++ M ++ A ++ R) ∧ w.grownBy w' (some b) := by
  have hle := h.le
  rw [← hN] at hle
  have hNN : a0 + n + M.length + n + R.length = N := by rw [hN]; simp [hP, hA, hC]; omega
  have HA := Lib.hid h
  have HP := Lib.hid hP
  have HAC := Lib.hid (And.intro hA hC)
  have HM := Lib.hid (And.intro hM hNN)
  have l0 : b0 + n ≤ N := by omega
  have l00 : a0 + n ≤ N := by omega
  clear h hN hP hA hC hM hNN
  go_enter Try.func68, Try.ntmps68
  go_wp2
  go_loopw [10] (fun i wr => ∃ k : Nat, i = .int .i64 k ∧ k ≤ n ∧ Arr wr b c (P ++ C.take k ++ A.drop k ++ M ++ A.take k ++ C.drop k ++ R) ∧ w.grownBy wr (some b)) (fun i _ => n - (intOf i).toNat)
  case atStart => exact ⟨0, rfl, Nat.zero_le _, by simpa using HA.out, World.grownBy.refl _ _⟩
  case round =>
    obtain ⟨k, rfl, hk, harr, hg⟩ := hrel
    by_cases hlt : k < n
    · have hkA : k < A.length := by rw [HAC.out.1]; exact hlt
      have hkC : k < C.length := by rw [HAC.out.2]; exact hlt
      obtain ⟨x, hx⟩ : ∃ x, x = A[k] := ⟨_, rfl⟩
      obtain ⟨y, hy⟩ : ∃ y, y = C[k] := ⟨_, rfl⟩
      have eA : A.drop k = x :: A.drop (k + 1) := by rw [hx]; exact List.drop_eq_getElem_cons hkA
      have eC : C.drop k = y :: C.drop (k + 1) := by rw [hy]; exact List.drop_eq_getElem_cons hkC
      have tA : A.take (k + 1) = A.take k ++ [x] := by rw [hx]; exact List.take_succ_eq_append_getElem hkA
      have tC : C.take (k + 1) = C.take k ++ [y] := by rw [hy]; exact List.take_succ_eq_append_getElem hkC
      have e0 : P ++ C.take k ++ A.drop k ++ M ++ A.take k ++ C.drop k ++ R = (P ++ C.take k) ++ x :: (A.drop (k + 1) ++ M ++ A.take k) ++ y :: (C.drop (k + 1) ++ R) := by rw [eA, eC]; simp
      rw [e0] at harr
      have hm := HM.out
      have hi : (P ++ C.take k).length = a0 + k := by rw [List.length_append, List.length_take, HP.out, HAC.out.2]; omega
      have hj : (a0 + k) + 1 + (A.drop (k + 1) ++ M ++ A.take k).length = b0 + k := by rw [List.length_append, List.length_append, List.length_drop, List.length_take, HAC.out.1]; omega
      obtain ⟨⟨a1, a2, a3, a4⟩, ⟨f1, f2, f3, f4⟩, ⟨n1, n2, n3, n4, n5, n6, n7, n8, n9, n10⟩, HS, _⟩ := swap_facts harr hi hj
      have l1 : (a0 : Int) + (k : Int) < (N : Int) := by omega
      have l2 : (b0 : Int) + (k : Int) < (N : Int) := by omega
      have l3 : (k : Int) < (n : Int) := by omega
      have l4 : ((a0 : Int) + (k : Int)).toNat = a0 + k := by omega
      have l5 : ((b0 : Int) + (k : Int)).toNat = b0 + k := by omega
      have l6 : (0 : Int) ≤ (a0 : Int) + (k : Int) := by omega
      have l7 : (0 : Int) ≤ (b0 : Int) + (k : Int) := by omega
      have HG := Lib.hid hg
      have HE := Lib.hid (show P ++ C.take (k + 1) ++ A.drop (k + 1) ++ M ++ A.take (k + 1) ++ C.drop (k + 1) ++ R = (P ++ C.take k) ++ y :: (A.drop (k + 1) ++ M ++ A.take k) ++ x :: (C.drop (k + 1) ++ R) by rw [tA, tC]; simp)
      clear harr hg hm hi hj e0 eA eC tA tC hx hy hkA hkC
      go_wp2_with fail
      go_region
      go_wp2
      go_roundw
      case rel =>
        refine ⟨k + 1, by go_num, hlt, ?_, only_drewN (four_on HG.out _ _ _ _ _ _ _ _) 1⟩
        rw [HE.out]
        exact HS.out
      case measure => simp [intOf]; omega
    · obtain rfl : k = n := by omega
      have eA : A.drop k = [] := List.drop_of_length_le (by rw [HAC.out.1]; exact Nat.le_refl _)
      have eC : C.drop k = [] := List.drop_of_length_le (by rw [HAC.out.2]; exact Nat.le_refl _)
      have tA : A.take k = A := List.take_of_length_le (by rw [HAC.out.1]; exact Nat.le_refl _)
      have tC : C.take k = C := List.take_of_length_le (by rw [HAC.out.2]; exact Nat.le_refl _)
      rw [eA, eC, tA, tC] at harr
      have HR := Lib.hid harr
      clear harr eA eC tA tC
      go_wp2
      go_end0
      exact ⟨rfl, by simpa using HR.out, hg⟩
end Go.Proofs.Ytngncalbglbjdaa.Idx
