/-
  The contract of the sort's insertion, at rows of a table in a block of the call's own: a stable order.
-/
import Derived.Test.YtngncalbglbjdaaIdxRotate
namespace Go.Proofs.Ytngncalbglbjdaa.Idx
set_option linter.unusedVariables false
set_option maxRecDepth 100000
open Go.RowKit Base IdxMath
open Go.Sort (grow)
set_option linter.ambiguousOpen false
set_option linter.unusedSimpArgs false

/-- the comparison at two rows of the block, in whatever world has come of wr by draws and new blocks -/
theorem cmp_grown (x y : Rw) (wr : World) (n : Nat) (os : Array Obj) : Calls Try.prog 48 #[.agg #[.int .i64 x.key, .string x.val], .agg #[.int .i64 y.key, .string y.val]] (grow (wr.drewN n) os) fun e w'' => e = .returned (.int .i64 (cmpK x.key y.key)) ∧ ∃ p : GrownBy, w'' = grow (wr.drewN p.n) p.os :=
  Calls.grown_of (bykeys_any x y _)
theorem Arr.got {wr : World} {b c : Nat} {l : List Rw} (h : Arr wr b c l) {k : Nat} {x : Rw} (hx : l[k]? = some x) :
    (∀ n os, (grow (wr.drewN n) os).cell? ⟨b, k * 2, none⟩ = some (.int .i64 x.key)) ∧ (∀ n os, (grow (wr.drewN n) os).cell? ⟨b, k * 2 + 1, none⟩ = some (.string x.val)) :=
  ⟨fun n os => ((h.grown n os).get hx).1, fun n os => ((h.grown n os).get hx).2⟩
theorem only_grow {a w : World} {row : Option Nat} (h : a.grownBy w row) (n : Nat) (os : Array Obj) : a.grownBy (grow (w.drewN n) os) row :=
  ⟨h.os, h.tape, h.output, Nat.le_trans h.size (by simp), fun i hi hne => (Go.Sort.heap_grow_old (w.drewN n) os (Nat.lt_of_lt_of_le hi h.size)).trans (h.block i hi hne)⟩

def InsRel (w : World) (b c a : Nat) (P U R : List Rw) (vi : Value) (wr : World) : Prop :=
  ∃ (k : Nat) (D E : List Rw), vi = .int .i64 k ∧ (a + D.length = k ∨ (D = [] ∧ E = [] ∧ k = a + 1)) ∧ a < k ∧ Srt D ∧ St U (D ++ E) ∧ (D ++ E).length = U.length ∧ Arr wr b c (P ++ D ++ E ++ R) ∧ w.grownBy wr (some b)
def InsRel2 (w : World) (b c a k : Nat) (P U E R : List Rw) (vj : Value) (wr : World) : Prop :=
  ∃ (j : Nat) (X : List Rw) (y : Rw) (Z : List Rw), vj = .int .i64 j ∧ a + X.length = j ∧ j + Z.length = k ∧ Srt (X ++ Z) ∧ (∀ z ∈ Z, y.key < z.key) ∧ St U (X ++ y :: Z ++ E) ∧ (X ++ y :: Z ++ E).length = U.length ∧ Arr wr b c (P ++ X ++ y :: Z ++ E ++ R) ∧ w.grownBy wr (some b)
theorem ins_done {X Z : List Rw} {y : Rw} (h : Srt (X ++ Z)) (hz : ∀ z ∈ Z, y.key < z.key) (hx : X = [] ∨ ∃ X' x, X = X' ++ [x] ∧ x.key ≤ y.key) : Srt (X ++ y :: Z) := by
  obtain ⟨h1, h2, h3⟩ := h.parts
  refine Srt.app h1 (List.Pairwise.cons (fun z hz' => Int.le_of_lt (hz z hz')) h2) fun a ha b hb => ?_
  rcases List.mem_cons.1 hb with rfl | hb
  · rcases hx with rfl | ⟨X', x, rfl, hxy⟩
    · cases ha
    · rcases List.mem_append.1 ha with ha | ha
      · have := (Srt.parts h1).2.2 a ha x List.mem_cons_self
        omega
      · rw [List.mem_singleton] at ha
        subst ha
        exact hxy
  · exact h3 a ha b hb
set_option maxHeartbeats 3200000 in
theorem insertion_any (b c N : Nat) (P U R : List Rw) (a e : Nat) (w : World) (h : Arr w b c (P ++ U ++ R)) (hN : N = (P ++ U ++ R).length) (hP : P.length = a) (hU : a + U.length = e) (hsz : N ≤ 4611686018427387903) :
    Calls Try.prog 61 #[.slice (some ⟨b, 0, none⟩) N c, .int .i64 a, .int .i64 e, .func (.func 48) #[] #[]] w fun e w' => e = .returned (.tuple #[]) ∧ w.grownBy w' (some b) ∧ ∃ U', Srt U' ∧ St U U' ∧ U'.length = U.length ∧ Arr w' b c (P ++ U' ++ R) := by
  have hle := h.le
  rw [← hN] at hle
  have S0 : Hid (InsRel w b c a P U R (.int .i64 ((a + 1 : Nat) : Int)) w) := by
    cases U with
    | nil => exact ⟨a + 1, [], [], rfl, .inr ⟨rfl, rfl, rfl⟩, by omega, Srt.nil, St.refl _, rfl, by simpa using h, World.grownBy.refl _ _⟩
    | cons x r => exact ⟨a + 1, [x], r, rfl, .inl rfl, by omega, Srt.one x, St.refl _, rfl, by simpa using h, World.grownBy.refl _ _⟩
  have HL : Hid (∀ D E : List Rw, (D ++ E).length = U.length → N = (P ++ D ++ E ++ R).length ∧ a + D.length + E.length = e ∧ P.length = a) := fun D E he => ⟨by rw [hN]; simp at he ⊢; omega, by simp at he; omega, hP⟩
  have l0 : e ≤ N := by rw [hN]; simp; omega
  have l1 : a ≤ N := by omega
  clear h hN hP hU
  go_enter Try.func61, Try.ntmps61
  go_wp2
  go_loopw [8] (fun i wr => InsRel w b c a P U R i wr) (fun i _ => e + 1 - (intOf i).toNat)
  case atStart => exact S0.out
  case round =>
    obtain ⟨k, D, E, rfl, hD, hak, hs, hst, hlen, harr, hg⟩ := hrel
    obtain ⟨q1, q2, q3⟩ := HL.out D E hlen
    have HA := Lib.hid harr
    have HG := Lib.hid hg
    have HS := Lib.hid hs
    have HT := Lib.hid hst
    have HLEN := Lib.hid hlen
    clear harr hg hs hst hlen
    by_cases hlt : k < e
    · have hD' : a + D.length = k := by
        rcases hD with h | ⟨rfl, rfl, _⟩
        · exact h
        · simp at q2; omega
      obtain ⟨y, E', rfl⟩ : ∃ y E', E = y :: E' := by
        cases E with
        | nil => simp at q2; omega
        | cons y E' => exact ⟨y, E', rfl⟩
      have S1 : Hid (InsRel2 w b c a k P U E' R (.int .i64 k) wr) := ⟨k, D, y, [], rfl, hD', rfl, by simpa using HS.out, by simp, by simpa using HT.out, by simpa using HLEN.out, by simpa using HA.out, HG.out⟩
      clear q1 q2 q3 hD hD'
      go_wp2
      go_loopw [9] (fun j wr => InsRel2 w b c a k P U E' R j wr) (fun j _ => (intOf j).toNat)
      case atStart => exact S1.out
      case round =>
        obtain ⟨j, X, y, Z, rfl, hX, hZ, hs, hz, hst, hlen, harr, hg⟩ := hrel
        obtain ⟨q1, q2, q3⟩ := HL.out (X ++ y :: Z) E' (by simpa using hlen)
        have HG := Lib.hid hg
        have HS := Lib.hid hs
        have HZ := Lib.hid hz
        have HT := Lib.hid hst
        have HLEN := Lib.hid hlen
        have HX := Lib.hid hX
        have HZL := Lib.hid hZ
        have HP := Lib.hid q3
        clear q1 q2 q3 hg hs hz hst hlen
        have l2 : j ≤ k := by omega
        rcases List.eq_nil_or_concat X with rfl | ⟨X', x, rfl⟩
        · have hj : a = j := by simpa using hX
          subst hj
          have HA := Lib.hid harr
          clear harr hX hZ
          have hd : decide ((a : Int) > (a : Int)) = false := by simp
          go_wp2_with fail
          go_quiet (fail)
          go_wp2
          go_roundw
          case rel =>
            have := HZL.out
            refine ⟨k + 1, y :: Z, E', by go_num, .inl (by rw [List.length_cons]; omega), by omega, ?_, by simpa using HT.out, by simpa using HLEN.out, by simpa using HA.out.drewN nq, only_drewN HG.out _⟩
            have := ins_done (X := []) HS.out HZ.out (.inl rfl)
            simpa using this
          case measure => simp [intOf]; omega
        · rw [List.concat_eq_append] at *
          obtain ⟨jp, hjp⟩ : ∃ jp, j = jp + 1 := ⟨j - 1, by simp at hX; omega⟩
          subst hjp
          have e0 : P ++ (X' ++ [x]) ++ y :: Z ++ E' ++ R = (P ++ X') ++ x :: [] ++ y :: (Z ++ E' ++ R) := by simp
          rw [e0] at harr
          have hi : (P ++ X').length = jp := by simp at hX; rw [List.length_append, HP.out]; omega
          obtain ⟨c1, c2⟩ := harr.got (k := jp) (x := x) (by rw [List.append_assoc]; exact get_app hi)
          obtain ⟨c3, c4⟩ := harr.got (k := jp + 1) (x := y) (get_app (by simp; simp at hi; omega))
          have hc := cmp_grown y x wr
          have HA := Lib.hid harr
          have HI := Lib.hid hi
          have l3 : jp + 1 < N := by omega
          have l4 : a ≤ jp := by simp at hX; omega
          have l5 : (a : Int) < (jp : Int) + 1 := by omega
          have l6 : (jp : Int) < (N : Int) := by omega
          have l7 : (jp : Int) + 1 < (N : Int) := by omega
          have l8 : (0 : Int) ≤ (jp : Int) + 1 := by omega
          have l9 : ((jp : Int) + 1).toNat = jp + 1 := by omega
          have l10 : IntKind.i64.wrap (jp : Int) = (jp : Int) := by rw [IntKind.wrap_i64]; omega
          have mixed : Try.prog.follows .mixedOrders = true := by kernel_rfl
          clear harr hi e0 hX hZ
          by_cases hyx : y.key < x.key
          · rw [cmpK_neg hyx] at hc
            go_wp2_with fail
            go_quiet_grown (first | (go_at_call 48; exact hc _ _))
            have hA2 := HA.out.grown nq osq
            have hG2 := only_grow HG.out nq osq
            clear c1 c2 c3 c4 hc
            generalize grow (wr.drewN nq) osq = wq at *
            obtain ⟨⟨a1, a2, a3, a4⟩, ⟨f1, f2, f3, f4⟩, ⟨n1, n2, n3, n4, n5, n6, n7, n8, n9, n10⟩, _, HS2⟩ := swap_facts hA2 (i := jp) (j := jp + 1) HI.out rfl
            have HG2 := Lib.hid hG2
            have HK := Lib.hid hyx
            clear hA2 hG2 hyx
            go_wp2_with fail
            go_region
            go_wp2
            go_roundw
            case rel =>
              have hx := HX.out
              have hz := HZL.out
              simp at hx
              refine ⟨jp, X', y, x :: Z, by go_num, by omega, by rw [List.length_cons]; omega, by simpa using HS.out, ?_, ?_, by have := HLEN.out; simp at this ⊢; omega, ?_, only_drewN (four_on HG2.out _ _ _ _ _ _ _ _) 1⟩
              · intro z hz
                rcases List.mem_cons.1 hz with rfl | hz
                · exact HK.out
                · exact HZ.out z hz
              · have h1 := HT.out
                have h2 := St.swap2 HK.out X' (Z ++ E')
                have e1 : X' ++ [x] ++ y :: Z ++ E' = X' ++ x :: y :: (Z ++ E') := by simp
                have e2 : X' ++ y :: x :: Z ++ E' = X' ++ y :: x :: (Z ++ E') := by simp
                rw [e1] at h1
                rw [e2]
                exact h1.trans h2
              · have e1 : P ++ X' ++ y :: x :: Z ++ E' ++ R = (P ++ X') ++ y :: [] ++ x :: (Z ++ E' ++ R) := by simp
                rw [e1]
                exact HS2.out
            case measure => simp [intOf]
          · have hk2 : ¬ cmpK y.key x.key < 0 := fun h => hyx (cmpK_lt.1 h)
            go_wp2_with fail
            go_quiet_grown (first | (go_at_call 48; exact hc _ _))
            go_wp2
            go_roundw
            case rel =>
              have hx := HX.out
              have hz := HZL.out
              simp at hx
              refine ⟨k + 1, X' ++ [x] ++ y :: Z, E', by go_num, .inl (by simp; omega), by omega, ins_done HS.out HZ.out (.inr ⟨X', x, rfl, by omega⟩), HT.out, HLEN.out, ?_, only_grow HG.out _ _⟩
              have e1 : P ++ (X' ++ [x] ++ y :: Z) ++ E' ++ R = (P ++ X') ++ x :: [] ++ y :: (Z ++ E' ++ R) := by simp
              rw [e1]
              exact HA.out.grown _ _
            case measure => simp [intOf]; omega
    · go_wp2
      go_end0
      have hE : E = [] := by
        rcases hD with h | ⟨_, h, _⟩
        · exact List.eq_nil_of_length_eq_zero (by omega)
        · exact h
      subst hE
      exact ⟨rfl, HG.out, D, HS.out, by simpa using HT.out, by simpa using HLEN.out, by simpa using HA.out⟩
end Go.Proofs.Ytngncalbglbjdaa.Idx
