/-
  Contracts of package req: Accept, Chunk.
-/
import Derived.Test.YtlkjmdkmcaaihaaReqWith
namespace Go.Proofs.Ytlkjmdkmcaaihaa.Req
set_option linter.unusedVariables false
set_option maxRecDepth 100000
open Go.RowKit Base ReqMath
open Go.Sort (grow)
set_option linter.ambiguousOpen false
set_option linter.unusedSimpArgs false

/-- what is answered: nothing and false, or a list in new memory and true -/
def Ans (w : World) (o : Option (List Rq)) (e : Ending) (w' : World) : Prop :=
  match o with
  | none => e = .returned (.tuple #[.slice none 0 0, .bool false]) ∧ Below w.heap.size w w'
  | some m => ∃ A c, e = .returned (.tuple #[.slice A m.length c, .bool true]) ∧ w'.ownsRow w.heap.size 125 7 (.slice A m.length c) m.length (qv m) ∧ Below w.heap.size w w'
/-- the same in one shape -/
theorem Ans.at_ {w w' : World} {o : Option (List Rq)} {e : Ending} (h : Ans w o e w') : ∃ A c, e = .returned (.tuple #[.slice A (o.getD []).length c, .bool o.isSome]) ∧ w'.ownsRow w.heap.size 125 7 (.slice A (o.getD []).length c) (o.getD []).length (qv (o.getD [])) ∧ Below w.heap.size w w' := by
  cases o with
  | none => exact ⟨none, 0, h.1, World.ownsRow_nil _ _ _ _, h.2⟩
  | some m => exact h

set_option maxHeartbeats 1600000 in
theorem accept_any (B : Nat) (A : Option Addr) (n c : Nat) (l : List Rq) (t k a : Int) (w : World) (h : Qs w B A n c l) (hB : B ≤ w.heap.size) (hn : n ≤ 1099511627770) :
    Calls Try.prog 80 #[.slice A n c, .int .i64 t, .int .i64 k, .int .i64 a] w (Ans w (accept l t k a)) := by
  have hlen := h.len
  have HFR : Hid (fresh l t k a = ⟨(n : Int) + 1, t, k, a, 0, 0, false⟩) := by show _ = _; unfold fresh; rw [hlen]
  have HAC : Hid (accept l t k a = if may l && takes l (fresh l t k a) then some (l ++ [fresh l t k a]) else none) := rfl
  obtain ⟨W, hW⟩ : ∃ W, W = w.alloc (.cells #[.int .i64 ((n : Int) + 1), .int .i64 t, .int .i64 k, .int .i64 a, .int .i64 0, .int .i64 0, .bool false] 125) := ⟨_, rfl⟩
  have hg : Gr w W := by rw [hW]; exact (Gr.refl w).alloc _
  have HR : Hid (Qs W B A n c l) := h.below (hg.below.mono hB)
  have HBW : Hid (B ≤ W.heap.size) := Nat.le_trans hB hg.below.size
  have hx : Blk W w.heap.size 125 #[.int .i64 ((n : Int) + 1), .int .i64 t, .int .i64 k, .int .i64 a, .int .i64 0, .int .i64 0, .bool false] := by rw [hW]; exact Blk.new _ _ _
  obtain ⟨p, hp⟩ : ∃ p, p = w.heap.size := ⟨_, rfl⟩
  rw [← hp] at hx
  have HX := Lib.hid hx
  have HG := Lib.hid hg
  have HW := Lib.hid hW
  have HP := Lib.hid hp
  rw [HFR.out] at HAC
  generalize hf : (⟨(n : Int) + 1, t, k, a, 0, 0, false⟩ : Rq) = f at HAC
  have HF := Lib.hid hf
  clear hlen h hg hW hp hx hf
  go_enter Try.func80, Try.ntmps80
  go_wp2_with fail
  refine (nextid_any A n c _ (by omega)).mono ?_
  rintro e w1 ⟨rfl, rfl⟩
  go_wp2_with fail
  rw [← HW.out, ← HP.out]
  refine (may_any B A n c l W HR.out HBW.out (by omega)).mono ?_
  rintro e w1 ⟨rfl, hg1⟩
  have HG1 := Lib.hid hg1
  have HR1 : Hid (Qs w1 B A n c l) := HR.out.below (hg1.below.mono HBW.out)
  have HB1 : Hid (B ≤ w1.heap.size) := Nat.le_trans HBW.out hg1.below.size
  have hx1 := HX.out.below hg1.below HX.out.lt
  have HX1 := Lib.hid hx1
  have q0 := hx1.cell 0
  have q1 := hx1.cell 1
  have q2 := hx1.cell 2
  have q3 := hx1.cell 3
  have q4 := hx1.cell 4
  have q5 := hx1.cell 5
  have q6 := hx1.cell 6
  clear hg1 hx1
  generalize may l = b1 at *
  cases b1 with
  | false =>
    go_wp2
    go_ret2
    have := HAC.out
    rw [Bool.false_and, if_neg (by simp)] at this
    unfold Ans
    rw [this]
    exact ⟨rfl, HG.out.below.trans (HG1.out.below.mono HG.out.below.size)⟩
  | true =>
    rw [Bool.true_and] at HAC
    go_wp2_with fail
    refine (takes_any B A n c l ⟨(n : Int) + 1, t, k, a, 0, 0, false⟩ w1 HR1.out HB1.out (by omega)).mono ?_
    rintro e w2 ⟨rfl, hg2⟩
    have HG2 := Lib.hid hg2
    have HR2 : Hid (Qs w2 B A n c l) := HR1.out.below (hg2.below.mono HB1.out)
    have HB2 : Hid (B ≤ w2.heap.size) := Nat.le_trans HB1.out hg2.below.size
    have hx2 := HX1.out.below hg2.below HX1.out.lt
    have q0 := hx2.cell 0
    have q1 := hx2.cell 1
    have q2 := hx2.cell 2
    have q3 := hx2.cell 3
    have q4 := hx2.cell 4
    have q5 := hx2.cell 5
    have q6 := hx2.cell 6
    have HBW2 : Hid (Below w.heap.size w w2) := (HG.out.trans (HG1.out.trans HG2.out)).below
    clear hg2 hx2
    rw [HF.out]
    generalize takes l f = b2 at *
    cases b2 with
    | false =>
      go_wp2
      go_ret2
      have := HAC.out
      rw [if_neg (by simp)] at this
      unfold Ans
      rw [this]
      exact ⟨rfl, HBW2.out⟩
    | true =>
      rw [if_pos rfl] at HAC
      go_wp2_with fail
      refine (with_any B A n c l ⟨(n : Int) + 1, t, k, a, 0, 0, false⟩ w2 HR2.out HB2.out (by omega)).mono ?_
      rintro e w3 ⟨A3, c3, rfl, ho, hb3⟩
      rw [HF.out] at ho
      rw [HF.out]
      have HO := Lib.hid (own_mono ho HBW2.out.size)
      have HB3 := Lib.hid (held_two HBW2.out hb3)
      clear ho hb3
      go_wp2
      go_ret2
      unfold Ans
      rw [HAC.out]
      exact ⟨A3, c3, by rw [List.length_append]; rfl, HO.out, HB3.out⟩

/-! ### Chunk -/
end Go.Proofs.Ytlkjmdkmcaaihaa.Req
