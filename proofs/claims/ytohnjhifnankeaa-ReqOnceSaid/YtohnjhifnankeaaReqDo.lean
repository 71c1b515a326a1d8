/-
  Contracts of package req: Accept, Chunk.
-/
import Derived.Test.YtohnjhifnankeaaReqSl
namespace Go.Proofs.Ytohnjhifnankeaa.Req
set_option linter.unusedVariables false
set_option maxRecDepth 100000
open Go.RowKit Base ReqMath
open Go.Sort (grow)
set_option linter.ambiguousOpen false
set_option linter.unusedSimpArgs false

/-- what is answered: nothing and false, or a list in new memory and true -/
def Ans (w : World) (o : Option (List Rq)) (e : Ending) (w' : World) : Prop :=
  match o with
  | none => e = .returned (.tuple #[.slice none 0 0, .bool false]) ∧ Below w.heap.size w w'
  | some m => ∃ A c, e = .returned (.tuple #[.slice A m.length c, .bool true]) ∧ w'.ownsRow w.heap.size 29 7 (.slice A m.length c) m.length (qv m) ∧ Below w.heap.size w w'
/-- the same in one shape -/
theorem Ans.at_ {w w' : World} {o : Option (List Rq)} {e : Ending} (h : Ans w o e w') : ∃ A c, e = .returned (.tuple #[.slice A (o.getD []).length c, .bool o.isSome]) ∧ w'.ownsRow w.heap.size 29 7 (.slice A (o.getD []).length c) (o.getD []).length (qv (o.getD [])) ∧ Below w.heap.size w w' := by
  cases o with
  | none => exact ⟨none, 0, h.1, World.ownsRow_nil _ _ _ _, h.2⟩
  | some m => exact h

set_option maxHeartbeats 1600000 in
theorem accept_any (B : Nat) (A : Option Addr) (n c : Nat) (l : List Rq) (t k a : Int) (w : World) (h : Qs w B A n c l) (hB : B ≤ w.heap.size) (hn : n ≤ 1099511627770) :
    Calls Try.prog 10 #[.slice A n c, .int .i64 t, .int .i64 k, .int .i64 a] w (Ans w (accept l t k a)) := by
  have hlen := h.len
  have HFR : Hid (fresh l t k a = ⟨(n : Int) + 1, t, k, a, 0, 0, false⟩) := by show _ = _; unfold fresh; rw [hlen]
  have HAC : Hid (accept l t k a = if may l && takes l (fresh l t k a) then some (l ++ [fresh l t k a]) else none) := rfl
  obtain ⟨W, hW⟩ : ∃ W, W = w.alloc (.cells #[.int .i64 ((n : Int) + 1), .int .i64 t, .int .i64 k, .int .i64 a, .int .i64 0, .int .i64 0, .bool false] 29) := ⟨_, rfl⟩
  have hg : Gr w W := by rw [hW]; exact (Gr.refl w).alloc _
  have HR : Hid (Qs W B A n c l) := h.below (hg.below.mono hB)
  have HBW : Hid (B ≤ W.heap.size) := Nat.le_trans hB hg.below.size
  have hx : Blk W w.heap.size 29 #[.int .i64 ((n : Int) + 1), .int .i64 t, .int .i64 k, .int .i64 a, .int .i64 0, .int .i64 0, .bool false] := by rw [hW]; exact Blk.new _ _ _
  obtain ⟨p, hp⟩ : ∃ p, p = w.heap.size := ⟨_, rfl⟩
  rw [← hp] at hx
  have HX := Lib.hid hx
  have HG := Lib.hid hg
  have HW := Lib.hid hW
  have HP := Lib.hid hp
  rw [HFR.out] at HAC
  generalize hf : (⟨(n : Int) + 1, t, k, a, 0, 0, false⟩ : Rq) = f at HAC
  have HF := Lib.hid hf
  clear hlen h hg hW hp hx hf
  go_enter Try.func10, Try.ntmps10
  go_wp2_with fail
  refine (nextid_any A n c _ (by omega)).mono ?_
  rintro e w1 ⟨rfl, rfl⟩
  go_wp2_with fail
  rw [← HW.out, ← HP.out]
  refine (may_any B A n c l W HR.out HBW.out (by omega)).mono ?_
  rintro e w1 ⟨rfl, hg1⟩
  have HG1 := Lib.hid hg1
  have HR1 : Hid (Qs w1 B A n c l) := HR.out.below (hg1.below.mono HBW.out)
  have HB1 : Hid (B ≤ w1.heap.size) := Nat.le_trans HBW.out hg1.below.size
  have hx1 := HX.out.below hg1.below HX.out.lt
  have HX1 := Lib.hid hx1
  have q0 := hx1.cell 0
  have q1 := hx1.cell 1
  have q2 := hx1.cell 2
  have q3 := hx1.cell 3
  have q4 := hx1.cell 4
  have q5 := hx1.cell 5
  have q6 := hx1.cell 6
  clear hg1 hx1
  generalize may l = b1 at *
  cases b1 with
  | false =>
    go_wp2
    go_ret2
    have := HAC.out
    rw [Bool.false_and, if_neg (by simp)] at this
    unfold Ans
    rw [this]
    exact ⟨rfl, HG.out.below.trans (HG1.out.below.mono HG.out.below.size)⟩
  | true =>
    rw [Bool.true_and] at HAC
    go_wp2_with fail
    refine (takes_any B A n c l ⟨(n : Int) + 1, t, k, a, 0, 0, false⟩ w1 HR1.out HB1.out (by omega)).mono ?_
    rintro e w2 ⟨rfl, hg2⟩
    have HG2 := Lib.hid hg2
    have HR2 : Hid (Qs w2 B A n c l) := HR1.out.below (hg2.below.mono HB1.out)
    have HB2 : Hid (B ≤ w2.heap.size) := Nat.le_trans HB1.out hg2.below.size
    have hx2 := HX1.out.below hg2.below HX1.out.lt
    have q0 := hx2.cell 0
    have q1 := hx2.cell 1
    have q2 := hx2.cell 2
    have q3 := hx2.cell 3
    have q4 := hx2.cell 4
    have q5 := hx2.cell 5
    have q6 := hx2.cell 6
    have HBW2 : Hid (Below w.heap.size w w2) := (HG.out.trans (HG1.out.trans HG2.out)).below
    clear hg2 hx2
    rw [HF.out]
    generalize takes l f = b2 at *
    cases b2 with
    | false =>
      go_wp2
      go_ret2
      have := HAC.out
      rw [if_neg (by simp)] at this
      unfold Ans
      rw [this]
      exact ⟨rfl, HBW2.out⟩
    | true =>
      rw [if_pos rfl] at HAC
      go_wp2_with fail
      refine (with_any B A n c l ⟨(n : Int) + 1, t, k, a, 0, 0, false⟩ w2 HR2.out HB2.out (by omega)).mono ?_
      rintro e w3 ⟨A3, c3, rfl, ho, hb3⟩
      rw [HF.out] at ho
      rw [HF.out]
      have HO := Lib.hid (own_mono ho HBW2.out.size)
      have HB3 := Lib.hid (held_two HBW2.out hb3)
      clear ho hb3
      go_wp2
      go_ret2
      unfold Ans
      rw [HAC.out]
      exact ⟨A3, c3, by rw [List.length_append]; rfl, HO.out, HB3.out⟩

/-! ### Chunk -/
def Found (w : World) (o : Option Rq) (e : Ending) (w' : World) : Prop := e = .returned (.tuple #[qval (o.getD noRq), .bool o.isSome]) ∧ Below w.heap.size w w'
set_option maxHeartbeats 1600000 in
theorem find_any (B : Nat) (A : Option Addr) (n c : Nat) (l : List Rq) (i : Int) (w : World) (h : Qs w B A n c l) (hB : B ≤ w.heap.size) (hn : n ≤ 1099511627770) :
    Calls Try.prog 28 #[.slice A n c, .int .i64 i] w (Found w (got l i)) := by
  have hlen := h.len
  by_cases h1 : i < 1
  · have l1 : decide (i < 1) = true := by rw [decide_eq_true_eq]; exact h1
    have HN := Lib.hid (got_none (l := l) (.inl h1))
    clear h hlen
    go_enter Try.func28, Try.ntmps28
    go_wp2
    refine bodyPost_ret (v := .tuple #[qval noRq, .bool false]) (by simp [qval, noRq, results, Try.results28, go_sem]) rfl ?_
    unfold Found
    rw [HN.out]
    exact ⟨rfl, by repeat (first | exact Below.refl _ _ | refine Below.setCell ?_ (Nat.le_refl _) _ | refine Below.alloc ?_ (by simp) _)⟩
  · have l1 : decide (i < 1) = false := by rw [decide_eq_false_iff_not]; exact h1
    by_cases h2 : (n : Int) + 1 ≤ i
    · have l2 : decide ((n : Int) + 1 ≤ i) = true := by rw [decide_eq_true_eq]; exact h2
      have HN := Lib.hid (got_none (l := l) (i := i) (.inr (by omega)))
      clear h hlen
      go_enter Try.func28, Try.ntmps28
      go_wp2_with fail
      refine (nextid_any A n c _ (by omega)).mono ?_
      rintro e w1 ⟨rfl, rfl⟩
      go_wp2
      refine bodyPost_ret (v := .tuple #[qval noRq, .bool false]) (by simp [qval, noRq, results, Try.results28, go_sem]) rfl ?_
      unfold Found
      rw [HN.out]
      exact ⟨rfl, by repeat (first | exact Below.refl _ _ | refine Below.setCell ?_ (Nat.le_refl _) _ | refine Below.alloc ?_ (by simp) _)⟩
    · have l2 : decide ((n : Int) + 1 ≤ i) = false := by rw [decide_eq_false_iff_not]; exact h2
      obtain ⟨k, rfl⟩ : ∃ k : Nat, i = (k : Int) + 1 := ⟨(i - 1).toNat, by omega⟩
      obtain ⟨b, off, f, rfl, hb, c0, c1, c2, c3, c4, c5, c6, hget, _⟩ := h.at_ (k := k) (by omega)
      have HN := Lib.hid (got_some (l := l) rfl hget)
      obtain ⟨f0, f1, f2, f3, f4, f5, f6⟩ := f
      dsimp only at c0 c1 c2 c3 c4 c5 c6
      have hle := h.le
      have l3 : (k : Int) < (n : Int) := by omega
      clear h hlen hget
      have hbw : b < w.heap.size := by omega
      go_enter Try.func28, Try.ntmps28
      go_wp2_with fail
      refine (nextid_any (some ⟨b, off, none⟩) n c _ (by omega)).mono ?_
      rintro e w1 ⟨rfl, rfl⟩
      go_wp2
      refine bodyPost_ret (v := .tuple #[qval ⟨f0, f1, f2, f3, f4, f5, f6⟩, .bool true]) (by simp [qval, results, Try.results28, go_sem]) rfl ?_
      unfold Found
      rw [HN.out]
      exact ⟨rfl, by repeat (first | exact Below.refl _ _ | refine Below.setCell ?_ (Nat.le_refl _) _ | refine Below.alloc ?_ (by simp) _)⟩

set_option maxHeartbeats 1600000 in
theorem goeson_any (r : Rq) (x : Int) (w : World) :
    Calls Try.prog 29 #[qval r, .int .i64 x] w fun e w' => e = .returned (.bool (goesOn r x)) ∧ Gr w w' := by
  obtain ⟨r0, r1, r2, r3, r4, r5, r6⟩ := r
  unfold qval
  dsimp only
  have HE : Hid (∀ d, goesOn ⟨r0, r1, r2, r3, r4, r5, d⟩ x = (!d && decide (r4 ≤ x) && decide (x ≤ 1099511627776) && decide (r5 < 1099511627776))) := fun _ => rfl
  go_enter Try.func29, Try.ntmps29
  go_wp2
  all_goals (
    go_ret
    refine ⟨?_, (Gr.refl w).alloc _⟩
    rw [HE.out]
    congr 2
    first
      | (simp [*]; done)
      | (simp [*]; omega))

def StSet (w : World) (g k : Nat) (y : Rq) : World := ((((((w.setCell ⟨g, k * 7, none⟩ (.int .i64 y.id)).setCell ⟨g, k * 7 + 1, none⟩ (.int .i64 y.tbl)).setCell ⟨g, k * 7 + 2, none⟩ (.int .i64 y.wt)).setCell ⟨g, k * 7 + 3, none⟩ (.int .i64 y.at_)).setCell ⟨g, k * 7 + 4, none⟩ (.int .i64 y.cur)).setCell ⟨g, k * 7 + 5, none⟩ (.int .i64 y.chs)).setCell ⟨g, k * 7 + 6, none⟩ (.bool y.done)
theorem own_cell {w : World} {base g n c : Nat} {l : List Rq} (h : w.ownsRow base 29 7 (.slice (some ⟨g, 0, none⟩) n c) n (qv l)) (hl : l.length = n) {k : Nat} (hk : k < n) : ∃ cur, Blk w g 29 cur ∧ k * 7 + 6 < cur.size ∧ base ≤ g := by
  rcases h.2 with ⟨hv, _⟩ | ⟨b, cap, cur, hv, hb, hg, h1, h2, h3, h4⟩
  · cases hv
  · simp only [Value.slice.injEq, Option.some.injEq, Addr.mk.injEq] at hv
    obtain ⟨⟨rfl, _⟩, _, rfl⟩ := hv
    exact ⟨cur, hg, by omega, hb⟩
set_option maxHeartbeats 800000 in
theorem own_set {w : World} {base g n c : Nat} {l : List Rq} (h : w.ownsRow base 29 7 (.slice (some ⟨g, 0, none⟩) n c) n (qv l)) (hl : l.length = n) {k : Nat} (hk : k < n) (y : Rq) : (StSet w g k y).ownsRow base 29 7 (.slice (some ⟨g, 0, none⟩) n c) n (qv (l.set k y)) := by
  rcases h with ⟨h0, ⟨hv, _⟩ | ⟨b, cap, cur, hv, hb, hg, h1, h2, h3, h4⟩⟩
  · cases hv
  · simp only [Value.slice.injEq, Option.some.injEq, Addr.mk.injEq] at hv
    obtain ⟨⟨rfl, _⟩, _, rfl⟩ := hv
    have hB : Blk w g 29 cur := hg
    refine ⟨by rw [qv_length, List.length_set, hl], .inr ⟨g, c, _, rfl, hb, ((((((hB.set_ _ _).set_ _ _).set_ _ _).set_ _ _).set_ _ _).set_ _ _).set_ _ _, h1, h2, by simp only [Array.size_setIfInBounds]; exact h3, ?_⟩⟩
    simp only [Array.toList_setIfInBounds, List.take_set, h4, qv_set]
theorem stset_below {B : Nat} {w w' : World} {g : Nat} (h : Below B w w') (hg : B ≤ g) (k : Nat) (y : Rq) : Below B w (StSet w' g k y) := by
  unfold StSet
  exact ((((((h.setCell hg _).setCell hg _).setCell hg _).setCell hg _).setCell hg _).setCell hg _).setCell hg _

set_option maxHeartbeats 1600000 in
theorem changed_any (B : Nat) (A : Option Addr) (n c k : Nat) (l : List Rq) (y : Rq) (w : World) (h : Qs w B A n c l) (hB : B ≤ w.heap.size) (hn : n ≤ 1099511627770) (hk : k < n) (hy : y.id = (k : Int) + 1) :
    Calls Try.prog 30 #[.slice A n c, qval y] w (QsNew w (l.set k y)) := by
  obtain ⟨y0, y1, y2, y3, y4, y5, y6⟩ := y
  unfold qval
  dsimp only at hy ⊢
  subst hy
  have HL := Lib.hid h.len
  have hbx : Below w.heap.size w (w.alloc (.cells #[.int .i64 ((k : Int) + 1), .int .i64 y1, .int .i64 y2, .int .i64 y3, .int .i64 y4, .int .i64 y5, .bool y6] 29)) := (Below.refl _ _).alloc (Nat.le_refl _) _
  have HX := Lib.hid (Blk.new w 29 #[.int .i64 ((k : Int) + 1), .int .i64 y1, .int .i64 y2, .int .i64 y3, .int .i64 y4, .int .i64 y5, .bool y6])
  have HC := Lib.hid (clone_any B A n c l _ (h.below (hbx.mono hB)) (Nat.le_trans hB hbx.size) (by omega))
  have HBX := Lib.hid hbx
  clear h hbx
  obtain ⟨p, hp⟩ : ∃ p, p = w.heap.size := ⟨_, rfl⟩
  rw [← hp] at HX
  have HP := Lib.hid hp
  clear hp
  go_enter Try.func30, Try.ntmps30
  go_wp2_with fail
  refine HC.out.mono ?_
  rintro e w2 ⟨A2, c2, rfl, ho, hb⟩
  rw [HL.out] at ho ⊢
  rw [← HP.out]
  have hz := ho.2
  rcases hz with ⟨_, h0⟩ | ⟨g, cap, cur, hv, _⟩
  · omega
  simp only [Value.slice.injEq] at hv
  obtain ⟨rfl, _, rfl⟩ := hv
  obtain ⟨cur2, hB2, hin, hbase⟩ := own_cell ho HL.out hk
  have hx2 := HX.out.below hb HX.out.lt
  have q0 := hx2.cell 0
  have q1 := hx2.cell 1
  have q2 := hx2.cell 2
  have q3 := hx2.cell 3
  have q4 := hx2.cell 4
  have q5 := hx2.cell 5
  have q6 := hx2.cell 6
  obtain ⟨u0, c0⟩ : ∃ u, w2.cell? ⟨g, k * 7, none⟩ = some u := ⟨_, by rw [hB2.cell]; exact Array.getElem?_eq_getElem (by omega)⟩
  obtain ⟨u1, c1⟩ : ∃ u, w2.cell? ⟨g, k * 7 + 1, none⟩ = some u := ⟨_, by rw [hB2.cell]; exact Array.getElem?_eq_getElem (by omega)⟩
  obtain ⟨u2, c2'⟩ : ∃ u, w2.cell? ⟨g, k * 7 + 2, none⟩ = some u := ⟨_, by rw [hB2.cell]; exact Array.getElem?_eq_getElem (by omega)⟩
  obtain ⟨u3, c3⟩ : ∃ u, w2.cell? ⟨g, k * 7 + 3, none⟩ = some u := ⟨_, by rw [hB2.cell]; exact Array.getElem?_eq_getElem (by omega)⟩
  obtain ⟨u4, c4⟩ : ∃ u, w2.cell? ⟨g, k * 7 + 4, none⟩ = some u := ⟨_, by rw [hB2.cell]; exact Array.getElem?_eq_getElem (by omega)⟩
  obtain ⟨u5, c5⟩ : ∃ u, w2.cell? ⟨g, k * 7 + 5, none⟩ = some u := ⟨_, by rw [hB2.cell]; exact Array.getElem?_eq_getElem (by omega)⟩
  obtain ⟨u6, c6⟩ : ∃ u, w2.cell? ⟨g, k * 7 + 6, none⟩ = some u := ⟨_, by rw [hB2.cell]; exact Array.getElem?_eq_getElem (by omega)⟩
  have f0 := hB2.frozen (k * 7)
  have f1 := hB2.frozen (k * 7 + 1)
  have f2 := hB2.frozen (k * 7 + 2)
  have f3 := hB2.frozen (k * 7 + 3)
  have f4 := hB2.frozen (k * 7 + 4)
  have f5 := hB2.frozen (k * 7 + 5)
  have f6 := hB2.frozen (k * 7 + 6)
  have HOS := Lib.hid (own_mono (own_set ho HL.out hk ⟨(k : Int) + 1, y1, y2, y3, y4, y5, y6⟩) HBX.out.size)
  have HB2 := Lib.hid (HBX.out.trans (hb.mono HBX.out.size))
  have hgp : p ≠ g := by
    have h1 := HP.out
    simp at hbase
    omega
  have hgb : w.heap.size ≤ g := by simp at hbase; omega
  have l1 : (k : Int) < (n : Int) := by omega
  have HBS := Lib.hid (stset_below HB2.out hgb k ⟨(k : Int) + 1, y1, y2, y3, y4, y5, y6⟩)
  unfold StSet at HOS HBS
  dsimp only at HOS HBS
  clear ho hb hB2 hx2 hin hbase
  go_wp2
  go_ret
  refine ⟨_, _, by rw [List.length_set, HL.out]; rfl, by rw [List.length_set, HL.out]; exact HOS.out, HBS.out⟩

set_option maxHeartbeats 3200000 in
theorem chunk_any (B : Nat) (A : Option Addr) (n c : Nat) (l : List Rq) (i x : Int) (d : Bool) (w : World) (h : Qs w B A n c l) (hB : B ≤ w.heap.size) (hn : n ≤ 1099511627770) :
    Calls Try.prog 11 #[.slice A n c, .int .i64 i, .int .i64 x, .bool d] w (Ans w (chunk l i x d)) := by
  have HL := Lib.hid h.len
  have HR := Lib.hid h
  obtain ⟨og, hog⟩ : ∃ og, og = got l i := ⟨_, rfl⟩
  have HO := Lib.hid hog
  have hfi := find_any B A n c l i w h hB hn
  rw [← hog] at hfi
  have HFI := Lib.hid hfi
  clear h hfi
  go_enter Try.func11, Try.ntmps11
  go_wp2_with fail
  refine HFI.out.mono ?_
  rintro e w1 ⟨rfl, hb1⟩
  have HB1 := Lib.hid hb1
  have HR1 : Hid (Qs w1 B A n c l) := HR.out.below (hb1.mono hB)
  have HBW1 : Hid (B ≤ w1.heap.size) := Nat.le_trans hB hb1.size
  clear hb1
  cases og with
  | none =>
    have HN : Hid (chunk l i x d = none) := chunk_none hog.symm
    clear hog
    rw [show qval ((none : Option Rq).getD noRq) = .agg #[.int .i64 0, .int .i64 0, .int .i64 0, .int .i64 0, .int .i64 0, .int .i64 0, .bool false] from rfl, show (none : Option Rq).isSome = false from rfl]
    go_wp2
    go_ret2
    unfold Ans
    rw [HN.out]
    exact ⟨rfl, HB1.out.alloc HB1.out.size _⟩
  | some r =>
    have HS : Hid (chunk l i x d = if may l && goesOn r x then some (l.set (i - 1).toNat (more r x d)) else none) := chunk_some hog.symm
    have hk : ∃ k : Nat, i = (k : Int) + 1 ∧ l[k]? = some r ∧ k < n := by
      have hs := hog.symm
      unfold got at hs
      split at hs
      · rename_i hb
        exact ⟨(i - 1).toNat, by omega, hs, by have := (List.getElem?_eq_some_iff.1 hs).1; rw [HL.out] at this; exact this⟩
      · cases hs
    obtain ⟨k, rfl, hget, hkn⟩ := hk
    rw [show ((k : Int) + 1 - 1).toNat = k by omega] at HS
    have HIN : Hid (may l = true → r.id = (k : Int) + 1 ∧ inb r = true) := fun hm => may_in hm hget
    have hmay := may_any B A n c l
    obtain ⟨r0, r1, r2, r3, r4, r5, r6⟩ := r
    rw [show qval ((some (⟨r0, r1, r2, r3, r4, r5, r6⟩ : Rq)).getD noRq) = .agg #[.int .i64 r0, .int .i64 r1, .int .i64 r2, .int .i64 r3, .int .i64 r4, .int .i64 r5, .bool r6] from rfl, show (some (⟨r0, r1, r2, r3, r4, r5, r6⟩ : Rq)).isSome = true from rfl]
    obtain ⟨W, hW⟩ : ∃ W, W = w1.alloc (.cells #[.int .i64 r0, .int .i64 r1, .int .i64 r2, .int .i64 r3, .int .i64 r4, .int .i64 r5, .bool r6] 29) := ⟨_, rfl⟩
    have hx : Blk W w1.heap.size 29 #[.int .i64 r0, .int .i64 r1, .int .i64 r2, .int .i64 r3, .int .i64 r4, .int .i64 r5, .bool r6] := by rw [hW]; exact Blk.new _ _ _
    have hbw : Below w1.heap.size w1 W := by rw [hW]; exact (Below.refl _ _).alloc (Nat.le_refl _) _
    have HBW : Hid (Below w.heap.size w W) := held_two HB1.out hbw
    have HRW : Hid (Qs W B A n c l) := HR1.out.below (hbw.mono HBW1.out)
    have HBB : Hid (B ≤ W.heap.size) := Nat.le_trans HBW1.out hbw.size
    obtain ⟨p, hp⟩ : ∃ p, p = w1.heap.size := ⟨_, rfl⟩
    rw [← hp] at hx
    have HX := Lib.hid hx
    have HPB : Hid (w.heap.size ≤ p) := by show _ ≤ _; rw [hp]; exact HB1.out.size
    have HW := Lib.hid hW
    have HP := Lib.hid hp
    clear hog hget hx hbw hW hp hmay
    go_wp2_with fail
    rw [← HW.out, ← HP.out]
    refine (may_any B A n c l W HRW.out HBB.out (by omega)).mono ?_
    rintro e w2 ⟨rfl, hg2⟩
    have HB2 := Lib.hid (held_two HBW.out hg2.below)
    have HR2 : Hid (Qs w2 B A n c l) := HRW.out.below (hg2.below.mono HBB.out)
    have HBB2 : Hid (B ≤ w2.heap.size) := Nat.le_trans HBB.out hg2.below.size
    have hx2 := HX.out.below hg2.below HX.out.lt
    have HX2 := Lib.hid hx2
    have q0 := hx2.cell 0
    have q1 := hx2.cell 1
    have q2 := hx2.cell 2
    have q3 := hx2.cell 3
    have q4 := hx2.cell 4
    have q5 := hx2.cell 5
    have q6 := hx2.cell 6
    clear hg2 hx2
    generalize may l = b1 at *
    cases b1 with
    | false =>
      rw [Bool.false_and, if_neg (by simp)] at HS
      go_wp2
      go_ret2
      unfold Ans
      rw [HS.out]
      exact ⟨rfl, HB2.out⟩
    | true =>
      rw [Bool.true_and] at HS
      obtain ⟨hid, hinb⟩ := HIN.out (by first | rfl | trivial)
      obtain ⟨_, _, _, _, _, _, _, _, i1, i2⟩ := inb_parts hinb
      dsimp only at hid i1 i2
      have HID := Lib.hid hid
      clear hinb hid HIN
      go_wp2_with fail
      refine (goeson_any ⟨r0, r1, r2, r3, r4, r5, r6⟩ x w2).mono ?_
      rintro e w3 ⟨rfl, hg3⟩
      have HB3 := Lib.hid (held_two HB2.out hg3.below)
      have HR3 : Hid (Qs w3 B A n c l) := HR2.out.below (hg3.below.mono HBB2.out)
      have HBB3 : Hid (B ≤ w3.heap.size) := Nat.le_trans HBB2.out hg3.below.size
      have hx3 := HX2.out.below hg3.below HX2.out.lt
      have HX3 := Lib.hid hx3
      have q0 := hx3.cell 0
      have q1 := hx3.cell 1
      have q2 := hx3.cell 2
      have q3 := hx3.cell 3
      have q4 := hx3.cell 4
      have q5 := hx3.cell 5
      have q6 := hx3.cell 6
      have f4 := hx3.frozen 4
      have f5 := hx3.frozen 5
      have f6 := hx3.frozen 6
      have HGO : Hid (goesOn ⟨r0, r1, r2, r3, r4, r5, r6⟩ x = true → r5 < 1099511627776) := fun hh => (goesOn_parts hh).2.2.2
      clear hg3 hx3
      generalize goesOn ⟨r0, r1, r2, r3, r4, r5, r6⟩ x = b2 at *
      cases b2 with
      | false =>
        rw [if_neg (by simp)] at HS
        go_wp2
        go_ret2
        unfold Ans
        rw [HS.out]
        exact ⟨rfl, HB3.out⟩
      | true =>
        rw [if_pos rfl] at HS
        have hr5 := HGO.out (by first | rfl | trivial)
        have HX4 : Hid (Blk (((w3.setCell ⟨p, 4, none⟩ (.int .i64 x)).setCell ⟨p, 5, none⟩ (.int .i64 (r5 + 1))).setCell ⟨p, 6, none⟩ (.bool d)) p 29 #[.int .i64 r0, .int .i64 r1, .int .i64 r2, .int .i64 r3, .int .i64 x, .int .i64 (r5 + 1), .bool d]) := ((HX3.out.set_ 4 _).set_ 5 _).set_ 6 _
        have HB4 : Hid (Below w.heap.size w (((w3.setCell ⟨p, 4, none⟩ (.int .i64 x)).setCell ⟨p, 5, none⟩ (.int .i64 (r5 + 1))).setCell ⟨p, 6, none⟩ (.bool d))) := ((HB3.out.setCell HPB.out _).setCell HPB.out _).setCell HPB.out _
        have HR4 : Hid (Qs (((w3.setCell ⟨p, 4, none⟩ (.int .i64 x)).setCell ⟨p, 5, none⟩ (.int .i64 (r5 + 1))).setCell ⟨p, 6, none⟩ (.bool d)) w.heap.size A n c l) := (HR.out.more hB).below HB4.out
        go_wp2_with fail
        refine (changed_any w.heap.size A n c k l ⟨r0, r1, r2, r3, x, r5 + 1, d⟩ _ HR4.out HB4.out.size (by omega) (by omega) HID.out).mono ?_
        rintro e w5 ⟨A5, c5, rfl, ho, hb5⟩
        have HO5 := Lib.hid (own_mono ho HB4.out.size)
        have HB5 := Lib.hid (held_two HB4.out hb5)
        clear ho hb5
        go_wp2
        go_ret2
        unfold Ans
        rw [HS.out]
        exact ⟨A5, c5, by rw [List.length_set]; rfl, HO5.out, HB5.out⟩
end Go.Proofs.Ytohnjhifnankeaa.Req
