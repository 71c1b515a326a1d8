/-
  Contracts of package req: Accept, Chunk.
-/
import Derived.Test.YtlkjmdkmcaaihaaReqMay
import Derived.Lib.AppendZeros
import Derived.Lib.SliceRun
namespace Go.Proofs.Ytlkjmdkmcaaihaa.Req
set_option linter.unusedVariables false
set_option maxRecDepth 100000
open Go.RowKit Base ReqMath
open Go.Sort (grow)
set_option linter.ambiguousOpen false
set_option linter.unusedSimpArgs false

theorem qel2 : Elem Try.prog 122 125 7 56 (.agg #[.int .i64 0, .int .i64 0, .int .i64 0, .int .i64 0, .int .i64 0, .int .i64 0, .bool false]) := Elem.of Try.underlying122 (by kernel_rfl) rfl (by omega)
def zreq : Value := .agg #[.int .i64 0, .int .i64 0, .int .i64 0, .int .i64 0, .int .i64 0, .int .i64 0, .bool false]
theorem zeros_size (n : Nat) : (Builtin.zeroCells zreq.cells n).size = n * 7 := by
  first
    | (rw [Builtin.zeroCells_size]; rfl)
    | (simp [Builtin.zeroCells, zreq, Value.cells])
theorem append_run {P : Program} (w : World) {ops : Array Oper} {rest : List Oper} {o : Oper} {a : Act} {Q : Exit → Act → World → Prop} (hgd : o.guard = none) (d s : Operand) (t t' : TypeId)
    (ho : o.op = .call { callee := .builtin .append, args := #[d, s], argTypes := #[t, t'] }) (v u : Value) (hd : a.eval d = v) (hs : a.eval s = u) {v' : Value} {w' : World}
    (hr : (Builtin.append_ #[t, t'] o.type #[v, u]).run P w = .ok v' w') (h : wpList P ops Q rest (a.put o.dst v') w') : wpList P ops Q (o :: rest) a w := by
  refine wpList_plain hgd fun K hK => ?_
  unfold Oper.wp
  simp only [ho, execOp, resolve, invoke, builtin, Sem.run_bind, Sem.run_pure, Result.andThen_ok, List.map_toArray, List.map_cons, List.map_nil, hd, hs, hr]
  exact hK _ _ h

set_option maxHeartbeats 1600000 in
/-- slices.Grow of nil: room for m, in new memory -/
theorem grow_any (m : Nat) (w : World) (hm : 1 ≤ m) (hm2 : m ≤ 1099511627776) :
    Calls Try.prog 95 #[.slice none 0 0, .int .i64 m] w fun e w' => ∃ A c, e = .returned (.slice A 0 c) ∧ w'.ownsRow w.heap.size 125 7 (.slice A 0 c) 0 [] ∧ Below w.heap.size w w' := by
  obtain ⟨i0, t22, hi0, hz, hs4, hby, _, _⟩ := qel2
  obtain ⟨G, hG⟩ : ∃ G, G = grownCap w m 0 125 := ⟨_, rfl⟩
  have hGn : m ≤ G := by rw [hG]; exact grownCap_ge w _ _ _
  have hGm : G ≤ maxLen := by rw [hG]; exact grownCap_le_maxLen w m 0 _ (by unfold maxLen; omega)
  have hG63 : G ≤ 9223372036854775807 := by unfold maxLen at hGm; omega
  obtain ⟨ROW, hROW⟩ : ∃ ROW : Array Value, ROW = Builtin.zeroCells zreq.cells m ++ Builtin.zeroCells zreq.cells (G - m) := ⟨_, rfl⟩
  have hrz : ∀ ty, (Builtin.append_ #[122, 3] ty #[.slice none 0 0, .int .i64 m]).run Try.prog w = .ok (.slice (some ⟨w.heap.size, 0, none⟩) m G) (w.drew.alloc (.cells ROW 125)) := fun ty => by
    have h := Lib.run_append_nil_zeros w 122 3 ty 125 i0 zreq .i64 .i64 t22 Try.underlying3 hi0 hz m (by omega) (by omega) (by omega) (by rw [hby]; omega)
    rw [← hG, ← hROW] at h
    exact h
  have hsz : ROW.size = G * 7 := by rw [hROW, Array.size_append, zeros_size, zeros_size]; omega
  have HRZ := Lib.hid hrz
  have hown : (w.drew.alloc (.cells ROW 125)).ownsRow w.heap.size 125 7 (.slice (some ⟨w.heap.size, 0, none⟩) 0 G) 0 [] :=
    ⟨rfl, .inr ⟨w.heap.size, G, ROW, rfl, Nat.le_refl _, heap_alloc_new w.drew _, Nat.zero_le _, hGm, hsz, by simp⟩⟩
  have HO := Lib.hid hown
  have HB : Hid (Below w.heap.size w (w.drew.alloc (.cells ROW 125))) := (Below.refl _ _).drew.alloc (Nat.le_refl _) _
  clear hown hrz hsz hROW hG hi0 hz hs4 hby t22
  generalize w.drew.alloc (.cells ROW 125) = W at *
  have l1 : ¬ (m : Int) < 0 := by omega
  have l2 : (0 : Int) < (m : Int) := by omega
  go_enter Try.func95, Try.ntmps95
  go_wp2_with (at_builtin; refine append_run _ rfl _ _ 122 3 rfl _ _ rfl rfl (HRZ.out _) ?_)
  go_ret
  exact ⟨_, _, rfl, HO.out, HB.out⟩

/-- two lists in one row of slices, in a block g -/
def Two (w : World) (g : Nat) (v1 v2 : Value) : Prop := w.cell? ⟨g, 0, none⟩ = some v1 ∧ w.cell? ⟨g, 1, none⟩ = some v2
set_option maxHeartbeats 1600000 in
theorem concat_any (B : Nat) (A : Option Addr) (n c : Nat) (l : List Rq) (A' : Option Addr) (c' : Nat) (r : Rq) (g : Nat) (w : World) (hr : Qs w B A n c l) (hr' : Qs w B A' 1 c' [r]) (hB : B ≤ w.heap.size) (hg : Two w g (.slice A n c) (.slice A' 1 c')) (hsz : n ≤ 1099511627770) :
    Calls Try.prog 92 #[.slice (some ⟨g, 0, none⟩) 2 2] w (QsNew w (l ++ [r])) := by
  have HL := Lib.hid hr.len
  have HR := Lib.hid hr
  have HR' := Lib.hid hr'
  obtain ⟨g0, g1⟩ := hg
  have hglt := World.block_lt_of_cell? w _ g0
  have hc1 := hr.le
  have hc2 := hr'.le
  clear hr hr'
  go_enter Try.func92, Try.ntmps92
  go_wp2
  go_loop [3, 11] (fun s i => (i = .int .i64 0 ∧ s = .int .i64 0) ∨ (i = .int .i64 1 ∧ s = .int .i64 n) ∨ (i = .int .i64 2 ∧ s = .int .i64 ((n : Int) + 1))) (fun s i => 2 - (intOf i).toNat)
  case atStart => exact .inl ⟨rfl, rfl⟩
  case round =>
    rcases hrel with ⟨rfl, rfl⟩ | ⟨rfl, rfl⟩ | ⟨rfl, rfl⟩
    · go_wp2
      go_round
      case rel => exact .inr (.inl ⟨by go_num, by go_num⟩)
      case measure => simp [intOf]
    · go_wp2
      go_round
      case rel => exact .inr (.inr ⟨by go_num, by go_num⟩)
      case measure => simp [intOf]
    · have hgr := grow_any (n + 1) w (by omega) (by omega)
      rw [show ((n + 1 : Nat) : Int) = (n : Int) + 1 by omega] at hgr
      have HGR := Lib.hid hgr
      clear hgr
      go_wp2_with fail
      refine HGR.out.mono ?_
      rintro e w1 ⟨A1, c1, rfl, hown1, hb1⟩
      have HO1 := Lib.hid hown1
      have HB1 := Lib.hid hb1
      have hca := (Row.of_own hown1).le
      clear hown1 hb1
      go_wp2
      go_loopw [6, 27] (fun s i wr => ∃ k A2 c2, k ≤ 2 ∧ i = .int .i64 (k : Nat) ∧ s = .slice A2 (if k = 0 then 0 else if k = 1 then n else n + 1) c2 ∧ wr.ownsRow w.heap.size 125 7 s (if k = 0 then 0 else if k = 1 then n else n + 1) (qv (if k = 0 then [] else if k = 1 then l else l ++ [r])) ∧ Below w.heap.size w wr) (fun s i _ => 2 - (intOf i).toNat)
      case atStart => exact ⟨0, A1, c1, by omega, rfl, rfl, HO1.out, HB1.out⟩
      case round =>
        obtain ⟨k, A2, c2, hk, rfl, rfl, hown, hbel⟩ := hrel
        have HB2 := Lib.hid hbel
        have k0 := (hbel.cell (p := ⟨g, 0, none⟩) hglt).trans g0
        have k1 := (hbel.cell (p := ⟨g, 1, none⟩) hglt).trans g1
        clear hbel
        obtain rfl | rfl | rfl : k = 0 ∨ k = 1 ∨ k = 2 := by omega
        · simp only [if_true] at hown ⊢
          have HO2 := Lib.hid hown
          clear hown
          go_wp2_with (first
            | (at_builtin
               refine wpList_append_row rfl (.tmp 31) (.tmp 32) rfl qel2 w.heap.size _ 0 (qv []) rfl HO2.out B A n c (qv l) rfl (HR.out.below (HB2.out.mono hB)) (qv_one _) (by omega) (by omega) HB2.out.size ?_
               intro A3 c3 w3 hown3 _ hb3
               rw [Nat.zero_add, show qv [] ++ qv l = qv l from rfl] at hown3
               rw [Nat.zero_add]
               have HO3 := Lib.hid hown3
               have HB3 := Lib.hid (HB2.out.trans hb3)
               clear hown3 hb3)
            | fail)
          go_roundw
          case rel => exact ⟨1, A3, c3, by omega, by go_num, by simp, by simpa using HO3.out, HB3.out⟩
          case measure => simp [intOf]
        · simp only [if_true, if_neg (show ¬ (1 : Nat) = 0 by omega)] at hown ⊢
          have HO2 := Lib.hid hown
          clear hown
          go_wp2_with (first
            | (at_builtin
               refine wpList_append_row rfl (.tmp 31) (.tmp 32) rfl qel2 w.heap.size _ n (qv l) rfl HO2.out B A' 1 c' (qv [r]) rfl (HR'.out.below (HB2.out.mono hB)) (qv_one _) (by omega) (by omega) HB2.out.size ?_
               intro A3 c3 w3 hown3 _ hb3
               rw [← qv_append] at hown3
               have HO3 := Lib.hid hown3
               have HB3 := Lib.hid (HB2.out.trans hb3)
               clear hown3 hb3)
            | fail)
          go_roundw
          case rel => exact ⟨2, A3, c3, by omega, by go_num, by simp, by simpa using HO3.out, HB3.out⟩
          case measure => simp [intOf]
        · simp only [if_neg (show ¬ (2 : Nat) = 0 by omega), if_neg (show ¬ (2 : Nat) = 1 by omega)] at hown ⊢
          have HO2 := Lib.hid hown
          clear hown
          go_wp2
          go_ret
          exact ⟨A2, c2, by rw [List.length_append, HL.out]; rfl, by rw [List.length_append, HL.out]; exact HO2.out, HB2.out⟩

set_option maxHeartbeats 800000 in
theorem with_any (B : Nat) (A : Option Addr) (n c : Nat) (l : List Rq) (r : Rq) (w : World) (hr : Qs w B A n c l) (hB : B ≤ w.heap.size) (hsz : n ≤ 1099511627770) :
    Calls Try.prog 87 #[.slice A n c, qval r] w (QsNew w (l ++ [r])) := by
  obtain ⟨r0, r1, r2, r3, r4, r5, r6⟩ := r
  unfold qval
  dsimp only
  obtain ⟨O1, hO1⟩ : ∃ o : Obj, o = .cells #[.int .i64 r0, .int .i64 r1, .int .i64 r2, .int .i64 r3, .int .i64 r4, .int .i64 r5, .bool r6] 125 := ⟨_, rfl⟩
  have hb : Below w.heap.size w ((w.alloc O1).alloc O1) := ((Below.refl _ _).alloc (Nat.le_refl _) _).alloc (by simp) _
  have hone : Qs ((w.alloc O1).alloc O1) (w.heap.size + 2) (some ⟨w.heap.size + 1, 0, none⟩) 1 1 [⟨r0, r1, r2, r3, r4, r5, r6⟩] := by
    have := qone (w.alloc O1) ⟨r0, r1, r2, r3, r4, r5, r6⟩ (s := w.heap.size + 1) (by simp)
    rw [← hO1] at this
    simpa [Qs] using this
  have HC := Lib.hid (concat_any (w.heap.size + 2) A n c l (some ⟨w.heap.size + 1, 0, none⟩) 1 ⟨r0, r1, r2, r3, r4, r5, r6⟩ (w.heap.size + 2) (((w.alloc O1).alloc O1).alloc (.cells #[.slice A n c, .slice (some ⟨w.heap.size + 1, 0, none⟩) 1 1] 122))
    (((hr.below (hb.mono hB)).more (by omega)).below ((Below.refl _ _).alloc (by simp) _)) (hone.below ((Below.refl _ _).alloc (by simp) _)) (by simp) ⟨by have := (Blk.new ((w.alloc O1).alloc O1) 122 #[.slice A n c, .slice (some ⟨w.heap.size + 1, 0, none⟩) 1 1]).cell 0; simpa using this, by have := (Blk.new ((w.alloc O1).alloc O1) 122 #[.slice A n c, .slice (some ⟨w.heap.size + 1, 0, none⟩) 1 1]).cell 1; simpa using this⟩ hsz)
  have HB : Hid (Below w.heap.size w (((w.alloc O1).alloc O1).alloc (.cells #[.slice A n c, .slice (some ⟨w.heap.size + 1, 0, none⟩) 1 1] 122))) := hb.alloc hb.size _
  rw [hO1] at HC HB
  clear hone hr hb hO1
  go_enter Try.func87, Try.ntmps87
  go_wp2_with fail
  refine HC.out.mono ?_
  rintro e w2 ⟨A2, c2, rfl, ho, hb2⟩
  have HO := Lib.hid (own_mono ho HB.out.size)
  have HB2 := Lib.hid (held_two HB.out hb2)
  clear ho hb2
  go_wp2
  go_ret
  exact ⟨A2, c2, by rw [List.length_append]; rfl, HO.out, HB2.out⟩

end Go.Proofs.Ytlkjmdkmcaaihaa.Req

namespace Go.Proofs.Ytlkjmdkmcaaihaa.Req
set_option linter.unusedVariables false
set_option maxRecDepth 100000
open Go.RowKit Base ReqMath
open Go.Sort (grow)
set_option linter.ambiguousOpen false
set_option linter.unusedSimpArgs false

/-- what is answered: nothing and false, or a list in new memory and true -/
def Ans (w : World) (o : Option (List Rq)) (e : Ending) (w' : World) : Prop :=
  match o with
  | none => e = .returned (.tuple #[.slice none 0 0, .bool false]) ∧ Below w.heap.size w w'
  | some m => ∃ A c, e = .returned (.tuple #[.slice A m.length c, .bool true]) ∧ w'.ownsRow w.heap.size 125 7 (.slice A m.length c) m.length (qv m) ∧ Below w.heap.size w w'
/-- the same in one shape -/
theorem Ans.at_ {w w' : World} {o : Option (List Rq)} {e : Ending} (h : Ans w o e w') : ∃ A c, e = .returned (.tuple #[.slice A (o.getD []).length c, .bool o.isSome]) ∧ w'.ownsRow w.heap.size 125 7 (.slice A (o.getD []).length c) (o.getD []).length (qv (o.getD [])) ∧ Below w.heap.size w w' := by
  cases o with
  | none => exact ⟨none, 0, h.1, World.ownsRow_nil _ _ _ _, h.2⟩
  | some m => exact h

set_option maxHeartbeats 1600000 in
theorem accept_any (B : Nat) (A : Option Addr) (n c : Nat) (l : List Rq) (t k a : Int) (w : World) (h : Qs w B A n c l) (hB : B ≤ w.heap.size) (hn : n ≤ 1099511627770) :
    Calls Try.prog 80 #[.slice A n c, .int .i64 t, .int .i64 k, .int .i64 a] w (Ans w (accept l t k a)) := by
  have hlen := h.len
  have HFR : Hid (fresh l t k a = ⟨(n : Int) + 1, t, k, a, 0, 0, false⟩) := by show _ = _; unfold fresh; rw [hlen]
  have HAC : Hid (accept l t k a = if may l && takes l (fresh l t k a) then some (l ++ [fresh l t k a]) else none) := rfl
  obtain ⟨W, hW⟩ : ∃ W, W = w.alloc (.cells #[.int .i64 ((n : Int) + 1), .int .i64 t, .int .i64 k, .int .i64 a, .int .i64 0, .int .i64 0, .bool false] 125) := ⟨_, rfl⟩
  have hg : Gr w W := by rw [hW]; exact (Gr.refl w).alloc _
  have HR : Hid (Qs W B A n c l) := h.below (hg.below.mono hB)
  have HBW : Hid (B ≤ W.heap.size) := Nat.le_trans hB hg.below.size
  have hx : Blk W w.heap.size 125 #[.int .i64 ((n : Int) + 1), .int .i64 t, .int .i64 k, .int .i64 a, .int .i64 0, .int .i64 0, .bool false] := by rw [hW]; exact Blk.new _ _ _
  obtain ⟨p, hp⟩ : ∃ p, p = w.heap.size := ⟨_, rfl⟩
  rw [← hp] at hx
  have HX := Lib.hid hx
  have HG := Lib.hid hg
  have HW := Lib.hid hW
  have HP := Lib.hid hp
  rw [HFR.out] at HAC
  generalize hf : (⟨(n : Int) + 1, t, k, a, 0, 0, false⟩ : Rq) = f at HAC
  have HF := Lib.hid hf
  clear hlen h hg hW hp hx hf
  go_enter Try.func80, Try.ntmps80
  go_wp2_with fail
  refine (nextid_any A n c _ (by omega)).mono ?_
  rintro e w1 ⟨rfl, rfl⟩
  go_wp2_with fail
  rw [← HW.out, ← HP.out]
  refine (may_any B A n c l W HR.out HBW.out (by omega)).mono ?_
  rintro e w1 ⟨rfl, hg1⟩
  have HG1 := Lib.hid hg1
  have HR1 : Hid (Qs w1 B A n c l) := HR.out.below (hg1.below.mono HBW.out)
  have HB1 : Hid (B ≤ w1.heap.size) := Nat.le_trans HBW.out hg1.below.size
  have hx1 := HX.out.below hg1.below HX.out.lt
  have HX1 := Lib.hid hx1
  have q0 := hx1.cell 0
  have q1 := hx1.cell 1
  have q2 := hx1.cell 2
  have q3 := hx1.cell 3
  have q4 := hx1.cell 4
  have q5 := hx1.cell 5
  have q6 := hx1.cell 6
  clear hg1 hx1
  generalize may l = b1 at *
  cases b1 with
  | false =>
    go_wp2
    go_ret2
    have := HAC.out
    rw [Bool.false_and, if_neg (by simp)] at this
    unfold Ans
    rw [this]
    exact ⟨rfl, HG.out.below.trans (HG1.out.below.mono HG.out.below.size)⟩
  | true =>
    rw [Bool.true_and] at HAC
    go_wp2_with fail
    refine (takes_any B A n c l ⟨(n : Int) + 1, t, k, a, 0, 0, false⟩ w1 HR1.out HB1.out (by omega)).mono ?_
    rintro e w2 ⟨rfl, hg2⟩
    have HG2 := Lib.hid hg2
    have HR2 : Hid (Qs w2 B A n c l) := HR1.out.below (hg2.below.mono HB1.out)
    have HB2 : Hid (B ≤ w2.heap.size) := Nat.le_trans HB1.out hg2.below.size
    have hx2 := HX1.out.below hg2.below HX1.out.lt
    have q0 := hx2.cell 0
    have q1 := hx2.cell 1
    have q2 := hx2.cell 2
    have q3 := hx2.cell 3
    have q4 := hx2.cell 4
    have q5 := hx2.cell 5
    have q6 := hx2.cell 6
    have HBW2 : Hid (Below w.heap.size w w2) := (HG.out.trans (HG1.out.trans HG2.out)).below
    clear hg2 hx2
    rw [HF.out]
    generalize takes l f = b2 at *
    cases b2 with
    | false =>
      go_wp2
      go_ret2
      have := HAC.out
      rw [if_neg (by simp)] at this
      unfold Ans
      rw [this]
      exact ⟨rfl, HBW2.out⟩
    | true =>
      rw [if_pos rfl] at HAC
      go_wp2_with fail
      refine (with_any B A n c l ⟨(n : Int) + 1, t, k, a, 0, 0, false⟩ w2 HR2.out HB2.out (by omega)).mono ?_
      rintro e w3 ⟨A3, c3, rfl, ho, hb3⟩
      rw [HF.out] at ho
      rw [HF.out]
      have HO := Lib.hid (own_mono ho HBW2.out.size)
      have HB3 := Lib.hid (held_two HBW2.out hb3)
      clear ho hb3
      go_wp2
      go_ret2
      unfold Ans
      rw [HAC.out]
      exact ⟨A3, c3, by rw [List.length_append]; rfl, HO.out, HB3.out⟩

/-! ### Chunk -/
end Go.Proofs.Ytlkjmdkmcaaihaa.Req
