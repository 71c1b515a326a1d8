/-
  Contract of how the statements make an item that may be, of any one, without notes (play.Item). Contract of how the statements make an item that may be, of any one, with notes (some).
-/
import Derived.Test.YtlkjmdkmcaaihaaBtGather
import Derived.Test.YtlkjmdkmcaaihaaBtItem
import Derived.Test.YtlkjmdkmcaaihaaPlayChgOne
import Derived.Test.YtlkjmdkmcaaihaaRegionLast
namespace Go.Proofs.Ytlkjmdkmcaaihaa.Bt
set_option linter.unusedVariables false
set_option maxRecDepth 100000
open Go.RowKit Base FieldMath TxnMath BatchMath Last
open GuardMath (Gp noGp)
open Gd (Gps ov ov_append ov_one ov_length ocells oval oel oone)
open Go.Proofs.Ytlkjmdkmcaaihaa.Field (ret_bool modZ modZ_lt mod_any bigZ bigZ_lt playbig_any)
set_option linter.ambiguousOpen false
set_option linter.unusedSimpArgs false

/-- an item on its way: the raw one's box, the result's block, the new one's block p, its rows -/
def MkSt (w : World) (raw : Array Value) (p : Nat) (L : Int) (v3 : Value) (n3 : Nat) (xs : List Value) (v4 : Value) (n4 : Nat) (ys : List Value) (wr : World) : Prop :=
  Blk wr w.heap.size 25 raw ∧ Blk wr (w.heap.size + 1) 25 itz ∧ Blk wr p 25 #[.int .i64 L, v3, v4] ∧ wr.ownsRow (w.heap.size + 2) 29 5 v3 n3 xs ∧ wr.ownsRow (w.heap.size + 2) 27 7 v4 n4 ys ∧ Below w.heap.size w wr ∧ w.heap.size + 1 < p
section
variable {w wr w1 : World} {raw : Array Value} {p n3 n4 n' : Nat} {L : Int} {v3 v4 v' : Value} {xs ys zs : List Value}
theorem MkSt.new (h : MkSt w raw p L v3 n3 xs v4 n4 ys wr) (hb : Below wr.heap.size wr w1) : MkSt w raw p L v3 n3 xs v4 n4 ys w1 :=
  ⟨h.1.below hb h.1.lt, h.2.1.below hb h.2.1.lt, h.2.2.1.below hb h.2.2.1.lt, own_keep h.2.2.2.1 hb, own_keep h.2.2.2.2.1 hb, held_two h.2.2.2.2.2.1 hb, h.2.2.2.2.2.2⟩
theorem MkSt.ops (h : MkSt w raw p L v3 n3 xs v4 n4 ys wr) (ho : w1.ownsRow (w.heap.size + 2) 29 5 v' n' zs) (hg : Grew wr v3.ownBlock w1 v') (hb : Below (w.heap.size + 2) wr w1) : MkSt w raw p L v' n' zs v4 n4 ys (w1.setCell ⟨p, 1, none⟩ v') := by
  obtain ⟨h1, h2, h3, h4, h5, h6, h7⟩ := h
  have k3 := h3.grown hg.1 (fun e => own_ne h4 h3 (by decide) e.symm)
  have k5 := h5.kept hg.1 (own_types h5 h4 (by decide))
  exact ⟨(h1.below hb (by omega)).far (by show w.heap.size ≠ p; omega) _, (h2.below hb (by omega)).far (by show w.heap.size + 1 ≠ p; omega) _, k3.set_ 1 _, ho.kept (only_setCell (World.grownBy.refl _ (some p)) (.inl rfl) _) (.inr (own_ne ho k3 (by decide))), k5.kept (only_setCell (World.grownBy.refl _ (some p)) (.inl rfl) _) (.inr (own_ne k5 k3 (by decide))), (h6.trans (hb.mono (by omega))).setCell (by show w.heap.size ≤ p; omega) _, h7⟩
theorem MkSt.nts (h : MkSt w raw p L v3 n3 xs v4 n4 ys wr) (ho : w1.ownsRow (w.heap.size + 2) 27 7 v' n' zs) (hg : Grew wr v4.ownBlock w1 v') (hb : Below (w.heap.size + 2) wr w1) : MkSt w raw p L v3 n3 xs v' n' zs (w1.setCell ⟨p, 2, none⟩ v') := by
  obtain ⟨h1, h2, h3, h4, h5, h6, h7⟩ := h
  have k3 := h3.grown hg.1 (fun e => own_ne h5 h3 (by decide) e.symm)
  have k4 := h4.kept hg.1 (own_types h4 h5 (by decide))
  exact ⟨(h1.below hb (by omega)).far (by show w.heap.size ≠ p; omega) _, (h2.below hb (by omega)).far (by show w.heap.size + 1 ≠ p; omega) _, k3.set_ 2 _, k4.kept (only_setCell (World.grownBy.refl _ (some p)) (.inl rfl) _) (.inr (own_ne k4 k3 (by decide))), ho.kept (only_setCell (World.grownBy.refl _ (some p)) (.inl rfl) _) (.inr (own_ne ho k3 (by decide))), (h6.trans (hb.mono (by omega))).setCell (by show w.heap.size ≤ p; omega) _, h7⟩
/-- behind the append, ahead of the store -/
theorem MkSt.box3 (h : MkSt w raw p L v3 n3 xs v4 n4 ys wr) (hg : Grew wr v3.ownBlock w1 v') : Blk w1 p 25 #[.int .i64 L, v3, v4] := h.2.2.1.grown hg.1 (fun e => own_ne h.2.2.2.1 h.2.2.1 (by decide) e.symm)
theorem MkSt.box4 (h : MkSt w raw p L v3 n3 xs v4 n4 ys wr) (hg : Grew wr v4.ownBlock w1 v') : Blk w1 p 25 #[.int .i64 L, v3, v4] := h.2.2.1.grown hg.1 (fun e => own_ne h.2.2.2.2.1 h.2.2.1 (by decide) e.symm)
end
theorem all_snoc {α : Type} {l : List α} {p : α → Prop} {x : α} (h : ∀ y ∈ l, p y) (hx : p x) : ∀ y ∈ l ++ [x], p y := by
  intro y hy
  rcases List.mem_append.1 hy with hy | hy
  · exact h y hy
  · rw [List.mem_singleton] at hy
    subst hy
    exact hx
/-- an item without notes, that may be, behind number m -/
def MadeO (m : Nat) (w : World) (e : Ending) (w' : World) : Prop := ∃ (L : Nat) (l : List Gp) (A : Option Addr) (n c : Nat), e = .returned (.agg #[.int .i64 (L : Int), .slice A n c, .slice none 0 0]) ∧ m + 1 ≤ L ∧ L ≤ m + 3 ∧ n ≤ 5 ∧ w'.ownsRow w.heap.size 29 5 (.slice A n c) n (ov l) ∧ (∀ o ∈ l, opMay L o = true) ∧ Below w.heap.size w w'
def MadeRel (w : World) (raw : Array Value) (p L n : Nat) (i : Value) (wr : World) : Prop := ∃ (k : Nat) (l : List Gp) (A : Option Addr) (c : Nat), k ≤ n ∧ k ≤ 5 ∧ i = .int .i64 k ∧ (∀ o ∈ l, opMay L o = true) ∧ MkSt w raw p L (.slice A k c) k (ov l) (.slice none 0 0) 0 (ntv []) wr
set_option maxHeartbeats 6400000 in
theorem playitem_any (B m : Nat) (hm : m ≤ 1099511627770) (L0 : Int) (A : Option Addr) (n c : Nat) (l : List Gp) (v2 : Value) (w : World) (h : Gps w B A n c l) (hB : B ≤ w.heap.size) (hok : ∀ o ∈ l, o.val.size ≤ 9223372036854775807) :
    Calls Try.prog 25 #[.agg #[.int .i64 L0, .slice A n c, v2], .int .i64 8, .int .i64 m] w (MadeO m w) := by
  have hle := h.le
  have HR := Lib.hid h
  have HOK := Lib.hid hok
  have C3 := Lib.hid (fun w => playbig_any L0 3 w (by omega) (by omega))
  have b3 := bigZ_lt L0 (n := 3) (by omega)
  generalize bigZ L0 3 = k3 at C3 b3
  obtain ⟨L, hL⟩ : ∃ L : Nat, L = m + 1 + k3 := ⟨_, rfl⟩
  have W1 : IntKind.i64.wrap ((m : Int) + 1) = (m : Int) + 1 := IntWalk.i64_in _ (by omega)
  have W2 : IntKind.i64.wrap ((m : Int) + 1 + (k3 : Int)) = (L : Int) := by rw [IntWalk.i64_in _ (by omega)]; omega
  have W3 : (m : Int) + 1 + (k3 : Int) = (L : Int) := by omega
  have hL1 : 1 ≤ L := by omega
  have hL2 : L ≤ 1099511627773 := by omega
  have hLm : m + 1 ≤ L ∧ L ≤ m + 3 := by omega
  have HLM := Lib.hid hLm
  clear h hok hL hLm
  have HX0 : Hid (Blk (w.alloc (.cells #[.int .i64 L0, .slice A n c, v2] 25)) w.heap.size 25 #[.int .i64 L0, .slice A n c, v2]) := Blk.new _ _ _
  have HM0 : Hid (MkSt w #[.int .i64 L0, .slice A n c, v2] (w.heap.size + 2) L (.slice none 0 0) 0 (ov []) (.slice none 0 0) 0 (ntv []) (((w.alloc (.cells #[.int .i64 L0, .slice A n c, v2] 25)).alloc (.cells itz 25)).alloc (.cells #[.int .i64 (L : Int), .slice none 0 0, .slice none 0 0] 25))) := by
    refine ⟨(HX0.out.alloc _).alloc _, ?_, ?_, World.ownsRow_nil _ _ _ _, World.ownsRow_nil _ _ _ _, (((Below.refl _ _).alloc (Nat.le_refl _) _).alloc (by simp) _).alloc (by simp; omega) _, Nat.lt_succ_self _⟩
    · have h1 := (Blk.new (w.alloc (.cells #[.int .i64 L0, .slice A n c, v2] 25)) 25 itz).alloc (.cells #[.int .i64 (L : Int), .slice none 0 0, .slice none 0 0] 25)
      rw [show (w.alloc (.cells #[.int .i64 L0, .slice A n c, v2] 25)).heap.size = w.heap.size + 1 by simp] at h1
      exact h1
    · have h1 := Blk.new ((w.alloc (.cells #[.int .i64 L0, .slice A n c, v2] 25)).alloc (.cells itz 25)) 25 #[.int .i64 (L : Int), .slice none 0 0, .slice none 0 0]
      rw [show ((w.alloc (.cells #[.int .i64 L0, .slice A n c, v2] 25)).alloc (.cells itz 25)).heap.size = w.heap.size + 2 by simp] at h1
      exact h1
  go_enter Try.func25, Try.ntmps25
  go_wp2_with fail
  refine (C3.out _).mono ?_
  rintro e w1 ⟨rfl, rfl⟩
  go_wp2
  go_loopw [8] (fun i wr => MadeRel w #[.int .i64 L0, .slice A n c, v2] (w.heap.size + 2) L n i wr) (fun i _ => n - (intOf i).toNat)
  case atStart => exact ⟨0, [], none, 0, by omega, by omega, rfl, (fun f hf => by cases hf), by first | exact HM0.out | (have h9 := HM0.out; rw [← W3] at h9; exact h9)⟩
  case round =>
    obtain ⟨k, pre, A1, c1, hk, hk5, rfl, hall, hst⟩ := hrel
    have HA := Lib.hid hall
    have HM := Lib.hid hst
    have x1 : wr.cell? ⟨w.heap.size, 1, none⟩ = some (.slice A n c) := hst.1.cell 1
    have hz := hst.2.2.1.lt
    have hbz := hst.2.2.2.2.2.1.size
    have hpl := hst.2.2.2.2.2.2
    clear hall hst HM0
    by_cases hgo : k < n ∧ k < 5
    · obtain ⟨hlt, hlt5⟩ := hgo
      obtain ⟨b, off, f, rfl, hb, q0, q1, q2, q3, q4, hget, _⟩ := (HR.out.below (HM.out.2.2.2.2.2.1.mono hB)).at_ hlt
      have HG := Lib.hid (HOK.out f (List.mem_of_getElem? hget))
      clear hget
      have l1 : (k : Int) < (n : Int) := by omega
      have l2 : (k : Int) < 5 := by omega
      have hbw : b < wr.heap.size := by omega
      obtain ⟨f0, f1, f2, f3, f4⟩ := f
      dsimp only at q0 q1 q2 q3 q4 HG
      have HNE : Hid ((Value.slice A1 k c1).ownBlock ≠ some wr.heap.size) := fun e => by have := (HM.out.2.2.2.1.lt _ e).2; omega
      have HY : Hid (Blk (wr.alloc (.cells #[.int .i64 f0, .int .i64 f1, .int .i64 f2, .bool f3, .string f4] 29)) wr.heap.size 29 #[.int .i64 f0, .int .i64 f1, .int .i64 f2, .bool f3, .string f4]) := Blk.new _ _ _
      go_wp2_with fail
      refine (PChg.pchange_any 8 (by omega) (by omega) ⟨f1, f2, f3, f4⟩ _ HG.out).mono ?_
      rintro e w2 ⟨ch, rfl, hm2, hb2⟩
      have HM2 := Lib.hid hm2
      have HS2 := Lib.hid ((HM.out.new ((Below.refl _ _).alloc (Nat.le_refl _) (.cells #[.int .i64 f0, .int .i64 f1, .int .i64 f2, .bool f3, .string f4] 29))).new hb2)
      have HY2 := Lib.hid (HY.out.below hb2 HY.out.lt)
      have hz2 : wr.heap.size < w2.heap.size := HY2.out.lt
      generalize wr.heap.size = s9 at HY2 hz2 hz hbz hbw HNE ⊢
      clear hm2 hb2 HY q0 q1 q2 q3 q4 x1
      obtain ⟨ct, ck, cg, cv⟩ := ch
      unfold PChg.gval
      dsimp only
      go_upto_region 7 with fail
      have HS3 := Lib.hid (HS2.out.new ((Below.refl _ _).alloc (Nat.le_refl _) (.cells #[.int .i64 ct, .int .i64 ck, .bool cg, .string cv] 63)))
      have HY3 := Lib.hid (HY2.out.alloc (.cells #[.int .i64 ct, .int .i64 ck, .bool cg, .string cv] 63))
      have HZ3 : Hid (Blk (w2.alloc (.cells #[.int .i64 ct, .int .i64 ck, .bool cg, .string cv] 63)) w2.heap.size 63 #[.int .i64 ct, .int .i64 ck, .bool cg, .string cv]) := Blk.new _ _ _
      generalize (w2.alloc (.cells #[.int .i64 ct, .int .i64 ck, .bool cg, .string cv] 63)) = V at HS3 HY3 HZ3 ⊢
      generalize w2.heap.size = s10 at HZ3 hz2 ⊢
      have HS4 := Lib.hid (HS3.out.new (held_start V))
      have D1 := Lib.hid (fun w => playbig_any f0 L w (by omega) (by omega))
      have b1 := bigZ_lt f0 (n := L) (by omega)
      generalize bigZ f0 L = k1 at D1 b1
      have W4 : IntKind.i64.wrap (1 + (k1 : Int)) = 1 + (k1 : Int) := IntWalk.i64_in _ (by omega)
      have HHS : Hid (∀ wx : World, (Blk wx (w.heap.size + 2) 25 #[.int .i64 (L : Int), .slice A1 k c1, .slice none 0 0] ∧ Blk wx s9 29 #[.int .i64 f0, .int .i64 f1, .int .i64 f2, .bool f3, .string f4] ∧ Blk wx s10 63 #[.int .i64 ct, .int .i64 ck, .bool cg, .string cv]) → wx.cell? ⟨w.heap.size + 2, 0, none⟩ = some (.int .i64 (L : Int)) ∧ wx.cell? ⟨w.heap.size + 2, 1, none⟩ = some (.slice A1 k c1) ∧ wx.cell? ⟨s9, 0, none⟩ = some (.int .i64 f0) ∧ wx.cell? ⟨s10, 0, none⟩ = some (.int .i64 ct) ∧ wx.cell? ⟨s10, 1, none⟩ = some (.int .i64 ck) ∧ wx.cell? ⟨s10, 2, none⟩ = some (.bool cg) ∧ wx.cell? ⟨s10, 3, none⟩ = some (.string cv)) :=
        fun wx h => ⟨h.1.cell 0, h.1.cell 1, h.2.1.cell 0, h.2.2.cell 0, h.2.2.cell 1, h.2.2.cell 2, h.2.2.cell 3⟩
      refine wp_region_last_at (S := fun wx => Blk wx (w.heap.size + 2) 25 #[.int .i64 (L : Int), .slice A1 k c1, .slice none 0 0] ∧ Blk wx s9 29 #[.int .i64 f0, .int .i64 f1, .int .i64 f2, .bool f3, .string f4] ∧ Blk wx s10 63 #[.int .i64 ct, .int .i64 ck, .bool cg, .string cv]) 20 _ rfl rfl (by kernel_rfl) (by kernel_rfl) (by kernel_rfl) ⟨HS3.out.2.2.1, HY3.out, HZ3.out⟩ (fun hHeld => ?_)
      simp only [List.take_succ_cons, List.take_zero]
      refine wpAnyH_take (i := 0) (v := ?_) rfl (by kernel_rfl) (by kernel_rfl) (by kernel_rfl) (fun _ _ _ h => h) (Or.inl ⟨by rfl, ?_⟩) (by assumption) ?_
      rotate_left 1
      · (intro w hSw; (try dsimp only at hSw); obtain ⟨hs1, hs2, hs3, hs4, hs5, hs6, hs7⟩ := HHS.out _ hSw; go_simp; try with_reducible rfl)
      try simp only [Act.put, List.getElem_toArray, List.getElem_cons_succ, List.getElem_cons_zero, List.setIfInBounds_toArray, List.set_cons_zero, List.set_cons_succ]
      refine wpAnyH_take (i := 1) (v := ?_) rfl (by kernel_rfl) (by kernel_rfl) (by kernel_rfl) (fun _ _ _ h => h) (Or.inl ⟨by rfl, ?_⟩) (by assumption) ?_
      rotate_left 1
      · (intro w hSw; (try dsimp only at hSw); obtain ⟨hs1, hs2, hs3, hs4, hs5, hs6, hs7⟩ := HHS.out _ hSw; go_simp; try with_reducible rfl)
      try simp only [Act.put, List.getElem_toArray, List.getElem_cons_succ, List.getElem_cons_zero, List.setIfInBounds_toArray, List.set_cons_zero, List.set_cons_succ]
      refine wpAnyH_take (i := 2) (v := ?_) rfl (by kernel_rfl) (by kernel_rfl) (by kernel_rfl) (fun _ _ _ h => h) (Or.inl ⟨by rfl, ?_⟩) (by assumption) ?_
      rotate_left 1
      · (intro w hSw; (try dsimp only at hSw); obtain ⟨hs1, hs2, hs3, hs4, hs5, hs6, hs7⟩ := HHS.out _ hSw; go_simp; try with_reducible rfl)
      try simp only [Act.put, List.getElem_toArray, List.getElem_cons_succ, List.getElem_cons_zero, List.setIfInBounds_toArray, List.set_cons_zero, List.set_cons_succ]
      refine wpAnyH_take (i := 3) (v := ?_) rfl (by kernel_rfl) (by kernel_rfl) (by kernel_rfl) (fun _ _ _ h => h) (Or.inl ⟨by rfl, ?_⟩) (by assumption) ?_
      rotate_left 1
      · (intro w hSw; (try dsimp only at hSw); obtain ⟨hs1, hs2, hs3, hs4, hs5, hs6, hs7⟩ := HHS.out _ hSw; go_simp; try with_reducible rfl)
      try simp only [Act.put, List.getElem_toArray, List.getElem_cons_succ, List.getElem_cons_zero, List.setIfInBounds_toArray, List.set_cons_zero, List.set_cons_succ]
      refine wpAnyH_take (i := 4) (v := ?_) rfl (by kernel_rfl) (by kernel_rfl) (by kernel_rfl) (fun _ _ _ h => h) (Or.inl ⟨by rfl, ?_⟩) (by assumption) ?_
      rotate_left 1
      · (intro w hSw; (try dsimp only at hSw); obtain ⟨hs1, hs2, hs3, hs4, hs5, hs6, hs7⟩ := HHS.out _ hSw; go_simp; try with_reducible rfl)
      try simp only [Act.put, List.getElem_toArray, List.getElem_cons_succ, List.getElem_cons_zero, List.setIfInBounds_toArray, List.set_cons_zero, List.set_cons_succ]
      refine wpAnyH_take (i := 5) (v := ?_) rfl (by kernel_rfl) (by kernel_rfl) (by kernel_rfl) (fun _ _ _ h => h) (Or.inl ⟨by rfl, ?_⟩) (by assumption) ?_
      rotate_left 1
      · (intro w hSw; (try dsimp only at hSw); obtain ⟨hs1, hs2, hs3, hs4, hs5, hs6, hs7⟩ := HHS.out _ hSw; go_simp; try with_reducible rfl)
      try simp only [Act.put, List.getElem_toArray, List.getElem_cons_succ, List.getElem_cons_zero, List.setIfInBounds_toArray, List.set_cons_zero, List.set_cons_succ]
      refine wpAnyH_take (i := 8) (v := ?_) rfl (by kernel_rfl) (by kernel_rfl) (by kernel_rfl) (fun _ _ _ h => h) (Or.inl ⟨by rfl, ?_⟩) (by assumption) ?_
      rotate_left 1
      · (intro w hSw; (try dsimp only at hSw); obtain ⟨hs1, hs2, hs3, hs4, hs5, hs6, hs7⟩ := HHS.out _ hSw; go_simp; try with_reducible rfl)
      try simp only [Act.put, List.getElem_toArray, List.getElem_cons_succ, List.getElem_cons_zero, List.setIfInBounds_toArray, List.set_cons_zero, List.set_cons_succ]
      refine wpAnyH_take (i := 9) (v := ?_) rfl (by kernel_rfl) (by kernel_rfl) (by kernel_rfl) (fun _ _ _ h => h) (Or.inl ⟨by rfl, ?_⟩) (by assumption) ?_
      rotate_left 1
      · (intro w hSw; (try dsimp only at hSw); obtain ⟨hs1, hs2, hs3, hs4, hs5, hs6, hs7⟩ := HHS.out _ hSw; go_simp; try with_reducible rfl)
      try simp only [Act.put, List.getElem_toArray, List.getElem_cons_succ, List.getElem_cons_zero, List.setIfInBounds_toArray, List.set_cons_zero, List.set_cons_succ]
      refine wpAnyH_take (i := 10) (v := ?_) rfl (by kernel_rfl) (by kernel_rfl) (by kernel_rfl) (fun _ _ _ h => h) (Or.inl ⟨by rfl, ?_⟩) (by assumption) ?_
      rotate_left 1
      · (intro w hSw; (try dsimp only at hSw); obtain ⟨hs1, hs2, hs3, hs4, hs5, hs6, hs7⟩ := HHS.out _ hSw; go_simp; try with_reducible rfl)
      try simp only [Act.put, List.getElem_toArray, List.getElem_cons_succ, List.getElem_cons_zero, List.setIfInBounds_toArray, List.set_cons_zero, List.set_cons_succ]
      refine wpAnyH_take (i := 11) (v := ?_) rfl (by kernel_rfl) (by kernel_rfl) (by kernel_rfl) (fun _ _ _ h => h) (Or.inl ⟨by rfl, ?_⟩) (by assumption) ?_
      rotate_left 1
      · (intro w hSw; (try dsimp only at hSw); obtain ⟨hs1, hs2, hs3, hs4, hs5, hs6, hs7⟩ := HHS.out _ hSw; go_simp; try with_reducible rfl)
      try simp only [Act.put, List.getElem_toArray, List.getElem_cons_succ, List.getElem_cons_zero, List.setIfInBounds_toArray, List.set_cons_zero, List.set_cons_succ]
      refine wpAnyH_take (i := 12) (v := ?_) rfl (by kernel_rfl) (by kernel_rfl) (by kernel_rfl) (fun _ _ _ h => h) (Or.inl ⟨by rfl, ?_⟩) (by assumption) ?_
      rotate_left 1
      · (intro w hSw; (try dsimp only at hSw); obtain ⟨hs1, hs2, hs3, hs4, hs5, hs6, hs7⟩ := HHS.out _ hSw; go_simp; try with_reducible rfl)
      try simp only [Act.put, List.getElem_toArray, List.getElem_cons_succ, List.getElem_cons_zero, List.setIfInBounds_toArray, List.set_cons_zero, List.set_cons_succ]
      refine wpAnyH_take (i := 13) (v := ?_) rfl (by kernel_rfl) (by kernel_rfl) (by kernel_rfl) (fun _ _ _ h => h) (Or.inl ⟨by rfl, ?_⟩) (by assumption) ?_
      rotate_left 1
      · (intro w hSw; (try dsimp only at hSw); obtain ⟨hs1, hs2, hs3, hs4, hs5, hs6, hs7⟩ := HHS.out _ hSw; go_simp; try with_reducible rfl)
      try simp only [Act.put, List.getElem_toArray, List.getElem_cons_succ, List.getElem_cons_zero, List.setIfInBounds_toArray, List.set_cons_zero, List.set_cons_succ]
      refine wpAnyH_take (i := 14) (v := ?_) rfl (by kernel_rfl) (by kernel_rfl) (by kernel_rfl) (fun _ _ _ h => h) (Or.inl ⟨by rfl, ?_⟩) (by assumption) ?_
      rotate_left 1
      · (intro w hSw; (try dsimp only at hSw); obtain ⟨hs1, hs2, hs3, hs4, hs5, hs6, hs7⟩ := HHS.out _ hSw; go_simp; try with_reducible rfl)
      try simp only [Act.put, List.getElem_toArray, List.getElem_cons_succ, List.getElem_cons_zero, List.setIfInBounds_toArray, List.set_cons_zero, List.set_cons_succ]
      refine wpAnyH_take (i := 15) (v := ?_) rfl (by kernel_rfl) (by kernel_rfl) (by kernel_rfl) (fun _ _ _ h => h) (Or.inl ⟨by rfl, ?_⟩) (by assumption) ?_
      rotate_left 1
      · (intro w hSw; (try dsimp only at hSw); obtain ⟨hs1, hs2, hs3, hs4, hs5, hs6, hs7⟩ := HHS.out _ hSw; go_simp; try with_reducible rfl)
      try simp only [Act.put, List.getElem_toArray, List.getElem_cons_succ, List.getElem_cons_zero, List.setIfInBounds_toArray, List.set_cons_zero, List.set_cons_succ]
      refine wpAnyH_ready (rs := [6]) (by kernel_rfl) (by simp) ?_
      refine AllReadyH.cons rfl (fun K hK => ?_) AllReadyH.nil
      go_simp
      refine (D1.out _).mono ?_
      rintro e w5 ⟨rfl, rfl⟩
      refine hK.out _ _ (by assumption) (fun hHeld => ?_)
      clear hK K
      try simp only [Act.put, List.getElem_toArray, List.getElem_cons_succ, List.getElem_cons_zero, List.setIfInBounds_toArray, List.set_cons_zero, List.set_cons_succ]
      refine wpAnyH_take (i := 7) (v := ?_) rfl (by kernel_rfl) (by kernel_rfl) (by kernel_rfl) (fun _ _ _ h => h) (Or.inl ⟨by rfl, ?_⟩) (by assumption) ?_
      rotate_left 1
      · (intro w hSw; (try dsimp only at hSw); obtain ⟨hs1, hs2, hs3, hs4, hs5, hs6, hs7⟩ := HHS.out _ hSw; go_simp; try with_reducible rfl)
      try simp only [Act.put, List.getElem_toArray, List.getElem_cons_succ, List.getElem_cons_zero, List.setIfInBounds_toArray, List.set_cons_zero, List.set_cons_succ]
      try simp only [W4]
      refine wpAnyH_take (i := 16) (v := ?_) rfl (by kernel_rfl) (by kernel_rfl) (by kernel_rfl) (fun _ _ _ h => h) (Or.inl ⟨by rfl, ?_⟩) (by assumption) ?_
      rotate_left 1
      · (intro w hSw; (try dsimp only at hSw); obtain ⟨hs1, hs2, hs3, hs4, hs5, hs6, hs7⟩ := HHS.out _ hSw; go_simp; try with_reducible rfl)
      try simp only [Act.put, List.getElem_toArray, List.getElem_cons_succ, List.getElem_cons_zero, List.setIfInBounds_toArray, List.set_cons_zero, List.set_cons_succ]
      refine wpAnyH_ready (rs := [17]) (by kernel_rfl) (by simp) ?_
      refine AllReadyH.cons rfl (fun K hK => ?_) AllReadyH.nil
      go_simp
      refine hK.out _ _ ⟨hHeld.1.alloc _, hHeld.2.1.alloc _, hHeld.2.2.alloc _⟩ (fun hHeld => ?_)
      clear hK K
      try simp only [Act.put, List.getElem_toArray, List.getElem_cons_succ, List.getElem_cons_zero, List.setIfInBounds_toArray, List.set_cons_zero, List.set_cons_succ]
      refine wpAnyH_ready (rs := [18]) (by kernel_rfl) (by simp) ?_
      refine AllReadyH.cons rfl (fun K hK => ?_) AllReadyH.nil
      have HS5 := Lib.hid (HS4.out.new ((Below.refl _ _).alloc (Nat.le_refl _) (.cells #[.int .i64 (1 + (k1 : Int)), .int .i64 ct, .int .i64 ck, .bool cg, .string cv] 29)))
      have hzz : w.heap.size + 2 ≤ (V.drew.alloc (.cells #[.int .i64 (1 + (k1 : Int)), .int .i64 ct, .int .i64 ck, .bool cg, .string cv] 29)).heap.size := Nat.le_of_lt HS5.out.2.2.1.lt
      refine step_append_row (by rfl) (.tmp 46) (.tmp 62) (by rfl) oel (w.heap.size + 2) (.slice A1 k c1) k (ov pre) (by rfl) HS5.out.2.2.2.1 _ _ 1 1 (ov [⟨1 + (k1 : Int), ct, ck, cg, cv⟩]) (by rfl) (oone _ ⟨1 + (k1 : Int), ct, ck, cg, cv⟩ (by rfl)) (ov_one _) (by omega) (by omega) (by exact hzz) ?_
      intro A6 c6 w6 hown6 hg6 hb6
      rw [← ov_append] at hown6
      have HMK := Lib.hid (HS5.out.ops hown6 hg6 hb6)
      have hbx := HS5.out.box3 hg6
      have j1 : w6.cell? ⟨w.heap.size + 2, 1, none⟩ = some (.slice A1 k c1) := hbx.cell 1
      have j1f := hbx.frozen 1
      refine hK.out _ _ ⟨hbx, hHeld.2.1.grown hg6.1 (fun e => HNE.out e.symm), hHeld.2.2.grown hg6.1 (fun e => own_ne HS5.out.2.2.2.1 hHeld.2.2 (by decide) e.symm)⟩ (fun hHeld => ?_)
      clear hK K
      try simp only [Act.put, List.getElem_toArray, List.getElem_cons_succ, List.getElem_cons_zero, List.setIfInBounds_toArray, List.set_cons_zero, List.set_cons_succ]
      refine wpAnyH_take (i := 19) (v := ?_) rfl (by kernel_rfl) (by kernel_rfl) (by kernel_rfl) (fun _ _ _ h => h) (Or.inl ⟨by rfl, ?_⟩) (by assumption) ?_
      rotate_left 1
      · (intro w hSw; (try dsimp only at hSw); obtain ⟨hs1, hs2, hs3, hs4, hs5, hs6, hs7⟩ := HHS.out _ hSw; go_simp; try with_reducible rfl)
      try simp only [Act.put, List.getElem_toArray, List.getElem_cons_succ, List.getElem_cons_zero, List.setIfInBounds_toArray, List.set_cons_zero, List.set_cons_succ]
      refine wpAnyH_done (by kernel_rfl) ?_ _
      refine then_normal rfl ?_
      have HOM : Hid (opMay L ⟨1 + (k1 : Int), ct, ck, cg, cv⟩ = true) := by
        show _ = _
        unfold opMay
        have hc : (och ⟨1 + (k1 : Int), ct, ck, cg, cv⟩).may 8 = true := HM2.out
        dsimp only
        rw [hc, decide_eq_true (by omega), decide_eq_true (by omega)]
        rfl
      clear hHeld hbx
      go_wp2
      go_roundw
      case rel => exact ⟨k + 1, pre ++ [⟨1 + (k1 : Int), ct, ck, cg, cv⟩], A6, c6, by omega, by omega, by go_num, all_snoc HA.out HOM.out, HMK.out⟩
      case measure => simp [intOf]; omega
    · have p0 : wr.cell? ⟨w.heap.size + 2, 0, none⟩ = some (.int .i64 (L : Int)) := HM.out.2.2.1.cell 0
      have p1 : wr.cell? ⟨w.heap.size + 2, 1, none⟩ = some (.slice A1 k c1) := HM.out.2.2.1.cell 1
      have p2 : wr.cell? ⟨w.heap.size + 2, 2, none⟩ = some (.slice none 0 0) := HM.out.2.2.1.cell 2
      have q0 : wr.cell? ⟨w.heap.size + 1, 0, none⟩ = some (.int .i64 0) := HM.out.2.1.cell 0
      have q1 : wr.cell? ⟨w.heap.size + 1, 1, none⟩ = some (.slice none 0 0) := HM.out.2.1.cell 1
      have q2 : wr.cell? ⟨w.heap.size + 1, 2, none⟩ = some (.slice none 0 0) := HM.out.2.1.cell 2
      have r0 := HM.out.2.1.frozen 0
      have r1 := HM.out.2.1.frozen 1
      have r2 := HM.out.2.1.frozen 2
      have hkk : (¬ k < n) ∨ (k < n ∧ ¬ k < 5) := by omega
      clear hgo
      rcases hkk with hkk | ⟨hkk, hkk2⟩
      · have l1 : ¬ (k : Int) < (n : Int) := by omega
        go_wp2
        have hon := three_on wr (w.heap.size + 1) (.int .i64 (L : Int)) (.slice A1 k c1) (.slice none 0 0)
        refine bodyPost_ret (v := .agg #[.int .i64 (L : Int), .slice A1 k c1, .slice none 0 0]) (by simp [results, Try.results25, go_sem, q0, q1, q2]) rfl ?_
        exact ⟨L, pre, A1, k, c1, rfl, HLM.out.1, HLM.out.2, hk5, own_mono (HM.out.2.2.2.1.kept hon (.inr (own_ne HM.out.2.2.2.1 HM.out.2.1 (by decide)))) (by omega), HA.out, ((HM.out.2.2.2.2.2.1.setCell (by simp) _).setCell (by simp) _).setCell (by simp) _⟩
      · have l1 : (k : Int) < (n : Int) := by omega
        have l2 : ¬ (k : Int) < 5 := by omega
        go_wp2
        have hon := three_on wr (w.heap.size + 1) (.int .i64 (L : Int)) (.slice A1 k c1) (.slice none 0 0)
        refine bodyPost_ret (v := .agg #[.int .i64 (L : Int), .slice A1 k c1, .slice none 0 0]) (by simp [results, Try.results25, go_sem, q0, q1, q2]) rfl ?_
        exact ⟨L, pre, A1, k, c1, rfl, HLM.out.1, HLM.out.2, hk5, own_mono (HM.out.2.2.2.1.kept hon (.inr (own_ne HM.out.2.2.2.1 HM.out.2.1 (by decide)))) (by omega), HA.out, ((HM.out.2.2.2.2.2.1.setCell (by simp) _).setCell (by simp) _).setCell (by simp) _⟩
end Go.Proofs.Ytlkjmdkmcaaihaa.Bt

namespace Go.Proofs.Ytlkjmdkmcaaihaa.Bt
set_option linter.unusedVariables false
set_option maxRecDepth 100000
open Go.RowKit Base FieldMath TxnMath BatchMath Last
open GuardMath (Gp noGp)
open Gd (Gps ov ov_append ov_one ov_length ocells oval oel oone)
open Go.Proofs.Ytlkjmdkmcaaihaa.Field (ret_bool modZ modZ_lt mod_any bigZ bigZ_lt playbig_any)
set_option linter.ambiguousOpen false
set_option linter.unusedSimpArgs false

/-- an item that may be, behind number m -/
structure Made (m : Nat) (x : It) : Prop where
  low : (m : Int) + 1 ≤ x.lsn
  high : x.lsn ≤ (m : Int) + 3
  ops : x.ops.length ≤ 5
  notes : x.notes.length ≤ 4
  op : ∀ o ∈ x.ops, opMay x.lsn o = true
  nt : ∀ n ∈ x.notes, ntMay x.lsn n = true
theorem Made.may {m : Nat} {x : It} (h : Made m x) (hm : m ≤ 1099511627770) : may x = true :=
  may_iff.2 ⟨by have := h.low; have := h.high; omega, by have := h.ops; omega, by have := h.notes; omega, h.op, h.nt⟩
def MadeI (m : Nat) (w : World) (e : Ending) (w' : World) : Prop := ∃ (x : It) (A : Option Addr) (n c : Nat) (A' : Option Addr) (n' c' : Nat), e = .returned (itv x.lsn A n c A' n' c') ∧ Made m x ∧ ItOwn w' w.heap.size x A n c A' n' c' ∧ Below w.heap.size w w'
def SomeRel (w : World) (raw : Array Value) (p L n : Nat) (v3 : Value) (n3 : Nat) (xs : List Value) (i : Value) (wr : World) : Prop := ∃ (k : Nat) (l : List Nt) (A : Option Addr) (c : Nat), k ≤ n ∧ k ≤ 4 ∧ i = .int .i64 k ∧ (∀ x ∈ l, ntMay L x = true) ∧ MkSt w raw p L v3 n3 xs (.slice A k c) k (ntv l) wr
set_option maxHeartbeats 12800000 in
theorem some_any (B m : Nat) (hm : m ≤ 1099511627770) (x : It) (v : Value) (w : World) (h : ItIn w B x v) (hB : B ≤ w.heap.size) (hok : ∀ o ∈ x.ops, o.val.size ≤ 9223372036854775807) :
    Calls Try.prog 11 #[v, .int .i64 m] w (MadeI m w) := by
  obtain ⟨A, n, c, A', n', c', rfl, hos, hns⟩ := h
  obtain ⟨L0, ops, nts⟩ := x
  unfold itv
  dsimp only at hos hns hok ⊢
  have hle := hos.le
  have hle' := hns.le
  have HW : Hid (Below w.heap.size w ((w.alloc (.cells #[.int .i64 L0, .slice A n c, .slice A' n' c'] 25)).alloc (.cells itz 25))) := ((Below.refl _ _).alloc (Nat.le_refl _) _).alloc (by simp) _
  have HX : Hid (Blk ((w.alloc (.cells #[.int .i64 L0, .slice A n c, .slice A' n' c'] 25)).alloc (.cells itz 25)) w.heap.size 25 #[.int .i64 L0, .slice A n c, .slice A' n' c']) := (Blk.new _ _ _).alloc _
  have HY : Hid (Blk ((w.alloc (.cells #[.int .i64 L0, .slice A n c, .slice A' n' c'] 25)).alloc (.cells itz 25)) (w.heap.size + 1) 25 itz) := by
    have h1 := Blk.new (w.alloc (.cells #[.int .i64 L0, .slice A n c, .slice A' n' c'] 25)) 25 itz
    rw [show (w.alloc (.cells #[.int .i64 L0, .slice A n c, .slice A' n' c'] 25)).heap.size = w.heap.size + 1 by simp] at h1
    exact h1
  have hsz : ((w.alloc (.cells #[.int .i64 L0, .slice A n c, .slice A' n' c'] 25)).alloc (.cells itz 25)).heap.size = w.heap.size + 2 := by simp
  have C0 := Lib.hid (playitem_any B m hm L0 A n c ops (.slice A' n' c') ((w.alloc (.cells #[.int .i64 L0, .slice A n c, .slice A' n' c'] 25)).alloc (.cells itz 25)) (hos.below (HW.out.mono hB)) (Nat.le_trans hB HW.out.size) hok)
  have HSZ := Lib.hid hsz
  have HNS := Lib.hid hns
  clear hos hns hok hsz
  go_enter Try.func11, Try.ntmps11
  go_wp2_with fail
  refine C0.out.mono ?_
  rintro e w1 ⟨L, lo, A1, n1, c1, rfl, hL1, hL2, hn1, ho1, hol, hb1⟩
  rw [HSZ.out] at ho1
  have HOL := Lib.hid hol
  have hp1 : w.heap.size + 1 < w1.heap.size := (HY.out.below hb1 HY.out.lt).lt
  have HM0 : Hid (MkSt w #[.int .i64 L0, .slice A n c, .slice A' n' c'] w1.heap.size L (.slice A1 n1 c1) n1 (ov lo) (.slice none 0 0) 0 (ntv []) (w1.alloc (.cells #[.int .i64 (L : Int), .slice A1 n1 c1, .slice none 0 0] 25))) :=
    ⟨(HX.out.below hb1 HX.out.lt).alloc _, (HY.out.below hb1 HY.out.lt).alloc _, Blk.new _ _ _, own_keep ho1 ((Below.refl _ _).alloc (Nat.le_refl _) _), World.ownsRow_nil _ _ _ _, (held_two HW.out hb1).alloc (by omega) _, hp1⟩
  generalize hpp : w1.heap.size = p at HM0 hp1
  clear hb1 ho1 hol HX HY HW C0 HSZ
  go_wp2_with fail
  try rw [hpp]
  generalize (w1.alloc (.cells #[.int .i64 (L : Int), .slice A1 n1 c1, .slice none 0 0] 25)) = W0 at HM0 ⊢
  clear hpp
  go_loopw [6] (fun i wr => SomeRel w #[.int .i64 L0, .slice A n c, .slice A' n' c'] p L n' (.slice A1 n1 c1) n1 (ov lo) i wr) (fun i _ => n' - (intOf i).toNat)
  case atStart => exact ⟨0, [], none, 0, by omega, by omega, rfl, (fun f hf => by cases hf), HM0.out⟩
  case round =>
    obtain ⟨k, pre, Ap, cp, hk, hk4, rfl, hall, hst⟩ := hrel
    have HA := Lib.hid hall
    have HM := Lib.hid hst
    have x2 : wr.cell? ⟨w.heap.size, 2, none⟩ = some (.slice A' n' c') := hst.1.cell 2
    have hz := hst.2.2.1.lt
    have hbz := hst.2.2.2.2.2.1.size
    clear hall hst HM0
    by_cases hgo : k < n' ∧ k < 4
    · obtain ⟨hlt, hlt4⟩ := hgo
      obtain ⟨b, off, f, rfl, hb, q0, q1, q2, q3, q4, q5, q6, hget, _⟩ := (HNS.out.below (HM.out.2.2.2.2.2.1.mono hB)).at_ hlt
      clear hget
      have l1 : (k : Int) < (n' : Int) := by omega
      have l2 : (k : Int) < 4 := by omega
      have hbw : b < wr.heap.size := by omega
      obtain ⟨f0, f1, f2, f3, f4, f5, f6⟩ := f
      dsimp only at q0 q1 q2 q3 q4 q5 q6
      have C2 := Lib.hid (fun w => mod_any f0 2 w (by omega) (by omega))
      have b2 := modZ_lt f0 (n := 2) (by omega)
      generalize modZ f0 2 = k0 at C2 b2
      have HNE : Hid ((Value.slice Ap k cp).ownBlock ≠ some wr.heap.size) := fun e => by have := (HM.out.2.2.2.2.1.lt _ e).2; omega
      go_wp2_with fail
      refine (C2.out _).mono ?_
      rintro e w2 ⟨rfl, rfl⟩
      have HS3 := Lib.hid (HM.out.new ((Below.refl _ _).alloc (Nat.le_refl _) (.cells #[.int .i64 f0, .int .i64 f1, .int .i64 f2, .int .i64 f3, .int .i64 f4, .int .i64 f5, .bool f6] 27)))
      have HY3 : Hid (Blk (wr.alloc (.cells #[.int .i64 f0, .int .i64 f1, .int .i64 f2, .int .i64 f3, .int .i64 f4, .int .i64 f5, .bool f6] 27)) wr.heap.size 27 #[.int .i64 f0, .int .i64 f1, .int .i64 f2, .int .i64 f3, .int .i64 f4, .int .i64 f5, .bool f6]) := Blk.new _ _ _
      generalize (wr.alloc (.cells #[.int .i64 f0, .int .i64 f1, .int .i64 f2, .int .i64 f3, .int .i64 f4, .int .i64 f5, .bool f6] 27)) = V at HS3 HY3 ⊢
      generalize wr.heap.size = s9 at HY3 hz hbz hbw HNE ⊢
      clear q0 q1 q2 q3 q4 q5 q6 x2
      have HS4 := Lib.hid (HS3.out.new (held_start V))
      have D1 := Lib.hid (fun w => mod_any f1 64 w (by omega) (by omega))
      have d1 := modZ_lt f1 (n := 64) (by omega)
      generalize modZ f1 64 = k1 at D1 d1
      have W1 : IntKind.i64.wrap (1 + (k1 : Int)) = 1 + (k1 : Int) := IntWalk.i64_in _ (by omega)
      have HHS : Hid (∀ wx : World, (Blk wx p 25 #[.int .i64 (L : Int), .slice A1 n1 c1, .slice Ap k cp] ∧ Blk wx s9 27 #[.int .i64 f0, .int .i64 f1, .int .i64 f2, .int .i64 f3, .int .i64 f4, .int .i64 f5, .bool f6]) → wx.cell? ⟨p, 0, none⟩ = some (.int .i64 (L : Int)) ∧ wx.cell? ⟨p, 2, none⟩ = some (.slice Ap k cp) ∧ wx.cell? ⟨s9, 1, none⟩ = some (.int .i64 f1) ∧ wx.cell? ⟨s9, 2, none⟩ = some (.int .i64 f2) ∧ wx.cell? ⟨s9, 3, none⟩ = some (.int .i64 f3) ∧ wx.cell? ⟨s9, 4, none⟩ = some (.int .i64 f4) ∧ wx.cell? ⟨s9, 5, none⟩ = some (.int .i64 f5) ∧ wx.cell? ⟨s9, 6, none⟩ = some (.bool f6)) :=
        fun wx h => ⟨h.1.cell 0, h.1.cell 2, h.2.cell 1, h.2.cell 2, h.2.cell 3, h.2.cell 4, h.2.cell 5, h.2.cell 6⟩
      by_cases hk0 : k0 = 0
      · have e0 : ((k0 : Int) == 0) = true := by simp; omega
        have D2 := Lib.hid (fun w => mod_any f2 8 w (by omega) (by omega))
        have d2 := modZ_lt f2 (n := 8) (by omega)
        generalize modZ f2 8 = k2 at D2 d2
        have D3 := Lib.hid (fun w => mod_any f3 8 w (by omega) (by omega))
        have d3 := modZ_lt f3 (n := 8) (by omega)
        generalize modZ f3 8 = k3 at D3 d3
        have D4 := Lib.hid (fun w => playbig_any f4 L w (by omega) (by omega))
        have d4 := bigZ_lt f4 (n := L) (by omega)
        generalize bigZ f4 L = k4 at D4 d4
        have W3 : IntKind.i64.wrap (1 + (k3 : Int)) = 1 + (k3 : Int) := IntWalk.i64_in _ (by omega)
        have W4 : IntKind.i64.wrap (1 + (k4 : Int)) = 1 + (k4 : Int) := IntWalk.i64_in _ (by omega)
        go_upto_region 7 with fail
        refine wp_region_last_at (S := fun wx => Blk wx p 25 #[.int .i64 (L : Int), .slice A1 n1 c1, .slice Ap k cp] ∧ Blk wx s9 27 #[.int .i64 f0, .int .i64 f1, .int .i64 f2, .int .i64 f3, .int .i64 f4, .int .i64 f5, .bool f6]) 23 _ rfl rfl (by kernel_rfl) (by kernel_rfl) (by kernel_rfl) ⟨HS3.out.2.2.1, HY3.out⟩ (fun hHeld => ?_)
        simp only [List.take_succ_cons, List.take_zero]
        refine wpAnyH_take (i := 0) (v := ?_) rfl (by kernel_rfl) (by kernel_rfl) (by kernel_rfl) (fun _ _ _ h => h) (Or.inl ⟨by rfl, ?_⟩) (by assumption) ?_
        rotate_left 1
        · (intro w hSw; (try dsimp only at hSw); obtain ⟨hs1, hs2, hs3, hs4, hs5, hs6, hs7, hs8⟩ := HHS.out _ hSw; go_simp; try with_reducible rfl)
        try simp only [Act.put, List.getElem_toArray, List.getElem_cons_succ, List.getElem_cons_zero, List.setIfInBounds_toArray, List.set_cons_zero, List.set_cons_succ]
        refine wpAnyH_take (i := 1) (v := ?_) rfl (by kernel_rfl) (by kernel_rfl) (by kernel_rfl) (fun _ _ _ h => h) (Or.inl ⟨by rfl, ?_⟩) (by assumption) ?_
        rotate_left 1
        · (intro w hSw; (try dsimp only at hSw); obtain ⟨hs1, hs2, hs3, hs4, hs5, hs6, hs7, hs8⟩ := HHS.out _ hSw; go_simp; try with_reducible rfl)
        try simp only [Act.put, List.getElem_toArray, List.getElem_cons_succ, List.getElem_cons_zero, List.setIfInBounds_toArray, List.set_cons_zero, List.set_cons_succ]
        refine wpAnyH_take (i := 2) (v := ?_) rfl (by kernel_rfl) (by kernel_rfl) (by kernel_rfl) (fun _ _ _ h => h) (Or.inl ⟨by rfl, ?_⟩) (by assumption) ?_
        rotate_left 1
        · (intro w hSw; (try dsimp only at hSw); obtain ⟨hs1, hs2, hs3, hs4, hs5, hs6, hs7, hs8⟩ := HHS.out _ hSw; go_simp; try with_reducible rfl)
        try simp only [Act.put, List.getElem_toArray, List.getElem_cons_succ, List.getElem_cons_zero, List.setIfInBounds_toArray, List.set_cons_zero, List.set_cons_succ]
        refine wpAnyH_take (i := 3) (v := ?_) rfl (by kernel_rfl) (by kernel_rfl) (by kernel_rfl) (fun _ _ _ h => h) (Or.inl ⟨by rfl, ?_⟩) (by assumption) ?_
        rotate_left 1
        · (intro w hSw; (try dsimp only at hSw); obtain ⟨hs1, hs2, hs3, hs4, hs5, hs6, hs7, hs8⟩ := HHS.out _ hSw; go_simp; try with_reducible rfl)
        try simp only [Act.put, List.getElem_toArray, List.getElem_cons_succ, List.getElem_cons_zero, List.setIfInBounds_toArray, List.set_cons_zero, List.set_cons_succ]
        refine wpAnyH_take (i := 6) (v := ?_) rfl (by kernel_rfl) (by kernel_rfl) (by kernel_rfl) (fun _ _ _ h => h) (Or.inl ⟨by rfl, ?_⟩) (by assumption) ?_
        rotate_left 1
        · (intro w hSw; (try dsimp only at hSw); obtain ⟨hs1, hs2, hs3, hs4, hs5, hs6, hs7, hs8⟩ := HHS.out _ hSw; go_simp; try with_reducible rfl)
        try simp only [Act.put, List.getElem_toArray, List.getElem_cons_succ, List.getElem_cons_zero, List.setIfInBounds_toArray, List.set_cons_zero, List.set_cons_succ]
        refine wpAnyH_take (i := 7) (v := ?_) rfl (by kernel_rfl) (by kernel_rfl) (by kernel_rfl) (fun _ _ _ h => h) (Or.inl ⟨by rfl, ?_⟩) (by assumption) ?_
        rotate_left 1
        · (intro w hSw; (try dsimp only at hSw); obtain ⟨hs1, hs2, hs3, hs4, hs5, hs6, hs7, hs8⟩ := HHS.out _ hSw; go_simp; try with_reducible rfl)
        try simp only [Act.put, List.getElem_toArray, List.getElem_cons_succ, List.getElem_cons_zero, List.setIfInBounds_toArray, List.set_cons_zero, List.set_cons_succ]
        refine wpAnyH_take (i := 9) (v := ?_) rfl (by kernel_rfl) (by kernel_rfl) (by kernel_rfl) (fun _ _ _ h => h) (Or.inl ⟨by rfl, ?_⟩) (by assumption) ?_
        rotate_left 1
        · (intro w hSw; (try dsimp only at hSw); obtain ⟨hs1, hs2, hs3, hs4, hs5, hs6, hs7, hs8⟩ := HHS.out _ hSw; go_simp; try with_reducible rfl)
        try simp only [Act.put, List.getElem_toArray, List.getElem_cons_succ, List.getElem_cons_zero, List.setIfInBounds_toArray, List.set_cons_zero, List.set_cons_succ]
        refine wpAnyH_take (i := 10) (v := ?_) rfl (by kernel_rfl) (by kernel_rfl) (by kernel_rfl) (fun _ _ _ h => h) (Or.inl ⟨by rfl, ?_⟩) (by assumption) ?_
        rotate_left 1
        · (intro w hSw; (try dsimp only at hSw); obtain ⟨hs1, hs2, hs3, hs4, hs5, hs6, hs7, hs8⟩ := HHS.out _ hSw; go_simp; try with_reducible rfl)
        try simp only [Act.put, List.getElem_toArray, List.getElem_cons_succ, List.getElem_cons_zero, List.setIfInBounds_toArray, List.set_cons_zero, List.set_cons_succ]
        refine wpAnyH_take (i := 13) (v := ?_) rfl (by kernel_rfl) (by kernel_rfl) (by kernel_rfl) (fun _ _ _ h => h) (Or.inl ⟨by rfl, ?_⟩) (by assumption) ?_
        rotate_left 1
        · (intro w hSw; (try dsimp only at hSw); obtain ⟨hs1, hs2, hs3, hs4, hs5, hs6, hs7, hs8⟩ := HHS.out _ hSw; go_simp; try with_reducible rfl)
        try simp only [Act.put, List.getElem_toArray, List.getElem_cons_succ, List.getElem_cons_zero, List.setIfInBounds_toArray, List.set_cons_zero, List.set_cons_succ]
        refine wpAnyH_take (i := 14) (v := ?_) rfl (by kernel_rfl) (by kernel_rfl) (by kernel_rfl) (fun _ _ _ h => h) (Or.inl ⟨by rfl, ?_⟩) (by assumption) ?_
        rotate_left 1
        · (intro w hSw; (try dsimp only at hSw); obtain ⟨hs1, hs2, hs3, hs4, hs5, hs6, hs7, hs8⟩ := HHS.out _ hSw; go_simp; try with_reducible rfl)
        try simp only [Act.put, List.getElem_toArray, List.getElem_cons_succ, List.getElem_cons_zero, List.setIfInBounds_toArray, List.set_cons_zero, List.set_cons_succ]
        refine wpAnyH_take (i := 15) (v := ?_) rfl (by kernel_rfl) (by kernel_rfl) (by kernel_rfl) (fun _ _ _ h => h) (Or.inl ⟨by rfl, ?_⟩) (by assumption) ?_
        rotate_left 1
        · (intro w hSw; (try dsimp only at hSw); obtain ⟨hs1, hs2, hs3, hs4, hs5, hs6, hs7, hs8⟩ := HHS.out _ hSw; go_simp; try with_reducible rfl)
        try simp only [Act.put, List.getElem_toArray, List.getElem_cons_succ, List.getElem_cons_zero, List.setIfInBounds_toArray, List.set_cons_zero, List.set_cons_succ]
        refine wpAnyH_take (i := 16) (v := ?_) rfl (by kernel_rfl) (by kernel_rfl) (by kernel_rfl) (fun _ _ _ h => h) (Or.inl ⟨by rfl, ?_⟩) (by assumption) ?_
        rotate_left 1
        · (intro w hSw; (try dsimp only at hSw); obtain ⟨hs1, hs2, hs3, hs4, hs5, hs6, hs7, hs8⟩ := HHS.out _ hSw; go_simp; try with_reducible rfl)
        try simp only [Act.put, List.getElem_toArray, List.getElem_cons_succ, List.getElem_cons_zero, List.setIfInBounds_toArray, List.set_cons_zero, List.set_cons_succ]
        refine wpAnyH_ready (rs := [4]) (by kernel_rfl) (by simp) ?_
        refine AllReadyH.cons rfl (fun K hK => ?_) AllReadyH.nil
        go_simp
        refine (D1.out _).mono ?_
        rintro e w5 ⟨rfl, rfl⟩
        refine hK.out _ _ (by assumption) (fun hHeld => ?_)
        clear hK K
        try simp only [Act.put, List.getElem_toArray, List.getElem_cons_succ, List.getElem_cons_zero, List.setIfInBounds_toArray, List.set_cons_zero, List.set_cons_succ]
        refine wpAnyH_take (i := 5) (v := ?_) rfl (by kernel_rfl) (by kernel_rfl) (by kernel_rfl) (fun _ _ _ h => h) (Or.inl ⟨by rfl, ?_⟩) (by assumption) ?_
        rotate_left 1
        · (intro w hSw; (try dsimp only at hSw); obtain ⟨hs1, hs2, hs3, hs4, hs5, hs6, hs7, hs8⟩ := HHS.out _ hSw; go_simp; try with_reducible rfl)
        try simp only [Act.put, List.getElem_toArray, List.getElem_cons_succ, List.getElem_cons_zero, List.setIfInBounds_toArray, List.set_cons_zero, List.set_cons_succ]
        try simp only [W1]
        refine wpAnyH_ready (rs := [8]) (by kernel_rfl) (by simp) ?_
        refine AllReadyH.cons rfl (fun K hK => ?_) AllReadyH.nil
        go_simp
        refine (D2.out _).mono ?_
        rintro e w5 ⟨rfl, rfl⟩
        refine hK.out _ _ (by assumption) (fun hHeld => ?_)
        clear hK K
        try simp only [Act.put, List.getElem_toArray, List.getElem_cons_succ, List.getElem_cons_zero, List.setIfInBounds_toArray, List.set_cons_zero, List.set_cons_succ]
        refine wpAnyH_ready (rs := [11]) (by kernel_rfl) (by simp) ?_
        refine AllReadyH.cons rfl (fun K hK => ?_) AllReadyH.nil
        go_simp
        refine (D3.out _).mono ?_
        rintro e w5 ⟨rfl, rfl⟩
        refine hK.out _ _ (by assumption) (fun hHeld => ?_)
        clear hK K
        try simp only [Act.put, List.getElem_toArray, List.getElem_cons_succ, List.getElem_cons_zero, List.setIfInBounds_toArray, List.set_cons_zero, List.set_cons_succ]
        refine wpAnyH_take (i := 12) (v := ?_) rfl (by kernel_rfl) (by kernel_rfl) (by kernel_rfl) (fun _ _ _ h => h) (Or.inl ⟨by rfl, ?_⟩) (by assumption) ?_
        rotate_left 1
        · (intro w hSw; (try dsimp only at hSw); obtain ⟨hs1, hs2, hs3, hs4, hs5, hs6, hs7, hs8⟩ := HHS.out _ hSw; go_simp; try with_reducible rfl)
        try simp only [Act.put, List.getElem_toArray, List.getElem_cons_succ, List.getElem_cons_zero, List.setIfInBounds_toArray, List.set_cons_zero, List.set_cons_succ]
        try simp only [W3]
        refine wpAnyH_ready (rs := [17]) (by kernel_rfl) (by simp) ?_
        refine AllReadyH.cons rfl (fun K hK => ?_) AllReadyH.nil
        go_simp
        refine (D4.out _).mono ?_
        rintro e w5 ⟨rfl, rfl⟩
        refine hK.out _ _ (by assumption) (fun hHeld => ?_)
        clear hK K
        try simp only [Act.put, List.getElem_toArray, List.getElem_cons_succ, List.getElem_cons_zero, List.setIfInBounds_toArray, List.set_cons_zero, List.set_cons_succ]
        refine wpAnyH_take (i := 18) (v := ?_) rfl (by kernel_rfl) (by kernel_rfl) (by kernel_rfl) (fun _ _ _ h => h) (Or.inl ⟨by rfl, ?_⟩) (by assumption) ?_
        rotate_left 1
        · (intro w hSw; (try dsimp only at hSw); obtain ⟨hs1, hs2, hs3, hs4, hs5, hs6, hs7, hs8⟩ := HHS.out _ hSw; go_simp; try with_reducible rfl)
        try simp only [Act.put, List.getElem_toArray, List.getElem_cons_succ, List.getElem_cons_zero, List.setIfInBounds_toArray, List.set_cons_zero, List.set_cons_succ]
        try simp only [W4]
        refine wpAnyH_take (i := 19) (v := ?_) rfl (by kernel_rfl) (by kernel_rfl) (by kernel_rfl) (fun _ _ _ h => h) (Or.inl ⟨by rfl, ?_⟩) (by assumption) ?_
        rotate_left 1
        · (intro w hSw; (try dsimp only at hSw); obtain ⟨hs1, hs2, hs3, hs4, hs5, hs6, hs7, hs8⟩ := HHS.out _ hSw; go_simp; try with_reducible rfl)
        try simp only [Act.put, List.getElem_toArray, List.getElem_cons_succ, List.getElem_cons_zero, List.setIfInBounds_toArray, List.set_cons_zero, List.set_cons_succ]
        refine wpAnyH_ready (rs := [20]) (by kernel_rfl) (by simp) ?_
        refine AllReadyH.cons rfl (fun K hK => ?_) AllReadyH.nil
        go_simp
        refine hK.out _ _ ⟨hHeld.1.alloc _, hHeld.2.alloc _⟩ (fun hHeld => ?_)
        clear hK K
        try simp only [Act.put, List.getElem_toArray, List.getElem_cons_succ, List.getElem_cons_zero, List.setIfInBounds_toArray, List.set_cons_zero, List.set_cons_succ]
        refine wpAnyH_ready (rs := [21]) (by kernel_rfl) (by simp) ?_
        refine AllReadyH.cons rfl (fun K hK => ?_) AllReadyH.nil
        have HS5 := Lib.hid (HS4.out.new ((Below.refl _ _).alloc (Nat.le_refl _) (.cells #[.int .i64 1, .int .i64 (1 + (k1 : Int)), .int .i64 k2, .int .i64 (1 + (k3 : Int)), .int .i64 (1 + (k4 : Int)), .int .i64 0, .bool false] 27)))
        have hzz : w.heap.size + 2 ≤ (V.drew.alloc (.cells #[.int .i64 1, .int .i64 (1 + (k1 : Int)), .int .i64 k2, .int .i64 (1 + (k3 : Int)), .int .i64 (1 + (k4 : Int)), .int .i64 0, .bool false] 27)).heap.size := Nat.le_trans HS5.out.2.2.2.2.2.2 (Nat.le_of_lt HS5.out.2.2.1.lt)
        refine step_append_row (by rfl) (.tmp 32) (.tmp 51) (by rfl) ntel (w.heap.size + 2) (.slice Ap k cp) k (ntv pre) (by rfl) HS5.out.2.2.2.2.1 _ _ 1 1 (ntv [⟨1, 1 + (k1 : Int), (k2 : Int), 1 + (k3 : Int), 1 + (k4 : Int), 0, false⟩]) (by rfl) (ntone _ ⟨1, 1 + (k1 : Int), (k2 : Int), 1 + (k3 : Int), 1 + (k4 : Int), 0, false⟩ (by rfl)) (ntv_one _) (by omega) (by omega) (by exact hzz) ?_
        intro A6 c6 w6 hown6 hg6 hb6
        rw [← ntv_append] at hown6
        have HMK := Lib.hid (HS5.out.nts hown6 hg6 hb6)
        have hbx := HS5.out.box4 hg6
        have j1 : w6.cell? ⟨p, 2, none⟩ = some (.slice Ap k cp) := hbx.cell 2
        have j1f := hbx.frozen 2
        refine hK.out _ _ ⟨hbx, hHeld.2.grown hg6.1 (fun e => HNE.out e.symm)⟩ (fun hHeld => ?_)
        clear hK K
        try simp only [Act.put, List.getElem_toArray, List.getElem_cons_succ, List.getElem_cons_zero, List.setIfInBounds_toArray, List.set_cons_zero, List.set_cons_succ]
        refine wpAnyH_take (i := 22) (v := ?_) rfl (by kernel_rfl) (by kernel_rfl) (by kernel_rfl) (fun _ _ _ h => h) (Or.inl ⟨by rfl, ?_⟩) (by assumption) ?_
        rotate_left 1
        · (intro w hSw; (try dsimp only at hSw); obtain ⟨hs1, hs2, hs3, hs4, hs5, hs6, hs7, hs8⟩ := HHS.out _ hSw; go_simp; try with_reducible rfl)
        try simp only [Act.put, List.getElem_toArray, List.getElem_cons_succ, List.getElem_cons_zero, List.setIfInBounds_toArray, List.set_cons_zero, List.set_cons_succ]
        refine wpAnyH_done (by kernel_rfl) ?_ _
        refine then_normal rfl ?_
        have HOM : Hid (ntMay L ⟨1, 1 + (k1 : Int), (k2 : Int), 1 + (k3 : Int), 1 + (k4 : Int), 0, false⟩ = true) := by
          show _ = _
          rw [nt_accept (by omega) (by omega) (by omega)]
          unfold reqMay
          rw [decide_eq_true (by omega), decide_eq_true (by omega), decide_eq_true (by omega), decide_eq_true (by omega), decide_eq_true (by omega), decide_eq_true (by omega), decide_eq_true (by omega)]
          rfl
        clear hHeld hbx
        go_wp2
        go_roundw
        case rel => exact ⟨k + 1, pre ++ [⟨1, 1 + (k1 : Int), (k2 : Int), 1 + (k3 : Int), 1 + (k4 : Int), 0, false⟩], A6, c6, by omega, by omega, by go_num, all_snoc HA.out HOM.out, HMK.out⟩
        case measure => simp [intOf]; omega
      · have e0 : ((k0 : Int) == 0) = false := by simp; omega
        have D5 := Lib.hid (fun w => playbig_any f5 1099511627777 w (by omega) (by omega))
        have d5 := bigZ_lt f5 (n := 1099511627777) (by omega)
        generalize bigZ f5 1099511627777 = k5 at D5 d5
        go_upto_region 8 with fail
        refine wp_region_last_at (S := fun wx => Blk wx p 25 #[.int .i64 (L : Int), .slice A1 n1 c1, .slice Ap k cp] ∧ Blk wx s9 27 #[.int .i64 f0, .int .i64 f1, .int .i64 f2, .int .i64 f3, .int .i64 f4, .int .i64 f5, .bool f6]) 15 _ rfl rfl (by kernel_rfl) (by kernel_rfl) (by kernel_rfl) ⟨HS3.out.2.2.1, HY3.out⟩ (fun hHeld => ?_)
        simp only [List.take_succ_cons, List.take_zero]
        refine wpAnyH_take (i := 0) (v := ?_) rfl (by kernel_rfl) (by kernel_rfl) (by kernel_rfl) (fun _ _ _ h => h) (Or.inl ⟨by rfl, ?_⟩) (by assumption) ?_
        rotate_left 1
        · (intro w hSw; (try dsimp only at hSw); obtain ⟨hs1, hs2, hs3, hs4, hs5, hs6, hs7, hs8⟩ := HHS.out _ hSw; go_simp; try with_reducible rfl)
        try simp only [Act.put, List.getElem_toArray, List.getElem_cons_succ, List.getElem_cons_zero, List.setIfInBounds_toArray, List.set_cons_zero, List.set_cons_succ]
        refine wpAnyH_take (i := 1) (v := ?_) rfl (by kernel_rfl) (by kernel_rfl) (by kernel_rfl) (fun _ _ _ h => h) (Or.inl ⟨by rfl, ?_⟩) (by assumption) ?_
        rotate_left 1
        · (intro w hSw; (try dsimp only at hSw); obtain ⟨hs1, hs2, hs3, hs4, hs5, hs6, hs7, hs8⟩ := HHS.out _ hSw; go_simp; try with_reducible rfl)
        try simp only [Act.put, List.getElem_toArray, List.getElem_cons_succ, List.getElem_cons_zero, List.setIfInBounds_toArray, List.set_cons_zero, List.set_cons_succ]
        refine wpAnyH_take (i := 2) (v := ?_) rfl (by kernel_rfl) (by kernel_rfl) (by kernel_rfl) (fun _ _ _ h => h) (Or.inl ⟨by rfl, ?_⟩) (by assumption) ?_
        rotate_left 1
        · (intro w hSw; (try dsimp only at hSw); obtain ⟨hs1, hs2, hs3, hs4, hs5, hs6, hs7, hs8⟩ := HHS.out _ hSw; go_simp; try with_reducible rfl)
        try simp only [Act.put, List.getElem_toArray, List.getElem_cons_succ, List.getElem_cons_zero, List.setIfInBounds_toArray, List.set_cons_zero, List.set_cons_succ]
        refine wpAnyH_take (i := 3) (v := ?_) rfl (by kernel_rfl) (by kernel_rfl) (by kernel_rfl) (fun _ _ _ h => h) (Or.inl ⟨by rfl, ?_⟩) (by assumption) ?_
        rotate_left 1
        · (intro w hSw; (try dsimp only at hSw); obtain ⟨hs1, hs2, hs3, hs4, hs5, hs6, hs7, hs8⟩ := HHS.out _ hSw; go_simp; try with_reducible rfl)
        try simp only [Act.put, List.getElem_toArray, List.getElem_cons_succ, List.getElem_cons_zero, List.setIfInBounds_toArray, List.set_cons_zero, List.set_cons_succ]
        refine wpAnyH_take (i := 6) (v := ?_) rfl (by kernel_rfl) (by kernel_rfl) (by kernel_rfl) (fun _ _ _ h => h) (Or.inl ⟨by rfl, ?_⟩) (by assumption) ?_
        rotate_left 1
        · (intro w hSw; (try dsimp only at hSw); obtain ⟨hs1, hs2, hs3, hs4, hs5, hs6, hs7, hs8⟩ := HHS.out _ hSw; go_simp; try with_reducible rfl)
        try simp only [Act.put, List.getElem_toArray, List.getElem_cons_succ, List.getElem_cons_zero, List.setIfInBounds_toArray, List.set_cons_zero, List.set_cons_succ]
        refine wpAnyH_take (i := 7) (v := ?_) rfl (by kernel_rfl) (by kernel_rfl) (by kernel_rfl) (fun _ _ _ h => h) (Or.inl ⟨by rfl, ?_⟩) (by assumption) ?_
        rotate_left 1
        · (intro w hSw; (try dsimp only at hSw); obtain ⟨hs1, hs2, hs3, hs4, hs5, hs6, hs7, hs8⟩ := HHS.out _ hSw; go_simp; try with_reducible rfl)
        try simp only [Act.put, List.getElem_toArray, List.getElem_cons_succ, List.getElem_cons_zero, List.setIfInBounds_toArray, List.set_cons_zero, List.set_cons_succ]
        refine wpAnyH_take (i := 9) (v := ?_) rfl (by kernel_rfl) (by kernel_rfl) (by kernel_rfl) (fun _ _ _ h => h) (Or.inl ⟨by rfl, ?_⟩) (by assumption) ?_
        rotate_left 1
        · (intro w hSw; (try dsimp only at hSw); obtain ⟨hs1, hs2, hs3, hs4, hs5, hs6, hs7, hs8⟩ := HHS.out _ hSw; go_simp; try with_reducible rfl)
        try simp only [Act.put, List.getElem_toArray, List.getElem_cons_succ, List.getElem_cons_zero, List.setIfInBounds_toArray, List.set_cons_zero, List.set_cons_succ]
        refine wpAnyH_take (i := 10) (v := ?_) rfl (by kernel_rfl) (by kernel_rfl) (by kernel_rfl) (fun _ _ _ h => h) (Or.inl ⟨by rfl, ?_⟩) (by assumption) ?_
        rotate_left 1
        · (intro w hSw; (try dsimp only at hSw); obtain ⟨hs1, hs2, hs3, hs4, hs5, hs6, hs7, hs8⟩ := HHS.out _ hSw; go_simp; try with_reducible rfl)
        try simp only [Act.put, List.getElem_toArray, List.getElem_cons_succ, List.getElem_cons_zero, List.setIfInBounds_toArray, List.set_cons_zero, List.set_cons_succ]
        refine wpAnyH_ready (rs := [4]) (by kernel_rfl) (by simp) ?_
        refine AllReadyH.cons rfl (fun K hK => ?_) AllReadyH.nil
        go_simp
        refine (D1.out _).mono ?_
        rintro e w5 ⟨rfl, rfl⟩
        refine hK.out _ _ (by assumption) (fun hHeld => ?_)
        clear hK K
        try simp only [Act.put, List.getElem_toArray, List.getElem_cons_succ, List.getElem_cons_zero, List.setIfInBounds_toArray, List.set_cons_zero, List.set_cons_succ]
        refine wpAnyH_take (i := 5) (v := ?_) rfl (by kernel_rfl) (by kernel_rfl) (by kernel_rfl) (fun _ _ _ h => h) (Or.inl ⟨by rfl, ?_⟩) (by assumption) ?_
        rotate_left 1
        · (intro w hSw; (try dsimp only at hSw); obtain ⟨hs1, hs2, hs3, hs4, hs5, hs6, hs7, hs8⟩ := HHS.out _ hSw; go_simp; try with_reducible rfl)
        try simp only [Act.put, List.getElem_toArray, List.getElem_cons_succ, List.getElem_cons_zero, List.setIfInBounds_toArray, List.set_cons_zero, List.set_cons_succ]
        try simp only [W1]
        refine wpAnyH_ready (rs := [8]) (by kernel_rfl) (by simp) ?_
        refine AllReadyH.cons rfl (fun K hK => ?_) AllReadyH.nil
        go_simp
        refine (D5.out _).mono ?_
        rintro e w5 ⟨rfl, rfl⟩
        refine hK.out _ _ (by assumption) (fun hHeld => ?_)
        clear hK K
        try simp only [Act.put, List.getElem_toArray, List.getElem_cons_succ, List.getElem_cons_zero, List.setIfInBounds_toArray, List.set_cons_zero, List.set_cons_succ]
        refine wpAnyH_take (i := 11) (v := ?_) rfl (by kernel_rfl) (by kernel_rfl) (by kernel_rfl) (fun _ _ _ h => h) (Or.inl ⟨by rfl, ?_⟩) (by assumption) ?_
        rotate_left 1
        · (intro w hSw; (try dsimp only at hSw); obtain ⟨hs1, hs2, hs3, hs4, hs5, hs6, hs7, hs8⟩ := HHS.out _ hSw; go_simp; try with_reducible rfl)
        try simp only [Act.put, List.getElem_toArray, List.getElem_cons_succ, List.getElem_cons_zero, List.setIfInBounds_toArray, List.set_cons_zero, List.set_cons_succ]
        refine wpAnyH_ready (rs := [12]) (by kernel_rfl) (by simp) ?_
        refine AllReadyH.cons rfl (fun K hK => ?_) AllReadyH.nil
        go_simp
        refine hK.out _ _ ⟨hHeld.1.alloc _, hHeld.2.alloc _⟩ (fun hHeld => ?_)
        clear hK K
        try simp only [Act.put, List.getElem_toArray, List.getElem_cons_succ, List.getElem_cons_zero, List.setIfInBounds_toArray, List.set_cons_zero, List.set_cons_succ]
        refine wpAnyH_ready (rs := [13]) (by kernel_rfl) (by simp) ?_
        refine AllReadyH.cons rfl (fun K hK => ?_) AllReadyH.nil
        have HS5 := Lib.hid (HS4.out.new ((Below.refl _ _).alloc (Nat.le_refl _) (.cells #[.int .i64 2, .int .i64 (1 + (k1 : Int)), .int .i64 0, .int .i64 0, .int .i64 0, .int .i64 k5, .bool f6] 27)))
        have hzz : w.heap.size + 2 ≤ (V.drew.alloc (.cells #[.int .i64 2, .int .i64 (1 + (k1 : Int)), .int .i64 0, .int .i64 0, .int .i64 0, .int .i64 k5, .bool f6] 27)).heap.size := Nat.le_trans HS5.out.2.2.2.2.2.2 (Nat.le_of_lt HS5.out.2.2.1.lt)
        refine step_append_row (by rfl) (.tmp 55) (.tmp 66) (by rfl) ntel (w.heap.size + 2) (.slice Ap k cp) k (ntv pre) (by rfl) HS5.out.2.2.2.2.1 _ _ 1 1 (ntv [⟨2, 1 + (k1 : Int), 0, 0, 0, (k5 : Int), f6⟩]) (by rfl) (ntone _ ⟨2, 1 + (k1 : Int), 0, 0, 0, (k5 : Int), f6⟩ (by rfl)) (ntv_one _) (by omega) (by omega) (by exact hzz) ?_
        intro A6 c6 w6 hown6 hg6 hb6
        rw [← ntv_append] at hown6
        have HMK := Lib.hid (HS5.out.nts hown6 hg6 hb6)
        have hbx := HS5.out.box4 hg6
        have j1 : w6.cell? ⟨p, 2, none⟩ = some (.slice Ap k cp) := hbx.cell 2
        have j1f := hbx.frozen 2
        refine hK.out _ _ ⟨hbx, hHeld.2.grown hg6.1 (fun e => HNE.out e.symm)⟩ (fun hHeld => ?_)
        clear hK K
        try simp only [Act.put, List.getElem_toArray, List.getElem_cons_succ, List.getElem_cons_zero, List.setIfInBounds_toArray, List.set_cons_zero, List.set_cons_succ]
        refine wpAnyH_take (i := 14) (v := ?_) rfl (by kernel_rfl) (by kernel_rfl) (by kernel_rfl) (fun _ _ _ h => h) (Or.inl ⟨by rfl, ?_⟩) (by assumption) ?_
        rotate_left 1
        · (intro w hSw; (try dsimp only at hSw); obtain ⟨hs1, hs2, hs3, hs4, hs5, hs6, hs7, hs8⟩ := HHS.out _ hSw; go_simp; try with_reducible rfl)
        try simp only [Act.put, List.getElem_toArray, List.getElem_cons_succ, List.getElem_cons_zero, List.setIfInBounds_toArray, List.set_cons_zero, List.set_cons_succ]
        refine wpAnyH_done (by kernel_rfl) ?_ _
        refine then_normal rfl ?_
        have HOM : Hid (ntMay L ⟨2, 1 + (k1 : Int), 0, 0, 0, (k5 : Int), f6⟩ = true) := by
          show _ = _
          rw [nt_chunk (by omega) (by omega), decide_eq_true (by omega), decide_eq_true (by omega)]
          rfl
        clear hHeld hbx
        go_wp2
        go_roundw
        case rel => exact ⟨k + 1, pre ++ [⟨2, 1 + (k1 : Int), 0, 0, 0, (k5 : Int), f6⟩], A6, c6, by omega, by omega, by go_num, all_snoc HA.out HOM.out, HMK.out⟩
        case measure => simp [intOf]; omega
    · have p0 : wr.cell? ⟨p, 0, none⟩ = some (.int .i64 (L : Int)) := HM.out.2.2.1.cell 0
      have p1 : wr.cell? ⟨p, 1, none⟩ = some (.slice A1 n1 c1) := HM.out.2.2.1.cell 1
      have p2 : wr.cell? ⟨p, 2, none⟩ = some (.slice Ap k cp) := HM.out.2.2.1.cell 2
      have q0 : wr.cell? ⟨w.heap.size + 1, 0, none⟩ = some (.int .i64 0) := HM.out.2.1.cell 0
      have q1 : wr.cell? ⟨w.heap.size + 1, 1, none⟩ = some (.slice none 0 0) := HM.out.2.1.cell 1
      have q2 : wr.cell? ⟨w.heap.size + 1, 2, none⟩ = some (.slice none 0 0) := HM.out.2.1.cell 2
      have r0 := HM.out.2.1.frozen 0
      have r1 := HM.out.2.1.frozen 1
      have r2 := HM.out.2.1.frozen 2
      have hol : lo.length = n1 := by have := HM.out.2.2.2.1.1; rw [ov_length] at this; omega
      have hpl : pre.length = k := by have := HM.out.2.2.2.2.1.1; rw [ntv_length] at this; omega
      have HFIN : Hid (MadeI m w (.returned (itv (L : Int) A1 n1 c1 Ap k cp)) (((wr.setCell ⟨w.heap.size + 1, 0, none⟩ (.int .i64 (L : Int))).setCell ⟨w.heap.size + 1, 1, none⟩ (.slice A1 n1 c1)).setCell ⟨w.heap.size + 1, 2, none⟩ (.slice Ap k cp))) := by
        have hon := three_on wr (w.heap.size + 1) (.int .i64 (L : Int)) (.slice A1 n1 c1) (.slice Ap k cp)
        exact ⟨⟨(L : Int), lo, pre⟩, A1, n1, c1, Ap, k, cp, rfl, ⟨by dsimp only; omega, by dsimp only; omega, by dsimp only; omega, by dsimp only; omega, HOL.out, HA.out⟩, ⟨own_mono (HM.out.2.2.2.1.kept hon (.inr (own_ne HM.out.2.2.2.1 HM.out.2.1 (by decide)))) (by omega), own_mono (HM.out.2.2.2.2.1.kept hon (.inr (own_ne HM.out.2.2.2.2.1 HM.out.2.1 (by decide)))) (by omega)⟩, ((HM.out.2.2.2.2.2.1.setCell (by simp) _).setCell (by simp) _).setCell (by simp) _⟩
      have hkk : (¬ k < n') ∨ (k < n' ∧ ¬ k < 4) := by omega
      clear hgo hol hpl
      rcases hkk with hkk | ⟨hkk, hkk2⟩
      · have l1 : ¬ (k : Int) < (n' : Int) := by omega
        go_wp2
        refine bodyPost_ret (v := itv (L : Int) A1 n1 c1 Ap k cp) (by simp [itv, results, Try.results11, go_sem, q0, q1, q2]) rfl ?_
        exact HFIN.out
      · have l1 : (k : Int) < (n' : Int) := by omega
        have l2 : ¬ (k : Int) < 4 := by omega
        go_wp2
        refine bodyPost_ret (v := itv (L : Int) A1 n1 c1 Ap k cp) (by simp [itv, results, Try.results11, go_sem, q0, q1, q2]) rfl ?_
        exact HFIN.out
end Go.Proofs.Ytlkjmdkmcaaihaa.Bt
