/-
  Contract of how the statements make an item that may be, of any one, with notes (some).
-/
import Derived.Test.YtlkjmdkmcaaihaaBtMade
namespace Go.Proofs.Ytlkjmdkmcaaihaa.Bt
set_option linter.unusedVariables false
set_option maxRecDepth 100000
open Go.RowKit Base FieldMath TxnMath BatchMath Last
open GuardMath (Gp noGp)
open Gd (Gps ov ov_append ov_one ov_length ocells oval oel oone)
open Go.Proofs.Ytlkjmdkmcaaihaa.Field (ret_bool modZ modZ_lt mod_any bigZ bigZ_lt playbig_any)
set_option linter.ambiguousOpen false
set_option linter.unusedSimpArgs false

/-- an item that may be, behind number m -/
structure Made (m : Nat) (x : It) : Prop where
  low : (m : Int) + 1 ≤ x.lsn
  high : x.lsn ≤ (m : Int) + 3
  ops : x.ops.length ≤ 5
  notes : x.notes.length ≤ 4
  op : ∀ o ∈ x.ops, opMay x.lsn o = true
  nt : ∀ n ∈ x.notes, ntMay x.lsn n = true
theorem Made.may {m : Nat} {x : It} (h : Made m x) (hm : m ≤ 1099511627770) : may x = true :=
  may_iff.2 ⟨by have := h.low; have := h.high; omega, by have := h.ops; omega, by have := h.notes; omega, h.op, h.nt⟩
def MadeI (m : Nat) (w : World) (e : Ending) (w' : World) : Prop := ∃ (x : It) (A : Option Addr) (n c : Nat) (A' : Option Addr) (n' c' : Nat), e = .returned (itv x.lsn A n c A' n' c') ∧ Made m x ∧ ItOwn w' w.heap.size x A n c A' n' c' ∧ Below w.heap.size w w'
def SomeRel (w : World) (raw : Array Value) (p L n : Nat) (v3 : Value) (n3 : Nat) (xs : List Value) (i : Value) (wr : World) : Prop := ∃ (k : Nat) (l : List Nt) (A : Option Addr) (c : Nat), k ≤ n ∧ k ≤ 4 ∧ i = .int .i64 k ∧ (∀ x ∈ l, ntMay L x = true) ∧ MkSt w raw p L v3 n3 xs (.slice A k c) k (ntv l) wr
set_option maxHeartbeats 12800000 in
theorem some_any (B m : Nat) (hm : m ≤ 1099511627770) (x : It) (v : Value) (w : World) (h : ItIn w B x v) (hB : B ≤ w.heap.size) (hok : ∀ o ∈ x.ops, o.val.size ≤ 9223372036854775807) :
    Calls Try.prog 11 #[v, .int .i64 m] w (MadeI m w) := by
  obtain ⟨A, n, c, A', n', c', rfl, hos, hns⟩ := h
  obtain ⟨L0, ops, nts⟩ := x
  unfold itv
  dsimp only at hos hns hok ⊢
  have hle := hos.le
  have hle' := hns.le
  have HW : Hid (Below w.heap.size w ((w.alloc (.cells #[.int .i64 L0, .slice A n c, .slice A' n' c'] 25)).alloc (.cells itz 25))) := ((Below.refl _ _).alloc (Nat.le_refl _) _).alloc (by simp) _
  have HX : Hid (Blk ((w.alloc (.cells #[.int .i64 L0, .slice A n c, .slice A' n' c'] 25)).alloc (.cells itz 25)) w.heap.size 25 #[.int .i64 L0, .slice A n c, .slice A' n' c']) := (Blk.new _ _ _).alloc _
  have HY : Hid (Blk ((w.alloc (.cells #[.int .i64 L0, .slice A n c, .slice A' n' c'] 25)).alloc (.cells itz 25)) (w.heap.size + 1) 25 itz) := by
    have h1 := Blk.new (w.alloc (.cells #[.int .i64 L0, .slice A n c, .slice A' n' c'] 25)) 25 itz
    rw [show (w.alloc (.cells #[.int .i64 L0, .slice A n c, .slice A' n' c'] 25)).heap.size = w.heap.size + 1 by simp] at h1
    exact h1
  have hsz : ((w.alloc (.cells #[.int .i64 L0, .slice A n c, .slice A' n' c'] 25)).alloc (.cells itz 25)).heap.size = w.heap.size + 2 := by simp
  have C0 := Lib.hid (playitem_any B m hm L0 A n c ops (.slice A' n' c') ((w.alloc (.cells #[.int .i64 L0, .slice A n c, .slice A' n' c'] 25)).alloc (.cells itz 25)) (hos.below (HW.out.mono hB)) (Nat.le_trans hB HW.out.size) hok)
  have HSZ := Lib.hid hsz
  have HNS := Lib.hid hns
  clear hos hns hok hsz
  go_enter Try.func11, Try.ntmps11
  go_wp2_with fail
  refine C0.out.mono ?_
  rintro e w1 ⟨L, lo, A1, n1, c1, rfl, hL1, hL2, hn1, ho1, hol, hb1⟩
  rw [HSZ.out] at ho1
  have HOL := Lib.hid hol
  have hp1 : w.heap.size + 1 < w1.heap.size := (HY.out.below hb1 HY.out.lt).lt
  have HM0 : Hid (MkSt w #[.int .i64 L0, .slice A n c, .slice A' n' c'] w1.heap.size L (.slice A1 n1 c1) n1 (ov lo) (.slice none 0 0) 0 (ntv []) (w1.alloc (.cells #[.int .i64 (L : Int), .slice A1 n1 c1, .slice none 0 0] 25))) :=
    ⟨(HX.out.below hb1 HX.out.lt).alloc _, (HY.out.below hb1 HY.out.lt).alloc _, Blk.new _ _ _, own_keep ho1 ((Below.refl _ _).alloc (Nat.le_refl _) _), World.ownsRow_nil _ _ _ _, (held_two HW.out hb1).alloc (by omega) _, hp1⟩
  generalize hpp : w1.heap.size = p at HM0 hp1
  clear hb1 ho1 hol HX HY HW C0 HSZ
  go_wp2_with fail
  try rw [hpp]
  generalize (w1.alloc (.cells #[.int .i64 (L : Int), .slice A1 n1 c1, .slice none 0 0] 25)) = W0 at HM0 ⊢
  clear hpp
  go_loopw [6] (fun i wr => SomeRel w #[.int .i64 L0, .slice A n c, .slice A' n' c'] p L n' (.slice A1 n1 c1) n1 (ov lo) i wr) (fun i _ => n' - (intOf i).toNat)
  case atStart => exact ⟨0, [], none, 0, by omega, by omega, rfl, (fun f hf => by cases hf), HM0.out⟩
  case round =>
    obtain ⟨k, pre, Ap, cp, hk, hk4, rfl, hall, hst⟩ := hrel
    have HA := Lib.hid hall
    have HM := Lib.hid hst
    have x2 : wr.cell? ⟨w.heap.size, 2, none⟩ = some (.slice A' n' c') := hst.1.cell 2
    have hz := hst.2.2.1.lt
    have hbz := hst.2.2.2.2.2.1.size
    clear hall hst HM0
    by_cases hgo : k < n' ∧ k < 4
    · obtain ⟨hlt, hlt4⟩ := hgo
      obtain ⟨b, off, f, rfl, hb, q0, q1, q2, q3, q4, q5, q6, hget, _⟩ := (HNS.out.below (HM.out.2.2.2.2.2.1.mono hB)).at_ hlt
      clear hget
      have l1 : (k : Int) < (n' : Int) := by omega
      have l2 : (k : Int) < 4 := by omega
      have hbw : b < wr.heap.size := by omega
      obtain ⟨f0, f1, f2, f3, f4, f5, f6⟩ := f
      dsimp only at q0 q1 q2 q3 q4 q5 q6
      have C2 := Lib.hid (fun w => mod_any f0 2 w (by omega) (by omega))
      have b2 := modZ_lt f0 (n := 2) (by omega)
      generalize modZ f0 2 = k0 at C2 b2
      have HNE : Hid ((Value.slice Ap k cp).ownBlock ≠ some wr.heap.size) := fun e => by have := (HM.out.2.2.2.2.1.lt _ e).2; omega
      go_wp2_with fail
      refine (C2.out _).mono ?_
      rintro e w2 ⟨rfl, rfl⟩
      have HS3 := Lib.hid (HM.out.new ((Below.refl _ _).alloc (Nat.le_refl _) (.cells #[.int .i64 f0, .int .i64 f1, .int .i64 f2, .int .i64 f3, .int .i64 f4, .int .i64 f5, .bool f6] 27)))
      have HY3 : Hid (Blk (wr.alloc (.cells #[.int .i64 f0, .int .i64 f1, .int .i64 f2, .int .i64 f3, .int .i64 f4, .int .i64 f5, .bool f6] 27)) wr.heap.size 27 #[.int .i64 f0, .int .i64 f1, .int .i64 f2, .int .i64 f3, .int .i64 f4, .int .i64 f5, .bool f6]) := Blk.new _ _ _
      generalize (wr.alloc (.cells #[.int .i64 f0, .int .i64 f1, .int .i64 f2, .int .i64 f3, .int .i64 f4, .int .i64 f5, .bool f6] 27)) = V at HS3 HY3 ⊢
      generalize wr.heap.size = s9 at HY3 hz hbz hbw HNE ⊢
      clear q0 q1 q2 q3 q4 q5 q6 x2
      have HS4 := Lib.hid (HS3.out.new (held_start V))
      have D1 := Lib.hid (fun w => mod_any f1 64 w (by omega) (by omega))
      have d1 := modZ_lt f1 (n := 64) (by omega)
      generalize modZ f1 64 = k1 at D1 d1
      have W1 : IntKind.i64.wrap (1 + (k1 : Int)) = 1 + (k1 : Int) := IntWalk.i64_in _ (by omega)
      have HHS : Hid (∀ wx : World, (Blk wx p 25 #[.int .i64 (L : Int), .slice A1 n1 c1, .slice Ap k cp] ∧ Blk wx s9 27 #[.int .i64 f0, .int .i64 f1, .int .i64 f2, .int .i64 f3, .int .i64 f4, .int .i64 f5, .bool f6]) → wx.cell? ⟨p, 0, none⟩ = some (.int .i64 (L : Int)) ∧ wx.cell? ⟨p, 2, none⟩ = some (.slice Ap k cp) ∧ wx.cell? ⟨s9, 1, none⟩ = some (.int .i64 f1) ∧ wx.cell? ⟨s9, 2, none⟩ = some (.int .i64 f2) ∧ wx.cell? ⟨s9, 3, none⟩ = some (.int .i64 f3) ∧ wx.cell? ⟨s9, 4, none⟩ = some (.int .i64 f4) ∧ wx.cell? ⟨s9, 5, none⟩ = some (.int .i64 f5) ∧ wx.cell? ⟨s9, 6, none⟩ = some (.bool f6)) :=
        fun wx h => ⟨h.1.cell 0, h.1.cell 2, h.2.cell 1, h.2.cell 2, h.2.cell 3, h.2.cell 4, h.2.cell 5, h.2.cell 6⟩
      by_cases hk0 : k0 = 0
      · have e0 : ((k0 : Int) == 0) = true := by simp; omega
        have D2 := Lib.hid (fun w => mod_any f2 8 w (by omega) (by omega))
        have d2 := modZ_lt f2 (n := 8) (by omega)
        generalize modZ f2 8 = k2 at D2 d2
        have D3 := Lib.hid (fun w => mod_any f3 8 w (by omega) (by omega))
        have d3 := modZ_lt f3 (n := 8) (by omega)
        generalize modZ f3 8 = k3 at D3 d3
        have D4 := Lib.hid (fun w => playbig_any f4 L w (by omega) (by omega))
        have d4 := bigZ_lt f4 (n := L) (by omega)
        generalize bigZ f4 L = k4 at D4 d4
        have W3 : IntKind.i64.wrap (1 + (k3 : Int)) = 1 + (k3 : Int) := IntWalk.i64_in _ (by omega)
        have W4 : IntKind.i64.wrap (1 + (k4 : Int)) = 1 + (k4 : Int) := IntWalk.i64_in _ (by omega)
        go_upto_region 7 with fail
        refine wp_region_last_at (S := fun wx => Blk wx p 25 #[.int .i64 (L : Int), .slice A1 n1 c1, .slice Ap k cp] ∧ Blk wx s9 27 #[.int .i64 f0, .int .i64 f1, .int .i64 f2, .int .i64 f3, .int .i64 f4, .int .i64 f5, .bool f6]) 23 _ rfl rfl (by kernel_rfl) (by kernel_rfl) (by kernel_rfl) ⟨HS3.out.2.2.1, HY3.out⟩ (fun hHeld => ?_)
        simp only [List.take_succ_cons, List.take_zero]
        refine wpAnyH_take (i := 0) (v := ?_) rfl (by kernel_rfl) (by kernel_rfl) (by kernel_rfl) (fun _ _ _ h => h) (Or.inl ⟨by rfl, ?_⟩) (by assumption) ?_
        rotate_left 1
        · (intro w hSw; (try dsimp only at hSw); obtain ⟨hs1, hs2, hs3, hs4, hs5, hs6, hs7, hs8⟩ := HHS.out _ hSw; go_simp; try with_reducible rfl)
        try simp only [Act.put, List.getElem_toArray, List.getElem_cons_succ, List.getElem_cons_zero, List.setIfInBounds_toArray, List.set_cons_zero, List.set_cons_succ]
        refine wpAnyH_take (i := 1) (v := ?_) rfl (by kernel_rfl) (by kernel_rfl) (by kernel_rfl) (fun _ _ _ h => h) (Or.inl ⟨by rfl, ?_⟩) (by assumption) ?_
        rotate_left 1
        · (intro w hSw; (try dsimp only at hSw); obtain ⟨hs1, hs2, hs3, hs4, hs5, hs6, hs7, hs8⟩ := HHS.out _ hSw; go_simp; try with_reducible rfl)
        try simp only [Act.put, List.getElem_toArray, List.getElem_cons_succ, List.getElem_cons_zero, List.setIfInBounds_toArray, List.set_cons_zero, List.set_cons_succ]
        refine wpAnyH_take (i := 2) (v := ?_) rfl (by kernel_rfl) (by kernel_rfl) (by kernel_rfl) (fun _ _ _ h => h) (Or.inl ⟨by rfl, ?_⟩) (by assumption) ?_
        rotate_left 1
        · (intro w hSw; (try dsimp only at hSw); obtain ⟨hs1, hs2, hs3, hs4, hs5, hs6, hs7, hs8⟩ := HHS.out _ hSw; go_simp; try with_reducible rfl)
        try simp only [Act.put, List.getElem_toArray, List.getElem_cons_succ, List.getElem_cons_zero, List.setIfInBounds_toArray, List.set_cons_zero, List.set_cons_succ]
        refine wpAnyH_take (i := 3) (v := ?_) rfl (by kernel_rfl) (by kernel_rfl) (by kernel_rfl) (fun _ _ _ h => h) (Or.inl ⟨by rfl, ?_⟩) (by assumption) ?_
        rotate_left 1
        · (intro w hSw; (try dsimp only at hSw); obtain ⟨hs1, hs2, hs3, hs4, hs5, hs6, hs7, hs8⟩ := HHS.out _ hSw; go_simp; try with_reducible rfl)
        try simp only [Act.put, List.getElem_toArray, List.getElem_cons_succ, List.getElem_cons_zero, List.setIfInBounds_toArray, List.set_cons_zero, List.set_cons_succ]
        refine wpAnyH_take (i := 6) (v := ?_) rfl (by kernel_rfl) (by kernel_rfl) (by kernel_rfl) (fun _ _ _ h => h) (Or.inl ⟨by rfl, ?_⟩) (by assumption) ?_
        rotate_left 1
        · (intro w hSw; (try dsimp only at hSw); obtain ⟨hs1, hs2, hs3, hs4, hs5, hs6, hs7, hs8⟩ := HHS.out _ hSw; go_simp; try with_reducible rfl)
        try simp only [Act.put, List.getElem_toArray, List.getElem_cons_succ, List.getElem_cons_zero, List.setIfInBounds_toArray, List.set_cons_zero, List.set_cons_succ]
        refine wpAnyH_take (i := 7) (v := ?_) rfl (by kernel_rfl) (by kernel_rfl) (by kernel_rfl) (fun _ _ _ h => h) (Or.inl ⟨by rfl, ?_⟩) (by assumption) ?_
        rotate_left 1
        · (intro w hSw; (try dsimp only at hSw); obtain ⟨hs1, hs2, hs3, hs4, hs5, hs6, hs7, hs8⟩ := HHS.out _ hSw; go_simp; try with_reducible rfl)
        try simp only [Act.put, List.getElem_toArray, List.getElem_cons_succ, List.getElem_cons_zero, List.setIfInBounds_toArray, List.set_cons_zero, List.set_cons_succ]
        refine wpAnyH_take (i := 9) (v := ?_) rfl (by kernel_rfl) (by kernel_rfl) (by kernel_rfl) (fun _ _ _ h => h) (Or.inl ⟨by rfl, ?_⟩) (by assumption) ?_
        rotate_left 1
        · (intro w hSw; (try dsimp only at hSw); obtain ⟨hs1, hs2, hs3, hs4, hs5, hs6, hs7, hs8⟩ := HHS.out _ hSw; go_simp; try with_reducible rfl)
        try simp only [Act.put, List.getElem_toArray, List.getElem_cons_succ, List.getElem_cons_zero, List.setIfInBounds_toArray, List.set_cons_zero, List.set_cons_succ]
        refine wpAnyH_take (i := 10) (v := ?_) rfl (by kernel_rfl) (by kernel_rfl) (by kernel_rfl) (fun _ _ _ h => h) (Or.inl ⟨by rfl, ?_⟩) (by assumption) ?_
        rotate_left 1
        · (intro w hSw; (try dsimp only at hSw); obtain ⟨hs1, hs2, hs3, hs4, hs5, hs6, hs7, hs8⟩ := HHS.out _ hSw; go_simp; try with_reducible rfl)
        try simp only [Act.put, List.getElem_toArray, List.getElem_cons_succ, List.getElem_cons_zero, List.setIfInBounds_toArray, List.set_cons_zero, List.set_cons_succ]
        refine wpAnyH_take (i := 13) (v := ?_) rfl (by kernel_rfl) (by kernel_rfl) (by kernel_rfl) (fun _ _ _ h => h) (Or.inl ⟨by rfl, ?_⟩) (by assumption) ?_
        rotate_left 1
        · (intro w hSw; (try dsimp only at hSw); obtain ⟨hs1, hs2, hs3, hs4, hs5, hs6, hs7, hs8⟩ := HHS.out _ hSw; go_simp; try with_reducible rfl)
        try simp only [Act.put, List.getElem_toArray, List.getElem_cons_succ, List.getElem_cons_zero, List.setIfInBounds_toArray, List.set_cons_zero, List.set_cons_succ]
        refine wpAnyH_take (i := 14) (v := ?_) rfl (by kernel_rfl) (by kernel_rfl) (by kernel_rfl) (fun _ _ _ h => h) (Or.inl ⟨by rfl, ?_⟩) (by assumption) ?_
        rotate_left 1
        · (intro w hSw; (try dsimp only at hSw); obtain ⟨hs1, hs2, hs3, hs4, hs5, hs6, hs7, hs8⟩ := HHS.out _ hSw; go_simp; try with_reducible rfl)
        try simp only [Act.put, List.getElem_toArray, List.getElem_cons_succ, List.getElem_cons_zero, List.setIfInBounds_toArray, List.set_cons_zero, List.set_cons_succ]
        refine wpAnyH_take (i := 15) (v := ?_) rfl (by kernel_rfl) (by kernel_rfl) (by kernel_rfl) (fun _ _ _ h => h) (Or.inl ⟨by rfl, ?_⟩) (by assumption) ?_
        rotate_left 1
        · (intro w hSw; (try dsimp only at hSw); obtain ⟨hs1, hs2, hs3, hs4, hs5, hs6, hs7, hs8⟩ := HHS.out _ hSw; go_simp; try with_reducible rfl)
        try simp only [Act.put, List.getElem_toArray, List.getElem_cons_succ, List.getElem_cons_zero, List.setIfInBounds_toArray, List.set_cons_zero, List.set_cons_succ]
        refine wpAnyH_take (i := 16) (v := ?_) rfl (by kernel_rfl) (by kernel_rfl) (by kernel_rfl) (fun _ _ _ h => h) (Or.inl ⟨by rfl, ?_⟩) (by assumption) ?_
        rotate_left 1
        · (intro w hSw; (try dsimp only at hSw); obtain ⟨hs1, hs2, hs3, hs4, hs5, hs6, hs7, hs8⟩ := HHS.out _ hSw; go_simp; try with_reducible rfl)
        try simp only [Act.put, List.getElem_toArray, List.getElem_cons_succ, List.getElem_cons_zero, List.setIfInBounds_toArray, List.set_cons_zero, List.set_cons_succ]
        refine wpAnyH_ready (rs := [4]) (by kernel_rfl) (by simp) ?_
        refine AllReadyH.cons rfl (fun K hK => ?_) AllReadyH.nil
        go_simp
        refine (D1.out _).mono ?_
        rintro e w5 ⟨rfl, rfl⟩
        refine hK.out _ _ (by assumption) (fun hHeld => ?_)
        clear hK K
        try simp only [Act.put, List.getElem_toArray, List.getElem_cons_succ, List.getElem_cons_zero, List.setIfInBounds_toArray, List.set_cons_zero, List.set_cons_succ]
        refine wpAnyH_take (i := 5) (v := ?_) rfl (by kernel_rfl) (by kernel_rfl) (by kernel_rfl) (fun _ _ _ h => h) (Or.inl ⟨by rfl, ?_⟩) (by assumption) ?_
        rotate_left 1
        · (intro w hSw; (try dsimp only at hSw); obtain ⟨hs1, hs2, hs3, hs4, hs5, hs6, hs7, hs8⟩ := HHS.out _ hSw; go_simp; try with_reducible rfl)
        try simp only [Act.put, List.getElem_toArray, List.getElem_cons_succ, List.getElem_cons_zero, List.setIfInBounds_toArray, List.set_cons_zero, List.set_cons_succ]
        try simp only [W1]
        refine wpAnyH_ready (rs := [8]) (by kernel_rfl) (by simp) ?_
        refine AllReadyH.cons rfl (fun K hK => ?_) AllReadyH.nil
        go_simp
        refine (D2.out _).mono ?_
        rintro e w5 ⟨rfl, rfl⟩
        refine hK.out _ _ (by assumption) (fun hHeld => ?_)
        clear hK K
        try simp only [Act.put, List.getElem_toArray, List.getElem_cons_succ, List.getElem_cons_zero, List.setIfInBounds_toArray, List.set_cons_zero, List.set_cons_succ]
        refine wpAnyH_ready (rs := [11]) (by kernel_rfl) (by simp) ?_
        refine AllReadyH.cons rfl (fun K hK => ?_) AllReadyH.nil
        go_simp
        refine (D3.out _).mono ?_
        rintro e w5 ⟨rfl, rfl⟩
        refine hK.out _ _ (by assumption) (fun hHeld => ?_)
        clear hK K
        try simp only [Act.put, List.getElem_toArray, List.getElem_cons_succ, List.getElem_cons_zero, List.setIfInBounds_toArray, List.set_cons_zero, List.set_cons_succ]
        refine wpAnyH_take (i := 12) (v := ?_) rfl (by kernel_rfl) (by kernel_rfl) (by kernel_rfl) (fun _ _ _ h => h) (Or.inl ⟨by rfl, ?_⟩) (by assumption) ?_
        rotate_left 1
        · (intro w hSw; (try dsimp only at hSw); obtain ⟨hs1, hs2, hs3, hs4, hs5, hs6, hs7, hs8⟩ := HHS.out _ hSw; go_simp; try with_reducible rfl)
        try simp only [Act.put, List.getElem_toArray, List.getElem_cons_succ, List.getElem_cons_zero, List.setIfInBounds_toArray, List.set_cons_zero, List.set_cons_succ]
        try simp only [W3]
        refine wpAnyH_ready (rs := [17]) (by kernel_rfl) (by simp) ?_
        refine AllReadyH.cons rfl (fun K hK => ?_) AllReadyH.nil
        go_simp
        refine (D4.out _).mono ?_
        rintro e w5 ⟨rfl, rfl⟩
        refine hK.out _ _ (by assumption) (fun hHeld => ?_)
        clear hK K
        try simp only [Act.put, List.getElem_toArray, List.getElem_cons_succ, List.getElem_cons_zero, List.setIfInBounds_toArray, List.set_cons_zero, List.set_cons_succ]
        refine wpAnyH_take (i := 18) (v := ?_) rfl (by kernel_rfl) (by kernel_rfl) (by kernel_rfl) (fun _ _ _ h => h) (Or.inl ⟨by rfl, ?_⟩) (by assumption) ?_
        rotate_left 1
        · (intro w hSw; (try dsimp only at hSw); obtain ⟨hs1, hs2, hs3, hs4, hs5, hs6, hs7, hs8⟩ := HHS.out _ hSw; go_simp; try with_reducible rfl)
        try simp only [Act.put, List.getElem_toArray, List.getElem_cons_succ, List.getElem_cons_zero, List.setIfInBounds_toArray, List.set_cons_zero, List.set_cons_succ]
        try simp only [W4]
        refine wpAnyH_take (i := 19) (v := ?_) rfl (by kernel_rfl) (by kernel_rfl) (by kernel_rfl) (fun _ _ _ h => h) (Or.inl ⟨by rfl, ?_⟩) (by assumption) ?_
        rotate_left 1
        · (intro w hSw; (try dsimp only at hSw); obtain ⟨hs1, hs2, hs3, hs4, hs5, hs6, hs7, hs8⟩ := HHS.out _ hSw; go_simp; try with_reducible rfl)
        try simp only [Act.put, List.getElem_toArray, List.getElem_cons_succ, List.getElem_cons_zero, List.setIfInBounds_toArray, List.set_cons_zero, List.set_cons_succ]
        refine wpAnyH_ready (rs := [20]) (by kernel_rfl) (by simp) ?_
        refine AllReadyH.cons rfl (fun K hK => ?_) AllReadyH.nil
        go_simp
        refine hK.out _ _ ⟨hHeld.1.alloc _, hHeld.2.alloc _⟩ (fun hHeld => ?_)
        clear hK K
        try simp only [Act.put, List.getElem_toArray, List.getElem_cons_succ, List.getElem_cons_zero, List.setIfInBounds_toArray, List.set_cons_zero, List.set_cons_succ]
        refine wpAnyH_ready (rs := [21]) (by kernel_rfl) (by simp) ?_
        refine AllReadyH.cons rfl (fun K hK => ?_) AllReadyH.nil
        have HS5 := Lib.hid (HS4.out.new ((Below.refl _ _).alloc (Nat.le_refl _) (.cells #[.int .i64 1, .int .i64 (1 + (k1 : Int)), .int .i64 k2, .int .i64 (1 + (k3 : Int)), .int .i64 (1 + (k4 : Int)), .int .i64 0, .bool false] 27)))
        have hzz : w.heap.size + 2 ≤ (V.drew.alloc (.cells #[.int .i64 1, .int .i64 (1 + (k1 : Int)), .int .i64 k2, .int .i64 (1 + (k3 : Int)), .int .i64 (1 + (k4 : Int)), .int .i64 0, .bool false] 27)).heap.size := Nat.le_trans HS5.out.2.2.2.2.2.2 (Nat.le_of_lt HS5.out.2.2.1.lt)
        refine step_append_row (by rfl) (.tmp 32) (.tmp 51) (by rfl) ntel (w.heap.size + 2) (.slice Ap k cp) k (ntv pre) (by rfl) HS5.out.2.2.2.2.1 _ _ 1 1 (ntv [⟨1, 1 + (k1 : Int), (k2 : Int), 1 + (k3 : Int), 1 + (k4 : Int), 0, false⟩]) (by rfl) (ntone _ ⟨1, 1 + (k1 : Int), (k2 : Int), 1 + (k3 : Int), 1 + (k4 : Int), 0, false⟩ (by rfl)) (ntv_one _) (by omega) (by omega) (by exact hzz) ?_
        intro A6 c6 w6 hown6 hg6 hb6
        rw [← ntv_append] at hown6
        have HMK := Lib.hid (HS5.out.nts hown6 hg6 hb6)
        have hbx := HS5.out.box4 hg6
        have j1 : w6.cell? ⟨p, 2, none⟩ = some (.slice Ap k cp) := hbx.cell 2
        have j1f := hbx.frozen 2
        refine hK.out _ _ ⟨hbx, hHeld.2.grown hg6.1 (fun e => HNE.out e.symm)⟩ (fun hHeld => ?_)
        clear hK K
        try simp only [Act.put, List.getElem_toArray, List.getElem_cons_succ, List.getElem_cons_zero, List.setIfInBounds_toArray, List.set_cons_zero, List.set_cons_succ]
        refine wpAnyH_take (i := 22) (v := ?_) rfl (by kernel_rfl) (by kernel_rfl) (by kernel_rfl) (fun _ _ _ h => h) (Or.inl ⟨by rfl, ?_⟩) (by assumption) ?_
        rotate_left 1
        · (intro w hSw; (try dsimp only at hSw); obtain ⟨hs1, hs2, hs3, hs4, hs5, hs6, hs7, hs8⟩ := HHS.out _ hSw; go_simp; try with_reducible rfl)
        try simp only [Act.put, List.getElem_toArray, List.getElem_cons_succ, List.getElem_cons_zero, List.setIfInBounds_toArray, List.set_cons_zero, List.set_cons_succ]
        refine wpAnyH_done (by kernel_rfl) ?_ _
        refine then_normal rfl ?_
        have HOM : Hid (ntMay L ⟨1, 1 + (k1 : Int), (k2 : Int), 1 + (k3 : Int), 1 + (k4 : Int), 0, false⟩ = true) := by
          show _ = _
          rw [nt_accept (by omega) (by omega) (by omega)]
          unfold reqMay
          rw [decide_eq_true (by omega), decide_eq_true (by omega), decide_eq_true (by omega), decide_eq_true (by omega), decide_eq_true (by omega), decide_eq_true (by omega), decide_eq_true (by omega)]
          rfl
        clear hHeld hbx
        go_wp2
        go_roundw
        case rel => exact ⟨k + 1, pre ++ [⟨1, 1 + (k1 : Int), (k2 : Int), 1 + (k3 : Int), 1 + (k4 : Int), 0, false⟩], A6, c6, by omega, by omega, by go_num, all_snoc HA.out HOM.out, HMK.out⟩
        case measure => simp [intOf]; omega
      · have e0 : ((k0 : Int) == 0) = false := by simp; omega
        have D5 := Lib.hid (fun w => playbig_any f5 1099511627777 w (by omega) (by omega))
        have d5 := bigZ_lt f5 (n := 1099511627777) (by omega)
        generalize bigZ f5 1099511627777 = k5 at D5 d5
        go_upto_region 8 with fail
        refine wp_region_last_at (S := fun wx => Blk wx p 25 #[.int .i64 (L : Int), .slice A1 n1 c1, .slice Ap k cp] ∧ Blk wx s9 27 #[.int .i64 f0, .int .i64 f1, .int .i64 f2, .int .i64 f3, .int .i64 f4, .int .i64 f5, .bool f6]) 15 _ rfl rfl (by kernel_rfl) (by kernel_rfl) (by kernel_rfl) ⟨HS3.out.2.2.1, HY3.out⟩ (fun hHeld => ?_)
        simp only [List.take_succ_cons, List.take_zero]
        refine wpAnyH_take (i := 0) (v := ?_) rfl (by kernel_rfl) (by kernel_rfl) (by kernel_rfl) (fun _ _ _ h => h) (Or.inl ⟨by rfl, ?_⟩) (by assumption) ?_
        rotate_left 1
        · (intro w hSw; (try dsimp only at hSw); obtain ⟨hs1, hs2, hs3, hs4, hs5, hs6, hs7, hs8⟩ := HHS.out _ hSw; go_simp; try with_reducible rfl)
        try simp only [Act.put, List.getElem_toArray, List.getElem_cons_succ, List.getElem_cons_zero, List.setIfInBounds_toArray, List.set_cons_zero, List.set_cons_succ]
        refine wpAnyH_take (i := 1) (v := ?_) rfl (by kernel_rfl) (by kernel_rfl) (by kernel_rfl) (fun _ _ _ h => h) (Or.inl ⟨by rfl, ?_⟩) (by assumption) ?_
        rotate_left 1
        · (intro w hSw; (try dsimp only at hSw); obtain ⟨hs1, hs2, hs3, hs4, hs5, hs6, hs7, hs8⟩ := HHS.out _ hSw; go_simp; try with_reducible rfl)
        try simp only [Act.put, List.getElem_toArray, List.getElem_cons_succ, List.getElem_cons_zero, List.setIfInBounds_toArray, List.set_cons_zero, List.set_cons_succ]
        refine wpAnyH_take (i := 2) (v := ?_) rfl (by kernel_rfl) (by kernel_rfl) (by kernel_rfl) (fun _ _ _ h => h) (Or.inl ⟨by rfl, ?_⟩) (by assumption) ?_
        rotate_left 1
        · (intro w hSw; (try dsimp only at hSw); obtain ⟨hs1, hs2, hs3, hs4, hs5, hs6, hs7, hs8⟩ := HHS.out _ hSw; go_simp; try with_reducible rfl)
        try simp only [Act.put, List.getElem_toArray, List.getElem_cons_succ, List.getElem_cons_zero, List.setIfInBounds_toArray, List.set_cons_zero, List.set_cons_succ]
        refine wpAnyH_take (i := 3) (v := ?_) rfl (by kernel_rfl) (by kernel_rfl) (by kernel_rfl) (fun _ _ _ h => h) (Or.inl ⟨by rfl, ?_⟩) (by assumption) ?_
        rotate_left 1
        · (intro w hSw; (try dsimp only at hSw); obtain ⟨hs1, hs2, hs3, hs4, hs5, hs6, hs7, hs8⟩ := HHS.out _ hSw; go_simp; try with_reducible rfl)
        try simp only [Act.put, List.getElem_toArray, List.getElem_cons_succ, List.getElem_cons_zero, List.setIfInBounds_toArray, List.set_cons_zero, List.set_cons_succ]
        refine wpAnyH_take (i := 6) (v := ?_) rfl (by kernel_rfl) (by kernel_rfl) (by kernel_rfl) (fun _ _ _ h => h) (Or.inl ⟨by rfl, ?_⟩) (by assumption) ?_
        rotate_left 1
        · (intro w hSw; (try dsimp only at hSw); obtain ⟨hs1, hs2, hs3, hs4, hs5, hs6, hs7, hs8⟩ := HHS.out _ hSw; go_simp; try with_reducible rfl)
        try simp only [Act.put, List.getElem_toArray, List.getElem_cons_succ, List.getElem_cons_zero, List.setIfInBounds_toArray, List.set_cons_zero, List.set_cons_succ]
        refine wpAnyH_take (i := 7) (v := ?_) rfl (by kernel_rfl) (by kernel_rfl) (by kernel_rfl) (fun _ _ _ h => h) (Or.inl ⟨by rfl, ?_⟩) (by assumption) ?_
        rotate_left 1
        · (intro w hSw; (try dsimp only at hSw); obtain ⟨hs1, hs2, hs3, hs4, hs5, hs6, hs7, hs8⟩ := HHS.out _ hSw; go_simp; try with_reducible rfl)
        try simp only [Act.put, List.getElem_toArray, List.getElem_cons_succ, List.getElem_cons_zero, List.setIfInBounds_toArray, List.set_cons_zero, List.set_cons_succ]
        refine wpAnyH_take (i := 9) (v := ?_) rfl (by kernel_rfl) (by kernel_rfl) (by kernel_rfl) (fun _ _ _ h => h) (Or.inl ⟨by rfl, ?_⟩) (by assumption) ?_
        rotate_left 1
        · (intro w hSw; (try dsimp only at hSw); obtain ⟨hs1, hs2, hs3, hs4, hs5, hs6, hs7, hs8⟩ := HHS.out _ hSw; go_simp; try with_reducible rfl)
        try simp only [Act.put, List.getElem_toArray, List.getElem_cons_succ, List.getElem_cons_zero, List.setIfInBounds_toArray, List.set_cons_zero, List.set_cons_succ]
        refine wpAnyH_take (i := 10) (v := ?_) rfl (by kernel_rfl) (by kernel_rfl) (by kernel_rfl) (fun _ _ _ h => h) (Or.inl ⟨by rfl, ?_⟩) (by assumption) ?_
        rotate_left 1
        · (intro w hSw; (try dsimp only at hSw); obtain ⟨hs1, hs2, hs3, hs4, hs5, hs6, hs7, hs8⟩ := HHS.out _ hSw; go_simp; try with_reducible rfl)
        try simp only [Act.put, List.getElem_toArray, List.getElem_cons_succ, List.getElem_cons_zero, List.setIfInBounds_toArray, List.set_cons_zero, List.set_cons_succ]
        refine wpAnyH_ready (rs := [4]) (by kernel_rfl) (by simp) ?_
        refine AllReadyH.cons rfl (fun K hK => ?_) AllReadyH.nil
        go_simp
        refine (D1.out _).mono ?_
        rintro e w5 ⟨rfl, rfl⟩
        refine hK.out _ _ (by assumption) (fun hHeld => ?_)
        clear hK K
        try simp only [Act.put, List.getElem_toArray, List.getElem_cons_succ, List.getElem_cons_zero, List.setIfInBounds_toArray, List.set_cons_zero, List.set_cons_succ]
        refine wpAnyH_take (i := 5) (v := ?_) rfl (by kernel_rfl) (by kernel_rfl) (by kernel_rfl) (fun _ _ _ h => h) (Or.inl ⟨by rfl, ?_⟩) (by assumption) ?_
        rotate_left 1
        · (intro w hSw; (try dsimp only at hSw); obtain ⟨hs1, hs2, hs3, hs4, hs5, hs6, hs7, hs8⟩ := HHS.out _ hSw; go_simp; try with_reducible rfl)
        try simp only [Act.put, List.getElem_toArray, List.getElem_cons_succ, List.getElem_cons_zero, List.setIfInBounds_toArray, List.set_cons_zero, List.set_cons_succ]
        try simp only [W1]
        refine wpAnyH_ready (rs := [8]) (by kernel_rfl) (by simp) ?_
        refine AllReadyH.cons rfl (fun K hK => ?_) AllReadyH.nil
        go_simp
        refine (D5.out _).mono ?_
        rintro e w5 ⟨rfl, rfl⟩
        refine hK.out _ _ (by assumption) (fun hHeld => ?_)
        clear hK K
        try simp only [Act.put, List.getElem_toArray, List.getElem_cons_succ, List.getElem_cons_zero, List.setIfInBounds_toArray, List.set_cons_zero, List.set_cons_succ]
        refine wpAnyH_take (i := 11) (v := ?_) rfl (by kernel_rfl) (by kernel_rfl) (by kernel_rfl) (fun _ _ _ h => h) (Or.inl ⟨by rfl, ?_⟩) (by assumption) ?_
        rotate_left 1
        · (intro w hSw; (try dsimp only at hSw); obtain ⟨hs1, hs2, hs3, hs4, hs5, hs6, hs7, hs8⟩ := HHS.out _ hSw; go_simp; try with_reducible rfl)
        try simp only [Act.put, List.getElem_toArray, List.getElem_cons_succ, List.getElem_cons_zero, List.setIfInBounds_toArray, List.set_cons_zero, List.set_cons_succ]
        refine wpAnyH_ready (rs := [12]) (by kernel_rfl) (by simp) ?_
        refine AllReadyH.cons rfl (fun K hK => ?_) AllReadyH.nil
        go_simp
        refine hK.out _ _ ⟨hHeld.1.alloc _, hHeld.2.alloc _⟩ (fun hHeld => ?_)
        clear hK K
        try simp only [Act.put, List.getElem_toArray, List.getElem_cons_succ, List.getElem_cons_zero, List.setIfInBounds_toArray, List.set_cons_zero, List.set_cons_succ]
        refine wpAnyH_ready (rs := [13]) (by kernel_rfl) (by simp) ?_
        refine AllReadyH.cons rfl (fun K hK => ?_) AllReadyH.nil
        have HS5 := Lib.hid (HS4.out.new ((Below.refl _ _).alloc (Nat.le_refl _) (.cells #[.int .i64 2, .int .i64 (1 + (k1 : Int)), .int .i64 0, .int .i64 0, .int .i64 0, .int .i64 k5, .bool f6] 27)))
        have hzz : w.heap.size + 2 ≤ (V.drew.alloc (.cells #[.int .i64 2, .int .i64 (1 + (k1 : Int)), .int .i64 0, .int .i64 0, .int .i64 0, .int .i64 k5, .bool f6] 27)).heap.size := Nat.le_trans HS5.out.2.2.2.2.2.2 (Nat.le_of_lt HS5.out.2.2.1.lt)
        refine step_append_row (by rfl) (.tmp 55) (.tmp 66) (by rfl) ntel (w.heap.size + 2) (.slice Ap k cp) k (ntv pre) (by rfl) HS5.out.2.2.2.2.1 _ _ 1 1 (ntv [⟨2, 1 + (k1 : Int), 0, 0, 0, (k5 : Int), f6⟩]) (by rfl) (ntone _ ⟨2, 1 + (k1 : Int), 0, 0, 0, (k5 : Int), f6⟩ (by rfl)) (ntv_one _) (by omega) (by omega) (by exact hzz) ?_
        intro A6 c6 w6 hown6 hg6 hb6
        rw [← ntv_append] at hown6
        have HMK := Lib.hid (HS5.out.nts hown6 hg6 hb6)
        have hbx := HS5.out.box4 hg6
        have j1 : w6.cell? ⟨p, 2, none⟩ = some (.slice Ap k cp) := hbx.cell 2
        have j1f := hbx.frozen 2
        refine hK.out _ _ ⟨hbx, hHeld.2.grown hg6.1 (fun e => HNE.out e.symm)⟩ (fun hHeld => ?_)
        clear hK K
        try simp only [Act.put, List.getElem_toArray, List.getElem_cons_succ, List.getElem_cons_zero, List.setIfInBounds_toArray, List.set_cons_zero, List.set_cons_succ]
        refine wpAnyH_take (i := 14) (v := ?_) rfl (by kernel_rfl) (by kernel_rfl) (by kernel_rfl) (fun _ _ _ h => h) (Or.inl ⟨by rfl, ?_⟩) (by assumption) ?_
        rotate_left 1
        · (intro w hSw; (try dsimp only at hSw); obtain ⟨hs1, hs2, hs3, hs4, hs5, hs6, hs7, hs8⟩ := HHS.out _ hSw; go_simp; try with_reducible rfl)
        try simp only [Act.put, List.getElem_toArray, List.getElem_cons_succ, List.getElem_cons_zero, List.setIfInBounds_toArray, List.set_cons_zero, List.set_cons_succ]
        refine wpAnyH_done (by kernel_rfl) ?_ _
        refine then_normal rfl ?_
        have HOM : Hid (ntMay L ⟨2, 1 + (k1 : Int), 0, 0, 0, (k5 : Int), f6⟩ = true) := by
          show _ = _
          rw [nt_chunk (by omega) (by omega), decide_eq_true (by omega), decide_eq_true (by omega)]
          rfl
        clear hHeld hbx
        go_wp2
        go_roundw
        case rel => exact ⟨k + 1, pre ++ [⟨2, 1 + (k1 : Int), 0, 0, 0, (k5 : Int), f6⟩], A6, c6, by omega, by omega, by go_num, all_snoc HA.out HOM.out, HMK.out⟩
        case measure => simp [intOf]; omega
    · have p0 : wr.cell? ⟨p, 0, none⟩ = some (.int .i64 (L : Int)) := HM.out.2.2.1.cell 0
      have p1 : wr.cell? ⟨p, 1, none⟩ = some (.slice A1 n1 c1) := HM.out.2.2.1.cell 1
      have p2 : wr.cell? ⟨p, 2, none⟩ = some (.slice Ap k cp) := HM.out.2.2.1.cell 2
      have q0 : wr.cell? ⟨w.heap.size + 1, 0, none⟩ = some (.int .i64 0) := HM.out.2.1.cell 0
      have q1 : wr.cell? ⟨w.heap.size + 1, 1, none⟩ = some (.slice none 0 0) := HM.out.2.1.cell 1
      have q2 : wr.cell? ⟨w.heap.size + 1, 2, none⟩ = some (.slice none 0 0) := HM.out.2.1.cell 2
      have r0 := HM.out.2.1.frozen 0
      have r1 := HM.out.2.1.frozen 1
      have r2 := HM.out.2.1.frozen 2
      have hol : lo.length = n1 := by have := HM.out.2.2.2.1.1; rw [ov_length] at this; omega
      have hpl : pre.length = k := by have := HM.out.2.2.2.2.1.1; rw [ntv_length] at this; omega
      have HFIN : Hid (MadeI m w (.returned (itv (L : Int) A1 n1 c1 Ap k cp)) (((wr.setCell ⟨w.heap.size + 1, 0, none⟩ (.int .i64 (L : Int))).setCell ⟨w.heap.size + 1, 1, none⟩ (.slice A1 n1 c1)).setCell ⟨w.heap.size + 1, 2, none⟩ (.slice Ap k cp))) := by
        have hon := three_on wr (w.heap.size + 1) (.int .i64 (L : Int)) (.slice A1 n1 c1) (.slice Ap k cp)
        exact ⟨⟨(L : Int), lo, pre⟩, A1, n1, c1, Ap, k, cp, rfl, ⟨by dsimp only; omega, by dsimp only; omega, by dsimp only; omega, by dsimp only; omega, HOL.out, HA.out⟩, ⟨own_mono (HM.out.2.2.2.1.kept hon (.inr (own_ne HM.out.2.2.2.1 HM.out.2.1 (by decide)))) (by omega), own_mono (HM.out.2.2.2.2.1.kept hon (.inr (own_ne HM.out.2.2.2.2.1 HM.out.2.1 (by decide)))) (by omega)⟩, ((HM.out.2.2.2.2.2.1.setCell (by simp) _).setCell (by simp) _).setCell (by simp) _⟩
      have hkk : (¬ k < n') ∨ (k < n' ∧ ¬ k < 4) := by omega
      clear hgo hol hpl
      rcases hkk with hkk | ⟨hkk, hkk2⟩
      · have l1 : ¬ (k : Int) < (n' : Int) := by omega
        go_wp2
        refine bodyPost_ret (v := itv (L : Int) A1 n1 c1 Ap k cp) (by simp [itv, results, Try.results11, go_sem, q0, q1, q2]) rfl ?_
        exact HFIN.out
      · have l1 : (k : Int) < (n' : Int) := by omega
        have l2 : ¬ (k : Int) < 4 := by omega
        go_wp2
        refine bodyPost_ret (v := itv (L : Int) A1 n1 c1 Ap k cp) (by simp [itv, results, Try.results11, go_sem, q0, q1, q2]) rfl ?_
        exact HFIN.out
end Go.Proofs.Ytlkjmdkmcaaihaa.Bt
