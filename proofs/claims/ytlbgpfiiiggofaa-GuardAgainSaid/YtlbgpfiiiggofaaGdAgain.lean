/-
  The walk of GuardAgain. No condition but that the keys are 64 bit numbers.
-/
import Derived.Test.YtlbgpfiiiggofaaGdAwake
import Derived.Test.YtlbgpfiiiggofaaGdOp
import Derived.Test.YtlbgpfiiiggofaaCellHelp
import Derived.Test.YtlbgpfiiiggofaaOpOpen
import Derived.Deep.CutBlock
namespace Go.Proofs.Ytlbgpfiiiggofaa.Gd
set_option linter.unusedVariables false
set_option linter.unusedSimpArgs false
set_option maxRecDepth 100000
open Go.RowKit Base GuardMath Foot
open Go.Proofs.Ytlbgpfiiiggofaa.Field (modZ bigZ modZ_lt bigZ_lt mod_any playbig_any)
set_option linter.ambiguousOpen false

/-! ### the ops that are put -/
def agStep (s : Int × List Gp) (o : Gp) : Int × List Gp := (s.1 + bigZ o.lsn 3, s.2 ++ [⟨s.1 + bigZ o.lsn 3, modZ (opZ o 2).tbl 2, (opZ o 2).key, (opZ o 2).gone, (opZ o 2).val⟩])
def ag (l : List Gp) : Int × List Gp := l.foldl agStep (0, [])
theorem ag_snoc (l : List Gp) (o : Gp) : ag (l ++ [o]) = agStep (ag l) o := by unfold ag; rw [List.foldl_append]; rfl
structure AgOk (l : List Gp) : Prop where
  len : (ag l).2.length = l.length
  low : 0 ≤ (ag l).1
  high : (ag l).1 ≤ 2 * (l.length : Int)
  rise : NonFall (ag l).2
  top : ∀ o ∈ (ag l).2, o.lsn ≤ (ag l).1
  tbl : ∀ o ∈ (ag l).2, isT (E 2) o.tbl = true
  key : (∀ o ∈ l, In64 o.key) → ∀ o ∈ (ag l).2, In64 o.key
theorem opZ_key {o : Gp} (h : In64 o.key) (n : Nat) : In64 (opZ o n).key := by
  unfold opZ
  split
  · exact h
  · have := bigZ_lt o.key (n := 6) (by omega)
    exact ⟨by show _ ≤ ((bigZ o.key 6 : Nat) : Int); omega, by show ((bigZ o.key 6 : Nat) : Int) ≤ _; omega⟩
theorem ag_ok (l : List Gp) : AgOk l := by
  induction l using snoc_ind with
  | nil => exact ⟨rfl, Int.le_refl _, by simp [ag], List.Pairwise.nil, fun o ho => (by cases ho), fun o ho => (by cases ho), fun _ o ho => (by cases ho)⟩
  | append_singleton l o ih =>
    obtain ⟨h1, h2, h3, h4, h5, h6, h7⟩ := ih
    have hb := bigZ_lt o.lsn (n := 3) (by omega)
    have hm := modZ_lt (opZ o 2).tbl (n := 2) (by omega)
    have e1 : (ag (l ++ [o])).1 = (ag l).1 + bigZ o.lsn 3 := by rw [ag_snoc]; rfl
    have e2 : (ag (l ++ [o])).2 = (ag l).2 ++ [⟨(ag l).1 + bigZ o.lsn 3, modZ (opZ o 2).tbl 2, (opZ o 2).key, (opZ o 2).gone, (opZ o 2).val⟩] := by rw [ag_snoc]; rfl
    refine ⟨by rw [e2, List.length_append, List.length_append, h1]; rfl, by rw [e1]; omega, by rw [e1, List.length_append]; simp; omega, ?_, ?_, ?_, ?_⟩
    · rw [e2]
      refine List.pairwise_append.2 ⟨h4, List.pairwise_singleton _ _, fun a ha b hb' => ?_⟩
      rw [List.mem_singleton] at hb'
      subst hb'
      have := h5 a ha
      show a.lsn ≤ (ag l).1 + ((bigZ o.lsn 3 : Nat) : Int)
      omega
    · rw [e1, e2]
      intro a ha
      rcases List.mem_append.1 ha with ha | ha
      · have := h5 a ha
        omega
      · rw [List.mem_singleton] at ha
        subst ha
        exact Int.le_refl _
    · rw [e2]
      intro a ha
      rcases List.mem_append.1 ha with ha | ha
      · exact h6 a ha
      · rw [List.mem_singleton] at ha
        subst ha
        exact decide_eq_true ⟨by show 0 ≤ ((modZ (opZ o 2).tbl 2 : Nat) : Int); omega, by show ((modZ (opZ o 2).tbl 2 : Nat) : Int) < 2; omega⟩
    · intro hk
      rw [e2]
      intro a ha
      rcases List.mem_append.1 ha with ha | ha
      · exact h7 (fun x hx => hk x (List.mem_append_left _ hx)) a ha
      · rw [List.mem_singleton] at ha
        subst ha
        exact opZ_key (hk o (List.mem_append_right _ (List.mem_singleton.2 rfl))) 2
theorem own_two {g n g' n' : Nat} (h : g + 2 + n ≤ g') : ∀ i, Own g n i → ¬ Own g' n' i := fun i h1 h2 => by have := h1.2; have := h2.1; omega
theorem own_two' {g n g' n' : Nat} (h : g + 2 + n ≤ g') : ∀ i, Own g' n' i → ¬ Own g n i := fun i h1 h2 => by have := h2.2; have := h1.1; omega
/-- the ops so far, in the row of the statement's own -/
def AgRel (w0 : World) (l : List Gp) (k : Nat) (v vl : Value) (wr : World) : Prop :=
  ∃ A c, v = .slice A k c ∧ vl = .int .i64 (ag (l.take k)).1 ∧ wr.ownsRow w0.heap.size 32 5 (.slice A k c) k (ov (ag (l.take k)).2) ∧ Below w0.heap.size w0 wr
set_option maxHeartbeats 12800000 in
theorem again_walk (A0 : Option Addr) (n c0 : Nat) (l : List Gp) (cut : Int) (w : World) (h : Gps w w.heap.size A0 n c0 l) (hk : ∀ o ∈ l, In64 o.key) :
    Calls Try.prog 4 #[.slice A0 n c0, .int .i64 cut] w fun e w' => e = .returned (.bool true) ∧ Below w.heap.size w w' := by
  have HL := Lib.hid h.len
  have HR := Lib.hid h
  have HK := Lib.hid hk
  have hle := h.le
  clear h hk
  go_enter Try.func4, Try.ntmps4
  go_wp2_with fail
  refine (new_any 2 (by omega) (by omega) _).mono ?_
  rintro e w1 ⟨rfl, hg, hz, hb⟩
  have HGA := Lib.hid hg
  have HZ1 := Lib.hid hz
  have HB1 := Lib.hid hb
  clear hg hz hb
  go_wp2_with fail
  refine (new_any 2 (by omega) (by omega) _).mono ?_
  rintro e w2 ⟨rfl, hg, hz, hb⟩
  have HGB := Lib.hid hg
  have HZ2 := Lib.hid hz
  have HGA2 := Lib.hid (HGA.out.new hb)
  have HB2 := Lib.hid (held_two HB1.out hb)
  clear hg hz hb
  go_upto_block 0 with fail
  go_cut [9, 11] (fun v vi wx => ∃ k : Nat, k ≤ n ∧ k ≤ 60 ∧ AgRel w2 l k v (.int .i64 (ag (l.take k)).1) wx)
  case first =>
    go_wp2_with fail
    go_loopw [9, 10, 11] (fun v vl vi wr => ∃ k : Nat, vi = .int .i64 k ∧ k ≤ n ∧ k ≤ 60 ∧ AgRel w2 l k v vl wr) (fun _ _ vi _ => n - (Go.RowKit.intOf vi).toNat)
    case atStart => exact ⟨0, rfl, Nat.zero_le _, by omega, none, 0, rfl, rfl, World.ownsRow_nil _ _ _ _, Below.refl _ _⟩
    case round =>
      obtain ⟨k, rfl, hkn, hk60, A, c, rfl, rfl, ho, hbl⟩ := hrel
      have HO := Lib.hid ho
      have HBL := Lib.hid hbl
      have HOK := Lib.hid (ag_ok (l.take k))
      clear ho hbl
      by_cases hlt : k < n
      · by_cases h60 : k < 60
        · obtain ⟨b, off, f, rfl, hbB, q0, q1, q2, q3, q4, hf, ht⟩ := (HR.out.below ((HB2.out.trans (HBL.out.mono HB2.out.size)))).at_ hlt
          have HST : Hid (ag (l.take (k + 1)) = agStep (ag (l.take k)) f) := by show _ = _; rw [ht, ag_snoc]
          have HFV : Hid (Value.agg #[.int .i64 f.lsn, .int .i64 f.tbl, .int .i64 f.key, .bool f.gone, .string f.val] = oval f) := (rfl : _ = _)
          have hlk : (l.take k).length = k := by rw [List.length_take, HL.out]; omega
          have hlow := HOK.out.low
          have hhigh := HOK.out.high
          rw [hlk] at hhigh
          generalize hs1 : (ag (l.take k)).1 = s1 at *
          have HS1 := Lib.hid hs1
          have hbig := bigZ_lt f.lsn (n := 3) (by omega)
          have l1 : (k : Int) < (n : Int) := by omega
          have l2 : (k : Int) < 60 := by omega
          have l1d : decide ((k : Int) < (n : Int)) = true := decide_eq_true l1
          have HQ0 := Lib.hid q0
          have hbw : b < w2.heap.size := by have := HB2.out.size; omega
          obtain ⟨oz, hoz⟩ : ∃ oz, oz = opZ f 2 := ⟨_, rfl⟩
          obtain ⟨z0, z1, z2, z3, z4⟩ := oz
          have HOZ := Lib.hid hoz
          have HBG := Lib.hid (fun w => playbig_any f.lsn 3 w (by omega) (by omega))
          have HMD := Lib.hid (fun w => mod_any z1 2 w (by omega) (by omega))
          clear hf ht hs1 hoz
          go_upto_region 10 with fail
          go_wp2_with (first
            | (go_at_call 10
               rw [HFV.out]
               refine (op_any f 2 _ (by omega) (by omega)).mono ?_
               rw [← HOZ.out]
               unfold oval
               dsimp only
               rintro e wo ⟨rfl, hbo⟩
               have HBO := Lib.hid hbo
               have g0 := (hbo.alloc (Nat.le_trans (Nat.le_refl _) hbo.size) (.cells #[.int .i64 z0, .int .i64 z1, .int .i64 z2, .bool z3, .string z4] 32)).cell (p := ⟨b, off + k * 5, none⟩) (World.block_lt_of_cell? wr _ HQ0.out)
               rw [HQ0.out] at g0
               clear hbo)
            | (go_at_call 21
               refine (HBG.out _).mono ?_
               rintro e wx ⟨rfl, rfl⟩))
          have hx : Blk (wo.alloc (.cells #[.int .i64 z0, .int .i64 z1, .int .i64 z2, .bool z3, .string z4] 32)) wo.heap.size 32 #[.int .i64 z0, .int .i64 z1, .int .i64 z2, .bool z3, .string z4] := Blk.new _ _ _
          have hbW : Below wr.heap.size wr (wo.alloc (.cells #[.int .i64 z0, .int .i64 z1, .int .i64 z2, .bool z3, .string z4] 32)) := HBO.out.alloc HBO.out.size _
          generalize (wo.alloc (.cells #[.int .i64 z0, .int .i64 z1, .int .i64 z2, .bool z3, .string z4] 32)) = W at hx hbW ⊢
          have HBW : Hid (Below w2.heap.size w2 W) := HBL.out.trans (hbW.mono HBL.out.size)
          have HOW := Lib.hid (own_keep HO.out hbW)
          have HXW := Lib.hid hx
          have HSX : Hid (∀ wx, Below W.heap.size W wx → wx.cell? ⟨wo.heap.size, 1, none⟩ = some (.int .i64 z1) ∧ wx.cell? ⟨wo.heap.size, 2, none⟩ = some (.int .i64 z2) ∧ wx.cell? ⟨wo.heap.size, 3, none⟩ = some (.bool z3) ∧ wx.cell? ⟨wo.heap.size, 4, none⟩ = some (.string z4)) := fun wx hb => ⟨held_cell hb (HXW.out.cell 1), held_cell hb (HXW.out.cell 2), held_cell hb (HXW.out.cell 3), held_cell hb (HXW.out.cell 4)⟩
          clear hx hbW g0
          refine Go.wp_region_held_drew (S := fun wx => wx.cell? ⟨wo.heap.size, 1, none⟩ = some (.int .i64 z1) ∧ wx.cell? ⟨wo.heap.size, 2, none⟩ = some (.int .i64 z2) ∧ wx.cell? ⟨wo.heap.size, 3, none⟩ = some (.bool z3) ∧ wx.cell? ⟨wo.heap.size, 4, none⟩ = some (.string z4)) (by kernel_rfl) (HSX.out _ (held_start W)) (fun hHeld => ?_)
          refine wpAnyH_take (i := 0) (v := ?av0) rfl (by kernel_rfl) (by kernel_rfl) (by kernel_rfl) (fun _ _ _ h => h) (Or.inl ⟨by rfl, ?ay0⟩) (by assumption) ?ar0
          case ay0 => (intro w hSw; (try dsimp only at hSw); go_simp; try with_reducible rfl)
          try simp only [Act.put, List.getElem_toArray, List.getElem_cons_succ, List.getElem_cons_zero, List.setIfInBounds_toArray, List.set_cons_zero, List.set_cons_succ]
          refine wpAnyH_take (i := 1) (v := ?av1) rfl (by kernel_rfl) (by kernel_rfl) (by kernel_rfl) (fun _ _ _ h => h) (Or.inl ⟨by rfl, ?ay1⟩) (by assumption) ?ar1
          case ay1 => (intro w hSw; (try dsimp only at hSw); go_simp; try with_reducible rfl)
          try simp only [Act.put, List.getElem_toArray, List.getElem_cons_succ, List.getElem_cons_zero, List.setIfInBounds_toArray, List.set_cons_zero, List.set_cons_succ]
          refine wpAnyH_take (i := 2) (v := ?av2) rfl (by kernel_rfl) (by kernel_rfl) (by kernel_rfl) (fun _ _ _ h => h) (Or.inl ⟨by rfl, ?ay2⟩) (by assumption) ?ar2
          case ay2 => (intro w hSw; (try dsimp only at hSw); go_simp; try with_reducible rfl)
          try simp only [Act.put, List.getElem_toArray, List.getElem_cons_succ, List.getElem_cons_zero, List.setIfInBounds_toArray, List.set_cons_zero, List.set_cons_succ]
          refine wpAnyH_take (i := 3) (v := ?av3) rfl (by kernel_rfl) (by kernel_rfl) (by kernel_rfl) (fun _ _ _ h => h) (Or.inl ⟨by rfl, ?ay3⟩) (by assumption) ?ar3
          case ay3 => (intro w hSw; (try dsimp only at hSw); go_simp; try with_reducible rfl)
          try simp only [Act.put, List.getElem_toArray, List.getElem_cons_succ, List.getElem_cons_zero, List.setIfInBounds_toArray, List.set_cons_zero, List.set_cons_succ]
          refine wpAnyH_take (i := 5) (v := ?av5) rfl (by kernel_rfl) (by kernel_rfl) (by kernel_rfl) (fun _ _ _ h => h) (Or.inl ⟨by rfl, ?ay5⟩) (by assumption) ?ar5
          case ay5 => (intro w hSw; (try dsimp only at hSw); go_simp; try with_reducible rfl)
          try simp only [Act.put, List.getElem_toArray, List.getElem_cons_succ, List.getElem_cons_zero, List.setIfInBounds_toArray, List.set_cons_zero, List.set_cons_succ]
          refine wpAnyH_take (i := 6) (v := ?av6) rfl (by kernel_rfl) (by kernel_rfl) (by kernel_rfl) (fun _ _ _ h => h) (Or.inl ⟨by rfl, ?ay6⟩) (by assumption) ?ar6
          case ay6 => (intro w hSw; (try dsimp only at hSw); go_simp; try with_reducible rfl)
          try simp only [Act.put, List.getElem_toArray, List.getElem_cons_succ, List.getElem_cons_zero, List.setIfInBounds_toArray, List.set_cons_zero, List.set_cons_succ]
          refine wpAnyH_take (i := 7) (v := ?av7) rfl (by kernel_rfl) (by kernel_rfl) (by kernel_rfl) (fun _ _ _ h => h) (Or.inl ⟨by rfl, ?ay7⟩) (by assumption) ?ar7
          case ay7 => (intro w hSw; (try dsimp only at hSw); go_simp; try with_reducible rfl)
          try simp only [Act.put, List.getElem_toArray, List.getElem_cons_succ, List.getElem_cons_zero, List.setIfInBounds_toArray, List.set_cons_zero, List.set_cons_succ]
          refine wpAnyH_take (i := 8) (v := ?av8) rfl (by kernel_rfl) (by kernel_rfl) (by kernel_rfl) (fun _ _ _ h => h) (Or.inl ⟨by rfl, ?ay8⟩) (by assumption) ?ar8
          case ay8 => (intro w hSw; (try dsimp only at hSw); go_simp; try with_reducible rfl)
          try simp only [Act.put, List.getElem_toArray, List.getElem_cons_succ, List.getElem_cons_zero, List.setIfInBounds_toArray, List.set_cons_zero, List.set_cons_succ]
          refine wpAnyH_take (i := 9) (v := ?av9) rfl (by kernel_rfl) (by kernel_rfl) (by kernel_rfl) (fun _ _ _ h => h) (Or.inl ⟨by rfl, ?ay9⟩) (by assumption) ?ar9
          case ay9 => (intro w hSw; (try dsimp only at hSw); go_simp; try with_reducible rfl)
          try simp only [Act.put, List.getElem_toArray, List.getElem_cons_succ, List.getElem_cons_zero, List.setIfInBounds_toArray, List.set_cons_zero, List.set_cons_succ]
          refine wpAnyH_take (i := 10) (v := ?av10) rfl (by kernel_rfl) (by kernel_rfl) (by kernel_rfl) (fun _ _ _ h => h) (Or.inl ⟨by rfl, ?ay10⟩) (by assumption) ?ar10
          case ay10 => (intro w hSw; (try dsimp only at hSw); go_simp; try with_reducible rfl)
          try simp only [Act.put, List.getElem_toArray, List.getElem_cons_succ, List.getElem_cons_zero, List.setIfInBounds_toArray, List.set_cons_zero, List.set_cons_succ]
          refine wpAnyH_ready (rs := [4]) (by kernel_rfl) (by simp) ?_
          refine AllReadyH.cons rfl (fun K hK => ?_) AllReadyH.nil
          go_simp
          go_at_call 7
          refine (HMD.out _).mono ?_
          rintro e wx ⟨rfl, rfl⟩
          refine hK.out _ _ (HSX.out _ (held_start W)) (fun hHeld => ?_)
          clear hK K
          try simp only [Act.put, List.getElem_toArray, List.getElem_cons_succ, List.getElem_cons_zero, List.setIfInBounds_toArray, List.set_cons_zero, List.set_cons_succ]
          refine wpAnyH_take (i := 11) (v := ?bv11) rfl (by kernel_rfl) (by kernel_rfl) (by kernel_rfl) (fun _ _ _ h => h) (Or.inl ⟨by rfl, ?by11⟩) (by assumption) ?br11
          case by11 => (intro w hSw; (try dsimp only at hSw); go_simp; try with_reducible rfl)
          try simp only [Act.put, List.getElem_toArray, List.getElem_cons_succ, List.getElem_cons_zero, List.setIfInBounds_toArray, List.set_cons_zero, List.set_cons_succ]
          refine wpAnyH_ready (rs := [12]) (by kernel_rfl) (by simp) ?_
          refine AllReadyH.cons rfl (fun K hK => ?_) AllReadyH.nil
          go_simp
          refine hK.out _ _ (HSX.out _ (held_alloc_drew (held_start W) _)) (fun hHeld => ?_)
          clear hK K
          try simp only [Act.put, List.getElem_toArray, List.getElem_cons_succ, List.getElem_cons_zero, List.setIfInBounds_toArray, List.set_cons_zero, List.set_cons_succ]
          refine wpAnyH_ready (rs := [13]) (by kernel_rfl) (by simp) ?_
          refine AllReadyH.cons rfl (fun K hK => ?_) AllReadyH.nil
          refine step_append_row (by rfl) (.tmp 59) (.tmp 71) (by rfl) oel w2.heap.size _ k (ov (ag (l.take k)).2) (by rfl) (own_drew (own_keep HOW.out ((Below.refl _ _).alloc (Nat.le_refl _) _))) (W.heap.size + 1) _ 1 1 (ov [⟨s1 + bigZ f.lsn 3, modZ z1 2, z2, z3, z4⟩]) (by rfl) (Row.drew (oone W ⟨s1 + bigZ f.lsn 3, modZ z1 2, z2, z3, z4⟩ rfl)) (ov_one _) (by omega) (by omega) (by have := HBW.out.size; simp [World.drew]; omega) ?_
          intro A4 c4 w4 ho4 hg4 hb4
          rw [← ov_append] at ho4
          have HO4 := Lib.hid ho4
          have HB4 : Hid (Below w2.heap.size w2 w4) := ((HBW.out.alloc HBW.out.size _).drew).trans hb4
          have HS4 : Hid (w4.cell? ⟨wo.heap.size, 1, none⟩ = some (.int .i64 z1) ∧ w4.cell? ⟨wo.heap.size, 2, none⟩ = some (.int .i64 z2) ∧ w4.cell? ⟨wo.heap.size, 3, none⟩ = some (.bool z3) ∧ w4.cell? ⟨wo.heap.size, 4, none⟩ = some (.string z4)) := by
            have hne : some wo.heap.size ≠ (Value.slice A k c).ownBlock := fun e => by have := HO.out.lt _ e.symm; have := HBO.out.size; omega
            have hlt4 : wo.heap.size < (W.alloc (.cells #[.int .i64 (s1 + bigZ f.lsn 3), .int .i64 (modZ z1 2), .int .i64 z2, .bool z3, .string z4] 32)).drew.heap.size := by have h0 : wo.heap.size < W.heap.size := HXW.out.lt; simp [World.drew]; omega
            have h0 := HSX.out _ (held_alloc_drew (held_start W) (.cells #[.int .i64 (s1 + bigZ f.lsn 3), .int .i64 (modZ z1 2), .int .i64 z2, .bool z3, .string z4] 32))
            exact ⟨(hg4.cell (p := ⟨wo.heap.size, 1, none⟩) hlt4 hne).trans h0.1, (hg4.cell (p := ⟨wo.heap.size, 2, none⟩) hlt4 hne).trans h0.2.1, (hg4.cell (p := ⟨wo.heap.size, 3, none⟩) hlt4 hne).trans h0.2.2.1, (hg4.cell (p := ⟨wo.heap.size, 4, none⟩) hlt4 hne).trans h0.2.2.2⟩
          clear ho4 hg4 hb4
          refine hK.out _ _ HS4.out (fun hHeld => ?_)
          clear hK K
          try simp only [Act.put, List.getElem_toArray, List.getElem_cons_succ, List.getElem_cons_zero, List.setIfInBounds_toArray, List.set_cons_zero, List.set_cons_succ]
          refine wpAnyH_take (i := 14) (v := ?cv14) rfl (by kernel_rfl) (by kernel_rfl) (by kernel_rfl) (fun _ _ _ h => h) (Or.inl ⟨by rfl, ?cy14⟩) (by assumption) ?cr14
          case cy14 => (intro w hSw; (try dsimp only at hSw); go_simp; try with_reducible rfl)
          try simp only [Act.put, List.getElem_toArray, List.getElem_cons_succ, List.getElem_cons_zero, List.setIfInBounds_toArray, List.set_cons_zero, List.set_cons_succ]
          refine wpAnyH_done (by kernel_rfl) ?_ _
          have HN1 : Hid ((ag (l.take (k + 1))).1 = s1 + bigZ f.lsn 3) := by show _ = _; rw [HST.out, ← HS1.out]; rfl
          have HN2 : Hid ((ag (l.take (k + 1))).2 = (ag (l.take k)).2 ++ [⟨s1 + bigZ f.lsn 3, modZ z1 2, z2, z3, z4⟩]) := by show _ = _; rw [HST.out]; unfold agStep; rw [← HOZ.out, HS1.out]
          clear hHeld
          go_wp2_with fail
          go_roundw
          case rel => exact ⟨k + 1, by go_num, by omega, by omega, A4, c4, rfl, by rw [HN1.out], by rw [HN2.out]; exact HO4.out, HB4.out⟩
          case measure => simp [Go.RowKit.intOf]; omega
        · have l1 : (k : Int) < (n : Int) := by omega
          have l2 : decide ((k : Int) < 60) = false := decide_eq_false (by omega)
          go_wp2_with fail
          go_meet
          exact ⟨k, hkn, hk60, A, c, rfl, rfl, HO.out, HBL.out⟩
      · have l1 : decide ((k : Int) < (n : Int)) = false := decide_eq_false (by omega)
        have l1n : decide (k < n) = false := decide_eq_false hlt
        go_wp2_with fail
        go_meet
        exact ⟨k, hkn, hk60, A, c, rfl, rfl, HO.out, HBL.out⟩
  obtain ⟨k, hkn, hk60, A, c, rfl, _, ho, hbl⟩ := hcut
  have HOK := ag_ok (l.take k)
  have hlk : (l.take k).length = k := by rw [List.length_take, HL.out]; omega
  have HLL : Hid ((ag (l.take k)).2.length = k) := HOK.len.trans hlk
  have HNF := Lib.hid HOK.rise
  have HTB := Lib.hid HOK.tbl
  have HKY : Hid (∀ o ∈ (ag (l.take k)).2, In64 o.key) := HOK.key (fun o ho => HK.out o (List.mem_of_mem_take ho))
  generalize (ag (l.take k)).2 = L at *
  clear HOK hlk
  have hkc : k ≤ c := (Gps.le (Gps.of_own ho)).1
  have HAO : Hid (∀ b off, A = some ⟨b, off, none⟩ → w2.heap.size ≤ b) := fun b off e => by
    subst e
    rcases own_addr ho with ⟨h1, _⟩ | ⟨g, h1⟩
    · cases h1
    · injection h1 with h1
      injection h1 with h1 _
      exact (ho.lt b rfl).1
  have HOA : Hid (∀ b off, A = some ⟨b, off, none⟩ → ¬ Own w.heap.size 2 b) := fun b off e => not_own (by have := HAO.out b off e; have := HZ1.out; have := HZ2.out; omega)
  have HOB : Hid (∀ b off, A = some ⟨b, off, none⟩ → ¬ Own w1.heap.size 2 b) := fun b off e => not_own (by have := HAO.out b off e; have := HZ2.out; omega)
  have hab : w.heap.size + 2 + 2 ≤ w1.heap.size := by have := HZ1.out; omega
  have HLW := Lib.hid (Gps.of_own ho)
  have HGA3 := Lib.hid (HGA2.out.new hbl)
  have HGB3 := Lib.hid (HGB.out.new hbl)
  have HB3 := Lib.hid (HB2.out.trans (hbl.mono HB2.out.size))
  have hs12 : w.heap.size ≤ w1.heap.size := HB1.out.size
  clear ho hbl
  -- a.Put(ops...)
  go_wp2_with fail
  refine (put_any w.heap.size 2 0 (E 2) wc.heap.size A k c L _ HGA3.out HLW.out (Nat.le_refl _) HOA.out HKY.out (by rw [HLL.out]; omega) (by omega)).mono ?_
  rintro e w4 ⟨rfl, hg4, ht4⟩
  have HCT : Hid (cnt (E 2) L = k) := by show _ = _; rw [all_play 2 L HNF.out HTB.out, HLL.out]
  rw [HCT.out]
  have HGA4 := Lib.hid hg4
  have HGB4 := Lib.hid (HGB3.out.apart ht4 (own_two hab))
  have HL4 := Lib.hid ((HLW.out.apart (Nat.le_refl _) HOA.out ht4).more ht4.size)
  have HB4 : Hid (Below w.heap.size w w4) := HB3.out.trans (turn_below ht4 (Nat.le_refl _) HB3.out.size)
  clear hg4 ht4
  -- b.Put(ops[:m]...)
  have HMC := Lib.hid (fun w => mod_any cut (k + 1) w (by omega) (by omega))
  have hmlt := modZ_lt cut (n := k + 1) (by omega)
  generalize hmm : modZ cut (k + 1) = m at *
  have hmc : m ≤ c := by omega
  have hmk : m ≤ k := by omega
  have hW1 : ((k + 1 : Nat) : Int) = (k : Int) + 1 := by omega
  clear hmm
  rw [hW1] at HMC
  go_wp2_with (go_at_call 7; refine (HMC.out _).mono ?_; rintro e wx ⟨rfl, rfl⟩)
  have HLT : Hid ((L.take m).length = m) := by show _ = _; rw [List.length_take, HLL.out]; omega
  refine (put_any w1.heap.size 2 0 (E 2) w4.heap.size A m c (L.take m) _ HGB4.out (HL4.out.front hmk) (Nat.le_refl _) HOB.out (fun o ho => HKY.out o (List.mem_of_mem_take ho)) (by rw [HLT.out]; omega) (by omega)).mono ?_
  rintro e w5 ⟨rfl, hg5, ht5⟩
  have HGB5 := Lib.hid hg5
  have HGA5 := Lib.hid (HGA4.out.apart ht5 (own_two' hab))
  have HL5 := Lib.hid ((HL4.out.apart (Nat.le_refl _) HOB.out ht5).more ht5.size)
  have HB5 : Hid (Below w.heap.size w w5) := HB4.out.trans (turn_below ht5 hs12 HB4.out.size)
  clear hg5 ht5
  -- b.Put(ops...), twice
  go_wp2_with fail
  refine (put_any w1.heap.size 2 _ _ w5.heap.size A k c L _ HGB5.out HL5.out (Nat.le_refl _) HOB.out HKY.out (by rw [HLL.out, HLT.out]; omega) (by omega)).mono ?_
  rintro e w6 ⟨rfl, hg6, ht6⟩
  have HGB6 := Lib.hid hg6
  have HGA6 := Lib.hid (HGA5.out.apart ht6 (own_two' hab))
  have HL6 := Lib.hid ((HL5.out.apart (Nat.le_refl _) HOB.out ht6).more ht6.size)
  have HB6 : Hid (Below w.heap.size w w6) := HB5.out.trans (turn_below ht6 hs12 HB5.out.size)
  clear hg6 ht6
  go_wp2_with fail
  refine (put_any w1.heap.size 2 _ _ w6.heap.size A k c L _ HGB6.out HL6.out (Nat.le_refl _) HOB.out HKY.out (by rw [HLL.out, HLT.out]; omega) (by omega)).mono ?_
  rintro e w7 ⟨rfl, hg7, ht7⟩
  have HGB7 := Lib.hid hg7
  have HGA7 := Lib.hid (HGA6.out.apart ht7 (own_two' hab))
  have HB7 : Hid (Below w.heap.size w w7) := HB6.out.trans (turn_below ht7 hs12 HB6.out.size)
  clear hg7 ht7
  have HT0 : Hid (tab (doAll (doAll (doAll (E 2) (L.take m)) L) L) 0 = tab (doAll (E 2) L) 0) := again_tab 2 (by decide) L HNF.out m
  have HT1 : Hid (tab (doAll (doAll (doAll (E 2) (L.take m)) L) L) 1 = tab (doAll (E 2) L) 1) := again_tab 2 (by decide) L HNF.out m
  have hMA : 0 + L.length ≤ 1099511627774 := by rw [HLL.out]; omega
  have hMB : 0 + (L.take m).length + L.length + L.length ≤ 1099511627774 := by rw [HLL.out, HLT.out]; omega
  have HMA := Lib.hid hMA
  have HMB := Lib.hid hMB
  clear hMA hMB hW1
  -- what is answered
  go_wp2_with fail
  refine (awake_any _).mono ?_
  rintro e w8 ⟨rfl, hb8⟩
  have HGA8 := Lib.hid (HGA7.out.new hb8)
  have HGB8 := Lib.hid (HGB7.out.new hb8)
  have HB8 : Hid (Below w.heap.size w w8) := held_two HB7.out hb8
  clear hb8
  go_wp2_with fail
  refine (cells_any w.heap.size 2 _ _ 0 _ HGA8.out HMA.out (by omega)).mono ?_
  rintro e w9 ⟨A9, c9, rfl, h9, hb9⟩
  have HC9 := Lib.hid (Ces.of_own h9)
  have HGA9 := Lib.hid (HGA8.out.new hb9)
  have HGB9 := Lib.hid (HGB8.out.new hb9)
  have HB9 : Hid (Below w.heap.size w w9) := held_two HB8.out hb9
  clear h9 hb9
  go_wp2_with fail
  refine (cells_any w1.heap.size 2 _ _ 0 _ HGB9.out HMB.out (by omega)).mono ?_
  rw [HT0.out]
  rintro e w10 ⟨A10, c10, rfl, h10, hb10⟩
  have HC10 := Lib.hid (Ces.of_own h10)
  have HC9b := Lib.hid (HC9.out.below hb10)
  have HGA10 := Lib.hid (HGA9.out.new hb10)
  have HGB10 := Lib.hid (HGB9.out.new hb10)
  have HB10 : Hid (Below w.heap.size w w10) := held_two HB9.out hb10
  have hs10 := hb10.size
  clear h10 hb10
  go_wp2_with fail
  refine (cplain_same w9.heap.size w10.heap.size A9 A10 _ _ c9 c10 _ _ HC9b.out HC10.out hs10 (Nat.le_refl _)).mono ?_
  rintro e w11 ⟨rfl, hb11⟩
  have HGA11 := Lib.hid (HGA10.out.new hb11)
  have HGB11 := Lib.hid (HGB10.out.new hb11)
  have HB11 : Hid (Below w.heap.size w w11) := held_two HB10.out hb11
  clear hb11
  go_wp2_with fail
  refine (cells_any w.heap.size 2 _ _ 1 _ HGA11.out HMA.out (by omega)).mono ?_
  rintro e w12 ⟨A12, c12, rfl, h12, hb12⟩
  have HC12 := Lib.hid (Ces.of_own h12)
  have HGB12 := Lib.hid (HGB11.out.new hb12)
  have HB12 : Hid (Below w.heap.size w w12) := held_two HB11.out hb12
  clear h12 hb12
  go_wp2_with fail
  refine (cells_any w1.heap.size 2 _ _ 1 _ HGB12.out HMB.out (by omega)).mono ?_
  rw [HT1.out]
  rintro e w13 ⟨A13, c13, rfl, h13, hb13⟩
  have HC13 := Lib.hid (Ces.of_own h13)
  have HC12b := Lib.hid (HC12.out.below hb13)
  have HB13 : Hid (Below w.heap.size w w13) := held_two HB12.out hb13
  have hs13 := hb13.size
  clear h13 hb13
  go_wp2_with fail
  refine (cplain_same w12.heap.size w13.heap.size A12 A13 _ _ c12 c13 _ _ HC12b.out HC13.out hs13 (Nat.le_refl _)).mono ?_
  rintro e w14 ⟨rfl, hb14⟩
  have HB14 : Hid (Below w.heap.size w w14) := held_two HB13.out hb14
  clear hb14
  go_wp2
  go_ret
  exact ⟨by first | rfl | simp, HB14.out⟩
end Go.Proofs.Ytlbgpfiiiggofaa.Gd
