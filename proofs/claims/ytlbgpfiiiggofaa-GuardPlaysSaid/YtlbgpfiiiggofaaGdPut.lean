/-
  Package guard: contracts of put of one table, of put of the tables, of Put. No condition but the sizes said.
-/
import Derived.Test.YtlbgpfiiiggofaaGdCode
import Derived.Deep.DeepCutAuto
namespace Go.Proofs.Ytlbgpfiiiggofaa.Gd
set_option linter.unusedVariables false
set_option linter.unusedSimpArgs false
set_option maxRecDepth 100000
open Go.RowKit Base GuardMath Foot
open Last (wp_region_last_at then_normal)
set_option linter.ambiguousOpen false

def TPut (w : World) (b M : Nat) (T : List Ce) (o : Gp) (e : Ending) (w' : World) : Prop := e = .returned (.bool (!held T o)) ∧ MapAt w' b (M + 1) (put T o) ∧ w.grownBy w' (some b)
set_option maxHeartbeats 3200000 in
theorem tput_any (b M : Nat) (T : List Ce) (o : Gp) (w : World) (hT : Rise T) (hk : In64 o.key) (hM : M ≤ 1099511627774) (hown : MapAt w b M T) :
    Calls Try.prog 29 #[.map (some b), oval o] w (TPut w b M T o) := by
  obtain ⟨o0, o1, o2, o3, o4⟩ := o
  have hbx : Below w.heap.size w (w.alloc (.cells #[.int .i64 o0, .int .i64 o1, .int .i64 o2, .bool o3, .string o4] 32)) := (Below.refl _ _).alloc (Nat.le_refl _) _
  have hlk := (hown.same (hbx.block b hown.lt)).look hT (k := o2) hk
  have hmx := hown.same (hbx.block b hown.lt)
  have HX : Hid (Blk (w.alloc (.cells #[.int .i64 o0, .int .i64 o1, .int .i64 o2, .bool o3, .string o4] 32)) w.heap.size 32 #[.int .i64 o0, .int .i64 o1, .int .i64 o2, .bool o3, .string o4]) := Blk.new _ _ _
  have HB0 := Lib.hid hbx
  have HM0 := Lib.hid hmx
  have HO0 := Lib.hid hown
  have HK := Lib.hid hk
  have HR := Lib.hid hT
  have HHD : Hid (held T ⟨o0, o1, o2, o3, o4⟩ = match at_ T o2 with | none => false | some x => decide (o0 < x.lsn)) := (rfl : _ = _)
  have HPU : Hid (put T ⟨o0, o1, o2, o3, o4⟩ = if held T ⟨o0, o1, o2, o3, o4⟩ then T else ins T (mk ⟨o0, o1, o2, o3, o4⟩)) := (rfl : _ = _)
  unfold oval
  dsimp only
  clear hbx hmx hown hk hT
  have HNW : Hid (∀ v : Array Value, Blk ((w.alloc (.cells #[.int .i64 o0, .int .i64 o1, .int .i64 o2, .bool o3, .string o4] 32)).alloc (.cells v 38)) w.heap.size 32 #[.int .i64 o0, .int .i64 o1, .int .i64 o2, .bool o3, .string o4] ∧ MapAt ((w.alloc (.cells #[.int .i64 o0, .int .i64 o1, .int .i64 o2, .bool o3, .string o4] 32)).alloc (.cells v 38)) b M T ∧ Below w.heap.size w ((w.alloc (.cells #[.int .i64 o0, .int .i64 o1, .int .i64 o2, .bool o3, .string o4] 32)).alloc (.cells v 38))) := fun v =>
    ⟨HX.out.alloc _, HM0.out.same (((Below.refl _ _).alloc (Nat.le_refl _) _ : Below (w.alloc (.cells #[.int .i64 o0, .int .i64 o1, .int .i64 o2, .bool o3, .string o4] 32)).heap.size _ _).block b HM0.out.lt), HB0.out.alloc HB0.out.size _⟩
  clear HX HB0 HM0
  cases hat : at_ T o2 with
  | none =>
    have HH : Hid (held T ⟨o0, o1, o2, o3, o4⟩ = false) := by show _ = _; rw [HHD.out, hat]
    have HP : Hid (put T ⟨o0, o1, o2, o3, o4⟩ = ins T (mk ⟨o0, o1, o2, o3, o4⟩)) := by show _ = _; rw [HPU.out, HH.out]; rfl
    rw [hat] at hlk
    simp only [Option.getD_none, Option.isSome_none, cval, noCe] at hlk
    have N := HNW.out #[.int .i64 0, .int .i64 0, .bool false, .string ⟨#[]⟩]
    clear HHD HPU hat HNW
    go_enter Try.func29, Try.ntmps29
    go_upto_region 2 with fail
    clear hlk
    generalize ((w.alloc (.cells #[.int .i64 o0, .int .i64 o1, .int .i64 o2, .bool o3, .string o4] 32)).alloc (.cells #[.int .i64 0, .int .i64 0, .bool false, .string ⟨#[]⟩] 38)) = W at N ⊢
    have HXW := Lib.hid N.1
    have HMW := Lib.hid N.2.1
    have HBW := Lib.hid N.2.2
    clear N
    go_upto_region 4 with fail
    have HSX : Hid (∀ wx, Below W.heap.size W wx → wx.cell? ⟨w.heap.size, 0, none⟩ = some (.int .i64 o0) ∧ wx.cell? ⟨w.heap.size, 1, none⟩ = some (.int .i64 o1) ∧ wx.cell? ⟨w.heap.size, 2, none⟩ = some (.int .i64 o2) ∧ wx.cell? ⟨w.heap.size, 3, none⟩ = some (.bool o3) ∧ wx.cell? ⟨w.heap.size, 4, none⟩ = some (.string o4)) := fun wx hb => ⟨held_cell hb (HXW.out.cell 0), held_cell hb (HXW.out.cell 1), held_cell hb (HXW.out.cell 2), held_cell hb (HXW.out.cell 3), held_cell hb (HXW.out.cell 4)⟩
    refine wp_region_last_at (S := fun w' => w'.cell? ⟨w.heap.size, 0, none⟩ = some (.int .i64 o0) ∧ w'.cell? ⟨w.heap.size, 1, none⟩ = some (.int .i64 o1) ∧ w'.cell? ⟨w.heap.size, 2, none⟩ = some (.int .i64 o2) ∧ w'.cell? ⟨w.heap.size, 3, none⟩ = some (.bool o3) ∧ w'.cell? ⟨w.heap.size, 4, none⟩ = some (.string o4)) 5 _ rfl rfl (by kernel_rfl) (by kernel_rfl) (by kernel_rfl) (HSX.out _ (held_start W)) (fun hHeld => ?_)
    simp only [List.take_succ_cons, List.take_zero]
    refine wpAnyH_take (i := 0) (v := ?av0) rfl (by kernel_rfl) (by kernel_rfl) (by kernel_rfl) (fun _ _ _ h => h) (Or.inl ⟨by rfl, ?ay0⟩) (by assumption) ?ar0
    case ay0 => (intro w hSw; (try dsimp only at hSw); go_simp; try with_reducible rfl)
    try simp only [Act.put, List.getElem_toArray, List.getElem_cons_succ, List.getElem_cons_zero, List.setIfInBounds_toArray, List.set_cons_zero, List.set_cons_succ]
    refine wpAnyH_take (i := 1) (v := ?av1) rfl (by kernel_rfl) (by kernel_rfl) (by kernel_rfl) (fun _ _ _ h => h) (Or.inl ⟨by rfl, ?ay1⟩) (by assumption) ?ar1
    case ay1 => (intro w hSw; (try dsimp only at hSw); go_simp; try with_reducible rfl)
    try simp only [Act.put, List.getElem_toArray, List.getElem_cons_succ, List.getElem_cons_zero, List.setIfInBounds_toArray, List.set_cons_zero, List.set_cons_succ]
    refine wpAnyH_take (i := 2) (v := ?av2) rfl (by kernel_rfl) (by kernel_rfl) (by kernel_rfl) (fun _ _ _ h => h) (Or.inl ⟨by rfl, ?ay2⟩) (by assumption) ?ar2
    case ay2 => (intro w hSw; (try dsimp only at hSw); go_simp; try with_reducible rfl)
    try simp only [Act.put, List.getElem_toArray, List.getElem_cons_succ, List.getElem_cons_zero, List.setIfInBounds_toArray, List.set_cons_zero, List.set_cons_succ]
    refine wpAnyH_take (i := 3) (v := ?av3) rfl (by kernel_rfl) (by kernel_rfl) (by kernel_rfl) (fun _ _ _ h => h) (Or.inl ⟨by rfl, ?ay3⟩) (by assumption) ?ar3
    case ay3 => (intro w hSw; (try dsimp only at hSw); go_simp; try with_reducible rfl)
    try simp only [Act.put, List.getElem_toArray, List.getElem_cons_succ, List.getElem_cons_zero, List.setIfInBounds_toArray, List.set_cons_zero, List.set_cons_succ]
    refine wpAnyH_ready (rs := [4]) (by kernel_rfl) (by simp) ?_
    refine AllReadyH.cons rfl (fun K hK => ?_) AllReadyH.nil
    go_simp
    go_at_call 31
    refine (mkcell_any ⟨o0, o1, o2, o3, o4⟩ _).mono ?_
    rintro e wy ⟨rfl, hb3⟩
    have HB3 : Hid (Below W.heap.size W wy) := held_call (held_start W) hb3
    clear hb3
    refine hK.out _ _ (HSX.out _ HB3.out) (fun hHeld => ?_)
    clear hK K
    try simp only [Act.put, List.getElem_toArray, List.getElem_cons_succ, List.getElem_cons_zero, List.setIfInBounds_toArray, List.set_cons_zero, List.set_cons_succ]
    refine wpAnyH_done (by kernel_rfl) ?_ _
    refine then_normal rfl ?_
    refine wpList_mapUpdate_own _ rfl _ _ _ 58 rfl 2 38 int_law Try.underlying58 rdC b _ _ rfl (HMW.out.same (HB3.out.block b HMW.out.lt)) (by unfold maxLen; omega) (.int .i64 o2) (cval (mk ⟨o0, o1, o2, o3, o4⟩)) _ rfl rfl (key_of HK.out) (datC (mk ⟨o0, o1, o2, o3, o4⟩)) [] (rdC_mk _) ?_
    intro w2 hw2 hg2
    have hp := cents_put HR.out (mk ⟨o0, o1, o2, o3, o4⟩)
    rw [show (DataW.map (cents T)).put (.int .i64 o2) (datC (mk ⟨o0, o1, o2, o3, o4⟩)) = .map (cents (ins T (mk ⟨o0, o1, o2, o3, o4⟩))) from hp, ← HP.out] at hw2
    have HW2 := Lib.hid hw2
    have HG2 : Hid (w.grownBy w2 (some b)) := only_trans (only_trans (only_of_below HBW.out (some b)) (only_of_below HB3.out (some b)) (.inl rfl)) hg2 (.inl rfl)
    clear hw2 hg2 hp
    go_wp2
    go_ret
    exact ⟨by rw [HH.out]; rfl, HW2.out, HG2.out⟩
  | some x =>
    obtain ⟨x0, x1, x2, x3⟩ := x
    rw [hat] at hlk
    simp only [Option.getD_some, Option.isSome_some, cval] at hlk
    have N := HNW.out #[.int .i64 x0, .int .i64 x1, .bool x2, .string x3]
    by_cases hlt : o0 < x1
    · have HH : Hid (held T ⟨o0, o1, o2, o3, o4⟩ = true) := by show _ = _; rw [HHD.out, hat]; exact decide_eq_true hlt
      have HP : Hid (put T ⟨o0, o1, o2, o3, o4⟩ = T) := by show _ = _; rw [HPU.out, HH.out]; rfl
      have HLT := Lib.hid hlt
      have HN := Lib.hid N
      clear HHD HPU hat HNW N
      go_enter Try.func29, Try.ntmps29
      go_wp2
      go_ret
      exact ⟨by rw [HH.out]; rfl, by rw [HP.out]; exact World.ownsMap.mono HN.out.2.1 (Nat.le_succ _), only_of_below HN.out.2.2 _⟩
    · have HH : Hid (held T ⟨o0, o1, o2, o3, o4⟩ = false) := by show _ = _; rw [HHD.out, hat]; exact decide_eq_false hlt
      have HP : Hid (put T ⟨o0, o1, o2, o3, o4⟩ = ins T (mk ⟨o0, o1, o2, o3, o4⟩)) := by show _ = _; rw [HPU.out, HH.out]; rfl
      have l1 : decide (o0 < x1) = false := decide_eq_false hlt
      clear HHD HPU hat HNW
      go_enter Try.func29, Try.ntmps29
      go_upto_region 2 with fail
      clear hlk
      have y : Blk ((w.alloc (.cells #[.int .i64 o0, .int .i64 o1, .int .i64 o2, .bool o3, .string o4] 32)).alloc (.cells #[.int .i64 x0, .int .i64 x1, .bool x2, .string x3] 38)) (w.heap.size + 1) 38 #[.int .i64 x0, .int .i64 x1, .bool x2, .string x3] := by
        have := Blk.new (w.alloc (.cells #[.int .i64 o0, .int .i64 o1, .int .i64 o2, .bool o3, .string o4] 32)) 38 #[.int .i64 x0, .int .i64 x1, .bool x2, .string x3]
        simpa using this
      generalize ((w.alloc (.cells #[.int .i64 o0, .int .i64 o1, .int .i64 o2, .bool o3, .string o4] 32)).alloc (.cells #[.int .i64 x0, .int .i64 x1, .bool x2, .string x3] 38)) = W at N y ⊢
      have y1 : W.cell? ⟨w.heap.size + 1, 1, none⟩ = some (.int .i64 x1) := y.cell 1
      have z0 : W.cell? ⟨w.heap.size, 0, none⟩ = some (.int .i64 o0) := N.1.cell 0
      have HXW := Lib.hid N.1
      have HMW := Lib.hid N.2.1
      have HBW := Lib.hid N.2.2
      clear N y
      go_upto_region 4 with fail
      have HSX : Hid (∀ wx, Below W.heap.size W wx → wx.cell? ⟨w.heap.size, 0, none⟩ = some (.int .i64 o0) ∧ wx.cell? ⟨w.heap.size, 1, none⟩ = some (.int .i64 o1) ∧ wx.cell? ⟨w.heap.size, 2, none⟩ = some (.int .i64 o2) ∧ wx.cell? ⟨w.heap.size, 3, none⟩ = some (.bool o3) ∧ wx.cell? ⟨w.heap.size, 4, none⟩ = some (.string o4)) := fun wx hb => ⟨held_cell hb (HXW.out.cell 0), held_cell hb (HXW.out.cell 1), held_cell hb (HXW.out.cell 2), held_cell hb (HXW.out.cell 3), held_cell hb (HXW.out.cell 4)⟩
      refine wp_region_last_at (S := fun w' => w'.cell? ⟨w.heap.size, 0, none⟩ = some (.int .i64 o0) ∧ w'.cell? ⟨w.heap.size, 1, none⟩ = some (.int .i64 o1) ∧ w'.cell? ⟨w.heap.size, 2, none⟩ = some (.int .i64 o2) ∧ w'.cell? ⟨w.heap.size, 3, none⟩ = some (.bool o3) ∧ w'.cell? ⟨w.heap.size, 4, none⟩ = some (.string o4)) 5 _ rfl rfl (by kernel_rfl) (by kernel_rfl) (by kernel_rfl) (HSX.out _ (held_start W)) (fun hHeld => ?_)
      simp only [List.take_succ_cons, List.take_zero]
      refine wpAnyH_take (i := 0) (v := ?bv0) rfl (by kernel_rfl) (by kernel_rfl) (by kernel_rfl) (fun _ _ _ h => h) (Or.inl ⟨by rfl, ?by0⟩) (by assumption) ?br0
      case by0 => (intro w hSw; (try dsimp only at hSw); go_simp; try with_reducible rfl)
      try simp only [Act.put, List.getElem_toArray, List.getElem_cons_succ, List.getElem_cons_zero, List.setIfInBounds_toArray, List.set_cons_zero, List.set_cons_succ]
      refine wpAnyH_take (i := 1) (v := ?bv1) rfl (by kernel_rfl) (by kernel_rfl) (by kernel_rfl) (fun _ _ _ h => h) (Or.inl ⟨by rfl, ?by1⟩) (by assumption) ?br1
      case by1 => (intro w hSw; (try dsimp only at hSw); go_simp; try with_reducible rfl)
      try simp only [Act.put, List.getElem_toArray, List.getElem_cons_succ, List.getElem_cons_zero, List.setIfInBounds_toArray, List.set_cons_zero, List.set_cons_succ]
      refine wpAnyH_take (i := 2) (v := ?bv2) rfl (by kernel_rfl) (by kernel_rfl) (by kernel_rfl) (fun _ _ _ h => h) (Or.inl ⟨by rfl, ?by2⟩) (by assumption) ?br2
      case by2 => (intro w hSw; (try dsimp only at hSw); go_simp; try with_reducible rfl)
      try simp only [Act.put, List.getElem_toArray, List.getElem_cons_succ, List.getElem_cons_zero, List.setIfInBounds_toArray, List.set_cons_zero, List.set_cons_succ]
      refine wpAnyH_take (i := 3) (v := ?bv3) rfl (by kernel_rfl) (by kernel_rfl) (by kernel_rfl) (fun _ _ _ h => h) (Or.inl ⟨by rfl, ?by3⟩) (by assumption) ?br3
      case by3 => (intro w hSw; (try dsimp only at hSw); go_simp; try with_reducible rfl)
      try simp only [Act.put, List.getElem_toArray, List.getElem_cons_succ, List.getElem_cons_zero, List.setIfInBounds_toArray, List.set_cons_zero, List.set_cons_succ]
      refine wpAnyH_ready (rs := [4]) (by kernel_rfl) (by simp) ?_
      refine AllReadyH.cons rfl (fun K hK => ?_) AllReadyH.nil
      go_simp
      go_at_call 31
      refine (mkcell_any ⟨o0, o1, o2, o3, o4⟩ _).mono ?_
      rintro e wy ⟨rfl, hb3⟩
      have HB3 : Hid (Below W.heap.size W wy) := held_call (held_start W) hb3
      clear hb3
      refine hK.out _ _ (HSX.out _ HB3.out) (fun hHeld => ?_)
      clear hK K
      try simp only [Act.put, List.getElem_toArray, List.getElem_cons_succ, List.getElem_cons_zero, List.setIfInBounds_toArray, List.set_cons_zero, List.set_cons_succ]
      refine wpAnyH_done (by kernel_rfl) ?_ _
      refine then_normal rfl ?_
      refine wpList_mapUpdate_own _ rfl _ _ _ 58 rfl 2 38 int_law Try.underlying58 rdC b _ _ rfl (HMW.out.same (HB3.out.block b HMW.out.lt)) (by unfold maxLen; omega) (.int .i64 o2) (cval (mk ⟨o0, o1, o2, o3, o4⟩)) _ rfl rfl (key_of HK.out) (datC (mk ⟨o0, o1, o2, o3, o4⟩)) [] (rdC_mk _) ?_
      intro w2 hw2 hg2
      have hp := cents_put HR.out (mk ⟨o0, o1, o2, o3, o4⟩)
      rw [show (DataW.map (cents T)).put (.int .i64 o2) (datC (mk ⟨o0, o1, o2, o3, o4⟩)) = .map (cents (ins T (mk ⟨o0, o1, o2, o3, o4⟩))) from hp, ← HP.out] at hw2
      have HW2 := Lib.hid hw2
      have HG2 : Hid (w.grownBy w2 (some b)) := only_trans (only_trans (only_of_below HBW.out (some b)) (only_of_below HB3.out (some b)) (.inl rfl)) hg2 (.inl rfl)
      clear hw2 hg2 hp
      go_wp2
      go_ret
      exact ⟨by rw [HH.out]; rfl, HW2.out, HG2.out⟩

/-! ### put of the tables -/
def GPut (w : World) (g n M : Nat) (T : List (List Ce)) (o : Gp) (e : Ending) (w' : World) : Prop := e = .returned (.bool (plays T o)) ∧ GAt w' g n (M + 1) (do1 T o) ∧ Turn (Own g n) w w'
set_option maxHeartbeats 3200000 in
theorem gput_any (g n M : Nat) (T : List (List Ce)) (o : Gp) (w : World) (h : GAt w g n M T) (hk : In64 o.key) (hM : M ≤ 1099511627774) (hn : n ≤ 8) :
    Calls Try.prog 22 #[.slice (some ⟨g, 0, none⟩) n n, oval o] w (GPut w g n M T o) := by
  obtain ⟨o0, o1, o2, o3, o4⟩ := o
  have hbx : Below w.heap.size w (w.alloc (.cells #[.int .i64 o0, .int .i64 o1, .int .i64 o2, .bool o3, .string o4] 32)) := (Below.refl _ _).alloc (Nat.le_refl _) _
  have hx : Blk (w.alloc (.cells #[.int .i64 o0, .int .i64 o1, .int .i64 o2, .bool o3, .string o4] 32)) w.heap.size 32 #[.int .i64 o0, .int .i64 o1, .int .i64 o2, .bool o3, .string o4] := Blk.new _ _ _
  have hg := h.new hbx
  have HIT := Lib.hid (h.isT o1)
  have HRI := Lib.hid h.rise
  have HLE := Lib.hid h.len
  have HK := Lib.hid hk
  have HPL : Hid (plays T ⟨o0, o1, o2, o3, o4⟩ = (isT T o1 && !held (tab T o1) ⟨o0, o1, o2, o3, o4⟩)) := (rfl : _ = _)
  unfold oval
  dsimp only
  clear h hk
  go_enter Try.func22, Try.ntmps22
  go_upto_region 1 with fail
  generalize (w.alloc (.cells #[.int .i64 o0, .int .i64 o1, .int .i64 o2, .bool o3, .string o4] 32)) = W at hbx hx hg ⊢
  have HX := Lib.hid hx
  have HB := Lib.hid hbx
  have HG := Lib.hid hg
  clear hx hbx hg
  by_cases hit : isT T o1 = true
  · obtain ⟨i, rfl, hi⟩ := isT_nat hit
    have hin : i < n := by rw [← HLE.out]; exact hi
    have HI := Lib.hid hit
    have HTB : Hid (decide (0 ≤ (i : Int) ∧ (i : Int) < (n : Int)) = true) := by show _ = _; rw [← HIT.out]; exact hit
    have hlt : (i : Int) < (n : Int) := by omega
    clear hit
    have HSX : Hid (∀ wx, Below W.heap.size W wx → wx.cell? ⟨w.heap.size, 0, none⟩ = some (.int .i64 o0) ∧ wx.cell? ⟨w.heap.size, 1, none⟩ = some (.int .i64 i) ∧ wx.cell? ⟨w.heap.size, 2, none⟩ = some (.int .i64 o2) ∧ wx.cell? ⟨w.heap.size, 3, none⟩ = some (.bool o3) ∧ wx.cell? ⟨w.heap.size, 4, none⟩ = some (.string o4) ∧ wx.cell? ⟨g, i, none⟩ = some (.map (some (g + 2 + i)))) := fun wx hb => ⟨held_cell hb (HX.out.cell 0), held_cell hb (HX.out.cell 1), held_cell hb (HX.out.cell 2), held_cell hb (HX.out.cell 3), held_cell hb (HX.out.cell 4), held_cell hb (HG.out.cell hin)⟩
    refine Go.wp_region_held_drew (S := fun w' => w'.cell? ⟨w.heap.size, 0, none⟩ = some (.int .i64 o0) ∧ w'.cell? ⟨w.heap.size, 1, none⟩ = some (.int .i64 i) ∧ w'.cell? ⟨w.heap.size, 2, none⟩ = some (.int .i64 o2) ∧ w'.cell? ⟨w.heap.size, 3, none⟩ = some (.bool o3) ∧ w'.cell? ⟨w.heap.size, 4, none⟩ = some (.string o4) ∧ w'.cell? ⟨g, i, none⟩ = some (.map (some (g + 2 + i)))) (by kernel_rfl) (HSX.out _ (held_start W)) (fun hHeld => ?_)
    refine wpAnyH_take (i := 0) (v := ?cv0) rfl (by kernel_rfl) (by kernel_rfl) (by kernel_rfl) (fun _ _ _ h => h) (Or.inl ⟨by rfl, ?cy0⟩) (by assumption) ?cr0
    case cy0 => (intro w hSw; (try dsimp only at hSw); go_simp; try with_reducible rfl)
    try simp only [Act.put, List.getElem_toArray, List.getElem_cons_succ, List.getElem_cons_zero, List.setIfInBounds_toArray, List.set_cons_zero, List.set_cons_succ]
    refine wpAnyH_take (i := 1) (v := ?cv1) rfl (by kernel_rfl) (by kernel_rfl) (by kernel_rfl) (fun _ _ _ h => h) (Or.inl ⟨by rfl, ?cy1⟩) (by assumption) ?cr1
    case cy1 => (intro w hSw; (try dsimp only at hSw); go_simp; try with_reducible rfl)
    try simp only [Act.put, List.getElem_toArray, List.getElem_cons_succ, List.getElem_cons_zero, List.setIfInBounds_toArray, List.set_cons_zero, List.set_cons_succ]
    refine wpAnyH_take (i := 2) (v := ?cv2) rfl (by kernel_rfl) (by kernel_rfl) (by kernel_rfl) (fun _ _ _ h => h) (Or.inl ⟨by rfl, ?cy2⟩) (by assumption) ?cr2
    case cy2 => (intro w hSw; (try dsimp only at hSw); go_simp; try with_reducible rfl)
    try simp only [Act.put, List.getElem_toArray, List.getElem_cons_succ, List.getElem_cons_zero, List.setIfInBounds_toArray, List.set_cons_zero, List.set_cons_succ]
    refine wpAnyH_ready (rs := [3]) (by kernel_rfl) (by simp) ?_
    refine AllReadyH.cons rfl (fun K hK => ?_) AllReadyH.nil
    go_simp
    go_at_call 28
    refine (has_any _ _ _ _ _).mono ?_
    rintro e wx ⟨rfl, rfl⟩
    rw [HTB.out]
    refine hK.out _ _ (HSX.out _ (held_start W)) (fun hHeld => ?_)
    clear hK K
    try simp only [Act.put, List.getElem_toArray, List.getElem_cons_succ, List.getElem_cons_zero, List.setIfInBounds_toArray, List.set_cons_zero, List.set_cons_succ]
    refine wpAnyH_take (i := 4) (v := ?dv4) rfl (by kernel_rfl) (by kernel_rfl) (by kernel_rfl) (fun _ _ _ h => h) (Or.inl ⟨by rfl, ?dy4⟩) (by assumption) ?dr4
    case dy4 => (intro w hSw; (try dsimp only at hSw); go_simp; try with_reducible rfl)
    try simp only [Act.put, List.getElem_toArray, List.getElem_cons_succ, List.getElem_cons_zero, List.setIfInBounds_toArray, List.set_cons_zero, List.set_cons_succ]
    refine wpAnyH_take (i := 5) (v := ?dv5) rfl (by kernel_rfl) (by kernel_rfl) (by kernel_rfl) (fun _ _ _ h => h) (Or.inl ⟨by rfl, ?dy5⟩) (by assumption) ?dr5
    case dy5 => (intro w hSw; (try dsimp only at hSw); go_simp; try with_reducible rfl)
    try simp only [Act.put, List.getElem_toArray, List.getElem_cons_succ, List.getElem_cons_zero, List.setIfInBounds_toArray, List.set_cons_zero, List.set_cons_succ]
    refine wpAnyH_take (i := 6) (v := ?dv6) rfl (by kernel_rfl) (by kernel_rfl) (by kernel_rfl) (fun _ _ _ h => h) (Or.inl ⟨by rfl, ?dy6⟩) (by assumption) ?dr6
    case dy6 => (intro w hSw; (try dsimp only at hSw); go_simp; try with_reducible rfl)
    try simp only [Act.put, List.getElem_toArray, List.getElem_cons_succ, List.getElem_cons_zero, List.setIfInBounds_toArray, List.set_cons_zero, List.set_cons_succ]
    refine wpAnyH_take (i := 7) (v := ?dv7) rfl (by kernel_rfl) (by kernel_rfl) (by kernel_rfl) (fun _ _ _ h => h) (Or.inl ⟨by rfl, ?dy7⟩) (by assumption) ?dr7
    case dy7 => (intro w hSw; (try dsimp only at hSw); go_simp; try with_reducible rfl)
    try simp only [Act.put, List.getElem_toArray, List.getElem_cons_succ, List.getElem_cons_zero, List.setIfInBounds_toArray, List.set_cons_zero, List.set_cons_succ]
    refine wpAnyH_take (i := 8) (v := ?dv8) rfl (by kernel_rfl) (by kernel_rfl) (by kernel_rfl) (fun _ _ _ h => h) (Or.inl ⟨by rfl, ?dy8⟩) (by assumption) ?dr8
    case dy8 => (intro w hSw; (try dsimp only at hSw); go_simp; try with_reducible rfl)
    try simp only [Act.put, List.getElem_toArray, List.getElem_cons_succ, List.getElem_cons_zero, List.setIfInBounds_toArray, List.set_cons_zero, List.set_cons_succ]
    refine wpAnyH_take (i := 9) (v := ?dv9) rfl (by kernel_rfl) (by kernel_rfl) (by kernel_rfl) (fun _ _ _ h => h) (Or.inl ⟨by rfl, ?dy9⟩) (by assumption) ?dr9
    case dy9 => (intro w hSw; (try dsimp only at hSw); go_simp; try with_reducible rfl)
    try simp only [Act.put, List.getElem_toArray, List.getElem_cons_succ, List.getElem_cons_zero, List.setIfInBounds_toArray, List.set_cons_zero, List.set_cons_succ]
    refine wpAnyH_take (i := 10) (v := ?dv10) rfl (by kernel_rfl) (by kernel_rfl) (by kernel_rfl) (fun _ _ _ h => h) (Or.inl ⟨by rfl, ?dy10⟩) (by assumption) ?dr10
    case dy10 => (intro w hSw; (try dsimp only at hSw); go_simp; try with_reducible rfl)
    try simp only [Act.put, List.getElem_toArray, List.getElem_cons_succ, List.getElem_cons_zero, List.setIfInBounds_toArray, List.set_cons_zero, List.set_cons_succ]
    refine wpAnyH_ready (rs := [11]) (by kernel_rfl) (by simp) ?_
    refine AllReadyH.cons rfl (fun K hK => ?_) AllReadyH.nil
    go_simp
    go_at_call 29
    refine (tput_any (g + 2 + i) M (tab T (i : Int)) ⟨o0, i, o2, o3, o4⟩ W.drew (HRI.out _) HK.out hM (HG.out.each i hin)).mono ?_
    rintro e wy ⟨rfl, hm, hgr⟩
    have HGR : Hid (W.grownBy wy (some (g + 2 + i))) := only_of_drew hgr
    have HMY := Lib.hid hm
    clear hm hgr
    have HSY : Hid (wy.cell? ⟨w.heap.size, 0, none⟩ = some (.int .i64 o0) ∧ wy.cell? ⟨w.heap.size, 1, none⟩ = some (.int .i64 i) ∧ wy.cell? ⟨w.heap.size, 2, none⟩ = some (.int .i64 o2) ∧ wy.cell? ⟨w.heap.size, 3, none⟩ = some (.bool o3) ∧ wy.cell? ⟨w.heap.size, 4, none⟩ = some (.string o4) ∧ wy.cell? ⟨g, i, none⟩ = some (.map (some (g + 2 + i)))) := by
      have hgl := HG.out.lt (by omega)
      have hne : some w.heap.size ≠ some (g + 2 + i) := by have := HB.out.block; intro e; injection e with e; have h1 := (HG.out.each i hin); obtain ⟨_, _, h2, _⟩ := h1; rw [← e] at h2; have h3 : W.heap[w.heap.size]? = some (.cells _ _ (0, 0)) := HX.out; rw [h3] at h2; cases h2
      have hY : Blk wy w.heap.size 32 #[.int .i64 o0, .int .i64 i, .int .i64 o2, .bool o3, .string o4] := HX.out.grown HGR.out hne
      obtain ⟨arr, hb, hz, ha⟩ := HG.out.row
      have hR : Blk wy g 58 arr := hb.grown HGR.out (by simp; omega)
      exact ⟨hY.cell 0, hY.cell 1, hY.cell 2, hY.cell 3, hY.cell 4, by rw [hR.cell, ha i hin]⟩
    refine hK.out _ _ HSY.out (fun hHeld => ?_)
    clear hK K
    try simp only [Act.put, List.getElem_toArray, List.getElem_cons_succ, List.getElem_cons_zero, List.setIfInBounds_toArray, List.set_cons_zero, List.set_cons_succ]
    refine wpAnyH_take (i := 12) (v := ?fv12) rfl (by kernel_rfl) (by kernel_rfl) (by kernel_rfl) (fun _ _ _ h => h) (Or.inl ⟨by rfl, ?fy12⟩) (by assumption) ?fr12
    case fy12 => (intro w hSw; (try dsimp only at hSw); go_simp; try with_reducible rfl)
    try simp only [Act.put, List.getElem_toArray, List.getElem_cons_succ, List.getElem_cons_zero, List.setIfInBounds_toArray, List.set_cons_zero, List.set_cons_succ]
    refine wpAnyH_take (i := 13) (v := ?fv13) rfl (by kernel_rfl) (by kernel_rfl) (by kernel_rfl) (fun _ _ _ h => h) (Or.inl ⟨by rfl, ?fy13⟩) (by assumption) ?fr13
    case fy13 => (intro w hSw; (try dsimp only at hSw); go_simp; try with_reducible rfl)
    try simp only [Act.put, List.getElem_toArray, List.getElem_cons_succ, List.getElem_cons_zero, List.setIfInBounds_toArray, List.set_cons_zero, List.set_cons_succ]
    refine wpAnyH_done (by kernel_rfl) ?_ _
    go_wp2_with fail
    go_ret
    refine ⟨by rw [HPL.out, HI.out, Bool.true_and]; rfl, GAt.one (w := W) HG.out hin rfl HMY.out HGR.out, ?_⟩
    exact (Turn.new (F := Own g n) HB.out).trans (Turn.grown (F := Own g n) HGR.out (fun x hx => by cases hx; exact ⟨by omega, by omega⟩)) (fun _ h => .inl h)
  · have hit : isT T o1 = false := by simpa using hit
    have HTB : Hid (decide (0 ≤ o1 ∧ o1 < (n : Int)) = false) := by show _ = _; rw [← HIT.out]; exact hit
    have HPF : Hid (plays T ⟨o0, o1, o2, o3, o4⟩ = false) := by show _ = _; rw [HPL.out, hit]; rfl
    clear hit
    have HSX : Hid (∀ wx, Below W.heap.size W wx → wx.cell? ⟨w.heap.size, 0, none⟩ = some (.int .i64 o0) ∧ wx.cell? ⟨w.heap.size, 1, none⟩ = some (.int .i64 o1)) := fun wx hb => ⟨held_cell hb (HX.out.cell 0), held_cell hb (HX.out.cell 1)⟩
    refine Go.wp_region_held_drew (S := fun w' => w'.cell? ⟨w.heap.size, 0, none⟩ = some (.int .i64 o0) ∧ w'.cell? ⟨w.heap.size, 1, none⟩ = some (.int .i64 o1)) (by kernel_rfl) (HSX.out _ (held_start W)) (fun hHeld => ?_)
    refine wpAnyH_take (i := 0) (v := ?hv0) rfl (by kernel_rfl) (by kernel_rfl) (by kernel_rfl) (fun _ _ _ h => h) (Or.inl ⟨by rfl, ?hy0⟩) (by assumption) ?hr0
    case hy0 => (intro w hSw; (try dsimp only at hSw); go_simp; try with_reducible rfl)
    try simp only [Act.put, List.getElem_toArray, List.getElem_cons_succ, List.getElem_cons_zero, List.setIfInBounds_toArray, List.set_cons_zero, List.set_cons_succ]
    refine wpAnyH_take (i := 1) (v := ?hv1) rfl (by kernel_rfl) (by kernel_rfl) (by kernel_rfl) (fun _ _ _ h => h) (Or.inl ⟨by rfl, ?hy1⟩) (by assumption) ?hr1
    case hy1 => (intro w hSw; (try dsimp only at hSw); go_simp; try with_reducible rfl)
    try simp only [Act.put, List.getElem_toArray, List.getElem_cons_succ, List.getElem_cons_zero, List.setIfInBounds_toArray, List.set_cons_zero, List.set_cons_succ]
    refine wpAnyH_take (i := 2) (v := ?hv2) rfl (by kernel_rfl) (by kernel_rfl) (by kernel_rfl) (fun _ _ _ h => h) (Or.inl ⟨by rfl, ?hy2⟩) (by assumption) ?hr2
    case hy2 => (intro w hSw; (try dsimp only at hSw); go_simp; try with_reducible rfl)
    try simp only [Act.put, List.getElem_toArray, List.getElem_cons_succ, List.getElem_cons_zero, List.setIfInBounds_toArray, List.set_cons_zero, List.set_cons_succ]
    refine wpAnyH_ready (rs := [3]) (by kernel_rfl) (by simp) ?_
    refine AllReadyH.cons rfl (fun K hK => ?_) AllReadyH.nil
    go_simp
    go_at_call 28
    refine (has_any _ _ _ _ _).mono ?_
    rintro e wx ⟨rfl, rfl⟩
    rw [HTB.out]
    refine hK.out _ _ (HSX.out _ (held_start W)) (fun hHeld => ?_)
    clear hK K
    try simp only [Act.put, List.getElem_toArray, List.getElem_cons_succ, List.getElem_cons_zero, List.setIfInBounds_toArray, List.set_cons_zero, List.set_cons_succ]
    refine wpAnyH_take (i := 4) (v := ?jv4) rfl (by kernel_rfl) (by kernel_rfl) (by kernel_rfl) (fun _ _ _ h => h) (Or.inl ⟨by rfl, ?jy4⟩) (by assumption) ?jr4
    case jy4 => (intro w hSw; (try dsimp only at hSw); go_simp; try with_reducible rfl)
    try simp only [Act.put, List.getElem_toArray, List.getElem_cons_succ, List.getElem_cons_zero, List.setIfInBounds_toArray, List.set_cons_zero, List.set_cons_succ]
    refine wpAnyH_take (i := 5) (v := undef) rfl (by kernel_rfl) (by kernel_rfl) (by kernel_rfl) (fun _ _ _ h => h) (Or.inr ⟨by rfl, rfl⟩) (by assumption) ?jr5
    try simp only [Act.put, List.getElem_toArray, List.getElem_cons_succ, List.getElem_cons_zero, List.setIfInBounds_toArray, List.set_cons_zero, List.set_cons_succ]
    refine wpAnyH_take (i := 6) (v := undef) rfl (by kernel_rfl) (by kernel_rfl) (by kernel_rfl) (fun _ _ _ h => h) (Or.inr ⟨by rfl, rfl⟩) (by assumption) ?jr6
    try simp only [Act.put, List.getElem_toArray, List.getElem_cons_succ, List.getElem_cons_zero, List.setIfInBounds_toArray, List.set_cons_zero, List.set_cons_succ]
    refine wpAnyH_take (i := 7) (v := undef) rfl (by kernel_rfl) (by kernel_rfl) (by kernel_rfl) (fun _ _ _ h => h) (Or.inr ⟨by rfl, rfl⟩) (by assumption) ?jr7
    try simp only [Act.put, List.getElem_toArray, List.getElem_cons_succ, List.getElem_cons_zero, List.setIfInBounds_toArray, List.set_cons_zero, List.set_cons_succ]
    refine wpAnyH_take (i := 8) (v := undef) rfl (by kernel_rfl) (by kernel_rfl) (by kernel_rfl) (fun _ _ _ h => h) (Or.inr ⟨by rfl, rfl⟩) (by assumption) ?jr8
    try simp only [Act.put, List.getElem_toArray, List.getElem_cons_succ, List.getElem_cons_zero, List.setIfInBounds_toArray, List.set_cons_zero, List.set_cons_succ]
    refine wpAnyH_take (i := 9) (v := undef) rfl (by kernel_rfl) (by kernel_rfl) (by kernel_rfl) (fun _ _ _ h => h) (Or.inr ⟨by rfl, rfl⟩) (by assumption) ?jr9
    try simp only [Act.put, List.getElem_toArray, List.getElem_cons_succ, List.getElem_cons_zero, List.setIfInBounds_toArray, List.set_cons_zero, List.set_cons_succ]
    refine wpAnyH_take (i := 10) (v := undef) rfl (by kernel_rfl) (by kernel_rfl) (by kernel_rfl) (fun _ _ _ h => h) (Or.inr ⟨by rfl, rfl⟩) (by assumption) ?jr10
    try simp only [Act.put, List.getElem_toArray, List.getElem_cons_succ, List.getElem_cons_zero, List.setIfInBounds_toArray, List.set_cons_zero, List.set_cons_succ]
    refine wpAnyH_take (i := 11) (v := undef) rfl (by kernel_rfl) (by kernel_rfl) (by kernel_rfl) (fun _ _ _ h => h) (Or.inr ⟨by rfl, rfl⟩) (by assumption) ?jr11
    try simp only [Act.put, List.getElem_toArray, List.getElem_cons_succ, List.getElem_cons_zero, List.setIfInBounds_toArray, List.set_cons_zero, List.set_cons_succ]
    refine wpAnyH_take (i := 12) (v := ?jv12) rfl (by kernel_rfl) (by kernel_rfl) (by kernel_rfl) (fun _ _ _ h => h) (Or.inl ⟨by rfl, ?jy12⟩) (by assumption) ?jr12
    case jy12 => (intro w hSw; (try dsimp only at hSw); go_simp; try with_reducible rfl)
    try simp only [Act.put, List.getElem_toArray, List.getElem_cons_succ, List.getElem_cons_zero, List.setIfInBounds_toArray, List.set_cons_zero, List.set_cons_succ]
    refine wpAnyH_take (i := 13) (v := ?jv13) rfl (by kernel_rfl) (by kernel_rfl) (by kernel_rfl) (fun _ _ _ h => h) (Or.inl ⟨by rfl, ?jy13⟩) (by assumption) ?jr13
    case jy13 => (intro w hSw; (try dsimp only at hSw); go_simp; try with_reducible rfl)
    try simp only [Act.put, List.getElem_toArray, List.getElem_cons_succ, List.getElem_cons_zero, List.setIfInBounds_toArray, List.set_cons_zero, List.set_cons_succ]
    refine wpAnyH_done (by kernel_rfl) ?_ _
    go_wp2_with fail
    go_ret
    exact ⟨by rw [HPF.out]; rfl, by rw [do1_idle HPF.out]; exact (HG.out.new (held_start W)).mono (Nat.le_succ _), (Turn.new HB.out).drewN 1⟩
end Go.Proofs.Ytlbgpfiiiggofaa.Gd
