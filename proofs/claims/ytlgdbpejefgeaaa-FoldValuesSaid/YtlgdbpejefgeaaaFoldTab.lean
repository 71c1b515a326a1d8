/-
  Package fold: the tables of Fold, each a map of vals by keys; contracts of newTables and take.
-/
import Derived.Test.YtlgdbpejefgeaaaFoldMap
import Derived.Test.YtlgdbpejefgeaaaPlayChg
import Derived.Test.YtlgdbpejefgeaaaRegionLast
import Derived.Test.YtlgdbpejefgeaaaTurn
import Derived.Maps.OwnSet
namespace Go.Proofs.Ytlgdbpejefgeaaa.Fold
set_option linter.unusedVariables false
set_option linter.unusedSimpArgs false
set_option maxRecDepth 100000
open Go.RowKit Base IdxMath FoldMath Foot
open TxnMath (Ch)
open PChg (gval)
open Last (wp_region_last_at then_normal)
set_option linter.ambiguousOpen false

/-- the tables: block g is the row of n maps, the i-th map is block s + i: what changes cs come to -/
structure TabsAt (w : World) (g s n : Nat) (cs : List Ch) : Prop where
  gs : g < s
  row : ∃ arr : Array Value, Blk w g 81 arr ∧ arr.size = n ∧ ∀ i, i < n → arr[i]? = some (.map (some (s + i)))
  each : ∀ i : Nat, i < n → MapAt w (s + i) cs.length (rows (i : Int) cs)
/-- the blocks that are theirs -/
def Own (g s n : Nat) (i : Nat) : Prop := g ≤ i ∧ i < s + n
section
variable {w w' : World} {g s n : Nat} {cs : List Ch}
theorem TabsAt.keep (h : TabsAt w g s n cs) (hk : ∀ i, i < w.heap.size → Own g s n i → w'.heap[i]? = w.heap[i]?) : TabsAt w' g s n cs := by
  obtain ⟨h1, ⟨arr, hb, hz, ha⟩, he⟩ := h
  refine ⟨h1, ⟨arr, (hk g hb.lt ⟨Nat.le_refl _, by omega⟩).trans hb, hz, ha⟩, fun i hi => ?_⟩
  have := he i hi
  exact this.same (hk _ this.lt ⟨by omega, by omega⟩)
theorem TabsAt.cell (h : TabsAt w g s n cs) {i : Nat} (hi : i < n) : w.cell? ⟨g, i, none⟩ = some (.map (some (s + i))) := by
  obtain ⟨arr, hb, hz, ha⟩ := h.row
  rw [hb.cell, ha i hi]
/-- a change of none of them -/
theorem TabsAt.other (h : TabsAt w g s n cs) {c : Ch} (hc : ∀ i : Nat, i < n → c.tbl ≠ (i : Int)) : TabsAt w g s n (cs ++ [c]) :=
  ⟨h.gs, h.row, fun i hi => by
    have e : rows (i : Int) (cs ++ [c]) = rows (i : Int) cs := by rw [rows_snoc]; exact if_neg (hc i hi)
    rw [e, List.length_append]
    exact World.ownsMap.mono (h.each i hi) (Nat.le_add_right _ _)⟩
/-- a change of the i-th -/
theorem TabsAt.one (h : TabsAt w g s n cs) {c : Ch} {i : Nat} (hi : i < n) (hc : c.tbl = (i : Int)) (hm : MapAt w' (s + i) (cs.length + 1) (FoldMath.step (rows (i : Int) cs) c)) (hg : w.grownBy w' (some (s + i))) : TabsAt w' g s n (cs ++ [c]) := by
  have hgs := h.gs
  obtain ⟨arr, hb, hz, ha⟩ := h.row
  refine ⟨hgs, ⟨arr, hb.grown hg (by simp; omega), hz, ha⟩, fun j hj => ?_⟩
  rw [rows_snoc, List.length_append]
  by_cases hji : j = i
  · subst hji
    rw [show FoldMath.stepT (j : Int) (rows (j : Int) cs) c = FoldMath.step (rows (j : Int) cs) c from if_pos hc]
    exact hm
  · rw [show FoldMath.stepT (j : Int) (rows (j : Int) cs) c = rows (j : Int) cs from if_neg (by omega)]
    exact World.ownsMap.mono (World.ownsMap.kept (h.each j hj) hg (by simp; omega)) (Nat.le_add_right _ _)
end
theorem int_law : Maps.Keyed Try.prog 2 := Maps.int_keyed Try.underlying2
def TakeR (w : World) (g s n : Nat) (cs : List Ch) (e : Ending) (w' : World) : Prop := e = .returned (.tuple #[]) ∧ TabsAt w' g s n cs ∧ Turn (Own g s n) w w'
theorem turn_one {w wx w' : World} {g s n i : Nat} (hb : Below w.heap.size w wx) (hg : wx.grownBy w' (some (s + i))) (hi : i < n) (hs : g < s) : Turn (Own g s n) w w' :=
  (Turn.new (F := Own g s n) hb).trans (Turn.grown (F := Own g s n) hg (fun x hx => by cases hx; exact ⟨by omega, by omega⟩)) (fun _ h => .inl h)

set_option maxHeartbeats 3200000 in
theorem take_any (g s n : Nat) (cs : List Ch) (c : Ch) (w : World) (h : TabsAt w g s n cs) (hk : In64 c.key) (hn : n ≤ 8) (hsz : cs.length ≤ 1099511627774) :
    Calls Try.prog 27 #[.slice (some ⟨g, 0, none⟩) n n, gval c] w (TakeR w g s n (cs ++ [c])) := by
  obtain ⟨t, k, gone, v⟩ := c
  dsimp only at hk
  have hb : Below w.heap.size w (w.alloc (.cells #[.int .i64 t, .int .i64 k, .bool gone, .string v] 44)) := (Below.refl _ _).alloc (Nat.le_refl _) _
  have hx : Blk (w.alloc (.cells #[.int .i64 t, .int .i64 k, .bool gone, .string v] 44)) w.heap.size 44 #[.int .i64 t, .int .i64 k, .bool gone, .string v] := Blk.new _ _ _
  have HT : Hid (TabsAt (w.alloc (.cells #[.int .i64 t, .int .i64 k, .bool gone, .string v] 44)) g s n cs) := h.keep fun i hi _ => hb.block i hi
  have HB := Lib.hid hb
  have HK := Lib.hid hk
  unfold gval
  dsimp only
  clear h hb hk
  rcases Int.lt_or_le t 0 with h1 | h1
  · have HO := Lib.hid (HT.out.other (c := ⟨t, k, gone, v⟩) (fun i hi => by dsimp only; omega))
    go_enter Try.func27, Try.ntmps27
    go_wp2
    go_end0
    exact ⟨rfl, HO.out, Turn.new HB.out⟩
  · rcases Int.lt_or_le t (n : Int) with h2 | h2
    · obtain ⟨i, rfl⟩ := Int.eq_ofNat_of_zero_le h1
      have hi : i < n := by omega
      have hc : Hid ((w.alloc (.cells #[.int .i64 (i : Int), .int .i64 k, .bool gone, .string v] 44)).cell? ⟨g, i, none⟩ = some (.map (some (s + i)))) := HT.out.cell hi
      have HM := Lib.hid (HT.out.each i hi)
      have HG := Lib.hid HT.out.gs
      have HR := Lib.hid (rows_rise (i : Int) cs)
      have h0 : ¬ ((i : Int) < 0) := by omega
      have h3 : ¬ ((n : Int) ≤ (i : Int)) := by omega
      cases gone with
      | true =>
        go_enter Try.func27, Try.ntmps27
        go_upto_region 3 with fail
        generalize (w.alloc (.cells #[.int .i64 (i : Int), .int .i64 k, .bool true, .string v] 44)) = W at *
        refine wp_region_last_at (S := fun w' => w'.cell? ⟨w.heap.size, 0, none⟩ = some (.int .i64 i) ∧ w'.cell? ⟨w.heap.size, 1, none⟩ = some (.int .i64 k) ∧ w'.cell? ⟨g, i, none⟩ = some (.map (some (s + i))) ∧ Below W.heap.size W w') 7 _ rfl rfl (by kernel_rfl) (by kernel_rfl) (by kernel_rfl) (held3 (held_start W) (hx.cell 0) (hx.cell 1) hc.out) (fun hHeld => ?_)
        simp only [List.take_succ_cons, List.take_zero]
        refine wpAnyH_take (i := 0) (v := ?av0) rfl (by kernel_rfl) (by kernel_rfl) (by kernel_rfl) (fun _ _ _ h => h) (Or.inl ⟨by rfl, ?ay0⟩) (by assumption) ?ar0
        case ay0 => (intro w hSw; (try dsimp only at hSw); go_simp; try with_reducible rfl)
        try simp only [Act.put, List.getElem_toArray, List.getElem_cons_succ, List.getElem_cons_zero, List.setIfInBounds_toArray, List.set_cons_zero, List.set_cons_succ]
        refine wpAnyH_take (i := 1) (v := ?av1) rfl (by kernel_rfl) (by kernel_rfl) (by kernel_rfl) (fun _ _ _ h => h) (Or.inl ⟨by rfl, ?ay1⟩) (by assumption) ?ar1
        case ay1 => (intro w hSw; (try dsimp only at hSw); go_simp; try with_reducible rfl)
        try simp only [Act.put, List.getElem_toArray, List.getElem_cons_succ, List.getElem_cons_zero, List.setIfInBounds_toArray, List.set_cons_zero, List.set_cons_succ]
        refine wpAnyH_take (i := 2) (v := ?av2) rfl (by kernel_rfl) (by kernel_rfl) (by kernel_rfl) (fun _ _ _ h => h) (Or.inl ⟨by rfl, ?ay2⟩) (by assumption) ?ar2
        case ay2 => (intro w hSw; (try dsimp only at hSw); go_simp; try with_reducible rfl)
        try simp only [Act.put, List.getElem_toArray, List.getElem_cons_succ, List.getElem_cons_zero, List.setIfInBounds_toArray, List.set_cons_zero, List.set_cons_succ]
        refine wpAnyH_take (i := 3) (v := ?av3) rfl (by kernel_rfl) (by kernel_rfl) (by kernel_rfl) (fun _ _ _ h => h) (Or.inl ⟨by rfl, ?ay3⟩) (by assumption) ?ar3
        case ay3 => (intro w hSw; (try dsimp only at hSw); go_simp; try with_reducible rfl)
        try simp only [Act.put, List.getElem_toArray, List.getElem_cons_succ, List.getElem_cons_zero, List.setIfInBounds_toArray, List.set_cons_zero, List.set_cons_succ]
        refine wpAnyH_take (i := 4) (v := ?av4) rfl (by kernel_rfl) (by kernel_rfl) (by kernel_rfl) (fun _ _ _ h => h) (Or.inl ⟨by rfl, ?ay4⟩) (by assumption) ?ar4
        case ay4 => (intro w hSw; (try dsimp only at hSw); go_simp; try with_reducible rfl)
        try simp only [Act.put, List.getElem_toArray, List.getElem_cons_succ, List.getElem_cons_zero, List.setIfInBounds_toArray, List.set_cons_zero, List.set_cons_succ]
        refine wpAnyH_take (i := 5) (v := ?av5) rfl (by kernel_rfl) (by kernel_rfl) (by kernel_rfl) (fun _ _ _ h => h) (Or.inl ⟨by rfl, ?ay5⟩) (by assumption) ?ar5
        case ay5 => (intro w hSw; (try dsimp only at hSw); go_simp; try with_reducible rfl)
        try simp only [Act.put, List.getElem_toArray, List.getElem_cons_succ, List.getElem_cons_zero, List.setIfInBounds_toArray, List.set_cons_zero, List.set_cons_succ]
        refine wpAnyH_take (i := 6) (v := ?av6) rfl (by kernel_rfl) (by kernel_rfl) (by kernel_rfl) (fun _ _ _ h => h) (Or.inl ⟨by rfl, ?ay6⟩) (by assumption) ?ar6
        case ay6 => (intro w hSw; (try dsimp only at hSw); go_simp; try with_reducible rfl)
        try simp only [Act.put, List.getElem_toArray, List.getElem_cons_succ, List.getElem_cons_zero, List.setIfInBounds_toArray, List.set_cons_zero, List.set_cons_succ]
        refine wpAnyH_done (by kernel_rfl) ?_ _
        refine then_normal rfl ?_
        refine wpList_delete_own _ rfl _ _ 81 2 rfl 9 int_law Try.underlying81 rdS (s + i) _ _ rfl (World.ownsMap.drew HM.out) (.int .i64 k) _ rfl (key_of HK.out) ?_
        intro w2 hw2 hg2
        rw [ents_del HR.out] at hw2
        have HW2 := Lib.hid hw2
        have HG2 := Lib.hid hg2.grown
        clear hw2 hg2
        go_wp2
        go_end0
        exact ⟨rfl, TabsAt.one (w := W) (c := ⟨i, k, true, v⟩) HT.out hi rfl (World.ownsMap.mono HW2.out (Nat.le_succ _)) (only_of_drew HG2.out), turn_one HB.out (only_of_drew HG2.out) hi HG.out⟩
      | false =>
        go_enter Try.func27, Try.ntmps27
        go_upto_region 4 with fail
        generalize (w.alloc (.cells #[.int .i64 (i : Int), .int .i64 k, .bool false, .string v] 44)) = W at *
        refine wp_region_last_at (S := fun w' => w'.cell? ⟨w.heap.size, 0, none⟩ = some (.int .i64 i) ∧ w'.cell? ⟨w.heap.size, 1, none⟩ = some (.int .i64 k) ∧ w'.cell? ⟨w.heap.size, 3, none⟩ = some (.string v) ∧ w'.cell? ⟨g, i, none⟩ = some (.map (some (s + i))) ∧ Below W.heap.size W w') 9 _ rfl rfl (by kernel_rfl) (by kernel_rfl) (by kernel_rfl) ⟨hx.cell 0, hx.cell 1, hx.cell 3, hc.out, held_start W⟩ (fun hHeld => ?_)
        simp only [List.take_succ_cons, List.take_zero]
        refine wpAnyH_take (i := 0) (v := ?bv0) rfl (by kernel_rfl) (by kernel_rfl) (by kernel_rfl) (fun _ _ _ h => h) (Or.inl ⟨by rfl, ?by0⟩) (by assumption) ?br0
        case by0 => (intro w hSw; (try dsimp only at hSw); go_simp; try with_reducible rfl)
        try simp only [Act.put, List.getElem_toArray, List.getElem_cons_succ, List.getElem_cons_zero, List.setIfInBounds_toArray, List.set_cons_zero, List.set_cons_succ]
        refine wpAnyH_take (i := 1) (v := ?bv1) rfl (by kernel_rfl) (by kernel_rfl) (by kernel_rfl) (fun _ _ _ h => h) (Or.inl ⟨by rfl, ?by1⟩) (by assumption) ?br1
        case by1 => (intro w hSw; (try dsimp only at hSw); go_simp; try with_reducible rfl)
        try simp only [Act.put, List.getElem_toArray, List.getElem_cons_succ, List.getElem_cons_zero, List.setIfInBounds_toArray, List.set_cons_zero, List.set_cons_succ]
        refine wpAnyH_take (i := 2) (v := ?bv2) rfl (by kernel_rfl) (by kernel_rfl) (by kernel_rfl) (fun _ _ _ h => h) (Or.inl ⟨by rfl, ?by2⟩) (by assumption) ?br2
        case by2 => (intro w hSw; (try dsimp only at hSw); go_simp; try with_reducible rfl)
        try simp only [Act.put, List.getElem_toArray, List.getElem_cons_succ, List.getElem_cons_zero, List.setIfInBounds_toArray, List.set_cons_zero, List.set_cons_succ]
        refine wpAnyH_take (i := 3) (v := ?bv3) rfl (by kernel_rfl) (by kernel_rfl) (by kernel_rfl) (fun _ _ _ h => h) (Or.inl ⟨by rfl, ?by3⟩) (by assumption) ?br3
        case by3 => (intro w hSw; (try dsimp only at hSw); go_simp; try with_reducible rfl)
        try simp only [Act.put, List.getElem_toArray, List.getElem_cons_succ, List.getElem_cons_zero, List.setIfInBounds_toArray, List.set_cons_zero, List.set_cons_succ]
        refine wpAnyH_take (i := 4) (v := ?bv4) rfl (by kernel_rfl) (by kernel_rfl) (by kernel_rfl) (fun _ _ _ h => h) (Or.inl ⟨by rfl, ?by4⟩) (by assumption) ?br4
        case by4 => (intro w hSw; (try dsimp only at hSw); go_simp; try with_reducible rfl)
        try simp only [Act.put, List.getElem_toArray, List.getElem_cons_succ, List.getElem_cons_zero, List.setIfInBounds_toArray, List.set_cons_zero, List.set_cons_succ]
        refine wpAnyH_take (i := 5) (v := ?bv5) rfl (by kernel_rfl) (by kernel_rfl) (by kernel_rfl) (fun _ _ _ h => h) (Or.inl ⟨by rfl, ?by5⟩) (by assumption) ?br5
        case by5 => (intro w hSw; (try dsimp only at hSw); go_simp; try with_reducible rfl)
        try simp only [Act.put, List.getElem_toArray, List.getElem_cons_succ, List.getElem_cons_zero, List.setIfInBounds_toArray, List.set_cons_zero, List.set_cons_succ]
        refine wpAnyH_take (i := 6) (v := ?bv6) rfl (by kernel_rfl) (by kernel_rfl) (by kernel_rfl) (fun _ _ _ h => h) (Or.inl ⟨by rfl, ?by6⟩) (by assumption) ?br6
        case by6 => (intro w hSw; (try dsimp only at hSw); go_simp; try with_reducible rfl)
        try simp only [Act.put, List.getElem_toArray, List.getElem_cons_succ, List.getElem_cons_zero, List.setIfInBounds_toArray, List.set_cons_zero, List.set_cons_succ]
        refine wpAnyH_take (i := 7) (v := ?bv7) rfl (by kernel_rfl) (by kernel_rfl) (by kernel_rfl) (fun _ _ _ h => h) (Or.inl ⟨by rfl, ?by7⟩) (by assumption) ?br7
        case by7 => (intro w hSw; (try dsimp only at hSw); go_simp; try with_reducible rfl)
        try simp only [Act.put, List.getElem_toArray, List.getElem_cons_succ, List.getElem_cons_zero, List.setIfInBounds_toArray, List.set_cons_zero, List.set_cons_succ]
        refine wpAnyH_take (i := 8) (v := ?bv8) rfl (by kernel_rfl) (by kernel_rfl) (by kernel_rfl) (fun _ _ _ h => h) (Or.inl ⟨by rfl, ?by8⟩) (by assumption) ?br8
        case by8 => (intro w hSw; (try dsimp only at hSw); go_simp; try with_reducible rfl)
        try simp only [Act.put, List.getElem_toArray, List.getElem_cons_succ, List.getElem_cons_zero, List.setIfInBounds_toArray, List.set_cons_zero, List.set_cons_succ]
        refine wpAnyH_done (by kernel_rfl) ?_ _
        refine then_normal rfl ?_
        refine wpList_mapUpdate_own _ rfl _ _ _ 81 rfl 2 9 int_law Try.underlying81 rdS (s + i) _ _ rfl (World.ownsMap.drew HM.out) (by unfold maxLen; omega) (.int .i64 k) (.string v) _ rfl rfl (key_of HK.out) (.lit (.string v.data.toList)) [] rfl ?_
        intro w2 hw2 hg2
        rw [ents_put HR.out] at hw2
        have HW2 := Lib.hid hw2
        have HG2 := Lib.hid hg2
        clear hw2 hg2
        go_wp2
        go_end0
        exact ⟨rfl, TabsAt.one (w := W) (c := ⟨i, k, false, v⟩) HT.out hi rfl HW2.out (only_of_drew HG2.out), turn_one HB.out (only_of_drew HG2.out) hi HG.out⟩
    · have HO := Lib.hid (HT.out.other (c := ⟨t, k, gone, v⟩) (fun i hi => by dsimp only; omega))
      have h3 : ¬ (t < 0) := by omega
      go_enter Try.func27, Try.ntmps27
      go_wp2
      go_end0
      exact ⟨rfl, HO.out, Turn.new HB.out⟩
end Go.Proofs.Ytlgdbpejefgeaaa.Fold
