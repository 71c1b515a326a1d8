/-
  Package fold: a walk over transactions in memory; contracts of held, next, walkOver.
-/
import Derived.Test.YtlgdbpejefgeaaaTxMem
import Derived.Test.YtlgdbpejefgeaaaFoldMath
import Derived.Test.YtlgdbpejefgeaaaRegionLast
import Derived.Test.YtlgdbpejefgeaaaTurn
namespace Go.Proofs.Ytlgdbpejefgeaaa.Fold
set_option linter.unusedVariables false
set_option linter.unusedSimpArgs false
set_option maxRecDepth 100000
open Go.RowKit Base FoldMath Foot
open TxnMath (Ch Tx)
open PChg (gval Cs)
open PTx
open Last (wp_region_last_at then_normal)
set_option linter.ambiguousOpen false

/-- a walk at block p stands behind j of the transactions -/
def WalkAt (w : World) (p : Nat) (A : Option Addr) (n c : Nat) (j : Int) (f : Value) : Prop := Blk w p 75 #[.slice A n c, .int .i64 j, f]
set_option maxHeartbeats 800000 in
theorem held_any (p : Nat) (A : Option Addr) (n c : Nat) (k : Int) (w : World) (h : w.cell? ⟨p, 0, none⟩ = some (.slice A n c)) :
    Calls Try.prog 35 #[.pointer (some ⟨p, 0, none⟩), .int .i64 k] w fun e w' => e = .returned (.int .i64 (held k n)) ∧ w = w' := by
  have HH : Hid (((held k n : Nat) : Int) = if k < 0 then 0 else if (n : Int) < k then (n : Int) else k) := by
    show _ = _
    unfold FoldMath.held
    split
    · omega
    · split <;> omega
  rcases Int.lt_or_le k 0 with h1 | h1
  · have HE : Hid ((held k n : Int) = 0) := HH.out.trans (if_pos h1)
    go_enter Try.func35, Try.ntmps35
    go_wp2
    go_ret
    exact ⟨ret_int HE.out.symm, rfl⟩
  · rcases Int.lt_or_le (n : Int) k with h2 | h2
    · have HE : Hid ((held k n : Int) = n) := HH.out.trans ((if_neg (by omega)).trans (if_pos h2))
      go_enter Try.func35, Try.ntmps35
      go_wp2
      go_ret
      exact ⟨ret_int HE.out.symm, rfl⟩
    · have HE : Hid ((held k n : Int) = k) := HH.out.trans ((if_neg (by omega)).trans (if_neg (by omega)))
      go_enter Try.func35, Try.ntmps35
      go_wp2
      go_ret
      exact ⟨ret_int HE.out.symm, rfl⟩
/-- what next does: it hands out the transaction ahead, and goes by it -/
def NextR (w : World) (p : Nat) (A : Option Addr) (n c : Nat) (j : Nat) (f : Value) (v : Value) (e : Ending) (w' : World) : Prop := e = .returned v ∧ WalkAt w' p A n c (j + 1) f ∧ Turn (fun i => i = p) w w'
set_option maxHeartbeats 3200000 in
theorem next_any (p : Nat) (b off n c j : Nat) (f : Value) (lsn kind mark : Int) (A1 : Option Addr) (n1 c1 : Nat) (A2 : Option Addr) (n2 c2 : Nat) (w : World) (h : WalkAt w p (some ⟨b, off, none⟩) n c j f) (hj : j < n) (hc : n ≤ 9223372036854775807)
    (x0 : w.cell? ⟨b, off + j * 5, none⟩ = some (.int .i64 lsn)) (x1 : w.cell? ⟨b, off + j * 5 + 1, none⟩ = some (.int .i64 kind)) (x2 : w.cell? ⟨b, off + j * 5 + 2, none⟩ = some (.slice A1 n1 c1)) (x3 : w.cell? ⟨b, off + j * 5 + 3, none⟩ = some (.slice A2 n2 c2)) (x4 : w.cell? ⟨b, off + j * 5 + 4, none⟩ = some (.int .i64 mark)) :
    Calls Try.prog 41 #[.pointer (some ⟨p, 0, none⟩)] w (NextR w p (some ⟨b, off, none⟩) n c j f (txval lsn kind mark A1 n1 c1 A2 n2 c2)) := by
  have HX := Lib.hid h
  have l1 : (j : Int) < (n : Int) := by omega
  have hpl : p < w.heap.size := h.lt
  clear h
  go_enter Try.func41, Try.ntmps41
  go_upto_region 1 with fail
  have hb1 : Below w.heap.size w (w.alloc (.cells #[.int .i64 0, .int .i64 0, .slice none 0 0, .slice none 0 0, .int .i64 0] 42)) := (Below.refl _ _).alloc (Nat.le_refl _) _
  have hr : Blk (w.alloc (.cells #[.int .i64 0, .int .i64 0, .slice none 0 0, .slice none 0 0, .int .i64 0] 42)) w.heap.size 42 #[.int .i64 0, .int .i64 0, .slice none 0 0, .slice none 0 0, .int .i64 0] := Blk.new _ _ _
  generalize (w.alloc (.cells #[.int .i64 0, .int .i64 0, .slice none 0 0, .slice none 0 0, .int .i64 0] 42)) = W at hb1 hr ⊢
  have hxw : WalkAt W p (some ⟨b, off, none⟩) n c j f := HX.out.below hb1 hpl
  have HSF : Hid (∀ w', Below W.heap.size W w' → w'.cell? ⟨p, 0, none⟩ = some (.slice (some ⟨b, off, none⟩) n c) ∧ w'.cell? ⟨p, 1, none⟩ = some (.int .i64 j) ∧ w'.cell? ⟨b, off + j * 5, none⟩ = some (.int .i64 lsn) ∧ w'.cell? ⟨b, off + j * 5 + 1, none⟩ = some (.int .i64 kind) ∧ w'.cell? ⟨b, off + j * 5 + 2, none⟩ = some (.slice A1 n1 c1) ∧ w'.cell? ⟨b, off + j * 5 + 3, none⟩ = some (.slice A2 n2 c2) ∧ w'.cell? ⟨b, off + j * 5 + 4, none⟩ = some (.int .i64 mark)) := fun w' hb =>
    ⟨held_cell hb (hxw.cell 0), held_cell hb (hxw.cell 1), held_cell hb (held_cell hb1 x0), held_cell hb (held_cell hb1 x1), held_cell hb (held_cell hb1 x2), held_cell hb (held_cell hb1 x3), held_cell hb (held_cell hb1 x4)⟩
  refine wp_region_last_at (S := fun w' => w'.cell? ⟨p, 0, none⟩ = some (.slice (some ⟨b, off, none⟩) n c) ∧ w'.cell? ⟨p, 1, none⟩ = some (.int .i64 j) ∧ w'.cell? ⟨b, off + j * 5, none⟩ = some (.int .i64 lsn) ∧ w'.cell? ⟨b, off + j * 5 + 1, none⟩ = some (.int .i64 kind) ∧ w'.cell? ⟨b, off + j * 5 + 2, none⟩ = some (.slice A1 n1 c1) ∧ w'.cell? ⟨b, off + j * 5 + 3, none⟩ = some (.slice A2 n2 c2) ∧ w'.cell? ⟨b, off + j * 5 + 4, none⟩ = some (.int .i64 mark)) 11 _ rfl rfl (by kernel_rfl) (by kernel_rfl) (by kernel_rfl)
    (HSF.out _ (held_start W)) (fun hHeld => ?_)
  simp only [List.take_succ_cons, List.take_zero]
  refine wpAnyH_take (i := 0) (v := ?av0) rfl (by kernel_rfl) (by kernel_rfl) (by kernel_rfl) (fun _ _ _ h => h) (Or.inl ⟨by rfl, ?ay0⟩) (by assumption) ?ar0
  case ay0 => (intro w hSw; (try dsimp only at hSw); go_simp; try with_reducible rfl)
  try simp only [Act.put, List.getElem_toArray, List.getElem_cons_succ, List.getElem_cons_zero, List.setIfInBounds_toArray, List.set_cons_zero, List.set_cons_succ]
  refine wpAnyH_take (i := 1) (v := ?av1) rfl (by kernel_rfl) (by kernel_rfl) (by kernel_rfl) (fun _ _ _ h => h) (Or.inl ⟨by rfl, ?ay1⟩) (by assumption) ?ar1
  case ay1 => (intro w hSw; (try dsimp only at hSw); go_simp; try with_reducible rfl)
  try simp only [Act.put, List.getElem_toArray, List.getElem_cons_succ, List.getElem_cons_zero, List.setIfInBounds_toArray, List.set_cons_zero, List.set_cons_succ]
  refine wpAnyH_take (i := 2) (v := ?av2) rfl (by kernel_rfl) (by kernel_rfl) (by kernel_rfl) (fun _ _ _ h => h) (Or.inl ⟨by rfl, ?ay2⟩) (by assumption) ?ar2
  case ay2 => (intro w hSw; (try dsimp only at hSw); go_simp; try with_reducible rfl)
  try simp only [Act.put, List.getElem_toArray, List.getElem_cons_succ, List.getElem_cons_zero, List.setIfInBounds_toArray, List.set_cons_zero, List.set_cons_succ]
  refine wpAnyH_take (i := 3) (v := ?av3) rfl (by kernel_rfl) (by kernel_rfl) (by kernel_rfl) (fun _ _ _ h => h) (Or.inl ⟨by rfl, ?ay3⟩) (by assumption) ?ar3
  case ay3 => (intro w hSw; (try dsimp only at hSw); go_simp; try with_reducible rfl)
  try simp only [Act.put, List.getElem_toArray, List.getElem_cons_succ, List.getElem_cons_zero, List.setIfInBounds_toArray, List.set_cons_zero, List.set_cons_succ]
  refine wpAnyH_take (i := 4) (v := ?av4) rfl (by kernel_rfl) (by kernel_rfl) (by kernel_rfl) (fun _ _ _ h => h) (Or.inl ⟨by rfl, ?ay4⟩) (by assumption) ?ar4
  case ay4 => (intro w hSw; (try dsimp only at hSw); go_simp; try with_reducible rfl)
  try simp only [Act.put, List.getElem_toArray, List.getElem_cons_succ, List.getElem_cons_zero, List.setIfInBounds_toArray, List.set_cons_zero, List.set_cons_succ]
  refine wpAnyH_take (i := 5) (v := ?av5) rfl (by kernel_rfl) (by kernel_rfl) (by kernel_rfl) (fun _ _ _ h => h) (Or.inl ⟨by rfl, ?ay5⟩) (by assumption) ?ar5
  case ay5 => (intro w hSw; (try dsimp only at hSw); go_simp; try with_reducible rfl)
  try simp only [Act.put, List.getElem_toArray, List.getElem_cons_succ, List.getElem_cons_zero, List.setIfInBounds_toArray, List.set_cons_zero, List.set_cons_succ]
  refine wpAnyH_take (i := 6) (v := ?av6) rfl (by kernel_rfl) (by kernel_rfl) (by kernel_rfl) (fun _ _ _ h => h) (Or.inl ⟨by rfl, ?ay6⟩) (by assumption) ?ar6
  case ay6 => (intro w hSw; (try dsimp only at hSw); go_simp; try with_reducible rfl)
  try simp only [Act.put, List.getElem_toArray, List.getElem_cons_succ, List.getElem_cons_zero, List.setIfInBounds_toArray, List.set_cons_zero, List.set_cons_succ]
  refine wpAnyH_take (i := 7) (v := ?av7) rfl (by kernel_rfl) (by kernel_rfl) (by kernel_rfl) (fun _ _ _ h => h) (Or.inl ⟨by rfl, ?ay7⟩) (by assumption) ?ar7
  case ay7 => (intro w hSw; (try dsimp only at hSw); go_simp; try with_reducible rfl)
  try simp only [Act.put, List.getElem_toArray, List.getElem_cons_succ, List.getElem_cons_zero, List.setIfInBounds_toArray, List.set_cons_zero, List.set_cons_succ]
  refine wpAnyH_take (i := 8) (v := ?av8) rfl (by kernel_rfl) (by kernel_rfl) (by kernel_rfl) (fun _ _ _ h => h) (Or.inl ⟨by rfl, ?ay8⟩) (by assumption) ?ar8
  case ay8 => (intro w hSw; (try dsimp only at hSw); go_simp; try with_reducible rfl)
  try simp only [Act.put, List.getElem_toArray, List.getElem_cons_succ, List.getElem_cons_zero, List.setIfInBounds_toArray, List.set_cons_zero, List.set_cons_succ]
  refine wpAnyH_take (i := 9) (v := ?av9) rfl (by kernel_rfl) (by kernel_rfl) (by kernel_rfl) (fun _ _ _ h => h) (Or.inl ⟨by rfl, ?ay9⟩) (by assumption) ?ar9
  case ay9 => (intro w hSw; (try dsimp only at hSw); go_simp; try with_reducible rfl)
  try simp only [Act.put, List.getElem_toArray, List.getElem_cons_succ, List.getElem_cons_zero, List.setIfInBounds_toArray, List.set_cons_zero, List.set_cons_succ]
  refine wpAnyH_ready (rs := [10]) (by kernel_rfl) (by simp) ?_
  refine AllReadyH.cons rfl (fun K hK => ?_) AllReadyH.nil
  go_simp
  refine hK.out _ _ (HSF.out _ (held_alloc_drew (held_start W) _)) (fun hHeld => ?_)
  clear hK K
  try simp only [Act.put, List.getElem_toArray, List.getElem_cons_succ, List.getElem_cons_zero, List.setIfInBounds_toArray, List.set_cons_zero, List.set_cons_succ]
  refine wpAnyH_done (by kernel_rfl) ?_ _
  refine then_normal rfl ?_
  have p0 : W.cell? ⟨p, 0, none⟩ = some (.slice (some ⟨b, off, none⟩) n c) := hxw.cell 0
  have p1 : W.cell? ⟨p, 1, none⟩ = some (.int .i64 j) := hxw.cell 1
  have fp := hxw.frozen 1
  have r0 : W.cell? ⟨w.heap.size, 0, none⟩ = some (.int .i64 0) := hr.cell 0
  have r1 : W.cell? ⟨w.heap.size, 1, none⟩ = some (.int .i64 0) := hr.cell 1
  have r2 : W.cell? ⟨w.heap.size, 2, none⟩ = some (.slice none 0 0) := hr.cell 2
  have r3 : W.cell? ⟨w.heap.size, 3, none⟩ = some (.slice none 0 0) := hr.cell 3
  have r4 : W.cell? ⟨w.heap.size, 4, none⟩ = some (.int .i64 0) := hr.cell 4
  have fr0 := hr.frozen 0
  have fr1 := hr.frozen 1
  have fr2 := hr.frozen 2
  have fr3 := hr.frozen 3
  have fr4 := hr.frozen 4
  have hpr : p ≠ w.heap.size := by omega
  have hrp : w.heap.size ≠ p := by omega
  have hWl : w.heap.size < W.heap.size := hr.lt
  have HXW := Lib.hid hxw
  have HB1 := Lib.hid hb1
  have hpW : p < W.heap.size := by omega
  have hpW2 : p ≠ W.heap.size := by omega
  have hWp : W.heap.size ≠ p := by omega
  have hwW : w.heap.size ≠ W.heap.size := by omega
  have hWw : W.heap.size ≠ w.heap.size := by omega
  clear hxw hb1 hr x0 x1 x2 x3 x4 HSF; clear hHeld
  go_wp2
  refine bodyPost_ret (v := txval lsn kind mark A1 n1 c1 A2 n2 c2) (by simp [txval, results, Try.results41, go_sem, hpr, hrp, hwW, hWw, hWl, r0, r1, r2, r3, r4]) rfl ⟨rfl, ?_, ?_⟩
  · exact Blk.alloc ((((((HXW.out.set_ 1 (.int .i64 ((j : Int) + 1))).far (p := ⟨w.heap.size, 0, none⟩) hpr _).far (p := ⟨w.heap.size, 1, none⟩) hpr _).far (p := ⟨w.heap.size, 2, none⟩) hpr _).far (p := ⟨w.heap.size, 3, none⟩) hpr _).far (p := ⟨w.heap.size, 4, none⟩) hpr _) _
  · have h1 : Turn (fun i => i = p) w W := Turn.new HB1.out
    exact (((((((h1.setCell (p := ⟨p, 1, none⟩) (.inl rfl) _).setCell (p := ⟨w.heap.size, 0, none⟩) (.inr (Nat.le_refl _)) _).setCell (p := ⟨w.heap.size, 1, none⟩) (.inr (Nat.le_refl _)) _).setCell (p := ⟨w.heap.size, 2, none⟩) (.inr (Nat.le_refl _)) _).setCell (p := ⟨w.heap.size, 3, none⟩) (.inr (Nat.le_refl _)) _).setCell (p := ⟨w.heap.size, 4, none⟩) (.inr (Nat.le_refl _)) _).alloc _).drewN 1
theorem walkOver_any (A : Option Addr) (n c : Nat) (fn : Fn) (first cap : Array Value) (w : World) : Calls Try.prog 26 #[.slice A n c, .func fn first cap] w fun e w' => e = .returned (.pointer (some ⟨w.heap.size, 0, none⟩)) ∧ w' = w.alloc (.cells #[.slice A n c, .int .i64 0, .func fn first cap] 75) := by
  go_enter Try.func26, Try.ntmps26
  go_wp2
  go_ret
  exact ⟨rfl, rfl⟩
end Go.Proofs.Ytlgdbpejefgeaaa.Fold
