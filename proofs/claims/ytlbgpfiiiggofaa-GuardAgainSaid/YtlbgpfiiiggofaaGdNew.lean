/-
  Package guard: contract of New: so many tables, none of which has a cell. No condition.
-/
import Derived.Test.YtlbgpfiiiggofaaGdCode
import Derived.WalkKit
namespace Go.Proofs.Ytlbgpfiiiggofaa.Gd
set_option linter.unusedVariables false
set_option linter.unusedSimpArgs false
set_option maxRecDepth 100000
open Go.RowKit Base GuardMath Foot
set_option linter.ambiguousOpen false

/-- k of n tables are made -/
structure Half (w : World) (g n k : Nat) (wr : World) : Prop where
  base : w.heap.size = g
  size : wr.heap.size = g + 2 + k
  box : Blk wr (g + 1) 56 #[.slice (some ⟨g, 0, none⟩) n n]
  row : ∃ arr : Array Value, Blk wr g 58 arr ∧ arr.size = n ∧ (∀ i, i < k → arr[i]? = some (.map (some (g + 2 + i)))) ∧ ∀ i, k ≤ i → i < n → arr[i]? = some (.map none)
  each : ∀ i : Nat, i < k → MapAt wr (g + 2 + i) 0 []
  new : Below w.heap.size w wr
theorem Half.start (w : World) (n : Nat) : Half w w.heap.size n 0 ((w.alloc (.cells (madeCells #[.map none] n) 58)).alloc (.cells #[.slice (some ⟨w.heap.size, 0, none⟩) n n] 56)) := by
  refine ⟨rfl, by simp, ?_, ⟨madeCells #[.map none] n, (Blk.new _ _ _).alloc _, size_madeCells _ _, fun i hi => by omega, fun i _ hi => ?_⟩, fun i hi => by omega, ((Below.refl _ _).alloc (Nat.le_refl _) _).alloc (by simp) _⟩
  · have := Blk.new (w.alloc (.cells (madeCells #[.map none] n) 58)) 56 #[.slice (some ⟨w.heap.size, 0, none⟩) n n]
    simpa using this
  · rw [← Array.getElem?_toList, toList_madeCells_one, List.getElem?_replicate, if_pos hi]
theorem Half.lay {w wr : World} {g n k : Nat} (h : Half w g n k wr) (hk : k < n) : Half w g n (k + 1) ((wr.setCell ⟨g, k, none⟩ (.map (some (g + 2 + k)))).alloc (.map #[] 0)) := by
  obtain ⟨h1, h3, hx, ⟨arr, hb, hz, ha, hr⟩, h5, h6⟩ := h
  have hsz : (wr.setCell ⟨g, k, none⟩ (.map (some (g + 2 + k)))).heap.size = wr.heap.size := by simp [World.setCell]
  have hfar : ∀ x, x < wr.heap.size → x ≠ g → ((wr.setCell ⟨g, k, none⟩ (.map (some (g + 2 + k)))).alloc (.map #[] 0)).heap[x]? = wr.heap[x]? := fun x hl hx => (Below.heap_alloc _ _ x (by rw [hsz]; exact hl)).trans (Below.heap_setCell _ _ _ x hx)
  have h7 := h6.setCell (p := ⟨g, k, none⟩) (by show w.heap.size ≤ g; omega) (.map (some (g + 2 + k)))
  refine ⟨h1, by simp [World.setCell]; omega, (hfar _ hx.lt (by omega)).trans hx, ⟨arr.setIfInBounds k (.map (some (g + 2 + k))), (hb.set_ k _).alloc _, by simpa using hz, fun i hi => ?_, fun i hi hin => ?_⟩, fun i hi => ?_, h7.alloc h7.size _⟩
  · by_cases hik : i = k
    · subst hik
      rw [Array.getElem?_setIfInBounds_self_of_lt (by omega)]
    · rw [Array.getElem?_setIfInBounds_ne (Ne.symm hik)]
      exact ha i (by omega)
  · rw [Array.getElem?_setIfInBounds_ne (by omega)]
    exact hr i (by omega) hin
  · by_cases hik : i = k
    · subst hik
      exact MapAt.made (by rw [hsz]; omega)
    · have := h5 i (by omega)
      exact this.same (hfar _ this.lt (by omega))
theorem Half.done {w wr : World} {g n : Nat} (h : Half w g n n wr) : GAt wr g n 0 (E n) := by
  obtain ⟨h1, h3, hx, ⟨arr, hb, hz, ha, hr⟩, h5, h6⟩ := h
  exact ⟨hx, ⟨arr, hb, hz, ha⟩, List.length_replicate, fun i hi => by rw [tab_empty]; exact h5 i hi, rises_E n⟩
/-- what New does -/
def Made (w : World) (n : Nat) (e : Ending) (w' : World) : Prop := e = .returned (.tuple #[.pointer (some ⟨w.heap.size + 1, 0, none⟩), .int .i64 0]) ∧ GAt w' w.heap.size n 0 (E n) ∧ w'.heap.size = w.heap.size + 2 + n ∧ Below w.heap.size w w'
set_option maxHeartbeats 1600000 in
theorem new_any (n : Nat) (h1 : 1 ≤ n) (h8 : n ≤ 8) (w : World) : Calls Try.prog 8 #[.int .i64 n] w (Made w n) := by
  have hmm := @run_makeMap Try.prog
  obtain ⟨i0, hi, hz0, hz1, hz2⟩ := info_parts (show (Try.prog.info? 58).map (fun i => (i.zero, i.size, i.bytes)) = some (some (.map none), 1, 8) by kernel_rfl)
  have hmk : ∀ w : World, (Instr.makeSlice 54 (.int .i64 n) (.int .i64 n)).run Try.prog w = .ok (.slice (some ⟨w.heap.size, 0, none⟩) n n) (w.alloc (.cells (madeCells #[.map none] n) 58)) := fun w => by
    have := run_make (P := Try.prog) w 54 58 i0 _ Try.underlying54 hi hz0 .i64 .i64 n n (by omega) (by omega) (by rw [hz2]; omega) (by omega)
    rw [hz1] at this
    simp only [Int.toNat_natCast, Nat.mul_one] at this
    exact this
  have l1 : ¬ ((n : Int) < 1) := by omega
  have l2 : ¬ ((8 : Int) < (n : Int)) := by omega
  have HS := Lib.hid (Half.start w n)
  go_enter Try.func8, Try.ntmps8
  have cS : Blk ((w.alloc (.cells (madeCells #[.map none] n) 58)).alloc (.cells #[.slice (some ⟨w.heap.size, 0, none⟩) n n] 56)) (w.heap.size + 1) 56 #[.slice (some ⟨w.heap.size, 0, none⟩) n n] := HS.out.box
  have c0 := cS.cell 0
  go_wp2
  clear c0 cS hmk
  generalize ((w.alloc (.cells (madeCells #[.map none] n) 58)).alloc (.cells #[.slice (some ⟨w.heap.size, 0, none⟩) n n] 56)) = w1 at *
  generalize hg : w.heap.size = g at HS ⊢
  have HG := Lib.hid hg
  clear hg
  go_loopw [21] (fun vi wr => ∃ k : Nat, vi = .int .i64 k ∧ k ≤ n ∧ Half w g n k wr) (fun vi _ => n - (Go.RowKit.intOf vi).toNat)
  case atStart => exact ⟨0, rfl, Nat.zero_le _, HS.out⟩
  case round =>
    obtain ⟨k, rfl, hk, hh⟩ := hrel
    have HH := Lib.hid hh
    by_cases hkn : k < n
    · obtain ⟨arr, hb, hz, ha, hr⟩ := hh.row
      have x0 : wr.cell? ⟨g, k, none⟩ = some (.map none) := by rw [hb.cell, hr k (Nat.le_refl _) hkn]
      have y0 : wr.cell? ⟨g + 1, 0, none⟩ = some (.slice (some ⟨g, 0, none⟩) n n) := hh.box.cell 0
      have f0 := hb.frozen k
      have hgw : g < wr.heap.size := hb.lt
      have l3 : (k : Int) < (n : Int) := by omega
      have HN := Lib.hid (HH.out.lay hkn)
      rw [← hh.size] at HN
      clear hh ha hr hb
      go_wp2
      go_roundw
      case rel => exact ⟨k + 1, by go_num, by omega, HN.out⟩
      case measure => simp [Go.RowKit.intOf]; omega
    · obtain rfl : k = n := by omega
      have l3 : ¬ (k : Int) < (k : Int) := by omega
      clear hh
      go_wp2
      go_ret2
      have hG := HG.out
      subst hG
      exact ⟨rfl, HH.out.done, HH.out.size, HH.out.new⟩
/-- New of a number that may not be -/
theorem new_none (n : Int) (h : n < 1 ∨ 8 < n) (w : World) : Calls Try.prog 8 #[.int .i64 n] w fun e w' => e = .returned (.tuple #[.pointer none, .int .i64 1]) ∧ w = w' := by
  rcases Int.lt_or_le n 1 with h1 | h1
  · clear h
    go_enter Try.func8, Try.ntmps8
    go_wp2
    go_ret2
    exact ⟨rfl, rfl⟩
  · have h2 : 8 < n := by omega
    have l1 : ¬ (n < 1) := by omega
    clear h h1
    go_enter Try.func8, Try.ntmps8
    go_wp2
    go_ret2
    exact ⟨rfl, rfl⟩
end Go.Proofs.Ytlbgpfiiiggofaa.Gd
