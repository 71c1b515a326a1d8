/-
  Package fold: contract of newTables: so many maps, none of which has anything.
-/
import Derived.Test.YtlgdbpejefgeaaaFoldTab
import Derived.WalkKit
namespace Go.Proofs.Ytlgdbpejefgeaaa.Fold
set_option linter.unusedVariables false
set_option linter.unusedSimpArgs false
set_option maxRecDepth 100000
open Go.RowKit Base IdxMath FoldMath Foot
set_option linter.ambiguousOpen false

theorem etab : Elem Try.prog 55 81 1 8 (.map none) := .of (by rfl) (by rfl) rfl (by omega)
/-- k of n tables are made -/
structure Half (w : World) (g s n k : Nat) (wr : World) : Prop where
  gs : g < s
  base : w.heap.size ≤ g
  size : wr.heap.size = s + k
  row : ∃ arr : Array Value, Blk wr g 81 arr ∧ arr.size = n ∧ (∀ i, i < k → arr[i]? = some (.map (some (s + i)))) ∧ ∀ i, k ≤ i → i < n → arr[i]? = some (.map none)
  each : ∀ i : Nat, i < k → MapAt wr (s + i) 0 []
  new : Below w.heap.size w wr
theorem Half.start {w w1 : World} {n : Nat} (ho : w1.ownsRow w.heap.size 81 1 (.slice (some ⟨w.heap.size, 0, none⟩) n n) n (List.replicate n (.map none))) (hb : Below w.heap.size w w1) (hn : 1 ≤ n) : Half w w.heap.size w1.heap.size n 0 w1 := by
  rcases ho.2 with ⟨hv, h0⟩ | ⟨b, cap, cur, hv, hbase, hg, h1, h2, h3, h4⟩
  · omega
  · simp only [Value.slice.injEq, Option.some.injEq, Addr.mk.injEq] at hv
    obtain ⟨⟨rfl, _⟩, _, rfl⟩ := hv
    rw [List.take_of_length_le (by rw [Array.length_toList, h3]; exact Nat.le_refl _)] at h4
    refine ⟨Blk.lt (w := w1) hg, Nat.le_refl _, rfl, ⟨cur, hg, by omega, fun i hi => by omega, fun i _ hi => ?_⟩, fun i hi => by omega, hb⟩
    rw [← Array.getElem?_toList, h4, List.getElem?_replicate, if_pos hi]
theorem Half.lay {w wr : World} {g s n k : Nat} (h : Half w g s n k wr) (hk : k < n) : Half w g s n (k + 1) ((wr.setCell ⟨g, k, none⟩ (.map (some (s + k)))).alloc (.map #[] 0)) := by
  obtain ⟨h1, h2, h3, ⟨arr, hb, hz, ha, hr⟩, h5, h6⟩ := h
  have hsz : (wr.setCell ⟨g, k, none⟩ (.map (some (s + k)))).heap.size = wr.heap.size := by simp [World.setCell]
  have hfar : ∀ x, x < wr.heap.size → x ≠ g → ((wr.setCell ⟨g, k, none⟩ (.map (some (s + k)))).alloc (.map #[] 0)).heap[x]? = wr.heap[x]? := fun x hl hx => (Below.heap_alloc _ _ x (by rw [hsz]; exact hl)).trans (Below.heap_setCell _ _ _ x hx)
  have h7 := h6.setCell (p := ⟨g, k, none⟩) h2 (.map (some (s + k)))
  refine ⟨h1, h2, by simp [World.setCell]; omega, ⟨arr.setIfInBounds k (.map (some (s + k))), (hb.set_ k _).alloc _, by simpa using hz, fun i hi => ?_, fun i hi hin => ?_⟩, fun i hi => ?_, h7.alloc h7.size _⟩
  · by_cases hik : i = k
    · subst hik
      rw [Array.getElem?_setIfInBounds_self_of_lt (by omega)]
    · rw [Array.getElem?_setIfInBounds_ne (Ne.symm hik)]
      exact ha i (by omega)
  · rw [Array.getElem?_setIfInBounds_ne (by omega)]
    exact hr i (by omega) hin
  · by_cases hik : i = k
    · subst hik
      exact MapAt.made (by rw [hsz]; omega)
    · have := h5 i (by omega)
      exact this.same (hfar _ this.lt (by omega))
theorem Half.done {w wr : World} {g s n : Nat} (h : Half w g s n n wr) : TabsAt wr g s n [] := by
  obtain ⟨h1, h2, h3, ⟨arr, hb, hz, ha, hr⟩, h5, h6⟩ := h
  exact ⟨h1, ⟨arr, hb, hz, ha⟩, h5⟩
/-- what newTables does -/
def Made (w : World) (n : Nat) (e : Ending) (w' : World) : Prop := ∃ g s, e = .returned (.slice (some ⟨g, 0, none⟩) n n) ∧ TabsAt w' g s n [] ∧ w.heap.size ≤ g ∧ s + n = w'.heap.size ∧ Below w.heap.size w w'
set_option maxHeartbeats 1600000 in
theorem newTables_any (n : Nat) (h1 : 1 ≤ n) (h8 : n ≤ 8) (w : World) : Calls Try.prog 25 #[.int .i64 n] w (Made w n) := by
  have hmm := @run_makeMap Try.prog
  go_enter Try.func25, Try.ntmps25
  go_wp2_with (first
    | (refine wpList_make_elem _ rfl (.tmp 5) (.tmp 5) rfl etab w.heap.size .i64 .i64 _ _ n rfl rfl rfl rfl (by omega) (by omega) (Nat.le_refl _) ?_
       intro w1 ho1 hb1
       replace ho1 : w1.ownsRow w.heap.size 81 1 (.slice (some ⟨w.heap.size, 0, none⟩) n n) n (madeCells #[.map none] (n * 1)).toList := ho1
       rw [Nat.mul_one, toList_madeCells_one] at ho1
       have HP := Lib.hid (Half.start ho1 hb1 h1)
       clear ho1 hb1))
  generalize hs : w1.heap.size = s at HP
  generalize hg : w.heap.size = g at HP ⊢
  have HG := Lib.hid hg
  clear hs hg
  go_loopw [9] (fun vi wr => ∃ k : Nat, vi = .int .i64 k ∧ k ≤ n ∧ Half w g s n k wr) (fun vi _ => n - (Go.RowKit.intOf vi).toNat)
  case atStart => exact ⟨0, rfl, Nat.zero_le _, HP.out⟩
  case round =>
    obtain ⟨k, rfl, hk, hh⟩ := hrel
    have HH := Lib.hid hh
    by_cases hkn : k < n
    · obtain ⟨arr, hb, hz, ha, hr⟩ := hh.row
      have x0 : wr.cell? ⟨g, k, none⟩ = some (.map none) := by rw [hb.cell, hr k (Nat.le_refl _) hkn]
      have f0 := hb.frozen k
      have hsz := Lib.hid hh.size
      have hgw : g < wr.heap.size := hb.lt
      have l1 : (k : Int) < (n : Int) := by omega
      have HN := Lib.hid (HH.out.lay hkn)
      rw [← hh.size] at HN
      clear hh ha hr hb
      go_wp2
      go_roundw
      case rel => exact ⟨k + 1, by go_num, by omega, HN.out⟩
      case measure => simp [Go.RowKit.intOf]; omega
    · obtain rfl : k = n := by omega
      have l1 : ¬ (k : Int) < (k : Int) := by omega
      clear hh
      go_wp2
      go_ret
      exact ⟨g, s, rfl, HH.out.done, HH.out.base, HH.out.size.symm, HH.out.new⟩
end Go.Proofs.Ytlgdbpejefgeaaa.Fold
