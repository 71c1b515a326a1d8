/-
  Package fold: contract of rows: of each table its rows, rising, in new slices.
-/
import Derived.Test.YtlgdbpejefgeaaaFoldTab
import Derived.Test.YtlgdbpejefgeaaaFoldIter
import Derived.Test.YtlgdbpejefgeaaaIdxRef
import Derived.Test.YtlgdbpejefgeaaaLsts
namespace Go.Proofs.Ytlgdbpejefgeaaa.Fold
set_option linter.unusedVariables false
set_option linter.unusedSimpArgs false
set_option maxRecDepth 100000
open Go.RowKit Base IdxMath FoldMath Foot Idx
open TxnMath (Ch)
open Lsts (Lsts)
open Last (wp_region_last_at then_normal)
set_option linter.ambiguousOpen false

theorem erow2 : Elem Try.prog 28 39 1 24 (.slice none 0 0) := .of (by rfl) (by rfl) rfl (by omega)
def rowsL (n : Nat) (cs : List Ch) : List (List Rw) := (List.range n).map fun (i : Nat) => rows (i : Int) cs
theorem rowsL_get {n i : Nat} (hi : i < n) (cs : List Ch) : (rowsL n cs)[i]? = some (rows (i : Int) cs) := by
  unfold rowsL
  rw [List.getElem?_map, List.getElem?_range hi]
  rfl
theorem rowsL_length (n : Nat) (cs : List Ch) : (rowsL n cs).length = n := by simp [rowsL]
/-- k of n tables' rows are there, in the row g -/
structure OutK (w0 : World) (g n k : Nat) (cs : List Ch) (wr : World) : Prop where
  base : w0.heap.size ≤ g
  row : ∃ arr : Array Value, Blk wr g 39 arr ∧ arr.size = n ∧ (∀ i, k ≤ i → i < n → arr[i]? = some (.slice none 0 0)) ∧
    ∀ i : Nat, i < k → ∃ A c, arr[i]? = some (.slice A (rows (i : Int) cs).length c) ∧ wr.ownsRow w0.heap.size 36 2 (.slice A (rows (i : Int) cs).length c) (rows (i : Int) cs).length (rv (rows (i : Int) cs))
  new : Below w0.heap.size w0 wr
theorem OutK.start {w w1 : World} {n : Nat} {cs : List Ch} (ho : w1.ownsRow w.heap.size 39 1 (.slice (some ⟨w.heap.size, 0, none⟩) n n) n (List.replicate n (.slice none 0 0))) (hb : Below w.heap.size w w1) (hn : 1 ≤ n) : OutK w w.heap.size n 0 cs w1 := by
  rcases ho.2 with ⟨hv, h0⟩ | ⟨b, cap, cur, hv, hbase, hg, h1, h2, h3, h4⟩
  · omega
  · simp only [Value.slice.injEq, Option.some.injEq, Addr.mk.injEq] at hv
    obtain ⟨⟨rfl, _⟩, _, rfl⟩ := hv
    rw [List.take_of_length_le (by rw [Array.length_toList, h3]; exact Nat.le_refl _)] at h4
    refine ⟨Nat.le_refl _, ⟨cur, hg, by omega, fun i _ hi => ?_, fun i hi => by omega⟩, hb⟩
    rw [← Array.getElem?_toList, h4, List.getElem?_replicate, if_pos hi]
/-- a row of another type than the tables' own row stays -/
theorem own_far {w w' : World} {g base n : Nat} {arr : Array Value} {e : TypeId} {size : Nat} {v : Value} {xs : List Value} (h : w.ownsRow base e size v n xs) (hb : Blk w g 39 arr) (hne : e ≠ 39) (hg : w.grownBy w' (some g)) : w'.ownsRow base e size v n xs := by
  refine own_same h fun x hx => ?_
  refine hg.block x (own_lt h hx) fun he => ?_
  injection he with he
  subst he
  obtain ⟨cur, hc⟩ := own_type h hx
  unfold Blk at hb
  rw [hb] at hc
  injection hc with hc
  injection hc with _ hc
  exact hne hc.symm
/-- the k-th table's rows are at work: the first m of them are there; W: where the keys were read -/
def CurK (W : World) (g k : Nat) (arr : Array Value) (l : List Rw) (m : Nat) (wr : World) : Prop :=
  W.grownBy wr (some g) ∧ ∃ A c, Blk wr g 39 (arr.setIfInBounds k (.slice A m c)) ∧ wr.ownsRow W.heap.size 36 2 (.slice A m c) m (rv (l.take m))
theorem row_ne : (36 : TypeId) ≠ 39 := by decide
theorem int64_ne : (2 : TypeId) ≠ 39 := by decide
theorem OutK.next {w0 w W wr : World} {g n k : Nat} {cs : List Ch} {arr : Array Value} (h : OutK w0 g n k cs w) (hk : k < n) (hb : Below w.heap.size w W) (ha : Blk W g 39 arr) (hc : CurK W g k arr (rows (k : Int) cs) (rows (k : Int) cs).length wr) : OutK w0 g n (k + 1) cs wr := by
  obtain ⟨h1, ⟨arr', hbk, hz, hr, hd⟩, h6⟩ := h
  have hgl := hbk.lt
  obtain rfl : arr = arr' := by
    have h2 := hbk.below hb hgl
    unfold Blk at h2 ha
    rw [ha] at h2
    injection h2 with h2
    injection h2
  obtain ⟨hg, A, c, hbk2, ho⟩ := hc
  rw [List.take_length] at ho
  have hsz := hb.size
  have hsz0 := h6.size
  refine ⟨h1, ⟨_, hbk2, by simpa using hz, fun i hi hin => ?_, fun i hi => ?_⟩, ?_⟩
  · rw [Array.getElem?_setIfInBounds_ne (by omega)]
    exact hr i (by omega) hin
  · by_cases hik : i = k
    · subst hik
      exact ⟨A, c, by rw [Array.getElem?_setIfInBounds_self_of_lt (by omega)], own_mono ho (by omega)⟩
    · obtain ⟨A', c', e, ho'⟩ := hd i (by omega)
      exact ⟨A', c', by rw [Array.getElem?_setIfInBounds_ne (Ne.symm hik)]; exact e, own_far (own_keep ho' hb) ha row_ne hg⟩
  · have h7 : Below w0.heap.size w0 W := h6.trans (hb.mono hsz0)
    exact h7.grown hg h7.size (fun x hx => by cases hx; exact h1)
theorem OutK.done {w0 wr : World} {g n : Nat} {cs : List Ch} (h : OutK w0 g n n cs wr) (h8 : n ≤ 8) : Lsts Rz wr wr.heap.size (some ⟨g, 0, none⟩) n n (rowsL n cs) := by
  obtain ⟨h1, ⟨arr, hbk, hz, hr, hd⟩, h6⟩ := h
  refine Lsts.row (vs := arr.toList) ⟨by rw [Array.length_toList]; omega, Nat.le_refl _, by omega, fun _ => ⟨g, 0, rfl, hbk.lt, fun j u hu => ?_⟩⟩ (by rw [Array.length_toList, rowsL_length]; exact hz) fun i v l hv hl => ?_
  · rw [Nat.zero_add, hbk.cell, ← Array.getElem?_toList]
    exact hu
  · have hi : i < n := by have := (List.getElem?_eq_some_iff.1 hl).1; rwa [rowsL_length] at this
    rw [rowsL_get hi] at hl
    injection hl with hl
    subst hl
    obtain ⟨A, c, e, ho⟩ := hd i hi
    rw [Array.getElem?_toList, e] at hv
    injection hv with hv
    exact ⟨A, _, c, hv.symm, Rz.of_own ho⟩
theorem rz_rs {w : World} {B n c : Nat} {A : Option Addr} {T : List (List Rw)} (h : Lsts Rz w B A n c T) : Lsts Rs w B A n c T := by
  obtain ⟨vs, h1, h2, h3⟩ := h
  refine ⟨vs, h1, h2, fun i v l hv hl => ?_⟩
  obtain ⟨A', n', c', e, hr⟩ := h3 i v l hv hl
  exact ⟨A', n', c', e, hr.1⟩
/-- what rows answers -/
def RowsR (w : World) (n : Nat) (cs : List Ch) (e : Ending) (w' : World) : Prop := ∃ g, e = .returned (.slice (some ⟨g, 0, none⟩) n n) ∧ Lsts Rz w' w'.heap.size (some ⟨g, 0, none⟩) n n (rowsL n cs) ∧ Below w.heap.size w w'
theorem CurK.push {W wr w4 : World} {g k m : Nat} {arr : Array Value} {l : List Rw} {A A4 : Option Addr} {c c4 : Nat} {x : Rw} (hg : W.grownBy wr (some g)) (hbk : Blk wr g 39 (arr.setIfInBounds k (.slice A m c))) (ho : wr.ownsRow W.heap.size 36 2 (.slice A m c) m (rv (l.take m))) (hgW : g < W.heap.size) (hx : l[m]? = some x)
    (h4 : w4.ownsRow W.heap.size 36 2 (.slice A4 (m + 1) c4) (m + 1) (rv (l.take m ++ [x]))) (hg4 : wr.grownBy w4 (Value.slice A m c).ownBlock) : CurK W g k arr l (m + 1) (w4.setCell ⟨g, k, none⟩ (.slice A4 (m + 1) c4)) := by
  have hgb : some g ≠ (Value.slice A m c).ownBlock := fun e => by have := ho.lt g e.symm; omega
  have hb4 := hbk.grown hg4 hgb
  refine ⟨only_setCell (only_trans hg hg4 (.inr fun x hx => (ho.lt x hx).1)) (.inl rfl) _, A4, c4, ?_, ?_⟩
  · have := hb4.set_ k (.slice A4 (m + 1) c4)
    rwa [Array.setIfInBounds_setIfInBounds] at this
  · have e : l.take (m + 1) = l.take m ++ [x] := by rw [List.take_add_one, hx]; rfl
    rw [e]
    refine own_same h4 fun y hy => Below.heap_setCell _ _ _ y fun e => ?_
    have := h4.lt y hy
    dsimp only at e
    omega
end Go.Proofs.Ytlgdbpejefgeaaa.Fold
