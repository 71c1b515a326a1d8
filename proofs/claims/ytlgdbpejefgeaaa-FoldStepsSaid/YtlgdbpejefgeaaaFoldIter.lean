/-
  The keys of a table's map, rising, in a new slice: maps.Keys and slices.Sorted at int64.
-/
import Derived.Test.YtlgdbpejefgeaaaFoldMap
import Derived.Test.YtlgdbpejefgeaaaIter
namespace Go.Proofs.Ytlgdbpejefgeaaa.Fold
set_option linter.unusedVariables false
set_option linter.unusedSimpArgs false
set_option maxRecDepth 100000
open Go.RowKit Go.Maps Go.Sort Go.Shelf
open Base
open IdxMath (Rw Rise)
set_option linter.ambiguousOpen false

theorem keys_sorted {l : List Rw} (h : Rise l) : (l.map (·.key)).Pairwise (fun a b => a ≤ b) := by
  rw [List.pairwise_map]
  exact h.imp fun h => Int.le_of_lt h
theorem sorted_keys {l : List Rw} (h : Rise l) {ss : List Int} (hs : ss.Perm (l.map (·.key))) : ss.mergeSort (fun x y => decide (x ≤ y)) = l.map (·.key) := by
  have e : ss.mergeSort (fun x y => decide (x ≤ y)) = (l.map (·.key)).mergeSort (fun x y => decide (x ≤ y)) := mergeSort_of_perm_i hs
  rw [e]
  refine List.mergeSort_of_pairwise ?_
  exact (keys_sorted h).imp fun h => by simpa using h
/-- slices.Sort at this program, at the fence that asks nothing -/
theorem sortsA (m : Nat) : AnyZI.SortsIn Try.prog Try.sortedA_ren Fence.wide m :=
  ⟨fun blk off cap ss W hH hblk hsz => callsIn_wide.2 (AnyM.slices_Sort_int Try.sortA blk off cap ss W hH hblk hsz),
   fun p cap W => callsIn_wide.2 (AnyM.slices_Sort_int_none Try.sortA p cap W)⟩
theorem mkeys_any (mb : Option Nat) (W : World) : Calls Try.prog 43 #[.map mb] W fun e w' => e = .returned (.func (.func 47) #[] #[.pointer (some ⟨W.heap.size, 0, none⟩)]) ∧ w' = W.alloc (.cells #[.map mb] 81) :=
  (callsIn_wide (n := 5)).1 (AnyZI.keys_in Try.keysA Fence.wide 5 trivial rfl mb W)
/-- what the sorted keys of rows l are -/
def KeysR (w : World) (l : List Rw) (e : Ending) (w' : World) : Prop :=
  ∃ A c, e = .returned (.slice A l.length c) ∧ w'.ownsRow w.heap.size 2 1 (.slice A l.length c) l.length ((l.map (·.key)).map encZ) ∧ Below w.heap.size w w'
theorem sorted_any (p b n : Nat) (l : List Rw) (w : World) (hp : w.cell? ⟨p, 0, none⟩ = some (.map (some b))) (h : MapAt w b n l) (hr : Rise l) (hsz : l.length ≤ 1099511627774) :
    Calls Try.prog 42 #[.func (.func 47) #[] #[.pointer (some ⟨p, 0, none⟩)]] w (KeysR w l) := by
  have hz : Maps.size (DataW.map (ents l)) ≤ 1099511627774 := by rw [ents_size]; exact hsz
  have hseq : SeqGives Fence.wide 2 Try.prog 47 #[.pointer (some ⟨p, 0, none⟩)] encZ (fun ss => ss.Perm (intKeys (DataW.map (ents l)))) (Maps.size (DataW.map (ents l))) w :=
    AnyZI.keys_gives (ρ := Try.keysA_ren) { Try.keysA with } Fence.wide _ trivial rfl (by omega) p b _ _ _ (World.block_lt_of_cell? w _ hp) hp h
  have cS := AnyZI.sorted_in Try.sortedA Fence.wide 5 trivial trivial trivial trivial rfl (by omega) (sortsA _) (enters_of Try.func46 (by kernel_rfl) rfl) 47 #[.pointer (some ⟨p, 0, none⟩)] trivial (enters_of Try.func47 (by kernel_rfl) rfl) _ _ (by unfold maxLen; omega) (by omega) _ hseq
  change CallsIn _ _ Try.prog 42 _ _ _ at cS
  refine (callsIn_wide.1 cS).mono ?_
  rintro e w' ⟨v, ss, rfl, hS, hrow, _, hb⟩
  rw [ents_keys] at hS
  have hlen : ss.length = l.length := by rw [hS.length_eq, List.length_map]
  rw [sorted_keys hr hS, hlen] at hrow
  obtain ⟨A, c, rfl⟩ := own_slice hrow
  exact ⟨A, c, rfl, hrow, hb⟩
end Go.Proofs.Ytlgdbpejefgeaaa.Fold
