/-
  The contract of package disk's Files: the numbers of the files, rising, in a new slice.
-/
import Derived.Test.YtedfddnbgljcjaaGreatDiskAsk
import Derived.Test.YtedfddnbgljcjaaGreatIter
namespace Go.Proofs.YtedfddnbgljcjaaGreat.Disk
set_option maxRecDepth 100000
open Go.RowKit Go.Maps Go.Sort Go.Shelf
open Base DiskMath
set_option linter.ambiguousOpen false

theorem ids_sorted : ∀ {lo : Int} {l : List Fl}, Up lo l → (l.map (·.id)).Pairwise (fun a b => a ≤ b)
  | _, [], _ => List.Pairwise.nil
  | lo, x :: r, ⟨_, _, _, h4⟩ => by
    rw [List.map_cons, List.pairwise_cons]
    refine ⟨fun k hk => ?_, ids_sorted h4⟩
    obtain ⟨y, hy, rfl⟩ := List.mem_map.1 hk
    have := (h4.mem y hy).1
    omega
theorem sorted_ids {l : List Fl} (h : Up 0 l) {ss : List Int} (hs : ss.Perm (l.map (·.id))) : ss.mergeSort (fun x y => decide (x ≤ y)) = l.map (·.id) := by
  have e : ss.mergeSort (fun x y => decide (x ≤ y)) = (l.map (·.id)).mergeSort (fun x y => decide (x ≤ y)) := mergeSort_of_perm_i hs
  rw [e]
  refine List.mergeSort_of_pairwise ?_
  exact (ids_sorted h).imp fun h => by simpa using h

/-- slices.Sort at this program, at the fence that asks nothing -/
theorem sortsA (m : Nat) : AnyZI.SortsIn Tryz.prog Tryz.sortedA_ren Fence.wide m :=
  ⟨fun blk off cap ss W hH hblk hsz => callsIn_wide.2 (AnyM.slices_Sort_int Tryz.sortA blk off cap ss W hH hblk hsz),
   fun p cap W => callsIn_wide.2 (AnyM.slices_Sort_int_none Tryz.sortA p cap W)⟩

/-- what Files tells -/
def Told (w : World) (ks : List Int) (e : Ending) (w' : World) : Prop :=
  ∃ A c, e = .returned (.slice A ks.length c) ∧ w'.ownsRow w.heap.size 3 1 (.slice A ks.length c) ks.length (ks.map encZ) ∧ Below w.heap.size w w'

set_option maxHeartbeats 1000000 in
theorem files_any (F : Nat → Prop) (g : Nat) (d : Dk) (w : World) (h : DiskAt F w g d) :
    Calls Tryz.prog 39 #[.pointer (some ⟨g, 0, none⟩)] w (Told w (d.files.map (·.id))) := by
  have hup := h.up
  obtain ⟨b, pl, hh, _, hb⟩ := h
  have hown := hb.2.1
  have c3 := hh.cells.2.2.2
  have hsz : Maps.size (DataW.map (ents d.files pl)) ≤ 16384 := by
    have := hup.le
    rw [Maps.size, ents, List.length_map]
    exact this
  have hkeys := ents_keys d.files pl
  clear hb hh
  refine (callsIn_wide (n := 6)).1 ?_
  have hbl := hown.lt
  have hseq : SeqGives Fence.wide 2 Tryz.prog 87 #[.pointer (some ⟨w.heap.size, 0, none⟩)] encZ (fun ss => ss.Perm (intKeys (DataW.map (ents d.files pl)))) (Maps.size (DataW.map (ents d.files pl))) (w.alloc (.cells #[.map (some b)] 49)) :=
    AnyZI.keys_gives (ρ := Tryz.keysA_ren) { Tryz.keysA with } Fence.wide _ trivial rfl (by omega) w.heap.size b _ _ _ (by simp) (by simp) (by
      obtain ⟨es, clock, hb, Ft, hs, hD⟩ := hown
      exact ⟨es, clock, (Below.heap_alloc _ _ b hbl).trans hb, Ft, hs, hD⟩)
  have cK : ∀ mb W, CallsIn Fence.wide 5 Tryz.prog 68 #[.map mb] W fun e w' => e = .returned (.func (.func 87) #[] #[.pointer (some ⟨W.heap.size, 0, none⟩)]) ∧ w' = W.alloc (.cells #[.map mb] 49) := fun mb W => AnyZI.keys_in Tryz.keysA Fence.wide 5 trivial rfl mb W
  have cS := AnyZI.sorted_in Tryz.sortedA Fence.wide 5 trivial trivial trivial trivial rfl (by omega) (sortsA _) (enters_of Tryz.func86 (by kernel_rfl) rfl) 87 #[.pointer (some ⟨w.heap.size, 0, none⟩)] trivial (enters_of Tryz.func87 (by kernel_rfl) rfl) _ _ (by unfold maxLen; omega) (by omega) _ hseq
  change CallsIn _ _ Tryz.prog 67 _ _ _ at cS
  have hfK : Fence.wide.fn 68 := trivial
  have hfS : Fence.wide.fn 67 := trivial
  have HU := Lib.hid hup
  have HK := Lib.hid hkeys
  clear hsz hup hkeys hown hseq
  refine callsIn_of_wp Tryz.func39 rfl trivial ?_ rfl
  simp only [Tryz.ntmps39, List.size_toArray, List.length_cons, List.length_nil, Nat.reduceAdd, Nat.reduceSub, Array.replicate_succ, Array.replicate_zero, List.push_toArray, List.append_toArray, List.nil_append, List.cons_append]
  gi_wp2_with (first
    | (gi_at_call 68; refine (cK _ _).mono ?_; rintro e w' ⟨rfl, rfl⟩)
    | (gi_at_call 67; refine cS.mono ?_; rintro e w' ⟨v, ss, rfl, hS, hrow, hnil, hb⟩))
  go_ret
  rw [HK.out] at hS
  rw [sorted_ids HU.out hS, hS.length_eq] at hrow
  have hrow2 := ownsRow_base_a (base' := w.heap.size) hrow (by simp)
  obtain ⟨A, c, rfl⟩ := own_slice hrow2
  exact ⟨A, c, rfl, hrow2, ((Below.refl _ w).alloc (Nat.le_refl _) _).trans (hb.mono (by simp))⟩
end Go.Proofs.YtedfddnbgljcjaaGreat.Disk
