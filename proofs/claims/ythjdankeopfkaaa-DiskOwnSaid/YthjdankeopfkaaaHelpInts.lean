/-
  Contracts of the statements' own helpers over rows of ints: one is written over; two are held against each other.
-/
import Derived.Test.YthjdankeopfkaaaHelpSpoil
import Derived.Test.YthjdankeopfkaaaInts
namespace Go.Proofs.Ythjdankeopfkaaa.Help
open Go.RowKit Base
set_option linter.ambiguousOpen false

set_option maxHeartbeats 400000 in
theorem spoilI_any (g n c : Nat) (cs : Array Value) (w : World) (h : Blk w g 3 cs) (hn : n ≤ cs.size) (hc : n ≤ c) (hm : c ≤ 9223372036854775807) :
    Calls Try.prog 26 #[.slice (some ⟨g, 0, none⟩) n c] w fun e w' => e = .returned (.tuple #[]) ∧ w.grownBy w' (some g) := by
  have HB := Lib.hid h
  clear h
  go_enter Try.func26, Try.ntmps26
  go_wp2
  go_loopw [3] (fun i wr => Spoilt g 3 n w i wr) (fun i _ => n - (RowKit.intOf i).toNat)
  case atStart => exact ⟨0, cs, by omega, rfl, HB.out, hn, World.grownBy.refl _ _⟩
  case round =>
    obtain ⟨k, cs', hk, rfl, hb, hs, hw⟩ := hrel
    have HW := Lib.hid hw
    by_cases hlt : k < n
    · have hcell : wr.cell? ⟨g, 0 + k, none⟩ = some cs'[k] := by rw [Nat.zero_add, hb.cell k]; exact Array.getElem?_eq_getElem (by omega)
      have hfz := hb.frozen (0 + k)
      rw [Nat.zero_add] at hcell hfz
      have HB2 := Lib.hid (hb.set_ k (.int .i64 0))
      clear hb hw
      generalize cs'[k] = u at hcell
      go_wp2
      go_roundw
      case rel => exact ⟨k + 1, _, by omega, by go_num, HB2.out, by simpa using hs, only_setCell HW.out (.inl rfl) _⟩
      case measure => simp [RowKit.intOf]; omega
    · clear hb hw
      go_wp2
      go_end0
      exact ⟨rfl, HW.out⟩
set_option maxHeartbeats 400000 in
theorem spoilI_none (c : Nat) (w : World) : Calls Try.prog 26 #[.slice none 0 c] w fun e w' => e = .returned (.tuple #[]) ∧ w = w' := by
  go_enter Try.func26, Try.ntmps26
  go_wp2
  go_loop [3] (fun i => i = .int .i64 0) (fun _ => 0)
  case atStart => rfl
  case round =>
    subst hrel
    go_wp2
    go_end0
    exact ⟨rfl, rfl⟩

theorem eqI_same (x : Int) (w : World) :
    Calls Try.prog 47 #[.int .i64 x, .int .i64 x] w fun e w' => e = .returned (.bool true) ∧ w = w' := by
  go_enter Try.func47, Try.ntmps47
  go_wp2
  go_ret
  exact ⟨ret_bool (by simp), rfl⟩

set_option maxRecDepth 100000 in
set_option maxHeartbeats 800000 in
theorem sameI_same (B B' : Nat) (A A' : Option Addr) (n c c' : Nat) (l : List Int) (w : World) (h : Row w B 1 A n c (iv l)) (h' : Row w B' 1 A' n c' (iv l)) (hB : B ≤ w.heap.size) (hB' : B' ≤ w.heap.size) :
    Calls Try.prog 46 #[.slice A n c, .slice A' n c', .func (.func 47) #[] #[]] w fun e w' => e = .returned (.bool true) ∧ Below w.heap.size w w' := by
  have hle := h.le
  have HR := Lib.hid h
  have HR' := Lib.hid h'
  clear h h'
  go_enter Try.func46, Try.ntmps46
  go_wp2
  go_loopw [7] (fun i wr => ∃ k : Nat, k ≤ n ∧ i = .int .i64 k ∧ Below w.heap.size w wr) (fun i _ => n - (RowKit.intOf i).toNat)
  case atStart => exact ⟨0, by omega, rfl, Below.refl _ _⟩
  case round =>
    obtain ⟨k, hk, rfl, hbel⟩ := hrel
    have HB := Lib.hid hbel
    clear hbel
    by_cases hlt : k < n
    · obtain ⟨b, off, rfl, hb, hcell⟩ := Row.num (HR.out.below (HB.out.mono hB)) hlt
      obtain ⟨b', off', rfl, hb', hcell'⟩ := Row.num (HR'.out.below (HB.out.mono hB')) hlt
      generalize l.getD k 0 = z at hcell hcell'
      go_wp2
      go_still_tail 9, (by kernel_rfl)
      go_wp2_with fail
      refine (eqI_same _ _).mono ?_
      rintro e w2 ⟨rfl, rfl⟩
      go_wp2
      go_roundw
      case rel => exact ⟨k + 1, by omega, by go_num, HB.out.drew⟩
      case measure => simp [RowKit.intOf]; omega
    · go_wp2
      go_ret
      exact ⟨rfl, HB.out⟩

theorem plainI_same (B B' : Nat) (A A' : Option Addr) (n c c' : Nat) (l : List Int) (w : World) (h : Row w B 1 A n c (iv l)) (h' : Row w B' 1 A' n c' (iv l)) (hB : B ≤ w.heap.size) (hB' : B' ≤ w.heap.size) :
    Calls Try.prog 28 #[.slice A n c, .slice A' n c'] w fun e w' => e = .returned (.bool true) ∧ Below w.heap.size w w' := by
  go_enter Try.func28, Try.ntmps28
  go_wp2_with fail
  refine (sameI_same B B' A A' n c c' l _ h h' hB hB').mono ?_
  rintro e w2 ⟨rfl, hb2⟩
  have HB2 := Lib.hid hb2
  clear hb2
  go_wp2
  go_ret
  exact ⟨rfl, HB2.out⟩
end Go.Proofs.Ythjdankeopfkaaa.Help
