/-
  Contracts of the statements' own helpers that write over a row (of bytes, of ints), and that hold two rows of ints against each other.
-/
import Derived.Test.YthjdankeopfkaaaHelpBytes
namespace Go.Proofs.Ythjdankeopfkaaa.Help
open Go.RowKit Base
set_option linter.ambiguousOpen false

/-- a row of the call's own: nil, or a block that is known -/
theorem own_blk {w : World} {base n c : Nat} {e : TypeId} {A : Option Addr} {xs : List Value} (h : w.ownsRow base e 1 (.slice A n c) n xs) : (A = none ∧ n = 0) ∨ ∃ g cs, A = some ⟨g, 0, none⟩ ∧ Blk w g e cs ∧ n ≤ cs.size ∧ base ≤ g := by
  rcases h.2 with ⟨he, h0⟩ | ⟨g, cap, cur, he, hbase, hg, hnc, hcm, hcs, htake⟩
  · simp only [Value.slice.injEq] at he
    exact .inl ⟨he.1, h0⟩
  · simp only [Value.slice.injEq] at he
    exact .inr ⟨g, cur, he.1, hg, by omega, hbase⟩
def Spoilt (g : Nat) (t : TypeId) (n : Nat) (w : World) (i : Value) (wr : World) : Prop := ∃ (k : Nat) (cs : Array Value), k ≤ n ∧ i = .int .i64 k ∧ Blk wr g t cs ∧ n ≤ cs.size ∧ w.grownBy wr (some g)

set_option maxHeartbeats 400000 in
theorem spoil8_any (g n c : Nat) (cs : Array Value) (w : World) (h : Blk w g 5 cs) (hn : n ≤ cs.size) (hc : n ≤ c) (hm : c ≤ 9223372036854775807) :
    Calls Try.prog 24 #[.slice (some ⟨g, 0, none⟩) n c] w fun e w' => e = .returned (.tuple #[]) ∧ w.grownBy w' (some g) := by
  have HB := Lib.hid h
  clear h
  go_enter Try.func24, Try.ntmps24
  go_wp2
  go_loopw [3] (fun i wr => Spoilt g 5 n w i wr) (fun i _ => n - (RowKit.intOf i).toNat)
  case atStart => exact ⟨0, cs, by omega, rfl, HB.out, hn, World.grownBy.refl _ _⟩
  case round =>
    obtain ⟨k, cs', hk, rfl, hb, hs, hw⟩ := hrel
    have HW := Lib.hid hw
    by_cases hlt : k < n
    · have hcell : wr.cell? ⟨g, 0 + k, none⟩ = some cs'[k] := by rw [Nat.zero_add, hb.cell k]; exact Array.getElem?_eq_getElem (by omega)
      have hfz := hb.frozen (0 + k)
      rw [Nat.zero_add] at hcell hfz
      have HB2 := Lib.hid (hb.set_ k (.int .u8 0))
      clear hb hw
      generalize cs'[k] = u at hcell
      go_wp2
      go_roundw
      case rel => exact ⟨k + 1, _, by omega, by go_num, HB2.out, by simpa using hs, only_setCell HW.out (.inl rfl) _⟩
      case measure => simp [RowKit.intOf]; omega
    · clear hb hw
      go_wp2
      go_end0
      exact ⟨rfl, HW.out⟩
set_option maxHeartbeats 400000 in
theorem spoil8_none (c : Nat) (w : World) : Calls Try.prog 24 #[.slice none 0 c] w fun e w' => e = .returned (.tuple #[]) ∧ w = w' := by
  go_enter Try.func24, Try.ntmps24
  go_wp2
  go_loop [3] (fun i => i = .int .i64 0) (fun _ => 0)
  case atStart => rfl
  case round =>
    subst hrel
    go_wp2
    go_end0
    exact ⟨rfl, rfl⟩
end Go.Proofs.Ythjdankeopfkaaa.Help
