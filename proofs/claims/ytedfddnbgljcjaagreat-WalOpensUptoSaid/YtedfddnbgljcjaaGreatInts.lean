/-
  Rows of ints in memory, of no program.
-/
import Derived.Test.YtedfddnbgljcjaaGreatBase
namespace Go.Proofs.YtedfddnbgljcjaaGreat.Base
open Go.RowKit

def iv (l : List Int) : List Value := l.map fun k => Value.int .i64 k
theorem iv_get {l : List Int} {k : Nat} (h : k < l.length) : (iv l)[k]? = some (.int .i64 l[k]) := by rw [iv, List.getElem?_map, List.getElem?_eq_getElem h]; rfl
/-- a number of a row -/
theorem Row.num {w : World} {B n c : Nat} {A : Option Addr} {l : List Int} (h : Row w B 1 A n c (iv l)) {k : Nat} (hk : k < n) : ∃ b off, A = some ⟨b, off, none⟩ ∧ b < B ∧ w.cell? ⟨b, off + k, none⟩ = some (.int .i64 (l.getD k 0)) := by
  obtain ⟨b, off, e, hb, hc⟩ := h.2.2.2 (by omega)
  have hl : k < l.length := by have := h.1; rw [iv, List.length_map] at this; omega
  refine ⟨b, off, e, hb, ?_⟩
  rw [hc k _ (iv_get hl), List.getD_eq_getElem?_getD, List.getElem?_eq_getElem hl]
  rfl
theorem iv_length (l : List Int) : (iv l).length = l.length := List.length_map _
end Go.Proofs.YtedfddnbgljcjaaGreat.Base
