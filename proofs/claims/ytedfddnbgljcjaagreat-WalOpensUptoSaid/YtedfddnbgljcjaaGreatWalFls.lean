/-
  WalOpens: how the files that were laid by hand are opened.
-/
import Derived.Test.YtedfddnbgljcjaaGreatWalOpens
import Derived.Test.YtedfddnbgljcjaaGreatPlayRows
import Derived.Test.YtedfddnbgljcjaaGreatOpenLists
namespace Go.Proofs.YtedfddnbgljcjaaGreat.Opens
set_option maxRecDepth 100000
set_option linter.ambiguousOpen false
open Go.RowKit Base
open Go.Proofs.YtedfddnbgljcjaaGreat.Play (open_rows bytes_in)
open Go.ChangeShapes Go.WideShapes Go.Deep

section
variable {H : Type} {enc : TypeId × Value → H} {W : World} {a : Option Addr} {len cap : Nat} {d : DataW H} {p : List MemPlace}
theorem lists_in {n : Nat} {v : Value} {y : DataW H × List MemPlace} (h : DataW.trod enc Tryz.prog W 0 (fun _ => true) true n 32 [v] = some y) : ∃ A n c ls, v = .slice A n c ∧ Lists W W.heap.size A n c ls := by
  rcases Go.Deep.open_int_rows Tryz.underlying32 Tryz.underlying31 Tryz.underlying5 (by kernel_rfl) (by kernel_rfl) h with ⟨hcs, _⟩ | ⟨x, l, c, A, L, C, Z, hcs, _, hl, hm, _, hall⟩
  · simp only [List.cons.injEq, and_true] at hcs
    exact ⟨none, 0, 0, [], hcs, Lists.nil_ _ _⟩
  · simp only [List.cons.injEq, and_true] at hcs
    obtain ⟨ls, h1⟩ := Field.lists_of hl hm hall
    exact ⟨some x, l, c, ls, hcs, h1⟩
theorem open_files (h : DataW.Trod enc Tryz.prog W 0 (fun _ => true) true 22 (.slice a len cap) d p) (hs : Rows.uptoBulk d ≤ 1048576) : Fls W W.heap.size a len cap := by
  obtain ⟨fuel, hf⟩ := h
  rcases open_rows Tryz.underlying22 Tryz.underlying34 (by kernel_rfl) (by kernel_rfl) hf with hcs | ⟨x, l, c, hcs, hl, hm, hall⟩
  · simp [Value.cells] at hcs
    obtain ⟨rfl, rfl, rfl⟩ := hcs
    exact ⟨by omega, by omega, fun h0 => by omega⟩
  · simp [Value.cells] at hcs
    obtain ⟨rfl, rfl, rfl⟩ := hcs
    unfold maxLen at hm
    refine ⟨hl, by omega, fun h0 => ?_⟩
    obtain ⟨b, off, spot⟩ := x
    obtain ⟨n0, hn0⟩ := hall 0 h0
    obtain ⟨u0, _, hc0, _⟩ := hn0 0 _ rfl
    have hspot : spot = none := by simpa [Addr.add] using World.cell?_spot hc0
    subst hspot
    have hlt : b < W.heap.size := by
      have := World.block_lt_of_cell? W _ hc0
      simpa [Addr.add] using this
    refine ⟨b, off, rfl, hlt, fun i hi => ?_⟩
    obtain ⟨n, hn⟩ := hall i hi
    obtain ⟨v0, y0, c0, t0, _⟩ := hn 0 _ rfl
    obtain ⟨v1, y1, c1, t1, b1⟩ := hn 1 _ rfl
    obtain ⟨v2, y2, c2, t2, _⟩ := hn 2 _ rfl
    obtain ⟨v3, y3, c3, t3, _⟩ := hn 3 _ rfl
    obtain ⟨f, e0, _, _⟩ := DataW.trod_int Tryz.underlying3 t0
    obtain ⟨N, e2, _, _⟩ := DataW.trod_int Tryz.underlying2 t2
    simp only [List.cons.injEq, and_true] at e0 e2
    subst e0 e2
    obtain ⟨Ab, nb, cb, lb, rfl, hy, hnb⟩ := bytes_in t1 (Nat.le_trans b1 hs)
    obtain ⟨Al, nl, cl, ll, rfl, hr⟩ := lists_in t3
    rw [add_none] at c0 c1 c2 c3
    exact ⟨f, N, Ab, nb, cb, lb, Al, nl, cl, ll, c0, c1, c2, c3, hy, hnb, hr⟩
end
end Go.Proofs.YtedfddnbgljcjaaGreat.Opens
