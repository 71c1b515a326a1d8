/-
  A world that has come of another by draws and new blocks alone (of no program).
-/
import Derived.Test.YtadlollgmimajaaBase
import Derived.Shelf.SlSortCmp.QuietGrown
namespace Go.Proofs.Ytadlollgmimajaa.Base
open Go.RowKit
open Go.Sort (grow grow_grow alloc_eq_grow)
def Gr (w w' : World) : Prop := ∃ q os, w' = grow (w.drewN q) os
section
variable {w w1 w2 : World}
theorem Gr.refl (w : World) : Gr w w := ⟨0, #[], by rw [Go.Sort.grow_empty]; rfl⟩
theorem Gr.trans (h : Gr w w1) (k : Gr w1 w2) : Gr w w2 := by
  obtain ⟨q, os, rfl⟩ := h
  obtain ⟨q', os', rfl⟩ := k
  exact ⟨q + q', os ++ os', by rw [← grow_grow, ← World.drewN_drewN]; rfl⟩
theorem Gr.alloc (h : Gr w w1) (o : Obj) : Gr w (w1.alloc o) := h.trans ⟨0, #[o], by rw [alloc_eq_grow]; rfl⟩
theorem Gr.drewN (h : Gr w w1) (n : Nat) : Gr w (w1.drewN n) := h.trans ⟨n, #[], by rw [Go.Sort.grow_empty]⟩
theorem Gr.drew (h : Gr w w1) : Gr w w1.drew := h.drewN 1
theorem Gr.grown (h : Gr w w1) (n : Nat) (os : Array Obj) : Gr w (grow (w1.drewN n) os) := h.trans ⟨n, os, rfl⟩
theorem Gr.below (h : Gr w w1) : Below w.heap.size w w1 := by
  obtain ⟨q, os, rfl⟩ := h
  exact ⟨rfl, rfl, rfl, by simp, fun i hi => Go.Sort.heap_grow_old (w.drewN q) os hi⟩
/-- a callee's contract, met in a world of the class -/
theorem Gr.met {P : Program} {f : FuncId} {args : Array Value} {n : Nat} {os : Array Obj} {v : Value}
    (h : Calls P f args (grow (w.drewN n) os) fun e w' => e = .returned v ∧ Gr (grow (w.drewN n) os) w') : Calls P f args (grow (w.drewN n) os) fun e w'' => e = .returned v ∧ ∃ p : GrownBy, w'' = grow (w.drewN p.n) p.os :=
  Calls.grown_of (h.mono fun _ _ ⟨he, hq⟩ => ⟨he, hq⟩)
theorem Gr.same {P : Program} {f : FuncId} {args : Array Value} {n : Nat} {os : Array Obj} {v : Value}
    (h : Calls P f args (grow (w.drewN n) os) fun e w' => e = .returned v ∧ grow (w.drewN n) os = w') : Calls P f args (grow (w.drewN n) os) fun e w'' => e = .returned v ∧ ∃ p : GrownBy, w'' = grow (w.drewN p.n) p.os :=
  Gr.met (h.mono fun _ _ ⟨he, hq⟩ => ⟨he, hq ▸ Gr.refl _⟩)
end
end Go.Proofs.Ytadlollgmimajaa.Base
