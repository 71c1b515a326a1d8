/-
  The document's reader of fields in memory.
-/
import Derived.Test.YtlkjmdkmcaaihaaTxnReader
import Derived.Test.YtlkjmdkmcaaihaaTxnChs
import Derived.Deep.QuietTactic
import Derived.BigQuiet
namespace Go.Proofs.Ytlkjmdkmcaaihaa.Txn
set_option linter.unusedVariables false
set_option maxRecDepth 100000
open Go.RowKit Base FieldMath TxnMath
open Go.Proofs.Ytlkjmdkmcaaihaa.Field (fv fv_append fv_one fv_length fv_get fv_take Flds ef ret_bool empty_iff Decoded)
set_option linter.ambiguousOpen false
set_option linter.unusedSimpArgs false

/-- the document's reader at block g has these fields before it, below block B, or one was wrong -/
def RR (w : World) (B g : Nat) (s : Rs) : Prop := ∃ A n c l at_ x, Blk w g 84 #[.slice A n c, .int .i64 ((at_ : Nat) : Int), .bool x] ∧ Flds w B A n c l ∧ at_ ≤ n ∧ B ≤ g ∧ s = if x = true then none else some (l.drop at_)
theorem RR.lt {w : World} {B g : Nat} {s : Rs} (h : RR w B g s) : g < w.heap.size := by
  obtain ⟨A, n, c, l, a, x, h1, _⟩ := h
  exact h1.lt
theorem RR.new {w w' : World} {B g : Nat} {s : Rs} (h : RR w B g s) (hb : Below w.heap.size w w') : RR w' B g s := by
  obtain ⟨A, n, c, l, a, x, h1, h2, h3, h4, h5⟩ := h
  have := h1.lt
  exact ⟨A, n, c, l, a, x, h1.below hb h1.lt, h2.below (hb.mono (by omega)), h3, h4, h5⟩
theorem RR.alloc {w : World} {B g : Nat} {s : Rs} (h : RR w B g s) (o : Obj) : RR (w.alloc o) B g s := h.new ((Below.refl _ _).alloc (Nat.le_refl _) o)
theorem RR.far {w : World} {B g : Nat} {s : Rs} (h : RR w B g s) {p : Addr} (hp : g < p.block) (u : Value) : RR (w.setCell p u) B g s := by
  obtain ⟨A, n, c, l, a, x, h1, h2, h3, h4, h5⟩ := h
  exact ⟨A, n, c, l, a, x, h1.far (by omega) u, h2.setCell (by omega) u, h3, h4, h5⟩
theorem RR.drewN {w : World} {B g : Nat} {s : Rs} (h : RR w B g s) (k : Nat) : RR (w.drewN k) B g s := h
theorem RR.wrong {w : World} {B g : Nat} {s : Rs} (h : RR w B g s) : RR (w.setCell ⟨g, 2, none⟩ (.bool true)) B g none := by
  obtain ⟨A, n, c, l, a, x, h1, h2, h3, h4, h5⟩ := h
  exact ⟨A, n, c, l, a, true, h1.set_ 2 _, h2.setCell (by exact h4) _, h3, h4, rfl⟩
theorem RR.step {w : World} {B g : Nat} {A : Option Addr} {n c a : Nat} {l : List Fld} (hb : Blk w g 84 #[.slice A n c, .int .i64 (a : Int), .bool false]) (hf : Flds w B A n c l) (ha : a < n) (hB : B ≤ g) (k k' : Nat) :
    RR ((((w.drewN k).setCell ⟨g, 1, none⟩ (.int .i64 ((a : Int) + 1)))).drewN k') B g (some (l.drop (a + 1))) :=
  ⟨A, n, c, l, a + 1, false, (((hb.drewN k).set_ 1 (.int .i64 ((a : Int) + 1))).drewN k' : Blk _ g _ #[.slice A n c, .int .i64 (((a + 1 : Nat)) : Int), .bool false]), ((Row.drewN hf k).setCell (by exact hB) _).drewN k', by omega, hB, rfl⟩
theorem drop_get {α : Type} {l : List α} {k : Nat} {f : α} (h : l[k]? = some f) : l.drop k = f :: l.drop (k + 1) := by
  obtain ⟨h1, h2⟩ := List.getElem?_eq_some_iff.1 h
  rw [List.drop_eq_getElem_cons h1, h2]

/-- what the document's reader answers -/
def RInt (w : World) (B g : Nat) (q : Int × Rs) (e : Ending) (w' : World) : Prop := e = .returned (.int .i64 q.1) ∧ RR w' B g q.2 ∧ w.grownBy w' (some g)

def RText (w : World) (B g : Nat) (q : ByteArray × Rs) (e : Ending) (w' : World) : Prop := e = .returned (.string q.1) ∧ RR w' B g q.2 ∧ w.grownBy w' (some g)
end Go.Proofs.Ytlkjmdkmcaaihaa.Txn
