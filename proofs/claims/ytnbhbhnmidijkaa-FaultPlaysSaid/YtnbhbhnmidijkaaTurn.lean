/-
  What one step turns of the blocks that are an object's own (of no program).
-/
import Derived.Test.YtnbhbhnmidijkaaBase
namespace Go.Proofs.Ytnbhbhnmidijkaa.Foot
open Go.RowKit Base

/-! ### what has turned -/
/-- what has turned lies in F, or is new -/
structure Turn (F : Nat → Prop) (w w' : World) : Prop where
  os : w'.os = w.os
  tape : w'.tape = w.tape
  output : w'.output = w.output
  size : w.heap.size ≤ w'.heap.size
  block : ∀ i, i < w.heap.size → ¬ F i → w'.heap[i]? = w.heap[i]?
/-- F, and what is new -/
def Out (F : Nat → Prop) (w w' : World) (i : Nat) : Prop := F i ∨ (w.heap.size ≤ i ∧ i < w'.heap.size)

section
variable {F F' : Nat → Prop} {w w1 w2 : World}
theorem Turn.refl (F : Nat → Prop) (w : World) : Turn F w w := ⟨rfl, rfl, rfl, Nat.le_refl _, fun _ _ _ => rfl⟩
theorem Turn.trans (h : Turn F w w1) (k : Turn F' w1 w2) (hF : ∀ i, F' i → F i ∨ w.heap.size ≤ i) : Turn F w w2 :=
  ⟨k.os.trans h.os, k.tape.trans h.tape, k.output.trans h.output, Nat.le_trans h.size k.size, fun i hi hn => (k.block i (Nat.lt_of_lt_of_le hi h.size) (fun hf => by
    rcases hF i hf with h1 | h1
    · exact hn h1
    · omega)).trans (h.block i hi hn)⟩
theorem Turn.mono (h : Turn F w w1) (hF : ∀ i, F i → F' i) : Turn F' w w1 := ⟨h.os, h.tape, h.output, h.size, fun i hi hn => h.block i hi fun hf => hn (hF i hf)⟩
theorem Turn.grown {row : Option Nat} (h : w.grownBy w1 row) (hr : ∀ g, row = some g → F g) : Turn F w w1 :=
  ⟨h.os, h.tape, h.output, h.size, fun i hi hn => h.block i hi fun e => hn (hr i e.symm)⟩
theorem Turn.new (h : Below w.heap.size w w1) : Turn F w w1 := ⟨h.os, h.tape, h.output, h.size, fun i hi _ => h.block i hi⟩
theorem Turn.below {B : Nat} (h : Turn F w w1) (hF : ∀ i, F i → B ≤ i) (hB : B ≤ w.heap.size) : Below B w w1 :=
  ⟨h.os, h.tape, h.output, h.size, fun i hi => h.block i (by omega) fun hf => by have := hF i hf; omega⟩
theorem Turn.alloc (h : Turn F w w1) (o : Obj) : Turn F w (w1.alloc o) :=
  h.trans (F' := fun _ => False) (.new ((Below.refl _ _).alloc (Nat.le_refl _) o)) (fun _ h => h.elim)
theorem Turn.setCell (h : Turn F w w1) {p : Addr} (hp : F p.block ∨ w.heap.size ≤ p.block) (u : Value) : Turn F w (w1.setCell p u) :=
  ⟨h.os, h.tape, h.output, by simpa [World.setCell] using h.size, fun i hi hn => (Below.heap_setCell w1 p u i (by
    rintro rfl
    rcases hp with hp | hp
    · exact hn hp
    · omega)).trans (h.block i hi hn)⟩
theorem Turn.drewN (h : Turn F w w1) (n : Nat) : Turn F w (w1.drewN n) := ⟨h.os, h.tape, h.output, h.size, h.block⟩
theorem Turn.cell {F : Nat → Prop} {w w' : World} (h : Turn F w w') {p : Addr} (hp : p.block < w.heap.size) (hn : ¬ F p.block) : w'.cell? p = w.cell? p := World.cell?_of_block (h.block _ hp hn)
theorem Out.mono (h1 : w1.heap.size ≤ w2.heap.size) {i : Nat} (h : Out F w w1 i) : Out F w w2 i := h.imp id fun h => ⟨h.1, by omega⟩
theorem Out.two (h : Turn F w w1) {i : Nat} (hi : Out (Out F w w1) w1 w2 i) (h2 : w1.heap.size ≤ w2.heap.size) : Out F w w2 i := by
  rcases hi with (h1 | h1) | h1
  · exact .inl h1
  · exact .inr ⟨h1.1, by omega⟩
  · exact .inr ⟨Nat.le_trans h.size h1.1, h1.2⟩
theorem Turn.two (h : Turn F w w1) (k : Turn (Out F w w1) w1 w2) : Turn F w w2 := h.trans k fun _ hi => hi.imp id fun h => h.1
end

theorem own_same {w w' : World} {base n : Nat} {e : TypeId} {size : Nat} {v : Value} {xs : List Value} (h : w.ownsRow base e size v n xs) (hk : ∀ g, v.ownBlock = some g → w'.heap[g]? = w.heap[g]?) : w'.ownsRow base e size v n xs := by
  rcases h with ⟨h1, h2 | ⟨g, cap, cur, hv, hg, h3, h4⟩⟩
  · exact ⟨h1, .inl h2⟩
  · exact ⟨h1, .inr ⟨g, cap, cur, hv, hg, (hk g (by rw [hv]; rfl)).trans h3, h4⟩⟩
theorem own_type {w : World} {base n : Nat} {e : TypeId} {size : Nat} {v : Value} {xs : List Value} (h : w.ownsRow base e size v n xs) {g : Nat} (hg : v.ownBlock = some g) : ∃ cur, w.heap[g]? = some (.cells cur e (0, 0)) := by
  rcases h with ⟨_, ⟨hv, _⟩ | ⟨g', cap, cur, hv, _, h3, _⟩⟩
  · rw [hv] at hg; cases hg
  · rw [hv] at hg
    injection hg with hg
    subst hg
    exact ⟨cur, h3⟩
theorem own_lt {w : World} {base n : Nat} {e : TypeId} {size : Nat} {v : Value} {xs : List Value} (h : w.ownsRow base e size v n xs) {g : Nat} (hg : v.ownBlock = some g) : g < w.heap.size := by
  obtain ⟨cur, hc⟩ := own_type h hg
  exact Blk.lt (w := w) hc
end Go.Proofs.Ytnbhbhnmidijkaa.Foot
