/-
  Rows of rows of bytes in memory, of no program: a slice of slices that reads as a list of lists; kept over what is made later; made by appending to a row of the call's own.
-/
import Derived.Test.YtedfddnbgljcjaaGreatBase
namespace Go.Proofs.YtedfddnbgljcjaaGreat.Base
open Go.RowKit

/-- The slice value '.slice A n c' reads as the lists ls; it, and each of them, lies below block B. -/
def Lists (w : World) (B : Nat) (A : Option Addr) (n c : Nat) (ls : List (List UInt8)) : Prop :=
  ∃ vs, Row w B 1 A n c vs ∧ vs.length = ls.length ∧ ∀ (i : Nat) v l, vs[i]? = some v → ls[i]? = some l → ∃ A' n' c', v = .slice A' n' c' ∧ Bytes w B A' n' c' l
section
variable {w w' : World} {B B' n c : Nat} {A : Option Addr} {ls : List (List UInt8)}
theorem Lists.len (h : Lists w B A n c ls) : ls.length = n := by
  obtain ⟨vs, h1, h2, _⟩ := h
  have := h1.len
  omega
theorem Lists.le (h : Lists w B A n c ls) : n ≤ c ∧ c ≤ 9223372036854775807 := by
  obtain ⟨vs, h1, _⟩ := h
  exact h1.le
theorem Lists.nil_ (w : World) (B : Nat) : Lists w B none 0 0 [] := ⟨[], Row.nil_ w B 1, rfl, fun i v l hv => by simp at hv⟩
theorem Lists.none_ (w : World) (B : Nat) (A : Option Addr) (hc : c ≤ 9223372036854775807) : Lists w B A 0 c [] := ⟨[], Row.none_ w B 1 A hc, rfl, fun i v l hv => by simp at hv⟩
theorem Lists.below (h : Lists w B A n c ls) (hb : Below B w w') : Lists w' B A n c ls := by
  obtain ⟨vs, h1, h2, h3⟩ := h
  refine ⟨vs, h1.below hb, h2, fun i v l hv hl => ?_⟩
  obtain ⟨A', n', c', e, h4⟩ := h3 i v l hv hl
  exact ⟨A', n', c', e, h4.below hb⟩
theorem Lists.more (h : Lists w B A n c ls) (hB : B ≤ B') : Lists w B' A n c ls := by
  obtain ⟨vs, h1, h2, h3⟩ := h
  refine ⟨vs, h1.more hB, h2, fun i v l hv hl => ?_⟩
  obtain ⟨A', n', c', e, h4⟩ := h3 i v l hv hl
  exact ⟨A', n', c', e, h4.more hB⟩
theorem Lists.alloc (h : Lists w B A n c ls) (hB : B ≤ w.heap.size) (o : Obj) : Lists (w.alloc o) B A n c ls := h.below ((Below.refl B w).alloc hB o)
theorem Lists.front (h : Lists w B A n c ls) {k : Nat} (hk : k ≤ n) : Lists w B A k c (ls.take k) := by
  obtain ⟨vs, h1, h2, h3⟩ := h
  have h4 := h1.front hk
  rw [Nat.mul_one] at h4
  refine ⟨vs.take k, h4, by rw [List.length_take, List.length_take, h2], fun i v l hv hl => ?_⟩
  rw [List.getElem?_take] at hv hl
  split at hv
  · rename_i hik
    rw [if_pos hik] at hl
    exact h3 i v l hv hl
  · cases hv
theorem Lists.at_ (h : Lists w B A n c ls) {k : Nat} (hk : k < n) :
    ∃ b off A' n' c' l, A = some ⟨b, off, none⟩ ∧ b < B ∧ w.cell? ⟨b, off + k, none⟩ = some (.slice A' n' c') ∧ Bytes w B A' n' c' l ∧ ls[k]? = some l ∧ ls.take (k + 1) = ls.take k ++ [l] := by
  have hlen := h.len
  obtain ⟨vs, h1, h2, h3⟩ := h
  obtain ⟨b, off, e, hb, hc⟩ := h1.2.2.2 (by omega)
  have hl : k < ls.length := by omega
  have hv : k < vs.length := by omega
  obtain ⟨A', n', c', e', h4⟩ := h3 k _ _ (List.getElem?_eq_getElem hv) (List.getElem?_eq_getElem hl)
  exact ⟨b, off, A', n', c', ls[k], e, hb, by rw [hc k _ (List.getElem?_eq_getElem hv), e'], h4, List.getElem?_eq_getElem hl, List.take_succ_eq_append_getElem hl⟩
end

/-- its block is one of bytes -/
def Typed (w : World) (A : Option Addr) (n : Nat) : Prop := 0 < n → ∀ b off, A = some ⟨b, off, none⟩ → ∃ cur, w.heap[b]? = some (.cells cur 5 (0, 0))
theorem Typed.own {w : World} {base n c : Nat} {A : Option Addr} {xs : List Value} (h : w.ownsRow base 5 1 (.slice A n c) n xs) : Typed w A n := by
  intro hn b off e
  rcases h with ⟨_, ⟨hv, h0⟩ | ⟨g, cap, cur, hv, _, h3, _⟩⟩
  · omega
  · simp only [Value.slice.injEq] at hv
    rw [e] at hv
    obtain ⟨h1, _⟩ := hv
    injection h1 with h1
    injection h1 with h1
    subst h1
    exact ⟨cur, h3⟩
theorem Typed.keep {w w' : World} {A : Option Addr} {n : Nat} (h : Typed w A n) (hk : 0 < n → ∀ b off, A = some ⟨b, off, none⟩ → w'.heap[b]? = w.heap[b]?) : Typed w' A n := by
  intro hn b off e
  obtain ⟨cur, hc⟩ := h hn b off e
  exact ⟨cur, (hk hn b off e).trans hc⟩
theorem Typed.below {w w' : World} {A : Option Addr} {n : Nat} (h : Typed w A n) (hb : Below w.heap.size w w') : Typed w' A n := by
  intro hn b off e
  obtain ⟨cur, hc⟩ := h hn b off e
  exact ⟨cur, (hb.block b (Array.getElem?_eq_some_iff.1 hc).1).trans hc⟩
/-- The slices vs read as the lists ls; none of them lies in the block 'row'. -/
def Each (w : World) (row : Option Nat) (vs : List Value) (ls : List (List UInt8)) : Prop :=
  vs.length = ls.length ∧ ∀ (i : Nat) v l, vs[i]? = some v → ls[i]? = some l → ∃ A n c, v = .slice A n c ∧ Bytes w w.heap.size A n c l ∧ (0 < n → ∀ b off, A = some ⟨b, off, none⟩ → some b ≠ row) ∧ Typed w A n
section
variable {w w' : World} {row : Option Nat} {vs : List Value} {ls : List (List UInt8)}
theorem Each.nil_ (w : World) (row : Option Nat) : Each w row [] [] := ⟨rfl, fun i v l hv => by simp at hv⟩
theorem Each.keep (h : Each w row vs ls) (hb : Below w.heap.size w w') : Each w' row vs ls := by
  refine ⟨h.1, fun i v l hv hl => ?_⟩
  obtain ⟨A, n, c, e, h1, h2, h3⟩ := h.2 i v l hv hl
  exact ⟨A, n, c, e, (h1.below hb).more hb.size, h2, h3.below hb⟩
/-- an element that only reads in blocks that have not turned -/
theorem Bytes.same {A : Option Addr} {n c B B' : Nat} {l : List UInt8} (h : Bytes w B A n c l) (hs : 0 < n → ∀ b off, A = some ⟨b, off, none⟩ → b < B → b < B' ∧ w'.heap[b]? = w.heap[b]?) : Bytes w' B' A n c l := by
  refine ⟨h.1, h.2.1, h.2.2.1, fun hn => ?_⟩
  obtain ⟨b, off, e, hb, hc⟩ := h.2.2.2 hn
  obtain ⟨h1, h2⟩ := hs hn b off e hb
  exact ⟨b, off, e, h1, fun j u hu => (World.cell?_of_block (w := w) (a := ⟨b, off + j, none⟩) h2).trans (hc j u hu)⟩
theorem Each.grew (h : Each w row vs ls) {v' : Value} (hg : Grew w row w' v') : Each w' v'.ownBlock vs ls := by
  refine ⟨h.1, fun i v l hv hl => ?_⟩
  obtain ⟨A, n, c, e, h1, h2, h3⟩ := h.2 i v l hv hl
  refine ⟨A, n, c, e, h1.same fun hn b off he hb => ⟨Nat.lt_of_lt_of_le hb hg.1.size, hg.1.block b hb (h2 hn b off he)⟩, fun hn b off he => ?_, fun hn b off he => ?_⟩
  case refine_2 =>
    obtain ⟨cur, hc⟩ := h3 hn b off he
    exact ⟨cur, (hg.1.block b (Array.getElem?_eq_some_iff.1 hc).1 (h2 hn b off he)).trans hc⟩
  rcases hg.2 with hr | hr
  · rw [hr]; exact h2 hn b off he
  · intro e2
    have h3 := hr b e2.symm
    obtain ⟨b', off', e', hb', _⟩ := h1.2.2.2 hn
    rw [he] at e'
    injection e' with e'
    injection e' with e'
    omega
theorem Each.snoc (h : Each w row vs ls) {A : Option Addr} {n c : Nat} {l : List UInt8} (hb : Bytes w w.heap.size A n c l) (ha : 0 < n → ∀ b off, A = some ⟨b, off, none⟩ → some b ≠ row) (ht : Typed w A n) : Each w row (vs ++ [.slice A n c]) (ls ++ [l]) := by
  refine ⟨by rw [List.length_append, List.length_append, h.1]; rfl, fun i v l' hv hl => ?_⟩
  by_cases hi : i < vs.length
  · rw [List.getElem?_append_left hi] at hv
    rw [List.getElem?_append_left (by have := h.1; omega)] at hl
    exact h.2 i v l' hv hl
  · rw [List.getElem?_append_right (by omega)] at hv
    rw [List.getElem?_append_right (by have := h.1; omega)] at hl
    have h0 : i - vs.length = 0 := by
      rcases Nat.eq_zero_or_pos (i - vs.length) with h0 | h0
      · exact h0
      · rw [List.getElem?_eq_none (by simp; omega)] at hv; cases hv
    have h1 : i - ls.length = 0 := by have := h.1; omega
    rw [h0] at hv
    rw [h1] at hl
    simp only [List.getElem?_cons_zero, Option.some.injEq] at hv hl
    subst hv hl
    exact ⟨A, n, c, rfl, hb, ha, ht⟩
theorem Each.lists {base : Nat} {e : TypeId} {A : Option Addr} {n c : Nat} (h : Each w row vs ls) (ho : w.ownsRow base e 1 (.slice A n c) n vs) : Lists w w.heap.size A n c ls := by
  refine ⟨vs, Row.of_own ho, h.1, fun i v l hv hl => ?_⟩
  obtain ⟨A', n', c', e', h1, _⟩ := h.2 i v l hv hl
  exact ⟨A', n', c', e', h1⟩
end
/-- what is new lies in no block that was there -/
theorem own_apart {w w0 : World} {base0 base n : Nat} {e e0 : TypeId} {size size0 n0 : Nat} {A : Option Addr} {c : Nat} {xs xs0 : List Value} {v0 : Value} (h : w.ownsRow base e size (.slice A n c) n xs) (h0 : w0.ownsRow base0 e0 size0 v0 n0 xs0) (hb : w0.heap.size ≤ base) :
    0 < n → ∀ b off, A = some ⟨b, off, none⟩ → some b ≠ v0.ownBlock := by
  intro _ b off he e2
  have h1 := (h0.lt b e2.symm).2
  have h2 := (h.lt b (by rw [he]; rfl)).1
  omega
/-! ### rows of rows that lie in a set of blocks -/
def Lies (S : Nat → Prop) (A : Option Addr) (n : Nat) : Prop := 0 < n → ∀ b off, A = some ⟨b, off, none⟩ → S b
/-- there is a block behind it, up to its capacity -/
def Backed (w : World) (S : Nat → Prop) (A : Option Addr) (c : Nat) : Prop := (A = none ∧ c = 0) ∨ ∃ b off cur, A = some ⟨b, off, none⟩ ∧ S b ∧ w.heap[b]? = some (.cells cur 31 (0, 0)) ∧ off + c ≤ cur.size
/-- The slice value '.slice A n c' reads as the lists ls; it, and each of them, lies in blocks of S. -/
def ListsIn (w : World) (S : Nat → Prop) (A : Option Addr) (n c : Nat) (ls : List (List UInt8)) : Prop :=
  ∃ vs, Row w w.heap.size 1 A n c vs ∧ Lies S A n ∧ vs.length = ls.length ∧ (∀ (i : Nat) v l, vs[i]? = some v → ls[i]? = some l → ∃ A' n' c', v = .slice A' n' c' ∧ Bytes w w.heap.size A' n' c' l ∧ Lies S A' n' ∧ Typed w A' n') ∧ Backed w S A c
/-- slices that lie in blocks of S -/
def Placed (S : Nat → Prop) (vs : List Value) : Prop := ∀ v ∈ vs, ∀ A n c, v = .slice A n c → Lies S A n
theorem Placed.nil_ (S : Nat → Prop) : Placed S [] := fun v hv => by simp at hv
theorem Placed.snoc {S : Nat → Prop} {vs : List Value} (h : Placed S vs) {A : Option Addr} {n c : Nat} (ha : Lies S A n) : Placed S (vs ++ [.slice A n c]) := by
  intro v hv
  rcases List.mem_append.1 hv with h1 | h1
  · exact h v h1
  · rw [List.mem_singleton] at h1
    subst h1
    intro A' n' c' e
    injection e with e1 e2 e3
    subst e1 e2
    exact ha
theorem Lies.mono {S S' : Nat → Prop} {A : Option Addr} {n : Nat} (h : Lies S A n) (hs : ∀ b, S b → S' b) : Lies S' A n := fun hn b off e => hs b (h hn b off e)
theorem own_lies {w : World} {base n c : Nat} {e : TypeId} {size : Nat} {A : Option Addr} {xs : List Value} (h : w.ownsRow base e size (.slice A n c) n xs) : Lies (base ≤ ·) A n := fun _ b off he => (h.lt b (by rw [he]; rfl)).1
section
variable {w w' : World} {S S' : Nat → Prop} {n c : Nat} {A : Option Addr} {ls : List (List UInt8)}
theorem Backed.own {base : Nat} {xs : List Value} (h : w.ownsRow base 31 1 (.slice A n c) n xs) : Backed w (base ≤ ·) A c := by
  rcases h with ⟨_, ⟨hv, h0⟩ | ⟨g, cap, cur, hv, hb, h3, h4, h5, h6, h7⟩⟩
  · simp only [Value.slice.injEq] at hv
    exact .inl ⟨hv.1, hv.2.2⟩
  · simp only [Value.slice.injEq] at hv
    obtain ⟨rfl, _, rfl⟩ := hv
    exact .inr ⟨g, 0, cur, rfl, hb, h3, by rw [h6]; omega⟩
theorem Backed.keep (h : Backed w S A c) (hk : ∀ b, S b → b < w.heap.size → w'.heap[b]? = w.heap[b]?) : Backed w' S A c := by
  rcases h with h | ⟨b, off, cur, e, hs, hc, hl⟩
  · exact .inl h
  · exact .inr ⟨b, off, cur, e, hs, (hk b hs (Array.getElem?_eq_some_iff.1 hc).1).trans hc, hl⟩
theorem Backed.cut (h : Backed w S A c) {k : Nat} (hk : k ≤ c) : Backed w S (cutAt A c k) (c - k) := by
  rcases h with ⟨rfl, rfl⟩ | ⟨b, off, cur, rfl, hs, hc, hl⟩
  · exact .inl ⟨by unfold cutAt; split <;> rfl, by omega⟩
  · unfold cutAt
    split
    · exact .inr ⟨b, off, cur, rfl, hs, hc, by omega⟩
    · rw [Option.map_some, add_none]
      exact .inr ⟨b, off + k, cur, rfl, hs, hc, by omega⟩
theorem ListsIn.of {row : Option Nat} {vs : List Value} {base : Nat} (h : Each w row vs ls) (ho : w.ownsRow base 31 1 (.slice A n c) n vs) (hp : Placed (base ≤ ·) vs) : ListsIn w (base ≤ ·) A n c ls := by
  refine ⟨vs, Row.of_own ho, own_lies ho, h.1, fun i v l hv hl => ?_, Backed.own ho⟩
  obtain ⟨A', n', c', e', h1, _, h2⟩ := h.2 i v l hv hl
  exact ⟨A', n', c', e', h1, hp v (List.mem_of_getElem? hv) _ _ _ e', h2⟩
theorem ListsIn.nil_ (w : World) (S : Nat → Prop) : ListsIn w S none 0 0 [] := ⟨[], Row.nil_ w _ 1, fun h => absurd h (by omega), rfl, fun i v l hv => by simp at hv, .inl ⟨rfl, rfl⟩⟩
theorem ListsIn.lists (h : ListsIn w S A n c ls) : Lists w w.heap.size A n c ls := by
  obtain ⟨vs, h1, _, h2, h3, _⟩ := h
  refine ⟨vs, h1, h2, fun i v l hv hl => ?_⟩
  obtain ⟨A', n', c', e', h4, _⟩ := h3 i v l hv hl
  exact ⟨A', n', c', e', h4⟩
theorem ListsIn.mono (h : ListsIn w S A n c ls) (hs : ∀ b, S b → S' b) : ListsIn w S' A n c ls := by
  obtain ⟨vs, h1, h0, h2, h3, h6⟩ := h
  refine ⟨vs, h1, h0.mono hs, h2, fun i v l hv hl => ?_, h6.imp id fun ⟨b, off, cur, e, hb, r⟩ => ⟨b, off, cur, e, hs b hb, r⟩⟩
  obtain ⟨A', n', c', e', h4, h5, h7⟩ := h3 i v l hv hl
  exact ⟨A', n', c', e', h4, h5.mono hs, h7⟩
theorem Row.same {size B B' : Nat} {vs : List Value} (h : Row w B size A n c vs) (hs : 0 < n → ∀ b off, A = some ⟨b, off, none⟩ → b < B → b < B' ∧ w'.heap[b]? = w.heap[b]?) : Row w' B' size A n c vs := by
  refine ⟨h.1, h.2.1, h.2.2.1, fun hn => ?_⟩
  obtain ⟨b, off, e, hb, hc⟩ := h.2.2.2 hn
  obtain ⟨h1, h2⟩ := hs hn b off e hb
  exact ⟨b, off, e, h1, fun j u hu => (World.cell?_of_block (w := w) (a := ⟨b, off + j, none⟩) h2).trans (hc j u hu)⟩
theorem ListsIn.keep (h : ListsIn w S A n c ls) (hz : w.heap.size ≤ w'.heap.size) (hk : ∀ b, S b → b < w.heap.size → w'.heap[b]? = w.heap[b]?) : ListsIn w' S A n c ls := by
  obtain ⟨vs, h1, h0, h2, h3, h6⟩ := h
  refine ⟨vs, Row.same h1 fun hn b off e hb => ⟨Nat.lt_of_lt_of_le hb hz, hk b (h0 hn b off e) hb⟩, h0, h2, fun i v l hv hl => ?_, h6.keep hk⟩
  obtain ⟨A', n', c', e', h4, h5, h7⟩ := h3 i v l hv hl
  refine ⟨A', n', c', e', Bytes.same h4 fun hn b off e hb => ⟨Nat.lt_of_lt_of_le hb hz, hk b (h5 hn b off e) hb⟩, h5, fun hn b off e => ?_⟩
  obtain ⟨cur, hc⟩ := h7 hn b off e
  exact ⟨cur, (hk b (h5 hn b off e) (Array.getElem?_eq_some_iff.1 hc).1).trans hc⟩
theorem ListsIn.below (h : ListsIn w S A n c ls) (hb : Below w.heap.size w w') : ListsIn w' S A n c ls := h.keep hb.size fun b _ hlt => hb.block b hlt
theorem ListsIn.setCell (h : ListsIn w S A n c ls) {p : Addr} (hp : ¬ S p.block) (u : Value) : ListsIn (w.setCell p u) S A n c ls :=
  h.keep (by simp) fun b hs _ => Below.heap_setCell w p u b fun e => hp (e ▸ hs)
theorem Lists.cut {B : Nat} (h : Lists w B A n c ls) {k : Nat} (hk : k ≤ n) : Lists w B (cutAt A c k) (n - k) (c - k) (ls.drop k) := by
  obtain ⟨vs, h1, h2, h3⟩ := h
  refine ⟨vs.drop k, h1.cut1 hk, by rw [List.length_drop, List.length_drop, h2], fun i v l hv hl => ?_⟩
  rw [List.getElem?_drop] at hv hl
  exact h3 (k + i) v l hv hl
theorem Lies.cut (h : Lies S A n) {k : Nat} (hA : 0 < n → ∃ b off, A = some ⟨b, off, none⟩) : Lies S (cutAt A c k) (n - k) := by
  intro hn b off e
  obtain ⟨b', off', rfl⟩ := hA (by omega)
  have h' := h (by omega) b' off' rfl
  unfold cutAt at e
  split at e
  · cases e; exact h'
  · rw [Option.map_some, add_none] at e
    cases e
    exact h'
theorem ListsIn.cut (h : ListsIn w S A n c ls) {k : Nat} (hk : k ≤ n) : ListsIn w S (cutAt A c k) (n - k) (c - k) (ls.drop k) := by
  obtain ⟨vs, h1, h0, h2, h3, h6⟩ := h
  refine ⟨vs.drop k, h1.cut1 hk, h0.cut (fun hn => by obtain ⟨b, off, e, _⟩ := h1.2.2.2 hn; exact ⟨b, off, e⟩), by rw [List.length_drop, List.length_drop, h2], fun i v l hv hl => ?_, h6.cut (Nat.le_trans hk h1.2.1)⟩
  rw [List.getElem?_drop] at hv hl
  exact h3 (k + i) v l hv hl
end
theorem slices_one (A : Option Addr) (n c : Nat) : ∀ u ∈ [Value.slice A n c], u.oneCell' = true := by
  intro u hu
  simp at hu
  subst hu
  rfl
theorem one_slice (w : World) (e : TypeId) (A : Option Addr) (n c : Nat) {s : Nat} (hs : s = w.heap.size) : Row (w.alloc (.cells #[.slice A n c] e)) (w.heap.size + 1) 1 (some ⟨s, 0, none⟩) 1 1 [.slice A n c] :=
  Row.lit w #[.slice A n c] e (0, 0) hs rfl (by omega)
theorem Lists.two {w : World} {B B' n c n' c' : Nat} {A A' : Option Addr} {l l' : List UInt8} (h : Bytes w B A n c l) (h' : Bytes w B' A' n' c' l') (hB : B ≤ w.heap.size) (hB' : B' ≤ w.heap.size) (e : TypeId) {s : Nat} (hs : s = w.heap.size) :
    Lists (w.alloc (.cells #[.slice A n c, .slice A' n' c'] e)) (w.heap.size + 1) (some ⟨s, 0, none⟩) 2 2 [l, l'] := by
  refine ⟨[.slice A n c, .slice A' n' c'], Row.lit w #[.slice A n c, .slice A' n' c'] e (0, 0) hs rfl (by omega), rfl, fun i v m hv hm => ?_⟩
  match i with
  | 0 =>
    simp only [List.getElem?_cons_zero, Option.some.injEq] at hv hm
    subst hv hm
    exact ⟨A, n, c, rfl, (h.alloc hB _).more (by omega)⟩
  | 1 =>
    simp only [List.getElem?_cons_succ, List.getElem?_cons_zero, Option.some.injEq] at hv hm
    subst hv hm
    exact ⟨A', n', c', rfl, (h'.alloc hB' _).more (by omega)⟩
  | i + 2 => simp at hv
end Go.Proofs.YtedfddnbgljcjaaGreat.Base
