/-
  The document's replica (qanatref13) in memory; contract of its NewReplica. No condition.
-/
import Derived.Test.YtlbgpfiiiggofaaCellMem
import Derived.Test.YtlbgpfiiiggofaaTurn
namespace Go.Proofs.Ytlbgpfiiiggofaa.Gd
set_option linter.unusedVariables false
set_option maxRecDepth 100000
open Go.RowKit Base GuardMath Foot
set_option linter.ambiguousOpen false
set_option linter.unusedSimpArgs false

/-- the document's set at block p holds the tables T: its row is block b, with the cells cs; all that is its own is in R -/
structure RLie (w : World) (R : Nat → Prop) (p b : Nat) (cs : Array Value) (T : List (List Ce)) : Prop where
  box : Blk w p 61 #[.slice (some ⟨b, 0, none⟩) T.length T.length]
  row : Blk w b 39 cs
  len : cs.size = T.length
  most : T.length ≤ 8
  some_ : 1 ≤ T.length
  inp : R p
  inb : R b
  rise : ∀ l ∈ T, Rise l
  each : ∀ (i : Nat) (v : Value) (l : List Ce), cs[i]? = some v → T[i]? = some l → ∃ A n c, v = .slice A n c ∧ w.ownsRow 0 38 4 (.slice A n c) n (cv l) ∧ ∀ g, (Value.slice A n c).ownBlock = some g → R g
def RAt (w : World) (R : Nat → Prop) (p : Nat) (T : List (List Ce)) : Prop := ∃ b cs, RLie w R p b cs T
section
variable {w w' w2 : World} {R R' : Nat → Prop} {p b : Nat} {cs : Array Value} {T : List (List Ce)}
theorem RLie.keep (h : RLie w R p b cs T) (hk : ∀ i, i < w.heap.size → R i → w'.heap[i]? = w.heap[i]?) : RLie w' R p b cs T where
  box := (hk p h.box.lt h.inp).trans h.box
  row := (hk b h.row.lt h.inb).trans h.row
  len := h.len
  most := h.most
  some_ := h.some_
  inp := h.inp
  inb := h.inb
  rise := h.rise
  each := fun i v l h1 h2 => by
    obtain ⟨A, n, c, e, ho, hg⟩ := h.each i v l h1 h2
    exact ⟨A, n, c, e, own_same ho fun g hx => hk g (own_lt ho hx) (hg g hx), hg⟩
theorem RLie.mono (h : RLie w R p b cs T) (hR : ∀ i, i < w.heap.size → R i → R' i) : RLie w R' p b cs T where
  box := h.box
  row := h.row
  len := h.len
  most := h.most
  some_ := h.some_
  inp := hR _ h.box.lt h.inp
  inb := hR _ h.row.lt h.inb
  rise := h.rise
  each := fun i v l h1 h2 => by
    obtain ⟨A, n, c, e, ho, hg⟩ := h.each i v l h1 h2
    exact ⟨A, n, c, e, ho, fun g hx => hR g (own_lt ho hx) (hg g hx)⟩
theorem RLie.get (h : RLie w R p b cs T) {i : Nat} (hi : i < T.length) : ∃ A n c l, T[i]? = some l ∧ w.cell? ⟨b, i, none⟩ = some (.slice A n c) ∧ w.ownsRow 0 38 4 (.slice A n c) n (cv l) ∧ Rise l ∧ (∀ g, (Value.slice A n c).ownBlock = some g → R g) := by
  have h1 : i < cs.size := by rw [h.len]; exact hi
  obtain ⟨A, n, c, e, ho, hg⟩ := h.each i _ _ (Array.getElem?_eq_getElem h1) (List.getElem?_eq_getElem hi)
  refine ⟨A, n, c, T[i], List.getElem?_eq_getElem hi, ?_, ho, h.rise _ (List.getElem_mem hi), hg⟩
  rw [h.row.cell i, Array.getElem?_eq_getElem h1, e]
theorem RAt.keep (h : RAt w R p T) (hk : ∀ i, i < w.heap.size → R i → w'.heap[i]? = w.heap[i]?) : RAt w' R p T := by
  obtain ⟨b, cs, h⟩ := h
  exact ⟨b, cs, h.keep hk⟩
theorem RAt.mono (h : RAt w R p T) (hR : ∀ i, i < w.heap.size → R i → R' i) : RAt w R' p T := by
  obtain ⟨b, cs, h⟩ := h
  exact ⟨b, cs, h.mono hR⟩
theorem RAt.new (h : RAt w R p T) (hb : Below w.heap.size w w') : RAt w' R p T := h.keep fun i hi _ => hb.block i hi
/-- the i-th table is another one from now on -/
theorem RLie.lay (h : RLie w R p b cs T) {i : Nat} (hi : i < T.length) (hb : Below w.heap.size w w2) {A : Option Addr} {n c : Nat} {l : List Ce} (ho : w2.ownsRow 0 38 4 (.slice A n c) n (cv l)) (hg : ∀ g, (Value.slice A n c).ownBlock = some g → Out R w w2 g) (hr : Rise l) :
    RLie (w2.setCell ⟨b, i, none⟩ (.slice A n c)) (Out R w w2) p b (cs.setIfInBounds i (.slice A n c)) (T.set i l) := by
  have hfar : ∀ g, g ≠ b → (w2.setCell ⟨b, i, none⟩ (.slice A n c)).heap[g]? = w2.heap[g]? := fun g hg => Below.heap_setCell w2 _ _ g hg
  have h2 : RLie w2 R p b cs T := h.keep fun i hi _ => hb.block i hi
  have own : ∀ {A : Option Addr} {n c : Nat} {l : List Ce}, w2.ownsRow 0 38 4 (.slice A n c) n (cv l) → ∀ u, (w2.setCell ⟨b, i, none⟩ u).ownsRow 0 38 4 (.slice A n c) n (cv l) := fun ho u => own_same ho fun g hx => by
    refine Below.heap_setCell w2 _ _ g fun e => ?_
    obtain ⟨cur, hc⟩ := own_type ho hx
    rw [e] at hc
    have h3 := h2.row
    unfold Blk at h3
    rw [h3] at hc
    simp at hc
  have hpb : p ≠ b := fun e => by
    have h3 := h2.row
    have h4 := h2.box
    unfold Blk at h3 h4
    rw [e, h3] at h4
    simp at h4
  refine ⟨?_, ?_, by simp [h.len], by rw [List.length_set]; exact h.most, by rw [List.length_set]; exact h.some_, .inl h.inp, .inl h.inb, ?_, ?_⟩
  · rw [List.length_set]
    exact (hfar p hpb).trans h2.box
  · exact h2.row.set_ i _
  · intro x hx
    rcases List.mem_or_eq_of_mem_set hx with hx | rfl
    · exact h.rise x hx
    · exact hr
  · intro j v x h3 h4
    by_cases hj : j = i
    · subst hj
      rw [List.getElem?_set_self hi] at h4
      rw [Array.getElem?_setIfInBounds_self_of_lt (by rw [h.len]; exact hi)] at h3
      injection h3 with h3
      injection h4 with h4
      subst h3 h4
      exact ⟨A, n, c, rfl, own ho _, hg⟩
    · rw [List.getElem?_set_ne (Ne.symm hj)] at h4
      rw [Array.getElem?_setIfInBounds_ne (Ne.symm hj)] at h3
      obtain ⟨A', n', c', e, ho', hg'⟩ := h2.each j v x h3 h4
      exact ⟨A', n', c', e, own ho' _, fun g hx => .inl (hg' g hx)⟩
end

theorem ec2 : Elem Try.prog 59 39 1 24 (.slice none 0 0) := .of (by rfl) (by rfl) rfl (by omega)
/-- what the document's NewReplica does, of a number that may be -/
def RNew (w : World) (n : Nat) (e : Ending) (w' : World) : Prop := ∃ p, e = .returned (.pointer (some ⟨p, 0, none⟩)) ∧ RAt w' (fun i => w.heap.size ≤ i ∧ i < w'.heap.size) p (List.replicate n []) ∧ Below w.heap.size w w'
theorem RAt.begun {w w1 : World} {n : Nat} (ho : w1.ownsRow w.heap.size 39 1 (.slice (some ⟨w.heap.size, 0, none⟩) n n) n (List.replicate n (.slice none 0 0))) (hb : Below w.heap.size w w1) (hn : 1 ≤ n) (h8 : n ≤ 8) :
    RAt (w1.alloc (.cells #[.slice (some ⟨w.heap.size, 0, none⟩) n n] 61)) (fun i => w.heap.size ≤ i ∧ i < w1.heap.size + 1) w1.heap.size (List.replicate n []) := by
  rcases ho.2 with ⟨hv, h0⟩ | ⟨b, cap, cur, hv, hbase, hg, h1, h2, h3, h4⟩
  · omega
  · simp only [Value.slice.injEq, Option.some.injEq, Addr.mk.injEq] at hv
    obtain ⟨⟨rfl, _⟩, _, rfl⟩ := hv
    rw [List.take_of_length_le (by rw [Array.length_toList, h3]; exact Nat.le_refl _)] at h4
    have hlt : w.heap.size < w1.heap.size := Blk.lt (w := w1) hg
    refine ⟨w.heap.size, cur, ?_, Blk.alloc hg _, by rw [h3]; simp, by simpa using h8, by simpa using hn, ⟨by omega, by omega⟩, ⟨by omega, by omega⟩, ?_, ?_⟩
    · rw [List.length_replicate]
      exact Blk.new _ _ _
    · intro l hl
      rw [List.eq_of_mem_replicate hl]
      exact rise_nil
    · intro i v l h5 h6
      have hi : i < n := by
        have := (List.getElem?_eq_some_iff.1 h6).1
        simpa using this
      rw [← Array.getElem?_toList, h4, List.getElem?_replicate, if_pos hi] at h5
      rw [List.getElem?_replicate, if_pos hi] at h6
      injection h5 with h5
      injection h6 with h6
      subst h5 h6
      exact ⟨none, 0, 0, rfl, World.ownsRow_nil _ _ _ _, fun g hx => by cases hx⟩
set_option maxHeartbeats 1600000 in
theorem rnew_any (m : Nat) (HM1 : 1 ≤ m) (HM8 : m ≤ 8) (w : World) : Calls Try.prog 9 #[.int .i64 m] w (RNew w m) := by
  go_enter Try.func9, Try.ntmps9
  go_wp2_with (first
    | (refine wpList_make_elem _ rfl (.tmp 9) (.tmp 9) rfl ec2 w.heap.size .i64 .i64 _ _ m rfl rfl rfl rfl (by omega) (by omega) (Nat.le_refl _) ?_
       intro w1 ho1 hb1
       replace ho1 : w1.ownsRow w.heap.size 39 1 (.slice (some ⟨w.heap.size, 0, none⟩) m m) m (madeCells #[.slice none 0 0] (m * 1)).toList := ho1
       rw [Nat.mul_one, toList_madeCells_one] at ho1
       have HP := Lib.hid (RAt.begun ho1 hb1 HM1 HM8)
       have HB1 := Lib.hid hb1
       clear ho1 hb1))
  go_ret
  exact ⟨_, rfl, by simpa using HP.out, HB1.out.alloc HB1.out.size _⟩

end Go.Proofs.Ytlbgpfiiiggofaa.Gd
