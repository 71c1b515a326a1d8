/-
  The document's own disk in memory: its block, the row of its files, each file's bytes, and what one step turns of them.
-/
import Derived.Test.YthjdankeopfkaaaDiskMem
import Derived.Test.YthjdankeopfkaaaDiskPlace
namespace Go.Proofs.Ythjdankeopfkaaa.Ref
open Go.RowKit Base DiskMath Disk

theorem ef : Elem Try.prog 26 64 3 40 (.agg #[.int .i64 0, .int .i64 0, .slice none 0 0]) := Elem.of Try.underlying26 (by kernel_rfl) rfl (by omega)

/-- where a file's bytes lie -/
structure Bl where
  A : Option Addr
  c : Nat
def Bl.row (q : Bl) : Option Nat := q.A.map (·.block)
theorem rowB (q : Bl) (n c : Nat) : (Value.slice q.A n c).ownBlock = q.row := by
  obtain ⟨A, c'⟩ := q
  cases A <;> rfl
def fcell (bl : Int → Bl) (x : Fl) : List Value := [.int .i64 x.id, .int .i64 x.safe, .slice (bl x.id).A x.b.length (bl x.id).c]
def fcells (l : List Fl) (bl : Int → Bl) : List Value := l.flatMap (fcell bl)
theorem fcells_length (l : List Fl) (bl : Int → Bl) : (fcells l bl).length = l.length * 3 := by
  induction l with
  | nil => rfl
  | cons x r ih =>
    show (fcell bl x ++ fcells r bl).length = _
    rw [List.length_append, ih, List.length_cons]
    show 3 + r.length * 3 = _
    omega
theorem fcells_append (l m : List Fl) (bl : Int → Bl) : fcells (l ++ m) bl = fcells l bl ++ fcells m bl := List.flatMap_append
theorem fcells_cons (x : Fl) (r : List Fl) (bl : Int → Bl) : fcells (x :: r) bl = fcell bl x ++ fcells r bl := rfl
theorem fcells_take (l : List Fl) (bl : Int → Bl) (k : Nat) (hk : k ≤ l.length) : (fcells l bl).take (k * 3) = fcells (l.take k) bl := by
  conv => lhs; rw [← List.take_append_drop k l, fcells_append]
  exact List.take_left' (by rw [fcells_length, List.length_take]; omega)
theorem fcells_drop (l : List Fl) (bl : Int → Bl) (k : Nat) (hk : k ≤ l.length) : (fcells l bl).drop (k * 3) = fcells (l.drop k) bl := by
  conv => lhs; rw [← List.take_append_drop k l, fcells_append]
  exact List.drop_left' (by rw [fcells_length, List.length_take]; omega)
theorem fcells_get {l : List Fl} {bl : Int → Bl} {k : Nat} {x : Fl} (h : l[k]? = some x) (i : Nat) (hi : i < 3) : (fcells l bl)[k * 3 + i]? = (fcell bl x)[i]? := by
  have hk : k < l.length := by
    rcases Nat.lt_or_ge k l.length with h' | h'
    · exact h'
    · rw [List.getElem?_eq_none h'] at h; cases h
  have e : l = l.take k ++ x :: l.drop (k + 1) := by
    rw [List.getElem?_eq_getElem hk] at h
    obtain rfl : l[k] = x := Option.some.inj h
    rw [← List.drop_eq_getElem_cons hk, List.take_append_drop]
  have hl : (fcells (l.take k) bl).length = k * 3 := by rw [fcells_length, List.length_take]; omega
  conv => lhs; rw [e, fcells_append]
  rw [List.getElem?_append_right (by omega), hl, Nat.add_sub_cancel_left, fcells_cons, List.getElem?_append_left (by show i < 3; exact hi)]
theorem fcells_congr {l : List Fl} {bl bl' : Int → Bl} (h : ∀ x ∈ l, bl x.id = bl' x.id) : fcells l bl = fcells l bl' := by
  induction l with
  | nil => rfl
  | cons x r ih =>
    rw [fcells_cons, fcells_cons, ih fun y hy => h y (List.mem_cons_of_mem _ hy)]
    unfold fcell
    rw [h x List.mem_cons_self]
theorem fcells_one (l : List Fl) (bl : Int → Bl) : ∀ u ∈ fcells l bl, u.oneCell' = true := by
  intro u hu
  obtain ⟨x, _, hx⟩ := List.mem_flatMap.1 hu
  simp only [fcell, List.mem_cons, List.not_mem_nil, or_false] at hx
  rcases hx with rfl | rfl | rfl <;> rfl

/-- a file's bytes -/
def BAt (w : World) (F : Nat → Prop) (x : Fl) (q : Bl) : Prop := w.ownsRow 0 5 1 (.slice q.A x.b.length q.c) x.b.length (bv x.b) ∧ ∀ g, q.row = some g → F g
def RBody (w : World) (F : Nat → Prop) (l : List Fl) (A : Option Addr) (c : Nat) (bl : Int → Bl) : Prop :=
  w.ownsRow 0 64 3 (.slice A l.length c) l.length (fcells l bl) ∧ (∀ g, A.map (·.block) = some g → F g) ∧ (∀ x ∈ l, BAt w F x (bl x.id)) ∧ Up 0 l
def RHead (w : World) (h : Nat) (d : Dk) (A : Option Addr) (n c : Nat) : Prop := Blk w h 28 #[.slice A n c, .int .i64 d.left, .bool d.off, .int .i64 d.ops]
/-- block h is the document's disk d, in F -/
def RefAt (F : Nat → Prop) (w : World) (h : Nat) (d : Dk) : Prop := ∃ A c bl, RHead w h d A d.files.length c ∧ F h ∧ RBody w F d.files A c bl

section
variable {F F' : Nat → Prop} {w w' : World} {l : List Fl} {A : Option Addr} {n c h : Nat} {bl : Int → Bl} {d : Dk}
theorem BAt.mono {x : Fl} {q : Bl} (h : BAt w F x q) (hF : ∀ i, F i → F' i) : BAt w F' x q := ⟨h.1, fun g hg => hF g (h.2 g hg)⟩
theorem BAt.bytes {x : Fl} {q : Bl} (h : BAt w F x q) : Bytes w w.heap.size q.A x.b.length q.c x.b := Bytes.of_own h.1
theorem BAt.keep {x : Fl} {q : Bl} (h : BAt w F x q) (hk : ∀ i, i < w.heap.size → F i → (∃ cs, w.heap[i]? = some (.cells cs 5 (0, 0))) → w'.heap[i]? = w.heap[i]?) : BAt w' F x q :=
  ⟨own_same h.1 fun g hg => by
    obtain ⟨cur, hc⟩ := own_type h.1 hg
    exact hk g (Array.getElem?_eq_some_iff.1 hc).1 (h.2 g (by rw [← rowB]; exact hg)) ⟨cur, hc⟩, h.2⟩
theorem RBody.mono (h : RBody w F l A c bl) (hF : ∀ i, F i → F' i) : RBody w F' l A c bl := ⟨h.1, fun g hg => hF g (h.2.1 g hg), fun x hx => (h.2.2.1 x hx).mono hF, h.2.2.2⟩
theorem RefAt.mono (h' : RefAt F w h d) (hF : ∀ i, F i → F' i) : RefAt F' w h d := by
  obtain ⟨A, c, bl, h1, h2, h3⟩ := h'
  exact ⟨A, c, bl, h1, hF _ h2, h3.mono hF⟩
theorem RefAt.up (h' : RefAt F w h d) : Up 0 d.files := by
  obtain ⟨A, c, bl, h1, h2, h3⟩ := h'
  exact h3.2.2.2
theorem RefAt.lt (h' : RefAt F w h d) : h < w.heap.size := by
  obtain ⟨A, c, bl, h1, _⟩ := h'
  exact Blk.lt h1
theorem own_map {A : Option Addr} {n c : Nat} : (Value.slice A n c).ownBlock = A.map (·.block) := by cases A <;> rfl
/-- what is not the document's disk's own block stays: so does the body -/
theorem RBody.keep (h : RBody w F l A c bl) (hk : ∀ i o, F i → w.heap[i]? = some o → (∀ cs, o ≠ .cells cs 28 (0, 0)) → w'.heap[i]? = some o) : RBody w' F l A c bl := by
  obtain ⟨h1, h2, h3, h4⟩ := h
  refine ⟨own_same h1 fun g hg => ?_, h2, fun x hx => (h3 x hx).keep fun i _ hf ⟨cs, hcs⟩ => (hk i _ hf hcs (fun cs e => by cases e)).trans hcs.symm, h4⟩
  obtain ⟨cur, hc⟩ := own_type h1 hg
  exact (hk g _ (h2 g (by rw [← own_map]; exact hg)) hc (fun cs e => by cases e)).trans hc.symm
theorem RefAt.keep (h' : RefAt F w h d) (hk : ∀ i, i < w.heap.size → F i → w'.heap[i]? = w.heap[i]?) : RefAt F w' h d := by
  obtain ⟨A, c, bl, h1, h2, h3⟩ := h'
  refine ⟨A, c, bl, (hk h (Blk.lt h1) h2).trans h1, h2, h3.keep fun i o hi ho _ => (hk i ?_ hi).trans ho⟩
  rcases Nat.lt_or_ge i w.heap.size with h | h
  · exact h
  · rw [Array.getElem?_eq_none h] at ho; cases ho
theorem RefAt.new (h' : RefAt F w h d) (hb : Below w.heap.size w w') : RefAt F w' h d := h'.keep fun i hi _ => hb.block i hi
theorem RefAt.turn (h' : RefAt F w h d) (hb : Turn F' w w') (hn : ∀ i, F i → ¬ F' i) : RefAt F w' h d := h'.keep fun i hi hf => hb.block i hi (hn i hf)
/-- its blocks are there -/
theorem RefAt.exact (h' : RefAt F w h d) : RefAt (fun i => F i ∧ i < w.heap.size) w h d := by
  obtain ⟨A, c, bl, h1, h2, h3⟩ := h'
  refine ⟨A, c, bl, h1, ⟨h2, Blk.lt h1⟩, h3.1, fun g hg => ⟨h3.2.1 g hg, ?_⟩, fun x hx => ⟨(h3.2.2.1 x hx).1, fun g hg => ⟨(h3.2.2.1 x hx).2 g hg, ?_⟩⟩, h3.2.2.2⟩
  · obtain ⟨cur, hc⟩ := own_type h3.1 (g := g) (by rw [own_map]; exact hg)
    exact (Array.getElem?_eq_some_iff.1 hc).1
  · obtain ⟨cur, hc⟩ := own_type (h3.2.2.1 x hx).1 (g := g) (by rw [rowB]; exact hg)
    exact (Array.getElem?_eq_some_iff.1 hc).1
theorem RBody.head (h' : RBody w F l A c bl) {cs : Array Value} (hg : Blk w h 28 cs) (hw : w.grownBy w' (some h)) : RBody w' F l A c bl :=
  h'.keep fun i o _ ho hn => by
    have hi : i < w.heap.size := by
      rcases Nat.lt_or_ge i w.heap.size with h | h
      · exact h
      · rw [Array.getElem?_eq_none h] at ho; cases ho
    refine (hw.block i hi fun e => ?_).trans ho
    injection e with e
    subst e
    unfold Blk at hg
    rw [hg] at ho
    injection ho with ho
    exact hn cs ho.symm
/-- the row of files: where it lies, and what it holds at place k -/
theorem RBody.at_ (h' : RBody w F l A c bl) {k : Nat} {x : Fl} (hx : l[k]? = some x) :
    ∃ g cur, A = some ⟨g, 0, none⟩ ∧ F g ∧ Blk w g 64 cur ∧ cur.size = c * 3 ∧ w.cell? ⟨g, k * 3, none⟩ = some (.int .i64 x.id) ∧ w.cell? ⟨g, k * 3 + 1, none⟩ = some (.int .i64 x.safe) ∧
      w.cell? ⟨g, k * 3 + 2, none⟩ = some (.slice (bl x.id).A x.b.length (bl x.id).c) := by
  have hk : k < l.length := by
    rcases Nat.lt_or_ge k l.length with h' | h'
    · exact h'
    · rw [List.getElem?_eq_none h'] at hx; cases hx
  obtain ⟨h1, h2, _, _⟩ := h'
  rcases h1 with ⟨hl, ⟨hv, h0⟩ | ⟨g, cap, cur, hv, hg, h3, h4, h5, h6, h7⟩⟩
  · omega
  · simp only [Value.slice.injEq] at hv
    obtain ⟨rfl, _, rfl⟩ := hv
    have hb : Blk w g 64 cur := h3
    have hc : ∀ i, i < 3 → w.cell? ⟨g, k * 3 + i, none⟩ = (fcell bl x)[i]? := fun i hi => by
      rw [Blk.cell hb, ← fcells_get hx i hi, ← h7, List.getElem?_take_of_lt (by omega)]
      simp
    exact ⟨g, cur, rfl, h2 g rfl, hb, h6, hc 0 (by omega), hc 1 (by omega), hc 2 (by omega)⟩
end
end Go.Proofs.Ythjdankeopfkaaa.Ref
