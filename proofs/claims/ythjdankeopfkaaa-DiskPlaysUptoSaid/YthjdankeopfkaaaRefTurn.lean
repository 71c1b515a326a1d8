/-
  The document's own disk in memory: one field of one file is written.
-/
import Derived.Test.YthjdankeopfkaaaRefCode
namespace Go.Proofs.Ythjdankeopfkaaa.Ref
open Go.RowKit Base DiskMath Disk

theorem own_set {w : World} {base n cap g : Nat} {e : TypeId} {size : Nat} {xs : List Value} (h : w.ownsRow base e size (.slice (some ⟨g, 0, none⟩) n cap) n xs) {j : Nat} (u : Value) :
    (w.setCell ⟨g, j, none⟩ u).ownsRow base e size (.slice (some ⟨g, 0, none⟩) n cap) n (xs.set j u) := by
  rcases h with ⟨hl, ⟨hv, h0⟩ | ⟨g', cap', cur, hv, hg, h3, h4, h5, h6, h7⟩⟩
  · cases hv
  · simp only [Value.slice.injEq, Option.some.injEq, Addr.mk.injEq] at hv
    obtain ⟨⟨rfl, _, _⟩, _, rfl⟩ := hv
    have hb : Blk w g e cur := h3
    refine ⟨by rw [List.length_set]; exact hl, .inr ⟨g, cap, cur.setIfInBounds j u, rfl, hg, Blk.set_ hb j u, h4, h5, by rw [Array.size_setIfInBounds]; exact h6, ?_⟩⟩
    rw [Array.toList_setIfInBounds, List.take_set, h7]

def updB (bl : Int → Bl) (f : Int) (q : Bl) : Int → Bl := fun k => if k = f then q else bl k
theorem updB_same (bl : Int → Bl) (f : Int) (q : Bl) : updB bl f q f = q := if_pos rfl
theorem updB_other (bl : Int → Bl) {f k : Int} (q : Bl) (h : k ≠ f) : updB bl f q k = bl k := if_neg h

/-- numbers that are no other's -/
def Once (l : List Fl) : Prop := ∀ (i j : Nat) (x y : Fl), l[i]? = some x → l[j]? = some y → x.id = y.id → i = j
theorem Up.gt {lo : Int} : ∀ {l : List Fl} {i j : Nat} {x y : Fl}, Up lo l → l[i]? = some x → l[j]? = some y → i < j → x.id < y.id
  | [], _, _, _, _, _, h, _, _ => by simp at h
  | z :: r, 0, j + 1, x, y, ⟨_, _, _, h4⟩, hx, hy, _ => by
    simp at hx hy
    subst hx
    have := (h4.mem y (List.mem_of_getElem? hy)).1
    omega
  | z :: r, i + 1, j + 1, x, y, ⟨_, _, _, h4⟩, hx, hy, h => Up.gt h4 (by simpa using hx) (by simpa using hy) (by omega)
  | _ :: _, i + 1, 0, _, _, _, _, _, h => absurd h (by omega)
theorem Up.once {l : List Fl} (h : Up 0 l) : Once l := fun i j x y hx hy e => by
  rcases Nat.lt_trichotomy i j with h1 | h1 | h1
  · have := Up.gt h hx hy h1; omega
  · exact h1
  · have := Up.gt h hy hx h1; omega

theorem fcells_set {l : List Fl} {bl bl' : Int → Bl} {k : Nat} {x y : Fl} (hx : l[k]? = some x) (i : Nat) (hi : i < 3) (v : Value) (hv : (fcell bl x).set i v = fcell bl' y) (ho : ∀ j z, l[j]? = some z → j ≠ k → bl z.id = bl' z.id) :
    (fcells l bl).set (k * 3 + i) v = fcells (l.set k y) bl' := by
  induction l generalizing k with
  | nil => simp at hx
  | cons a r ih =>
    cases k with
    | zero =>
      simp at hx
      subst hx
      rw [Nat.zero_mul, Nat.zero_add, List.set_cons_zero, fcells_cons, fcells_cons, List.set_append_left _ _ (by show i < 3; exact hi), hv]
      congr 1
      refine fcells_congr fun z hz => ?_
      obtain ⟨j, hj⟩ := List.getElem?_of_mem hz
      exact ho (j + 1) z (by simpa using hj) (by omega)
    | succ k =>
      rw [List.set_cons_succ, fcells_cons, fcells_cons, show (k + 1) * 3 + i = 3 + (k * 3 + i) by omega]
      have e1 : fcell bl a = fcell bl' a := by
        unfold fcell
        rw [ho 0 a rfl (by omega)]
      rw [List.set_append_right _ _ (by show 3 ≤ _; omega), show 3 + (k * 3 + i) - (fcell bl a).length = k * 3 + i by show 3 + (k * 3 + i) - 3 = _; omega, e1]
      congr 1
      exact ih (by simpa using hx) (fun j z hj hjk => ho (j + 1) z (by simpa using hj) (by omega))

/-- the row of files and their bytes, without a word on the numbers -/
def RRow (w : World) (F : Nat → Prop) (l : List Fl) (A : Option Addr) (c : Nat) (bl : Int → Bl) : Prop :=
  w.ownsRow 0 64 3 (.slice A l.length c) l.length (fcells l bl) ∧ (∀ g, A.map (·.block) = some g → F g) ∧ ∀ x ∈ l, BAt w F x (bl x.id)
theorem RBody.rrow {w : World} {F : Nat → Prop} {l : List Fl} {A : Option Addr} {c : Nat} {bl : Int → Bl} (h : RBody w F l A c bl) : RRow w F l A c bl := ⟨h.1, h.2.1, h.2.2.1⟩
theorem RRow.body {w : World} {F : Nat → Prop} {l : List Fl} {A : Option Addr} {c : Nat} {bl : Int → Bl} (h : RRow w F l A c bl) (hu : Up 0 l) : RBody w F l A c bl := ⟨h.1, h.2.1, h.2.2, hu⟩

section
variable {F F' : Nat → Prop} {w w' : World} {l : List Fl} {A : Option Addr} {g c h : Nat} {bl : Int → Bl}
theorem BAt.set_ {x : Fl} {q : Bl} (hb : BAt w F x q) {cur : Array Value} (hg : Blk w g 64 cur) (j : Nat) (u : Value) : BAt (w.setCell ⟨g, j, none⟩ u) F x q :=
  ⟨own_same hb.1 fun i hi => Below.heap_setCell _ _ _ _ (fun e => (by
    obtain ⟨cur', hc⟩ := own_type hb.1 hi
    unfold Blk at hg
    dsimp only at e
    rw [← e, hc] at hg
    cases hg)), hb.2⟩
theorem len_of {k : Nat} {x : Fl} (hx : l[k]? = some x) : k < l.length := by
  rcases Nat.lt_or_ge k l.length with h' | h'
  · exact h'
  · rw [List.getElem?_eq_none h'] at hx; cases hx
theorem mem_set {k : Nat} {x y z : Fl} (hx : l[k]? = some x) (hz : z ∈ l.set k y) : z = y ∨ ∃ j, j ≠ k ∧ l[j]? = some z := by
  obtain ⟨j, hj⟩ := List.getElem?_of_mem hz
  by_cases e : j = k
  · subst e
    rw [List.getElem?_set_self (len_of hx)] at hj
    exact .inl (Option.some.inj hj).symm
  · rw [List.getElem?_set_ne (Ne.symm e)] at hj
    exact .inr ⟨j, e, hj⟩
/-- how much is safe is written -/
theorem RRow.safe_ (hr : RRow w F l (some ⟨g, 0, none⟩) c bl) {k : Nat} {x : Fl} (hx : l[k]? = some x) {cur : Array Value} (hg : Blk w g 64 cur) (s : Nat) :
    RRow (w.setCell ⟨g, k * 3 + 1, none⟩ (.int .i64 s)) F (l.set k { x with safe := s }) (some ⟨g, 0, none⟩) c bl := by
  have hk := len_of hx
  refine ⟨?_, hr.2.1, fun z hz => ?_⟩
  · have := own_set hr.1 (j := k * 3 + 1) (.int .i64 s)
    rw [fcells_set (y := { x with safe := s }) (bl' := bl) hx 1 (by omega) _ rfl (fun _ _ _ _ => rfl)] at this
    rw [List.length_set]
    exact this
  · rcases mem_set hx hz with rfl | ⟨j, _, hj⟩
    · have : BAt w F x (bl x.id) := hr.2.2 x (List.mem_of_getElem? hx)
      exact (show BAt w F { x with safe := s } (bl x.id) from this).set_ hg _ _
    · exact (hr.2.2 z (List.mem_of_getElem? hj)).set_ hg _ _
/-- its bytes are written: they lie elsewhere -/
theorem RRow.bytes_ (hr : RRow w F l (some ⟨g, 0, none⟩) c bl) (ho : Once l) {k : Nat} {x : Fl} (hx : l[k]? = some x) {cur : Array Value} (hg : Blk w g 64 cur) {b : List UInt8} {q : Bl} (hq : BAt w F { x with b := b } q) :
    RRow (w.setCell ⟨g, k * 3 + 2, none⟩ (.slice q.A b.length q.c)) F (l.set k { x with b := b }) (some ⟨g, 0, none⟩) c (updB bl x.id q) := by
  have hk := len_of hx
  have hne : ∀ j z, l[j]? = some z → j ≠ k → z.id ≠ x.id := fun j z hj hjk e => hjk (ho j k z x hj hx e)
  refine ⟨?_, hr.2.1, fun z hz => ?_⟩
  · have := own_set hr.1 (j := k * 3 + 2) (.slice q.A b.length q.c)
    rw [fcells_set (y := { x with b := b }) (bl' := updB bl x.id q) hx 2 (by omega) _ (by unfold fcell; rw [updB_same]; rfl) (fun j z hj hjk => by rw [updB_other _ _ (hne j z hj hjk)])] at this
    rw [List.length_set]
    exact this
  · rcases mem_set hx hz with rfl | ⟨j, hjk, hj⟩
    · show BAt _ _ _ (updB bl x.id q x.id)
      rw [updB_same]
      exact hq.set_ hg _ _
    · rw [updB_other _ _ (hne j z hj hjk)]
      exact (hr.2.2 z (List.mem_of_getElem? hj)).set_ hg _ _
/-- only new memory -/
theorem RRow.new (hr : RRow w F l A c bl) (hb : Below w.heap.size w w') : RRow w' F l A c bl := by
  refine ⟨own_keep hr.1 hb, hr.2.1, fun x hx => ⟨own_keep (hr.2.2 x hx).1 hb, (hr.2.2 x hx).2⟩⟩
theorem RRow.mono (hr : RRow w F l A c bl) (hF : ∀ i, F i → F' i) : RRow w F' l A c bl := ⟨hr.1, fun g hg => hF g (hr.2.1 g hg), fun x hx => (hr.2.2 x hx).mono hF⟩
/-- where the row of files lies -/
theorem RRow.at_ (hr : RRow w F l A c bl) {k : Nat} {x : Fl} (hx : l[k]? = some x) :
    ∃ g cur, A = some ⟨g, 0, none⟩ ∧ F g ∧ Blk w g 64 cur ∧ cur.size = c * 3 ∧ w.cell? ⟨g, k * 3, none⟩ = some (.int .i64 x.id) ∧ w.cell? ⟨g, k * 3 + 1, none⟩ = some (.int .i64 x.safe) ∧
      w.cell? ⟨g, k * 3 + 2, none⟩ = some (.slice (bl x.id).A x.b.length (bl x.id).c) := by
  have hk := len_of hx
  obtain ⟨h1, h2, _⟩ := hr
  rcases h1 with ⟨hl, ⟨hv, h0⟩ | ⟨g, cap, cur, hv, hg, h3, h4, h5, h6, h7⟩⟩
  · omega
  · simp only [Value.slice.injEq] at hv
    obtain ⟨rfl, _, rfl⟩ := hv
    have hb : Blk w g 64 cur := h3
    have hc : ∀ i, i < 3 → w.cell? ⟨g, k * 3 + i, none⟩ = (fcell bl x)[i]? := fun i hi => by
      rw [Blk.cell hb, ← fcells_get hx i hi, ← h7, List.getElem?_take_of_lt (by omega)]
      simp
    exact ⟨g, cur, rfl, h2 g rfl, hb, h6, hc 0 (by omega), hc 1 (by omega), hc 2 (by omega)⟩
end
end Go.Proofs.Ythjdankeopfkaaa.Ref
