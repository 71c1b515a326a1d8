/-
  A log in memory: its own block, the row of its segments, each segment's row of entries, what a write left; beside a disk in the same memory, apart from it.
-/
import Derived.Test.YtjiicmkafidldaaGreatMaths
import Derived.Test.YtjiicmkafidldaaGreatDiskCrash
import Derived.Test.YtjiicmkafidldaaGreatLists
namespace Go.Proofs.YtjiicmkafidldaaGreat.Wal
set_option maxRecDepth 100000
open Go.RowKit Base WalMath
open Go.Proofs.YtjiicmkafidldaaGreat.Disk (Turn Out DiskAt I64 Fits)
open DiskMath (Fl Dk)

/-- where a segment's entries lie -/
structure Sp where
  A : Option Addr
  c : Nat
def Sp.row (q : Sp) : Option Nat := q.A.map (·.block)
def sgv (x : Sg × Sp) : List Value := [.int .i64 x.1.file, .int .i64 x.1.first, .slice x.2.A x.1.rows.length x.2.c, .int .i64 x.1.size]
def flat (l : List (Sg × Sp)) : List Value := l.flatMap sgv
theorem flat_cons (x : Sg × Sp) (l : List (Sg × Sp)) : flat (x :: l) = sgv x ++ flat l := List.flatMap_cons
theorem flat_append (l m : List (Sg × Sp)) : flat (l ++ m) = flat l ++ flat m := List.flatMap_append
theorem flat_snoc (l : List (Sg × Sp)) (x : Sg × Sp) : flat (l ++ [x]) = flat l ++ sgv x := by rw [flat_append, flat_cons]; simp [flat]
theorem flat_length (l : List (Sg × Sp)) : (flat l).length = l.length * 4 := by
  induction l with
  | nil => rfl
  | cons x l ih => rw [flat_cons, List.length_append, ih, List.length_cons]; simp [sgv]; omega
theorem flat_get : ∀ {l : List (Sg × Sp)} {i : Nat} {x : Sg × Sp}, l[i]? = some x → ∀ j, j < 4 → (flat l)[i * 4 + j]? = (sgv x)[j]?
  | [], _, _, h, _, _ => by simp at h
  | y :: l, 0, x, h, j, hj => by
    simp only [List.getElem?_cons_zero, Option.some.injEq] at h
    subst h
    rw [flat_cons, List.getElem?_append_left (by simp [sgv]; omega)]
    congr 1
    omega
  | y :: l, i + 1, x, h, j, hj => by
    rw [List.getElem?_cons_succ] at h
    rw [flat_cons, List.getElem?_append_right (by simp [sgv]; omega), show (i + 1) * 4 + j - (sgv y).length = i * 4 + j by simp [sgv]; omega]
    exact flat_get h j hj
theorem sgv_one (l : List (Sg × Sp)) : ∀ u ∈ flat l, u.oneCell' = true := by
  intro u hu
  obtain ⟨x, _, hx⟩ := List.mem_flatMap.1 hu
  simp only [sgv, List.mem_cons, List.not_mem_nil, or_false] at hx
  rcases hx with rfl | rfl | rfl | rfl <;> rfl

/-- the rows of entries lie in unlike blocks -/
def Apart (l : List (Sg × Sp)) : Prop := l.Pairwise fun x y => x.2.row = none ∨ x.2.row ≠ y.2.row
def SegsAt (G : Nat → Prop) (w : World) (A : Option Addr) (n c : Nat) (qs : List (Sg × Sp)) : Prop :=
  w.ownsRow 0 91 4 (.slice A n c) n (flat qs) ∧ (∀ b, (Value.slice A n c).ownBlock = some b → G b) ∧ (∀ x ∈ qs, ListsIn w G x.2.A x.1.rows.length x.2.c x.1.rows) ∧ Apart qs
def leftV (lp : Option Nat) : Value := .pointer (lp.map fun b => ⟨b, 0, none⟩)
def LeftAt (G : Nat → Prop) (w : World) : Option Nat → Option Pc → Prop
  | none, none => True
  | some b, some p => Blk w b 82 #[.int .i64 p.file, .int .i64 p.had, .bool p.begins] ∧ G b
  | _, _ => False
/-- what lies in the log's own block, and behind it -/
def Laid (G : Nat → Prop) (w : World) (g gd : Nat) (l : Lg) (A : Option Addr) (n c : Nat) (qs : List (Sg × Sp)) (lp : Option Nat) : Prop :=
  qs.map (·.1) = l.segs ∧ Blk w g 44 #[.slice A n c, .pointer (some ⟨gd, 0, none⟩), .int .i64 l.base, .int .i64 l.size, leftV lp] ∧ G g ∧ SegsAt G w A n c qs ∧ LeftAt G w lp l.left
def LogAt (G : Nat → Prop) (w : World) (g gd : Nat) (l : Lg) : Prop := ∃ A n c qs lp, Laid G w g gd l A n c qs lp

section
variable {G G' : Nat → Prop} {w w' : World} {g gd n c : Nat} {l : Lg} {A : Option Addr} {qs : List (Sg × Sp)} {lp : Option Nat}
theorem own_lt {e : TypeId} {size : Nat} {v : Value} {xs : List Value} {base : Nat} (h : w.ownsRow base e size v n xs) {b : Nat} (hb : v.ownBlock = some b) : b < w.heap.size := (h.lt b hb).2
theorem SegsAt.len (h : SegsAt G w A n c qs) : qs.length = n := by
  have := h.1.1
  rw [flat_length] at this
  omega
theorem SegsAt.keep (h : SegsAt G w A n c qs) (hz : w.heap.size ≤ w'.heap.size) (hk : ∀ i, i < w.heap.size → G i → w'.heap[i]? = w.heap[i]?) : SegsAt G w' A n c qs :=
  ⟨Disk.own_same h.1 fun b hb => hk b (own_lt h.1 hb) (h.2.1 b hb), h.2.1, fun x hx => (h.2.2.1 x hx).keep hz fun b hb hlt => hk b hlt hb, h.2.2.2⟩
theorem LeftAt.keep {left : Option Pc} (h : LeftAt G w lp left) (hk : ∀ i, i < w.heap.size → G i → w'.heap[i]? = w.heap[i]?) : LeftAt G w' lp left := by
  cases lp with
  | none => cases left <;> exact h
  | some b =>
    cases left with
    | none => exact h
    | some p => exact ⟨(hk b h.1.lt h.2).trans h.1, h.2⟩
theorem Laid.keep (h : Laid G w g gd l A n c qs lp) (hz : w.heap.size ≤ w'.heap.size) (hk : ∀ i, i < w.heap.size → G i → w'.heap[i]? = w.heap[i]?) : Laid G w' g gd l A n c qs lp :=
  ⟨h.1, (hk g h.2.1.lt h.2.2.1).trans h.2.1, h.2.2.1, h.2.2.2.1.keep hz hk, h.2.2.2.2.keep hk⟩
theorem Laid.mono (h : Laid G w g gd l A n c qs lp) (hG : ∀ i, G i → G' i) : Laid G' w g gd l A n c qs lp := by
  refine ⟨h.1, h.2.1, hG _ h.2.2.1, ⟨h.2.2.2.1.1, fun b hb => hG b (h.2.2.2.1.2.1 b hb), fun x hx => (h.2.2.2.1.2.2.1 x hx).mono hG, h.2.2.2.1.2.2.2⟩, ?_⟩
  have := h.2.2.2.2
  revert this
  cases lp <;> cases l.left <;> intro h <;> first
    | exact h
    | exact ⟨h.1, hG _ h.2⟩
theorem Laid.new (h : Laid G w g gd l A n c qs lp) (hb : Below w.heap.size w w') : Laid G w' g gd l A n c qs lp := h.keep hb.size fun i hi _ => hb.block i hi
theorem LogAt.keep (h : LogAt G w g gd l) (hz : w.heap.size ≤ w'.heap.size) (hk : ∀ i, i < w.heap.size → G i → w'.heap[i]? = w.heap[i]?) : LogAt G w' g gd l := by
  obtain ⟨A, n, c, qs, lp, h⟩ := h
  exact ⟨A, n, c, qs, lp, h.keep hz hk⟩
theorem LogAt.mono (h : LogAt G w g gd l) (hG : ∀ i, G i → G' i) : LogAt G' w g gd l := by
  obtain ⟨A, n, c, qs, lp, h⟩ := h
  exact ⟨A, n, c, qs, lp, h.mono hG⟩
theorem LogAt.new (h : LogAt G w g gd l) (hb : Below w.heap.size w w') : LogAt G w' g gd l := h.keep hb.size fun i hi _ => hb.block i hi
theorem LogAt.turn {F : Nat → Prop} (h : LogAt G w g gd l) (hb : Turn F w w') (hn : ∀ i, G i → ¬ F i) : LogAt G w' g gd l := h.keep hb.size fun i hi hg => hb.block i hi (hn i hg)
theorem LogAt.lt (h : LogAt G w g gd l) : g < w.heap.size := by
  obtain ⟨A, n, c, qs, lp, h⟩ := h
  exact h.2.1.lt
theorem Laid.len (h : Laid G w g gd l A n c qs lp) : l.segs.length = n := by
  have h1 := h.2.2.2.1.len
  rw [← h.1, List.length_map]
  exact h1
/-- the place of a segment -/
theorem Laid.at_ (h : Laid G w g gd l A n c qs lp) {k : Nat} {s : Sg} (hs : l.segs[k]? = some s) :
    ∃ b q, A = some ⟨b, 0, none⟩ ∧ qs[k]? = some (s, q) ∧ G b ∧ b < w.heap.size ∧ k < n ∧ (n ≤ c ∧ c ≤ 9223372036854775807) ∧ ListsIn w G q.A s.rows.length q.c s.rows ∧
      w.cell? ⟨b, k * 4, none⟩ = some (.int .i64 s.file) ∧ w.cell? ⟨b, k * 4 + 1, none⟩ = some (.int .i64 s.first) ∧ w.cell? ⟨b, k * 4 + 2, none⟩ = some (.slice q.A s.rows.length q.c) ∧ w.cell? ⟨b, k * 4 + 3, none⟩ = some (.int .i64 s.size) := by
  have hk : k < n := by
    have := (List.getElem?_eq_some_iff.1 hs).1
    rw [h.len] at this
    exact this
  rw [← h.1, List.getElem?_map] at hs
  cases hq : qs[k]? with
  | none => rw [hq] at hs; cases hs
  | some x =>
    rw [hq] at hs
    obtain ⟨s', q⟩ := x
    obtain rfl : s' = s := Option.some.inj hs
    obtain ⟨hown, hG, hE, _⟩ := h.2.2.2.1
    have hrow := Row.of_own hown
    obtain ⟨b, off, e, hb, hc⟩ := hrow.2.2.2 (by omega)
    have e0 : off = 0 := by
      rcases hown.2 with ⟨hv, _⟩ | ⟨b', cap, cur, hv, _⟩
      · simp only [Value.slice.injEq] at hv; omega
      · simp only [Value.slice.injEq] at hv
        rw [e] at hv
        have := hv.1
        injection this with this
        injection this
    subst e0
    have hcell : ∀ j, j < 4 → ∀ u, (sgv (s', q))[j]? = some u → w.cell? ⟨b, k * 4 + j, none⟩ = some u := fun j hj u hu => by
      have := hc (k * 4 + j) u (by rw [flat_get hq j hj]; exact hu)
      rwa [Nat.zero_add] at this
    exact ⟨b, q, e, rfl, hG b (by rw [e]; rfl), hb, hk, hrow.le, hE _ (List.mem_of_getElem? hq), hcell 0 (by omega) _ rfl, hcell 1 (by omega) _ rfl, hcell 2 (by omega) _ rfl, hcell 3 (by omega) _ rfl⟩
theorem Laid.cells (h : Laid G w g gd l A n c qs lp) : w.cell? ⟨g, 0, none⟩ = some (.slice A n c) ∧ w.cell? ⟨g, 1, none⟩ = some (.pointer (some ⟨gd, 0, none⟩)) ∧ w.cell? ⟨g, 2, none⟩ = some (.int .i64 l.base) ∧ w.cell? ⟨g, 3, none⟩ = some (.int .i64 l.size) ∧ w.cell? ⟨g, 4, none⟩ = some (leftV lp) :=
  ⟨h.2.1.cell 0, h.2.1.cell 1, h.2.1.cell 2, h.2.1.cell 3, h.2.1.cell 4⟩
end

/-! ### numbers that fit -/
def SgOk (s : Sg) : Prop := 0 ≤ s.file ∧ s.file < 16384 ∧ 1 ≤ s.first ∧ last s ≤ 1099511627776 ∧ s.size ≤ 35184372088832 ∧ ∀ p ∈ s.rows, p.length ≤ 1048576
def Ok (l : Lg) : Prop := 0 ≤ l.base ∧ l.base ≤ 12288 ∧ 64 ≤ l.size ∧ l.size ≤ 65536 ∧ ∀ s ∈ l.segs, SgOk s
theorem SgOk.bd {s : Sg} (h : SgOk s) : s.rows.length ≤ 1099511627776 ∧ s.first ≤ 1099511627777 := by
  obtain ⟨_, _, h1, h2, _⟩ := h
  unfold last at h2
  omega
theorem hd_bd {l : List Sg} (h : ∀ s ∈ l, SgOk s) : 0 ≤ hd l ∧ hd l ≤ 1099511627776 := by
  unfold hd
  cases hs : l.getLast? with
  | none => simp
  | some s =>
    have := h s (List.mem_of_getLast? hs)
    obtain ⟨_, _, h1, h2, _⟩ := this
    refine ⟨?_, h2⟩
    show 0 ≤ last s
    unfold last
    omega

/-! ### a log beside its disk -/
/-- a disk and its log, apart from each other; their blocks are in T -/
def Both (T : Nat → Prop) (w : World) (g gd : Nat) (l : Lg) (d : Dk) : Prop :=
  ∃ F G, DiskAt F w gd d ∧ LogAt G w g gd l ∧ (∀ i, F i → ¬ G i) ∧ (∀ i, F i → T i ∧ i < w.heap.size) ∧ ∀ i, G i → T i ∧ i < w.heap.size
/-- whatever is new is in T -/
def New (T : Nat → Prop) (w : World) : Prop := ∀ i, w.heap.size ≤ i → T i
section
variable {T : Nat → Prop} {w w' w'' : World} {g gd : Nat} {l l' : Lg} {d d' : Dk}
theorem New.le (h : New T w) (hz : w.heap.size ≤ w'.heap.size) : New T w' := fun i hi => h i (Nat.le_trans hz hi)
theorem Both.new (h : Both T w g gd l d) (hb : Below w.heap.size w w') : Both T w' g gd l d := by
  obtain ⟨F, G, h1, h2, h3, h4, h5⟩ := h
  exact ⟨F, G, h1.new hb, h2.new hb, h3, fun i hi => ⟨(h4 i hi).1, Nat.lt_of_lt_of_le (h4 i hi).2 hb.size⟩, fun i hi => ⟨(h5 i hi).1, Nat.lt_of_lt_of_le (h5 i hi).2 hb.size⟩⟩
theorem Both.drewN (h : Both T w g gd l d) (n : Nat) : Both T (w.drewN n) g gd l d := h
theorem Both.lt (h : Both T w g gd l d) : g < w.heap.size := by
  obtain ⟨F, G, h1, h2, h3, h4, h5⟩ := h
  exact h2.lt
theorem Both.ing (h : Both T w g gd l d) : T g := by
  obtain ⟨F, G, h1, ⟨A, n, c, qs, lp, h2⟩, h3, h4, h5⟩ := h
  exact (h5 g h2.2.2.1).1
/-- a step of the disk's -/
theorem Both.disk (h : Both T w g gd l d) (hT : New T w) : ∃ F, DiskAt F w gd d ∧ (∀ i, F i → T i ∧ i < w.heap.size) ∧ Hid (∀ w' d', DiskAt (Out F w w') w' gd d' → Turn F w w' → Both T w' g gd l d' ∧ Turn T w w') := by
  obtain ⟨F, G, h1, h2, h3, h4, h5⟩ := h
  refine ⟨F, h1, h4, fun w' d' hd ht => ⟨⟨Out F w w', G, hd, h2.turn ht fun i hi hf => h3 i hf hi, fun i hi hg => ?_, fun i hi => ?_, fun i hi => ⟨(h5 i hi).1, Nat.lt_of_lt_of_le (h5 i hi).2 ht.size⟩⟩, ht.mono fun i hi => (h4 i hi).1⟩⟩
  · rcases hi with hi | hi
    · exact h3 i hi hg
    · have := (h5 i hg).2
      omega
  · rcases hi with hi | hi
    · exact ⟨(h4 i hi).1, Nat.lt_of_lt_of_le (h4 i hi).2 ht.size⟩
    · exact ⟨hT i hi.1, hi.2⟩
/-- a step of the log's -/
theorem Both.log {F G G' : Nat → Prop} (hd : DiskAt F w gd d) (hF : ∀ i, F i → T i ∧ i < w.heap.size) (hFG : ∀ i, F i → ¬ G i) (hG : ∀ i, G i → T i ∧ i < w.heap.size) (hT : New T w) (ht : Turn G w w') (hl : LogAt G' w' g gd l') (hG' : ∀ i, G' i → G i ∨ (w.heap.size ≤ i ∧ i < w'.heap.size)) :
    Both T w' g gd l' d ∧ Turn T w w' := by
  refine ⟨⟨F, G', hd.turn ht hFG, hl, fun i hi hg => ?_, fun i hi => ⟨(hF i hi).1, Nat.lt_of_lt_of_le (hF i hi).2 ht.size⟩, fun i hi => ?_⟩, ht.mono fun i hi => (hG i hi).1⟩
  · rcases hG' i hg with h | h
    · exact hFG i hi h
    · have := (hF i hi).2
      omega
  · rcases hG' i hi with h | h
    · exact ⟨(hG i h).1, Nat.lt_of_lt_of_le (hG i h).2 ht.size⟩
    · exact ⟨hT i h.1, h.2⟩
theorem Turn.in_ (h : Turn T w w') (k : Turn T w' w'') : Turn T w w'' := h.trans k fun _ hi => .inl hi
theorem Turn.of_new (h : Below w.heap.size w w') : Turn T w w' := Turn.new h
end
end Go.Proofs.YtjiicmkafidldaaGreat.Wal
