/-
  Package table: how many rows more each table would have (growth); whether they fit (Fits).
-/
import Derived.Test.YtngncalbglbjdaaTblSeen
import Derived.Test.YtngncalbglbjdaaTableApart
import Derived.BigQuiet
namespace Go.Proofs.Ytngncalbglbjdaa.Tbl
set_option linter.unusedVariables false
set_option maxRecDepth 100000
open Go.RowKit Base IdxMath Foot Idx
open PChg (gcells gval gv gv_cons gv_length gv_get Cs)
set_option linter.ambiguousOpen false
set_option linter.unusedSimpArgs false

/-! ### plain -/
theorem there_iff {l : List Rw} (h : Rise l) (k : Int) : there l k = true ↔ ∃ x ∈ l, x.key = k := by
  constructor
  · intro ht
    obtain ⟨x, hx, hk⟩ := pos_split l k ht
    exact ⟨x, List.mem_of_getElem? hx, hk⟩
  · rintro ⟨x, hx, rfl⟩
    induction l with
    | nil => cases hx
    | cons y r ih =>
      unfold there
      obtain ⟨h1, h2⟩ := List.pairwise_cons.1 h
      rcases List.mem_cons.1 hx with rfl | hx
      · rw [if_neg (by omega)]; simp
      · rw [if_pos (h1 x hx)]; exact ih h2 hx
theorem there_get {l : List Rw} (h : Rise l) (k : Int) : (get l k).isSome = there l k := by
  rw [IdxMath.get_at h]
  cases ht : there l k with
  | false => rfl
  | true =>
    obtain ⟨x, hx, _⟩ := pos_split l k ht
    rw [if_pos rfl, hx]
    rfl
theorem bool_ext {a b : Bool} (h : a = true ↔ b = true) : a = b := by
  cases a <;> cases b <;> simp_all
theorem put_mem_of {l : List Rw} {k : Int} {v : ByteArray} {x : Rw} (hx : x ∈ l) (hk : x.key ≠ k) : x ∈ put l k v := by
  induction l with
  | nil => cases hx
  | cons y r ih =>
    unfold put
    rcases List.mem_cons.1 hx with rfl | hx
    · split
      · exact List.mem_cons_self
      · exact List.mem_cons_of_mem _ List.mem_cons_self
    · split
      · exact List.mem_cons_of_mem _ (ih hx)
      · split
        · exact List.mem_cons_of_mem _ hx
        · exact List.mem_cons_of_mem _ (List.mem_cons_of_mem _ hx)
theorem put_mem_self (l : List Rw) (k : Int) (v : ByteArray) : (⟨k, v⟩ : Rw) ∈ put l k v := by
  induction l with
  | nil => exact List.mem_cons_self
  | cons y r ih =>
    unfold put
    split
    · exact List.mem_cons_of_mem _ ih
    · split <;> exact List.mem_cons_self
theorem there_put {l : List Rw} (h : Rise l) (k : Int) (v : ByteArray) (k' : Int) : there (put l k v) k' = if k' = k then true else there l k' := by
  by_cases hk : k' = k
  · rw [if_pos hk, there_iff (h.put k v)]
    exact ⟨_, put_mem_self l k v, hk.symm⟩
  · rw [if_neg hk]
    apply bool_ext
    rw [there_iff (h.put k v), there_iff h]
    constructor
    · rintro ⟨x, hx, hxk⟩
      rcases put_mem hx with rfl | hx
      · exact absurd hxk.symm hk
      · exact ⟨x, hx, hxk⟩
    · rintro ⟨x, hx, hxk⟩
      exact ⟨x, put_mem_of hx (by omega), hxk⟩
theorem there_del {l : List Rw} (h : Rise l) (k : Int) (k' : Int) : there (del l k) k' = if k' = k then false else there l k' := by
  have hd := del_find h k
  by_cases hk : k' = k
  · rw [if_pos hk, Bool.eq_false_iff]
    intro ht
    rw [there_iff (h.del k)] at ht
    obtain ⟨x, hx, hxk⟩ := ht
    subst hk
    rw [hd] at hx
    clear hd
    induction l with
    | nil => cases hx
    | cons y r ih =>
      obtain ⟨h1, h2⟩ := List.pairwise_cons.1 h
      by_cases hy : y.key = k'
      · rw [List.eraseP_cons_of_pos (by simpa using hy)] at hx
        have := h1 x hx
        omega
      · rw [List.eraseP_cons_of_neg (by simpa using hy)] at hx
        rcases List.mem_cons.1 hx with rfl | hx
        · exact hy hxk
        · exact ih h2 hx
  · rw [if_neg hk]
    apply bool_ext
    rw [there_iff (h.del k), there_iff h, hd]
    constructor
    · rintro ⟨x, hx, hxk⟩
      exact ⟨x, List.mem_of_mem_eraseP hx, hxk⟩
    · rintro ⟨x, hx, hxk⟩
      exact ⟨x, (List.mem_eraseP_of_neg (by simp; omega)).2 hx, hxk⟩
theorem del_length' (l : List Rw) (k : Int) : (del l k).length = if there l k then l.length - 1 else l.length := by
  unfold del
  split
  · next h => rw [List.length_eraseIdx_of_lt (pos_lt h)]
  · rfl
theorem one_there {l : List Rw} (h : Rise l) (c : Cg) (k' : Int) : there (one l c) k' = if k' = c.key then !c.gone else there l k' := by
  unfold one
  cases hg : c.gone with
  | true => rw [if_pos rfl, there_del h]; rfl
  | false => rw [if_neg (by simp), there_put h]; rfl
theorem one_rise {l : List Rw} (h : Rise l) (c : Cg) : Rise (one l c) := by
  unfold one
  split
  · exact h.del _
  · exact h.put _ _
theorem one_length (l : List Rw) (c : Cg) : ((one l c).length : Int) = l.length + (if there l c.key = true ∧ c.gone = true then -1 else if there l c.key = false ∧ c.gone = false then 1 else 0) := by
  unfold one
  cases hg : c.gone with
  | true =>
    rw [if_pos rfl, del_length']
    cases ht : there l c.key with
    | true => have := pos_lt ht; simp; omega
    | false => simp
  | false =>
    rw [if_neg (by simp), put_length]
    cases ht : there l c.key with
    | true => simp
    | false => simp
def Rises (T : List (List Rw)) : Prop := ∀ t, Rise (tab T t)
theorem Rises.do1 {T : List (List Rw)} (h : Rises T) {c : Cg} (hc : isT T c.tbl = true) : Rises (do1 T c) := by
  intro t
  rw [tab_do1 hc]
  split
  · exact one_rise (h t) c
  · exact h t
theorem Rises.doAll {T : List (List Rw)} (h : Rises T) (l : List Cg) (hl : allT T l = true) : Rises (doAll T l) := by
  induction l generalizing T with
  | nil => exact h
  | cons c l ih =>
    obtain ⟨h1, h2⟩ := allT_cons hl
    exact ih (h.do1 h1) (by unfold allT at h2 ⊢; simpa [isT_length (show (Tbl.do1 T c).length = T.length by simp [Tbl.do1])] using h2)
theorem SetAt.rises {w : World} {F : Nat → Prop} {p : Nat} {T : List (List Rw)} (h : SetAt w F p T) : Rises T := by
  intro t
  cases ht : isT T t with
  | false => rw [tab_none ht]; exact Rise.nil
  | true =>
    obtain ⟨b, ps, G, h⟩ := h
    obtain ⟨i, rfl, hi⟩ := isT_nat ht
    obtain ⟨q, l, _, e2, _, hq⟩ := h.get hi
    rw [tab_get hi e2]
    exact hq.rise
/-- how many rows more the t-th table has -/
def gr (T T' : List (List Rw)) (t : Nat) : Int := ((tab T' t).length : Int) - (tab T t).length
def grArr (T T' : List (List Rw)) : Array Value := #[.int .i64 (gr T T' 0), .int .i64 (gr T T' 1), .int .i64 (gr T T' 2), .int .i64 (gr T T' 3), .int .i64 (gr T T' 4), .int .i64 (gr T T' 5), .int .i64 (gr T T' 6), .int .i64 (gr T T' 7)]
theorem gr_self (T : List (List Rw)) (t : Nat) : gr T T t = 0 := by unfold gr; omega
theorem grArr_get (T T' : List (List Rw)) {i : Nat} (hi : i < 8) : (grArr T T')[i]? = some (.int .i64 (gr T T' i)) := by
  match i, hi with
  | 0, _ => rfl
  | 1, _ => rfl
  | 2, _ => rfl
  | 3, _ => rfl
  | 4, _ => rfl
  | 5, _ => rfl
  | 6, _ => rfl
  | 7, _ => rfl
theorem grArr_ext {T T1 T2 : List (List Rw)} (h : ∀ j, j < 8 → gr T T2 j = gr T T1 j) : grArr T T2 = grArr T T1 := by
  unfold grArr
  rw [h 0 (by omega), h 1 (by omega), h 2 (by omega), h 3 (by omega), h 4 (by omega), h 5 (by omega), h 6 (by omega), h 7 (by omega)]
theorem grArr_set {T T1 T2 : List (List Rw)} {i : Nat} (hi : i < 8) (h : ∀ j, j < 8 → j ≠ i → gr T T2 j = gr T T1 j) : grArr T T2 = (grArr T T1).setIfInBounds i (.int .i64 (gr T T2 i)) := by
  apply Array.ext
  · simp [grArr]
  · intro j h1 h2
    have hj : j < 8 := by simpa [grArr] using h1
    have e1 := grArr_get T T2 hj
    have e2 := grArr_get T T1 hj
    rw [Array.getElem?_eq_getElem h1] at e1
    injection e1 with e1
    rw [e1, Array.getElem_setIfInBounds]
    split
    · next e => subst e; rfl
    · next e =>
      rw [h j hj (fun e' => e e'.symm)]
      rw [Array.getElem?_eq_getElem (by simpa using h2)] at e2
      injection e2 with e2
      exact e2.symm
theorem gr_do1 {T T1 : List (List Rw)} {c : Cg} {i : Nat} (hc : isT T1 c.tbl = true) (hi : c.tbl = (i : Int)) (j : Nat) :
    gr T (do1 T1 c) j = gr T T1 j + (if j = i then (if there (tab T1 c.tbl) c.key = true ∧ c.gone = true then -1 else if there (tab T1 c.tbl) c.key = false ∧ c.gone = false then 1 else 0) else 0) := by
  unfold gr
  rw [tab_do1 hc]
  by_cases hj : j = i
  · subst hj
    rw [if_pos hi.symm, if_pos rfl, one_length, hi]
    omega
  · rw [if_neg (by omega), if_neg hj]
    omega
/-- what the map says of each place: whether the row is there now -/
def MapIs (T T1 : List (List Rw)) (f : Int → Int → Option Bool) : Prop := ∀ a k, (f a k).getD (there (tab T a) k) = there (tab T1 a) k
theorem MapIs.step {T T1 : List (List Rw)} {f : Int → Int → Option Bool} (h : MapIs T T1 f) (hr : Rises T1) {c : Cg} (hc : isT T1 c.tbl = true) : MapIs T (do1 T1 c) (putF f c.tbl c.key (!c.gone)) := by
  intro a k
  rw [tab_do1 hc]
  unfold putF
  by_cases ha : a = c.tbl
  · subst ha
    rw [if_pos rfl, one_there (hr _)]
    by_cases hk : k = c.key
    · rw [if_pos ⟨rfl, hk⟩, if_pos hk]; rfl
    · rw [if_neg (fun e => hk e.2), if_neg hk]; exact h _ _
  · rw [if_neg (fun e => ha e.1), if_neg ha]; exact h _ _

/-! ### the map, at the operations -/
theorem wpList_seen_look (w : World) {ops : Array Oper} {rest : List Oper} {o : Oper} {a : Act} {Q : Exit → Act → World → Prop}
    (hg : o.guard = none) (m x : Operand) (hop : o.op = Op.lookup 87 m x true) (b n : Nat) (f : Int → Int → Option Bool) (p k : Int)
    (hm : a.eval m = .map (some b)) (h : Seen w b n f) (hx : a.eval x = pk p k) (hp : In64 p) (hk : In64 k) (x1 x2 : Bool) (h1 : (f p k).getD false = x1) (h2 : (f p k).isSome = x2)
    (hK : wpList Try.prog ops Q rest (a.put o.dst (.tuple #[.bool x1, .bool x2])) w) : wpList Try.prog ops Q (o :: rest) a w := by
  refine wpList_plain hg fun K' hK' => ?_
  have hrun := h.look hp hk
  rw [h1, h2] at hrun
  unfold Oper.wp
  simp [execOp, hop, hm, hx, hrun, Result.andThen]
  exact hK' _ _ hK
theorem wpList_seen_put (w : World) {ops : Array Oper} {rest : List Oper} {o : Oper} {a : Act} {Q : Exit → Act → World → Prop}
    (hg : o.guard = none) (m x v : Operand) (hop : o.op = Op.mapUpdate 87 m x v) (b n : Nat) (f : Int → Int → Option Bool) (p k : Int) (y : Bool)
    (hm : a.eval m = .map (some b)) (h : Seen w b n f) (hn : n < 9223372036854775807) (hx : a.eval x = pk p k) (hv : a.eval v = .bool y) (hp : In64 p) (hk : In64 k)
    (hK : ∀ w', Seen w' b (n + 1) (putF f p k y) → w.grownBy w' (some b) → wpList Try.prog ops Q rest (a.put o.dst undef) w') : wpList Try.prog ops Q (o :: rest) a w := by
  refine wpList_plain hg fun K' hK' => ?_
  obtain ⟨w', hrun, r1, r2⟩ := h.put hn hp hk y
  unfold Oper.wp
  simp [execOp, hop, hm, hx, hv, hrun, Result.andThen]
  exact hK' _ _ (hK w' r1 r2)
end Go.Proofs.Ytngncalbglbjdaa.Tbl
