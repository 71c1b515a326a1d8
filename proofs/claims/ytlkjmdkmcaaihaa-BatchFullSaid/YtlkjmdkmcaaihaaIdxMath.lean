/-
  Plain mathematics of rows by their keys (P8.1): put, taken away, asked for, those above a key, rows put one behind the other; a key's place; rows in a stable order, and of like keys the first one alone.
-/
import Derived.WalkKit
namespace Go.Proofs.Ytlkjmdkmcaaihaa.IdxMath
set_option linter.unusedVariables false
set_option linter.unusedSimpArgs false

structure Rw where
  key : Int
  val : ByteArray
def noRw : Rw := ⟨0, ⟨#[]⟩⟩
instance : Inhabited Rw := ⟨noRw⟩

def put : List Rw → Int → ByteArray → List Rw
  | [], k, v => [⟨k, v⟩]
  | x :: r, k, v => if x.key < k then x :: put r k v else if x.key = k then ⟨k, v⟩ :: r else ⟨k, v⟩ :: x :: r
def there : List Rw → Int → Bool
  | [], _ => false
  | x :: r, k => if x.key < k then there r k else decide (x.key = k)
def pos : List Rw → Int → Nat
  | [], _ => 0
  | x :: r, k => if x.key < k then pos r k + 1 else 0
/-- where the rows above k begin -/
def aft (l : List Rw) (k : Int) : Nat := if there l k then pos l k + 1 else pos l k
def del (l : List Rw) (k : Int) : List Rw := if there l k then l.eraseIdx (pos l k) else l
def get (l : List Rw) (k : Int) : Option ByteArray := (l.find? fun x => decide (x.key = k)).map Rw.val
def after (l : List Rw) (k n : Int) : List Rw := (l.filter fun x => decide (k < x.key)).take n.toNat
def make (rows : List Rw) : List Rw := rows.foldl (fun l r => put l r.key r.val) []
def Rise (l : List Rw) : Prop := l.Pairwise fun a b => a.key < b.key
def Srt (l : List Rw) : Prop := l.Pairwise fun a b => a.key ≤ b.key

theorem pos_le (l : List Rw) (k : Int) : pos l k ≤ l.length := by
  induction l with
  | nil => exact Nat.le_refl _
  | cons x r ih =>
    unfold pos
    split
    · rw [List.length_cons]; omega
    · omega
theorem aft_le (l : List Rw) (k : Int) : aft l k ≤ l.length := by
  unfold aft
  induction l with
  | nil => simp [there, pos]
  | cons x r ih =>
    unfold there pos
    by_cases h : x.key < k
    · simp only [if_pos h, List.length_cons]
      split at ih <;> split <;> simp_all
    · simp only [if_neg h, List.length_cons]
      split <;> omega
theorem put_eq (l : List Rw) (k : Int) (v : ByteArray) : put l k v = l.take (pos l k) ++ ⟨k, v⟩ :: l.drop (aft l k) := by
  unfold aft
  induction l with
  | nil => simp [put, pos, there]
  | cons x r ih =>
    unfold put pos there
    by_cases h : x.key < k
    · simp only [if_pos h]
      rw [ih]
      by_cases ht : there r k = true
      · simp [ht]
      · simp [ht]
    · by_cases h2 : x.key = k
      · simp [h2]
      · simp [h, h2]
theorem pos_split (l : List Rw) (k : Int) (h : there l k = true) : ∃ x, l[pos l k]? = some x ∧ x.key = k := by
  induction l with
  | nil => simp [there] at h
  | cons x r ih =>
    unfold there at h
    unfold pos
    by_cases hx : x.key < k
    · rw [if_pos hx] at h
      rw [if_pos hx]
      simpa using ih h
    · rw [if_neg hx] at h
      rw [if_neg hx]
      exact ⟨x, rfl, by simpa using h⟩
theorem pos_lt {l : List Rw} {k : Int} (h : there l k = true) : pos l k < l.length := by
  obtain ⟨x, hx, _⟩ := pos_split l k h
  exact (List.getElem?_eq_some_iff.1 hx).1
theorem put_there {l : List Rw} {k : Int} {v : ByteArray} (h : there l k = true) : put l k v = l.set (pos l k) ⟨k, v⟩ := by
  rw [put_eq, aft, if_pos h, List.set_eq_take_append_cons_drop, if_pos (pos_lt h)]
theorem put_new {l : List Rw} {k : Int} {v : ByteArray} (h : there l k = false) : put l k v = l.take (pos l k) ++ ⟨k, v⟩ :: l.drop (pos l k) := by
  rw [put_eq, aft, if_neg (by simp [h])]
theorem put_length (l : List Rw) (k : Int) (v : ByteArray) : (put l k v).length = if there l k then l.length else l.length + 1 := by
  cases h : there l k with
  | true => rw [put_there h, List.length_set]; rfl
  | false =>
    have := pos_le l k
    rw [put_new h, List.length_append, List.length_cons, List.length_take, List.length_drop]
    simp only [Bool.false_eq_true, if_false]
    omega
theorem put_length_le (l : List Rw) (k : Int) (v : ByteArray) : (put l k v).length ≤ l.length + 1 := by
  rw [put_length]
  split <;> omega

/-! ### a key's place -/
def Lo (l : List Rw) (i : Nat) (k : Int) : Prop := ∀ p x, p < i → l[p]? = some x → x.key < k
def Hi (l : List Rw) (j : Nat) (k : Int) : Prop := ∀ p x, j ≤ p → l[p]? = some x → k ≤ x.key
theorem pos_of {l : List Rw} {k : Int} {i : Nat} (hi : i ≤ l.length) (h1 : Lo l i k) (h2 : Hi l i k) : pos l k = i := by
  induction l generalizing i with
  | nil => simp at hi; subst hi; rfl
  | cons x r ih =>
    unfold pos
    cases i with
    | zero =>
      have := h2 0 x (Nat.le_refl _) rfl
      rw [if_neg (by omega)]
    | succ i =>
      have := h1 0 x (by omega) rfl
      rw [if_pos this, ih (i := i) (by simpa using hi) (fun p y hp hy => h1 (p + 1) y (by omega) (by simpa using hy)) (fun p y hp hy => h2 (p + 1) y (by omega) (by simpa using hy))]
theorem there_of {l : List Rw} {k : Int} : there l k = match l[pos l k]? with | some x => decide (x.key = k) | none => false := by
  induction l with
  | nil => rfl
  | cons x r ih =>
    unfold there pos
    by_cases h : x.key < k
    · rw [if_pos h, if_pos h, ih]
      simp
    · rw [if_neg h, if_neg h]
      rfl
theorem there_yes {l : List Rw} {k : Int} {x : Rw} (hx : l[pos l k]? = some x) (h : x.key = k) : there l k = true := by
  rw [there_of, hx]
  simpa using h
theorem there_no {l : List Rw} {k : Int} {x : Rw} (hx : l[pos l k]? = some x) (h : x.key ≠ k) : there l k = false := by
  rw [there_of, hx]
  simpa using h
theorem there_end {l : List Rw} {k : Int} (h : l.length ≤ pos l k) : there l k = false := by
  rw [there_of, List.getElem?_eq_none h]
theorem Srt.get {l : List Rw} (h : Srt l) {p q : Nat} {x y : Rw} (hpq : p ≤ q) (hx : l[p]? = some x) (hy : l[q]? = some y) : x.key ≤ y.key := by
  rcases Nat.lt_or_ge p q with hlt | hge
  · obtain ⟨hp, rfl⟩ := List.getElem?_eq_some_iff.1 hx
    obtain ⟨hq, rfl⟩ := List.getElem?_eq_some_iff.1 hy
    exact List.pairwise_iff_getElem.1 h p q hp hq hlt
  · obtain rfl : p = q := by omega
    rw [hx] at hy
    injection hy with hy
    subst hy
    exact Int.le_refl _
theorem Rise.srt {l : List Rw} (h : Rise l) : Srt l := h.imp fun h => Int.le_of_lt h
theorem Rise.get {l : List Rw} (h : Rise l) {p q : Nat} {x y : Rw} (hpq : p < q) (hx : l[p]? = some x) (hy : l[q]? = some y) : x.key < y.key := by
  obtain ⟨hp, rfl⟩ := List.getElem?_eq_some_iff.1 hx
  obtain ⟨hq, rfl⟩ := List.getElem?_eq_some_iff.1 hy
  exact List.pairwise_iff_getElem.1 h p q hp hq hpq
theorem Srt.lo {l : List Rw} (h : Srt l) {p : Nat} {x : Rw} {k : Int} (hx : l[p]? = some x) (hk : x.key < k) : Lo l (p + 1) k := fun q y hq hy => by
  have := h.get (p := q) (q := p) (by omega) hy hx
  omega
theorem Srt.hi {l : List Rw} (h : Srt l) {p : Nat} {x : Rw} {k : Int} (hx : l[p]? = some x) (hk : k ≤ x.key) : Hi l p k := fun q y hq hy => by
  have := h.get (p := p) (q := q) hq hx hy
  omega

/-! ### rising rows -/
theorem put_mem {l : List Rw} {k : Int} {v : ByteArray} {x : Rw} (h : x ∈ put l k v) : x = ⟨k, v⟩ ∨ x ∈ l := by
  induction l with
  | nil => simpa [put] using h
  | cons y r ih =>
    unfold put at h
    split at h
    · rcases List.mem_cons.1 h with h | h
      · exact .inr (by rw [h]; exact List.mem_cons_self)
      · exact (ih h).imp id (List.mem_cons_of_mem _)
    · split at h
      · rcases List.mem_cons.1 h with h | h
        · exact .inl h
        · exact .inr (List.mem_cons_of_mem _ h)
      · rcases List.mem_cons.1 h with h | h
        · exact .inl h
        · exact .inr h
theorem Rise.nil : Rise [] := List.Pairwise.nil
theorem Rise.put {l : List Rw} (h : Rise l) (k : Int) (v : ByteArray) : Rise (put l k v) := by
  induction l with
  | nil => exact List.pairwise_singleton _ _
  | cons x r ih =>
    have hx := fun z hz => List.rel_of_pairwise_cons h (a' := z) hz
    have hr : Rise r := List.Pairwise.of_cons h
    unfold IdxMath.put
    split
    · next h1 =>
      refine List.Pairwise.cons (fun y hy => ?_) (ih hr)
      rcases put_mem hy with e | e
      · rw [e]; exact h1
      · exact hx _ e
    · split
      · next h2 => exact List.Pairwise.cons (fun y hy => by have := hx _ hy; show k < y.key; omega) hr
      · next h1 h2 =>
        refine List.Pairwise.cons (fun y hy => ?_) h
        show k < y.key
        rcases List.mem_cons.1 hy with e | e
        · rw [e]; omega
        · have := hx _ e; omega
theorem Rise.sub {l m : List Rw} (h : Rise l) (hs : m.Sublist l) : Rise m := List.Pairwise.sublist hs h
theorem Rise.del {l : List Rw} (h : Rise l) (k : Int) : Rise (del l k) := by
  unfold IdxMath.del
  split
  · exact h.sub (List.eraseIdx_sublist _ _)
  · exact h
theorem Rise.after {l : List Rw} (h : Rise l) (k n : Int) : Rise (after l k n) := h.sub ((List.take_sublist _ _).trans List.filter_sublist)
theorem Rise.make (rows : List Rw) : Rise (make rows) := by
  unfold IdxMath.make
  suffices ∀ (r l : List Rw), Rise l → Rise (r.foldl (fun l r => IdxMath.put l r.key r.val) l) from this _ _ Rise.nil
  intro r
  induction r with
  | nil => exact fun l h => h
  | cons x r ih => exact fun l h => ih _ (h.put _ _)
theorem make_length (rows : List Rw) : (make rows).length ≤ rows.length := by
  unfold make
  suffices ∀ (r l : List Rw), (r.foldl (fun l r => put l r.key r.val) l).length ≤ l.length + r.length from by simpa using this rows []
  intro r
  induction r with
  | nil => exact fun l => Nat.le_refl _
  | cons x r ih =>
    intro l
    have h1 := ih (put l x.key x.val)
    have h2 := put_length_le l x.key x.val
    rw [List.foldl_cons, List.length_cons]
    omega
theorem make_snoc (rows : List Rw) (x : Rw) : make (rows ++ [x]) = put (make rows) x.key x.val := by
  unfold make
  rw [List.foldl_append]
  rfl

theorem get_cons (x : Rw) (r : List Rw) (k : Int) : get (x :: r) k = if x.key = k then some x.val else get r k := by
  unfold get
  by_cases h : x.key = k
  · simp [List.find?_cons, h]
  · simp [List.find?_cons, h]
theorem get_put (l : List Rw) (h : Rise l) (k : Int) (v : ByteArray) (k' : Int) : get (put l k v) k' = if k = k' then some v else get l k' := by
  induction l with
  | nil => simp [put, get_cons]
  | cons x r ih =>
    have hr : Rise r := List.Pairwise.of_cons h
    unfold put
    split
    · next h1 =>
      rw [get_cons, ih hr, get_cons]
      by_cases e : k = k'
      · subst e; simp; intro h2; omega
      · simp [e]
    · split
      · next h2 =>
        rw [get_cons, get_cons]
        by_cases e : k = k'
        · simp [e]
        · simp [e]; intro h3; omega
      · rw [get_cons]
theorem get_none {l : List Rw} {k : Int} (h : ∀ x ∈ l, x.key ≠ k) : get l k = none := by
  unfold get
  rw [List.find?_eq_none.2 (by simpa using h)]
  rfl
theorem get_head {x : Rw} {r : List Rw} : get (x :: r) x.key = some x.val := by rw [get_cons, if_pos rfl]
theorem rise_ext {a b : List Rw} (ha : Rise a) (hb : Rise b) (h : ∀ k, get a k = get b k) : a = b := by
  induction a generalizing b with
  | nil =>
    cases b with
    | nil => rfl
    | cons y s =>
      have := h y.key
      rw [get_head] at this
      cases this
  | cons x r ih =>
    cases b with
    | nil =>
      have := h x.key
      rw [get_head] at this
      cases this
    | cons y s =>
      have hx := fun z hz => List.rel_of_pairwise_cons ha (a' := z) hz
      have hy := fun z hz => List.rel_of_pairwise_cons hb (a' := z) hz
      have hk : x.key = y.key := by
        rcases Int.lt_trichotomy x.key y.key with h1 | h1 | h1
        · have := h x.key
          rw [get_head, get_none (by
            intro z hz
            rcases List.mem_cons.1 hz with e | e
            · rw [e]; omega
            · have := hy z e; omega)] at this
          cases this
        · exact h1
        · have := h y.key
          rw [get_head, get_none (by
            intro z hz
            rcases List.mem_cons.1 hz with e | e
            · rw [e]; omega
            · have := hx z e; omega)] at this
          cases this
      have hv := h x.key
      rw [get_head, hk, get_head] at hv
      injection hv with hv
      have e : x = y := by cases x; cases y; simp_all
      subst e
      rw [ih (b := s) (List.Pairwise.of_cons ha) (List.Pairwise.of_cons hb) (fun k => by
        by_cases e : x.key = k
        · rw [get_none (fun z hz => by have := hx z hz; omega), get_none (fun z hz => by have := hy z hz; omega)]
        · have := h k
          rw [get_cons, get_cons, if_neg e, if_neg e] at this
          exact this)]
theorem get_make (rows : List Rw) (k : Int) : get (make rows) k = get rows.reverse k := by
  unfold make
  have key : ∀ (r l : List Rw), Rise l → get (r.foldl (fun l r => put l r.key r.val) l) k = (match get r.reverse k with | some v => some v | none => get l k) := by
    intro r
    induction r with
    | nil => intro l _; rfl
    | cons x r ih =>
      intro l hl
      rw [List.foldl_cons, ih _ (hl.put _ _), List.reverse_cons, get_put _ hl]
      have e : get (r.reverse ++ [x]) k = match get r.reverse k with | some v => some v | none => if x.key = k then some x.val else none := by
        unfold get
        rw [List.find?_append]
        cases h : r.reverse.find? (fun x => decide (x.key = k)) with
        | some z => simp
        | none =>
          by_cases h2 : x.key = k
          · simp [h2]
          · simp [h2]
      rw [e]
      cases get r.reverse k with
      | some v => rfl
      | none =>
        by_cases h2 : x.key = k
        · simp [h2]
        · simp [h2]
  rw [key _ _ Rise.nil]
  cases get rows.reverse k <;> rfl
theorem get_at {l : List Rw} (h : Rise l) (k : Int) : get l k = if there l k then (l[pos l k]?).map Rw.val else none := by
  induction l with
  | nil => rfl
  | cons x r ih =>
    have hr : Rise r := List.Pairwise.of_cons h
    rw [get_cons]
    unfold there pos
    by_cases h1 : x.key < k
    · simp only [if_pos h1]
      rw [if_neg (by omega), ih hr]
      simp
    · simp only [if_neg h1]
      by_cases h2 : x.key = k
      · simp [h2]
      · rw [if_neg h2, get_none (fun z hz => by have := List.rel_of_pairwise_cons h hz; omega)]
        simp [h2]
theorem drop_aft {l : List Rw} (h : Rise l) (k : Int) : l.drop (aft l k) = l.filter fun x => decide (k < x.key) := by
  unfold aft
  induction l with
  | nil => rfl
  | cons x r ih =>
    have hr : Rise r := List.Pairwise.of_cons h
    have hx := fun z hz => List.rel_of_pairwise_cons h (a' := z) hz
    unfold there pos
    rw [List.filter_cons]
    by_cases h1 : x.key < k
    · simp only [if_pos h1]
      rw [show decide (k < x.key) = false from decide_eq_false (by omega), ← ih hr]
      by_cases ht : there r k = true
      · simp [ht]
      · simp [ht]
    · simp only [if_neg h1]
      have hall : r.filter (fun x => decide (k < x.key)) = r := by
        rw [List.filter_eq_self]
        intro z hz
        have := hx z hz
        simp; omega
      rw [hall]
      by_cases h2 : x.key = k
      · simp [h2]
      · simp [h2, show k < x.key by omega]
theorem after_eq {l : List Rw} (h : Rise l) (k n : Int) : after l k n = (l.drop (aft l k)).take n.toNat := by rw [after, drop_aft h]
theorem del_find {l : List Rw} (h : Rise l) (k : Int) : del l k = l.eraseP fun x => decide (x.key = k) := by
  unfold del
  induction l with
  | nil => rfl
  | cons x r ih =>
    have hr : Rise r := List.Pairwise.of_cons h
    have hx := fun z hz => List.rel_of_pairwise_cons h (a' := z) hz
    unfold there pos
    by_cases h1 : x.key < k
    · simp only [if_pos h1]
      rw [List.eraseP_cons_of_neg (by simp; omega), ← ih hr]
      by_cases ht : there r k = true
      · simp [ht]
      · simp [ht]
    · simp only [if_neg h1]
      by_cases h2 : x.key = k
      · simp [h2]
      · have : r.eraseP (fun x => decide (x.key = k)) = r := List.eraseP_of_forall_not (fun z hz => by have := hx z hz; simp; omega)
        rw [List.eraseP_cons_of_neg (by simp [h2]), this]
        simp [h2]
theorem del_length (l : List Rw) (k : Int) : (del l k).length ≤ l.length := by
  unfold del
  split
  · rw [List.length_eraseIdx]; split <;> omega
  · exact Nat.le_refl _

/-! ### a stable order -/
def fk (k : Int) (l : List Rw) : List Rw := l.filter fun x => decide (x.key = k)
def St (a b : List Rw) : Prop := ∀ k, fk k b = fk k a
theorem fk_append (k : Int) (a b : List Rw) : fk k (a ++ b) = fk k a ++ fk k b := List.filter_append ..
theorem fk_cons_ne {k : Int} {x : Rw} (h : x.key ≠ k) (r : List Rw) : fk k (x :: r) = fk k r := by simp [fk, List.filter_cons, h]
theorem fk_nil {k : Int} {l : List Rw} (h : ∀ x ∈ l, x.key ≠ k) : fk k l = [] := List.filter_eq_nil_iff.2 (by simpa using h)
theorem St.refl (a : List Rw) : St a a := fun _ => rfl
theorem St.trans {a b c : List Rw} (h : St a b) (k : St b c) : St a c := fun x => (k x).trans (h x)
theorem St.app {a b c d : List Rw} (h : St a b) (k : St c d) : St (a ++ c) (b ++ d) := fun x => by rw [fk_append, fk_append, h, k]
theorem St.mem {a b : List Rw} (h : St a b) {x : Rw} (hx : x ∈ b) : x ∈ a := by
  have : x ∈ fk x.key b := List.mem_filter.2 ⟨hx, by simp⟩
  rw [h] at this
  exact (List.mem_filter.1 this).1
/-- two parts, of which the one has no key of the other, change places -/
theorem St.swap {a b : List Rw} (h : ∀ x ∈ a, ∀ y ∈ b, x.key ≠ y.key) : St (a ++ b) (b ++ a) := fun k => by
  rw [fk_append, fk_append]
  by_cases ha : fk k a = []
  · rw [ha]; simp
  · have : fk k b = [] := by
      obtain ⟨x, hx⟩ := List.exists_mem_of_ne_nil _ ha
      have h1 := List.mem_filter.1 hx
      refine fk_nil fun y hy e => h x h1.1 y hy ?_
      have := of_decide_eq_true h1.2
      omega
    rw [this]; simp
theorem St.swap2 {x y : Rw} (h : y.key < x.key) (p r : List Rw) : St (p ++ x :: y :: r) (p ++ y :: x :: r) := by
  have : St ([x] ++ [y]) ([y] ++ [x]) := St.swap (fun a ha b hb => by simp at ha hb; subst ha hb; omega)
  exact (St.refl p).app (this.app (St.refl r))
theorem get_fk (l : List Rw) (k : Int) : get l k = (fk k l).head?.map Rw.val := by
  unfold get fk
  rw [List.head?_filter]
theorem St.get {a b : List Rw} (h : St a b) (k : Int) : get b k = get a k := by rw [get_fk, get_fk, h]
theorem Srt.app {a b : List Rw} (ha : Srt a) (hb : Srt b) (h : ∀ x ∈ a, ∀ y ∈ b, x.key ≤ y.key) : Srt (a ++ b) := List.pairwise_append.2 ⟨ha, hb, h⟩
theorem Srt.parts {a b : List Rw} (h : Srt (a ++ b)) : Srt a ∧ Srt b ∧ ∀ x ∈ a, ∀ y ∈ b, x.key ≤ y.key := List.pairwise_append.1 h
theorem Srt.nil : Srt [] := List.Pairwise.nil
theorem Srt.one (x : Rw) : Srt [x] := List.pairwise_singleton _ _

/-! ### of like keys the first one -/
def dd : Option Int → List Rw → List Rw
  | _, [] => []
  | o, x :: r => if o = some x.key then dd o r else x :: dd (some x.key) r
def last (o : Option Int) (l : List Rw) : Option Int := match l.getLast? with | some y => some y.key | none => o
theorem last_cons (o : Option Int) (x : Rw) (r : List Rw) : last o (x :: r) = last (some x.key) r := by
  unfold last
  cases r with
  | nil => rfl
  | cons y s => rw [List.getLast?_cons_cons]; rfl
theorem dd_snoc (o : Option Int) (l : List Rw) (x : Rw) : dd o (l ++ [x]) = dd o l ++ (if last o l = some x.key then [] else [x]) := by
  induction l generalizing o with
  | nil =>
    show dd o [x] = dd o [] ++ if o = some x.key then [] else [x]
    unfold dd
    split <;> simp [dd]
  | cons y r ih =>
    rw [List.cons_append, dd, dd, last_cons]
    split
    · next h => rw [ih, h]
    · rw [ih, List.cons_append]
theorem dd_length (o : Option Int) (l : List Rw) : (dd o l).length ≤ l.length := by
  induction l generalizing o with
  | nil => exact Nat.le_refl _
  | cons x r ih =>
    unfold dd
    split
    · exact Nat.le_succ_of_le (ih _)
    · exact Nat.succ_le_succ (ih _)
def cpt (l : List Rw) : List Rw := dd none l
theorem dd_get (o : Option Int) (l : List Rw) (k : Int) (h : o ≠ some k) : get (dd o l) k = get l k := by
  induction l generalizing o with
  | nil => rfl
  | cons x r ih =>
    unfold dd
    split
    · next e =>
      rw [ih _ h, get_cons, if_neg]
      rintro rfl
      exact h e
    · rw [get_cons, get_cons]
      by_cases e : x.key = k
      · rw [if_pos e, if_pos e]
      · rw [if_neg e, if_neg e, ih]
        simpa using e
theorem dd_mem {o : Option Int} {l : List Rw} {x : Rw} (h : x ∈ dd o l) : x ∈ l := by
  induction l generalizing o with
  | nil => cases h
  | cons y r ih =>
    unfold dd at h
    split at h
    · exact List.mem_cons_of_mem _ (ih h)
    · rcases List.mem_cons.1 h with e | e
      · rw [e]; exact List.mem_cons_self
      · exact List.mem_cons_of_mem _ (ih e)
theorem dd_rise {o : Option Int} {l : List Rw} (h : Srt l) (ho : ∀ k, o = some k → ∀ x ∈ l, k ≤ x.key) : Rise (dd o l) ∧ ∀ k, o = some k → ∀ x ∈ dd o l, k < x.key := by
  induction l generalizing o with
  | nil => exact ⟨Rise.nil, fun _ _ _ h => by cases h⟩
  | cons y r ih =>
    have hr : Srt r := List.Pairwise.of_cons h
    have hy := fun z hz => List.rel_of_pairwise_cons h (a' := z) hz
    unfold dd
    split
    · exact ih hr fun k e x hx => ho k e x (List.mem_cons_of_mem _ hx)
    · next hne =>
      obtain ⟨h1, h2⟩ := ih (o := some y.key) hr (fun k e x hx => by injection e with e; subst e; exact hy x hx)
      refine ⟨List.Pairwise.cons (fun z hz => h2 _ rfl z hz) h1, fun k e x hx => ?_⟩
      have hky := ho k e y List.mem_cons_self
      have hky2 : k ≠ y.key := fun e2 => hne (by rw [e, e2])
      rcases List.mem_cons.1 hx with e2 | e2
      · rw [e2]; omega
      · have := h2 _ rfl x e2
        omega
theorem cpt_make {rows S : List Rw} (h : Srt S) (hs : St rows.reverse S) : cpt S = make rows := by
  refine rise_ext (dd_rise h (fun _ e => by cases e)).1 (Rise.make rows) fun k => ?_
  rw [cpt, dd_get _ _ _ (by simp), hs.get, get_make]
theorem dd_self {o : Option Int} {l : List Rw} (h : ∀ p x y, l[p]? = some x → l[p + 1]? = some y → x.key ≠ y.key) (ho : ∀ x, l[0]? = some x → o ≠ some x.key) : dd o l = l := by
  induction l generalizing o with
  | nil => rfl
  | cons x r ih =>
    unfold dd
    rw [if_neg (ho x rfl), ih (fun p a b ha hb => h (p + 1) a b (by simpa using ha) (by simpa using hb)) (fun y hy => by
      have := h 0 x y rfl (by simpa using hy)
      simpa using this)]

/-! ### two elements of a list change places -/
theorem set_swap (p m r : List Rw) (x y : Rw) : ((p ++ x :: m ++ y :: r).set p.length y).set (p.length + 1 + m.length) x = p ++ y :: m ++ x :: r := by
  rw [List.append_assoc, List.cons_append, List.set_append_right _ _ (Nat.le_refl _), Nat.sub_self, List.set_cons_zero,
    List.set_append_right _ _ (by omega), show p.length + 1 + m.length - p.length = m.length + 1 by omega, List.set_cons_succ,
    List.set_append_right _ _ (Nat.le_refl _), Nat.sub_self, List.set_cons_zero]
  simp
theorem set_swap' (p m r : List Rw) (x y : Rw) : ((p ++ x :: m ++ y :: r).set (p.length + 1 + m.length) x).set p.length y = p ++ y :: m ++ x :: r := by
  rw [List.set_comm _ _ (by omega)]
  exact set_swap p m r x y
theorem get_app {p r : List Rw} {x : Rw} {i : Nat} (h : p.length = i) : (p ++ x :: r)[i]? = some x := by
  subst h
  rw [List.getElem?_append_right (Nat.le_refl _), Nat.sub_self]
  rfl
end Go.Proofs.Ytlkjmdkmcaaihaa.IdxMath
