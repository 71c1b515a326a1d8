/-
  Plain mathematics of a replica's tables (P15): cells by their keys, ops put one behind the other, of each key the one with the greatest Lsn. No program's numbers, no condition.
-/
import Derived.Test.YtlkjmdkmcaaihaaIdxMath
namespace Go.Proofs.Ytlkjmdkmcaaihaa.GuardMath
set_option linter.unusedVariables false
set_option linter.unusedSimpArgs false

structure Ce where
  key : Int
  lsn : Int
  gone : Bool
  val : ByteArray
def noCe : Ce := ⟨0, 0, false, ⟨#[]⟩⟩
instance : Inhabited Ce := ⟨noCe⟩
structure Gp where
  lsn : Int
  tbl : Int
  key : Int
  gone : Bool
  val : ByteArray
def noGp : Gp := ⟨0, 0, 0, false, ⟨#[]⟩⟩
instance : Inhabited Gp := ⟨noGp⟩

/-- lists from their front to their end -/
theorem snoc_ind {α : Type} {motive : List α → Prop} (nil : motive []) (append_singleton : ∀ l a, motive l → motive (l ++ [a])) (l : List α) : motive l := by
  have h : ∀ n (l : List α), l.length = n → motive l := by
    intro n
    induction n with
    | zero => intro l hl; rw [List.eq_nil_of_length_eq_zero hl]; exact nil
    | succ n ih =>
      intro l hl
      rcases List.eq_nil_or_concat l with rfl | ⟨m, a, rfl⟩
      · exact nil
      · rw [List.concat_eq_append] at hl ⊢
        exact append_singleton m a (ih m (by simpa using hl))
  exact h l.length l rfl

/-! ### one table -/
def pos : List Ce → Int → Nat
  | [], _ => 0
  | x :: r, k => if x.key < k then pos r k + 1 else 0
def at_ : List Ce → Int → Option Ce
  | [], _ => none
  | x :: r, k => if x.key < k then at_ r k else if x.key = k then some x else none
def ins : List Ce → Ce → List Ce
  | [], y => [y]
  | x :: r, y => if x.key < y.key then x :: ins r y else if x.key = y.key then y :: r else y :: x :: r
def mk (o : Gp) : Ce := ⟨o.key, o.lsn, o.gone, if o.gone then ⟨#[]⟩ else o.val⟩
def held (l : List Ce) (o : Gp) : Bool := match at_ l o.key with
  | none => false
  | some x => decide (o.lsn < x.lsn)
def put (l : List Ce) (o : Gp) : List Ce := if held l o then l else ins l (mk o)
def rows (l : List Ce) : List IdxMath.Rw := (l.filter fun c => !c.gone).map fun c => ⟨c.key, c.val⟩
def Rise (l : List Ce) : Prop := l.Pairwise fun a b => a.key < b.key

theorem pos_le (l : List Ce) (k : Int) : pos l k ≤ l.length := by
  induction l with
  | nil => exact Nat.le_refl _
  | cons x r ih =>
    unfold pos
    split
    · rw [List.length_cons]; omega
    · omega
theorem at_of (l : List Ce) (k : Int) : at_ l k = match l[pos l k]? with
    | none => none
    | some x => if x.key = k then some x else none := by
  induction l with
  | nil => rfl
  | cons x r ih =>
    unfold at_ pos
    by_cases h : x.key < k
    · rw [if_pos h, if_pos h, ih]; simp
    · rw [if_neg h, if_neg h]; rfl
theorem at_yes {l : List Ce} {k : Int} {x : Ce} (h : l[pos l k]? = some x) (hk : x.key = k) : at_ l k = some x := by rw [at_of, h]; simp [hk]
theorem at_no {l : List Ce} {k : Int} {x : Ce} (h : l[pos l k]? = some x) (hk : x.key ≠ k) : at_ l k = none := by rw [at_of, h]; simp [hk]
theorem at_end {l : List Ce} {k : Int} (h : l.length ≤ pos l k) : at_ l k = none := by rw [at_of, List.getElem?_eq_none h]
theorem pos_lt {l : List Ce} {k : Int} {x : Ce} (h : at_ l k = some x) : pos l k < l.length ∧ l[pos l k]? = some x ∧ x.key = k := by
  rw [at_of] at h
  cases hl : l[pos l k]? with
  | none => rw [hl] at h; cases h
  | some y =>
    rw [hl] at h
    dsimp only at h
    split at h
    · rename_i hy
      injection h with h
      subst h
      exact ⟨(List.getElem?_eq_some_iff.1 hl).1, rfl, hy⟩
    · cases h
theorem ins_eq (l : List Ce) (y : Ce) : ins l y = l.take (pos l y.key) ++ y :: l.drop (if (at_ l y.key).isSome then pos l y.key + 1 else pos l y.key) := by
  induction l with
  | nil => simp [ins, pos, at_]
  | cons x r ih =>
    unfold ins pos at_
    by_cases h : x.key < y.key
    · simp only [if_pos h]
      rw [ih]
      by_cases ht : (at_ r y.key).isSome = true
      · simp [ht]
      · simp [ht]
    · by_cases h2 : x.key = y.key
      · simp [h2]
      · simp [h, h2]
theorem ins_length (l : List Ce) (y : Ce) : (ins l y).length = if (at_ l y.key).isSome then l.length else l.length + 1 := by
  induction l with
  | nil => simp [ins, at_]
  | cons x r ih =>
    unfold ins at_
    by_cases h : x.key < y.key
    · simp only [if_pos h, List.length_cons, ih]; split <;> omega
    · by_cases h2 : x.key = y.key
      · simp [h2]
      · simp [h, h2]
theorem ins_le (l : List Ce) (y : Ce) : (ins l y).length ≤ l.length + 1 := by
  rw [ins_length]; split <;> omega
theorem put_le (l : List Ce) (o : Gp) : (put l o).length ≤ l.length + 1 := by
  unfold put
  split
  · omega
  · exact ins_le _ _
theorem at_ins (l : List Ce) (y : Ce) (k : Int) : at_ (ins l y) k = if k = y.key then some y else at_ l k := by
  induction l with
  | nil =>
    show (if y.key < k then (none : Option Ce) else if y.key = k then some y else none) = if k = y.key then some y else none
    by_cases h1 : y.key < k
    · rw [if_pos h1, if_neg (by omega)]
    · by_cases h2 : y.key = k
      · rw [if_neg h1, if_pos h2, if_pos h2.symm]
      · rw [if_neg h1, if_neg h2, if_neg (fun h => h2 h.symm)]
  | cons x r ih =>
    unfold ins
    by_cases h : x.key < y.key
    · rw [if_pos h]
      show (if x.key < k then at_ (ins r y) k else if x.key = k then some x else none) = if k = y.key then some y else (if x.key < k then at_ r k else if x.key = k then some x else none)
      by_cases h1 : x.key < k
      · rw [if_pos h1, if_pos h1, ih]
      · rw [if_neg h1, if_neg h1, if_neg (show ¬ k = y.key by omega)]
    · rw [if_neg h]
      by_cases h2 : x.key = y.key
      · rw [if_pos h2]
        show (if y.key < k then at_ r k else if y.key = k then some y else none) = if k = y.key then some y else (if x.key < k then at_ r k else if x.key = k then some x else none)
        rw [h2]
        by_cases h1 : y.key < k
        · rw [if_pos h1, if_pos h1, if_neg (show ¬ k = y.key by omega)]
        · rw [if_neg h1, if_neg h1]
          by_cases h3 : y.key = k
          · rw [if_pos h3, if_pos h3.symm]
          · rw [if_neg h3, if_neg (fun h => h3 h.symm), if_neg h3]
      · rw [if_neg h2]
        show (if y.key < k then (if x.key < k then at_ r k else if x.key = k then some x else none) else if y.key = k then some y else none) = if k = y.key then some y else (if x.key < k then at_ r k else if x.key = k then some x else none)
        by_cases h1 : y.key < k
        · rw [if_pos h1, if_neg (show ¬ k = y.key by omega)]
        · rw [if_neg h1]
          by_cases h3 : y.key = k
          · rw [if_pos h3, if_pos h3.symm]
          · rw [if_neg h3, if_neg (fun h => h3 h.symm), if_neg (show ¬ x.key < k by omega), if_neg (show ¬ x.key = k by omega)]
theorem at_put (l : List Ce) (o : Gp) (k : Int) : at_ (put l o) k = if k = o.key then (if held l o then at_ l k else some (mk o)) else at_ l k := by
  unfold put
  by_cases h : held l o = true
  · rw [if_pos h, if_pos h]; split <;> rfl
  · rw [if_neg h, if_neg h, at_ins]; rfl
theorem mem_ins {l : List Ce} {y z : Ce} (h : z ∈ ins l y) : z = y ∨ z ∈ l := by
  induction l with
  | nil => simp [ins] at h; exact .inl h
  | cons x r ih =>
    unfold ins at h
    split at h
    · rcases List.mem_cons.1 h with h | h
      · exact .inr (h ▸ List.mem_cons_self ..)
      · exact (ih h).imp id fun h => List.mem_cons_of_mem _ h
    · split at h
      · rcases List.mem_cons.1 h with h | h
        · exact .inl h
        · exact .inr (List.mem_cons_of_mem _ h)
      · rcases List.mem_cons.1 h with h | h
        · exact .inl h
        · exact .inr h
theorem rise_nil : Rise [] := List.Pairwise.nil
theorem rise_ins {l : List Ce} (h : Rise l) (y : Ce) : Rise (ins l y) := by
  induction l with
  | nil => exact List.pairwise_singleton ..
  | cons x r ih =>
    obtain ⟨h1, h2⟩ := List.pairwise_cons.1 h
    unfold ins
    split
    · rename_i hlt
      refine List.pairwise_cons.2 ⟨fun z hz => ?_, ih h2⟩
      rcases mem_ins hz with rfl | hz
      · exact hlt
      · exact h1 z hz
    · split
      · rename_i he
        exact List.pairwise_cons.2 ⟨fun z hz => by have := h1 z hz; omega, h2⟩
      · rename_i hn he
        refine List.pairwise_cons.2 ⟨fun z hz => ?_, h⟩
        rcases List.mem_cons.1 hz with rfl | hz
        · omega
        · have := h1 z hz; omega
theorem rise_put {l : List Ce} (h : Rise l) (o : Gp) : Rise (put l o) := by
  unfold put
  split
  · exact h
  · exact rise_ins h _
theorem at_low {l : List Ce} {k : Int} (h : ∀ z ∈ l, k < z.key) : at_ l k = none := by
  cases l with
  | nil => rfl
  | cons x r =>
    have := h x (List.mem_cons_self ..)
    unfold at_
    rw [if_neg (by omega), if_neg (by omega)]
theorem rise_ext {l m : List Ce} (hl : Rise l) (hm : Rise m) (h : ∀ k, at_ l k = at_ m k) : l = m := by
  induction l generalizing m with
  | nil =>
    cases m with
    | nil => rfl
    | cons z s =>
      have := h z.key
      unfold at_ at this
      rw [if_neg (by omega), if_pos rfl] at this
      cases this
  | cons x r ih =>
    obtain ⟨h1, h2⟩ := List.pairwise_cons.1 hl
    cases m with
    | nil =>
      have := h x.key
      unfold at_ at this
      rw [if_neg (by omega), if_pos rfl] at this
      cases this
    | cons z s =>
      obtain ⟨g1, g2⟩ := List.pairwise_cons.1 hm
      have hx := h x.key
      have hz := h z.key
      have hxz : z = x := by
        unfold at_ at hx hz
        rw [if_neg (show ¬ x.key < x.key by omega), if_pos rfl] at hx
        rw [if_neg (show ¬ z.key < z.key by omega), if_pos rfl] at hz
        by_cases h3 : z.key < x.key
        · rw [if_neg (by omega), if_neg (by omega)] at hz
          cases hz
        · rw [if_neg h3] at hx
          by_cases h4 : z.key = x.key
          · rw [if_pos h4] at hx
            injection hx with hx
            exact hx.symm
          · rw [if_neg h4] at hx
            cases hx
      subst hxz
      congr 1
      refine ih h2 g2 fun k => ?_
      by_cases hk : z.key < k
      · have := h k
        unfold at_ at this
        rw [if_pos hk, if_pos hk] at this
        exact this
      · rw [at_low fun y hy => by have := h1 y hy; omega, at_low fun y hy => by have := g1 y hy; omega]

/-! ### tables -/
def isT (T : List (List Ce)) (t : Int) : Bool := decide (0 ≤ t ∧ t < (T.length : Int))
def tab (T : List (List Ce)) (t : Int) : List Ce := if isT T t then (T[t.toNat]?).getD [] else []
def do1 (T : List (List Ce)) (o : Gp) : List (List Ce) := if isT T o.tbl then T.set o.tbl.toNat (put (tab T o.tbl) o) else T
def plays (T : List (List Ce)) (o : Gp) : Bool := isT T o.tbl && !held (tab T o.tbl) o
def doAll (T : List (List Ce)) (l : List Gp) : List (List Ce) := l.foldl do1 T
def cnt : List (List Ce) → List Gp → Nat
  | _, [] => 0
  | T, o :: r => (if plays T o then 1 else 0) + cnt (do1 T o) r
def E (n : Nat) : List (List Ce) := List.replicate n []
theorem doAll_snoc (T : List (List Ce)) (l : List Gp) (o : Gp) : doAll T (l ++ [o]) = do1 (doAll T l) o := by simp [doAll]
theorem doAll_append (T : List (List Ce)) (l m : List Gp) : doAll T (l ++ m) = doAll (doAll T l) m := by simp [doAll]
theorem cnt_snoc (T : List (List Ce)) (l : List Gp) (o : Gp) : cnt T (l ++ [o]) = cnt T l + if plays (doAll T l) o then 1 else 0 := by
  induction l generalizing T with
  | nil => show (if plays T o then 1 else 0) + 0 = 0 + (if plays T o then 1 else 0); omega
  | cons x r ih =>
    show (if plays T x then 1 else 0) + cnt (do1 T x) (r ++ [o]) = (if plays T x then 1 else 0) + cnt (do1 T x) r + if plays (doAll (do1 T x) r) o then 1 else 0
    rw [ih]
    omega
theorem cnt_le (T : List (List Ce)) (l : List Gp) : cnt T l ≤ l.length := by
  induction l generalizing T with
  | nil => exact Nat.le_refl _
  | cons x r ih =>
    have := ih (do1 T x)
    show (if plays T x then 1 else 0) + cnt (do1 T x) r ≤ r.length + 1
    split <;> omega
theorem do1_length (T : List (List Ce)) (o : Gp) : (do1 T o).length = T.length := by
  unfold do1
  split
  · rw [List.length_set]
  · rfl
theorem doAll_length (T : List (List Ce)) (l : List Gp) : (doAll T l).length = T.length := by
  induction l generalizing T with
  | nil => rfl
  | cons o l ih => exact (ih (do1 T o)).trans (do1_length T o)
theorem isT_length {T T' : List (List Ce)} (h : T'.length = T.length) (t : Int) : isT T' t = isT T t := by unfold isT; rw [h]
theorem isT_nat {T : List (List Ce)} {t : Int} (h : isT T t = true) : ∃ i : Nat, t = (i : Int) ∧ i < T.length := by
  have := of_decide_eq_true h
  obtain ⟨i, rfl⟩ := Int.eq_ofNat_of_zero_le this.1
  exact ⟨i, rfl, by omega⟩
theorem isT_mk {T : List (List Ce)} {i : Nat} (h : i < T.length) : isT T (i : Int) = true := decide_eq_true (by omega)
theorem tab_none {T : List (List Ce)} {t : Int} (h : isT T t = false) : tab T t = [] := by unfold tab; rw [h]; rfl
theorem tab_get {T : List (List Ce)} {i : Nat} {l : List Ce} (h : T[i]? = some l) : tab T (i : Int) = l := by
  unfold tab
  rw [isT_mk (List.getElem?_eq_some_iff.1 h).1, if_pos rfl, Int.toNat_natCast, h]
  rfl
theorem tab_set {T : List (List Ce)} {i : Nat} (hi : i < T.length) (l : List Ce) (t : Int) : tab (T.set i l) t = if t = (i : Int) then l else tab T t := by
  unfold tab
  rw [isT_length (T := T) (by rw [List.length_set])]
  by_cases ht : isT T t = true
  · obtain ⟨j, rfl, hj⟩ := isT_nat ht
    rw [if_pos ht, if_pos ht, Int.toNat_natCast]
    by_cases hji : j = i
    · subst hji
      rw [if_pos rfl, List.getElem?_set_self hi]
      rfl
    · rw [if_neg (by omega), List.getElem?_set_ne (fun e => hji e.symm)]
  · rw [if_neg ht, if_neg ht, if_neg]
    rintro rfl
    exact ht (isT_mk hi)
theorem tab_do1 (T : List (List Ce)) (o : Gp) (t : Int) : tab (do1 T o) t = if isT T o.tbl = true ∧ t = o.tbl then put (tab T o.tbl) o else tab T t := by
  unfold do1
  by_cases h : isT T o.tbl = true
  · obtain ⟨i, e, hi⟩ := isT_nat h
    rw [if_pos h, e, Int.toNat_natCast, tab_set hi]
    by_cases ht : t = (i : Int)
    · rw [if_pos ht, if_pos ⟨isT_mk hi, ht⟩]
    · rw [if_neg ht, if_neg (fun hh => ht hh.2)]
  · rw [if_neg h, if_neg (fun hh => h hh.1)]
theorem tab_empty (n : Nat) (t : Int) : tab (E n) t = [] := by
  unfold tab E
  split
  · rename_i h
    obtain ⟨i, rfl, hi⟩ := isT_nat h
    rw [List.length_replicate] at hi
    rw [Int.toNat_natCast, List.getElem?_replicate, if_pos hi]
    rfl
  · rfl
def Rises (T : List (List Ce)) : Prop := ∀ t : Int, Rise (tab T t)
def Most (T : List (List Ce)) (M : Nat) : Prop := ∀ t : Int, (tab T t).length ≤ M
theorem rises_E (n : Nat) : Rises (E n) := fun t => by rw [tab_empty]; exact rise_nil
theorem rises_do1 {T : List (List Ce)} (h : Rises T) (o : Gp) : Rises (do1 T o) := fun t => by
  rw [tab_do1]
  split
  · exact rise_put (h _) o
  · exact h t
theorem rises_doAll {T : List (List Ce)} (h : Rises T) (l : List Gp) : Rises (doAll T l) := by
  induction l generalizing T with
  | nil => exact h
  | cons o l ih => exact ih (rises_do1 h o)
theorem most_E (n : Nat) : Most (E n) 0 := fun t => by rw [tab_empty]; exact Nat.le_refl _
theorem most_do1 {T : List (List Ce)} {M : Nat} (h : Most T M) (o : Gp) : Most (do1 T o) (M + 1) := fun t => by
  rw [tab_do1]
  split
  · have := put_le (tab T o.tbl) o
    have := h o.tbl
    omega
  · have := h t
    omega
theorem most_doAll {T : List (List Ce)} {M : Nat} (h : Most T M) (l : List Gp) : Most (doAll T l) (M + l.length) := by
  induction l generalizing T M with
  | nil => exact h
  | cons o l ih =>
    have := ih (most_do1 h o)
    rw [List.length_cons, show M + (l.length + 1) = M + 1 + l.length by omega]
    exact this
theorem Most.mono {T : List (List Ce)} {M M' : Nat} (h : Most T M) (hM : M ≤ M') : Most T M' := fun t => Nat.le_trans (h t) hM

/-! ### of each key the op with the greatest Lsn -/
/-- the cell of a key in a table -/
def cell (T : List (List Ce)) (t k : Int) : Option Ce := at_ (tab T t) k
def mine (o : Gp) (t k : Int) : Prop := o.tbl = t ∧ o.key = k
theorem cell_do1 {T : List (List Ce)} {o : Gp} {t : Int} (ht : isT T t = true) (k : Int) :
    (mine o t k → (held (tab T t) o = true ∧ cell (do1 T o) t k = cell T t k) ∨ (held (tab T t) o = false ∧ cell (do1 T o) t k = some (mk o))) ∧ (¬ mine o t k → cell (do1 T o) t k = cell T t k) := by
  unfold cell mine
  rw [tab_do1]
  constructor
  · rintro ⟨rfl, rfl⟩
    rw [if_pos ⟨ht, rfl⟩, at_put, if_pos rfl]
    cases h : held (tab T o.tbl) o with
    | true => exact .inl ⟨rfl, by rw [if_pos rfl]⟩
    | false => exact .inr ⟨rfl, by rw [if_neg (by simp)]⟩
  · intro hn
    by_cases h1 : isT T o.tbl = true ∧ t = o.tbl
    · rw [if_pos h1, at_put, if_neg (fun h2 => hn ⟨h1.2.symm, h2.symm⟩), h1.2]
    · rw [if_neg h1]
theorem held_iff {T : List (List Ce)} {o : Gp} {t k : Int} (h : mine o t k) : (held (tab T t) o = true ↔ ∃ x, cell T t k = some x ∧ o.lsn < x.lsn) := by
  obtain ⟨rfl, rfl⟩ := h
  unfold held cell
  cases at_ (tab T o.tbl) o.key with
  | none => simp
  | some x => simp
/-- none of that key came, or the one with the greatest Lsn of those that came is there -/
def Top (l : List Gp) (t k : Int) (c : Option Ce) : Prop := (c = none ∧ ∀ o ∈ l, ¬ mine o t k) ∨ ∃ o ∈ l, mine o t k ∧ c = some (mk o) ∧ ∀ o' ∈ l, mine o' t k → o'.lsn ≤ o.lsn
theorem top_doAll (n : Nat) (l : List Gp) {t : Int} (ht : isT (E n) t = true) (k : Int) : Top l t k (cell (doAll (E n) l) t k) := by
  have key : ∀ m : List Gp, m <+: l → Top m t k (cell (doAll (E n) m) t k) := by
    intro m hm
    induction m using snoc_ind with
    | nil => exact .inl ⟨by unfold cell doAll; rw [List.foldl_nil, tab_empty]; rfl, fun o ho => by cases ho⟩
    | append_singleton m o ih =>
      have ih := ih ((List.prefix_append m [o]).trans hm)
      have ht' : isT (doAll (E n) m) t = true := by rw [isT_length (doAll_length _ _)]; exact ht
      rw [doAll_snoc]
      obtain ⟨h1, h2⟩ := cell_do1 (o := o) ht' k
      by_cases hmn : mine o t k
      · rcases h1 hmn with ⟨hh, hc⟩ | ⟨hh, hc⟩
        · rw [hc]
          obtain ⟨x, hx, hlt⟩ := (held_iff hmn).1 hh
          rcases ih with ⟨h0, _⟩ | ⟨o1, ho1, hm1, hc1, hmax⟩
          · rw [hx] at h0; cases h0
          · rw [hx] at hc1
            injection hc1 with hc1
            refine .inr ⟨o1, List.mem_append_left _ ho1, hm1, by rw [hx, hc1], fun o' ho' hm' => ?_⟩
            rcases List.mem_append.1 ho' with h | h
            · exact hmax o' h hm'
            · rw [List.mem_singleton] at h
              subst h
              rw [hc1] at hlt
              exact Int.le_of_lt hlt
        · rw [hc]
          refine .inr ⟨o, List.mem_append_right _ (List.mem_singleton.2 rfl), hmn, rfl, fun o' ho' hm' => ?_⟩
          rcases List.mem_append.1 ho' with h | h
          · rcases ih with ⟨_, h0⟩ | ⟨o1, ho1, hm1, hc1, hmax⟩
            · exact absurd hm' (h0 o' h)
            · have h3 := hmax o' h hm'
              have h4 : ¬ o.lsn < o1.lsn := fun hlt => by
                have := (held_iff (T := doAll (E n) m) hmn).2 ⟨mk o1, hc1, hlt⟩
                rw [this] at hh
                cases hh
              omega
          · rw [List.mem_singleton] at h
            rw [h]
            exact Int.le_refl _
      · rw [h2 hmn]
        rcases ih with ⟨h0, h3⟩ | ⟨o1, ho1, hm1, hc1, hmax⟩
        · refine .inl ⟨h0, fun o' ho' => ?_⟩
          rcases List.mem_append.1 ho' with h | h
          · exact h3 o' h
          · rw [List.mem_singleton] at h
            rw [h]
            exact hmn
        · refine .inr ⟨o1, List.mem_append_left _ ho1, hm1, hc1, fun o' ho' hm' => ?_⟩
          rcases List.mem_append.1 ho' with h | h
          · exact hmax o' h hm'
          · rw [List.mem_singleton] at h
            rw [h] at hm'
            exact absurd hm' hmn
  exact key l (List.prefix_refl l)
/-- the same ops in whatever order, where Lsns tell them apart -/
theorem top_same {l m : List Gp} {t k : Int} {c d : Option Ce} (h : Top l t k c) (h' : Top m t k d) (hlm : ∀ o, o ∈ l ↔ o ∈ m) (hu : ∀ a ∈ l, ∀ b ∈ l, a.lsn = b.lsn → a = b) : c = d := by
  rcases h with ⟨rfl, h1⟩ | ⟨o, ho, hm, rfl, hmax⟩
  · rcases h' with ⟨rfl, _⟩ | ⟨o', ho', hm', _⟩
    · rfl
    · exact absurd hm' (h1 o' ((hlm o').2 ho'))
  · rcases h' with ⟨_, h2⟩ | ⟨o', ho', hm', rfl, hmax'⟩
    · exact absurd hm (h2 o ((hlm o).1 ho))
    · have h3 := hmax o' ((hlm o').2 ho') hm'
      have h4 := hmax' o ((hlm o).1 ho) hm
      rw [hu o ho o' ((hlm o').2 ho') (by omega)]

/-! ### Lsns that do not fall -/
def NonFall (l : List Gp) : Prop := l.Pairwise fun a b => a.lsn ≤ b.lsn
/-- the last one of that key -/
def lastOf : List Gp → Int → Int → Option Gp
  | [], _, _ => none
  | o :: r, t, k => match lastOf r t k with
    | some x => some x
    | none => if o.tbl = t ∧ o.key = k then some o else none
theorem lastOf_snoc (l : List Gp) (o : Gp) (t k : Int) : lastOf (l ++ [o]) t k = if o.tbl = t ∧ o.key = k then some o else lastOf l t k := by
  induction l with
  | nil => simp [lastOf]
  | cons x r ih =>
    show (match lastOf (r ++ [o]) t k with | some x => some x | none => if x.tbl = t ∧ x.key = k then some x else none) = if o.tbl = t ∧ o.key = k then some o else (match lastOf r t k with | some x => some x | none => if x.tbl = t ∧ x.key = k then some x else none)
    rw [ih]
    by_cases h : o.tbl = t ∧ o.key = k
    · rw [if_pos h, if_pos h]
    · rw [if_neg h, if_neg h]
theorem lastOf_mem {l : List Gp} {t k : Int} {o : Gp} (h : lastOf l t k = some o) : o ∈ l ∧ mine o t k := by
  induction l with
  | nil => cases h
  | cons x r ih =>
    unfold lastOf at h
    cases hr : lastOf r t k with
    | some y =>
      rw [hr] at h
      injection h with h
      subst h
      exact ⟨List.mem_cons_of_mem _ (ih hr).1, (ih hr).2⟩
    | none =>
      rw [hr] at h
      dsimp only at h
      split at h
      · rename_i hm
        injection h with h
        subst h
        exact ⟨List.mem_cons_self .., hm⟩
      · cases h
/-- a state that the ops l may come to, none of whose cells is younger than the last op of its key -/
def Under (l : List Gp) (T : List (List Ce)) (t k : Int) : Prop := ∀ x, cell T t k = some x → ∃ o, lastOf l t k = some o ∧ x.lsn ≤ o.lsn
theorem again_cell {T : List (List Ce)} {t : Int} (ht : isT T t = true) (k : Int) (l : List Gp) (hl : NonFall l) (M : Int) (hM : ∀ x, cell T t k = some x → ∀ o, lastOf l t k = some o → x.lsn ≤ o.lsn) :
    cell (doAll T l) t k = match lastOf l t k with | some o => some (mk o) | none => cell T t k := by
  induction l using snoc_ind with
  | nil => rfl
  | append_singleton l o ih =>
    have hl' : NonFall l := (List.pairwise_append.1 hl).1
    have hlast : ∀ a ∈ l, a.lsn ≤ o.lsn := fun a ha => (List.pairwise_append.1 hl).2.2 a ha o (List.mem_singleton.2 rfl)
    have ht' : isT (doAll T l) t = true := by rw [isT_length (doAll_length _ _)]; exact ht
    rw [doAll_snoc, lastOf_snoc]
    obtain ⟨h1, h2⟩ := cell_do1 (o := o) ht' k
    by_cases hmn : o.tbl = t ∧ o.key = k
    · rw [if_pos hmn]
      dsimp only
      rcases h1 hmn with ⟨hh, _⟩ | ⟨_, hc⟩
      · exfalso
        obtain ⟨x, hx, hlt⟩ := (held_iff (T := doAll T l) (t := t) (k := k) hmn).1 hh
        -- what is there is of l, or of T
        have hM2 := hM
        rw [lastOf_snoc, if_pos hmn] at hM2
        have hall : ∀ m : List Gp, (∀ a ∈ m, a.lsn ≤ o.lsn) → ∀ S, isT S t = true → (∀ y, cell S t k = some y → y.lsn ≤ o.lsn) → ∀ y, cell (doAll S m) t k = some y → y.lsn ≤ o.lsn := by
          intro m
          induction m with
          | nil => exact fun _ S _ hS => hS
          | cons a m ihm =>
            intro ha S hST hS
            refine ihm (fun b hb => ha b (List.mem_cons_of_mem _ hb)) (do1 S a) (by rw [isT_length (do1_length _ _)]; exact hST) fun y hy => ?_
            obtain ⟨g1, g2⟩ := cell_do1 (o := a) hST k
            by_cases hma : mine a t k
            · rcases g1 hma with ⟨_, hc⟩ | ⟨_, hc⟩
              · exact hS y (by rw [← hc]; exact hy)
              · rw [hc] at hy
                injection hy with hy
                rw [← hy]
                exact ha a (List.mem_cons_self ..)
            · exact hS y (by rw [← g2 hma]; exact hy)
        have := hall l hlast T ht (fun y hy => hM2 y hy o rfl) x hx
        omega
      · exact hc
    · rw [if_neg hmn, h2 hmn]
      exact ih hl' (fun x hx o' ho' => hM x hx o' (by rw [lastOf_snoc, if_neg hmn]; exact ho'))
theorem first_cell (n : Nat) {t : Int} (ht : isT (E n) t = true) (k : Int) (l : List Gp) (hl : NonFall l) : cell (doAll (E n) l) t k = (lastOf l t k).map mk := by
  rw [again_cell ht k l hl 0 (fun x hx => by unfold cell at hx; rw [tab_empty] at hx; cases hx)]
  cases lastOf l t k with
  | none => unfold cell; rw [tab_empty]; rfl
  | some o => rfl
theorem lastOf_front {l : List Gp} (hl : NonFall l) {c : Nat} {t k : Int} {o : Gp} (h : lastOf (l.take c) t k = some o) : ∃ o', lastOf l t k = some o' ∧ o.lsn ≤ o'.lsn := by
  have e : l = l.take c ++ l.drop c := (List.take_append_drop c l).symm
  have key : ∀ m : List Gp, (∀ b ∈ m, o.lsn ≤ b.lsn) → ∀ p : List Gp, (∃ o', lastOf p t k = some o' ∧ o.lsn ≤ o'.lsn) → ∃ o', lastOf (p ++ m) t k = some o' ∧ o.lsn ≤ o'.lsn := by
    intro m
    induction m with
    | nil => intro _ p hp; rw [List.append_nil]; exact hp
    | cons b m ih =>
      intro hb p hp
      rw [show p ++ b :: m = (p ++ [b]) ++ m by simp]
      refine ih (fun x hx => hb x (List.mem_cons_of_mem _ hx)) (p ++ [b]) ?_
      rw [lastOf_snoc]
      split
      · exact ⟨b, rfl, hb b (List.mem_cons_self ..)⟩
      · exact hp
  rw [e] at hl
  have h2 := (List.pairwise_append.1 hl).2.2
  have := key (l.drop c) (fun b hb => h2 o (lastOf_mem h).1 b hb) (l.take c) ⟨o, h, Int.le_refl _⟩
  rwa [← e] at this
/-- put once, or a beginning of it and then all, twice: the same -/
theorem again_tab (n : Nat) {t : Int} (ht : isT (E n) t = true) (l : List Gp) (hl : NonFall l) (c : Nat) : tab (doAll (doAll (doAll (E n) (l.take c)) l) l) t = tab (doAll (E n) l) t := by
  have hr1 : Rises (doAll (E n) (l.take c)) := rises_doAll (rises_E n) _
  have hT1 : isT (doAll (E n) (l.take c)) t = true := by rw [isT_length (doAll_length _ _)]; exact ht
  have hT2 : isT (doAll (doAll (E n) (l.take c)) l) t = true := by rw [isT_length (doAll_length _ _)]; exact hT1
  refine rise_ext (rises_doAll (rises_doAll hr1 l) l t) (rises_doAll (rises_E n) l t) fun k => ?_
  show cell (doAll (doAll (doAll (E n) (l.take c)) l) l) t k = cell (doAll (E n) l) t k
  have hlc : NonFall (l.take c) := hl.sublist (List.take_sublist _ _)
  have e0 := first_cell n ht k (l.take c) hlc
  have e1 := again_cell hT1 k l hl 0 (fun x hx o ho => by
    rw [e0] at hx
    cases hp : lastOf (l.take c) t k with
    | none => rw [hp] at hx; cases hx
    | some o1 =>
      rw [hp] at hx
      injection hx with hx
      obtain ⟨o', ho', hle⟩ := lastOf_front hl hp
      rw [ho] at ho'
      injection ho' with ho'
      rw [← hx, ho']
      exact hle)
  have e2 := again_cell hT2 k l hl 0 (fun x hx o ho => by
    rw [e1, ho] at hx
    dsimp only at hx
    injection hx with hx
    rw [← hx]
    exact Int.le_refl _)
  rw [e2, e1, first_cell n ht k l hl]
  cases hl2 : lastOf l t k with
  | some o => rfl
  | none =>
    dsimp only
    rw [e0]
    cases hp : lastOf (l.take c) t k with
    | none => rfl
    | some o1 =>
      obtain ⟨o', ho', _⟩ := lastOf_front hl hp
      rw [hl2] at ho'
      cases ho'
/-- where Lsns do not fall each op of a table that there is plays a part -/
theorem all_play (n : Nat) (l : List Gp) (hl : NonFall l) (ht : ∀ o ∈ l, isT (E n) o.tbl = true) : cnt (E n) l = l.length := by
  induction l using snoc_ind with
  | nil => rfl
  | append_singleton l o ih =>
    have hl' : NonFall l := (List.pairwise_append.1 hl).1
    have hlast : ∀ a ∈ l, a.lsn ≤ o.lsn := fun a ha => (List.pairwise_append.1 hl).2.2 a ha o (List.mem_singleton.2 rfl)
    have hto := ht o (List.mem_append_right _ (List.mem_singleton.2 rfl))
    have ht' : isT (doAll (E n) l) o.tbl = true := by rw [isT_length (doAll_length _ _)]; exact hto
    rw [cnt_snoc, ih hl' (fun a ha => ht a (List.mem_append_left _ ha)), List.length_append]
    have hp : plays (doAll (E n) l) o = true := by
      unfold plays
      rw [ht', Bool.true_and]
      cases hh : held (tab (doAll (E n) l) o.tbl) o with
      | false => rfl
      | true =>
        obtain ⟨x, hx, hlt⟩ := (held_iff (T := doAll (E n) l) (t := o.tbl) (k := o.key) ⟨rfl, rfl⟩).1 hh
        rw [first_cell n hto o.key l hl'] at hx
        cases hp : lastOf l o.tbl o.key with
        | none => rw [hp] at hx; cases hx
        | some o1 =>
          rw [hp] at hx
          injection hx with hx
          have h3 := hlast o1 (lastOf_mem hp).1
          rw [← hx] at hlt
          exact absurd h3 (by show ¬ o1.lsn ≤ o.lsn; have : o.lsn < o1.lsn := hlt; omega)
    rw [hp]
    rfl
end Go.Proofs.Ytlkjmdkmcaaihaa.GuardMath
