/-
  Plain mathematics of a disk's files as a list: a file's place among them, and what is done at that place. No program.
-/
import Derived.Test.YtedfddnbgljcjaaGreatMaths
namespace Go.Proofs.YtedfddnbgljcjaaGreat.DiskMath

/-- how many files have a lesser number -/
def place (f : Int) : List Fl → Nat
  | [] => 0
  | x :: r => if x.id < f then place f r + 1 else 0
theorem place_le (f : Int) : ∀ l : List Fl, place f l ≤ l.length
  | [] => Nat.le_refl _
  | x :: r => by
    unfold place
    split
    · have := place_le f r
      rw [List.length_cons]
      omega
    · omega
theorem place_lt (f : Int) : ∀ (l : List Fl) (k : Nat) (x : Fl), k < place f l → l[k]? = some x → x.id < f
  | [], _, _, h, _ => by simp [place] at h
  | y :: r, k, x, h, hx => by
    unfold place at h
    split at h
    · rename_i hy
      cases k with
      | zero => simp at hx; subst hx; exact hy
      | succ k => exact place_lt f r k x (by omega) (by simpa using hx)
    · omega
theorem place_at (f : Int) : ∀ (l : List Fl) (x : Fl), l[place f l]? = some x → ¬ x.id < f
  | [], _, hx => by simp at hx
  | y :: r, x, hx => by
    unfold place at hx
    split at hx
    · exact place_at f r x (by simpa using hx)
    · rename_i hy
      simp at hx
      subst hx
      exact hy
theorem place_seek {f : Int} : ∀ {lo : Int} {l : List Fl} {x : Fl}, Up lo l → seek l f = some x → l[place f l]? = some x
  | _, [], x, _, h => by cases h
  | lo, y :: r, x, ⟨h1, h2, h3, h4⟩, h => by
    unfold seek at h
    rw [List.find?_cons] at h
    unfold place
    by_cases e : y.id = f
    · rw [decide_eq_true e] at h
      obtain rfl : y = x := Option.some.inj h
      rw [if_neg (by omega)]
      rfl
    · rw [decide_eq_false e] at h
      have hx : x ∈ r ∧ x.id = f := seek_mem (l := r) h
      have := h4.mem x hx.1
      rw [if_pos (by omega), List.getElem?_cons_succ]
      exact place_seek h4 h
theorem place_ins {f : Int} : ∀ l : List Fl, ins f l = l.take (place f l) ++ ⟨f, [], 0⟩ :: l.drop (place f l)
  | [] => rfl
  | x :: r => by
    unfold ins place
    split
    · rw [List.take_succ_cons, List.drop_succ_cons, List.cons_append, ← place_ins r]
    · rfl
theorem place_put {f : Int} (t : Fl → Fl) : ∀ {lo : Int} {l : List Fl} {x : Fl}, Up lo l → seek l f = some x → put l f t = l.set (place f l) (t x)
  | _, [], x, _, h => by cases h
  | lo, y :: r, x, ⟨h1, h2, h3, h4⟩, h => by
    unfold seek at h
    rw [List.find?_cons] at h
    unfold place
    by_cases e : y.id = f
    · rw [decide_eq_true e] at h
      obtain rfl : y = x := Option.some.inj h
      rw [if_neg (by omega), List.set_cons_zero]
      unfold put
      rw [List.map_cons, if_pos e]
      congr 1
      conv => rhs; rw [← List.map_id r]
      apply List.map_congr_left
      intro z hz
      have := (h4.mem z hz).1
      rw [if_neg (by omega)]
      rfl
    · rw [decide_eq_false e] at h
      have hx : x ∈ r ∧ x.id = f := seek_mem (l := r) h
      have := h4.mem x hx.1
      rw [if_pos (by omega), List.set_cons_succ, ← place_put t h4 h]
      unfold put
      rw [List.map_cons, if_neg e]
theorem place_del {f : Int} : ∀ {lo : Int} {l : List Fl} {x : Fl}, Up lo l → seek l f = some x → del l f = l.take (place f l) ++ l.drop (place f l + 1)
  | _, [], x, _, h => by cases h
  | lo, y :: r, x, ⟨h1, h2, h3, h4⟩, h => by
    unfold seek at h
    rw [List.find?_cons] at h
    unfold place
    by_cases e : y.id = f
    · rw [if_neg (by omega)]
      unfold del
      rw [List.filter_cons, if_neg (by simp [e])]
      show _ = r
      rw [List.filter_eq_self]
      intro z hz
      have := (h4.mem z hz).1
      simp
      omega
    · rw [decide_eq_false e] at h
      have hx : x ∈ r ∧ x.id = f := seek_mem (l := r) h
      have := h4.mem x hx.1
      rw [if_pos (by omega), List.take_succ_cons, List.drop_succ_cons, List.cons_append, ← place_del h4 h]
      unfold del
      rw [List.filter_cons, if_pos (by simpa using e)]
theorem put_get {l : List Fl} {f : Int} {t : Fl → Fl} {k : Nat} : (put l f t)[k]? = l[k]?.map fun x => if x.id = f then t x else x := by
  unfold put
  rw [List.getElem?_map]
/-- the numbers of files are no other's -/
theorem up_get_id {lo : Int} {l : List Fl} (h : Up lo l) {x y : Fl} {i : Nat} (hx : l[i]? = some x) (hy : y ∈ l) (e : y.id = x.id) : y = x := h.one y hy x (List.mem_of_getElem? hx) e
end Go.Proofs.YtedfddnbgljcjaaGreat.DiskMath
