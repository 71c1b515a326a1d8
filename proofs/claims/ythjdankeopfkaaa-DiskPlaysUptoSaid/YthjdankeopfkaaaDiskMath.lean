/-
  Plain mathematics of a disk with power loss: files by rising numbers, how many of their bytes are safe, operations, power, crashes. No program.
-/
import Derived.Lib.Hide
namespace Go.Proofs.Ythjdankeopfkaaa.DiskMath

/-- a file: its number, its bytes, how many are safe -/
structure Fl where
  id : Int
  b : List UInt8
  safe : Nat

/-- a disk: its files, the operations till power goes (0: none is armed), whether power is off, how many operations there were -/
structure Dk where
  files : List Fl
  left : Nat
  off : Bool
  ops : Nat

/-- numbers rise from lo on and are files' numbers; no more is safe than there is -/
def Up (lo : Int) : List Fl → Prop
  | [] => True
  | x :: r => lo ≤ x.id ∧ x.id < 16384 ∧ x.safe ≤ x.b.length ∧ Up (x.id + 1) r

theorem Up.mono {lo lo' : Int} (h : lo' ≤ lo) : ∀ {l : List Fl}, Up lo l → Up lo' l
  | [], _ => trivial
  | _ :: _, ⟨h1, h2, h3, h4⟩ => ⟨by omega, h2, h3, h4⟩
theorem Up.mem {lo : Int} : ∀ {l : List Fl}, Up lo l → ∀ x ∈ l, lo ≤ x.id ∧ x.id < 16384 ∧ x.safe ≤ x.b.length
  | [], _, x, hx => by cases hx
  | y :: r, ⟨h1, h2, h3, h4⟩, x, hx => by
    rcases List.mem_cons.1 hx with rfl | hx
    · exact ⟨h1, h2, h3⟩
    · have := h4.mem x hx
      exact ⟨by omega, this.2.1, this.2.2⟩
theorem Up.length {lo : Int} : ∀ {l : List Fl}, Up lo l → lo ≤ 16384 → (l.length : Int) ≤ 16384 - lo
  | [], _, h => by simp; omega
  | y :: r, ⟨h1, h2, h3, h4⟩, _ => by
    have := h4.length (by omega)
    rw [List.length_cons]
    omega
theorem Up.le {l : List Fl} (h : Up 0 l) : l.length ≤ 16384 := by
  have := h.length (by omega)
  omega
/-- a number is there once -/
theorem Up.one {lo : Int} : ∀ {l : List Fl}, Up lo l → ∀ x ∈ l, ∀ y ∈ l, x.id = y.id → x = y
  | [], _, x, hx, _, _, _ => by cases hx
  | z :: r, ⟨_, _, _, h4⟩, x, hx, y, hy, e => by
    rcases List.mem_cons.1 hx with e1 | h1
    · rcases List.mem_cons.1 hy with e2 | h2
      · rw [e1, e2]
      · have := h4.mem y h2
        rw [e1] at e
        omega
    · rcases List.mem_cons.1 hy with e2 | h2
      · have := h4.mem x h1
        rw [e2] at e
        omega
      · exact h4.one x h1 y h2 e

/-- the file of that number -/
def seek (l : List Fl) (f : Int) : Option Fl := l.find? fun x => decide (x.id = f)
theorem seek_mem {l : List Fl} {f : Int} {x : Fl} (h : seek l f = some x) : x ∈ l ∧ x.id = f := by
  unfold seek at h
  exact ⟨List.mem_of_find?_eq_some h, by simpa using List.find?_some h⟩
theorem seek_none {l : List Fl} {f : Int} (h : seek l f = none) : ∀ x ∈ l, x.id ≠ f := by
  unfold seek at h
  intro x hx
  simpa using List.find?_eq_none.1 h x hx
theorem seek_of {lo : Int} {l : List Fl} (hu : Up lo l) {x : Fl} (hx : x ∈ l) : seek l x.id = some x := by
  cases h : seek l x.id with
  | none => exact absurd rfl (seek_none h x hx)
  | some y => rw [hu.one y (seek_mem h).1 x hx (seek_mem h).2]

/-- the files with one of them turned -/
def put (l : List Fl) (f : Int) (g : Fl → Fl) : List Fl := l.map fun x => if x.id = f then g x else x
/-- .. with one more, without bytes -/
def ins (f : Int) : List Fl → List Fl
  | [] => [⟨f, [], 0⟩]
  | x :: r => if x.id < f then x :: ins f r else ⟨f, [], 0⟩ :: x :: r
/-- .. without it -/
def del (l : List Fl) (f : Int) : List Fl := l.filter fun x => decide (x.id ≠ f)

theorem put_ids (l : List Fl) (f : Int) (g : Fl → Fl) (hg : ∀ x, (g x).id = x.id) : (put l f g).map (·.id) = l.map (·.id) := by
  unfold put
  rw [List.map_map]
  apply List.map_congr_left
  intro x _
  simp only [Function.comp]
  split
  · exact hg x
  · rfl
theorem put_mem {l : List Fl} {f : Int} {g : Fl → Fl} {y : Fl} (h : y ∈ put l f g) : ∃ x ∈ l, (x.id = f ∧ y = g x) ∨ (x.id ≠ f ∧ y = x) := by
  unfold put at h
  obtain ⟨x, hx, rfl⟩ := List.mem_map.1 h
  refine ⟨x, hx, ?_⟩
  by_cases e : x.id = f
  · exact .inl ⟨e, by rw [if_pos e]⟩
  · exact .inr ⟨e, by rw [if_neg e]⟩
theorem put_up {lo : Int} {f : Int} {g : Fl → Fl} (hg : ∀ x, (g x).id = x.id) (hs : ∀ x, x.safe ≤ x.b.length → (g x).safe ≤ (g x).b.length) : ∀ {l : List Fl}, Up lo l → Up lo (put l f g)
  | [], _ => trivial
  | x :: r, ⟨h1, h2, h3, h4⟩ => by
    have ih : Up (x.id + 1) (put r f g) := put_up hg hs h4
    unfold put at ih ⊢
    rw [List.map_cons]
    by_cases e : x.id = f
    · rw [if_pos e]
      exact ⟨by rw [hg]; exact h1, by rw [hg]; exact h2, hs x h3, by rw [hg]; exact ih⟩
    · rw [if_neg e]
      exact ⟨h1, h2, h3, ih⟩
theorem put_length (l : List Fl) (f : Int) (g : Fl → Fl) : (put l f g).length = l.length := List.length_map _
theorem ins_up {f : Int} (hf : f < 16384) : ∀ {lo : Int} {l : List Fl}, lo ≤ f → Up lo l → (∀ x ∈ l, x.id ≠ f) → Up lo (ins f l)
  | lo, [], h0, _, _ => ⟨h0, hf, Nat.le_refl _, trivial⟩
  | lo, x :: r, h0, ⟨h1, h2, h3, h4⟩, hn => by
    unfold ins
    have hx := hn x List.mem_cons_self
    split
    · rename_i hlt
      exact ⟨h1, h2, h3, ins_up hf (by omega) h4 fun y hy => hn y (List.mem_cons_of_mem _ hy)⟩
    · rename_i hlt
      exact ⟨h0, hf, Nat.le_refl _, by show f + 1 ≤ x.id; omega, h2, h3, h4⟩
theorem ins_mem {f : Int} : ∀ {l : List Fl} {y : Fl}, y ∈ ins f l → y = ⟨f, [], 0⟩ ∨ y ∈ l
  | [], y, h => by simp [ins] at h; exact .inl h
  | x :: r, y, h => by
    unfold ins at h
    split at h
    · rcases List.mem_cons.1 h with rfl | h
      · exact .inr List.mem_cons_self
      · exact (ins_mem h).imp id (List.mem_cons_of_mem _)
    · rcases List.mem_cons.1 h with rfl | h
      · exact .inl rfl
      · exact .inr h
theorem ins_here (f : Int) : ∀ l : List Fl, (⟨f, [], 0⟩ : Fl) ∈ ins f l
  | [] => by simp [ins]
  | x :: r => by
    unfold ins
    split
    · exact List.mem_cons_of_mem _ (ins_here f r)
    · exact List.mem_cons_self
theorem ins_length (f : Int) : ∀ l : List Fl, (ins f l).length = l.length + 1
  | [] => rfl
  | x :: r => by
    unfold ins
    split
    · rw [List.length_cons, ins_length f r, List.length_cons]
    · rfl
theorem del_up {f : Int} : ∀ {lo : Int} {l : List Fl}, Up lo l → Up lo (del l f)
  | _, [], _ => trivial
  | lo, x :: r, ⟨h1, h2, h3, h4⟩ => by
    have ih : Up (x.id + 1) (del r f) := del_up h4
    unfold del at ih ⊢
    rw [List.filter_cons]
    split
    · exact ⟨h1, h2, h3, ih⟩
    · exact ih.mono (by omega)
theorem del_mem {l : List Fl} {f : Int} {y : Fl} (h : y ∈ del l f) : y ∈ l ∧ y.id ≠ f := by
  unfold del at h
  have := List.mem_filter.1 h
  exact ⟨this.1, by simpa using this.2⟩

/-! ### operations -/
def refuse (d : Dk) (f : Int) (needs : Bool) : Int := if d.off then 8 else if f < 0 ∨ 16384 ≤ f then 1 else if needs ∧ seek d.files f = none then 5 else 0
/-- an operation is counted -/
def tick (d : Dk) : Dk := { d with ops := d.ops + 1, left := d.left - 1, off := decide (d.left = 1) }
/-- what it tells: power goes at it, or not -/
def told (d : Dk) : Int := if d.left = 1 then 8 else 0

def grow (b : List UInt8) (x : Fl) : Fl := { x with b := x.b ++ b }
def sure (x : Fl) : Fl := { x with safe := x.b.length }
def trim (n : Nat) (x : Fl) : Fl := { x with b := x.b.take n, safe := min x.safe n }
/-- what is left of a file behind a crash -/
def keeps (k : Int) (x : Fl) : Nat := x.safe + k.toNat % (x.b.length - x.safe + 1)
def setl (k : Int) (x : Fl) : Fl := { x with b := x.b.take (keeps k x), safe := keeps k x }

/-- the file begins, if it is not there -/
def begunL (l : List Fl) (f : Int) : List Fl := if seek l f = none then ins f l else l

def append (d : Dk) (f : Int) (b : List UInt8) : Int × Dk :=
  if refuse d f false = 0 then (told d, { tick d with files := put (begunL d.files f) f (grow b) }) else (refuse d f false, d)
/-- one of the three others: what it does, if power does not go at it -/
def oper (d : Dk) (l : List Fl) : Int × Dk := if d.left = 1 then (8, tick d) else (0, { tick d with files := l })
def sync (d : Dk) (f : Int) : Int × Dk := if refuse d f true = 0 then oper d (put d.files f sure) else (refuse d f true, d)
def size (d : Dk) (f : Int) : Int := match seek d.files f with | some x => x.b.length | none => -1
def safe (d : Dk) (f : Int) : Int := match seek d.files f with | some x => x.safe | none => -1
def cut (d : Dk) (f n : Int) : Int × Dk :=
  if refuse d f true = 0 then (if n < 0 ∨ size d f < n then (1, d) else oper d (put d.files f (trim n.toNat))) else (refuse d f true, d)
def remove (d : Dk) (f : Int) : Int × Dk := if refuse d f true = 0 then oper d (del d.files f) else (refuse d f true, d)
def arm (d : Dk) (n : Int) : Dk := { d with left := n.toNat }
def crashL : List Fl → List Int → List Fl
  | [], _ => []
  | x :: r, ks => setl (ks.headD 0) x :: crashL r ks.tail
def crash (d : Dk) (ks : List Int) : Dk := { d with files := crashL d.files ks, left := 0, off := false }

def none_ : Dk := ⟨[], 0, false, 0⟩

theorem keeps_le (k : Int) (x : Fl) (h : x.safe ≤ x.b.length) : x.safe ≤ keeps k x ∧ keeps k x ≤ x.b.length := by
  unfold keeps
  have := Nat.mod_lt k.toNat (show x.b.length - x.safe + 1 > 0 by omega)
  omega
theorem setl_id (k : Int) (x : Fl) : (setl k x).id = x.id := rfl
theorem setl_ok (k : Int) (x : Fl) (h : x.safe ≤ x.b.length) : (setl k x).safe ≤ (setl k x).b.length := by
  have := keeps_le k x h
  simp only [setl, List.length_take]
  omega
theorem grow_ok (b : List UInt8) (x : Fl) (h : x.safe ≤ x.b.length) : (grow b x).safe ≤ (grow b x).b.length := by
  simp only [grow, List.length_append]
  omega
theorem sure_ok (x : Fl) (_ : x.safe ≤ x.b.length) : (sure x).safe ≤ (sure x).b.length := Nat.le_refl _
theorem trim_ok (n : Nat) (x : Fl) (h : x.safe ≤ x.b.length) : (trim n x).safe ≤ (trim n x).b.length := by
  simp only [trim, List.length_take]
  omega
theorem crashL_length : ∀ (l : List Fl) (ks : List Int), (crashL l ks).length = l.length
  | [], _ => rfl
  | x :: r, ks => by rw [crashL, List.length_cons, crashL_length r, List.length_cons]
theorem crashL_ids : ∀ (l : List Fl) (ks : List Int), (crashL l ks).map (·.id) = l.map (·.id)
  | [], _ => rfl
  | x :: r, ks => by rw [crashL, List.map_cons, crashL_ids r, List.map_cons]; rfl
theorem crashL_up {lo : Int} : ∀ {l : List Fl} (ks : List Int), Up lo l → Up lo (crashL l ks)
  | [], _, _ => trivial
  | x :: _, ks, ⟨h1, h2, h3, h4⟩ => ⟨h1, h2, setl_ok _ x h3, crashL_up ks.tail h4⟩
theorem crashL_get : ∀ (l : List Fl) (ks : List Int) (i : Nat), (crashL l ks)[i]? = l[i]?.map (setl (ks.getD i 0))
  | [], _, _ => by simp [crashL]
  | x :: r, ks, 0 => by
    rw [crashL]
    cases ks <;> simp
  | x :: r, ks, i + 1 => by
    rw [crashL, List.getElem?_cons_succ, crashL_get r, List.getElem?_cons_succ]
    cases ks <;> simp

/-- i files of a crash are done -/
def crashTo (l : List Fl) (ks : List Int) (i : Nat) : List Fl := (crashL l ks).take i ++ l.drop i
theorem crashTo_zero (l : List Fl) (ks : List Int) : crashTo l ks 0 = l := by simp [crashTo]
theorem crashTo_all (l : List Fl) (ks : List Int) {i : Nat} (h : l.length ≤ i) : crashTo l ks i = crashL l ks := by
  rw [crashTo, List.drop_eq_nil_of_le h, List.append_nil, List.take_of_length_le (by rw [crashL_length]; exact h)]
theorem crashTo_up {lo : Int} : ∀ {l : List Fl} (ks : List Int) (i : Nat), Up lo l → Up lo (crashTo l ks i)
  | [], ks, i, _ => by simp [crashTo, crashL]; trivial
  | _ :: _, ks, 0, h => by rw [crashTo_zero]; exact h
  | x :: r, ks, i + 1, ⟨h1, h2, h3, h4⟩ => by
    have ih := crashTo_up (l := r) ks.tail i h4
    exact ⟨h1, h2, setl_ok _ x h3, ih⟩
theorem crashTo_ids (l : List Fl) (ks : List Int) (i : Nat) : (crashTo l ks i).map (·.id) = l.map (·.id) := by
  rw [crashTo, List.map_append, List.map_take, crashL_ids, List.map_drop, List.take_append_drop]
theorem crashTo_length (l : List Fl) (ks : List Int) (i : Nat) : (crashTo l ks i).length = l.length := by
  have := congrArg List.length (crashTo_ids l ks i)
  simpa using this
theorem crashTo_get (l : List Fl) (ks : List Int) {i : Nat} (h : i < l.length) : (crashTo l ks i)[i]? = l[i]? := by
  have hl : ((crashL l ks).take i).length = i := by rw [List.length_take, crashL_length]; omega
  rw [crashTo, List.getElem?_append_right (by omega), hl, Nat.sub_self, List.getElem?_drop, Nat.add_zero]
theorem crashTo_succ {lo : Int} : ∀ {l : List Fl} (ks : List Int) {i : Nat} {x : Fl}, Up lo l → l[i]? = some x → crashTo l ks (i + 1) = put (crashTo l ks i) x.id (setl (ks.getD i 0))
  | [], _, _, _, _, h => by simp at h
  | y :: r, ks, 0, x, ⟨h1, h2, h3, h4⟩, h => by
    simp only [List.getElem?_cons_zero, Option.some.injEq] at h
    subst h
    rw [crashTo_zero, crashTo, crashL]
    have e : r.map (fun z => if z.id = y.id then setl (ks.getD 0 0) z else z) = r := by
      conv => rhs; rw [← List.map_id r]
      apply List.map_congr_left
      intro z hz
      have := (h4.mem z hz).1
      rw [if_neg (by omega)]
      rfl
    rw [put, List.map_cons, if_pos rfl, e]
    cases ks <;> simp
  | y :: r, ks, i + 1, x, ⟨h1, h2, h3, h4⟩, h => by
    rw [List.getElem?_cons_succ] at h
    have ih := crashTo_succ (l := r) ks.tail h4 h
    have hx := (h4.mem x (List.mem_of_getElem? h)).1
    have e1 : crashTo (y :: r) ks (i + 1 + 1) = setl (ks.headD 0) y :: crashTo r ks.tail (i + 1) := rfl
    have e2 : crashTo (y :: r) ks (i + 1) = setl (ks.headD 0) y :: crashTo r ks.tail i := rfl
    have e3 : ks.getD (i + 1) 0 = ks.tail.getD i 0 := by cases ks <;> simp
    rw [e1, e2, e3, ih]
    show _ = List.map _ (_ :: _)
    rw [List.map_cons, if_neg (by rw [setl_id]; omega)]
    rfl
end Go.Proofs.Ythjdankeopfkaaa.DiskMath
