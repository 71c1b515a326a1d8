/-
  Package table: a set of tables in memory, and contracts of its short calls.
-/
import Derived.Test.YtngncalbglbjdaaIdxNew
namespace Go.Proofs.Ytngncalbglbjdaa.Tbl
set_option linter.unusedVariables false
set_option maxRecDepth 100000
open Go.RowKit Base IdxMath Foot Idx
set_option linter.ambiguousOpen false
set_option linter.unusedSimpArgs false

def ptr (q : Nat) : Value := .pointer (some ⟨q, 0, none⟩)
/-- the set at block p holds the tables T: its row is block b, its i-th index block ps[i], with all that is its own in G i -/
structure Lie (w : World) (F : Nat → Prop) (p b : Nat) (ps : List Nat) (G : Nat → Nat → Prop) (T : List (List Rw)) : Prop where
  box : Blk w p 59 #[.slice (some ⟨b, 0, none⟩) T.length T.length]
  row : Blk w b 63 (ps.map ptr).toArray
  len : ps.length = T.length
  most : T.length ≤ 8
  some_ : 1 ≤ T.length
  inp : F p
  inb : F b
  ne : p ≠ b
  each : ∀ i q l, ps[i]? = some q → T[i]? = some l → IdxAt w (G i) q l
  ing : ∀ i g, i < T.length → g < w.heap.size → G i g → F g ∧ g ≠ p ∧ g ≠ b
  apart : ∀ i j g, i < T.length → j < T.length → i ≠ j → g < w.heap.size → G i g → ¬ G j g
def SetAt (w : World) (F : Nat → Prop) (p : Nat) (T : List (List Rw)) : Prop := ∃ b ps G, Lie w F p b ps G T

section
variable {w w' : World} {F F' : Nat → Prop} {p b : Nat} {ps : List Nat} {G : Nat → Nat → Prop} {T : List (List Rw)}
theorem Lie.get (h : Lie w F p b ps G T) {i : Nat} (hi : i < T.length) : ∃ q l, ps[i]? = some q ∧ T[i]? = some l ∧ w.cell? ⟨b, i, none⟩ = some (ptr q) ∧ IdxAt w (G i) q l := by
  have h1 : i < ps.length := by rw [h.len]; exact hi
  refine ⟨ps[i], T[i], List.getElem?_eq_getElem h1, List.getElem?_eq_getElem hi, ?_, h.each i _ _ (List.getElem?_eq_getElem h1) (List.getElem?_eq_getElem hi)⟩
  rw [h.row.cell i]
  simp [h1]
theorem Lie.keep (h : Lie w F p b ps G T) (hs : w.heap.size ≤ w'.heap.size) (hk : ∀ i, i < w.heap.size → F i → w'.heap[i]? = w.heap[i]?) : Lie w' F p b ps (fun i g => G i g ∧ g < w.heap.size) T where
  box := (hk p h.box.lt h.inp).trans h.box
  row := (hk b h.row.lt h.inb).trans h.row
  len := h.len
  most := h.most
  some_ := h.some_
  inp := h.inp
  inb := h.inb
  ne := h.ne
  each := fun i q l h1 h2 => ((h.each i q l h1 h2).mono fun g hg hG => ⟨hG, hg⟩).keep fun g hg hG => hk g hg (h.ing i g (by
    have := (List.getElem?_eq_some_iff.1 h2).1; exact this) hg hG.1).1
  ing := fun i g hi _ hG => h.ing i g hi hG.2 hG.1
  apart := fun i j g hi hj hij _ h1 h2 => h.apart i j g hi hj hij h1.2 h1.1 h2.1
theorem SetAt.keep (h : SetAt w F p T) (hs : w.heap.size ≤ w'.heap.size) (hk : ∀ i, i < w.heap.size → F i → w'.heap[i]? = w.heap[i]?) : SetAt w' F p T := by
  obtain ⟨b, ps, G, h⟩ := h
  exact ⟨b, ps, _, h.keep hs hk⟩
theorem SetAt.mono (h : SetAt w F p T) (hF : ∀ i, i < w.heap.size → F i → F' i) : SetAt w F' p T := by
  obtain ⟨b, ps, G, h⟩ := h
  exact ⟨b, ps, G, { h with inp := hF _ h.box.lt h.inp, inb := hF _ h.row.lt h.inb, ing := fun i g hi hg hG => ⟨hF _ hg (h.ing i g hi hg hG).1, (h.ing i g hi hg hG).2⟩ }⟩
theorem SetAt.new (h : SetAt w F p T) (hb : Below w.heap.size w w') : SetAt w' F p T := h.keep hb.size fun i hi _ => hb.block i hi
end

theorem tables_any (F : Nat → Prop) (p : Nat) (T : List (List Rw)) (w : World) (h : SetAt w F p T) :
    Calls Try.prog 35 #[.pointer (some ⟨p, 0, none⟩)] w fun e w' => e = .returned (.int .i64 T.length) ∧ w = w' := by
  obtain ⟨b, ps, G, h⟩ := h
  have c0 : w.cell? ⟨p, 0, none⟩ = some (.slice (some ⟨b, 0, none⟩) T.length T.length) := h.box.cell 0
  clear h
  go_enter Try.func35, Try.ntmps35
  go_wp2
  go_ret
  exact ⟨rfl, rfl⟩
def isT (T : List (List Rw)) (t : Int) : Bool := decide (0 ≤ t ∧ t < (T.length : Int))
theorem has_any (F : Nat → Prop) (p : Nat) (T : List (List Rw)) (t : Int) (w : World) (h : SetAt w F p T) :
    Calls Try.prog 42 #[.pointer (some ⟨p, 0, none⟩), .int .i64 t] w fun e w' => e = .returned (.bool (isT T t)) ∧ w = w' := by
  obtain ⟨b, ps, G, h⟩ := h
  have c0 : w.cell? ⟨p, 0, none⟩ = some (.slice (some ⟨b, 0, none⟩) T.length T.length) := h.box.cell 0
  clear h
  rcases Int.lt_or_le t 0 with h1 | h1
  · go_enter Try.func42, Try.ntmps42
    go_wp2
    go_ret
    exact ⟨by rw [show isT T t = false from decide_eq_false (by omega)]; rfl, rfl⟩
  · by_cases h2 : t < (T.length : Int)
    · go_enter Try.func42, Try.ntmps42
      go_wp2
      go_ret
      exact ⟨by rw [show isT T t = true from decide_eq_true (by omega)]; rfl, rfl⟩
    · go_enter Try.func42, Try.ntmps42
      go_wp2
      go_ret
      exact ⟨by rw [show isT T t = false from decide_eq_false (by omega)]; rfl, rfl⟩

/-- the t-th table, none if there is none -/
def tab (T : List (List Rw)) (t : Int) : List Rw := if isT T t then (T[t.toNat]?).getD [] else []
def Short (T : List (List Rw)) : Prop := ∀ l ∈ T, l.length ≤ 1099511627774
theorem tab_get {T : List (List Rw)} {i : Nat} {l : List Rw} (hi : i < T.length) (h : T[i]? = some l) : tab T (i : Int) = l := by
  unfold tab
  rw [show isT T (i : Int) = true from decide_eq_true (by omega), if_pos rfl, Int.toNat_natCast, h]
  rfl
theorem tab_none {T : List (List Rw)} {t : Int} (h : isT T t = false) : tab T t = [] := by
  unfold tab
  rw [h]
  rfl
theorem isT_nat {T : List (List Rw)} {t : Int} (h : isT T t = true) : ∃ i : Nat, t = (i : Int) ∧ i < T.length := by
  have := of_decide_eq_true h
  obtain ⟨i, rfl⟩ := Int.eq_ofNat_of_zero_le this.1
  exact ⟨i, rfl, by omega⟩

theorem len_any (F : Nat → Prop) (p : Nat) (T : List (List Rw)) (t : Int) (w : World) (h : SetAt w F p T) :
    Calls Try.prog 22 #[.pointer (some ⟨p, 0, none⟩), .int .i64 t] w fun e w' => e = .returned (.int .i64 (tab T t).length) ∧ w = w' := by
  have HH := Lib.hid (has_any F p T t w h)
  obtain ⟨b, ps, G, h⟩ := h
  have c0 : w.cell? ⟨p, 0, none⟩ = some (.slice (some ⟨b, 0, none⟩) T.length T.length) := h.box.cell 0
  cases ht : isT T t with
  | false =>
    have HT := Lib.hid ht
    clear h ht
    go_enter Try.func22, Try.ntmps22
    go_wp2_with fail
    refine HH.out.mono ?_
    rintro e w1 ⟨rfl, rfl⟩
    rw [HT.out]
    go_wp2
    go_ret
    exact ⟨by rw [tab_none HT.out]; rfl, rfl⟩
  | true =>
    obtain ⟨i, rfl, hi⟩ := isT_nat ht
    obtain ⟨q, l, e1, e2, c1, hq⟩ := h.get hi
    have c2 : w.cell? ⟨b, i, none⟩ = some (.pointer (some ⟨q, 0, none⟩)) := c1
    have hi2 : (i : Int) < (T.length : Int) := by omega
    have HQ := Lib.hid (Idx.len_any (G i) q l w hq)
    have HT := Lib.hid ht
    have HL := Lib.hid (tab_get hi e2)
    clear h ht e1 e2 c1 hq
    go_enter Try.func22, Try.ntmps22
    go_wp2_with fail
    refine HH.out.mono ?_
    rintro e w1 ⟨rfl, rfl⟩
    rw [HT.out]
    go_wp2_with fail
    refine HQ.out.mono ?_
    rintro e w1 ⟨rfl, rfl⟩
    go_wp2
    go_ret
    exact ⟨by rw [HL.out]; rfl, rfl⟩

theorem newRows_nil (w : World) : NewRows w [] (.returned (.slice none 0 0)) w := ⟨none, 0, rfl, ⟨rfl, .inl ⟨rfl, rfl⟩⟩, .refl _ _⟩
theorem rows_any (F : Nat → Prop) (p : Nat) (T : List (List Rw)) (t : Int) (w : World) (h : SetAt w F p T) (hsz : (tab T t).length ≤ 1099511627774) :
    Calls Try.prog 21 #[.pointer (some ⟨p, 0, none⟩), .int .i64 t] w (NewRows w (tab T t)) := by
  have HH := Lib.hid (has_any F p T t w h)
  obtain ⟨b, ps, G, h⟩ := h
  have c0 : w.cell? ⟨p, 0, none⟩ = some (.slice (some ⟨b, 0, none⟩) T.length T.length) := h.box.cell 0
  cases ht : isT T t with
  | false =>
    have HT := Lib.hid ht
    clear h ht
    go_enter Try.func21, Try.ntmps21
    go_wp2_with fail
    refine HH.out.mono ?_
    rintro e w1 ⟨rfl, rfl⟩
    rw [HT.out]
    go_wp2
    go_ret
    rw [tab_none HT.out]
    exact newRows_nil _
  | true =>
    obtain ⟨i, rfl, hi⟩ := isT_nat ht
    obtain ⟨q, l, e1, e2, c1, hq⟩ := h.get hi
    have c2 : w.cell? ⟨b, i, none⟩ = some (.pointer (some ⟨q, 0, none⟩)) := c1
    have hi2 : (i : Int) < (T.length : Int) := by omega
    rw [tab_get hi e2] at hsz ⊢
    have HQ := Lib.hid (Idx.all_any (G i) q l w hq (by omega))
    have HT := Lib.hid ht
    clear h ht e1 e2 c1 hq
    go_enter Try.func21, Try.ntmps21
    go_wp2_with fail
    refine HH.out.mono ?_
    rintro e w1 ⟨rfl, rfl⟩
    rw [HT.out]
    go_wp2_with fail
    refine HQ.out.mono ?_
    rintro e w1 ⟨A1, c1, rfl, h1, h2⟩
    have H1 := Lib.hid (And.intro h1 h2)
    clear h1 h2
    go_wp2
    go_ret
    exact ⟨A1, c1, rfl, H1.out.1, H1.out.2⟩
theorem after_nil (k n : Int) : IdxMath.after [] k n = [] := by simp [IdxMath.after]
theorem after_any (F : Nat → Prop) (p : Nat) (T : List (List Rw)) (t k n : Int) (w : World) (h : SetAt w F p T) (hsz : (tab T t).length ≤ 1099511627774) :
    Calls Try.prog 17 #[.pointer (some ⟨p, 0, none⟩), .int .i64 t, .int .i64 k, .int .i64 n] w (NewRows w (IdxMath.after (tab T t) k n)) := by
  have HH := Lib.hid (has_any F p T t w h)
  obtain ⟨b, ps, G, h⟩ := h
  have c0 : w.cell? ⟨p, 0, none⟩ = some (.slice (some ⟨b, 0, none⟩) T.length T.length) := h.box.cell 0
  cases ht : isT T t with
  | false =>
    have HT := Lib.hid ht
    clear h ht
    go_enter Try.func17, Try.ntmps17
    go_wp2_with fail
    refine HH.out.mono ?_
    rintro e w1 ⟨rfl, rfl⟩
    rw [HT.out]
    go_wp2
    go_ret
    rw [tab_none HT.out, after_nil]
    exact newRows_nil _
  | true =>
    obtain ⟨i, rfl, hi⟩ := isT_nat ht
    obtain ⟨q, l, e1, e2, c1, hq⟩ := h.get hi
    have c2 : w.cell? ⟨b, i, none⟩ = some (.pointer (some ⟨q, 0, none⟩)) := c1
    have hi2 : (i : Int) < (T.length : Int) := by omega
    rw [tab_get hi e2] at hsz ⊢
    have HQ := Lib.hid (Idx.after_any (G i) q l k n w hq (by omega))
    have HT := Lib.hid ht
    clear h ht e1 e2 c1 hq
    generalize IdxMath.after l k n = r at *
    go_enter Try.func17, Try.ntmps17
    go_wp2_with fail
    refine HH.out.mono ?_
    rintro e w1 ⟨rfl, rfl⟩
    rw [HT.out]
    go_wp2_with fail
    refine HQ.out.mono ?_
    rintro e w1 ⟨A1, c1, rfl, h1, h2⟩
    have H1 := Lib.hid (And.intro h1 h2)
    clear h1 h2
    go_wp2
    go_ret
    exact ⟨A1, c1, rfl, H1.out.1, H1.out.2⟩
end Go.Proofs.Ytngncalbglbjdaa.Tbl
