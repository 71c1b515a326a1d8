/-
  Changes and signals in memory.
-/
import Derived.Test.YtlkjmdkmcaaihaaTxnMath
import Derived.Test.YtlkjmdkmcaaihaaFieldFlds
namespace Go.Proofs.Ytlkjmdkmcaaihaa.Txn
set_option linter.unusedVariables false
set_option maxRecDepth 100000
open Go.RowKit Base FieldMath TxnMath
open Go.Proofs.Ytlkjmdkmcaaihaa.Field (ret_bool empty_iff)
set_option linter.ambiguousOpen false
set_option linter.unusedSimpArgs false

def ccells (c : Ch) : List Value := [.int .i64 c.tbl, .int .i64 c.key, .bool c.gone, .string c.val]
def cv (l : List Ch) : List Value := l.flatMap ccells
theorem cv_append (l m : List Ch) : cv (l ++ m) = cv l ++ cv m := List.flatMap_append
theorem cv_length (l : List Ch) : (cv l).length = l.length * 4 := by
  induction l with
  | nil => rfl
  | cons f l ih =>
    show (ccells f ++ cv l).length = _
    rw [List.length_append, ih, List.length_cons]
    show 4 + l.length * 4 = _
    omega
theorem cv_one (l : List Ch) : ∀ u ∈ cv l, u.oneCell' = true := by
  intro u hu
  obtain ⟨f, _, hf⟩ := List.mem_flatMap.1 hu
  simp only [ccells, List.mem_cons, List.not_mem_nil, or_false] at hf
  rcases hf with rfl | rfl | rfl | rfl <;> rfl
theorem cv_get (l : List Ch) (k : Nat) (f : Ch) (h : l[k]? = some f) (i : Nat) (hi : i < 4) : (cv l)[k * 4 + i]? = (ccells f)[i]? := by
  induction l generalizing k with
  | nil => simp at h
  | cons g l ih =>
    show (ccells g ++ cv l)[k * 4 + i]? = _
    cases k with
    | zero =>
      simp only [List.getElem?_cons_zero, Option.some.injEq] at h
      subst h
      rw [List.getElem?_append_left (by show 0 * 4 + i < 4; omega)]
      congr 1
      omega
    | succ k =>
      rw [List.getElem?_cons_succ] at h
      rw [List.getElem?_append_right (by show 4 ≤ (k + 1) * 4 + i; omega), ← ih k h]
      congr 1
      show (k + 1) * 4 + i - 4 = _
      omega
/-- a slice of changes that reads as the list l, below block B -/
def Chs (w : World) (B : Nat) (A : Option Addr) (n c : Nat) (l : List Ch) : Prop := Row w B 4 A n c (cv l)
def sv (l : List ByteArray) : List Value := l.map .string
theorem sv_one (l : List ByteArray) : ∀ u ∈ sv l, u.oneCell' = true := by
  intro u hu
  obtain ⟨f, _, rfl⟩ := List.mem_map.1 hu
  rfl
def Sigs (w : World) (B : Nat) (A : Option Addr) (n c : Nat) (l : List ByteArray) : Prop := Row w B 1 A n c (sv l)
section
variable {w w' : World} {B B' n c : Nat} {A : Option Addr} {l : List Ch} {m : List ByteArray}
theorem Chs.len (h : Chs w B A n c l) : l.length = n := by have := h.1; rw [cv_length] at this; omega
theorem Chs.le (h : Chs w B A n c l) : n ≤ c ∧ c ≤ 9223372036854775807 := ⟨h.2.1, h.2.2.1⟩
theorem Chs.below (h : Chs w B A n c l) (hb : Below B w w') : Chs w' B A n c l := Row.below h hb
theorem Chs.at_ (h : Chs w B A n c l) {k : Nat} (hk : k < n) :
    ∃ b off f, A = some ⟨b, off, none⟩ ∧ b < B ∧ w.cell? ⟨b, off + k * 4, none⟩ = some (.int .i64 f.tbl) ∧ w.cell? ⟨b, off + k * 4 + 1, none⟩ = some (.int .i64 f.key) ∧ w.cell? ⟨b, off + k * 4 + 2, none⟩ = some (.bool f.gone) ∧ w.cell? ⟨b, off + k * 4 + 3, none⟩ = some (.string f.val) ∧
      l[k]? = some f ∧ l.take (k + 1) = l.take k ++ [f] := by
  obtain ⟨b, off, e, hb, hc⟩ := h.2.2.2 (by omega)
  have hl : k < l.length := by rw [h.len]; exact hk
  have hg : l[k]? = some l[k] := List.getElem?_eq_getElem hl
  refine ⟨b, off, l[k], e, hb, ?_, ?_, ?_, ?_, hg, List.take_succ_eq_append_getElem hl⟩
  · exact hc (k * 4 + 0) _ (by rw [cv_get l k _ hg 0 (by omega)]; rfl)
  · exact hc (k * 4 + 1) _ (by rw [cv_get l k _ hg 1 (by omega)]; rfl)
  · exact hc (k * 4 + 2) _ (by rw [cv_get l k _ hg 2 (by omega)]; rfl)
  · exact hc (k * 4 + 3) _ (by rw [cv_get l k _ hg 3 (by omega)]; rfl)
theorem Sigs.len (h : Sigs w B A n c m) : m.length = n := by have := h.1; rw [sv, List.length_map] at this; omega
theorem Sigs.le (h : Sigs w B A n c m) : n ≤ c ∧ c ≤ 9223372036854775807 := ⟨h.2.1, h.2.2.1⟩
theorem Sigs.below (h : Sigs w B A n c m) (hb : Below B w w') : Sigs w' B A n c m := Row.below h hb
theorem Sigs.at_ (h : Sigs w B A n c m) {k : Nat} (hk : k < n) :
    ∃ b off s, A = some ⟨b, off, none⟩ ∧ b < B ∧ w.cell? ⟨b, off + k, none⟩ = some (.string s) ∧ m[k]? = some s ∧ m.take (k + 1) = m.take k ++ [s] := by
  obtain ⟨b, off, e, hb, hc⟩ := h.2.2.2 (by omega)
  have hl : k < m.length := by rw [h.len]; exact hk
  have hg : m[k]? = some m[k] := List.getElem?_eq_getElem hl
  exact ⟨b, off, m[k], e, hb, hc k _ (by rw [sv, List.getElem?_map, hg]; rfl), hg, List.take_succ_eq_append_getElem hl⟩
end
def chv (c : Ch) : Value := .agg #[.int .i64 c.tbl, .int .i64 c.key, .bool c.gone, .string c.val]
def txv (lsn kind mark : Int) (A : Option Addr) (n c : Nat) (A' : Option Addr) (n' c' : Nat) : Value := .agg #[.int .i64 lsn, .int .i64 kind, .slice A n c, .slice A' n' c', .int .i64 mark]

theorem all_take {α : Type} {l : List α} {p : α → Bool} {n : Nat} (hl : l.length ≤ n) (h : ∀ f ∈ l.take n, p f = true) : l.all p = true := by
  rw [List.take_of_length_le hl] at h
  exact List.all_eq_true.2 h
theorem all_not {α : Type} {l : List α} {p : α → Bool} {k : Nat} {f : α} (hg : l[k]? = some f) (h : p f = false) : l.all p = false := by
  rw [Bool.eq_false_iff]
  intro h2
  rw [List.all_eq_true.1 h2 f (List.mem_of_getElem? hg)] at h
  cases h
theorem take_all {α : Type} {l : List α} {p : α → Bool} {k : Nat} {f : α} (h : ∀ x ∈ l.take k, p x = true) (e : l.take (k + 1) = l.take k ++ [f]) (hf : p f = true) : ∀ x ∈ l.take (k + 1), p x = true := by
  intro x hx
  rw [e] at hx
  rcases List.mem_append.1 hx with hx | hx
  · exact h x hx
  · rw [List.mem_singleton] at hx
    subst hx
    exact hf

end Go.Proofs.Ytlkjmdkmcaaihaa.Txn
