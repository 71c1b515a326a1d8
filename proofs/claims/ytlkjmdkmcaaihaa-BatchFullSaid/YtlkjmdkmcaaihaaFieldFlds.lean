/-
  Fields in memory; contracts of the small functions on fields: which are right, how long one is, how one is made.
-/
import Derived.Test.YtlkjmdkmcaaihaaPlayMod
import Derived.Test.YtlkjmdkmcaaihaaFieldPuts
namespace Go.Proofs.Ytlkjmdkmcaaihaa.Field
set_option maxRecDepth 100000
open Go.RowKit Base FieldMath

def fcells (f : Fld) : List Value := [.int .i64 f.kind, .int .i64 f.n, .string f.s]
def fv (fs : List Fld) : List Value := fs.flatMap fcells
theorem fv_append (l m : List Fld) : fv (l ++ m) = fv l ++ fv m := List.flatMap_append
theorem fv_length (l : List Fld) : (fv l).length = l.length * 3 := by
  induction l with
  | nil => rfl
  | cons f l ih =>
    show (fcells f ++ fv l).length = _
    rw [List.length_append, ih, List.length_cons]
    show 3 + l.length * 3 = _
    omega
theorem fv_one (l : List Fld) : ∀ u ∈ fv l, u.oneCell' = true := by
  intro u hu
  obtain ⟨f, _, hf⟩ := List.mem_flatMap.1 hu
  simp only [fcells, List.mem_cons, List.not_mem_nil, or_false] at hf
  rcases hf with rfl | rfl | rfl <;> rfl
theorem fv_get (l : List Fld) (k : Nat) (f : Fld) (h : l[k]? = some f) (i : Nat) (hi : i < 3) : (fv l)[k * 3 + i]? = (fcells f)[i]? := by
  induction l generalizing k with
  | nil => simp at h
  | cons g l ih =>
    show (fcells g ++ fv l)[k * 3 + i]? = _
    cases k with
    | zero =>
      simp only [List.getElem?_cons_zero, Option.some.injEq] at h
      subst h
      rw [List.getElem?_append_left (by show 0 * 3 + i < 3; omega)]
      congr 1
      omega
    | succ k =>
      rw [List.getElem?_cons_succ] at h
      rw [List.getElem?_append_right (by show 3 ≤ (k + 1) * 3 + i; omega), ← ih k h]
      congr 1
      show (k + 1) * 3 + i - 3 = _
      omega
theorem fv_take (l : List Fld) (k : Nat) : (fv l).take (k * 3) = fv (l.take k) := by
  induction l generalizing k with
  | nil => simp [fv]
  | cons f l ih =>
    cases k with
    | zero => rfl
    | succ k =>
      rw [List.take_succ_cons]
      show (fcells f ++ fv l).take ((k + 1) * 3) = fcells f ++ fv (l.take k)
      rw [List.take_append, List.take_of_length_le (by show 3 ≤ _; omega), ← ih k]
      congr 2
      show (k + 1) * 3 - 3 = _
      omega

/-- a slice of fields that reads as the list fs, below block B -/
def Flds (w : World) (B : Nat) (A : Option Addr) (n c : Nat) (fs : List Fld) : Prop := Row w B 3 A n c (fv fs)
section
variable {w w' : World} {B B' n c : Nat} {A : Option Addr} {l : List Fld}
theorem Flds.len (h : Flds w B A n c l) : l.length = n := by have := h.1; rw [fv_length] at this; omega
theorem Flds.le (h : Flds w B A n c l) : n ≤ c ∧ c ≤ 9223372036854775807 := ⟨h.2.1, h.2.2.1⟩
theorem Flds.nil_ (w : World) (B : Nat) : Flds w B none 0 0 [] := Row.nil_ w B 3
theorem Flds.below (h : Flds w B A n c l) (hb : Below B w w') : Flds w' B A n c l := Row.below h hb
theorem Flds.more (h : Flds w B A n c l) (hB : B ≤ B') : Flds w B' A n c l := Row.more h hB
theorem Flds.alloc (h : Flds w B A n c l) (hB : B ≤ w.heap.size) (o : Obj) : Flds (w.alloc o) B A n c l := Row.alloc h hB o
theorem Flds.setCell (h : Flds w B A n c l) {p : Addr} (hB : B ≤ p.block) (u : Value) : Flds (w.setCell p u) B A n c l := Row.setCell h hB u
theorem Flds.of_own {base : Nat} {e : TypeId} (h : w.ownsRow base e 3 (.slice A n c) n (fv l)) : Flds w w.heap.size A n c l := Row.of_own h
theorem Flds.front (h : Flds w B A n c l) {k : Nat} (hk : k ≤ n) : Flds w B A k c (l.take k) := by
  have := Row.front h hk
  rw [fv_take] at this
  exact this
theorem Flds.at_ (h : Flds w B A n c l) {k : Nat} (hk : k < n) :
    ∃ b off f, A = some ⟨b, off, none⟩ ∧ b < B ∧ w.cell? ⟨b, off + k * 3, none⟩ = some (.int .i64 f.kind) ∧ w.cell? ⟨b, off + k * 3 + 1, none⟩ = some (.int .i64 f.n) ∧ w.cell? ⟨b, off + k * 3 + 2, none⟩ = some (.string f.s) ∧
      l[k]? = some f ∧ l.take (k + 1) = l.take k ++ [f] := by
  obtain ⟨b, off, e, hb, hc⟩ := h.2.2.2 (by omega)
  have hl : k < l.length := by rw [h.len]; exact hk
  have hg : l[k]? = some l[k] := List.getElem?_eq_getElem hl
  refine ⟨b, off, l[k], e, hb, ?_, ?_, ?_, hg, List.take_succ_eq_append_getElem hl⟩
  · exact hc (k * 3 + 0) _ (by rw [fv_get l k _ hg 0 (by omega)]; rfl)
  · exact hc (k * 3 + 1) _ (by rw [fv_get l k _ hg 1 (by omega)]; rfl)
  · exact hc (k * 3 + 2) _ (by rw [fv_get l k _ hg 2 (by omega)]; rfl)
end
theorem ef : Elem Try.prog 46 59 3 32 (.agg #[.int .i64 0, .int .i64 0, .string ⟨#[]⟩]) := Elem.of Try.underlying46 (by kernel_rfl) rfl (by omega)

/-- a field as a value -/
def fval (f : Fld) : Value := .agg #[.int .i64 f.kind, .int .i64 f.n, .string f.s]

theorem empty_iff (s : ByteArray) : s.toList.isEmpty = (s.size == 0) := by
  rw [ByteArray.toList_eq]
  obtain ⟨⟨l⟩⟩ := s
  cases l <;> rfl

theorem ret_bool {a b : Bool} (h : a = b) : Ending.returned (.bool a) = .returned (.bool b) := by rw [h]

set_option maxHeartbeats 400000 in
theorem right_any (k n : Int) (s : ByteArray) (w : World) :
    Calls Try.prog 52 #[.agg #[.int .i64 k, .int .i64 n, .string s]] w fun e w' => e = .returned (.bool (Fld.right ⟨k, n, s⟩)) ∧ Below w.heap.size w w' := by
  by_cases h1 : k = 1
  · subst h1
    go_enter Try.func52, Try.ntmps52
    go_wp2
    go_ret
    exact ⟨ret_bool (by simp [Fld.right, empty_iff]), (Below.refl _ _).alloc (Nat.le_refl _) _⟩
  · have h1' : (k == 1) = false := by simpa using h1
    by_cases h2 : k = 2
    · subst h2
      by_cases h3 : n = 0
      · subst h3
        go_enter Try.func52, Try.ntmps52
        go_wp2
        go_ret
        exact ⟨ret_bool (by simp [Fld.right]; omega), (Below.refl _ _).alloc (Nat.le_refl _) _⟩
      · have h3' : (n == 0) = false := by simpa using h3
        go_enter Try.func52, Try.ntmps52
        go_wp2
        go_ret
        exact ⟨ret_bool (by simp [Fld.right, h3']), (Below.refl _ _).alloc (Nat.le_refl _) _⟩
    · have h2' : (k == 2) = false := by simpa using h2
      go_enter Try.func52, Try.ntmps52
      go_wp2
      go_ret
      exact ⟨ret_bool (by simp [Fld.right, h1', h2']), (Below.refl _ _).alloc (Nat.le_refl _) _⟩

set_option maxHeartbeats 400000 in
theorem rightField_any (k n : Int) (s : ByteArray) (w : World) :
    Calls Try.prog 41 #[.agg #[.int .i64 k, .int .i64 n, .string s]] w fun e w' => e = .returned (.bool (Fld.right ⟨k, n, s⟩)) ∧ Below w.heap.size w w' := by
  by_cases h1 : k = 1
  · subst h1
    by_cases h4 : s.size = 0
    · have h4' : s.toList.isEmpty = true := by rw [empty_iff]; simpa using h4
      have H4 := Lib.hid h4
      clear h4
      go_enter Try.func41, Try.ntmps41
      go_wp2
      go_ret
      exact ⟨ret_bool (by simp [Fld.right, H4.out]), (Below.refl _ _).alloc (Nat.le_refl _) _⟩
    · have h4' : s.toList.isEmpty = false := by rw [empty_iff]; simpa using h4
      have H4 := Lib.hid h4
      clear h4
      go_enter Try.func41, Try.ntmps41
      go_wp2
      go_ret
      exact ⟨ret_bool (by simp [Fld.right, H4.out]), (Below.refl _ _).alloc (Nat.le_refl _) _⟩
  · have h1' : (k == 1) = false := by simpa using h1
    by_cases h2 : k = 2
    · subst h2
      by_cases h3 : n = 0
      · subst h3
        go_enter Try.func41, Try.ntmps41
        go_wp2
        go_ret
        exact ⟨ret_bool (by simp [Fld.right]; omega), (Below.refl _ _).alloc (Nat.le_refl _) _⟩
      · have h3' : (n == 0) = false := by simpa using h3
        go_enter Try.func41, Try.ntmps41
        go_wp2
        go_ret
        exact ⟨ret_bool (by simp [Fld.right, h3']), (Below.refl _ _).alloc (Nat.le_refl _) _⟩
    · have h2' : (k == 2) = false := by simpa using h2
      go_enter Try.func41, Try.ntmps41
      go_wp2
      go_ret
      exact ⟨ret_bool (by simp [Fld.right, h1', h2']), (Below.refl _ _).alloc (Nat.le_refl _) _⟩

/-- how many bytes a field that is right takes -/
def fsize (f : Fld) : Nat := if f.kind = 1 then 9 else 3 + f.s.size
theorem fsize_enc (f : Fld) : (encF f).length = fsize f := by
  unfold encF fsize
  split
  · rw [List.length_cons, big_length]
  · rw [List.length_cons, List.length_append, big_length, size_list]; omega

set_option maxHeartbeats 400000 in
theorem size_any (k n : Int) (s : ByteArray) (w : World) (hs : s.size ≤ 4096) :
    Calls Try.prog 53 #[.agg #[.int .i64 k, .int .i64 n, .string s]] w fun e w' => e = .returned (.int .i64 (fsize ⟨k, n, s⟩)) ∧ Below w.heap.size w w' := by
  by_cases h1 : k = 1
  · subst h1
    go_enter Try.func53, Try.ntmps53
    go_wp2
    go_ret
    exact ⟨rfl, (Below.refl _ _).alloc (Nat.le_refl _) _⟩
  · have h1' : (k == 1) = false := by simpa using h1
    go_enter Try.func53, Try.ntmps53
    go_wp2
    go_ret
    exact ⟨ret_int (by rw [fsize, if_neg h1]; simp), (Below.refl _ _).alloc (Nat.le_refl _) _⟩

theorem num_any (n : Int) (w : World) :
    Calls Try.prog 28 #[.int .i64 n] w fun e w' => e = .returned (.agg #[.int .i64 1, .int .i64 n, .string ⟨#[]⟩]) ∧ Below w.heap.size w w' := by
  go_enter Try.func28, Try.ntmps28
  go_wp2
  exact bodyPost_ret (v := .agg #[.int .i64 1, .int .i64 n, .string ⟨#[]⟩]) (by simp [results, Try.results28, go_sem]) rfl ⟨rfl, (Below.refl _ _).alloc (Nat.le_refl _) _⟩

theorem text_any (s : ByteArray) (w : World) :
    Calls Try.prog 59 #[.string s] w fun e w' => e = .returned (.agg #[.int .i64 2, .int .i64 0, .string s]) ∧ Below w.heap.size w w' := by
  go_enter Try.func59, Try.ntmps59
  go_wp2
  exact bodyPost_ret (v := .agg #[.int .i64 2, .int .i64 0, .string s]) (by simp [results, Try.results59, go_sem]) rfl ⟨rfl, (Below.refl _ _).alloc (Nat.le_refl _) _⟩
end Go.Proofs.Ytlkjmdkmcaaihaa.Field
