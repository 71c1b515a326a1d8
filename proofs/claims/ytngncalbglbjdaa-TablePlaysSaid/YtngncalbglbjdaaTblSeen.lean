/-
  Package table: the map of Fits (from places, structs of a table's number and a key, to bools), as a function of two numbers; look-up and store at the operation.
-/
import Derived.Test.YtngncalbglbjdaaTblHelp
import Derived.Maps.Views
import Derived.Maps.OwnOps
import Derived.DeepKeys4
namespace Go.Proofs.Ytngncalbglbjdaa.Tbl
set_option linter.unusedVariables false
set_option maxRecDepth 100000
open Go.RowKit Base
open Go.Maps (Keyed)
open Go.ChangeShapes Go.WideShapes
set_option linter.ambiguousOpen false
set_option linter.unusedSimpArgs false

def pk (a k : Int) : Value := .agg #[.int .i64 a, .int .i64 k]
theorem laidOutP : laidOutB Try.prog = true := by kernel_rfl
theorem rowP : (89 : TypeId) < Try.prog.types.size := of_decide_eq_true (by kernel_rfl)
theorem wideP : (match Try.prog.underlying 89 with | some (.array _ _) | some (.struct _) => true | _ => false) = true := by rw [Try.underlying89]
theorem lawP : Keyed Try.prog 89 := Keyed.of_law (deep_law_laid laidOutP (m := 2) (by omega) rowP (by kernel_rfl) wideP)
def In64 (k : Int) : Prop := -9223372036854775808 ≤ k ∧ k ≤ 9223372036854775807
theorem In64.wf {k : Int} (h : In64 k) : (Lit.int .i64 k).wf = true := by
  simp only [Lit.wf, Bool.and_eq_true, decide_eq_true_eq]
  exact h
theorem keyLits_pk (d : Nat) {a k : Int} (ha : In64 a) (hk : In64 k) : Try.prog.keyLits (d + 2) 89 [.int .i64 a, .int .i64 k] = some [.int .i64 a, .int .i64 k] := by
  have h1 := ha.wf
  have h2 := hk.wf
  have c1 : Try.prog.cellsOf 89 = 2 := by kernel_rfl
  have c2 : Try.prog.cellsOf 3 = 1 := by kernel_rfl
  have c3 : Try.prog.cellsOf 2 = 1 := by kernel_rfl
  simp [Program.keyLits, Try.underlying89, Try.underlying3, Try.underlying2, h1, h2, c1, c2, c3]
theorem key_pk {a k : Int} (ha : In64 a) (hk : In64 k) : ∃ kl, keyOf Try.prog 89 (pk a k) = some kl := by
  have h0 : Try.prog.keyType 89 = true := by kernel_rfl
  have h1 : (pk a k).formed Try.prog 89 = true := by
    have c1 : Try.prog.cellsOf 89 = 2 := by kernel_rfl
    simp [pk, Value.formed, Try.underlying89, c1]
  have hsz : 0 < Try.prog.types.size := Nat.lt_of_le_of_lt (Nat.zero_le _) rowP
  obtain ⟨d, hd⟩ : ∃ d, Try.prog.types.size + 1 = d + 2 := ⟨Try.prog.types.size - 1, by omega⟩
  unfold keyOf
  rw [Try.underlying89]
  dsimp only
  rw [if_pos (by rw [h0, h1]; rfl), hd]
  have e : (pk a k).cells.toList = [.int .i64 a, .int .i64 k] := by simp [pk, Value.cells]
  rw [e, keyLits_pk d ha hk]
  exact ⟨_, rfl⟩
/-- what a place is looked up as -/
def Look (D : DataW Unit) (f : Int → Int → Option Bool) : Prop :=
  ∀ a k kl, keyOf Try.prog 89 (pk a k) = some kl → (∀ v, f a k = some v → ∀ zd, D.atKey kl zd = .lit (.bool v)) ∧ (f a k = none → ∀ zd, D.atKey kl zd = zd)
/-- block b is the map of at most n places, f says what is at each -/
def Seen (w : World) (b n : Nat) (f : Int → Int → Option Bool) : Prop := ∃ D : DataW Unit, w.ownsMap Try.prog 89 (plainElem Try.prog 4) b n D ∧ Maps.IsMap D ∧ Look D f
theorem Seen.made (w : World) : Seen (w.alloc (.map #[] 0)) w.heap.size 0 (fun _ _ => none) :=
  ⟨.map [], World.ownsMap_made _ _ _ _, ⟨_, rfl⟩, fun a k kl h => ⟨fun v hv => (by cases hv), fun _ zd => by simp [DataW.atKey]⟩⟩
section
variable {w w' : World} {b n : Nat} {f : Int → Int → Option Bool}
theorem Seen.lt (h : Seen w b n f) : b < w.heap.size := by obtain ⟨D, h1, _⟩ := h; exact h1.lt
theorem Seen.kept {row : Option Nat} (h : Seen w b n f) (hg : w.grownBy w' row) (hne : some b ≠ row) : Seen w' b n f := by obtain ⟨D, h1, h2⟩ := h; exact ⟨D, h1.kept hg hne, h2⟩
theorem Seen.alloc (h : Seen w b n f) (o : Obj) : Seen (w.alloc o) b n f := by obtain ⟨D, h1, h2⟩ := h; exact ⟨D, h1.alloc o, h2⟩
theorem Seen.same (h : Seen w b n f) (hk : w'.heap[b]? = w.heap[b]?) : Seen w' b n f := by
  obtain ⟨D, ⟨es, clock, hb, r⟩, h2⟩ := h
  exact ⟨D, ⟨es, clock, hk.trans hb, r⟩, h2⟩
end
def putF (f : Int → Int → Option Bool) (a k : Int) (v : Bool) (x y : Int) : Option Bool := if x = a ∧ y = k then some v else f x y
theorem bool_inv {v : Value} {z : DataW Unit × List MemPlace} (h : plainElem Try.prog 4 v = some z) : ∃ x, v = .bool x ∧ z = (.lit (.bool x), []) := by
  unfold plainElem at h
  rw [Try.underlying4] at h
  split at h
  · injection h with h; exact ⟨_, rfl, h.symm⟩
  · rename_i h1; cases h1
  · rename_i h1; cases h1
  · cases h
theorem Seen.look {w : World} {b n : Nat} {f : Int → Int → Option Bool} (h : Seen w b n f) {a k : Int} (ha : In64 a) (hk : In64 k) :
    (Instr.lookup 87 (.map (some b)) (pk a k) true).run Try.prog w = .ok (.tuple #[.bool ((f a k).getD false), .bool (f a k).isSome]) w := by
  obtain ⟨D, ⟨es, clock, hb, F, _, rfl⟩, hm, hl⟩ := h
  obtain ⟨kl, hkey⟩ := key_pk ha hk
  have hz : (zeroValue 4).run Try.prog w = .ok (.bool false) w := by kernel_rfl
  obtain ⟨l1, l2⟩ := hl a k kl hkey
  rcases Maps.fit_look true lawP Try.underlying87 hz hb F hkey with ⟨hrun, _, hat⟩ | ⟨e0, y, _, _, hrun, hRv, hat, _⟩
  · cases hf : f a k with
    | none => exact hrun
    | some v =>
      have h1 := l1 v hf (.lit (.bool (!v)))
      rw [hat] at h1
      cases v <;> simp at h1
  · obtain ⟨x, hx, rfl⟩ := bool_inv hRv
    cases hf : f a k with
    | none =>
      have h1 := l2 hf (.lit (.bool (!x)))
      rw [hat] at h1
      cases x <;> simp at h1
    | some v =>
      have h1 := l1 v hf (.lit (.bool v))
      rw [hat] at h1
      simp at h1
      subst h1
      rw [hx] at hrun
      exact hrun
theorem Seen.put {w : World} {b n : Nat} {f : Int → Int → Option Bool} (h : Seen w b n f) (hn : n < 9223372036854775807) {a k : Int} (ha : In64 a) (hk : In64 k) (v : Bool) :
    ∃ w', (Instr.mapUpdate 87 (.map (some b)) (pk a k) (.bool v)).run Try.prog w = .ok () w' ∧ Seen w' b (n + 1) (putF f a k v) ∧ w.grownBy w' (some b) := by
  obtain ⟨D, hown, hm, hl⟩ := h
  obtain ⟨kl, hkey⟩ := key_pk ha hk
  obtain ⟨w', hrun, r1, r2⟩ := hown.update lawP Try.underlying87 (by unfold maxLen; omega) hkey (plainElem_bool Try.underlying4 v)
  refine ⟨w', hrun, ⟨_, r1, (by obtain ⟨es, rfl⟩ := hm; exact ⟨_, rfl⟩), fun x y kl' hkey' => ?_⟩, r2⟩
  unfold putF
  by_cases hxy : x = a ∧ y = k
  · rw [if_pos hxy]
    obtain ⟨rfl, rfl⟩ := hxy
    rw [hkey] at hkey'
    injection hkey' with hkey'
    subst hkey'
    exact ⟨fun v' hv' zd => by injection hv' with hv'; subst hv'; exact Maps.atKey_put_same hm (lawP.key hkey) _ _, fun h => by cases h⟩
  · rw [if_neg hxy]
    have hne : kl' ≠ kl := by
      rintro rfl
      have := lawP.inj hkey hkey'
      simp [pk] at this
      exact hxy ⟨this.1.symm, this.2.symm⟩
    obtain ⟨l1, l2⟩ := hl x y kl' hkey'
    exact ⟨fun v' hv' zd => by rw [Maps.atKey_put_other hne]; exact l1 v' hv' zd, fun hf zd => by rw [Maps.atKey_put_other hne]; exact l2 hf zd⟩
end Go.Proofs.Ytngncalbglbjdaa.Tbl
