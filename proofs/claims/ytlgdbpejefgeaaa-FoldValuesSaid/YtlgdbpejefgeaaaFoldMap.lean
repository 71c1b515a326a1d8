/-
  A map of texts by numbers (int64) in memory that reads as a table's rows: how it reads behind a put, a delete; its keys.
-/
import Derived.Test.YtlgdbpejefgeaaaRowMem
import Derived.Test.YtlgdbpejefgeaaaFoldMath
import Derived.Maps.OwnOps
import Derived.Lib.SlKeysI
namespace Go.Proofs.Ytlgdbpejefgeaaa.Fold
set_option linter.unusedVariables false
set_option linter.unusedSimpArgs false
open Go.RowKit Base IdxMath
set_option linter.ambiguousOpen false

/-- how a text reads -/
def rdS (v : Value) : Option (DataW Unit × List MemPlace) :=
  match v with
  | .string s => some (.lit (.string s.data.toList), [])
  | _ => none
def ent (x : Rw) : Lit × DataW Unit := (.int .i64 x.key, .lit (.string x.val.data.toList))
def ents (l : List Rw) : List (Lit × DataW Unit) := l.map ent
theorem ents_cons (x : Rw) (r : List Rw) : ents (x :: r) = ent x :: ents r := rfl
theorem ents_keys (l : List Rw) : intKeys (DataW.map (ents l)) = l.map (·.key) := by
  show (ents l).map _ = _
  rw [ents, List.map_map]
  rfl
theorem ents_size (l : List Rw) : Maps.size (DataW.map (ents l)) = l.length := List.length_map _
theorem same_ent (x : Rw) (k : Int) : (ent x).1.sameKey (.int .i64 k) = decide (x.key = k) := by simp [ent, Lit.sameKey]
theorem filter_high {r : List Rw} {k : Int} (h : ∀ z ∈ r, k < z.key) : (ents r).filter (fun p => !p.1.sameKey (.int .i64 k)) = ents r := by
  rw [List.filter_eq_self]
  intro p hp
  obtain ⟨z, hz, rfl⟩ := List.mem_map.1 hp
  have := h z hz
  rw [same_ent, decide_eq_false (by omega)]
  rfl
theorem ents_put {l : List Rw} (h : Rise l) (k : Int) (v : ByteArray) : (DataW.map (ents l)).put (.int .i64 k) (.lit (.string v.data.toList)) = .map (ents (put l k v)) := by
  show DataW.map (DataW.insert _ _) = _
  congr 1
  induction l with
  | nil => rfl
  | cons x r ih =>
    have hr : Rise r := List.Pairwise.of_cons h
    have hx := fun z hz => List.rel_of_pairwise_cons h (a' := z) hz
    have hb : ∀ y : Rw, (Lit.int .i64 k).before (ent y).1 = decide (k < y.key) := fun y => rfl
    rw [ents_cons, List.filter_cons, same_ent]
    unfold put
    by_cases h1 : x.key < k
    · rw [decide_eq_false (by omega), if_pos h1, ents_cons, ← ih hr]
      show DataW.insert _ (ent x :: _) = _
      rw [DataW.insert, if_neg (by rw [hb]; simp; omega)]
    · rw [if_neg h1]
      by_cases h2 : x.key = k
      · rw [decide_eq_true h2, if_pos h2]
        show DataW.insert _ ((ents r).filter _) = _
        rw [filter_high (fun z hz => by have := hx z hz; omega)]
        cases r with
        | nil => rfl
        | cons y s =>
          have := hx y List.mem_cons_self
          rw [ents_cons, DataW.insert, if_pos (by rw [hb]; simp; omega)]
          rfl
      · rw [decide_eq_false h2, if_neg h2]
        show DataW.insert _ (ent x :: _) = _
        rw [filter_high (fun z hz => by have := hx z hz; omega), DataW.insert, if_pos (by rw [hb]; simp; omega)]
        rfl
theorem ents_del {l : List Rw} (h : Rise l) (k : Int) : (DataW.map (ents l)).del (.int .i64 k) = .map (ents (del l k)) := by
  show DataW.map _ = _
  congr 1
  rw [del_find h]
  induction l with
  | nil => rfl
  | cons x r ih =>
    have hr : Rise r := List.Pairwise.of_cons h
    have hx := fun z hz => List.rel_of_pairwise_cons h (a' := z) hz
    rw [ents_cons, List.filter_cons, same_ent]
    by_cases h2 : x.key = k
    · rw [decide_eq_true h2, List.eraseP_cons_of_pos (by simpa using h2)]
      show (ents r).filter _ = _
      exact filter_high (fun z hz => by have := hx z hz; omega)
    · rw [decide_eq_false h2, List.eraseP_cons_of_neg (by simpa using h2), ents_cons, ← ih hr]
      rfl
theorem ents_at (l : List Rw) (k : Int) (zd : DataW Unit) : (DataW.map (ents l)).atKey (.int .i64 k) zd = match get l k with | some v => .lit (.string v.data.toList) | none => zd := by
  unfold DataW.atKey
  dsimp only
  induction l with
  | nil => simp [ents, IdxMath.get]
  | cons x r ih =>
    rw [ents_cons, List.find?_cons, same_ent, get_cons]
    by_cases h2 : x.key = k
    · rw [decide_eq_true h2, if_pos h2]
      rfl
    · rw [decide_eq_false h2, if_neg h2]
      exact ih

def In64 (k : Int) : Prop := -9223372036854775808 ≤ k ∧ k ≤ 9223372036854775807
theorem In64.wf {k : Int} (h : In64 k) : (Lit.int .i64 k).wf = true := by
  simp only [Lit.wf, Bool.and_eq_true, decide_eq_true_eq]
  exact h
theorem key_of {k : Int} (h : In64 k) : keyOf Try.prog 2 (.int .i64 k) = some (.int .i64 k) := by
  have h1 := h.wf
  simp only [keyOf, Try.underlying2, mapKey]
  rw [if_pos (by simpa using h1)]
/-- block b is a map of at most n entries, which reads as the rows l -/
def MapAt (w : World) (b n : Nat) (l : List Rw) : Prop := w.ownsMap Try.prog 2 rdS b n (.map (ents l))
theorem MapAt.lt {w : World} {b n : Nat} {l : List Rw} (h : MapAt w b n l) : b < w.heap.size := World.ownsMap.lt h
theorem MapAt.same {w w' : World} {b n : Nat} {l : List Rw} (h : MapAt w b n l) (hk : w'.heap[b]? = w.heap[b]?) : MapAt w' b n l := by
  obtain ⟨es, clock, hb, r⟩ := h
  exact ⟨es, clock, hk.trans hb, r⟩
/-- the text at a key, as a look-up gives it -/
theorem MapAt.look {w : World} {b n : Nat} {l : List Rw} (h : MapAt w b n l) {k : Int} (hk : In64 k) {v : ByteArray} (hv : get l k = some v) : (Instr.lookup 81 (.map (some b)) (.int .i64 k) false).run Try.prog w = .ok (.string v) w := by
  have hz : (zeroValue 9).run Try.prog w = .ok (.string ⟨#[]⟩) w := by kernel_rfl
  obtain ⟨x, ps, hrun, hx⟩ := World.ownsMap.lookup h (Maps.int_keyed Try.underlying2) Try.underlying81 hz (zd := .lit (.string [])) (zp := []) rfl (key_of hk)
  rw [ents_at, hv] at hx
  cases x <;> simp [rdS] at hx
  rename_i s
  rw [hrun]
  obtain rfl : s = v := by
    obtain ⟨ds⟩ := s
    obtain ⟨dv⟩ := v
    have := hx.1
    congr 1
  rfl
theorem MapAt.made {w : World} {s : Nat} (hs : s = w.heap.size) : MapAt (w.alloc (.map #[] 0)) s 0 [] := by subst hs; exact World.ownsMap_made _ _ _ _
end Go.Proofs.Ytlgdbpejefgeaaa.Fold
