/-
  A map of cells by their keys (int64) in memory that reads as a table's cells: how it reads behind a put; what it holds at a key. No condition.
-/
import Derived.Test.YtlbgpfiiiggofaaCellMem
import Derived.Maps.OwnOps
import Derived.Maps.OwnSet
import Derived.Lib.SlKeysI
namespace Go.Proofs.Ytlbgpfiiiggofaa.Gd
set_option linter.unusedVariables false
set_option linter.unusedSimpArgs false
set_option maxRecDepth 100000
open Go.RowKit Base GuardMath
set_option linter.ambiguousOpen false

/-- how a cell reads -/
def datC (x : Ce) : DataW Unit := .agg [.lit (.int .i64 x.key), .lit (.int .i64 x.lsn), .lit (.bool x.gone), .lit (.string x.val.data.toList)]
def rdC (v : Value) : Option (DataW Unit × List MemPlace) :=
  match v with
  | .agg a => match a.toList with
    | [.int .i64 k, .int .i64 l, .bool g, .string s] => some (datC ⟨k, l, g, s⟩, [])
    | _ => none
  | _ => none
theorem rdC_mk (x : Ce) : rdC (cval x) = some (datC x, []) := rfl
theorem rdC_inv {v : Value} {y : DataW Unit × List MemPlace} (h : rdC v = some y) : ∃ c, v = cval c ∧ y = (datC c, []) := by
  unfold rdC at h
  split at h
  · rename_i a
    split at h
    · rename_i k l g s e
      injection h with h
      refine ⟨⟨k, l, g, s⟩, ?_, h.symm⟩
      obtain ⟨la⟩ := a
      dsimp only at e
      subst e
      rfl
    · cases h
  · cases h
theorem datC_inj {a b : Ce} (h : datC a = datC b) : a = b := by
  obtain ⟨k1, l1, g1, s1⟩ := a
  obtain ⟨k2, l2, g2, s2⟩ := b
  obtain ⟨⟨d1⟩⟩ := s1
  obtain ⟨⟨d2⟩⟩ := s2
  simp [datC] at h
  obtain ⟨rfl, rfl, rfl, rfl⟩ := h
  rfl
def cent (x : Ce) : Lit × DataW Unit := (.int .i64 x.key, datC x)
def cents (l : List Ce) : List (Lit × DataW Unit) := l.map cent
theorem cents_cons (x : Ce) (r : List Ce) : cents (x :: r) = cent x :: cents r := rfl
theorem cents_keys (l : List Ce) : intKeys (DataW.map (cents l)) = l.map (·.key) := by
  show (cents l).map _ = _
  rw [cents, List.map_map]
  rfl
theorem cents_size (l : List Ce) : Maps.size (DataW.map (cents l)) = l.length := List.length_map _
theorem same_cent (x : Ce) (k : Int) : (cent x).1.sameKey (.int .i64 k) = decide (x.key = k) := by simp [cent, Lit.sameKey]
theorem filter_chigh {r : List Ce} {k : Int} (h : ∀ z ∈ r, k < z.key) : (cents r).filter (fun p => !p.1.sameKey (.int .i64 k)) = cents r := by
  rw [List.filter_eq_self]
  intro p hp
  obtain ⟨z, hz, rfl⟩ := List.mem_map.1 hp
  have := h z hz
  rw [same_cent, decide_eq_false (by omega)]
  rfl
theorem cents_put {l : List Ce} (h : Rise l) (y : Ce) : (DataW.map (cents l)).put (.int .i64 y.key) (datC y) = .map (cents (ins l y)) := by
  show DataW.map (DataW.insert _ _) = _
  congr 1
  induction l with
  | nil => rfl
  | cons x r ih =>
    obtain ⟨hx, hr⟩ := List.pairwise_cons.1 h
    have hb : ∀ z : Ce, (Lit.int .i64 y.key).before (cent z).1 = decide (y.key < z.key) := fun z => rfl
    rw [cents_cons, List.filter_cons, same_cent]
    unfold ins
    by_cases h1 : x.key < y.key
    · rw [decide_eq_false (by omega), if_pos h1, cents_cons, ← ih hr]
      show DataW.insert _ (cent x :: _) = _
      rw [DataW.insert, if_neg (by rw [hb]; simp; omega)]
    · rw [if_neg h1]
      by_cases h2 : x.key = y.key
      · rw [decide_eq_true h2, if_pos h2]
        show DataW.insert _ ((cents r).filter _) = _
        rw [filter_chigh (fun z hz => by have := hx z hz; omega)]
        cases r with
        | nil => rfl
        | cons z s =>
          have := hx z List.mem_cons_self
          rw [cents_cons, DataW.insert, if_pos (by rw [hb]; simp; omega)]
          rfl
      · rw [decide_eq_false h2, if_neg h2]
        show DataW.insert _ (cent x :: _) = _
        rw [filter_chigh (fun z hz => by have := hx z hz; omega), DataW.insert, if_pos (by rw [hb]; simp; omega)]
        rfl
theorem cents_at {l : List Ce} (h : Rise l) (k : Int) (zd : DataW Unit) : (DataW.map (cents l)).atKey (.int .i64 k) zd = match at_ l k with | some c => datC c | none => zd := by
  unfold DataW.atKey
  dsimp only
  induction l with
  | nil => simp [cents, at_]
  | cons x r ih =>
    obtain ⟨hx, hr⟩ := List.pairwise_cons.1 h
    rw [cents_cons, List.find?_cons, same_cent]
    unfold at_
    by_cases h2 : x.key = k
    · rw [decide_eq_true h2, if_neg (by omega), if_pos h2]
      rfl
    · rw [decide_eq_false h2]
      by_cases h1 : x.key < k
      · rw [if_pos h1]
        exact ih hr
      · rw [if_neg h1, if_neg h2]
        have := ih hr
        rw [at_low (fun z hz => by have := hx z hz; omega)] at this
        exact this
theorem cents_has {l : List Ce} (h : Rise l) (k : Int) : Maps.has (DataW.map (cents l)) (.int .i64 k) = (at_ l k).isSome := by
  cases ha : at_ l k with
  | none => exact Maps.has_false_of_atKey (fun z => by rw [cents_at h, ha])
  | some c => exact Maps.has_true_of_atKey (y := datC c) (fun z => by rw [cents_at h, ha])
theorem at_mem {l : List Ce} {k : Int} {c : Ce} (h : at_ l k = some c) : c ∈ l ∧ c.key = k := by
  obtain ⟨_, h1, h2⟩ := pos_lt h
  exact ⟨List.mem_of_getElem? h1, h2⟩
/-- cells whose keys are those of l, each as l has it: l, in some order -/
theorem perm_cells {l ps : List Ce} (h : Rise l) (hk : (ps.map (·.key)).Perm (l.map (·.key))) (ha : ∀ p ∈ ps, at_ l p.key = some p) : ps.Perm l := by
  have key : ∀ m : List Ce, (∀ p ∈ m, at_ l p.key = some p) → (m.map (·.key)).filterMap (at_ l) = m := by
    intro m
    induction m with
    | nil => intro _; rfl
    | cons p m ih =>
      intro hm
      rw [List.map_cons, List.filterMap_cons, hm p List.mem_cons_self]
      exact congrArg _ (ih fun q hq => hm q (List.mem_cons_of_mem _ hq))
  have hl : ∀ p ∈ l, at_ l p.key = some p := by
    clear key ha hk
    induction l with
    | nil => intro p hp; cases hp
    | cons x r ih =>
      obtain ⟨hx, hr⟩ := List.pairwise_cons.1 h
      intro p hp
      unfold at_
      rcases List.mem_cons.1 hp with rfl | hp
      · rw [if_neg (by omega), if_pos rfl]
      · rw [if_pos (hx p hp)]
        exact ih hr p hp
  have := hk.filterMap (at_ l)
  rwa [key ps ha, key l hl] at this

def In64 (k : Int) : Prop := -9223372036854775808 ≤ k ∧ k ≤ 9223372036854775807
theorem In64.wf {k : Int} (h : In64 k) : (Lit.int .i64 k).wf = true := by
  simp only [Lit.wf, Bool.and_eq_true, decide_eq_true_eq]
  exact h
theorem key_of {k : Int} (h : In64 k) : keyOf Try.prog 2 (.int .i64 k) = some (.int .i64 k) := by
  have h1 := h.wf
  simp only [keyOf, Try.underlying2, mapKey]
  rw [if_pos (by simpa using h1)]
theorem int_law : Maps.Keyed Try.prog 2 := Maps.int_keyed Try.underlying2
/-- block b is a map, put into at most n times, which reads as the cells l -/
def MapAt (w : World) (b n : Nat) (l : List Ce) : Prop := w.ownsMap Try.prog 2 rdC b n (.map (cents l))
theorem MapAt.lt {w : World} {b n : Nat} {l : List Ce} (h : MapAt w b n l) : b < w.heap.size := World.ownsMap.lt h
theorem MapAt.same {w w' : World} {b n : Nat} {l : List Ce} (h : MapAt w b n l) (hk : w'.heap[b]? = w.heap[b]?) : MapAt w' b n l := by
  obtain ⟨es, clock, hb, r⟩ := h
  exact ⟨es, clock, hk.trans hb, r⟩
theorem MapAt.length {w : World} {b n : Nat} {l : List Ce} (h : MapAt w b n l) : l.length ≤ n := by
  have := World.ownsMap.size_le h
  rwa [cents_size] at this
/-- the cell at a key, as a look-up gives it -/
theorem MapAt.look {w : World} {b n : Nat} {l : List Ce} (h : MapAt w b n l) (hl : Rise l) {k : Int} (hk : In64 k) : (Instr.lookup 58 (.map (some b)) (.int .i64 k) true).run Try.prog w = .ok (.tuple #[cval ((at_ l k).getD noCe), .bool (at_ l k).isSome]) w := by
  have hz : (zeroValue 38).run Try.prog w = .ok (cval noCe) w := by kernel_rfl
  obtain ⟨x, ps, hrun, hx⟩ := World.ownsMap.look_ok h int_law Try.underlying58 hz (zd := datC noCe) (zp := []) rfl (key_of hk)
  rw [cents_has hl] at hrun
  rw [cents_at hl] at hx
  obtain ⟨c, rfl, he⟩ := rdC_inv hx
  rw [hrun]
  have : c = (at_ l k).getD noCe := by
    injection he with he _
    apply datC_inj
    rw [← he]
    cases at_ l k <;> rfl
  rw [this]
theorem MapAt.made {w : World} {s : Nat} (hs : s = w.heap.size) : MapAt (w.alloc (.map #[] 0)) s 0 [] := by subst hs; exact World.ownsMap_made _ _ _ _
end Go.Proofs.Ytlbgpfiiiggofaa.Gd
