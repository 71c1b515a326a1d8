/-
  Package guard: a replica in memory; contracts of cell, put and has of its tables. No condition but the sizes said.
-/
import Derived.Test.YtlbgpfiiiggofaaGdMap
import Derived.Test.YtlbgpfiiiggofaaOpMem
import Derived.Test.YtlbgpfiiiggofaaRegionLast
import Derived.Test.YtlbgpfiiiggofaaTurn
import Derived.StillTailTactics
namespace Go.Proofs.Ytlbgpfiiiggofaa.Gd
set_option linter.unusedVariables false
set_option linter.unusedSimpArgs false
set_option maxRecDepth 100000
open Go.RowKit Base GuardMath Foot
open Last (wp_region_last_at then_normal)
set_option linter.ambiguousOpen false

/-! ### plain -/
theorem do1_idle {T : List (List Ce)} {o : Gp} (h : plays T o = false) : do1 T o = T := by
  unfold plays at h
  unfold do1
  by_cases hi : isT T o.tbl = true
  · rw [if_pos hi]
    rw [hi, Bool.true_and] at h
    have hh : held (tab T o.tbl) o = true := by simpa using h
    have hp : put (tab T o.tbl) o = tab T o.tbl := by unfold put; rw [if_pos hh]
    rw [hp]
    obtain ⟨i, e, hl⟩ := isT_nat hi
    rw [e, Int.toNat_natCast, tab_get (List.getElem?_eq_getElem hl)]
    exact List.set_getElem_self hl
  · rw [if_neg hi]

/-! ### a replica in memory: block g is its row of tables, block g + 1 the struct, block g + 2 + i the i-th table's map -/
structure GAt (w : World) (g n M : Nat) (T : List (List Ce)) : Prop where
  box : Blk w (g + 1) 56 #[.slice (some ⟨g, 0, none⟩) n n]
  row : ∃ arr : Array Value, Blk w g 58 arr ∧ arr.size = n ∧ ∀ i, i < n → arr[i]? = some (.map (some (g + 2 + i)))
  len : T.length = n
  each : ∀ i : Nat, i < n → MapAt w (g + 2 + i) M (tab T (i : Int))
  rise : Rises T
/-- the blocks that are its own -/
def Own (g n : Nat) (i : Nat) : Prop := g ≤ i ∧ i < g + 2 + n
section
variable {w w' : World} {g n M : Nat} {T : List (List Ce)}
theorem GAt.keep (h : GAt w g n M T) (hk : ∀ i, i < w.heap.size → Own g n i → w'.heap[i]? = w.heap[i]?) : GAt w' g n M T := by
  obtain ⟨h1, ⟨arr, hb, hz, ha⟩, hl, he, hr⟩ := h
  refine ⟨(hk (g + 1) h1.lt ⟨by omega, by omega⟩).trans h1, ⟨arr, (hk g hb.lt ⟨Nat.le_refl _, by omega⟩).trans hb, hz, ha⟩, hl, fun i hi => ?_, hr⟩
  have := he i hi
  exact this.same (hk _ this.lt ⟨by omega, by omega⟩)
theorem GAt.new (h : GAt w g n M T) (hb : Below w.heap.size w w') : GAt w' g n M T := h.keep fun i hi _ => hb.block i hi
theorem GAt.apart (h : GAt w g n M T) {F : Nat → Prop} (ht : Turn F w w') (hF : ∀ i, F i → ¬ Own g n i) : GAt w' g n M T := h.keep fun i hi ho => ht.block i hi fun hf => hF i hf ho
theorem GAt.cell (h : GAt w g n M T) {i : Nat} (hi : i < n) : w.cell? ⟨g, i, none⟩ = some (.map (some (g + 2 + i))) := by
  obtain ⟨arr, hb, hz, ha⟩ := h.row
  rw [hb.cell, ha i hi]
theorem GAt.mono (h : GAt w g n M T) {M' : Nat} (hM : M ≤ M') : GAt w g n M' T := ⟨h.box, h.row, h.len, fun i hi => World.ownsMap.mono (h.each i hi) hM, h.rise⟩
theorem GAt.lt (h : GAt w g n M T) (hn : 0 < n) : g + 2 + n ≤ w.heap.size := by
  have := (h.each (n - 1) (by omega)).lt
  omega
theorem GAt.isT (h : GAt w g n M T) (t : Int) : GuardMath.isT T t = decide (0 ≤ t ∧ t < (n : Int)) := by unfold GuardMath.isT; rw [h.len]
/-- the i-th table is put into -/
theorem GAt.one (h : GAt w g n M T) {o : Gp} {i : Nat} (hi : i < n) (ho : o.tbl = (i : Int)) (hm : MapAt w' (g + 2 + i) (M + 1) (put (tab T (i : Int)) o)) (hg : w.grownBy w' (some (g + 2 + i))) : GAt w' g n (M + 1) (do1 T o) := by
  obtain ⟨h1, ⟨arr, hb, hz, ha⟩, hl, he, hr⟩ := h
  refine ⟨h1.grown hg (by simp; omega), ⟨arr, hb.grown hg (by simp; omega), hz, ha⟩, by rw [do1_length, hl], fun j hj => ?_, rises_do1 hr o⟩
  have hti : GuardMath.isT T o.tbl = true := by rw [ho]; exact isT_mk (by omega)
  rw [tab_do1]
  by_cases hji : j = i
  · subst hji
    rw [if_pos ⟨hti, ho.symm⟩, ho]
    exact hm
  · rw [if_neg (by rintro ⟨_, h2⟩; omega)]
    exact World.ownsMap.mono (World.ownsMap.kept (he j hj) hg (by simp; omega)) (Nat.le_succ _)
end

/-! ### cell, put of one table -/
theorem mkcell_any (o : Gp) (w : World) : Calls Try.prog 31 #[oval o] w fun e w' => e = .returned (cval (mk o)) ∧ Below w.heap.size w w' := by
  obtain ⟨o0, o1, o2, o3, o4⟩ := o
  unfold oval
  dsimp only
  cases o3 with
  | true =>
    go_enter Try.func31, Try.ntmps31
    go_wp2_with fail
    refine bodyPost_ret (v := .agg #[.int .i64 o2, .int .i64 o0, .bool true, .string ⟨#[]⟩]) (by simp [results, Try.results31, go_sem]) rfl ?_
    exact ⟨rfl, ((Below.refl _ _).alloc (Nat.le_refl _) _).alloc (by simp) _⟩
  | false =>
    go_enter Try.func31, Try.ntmps31
    go_wp2_with fail
    refine bodyPost_ret (v := .agg #[.int .i64 o2, .int .i64 o0, .bool false, .string o4]) (by simp [results, Try.results31, go_sem]) rfl ?_
    exact ⟨rfl, ((Below.refl _ _).alloc (Nat.le_refl _) _).alloc (by simp) _⟩
theorem has_any (A : Option Addr) (n c : Nat) (t : Int) (w : World) : Calls Try.prog 28 #[.slice A n c, .int .i64 t] w fun e w' => e = .returned (.bool (decide (0 ≤ t ∧ t < (n : Int)))) ∧ w = w' := by
  rcases Int.lt_or_le t 0 with h1 | h1
  · have HE := Lib.hid (show decide (0 ≤ t ∧ t < (n : Int)) = false from decide_eq_false (by omega))
    have l1 : decide (0 ≤ t) = false := decide_eq_false (by omega)
    go_enter Try.func28, Try.ntmps28
    go_wp2
    go_ret
    rw [HE.out]
    exact ⟨rfl, rfl⟩
  · rcases Int.lt_or_le t (n : Int) with h2 | h2
    · have HE := Lib.hid (show decide (0 ≤ t ∧ t < (n : Int)) = true from decide_eq_true (by omega))
      have l2 : decide (t < (n : Int)) = true := decide_eq_true h2
      go_enter Try.func28, Try.ntmps28
      go_wp2
      go_ret
      rw [HE.out]
      exact ⟨by simp [l2], rfl⟩
    · have HE := Lib.hid (show decide (0 ≤ t ∧ t < (n : Int)) = false from decide_eq_false (by omega))
      have l2 : decide (t < (n : Int)) = false := decide_eq_false (by omega)
      go_enter Try.func28, Try.ntmps28
      go_wp2
      go_ret
      rw [HE.out]
      exact ⟨by simp [l2], rfl⟩
end Go.Proofs.Ytlbgpfiiiggofaa.Gd
