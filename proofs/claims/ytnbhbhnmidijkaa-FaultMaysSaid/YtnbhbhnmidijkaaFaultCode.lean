/-
  Contracts of package fault's May, New, Len, of the document's MayFault and of play.Fault. No condition.
-/
import Derived.Test.YtnbhbhnmidijkaaFaultMem
import Derived.Test.YtnbhbhnmidijkaaPlayMod
import Derived.Test.YtnbhbhnmidijkaaQue
import Derived.Test.YtnbhbhnmidijkaaGrow
import Derived.StillTailTactics
import Derived.BigQuiet
namespace Go.Proofs.Ytnbhbhnmidijkaa.Flt
set_option linter.unusedVariables false
set_option maxRecDepth 100000
open Go.RowKit Base FaultMath Foot
open Go.Proofs.Ytnbhbhnmidijkaa.Field (modZ modZ_lt mod_any)
set_option linter.ambiguousOpen false
set_option linter.unusedSimpArgs false

theorem may_mk {a b : Int} {v : Bool} (h : v = may ⟨a, b⟩) : Ending.returned (.bool v) = .returned (.bool (may ⟨a, b⟩)) := by rw [h]
set_option maxHeartbeats 800000 in
theorem may_any (a b : Int) (w : World) : Calls Try.prog 8 #[.agg #[.int .i64 a, .int .i64 b]] w fun e w' => e = .returned (.bool (may ⟨a, b⟩)) ∧ Gr w w' := by
  have HG : Hid (Gr w (w.alloc (.cells #[.int .i64 a, .int .i64 b] 23))) := (Gr.refl w).alloc _
  go_enter Try.func8, Try.ntmps8
  by_cases h1 : a = 1
  · subst h1
    go_wp2
    go_ret
    exact ⟨may_mk (by first | (simp [may]; done) | (simp [may]; rfl)), HG.out⟩
  · have e1 : (a == 1) = false := by simpa using h1
    by_cases h3 : a = 3
    · subst h3
      go_wp2
      go_ret
      exact ⟨may_mk (by first | (simp [may]; done) | (simp [may]; rfl)), HG.out⟩
    · have e3 : (a == 3) = false := by simpa using h3
      by_cases h2 : a = 2
      · subst h2
        go_wp2
        go_ret
        exact ⟨may_mk (by first | (simp [may]; done) | (simp [may]; rfl)), HG.out⟩
      · have e2 : (a == 2) = false := by simpa using h2
        go_wp2
        go_ret
        exact ⟨may_mk (by simp [may, h1, h2, h3]), HG.out⟩
set_option maxHeartbeats 800000 in
theorem refmay_any (a b : Int) (w : World) : Calls Try.prog 9 #[.agg #[.int .i64 a, .int .i64 b]] w fun e w' => e = .returned (.bool (may ⟨a, b⟩)) ∧ Gr w w' := by
  have HG : Hid (Gr w (w.alloc (.cells #[.int .i64 a, .int .i64 b] 23))) := (Gr.refl w).alloc _
  go_enter Try.func9, Try.ntmps9
  by_cases h1 : a = 1
  · subst h1
    by_cases hb : b = 0
    · subst hb
      go_wp2
      go_ret
      exact ⟨may_mk (by first | (simp [may]; done) | (simp [may]; rfl)), HG.out⟩
    · have eb : (b == 0) = false := by simpa using hb
      go_wp2
      go_ret
      exact ⟨may_mk (by simp [may, hb]), HG.out⟩
  · have e1 : (a == 1) = false := by simpa using h1
    by_cases h3 : a = 3
    · subst h3
      by_cases hb : b = 0
      · subst hb
        go_wp2
        go_ret
        exact ⟨may_mk (by first | (simp [may]; done) | (simp [may]; rfl)), HG.out⟩
      · have eb : (b == 0) = false := by simpa using hb
        go_wp2
        go_ret
        exact ⟨may_mk (by simp [may, hb]), HG.out⟩
    · have e3 : (a == 3) = false := by simpa using h3
      by_cases h2 : a = 2
      · subst h2
        go_wp2
        go_ret
        exact ⟨may_mk (by first | (simp [may]; done) | (simp [may]; rfl)), HG.out⟩
      · have e2 : (a == 2) = false := by simpa using h2
        go_wp2
        go_ret
        exact ⟨may_mk (by simp [may, h1, h2, h3]), HG.out⟩

/-! ### a plan in memory -/
/-- a plan with the faults l, the next one first; its blocks are of F -/
def PlanAt (F : Nat → Prop) (w : World) (g : Nat) (l : List Ft) : Prop := F g ∧ l.length ≤ 1024 ∧ ∃ A n c, Blk w g 44 #[.slice A n c] ∧ Que w F 23 2 A n c (fv l)
section
variable {F F' : Nat → Prop} {w w' : World} {g : Nat} {l : List Ft}
theorem PlanAt.same (h : PlanAt F w g l) (hz : ∀ i, F i → i < w.heap.size → w'.heap[i]? = w.heap[i]?) : PlanAt F w' g l := by
  obtain ⟨h1, h2, A, n, c, hb, hq⟩ := h
  refine ⟨h1, h2, A, n, c, (hz g h1 hb.lt).trans hb, hq.same fun k hk => ?_⟩
  obtain ⟨hF, cur, hc⟩ := hq.blk hk
  exact hz k hF (Blk.lt (w := w) hc)
theorem PlanAt.below (h : PlanAt F w g l) (hb : Below w.heap.size w w') : PlanAt F w' g l := h.same fun i _ hi => hb.block i hi
theorem PlanAt.mono (h : PlanAt F w g l) (hF : ∀ i, F i → F' i) : PlanAt F' w g l := by
  obtain ⟨h1, h2, A, n, c, hb, hq⟩ := h
  exact ⟨hF g h1, h2, A, n, c, hb, hq.mono hF⟩
theorem PlanAt.at_ (h : PlanAt F w g l) : ∃ A c, l.length ≤ c ∧ c ≤ 9223372036854775807 ∧ Blk w g 44 #[.slice A l.length c] ∧ Que w F 23 2 A l.length c (fv l) := by
  obtain ⟨h1, h2, A, n, c, hb, hq⟩ := h
  have hn : n = l.length := by have := hq.1; rw [fv_length] at this; omega
  subst hn
  exact ⟨A, c, hq.le.1, hq.le.2, hb, hq⟩
end
theorem plan_new (w : World) : PlanAt (Out (fun _ => False) w (w.alloc (.cells #[.slice none 0 0] 44))) (w.alloc (.cells #[.slice none 0 0] 44)) w.heap.size [] :=
  ⟨.inr ⟨Nat.le_refl _, by simp⟩, by simp, none, 0, 0, Blk.new _ _ _, Que.nil_ _ _ _ _⟩
set_option maxHeartbeats 400000 in
theorem new_any (w : World) : Calls Try.prog 10 #[] w fun e w' => e = .returned (.pointer (some ⟨w.heap.size, 0, none⟩)) ∧ w' = w.alloc (.cells #[.slice none 0 0] 44) := by
  go_enter Try.func10, Try.ntmps10
  go_wp2
  go_ret
  exact ⟨rfl, rfl⟩
set_option maxHeartbeats 400000 in
theorem len_any (F : Nat → Prop) (g : Nat) (l : List Ft) (w : World) (h : PlanAt F w g l) : Calls Try.prog 14 #[.pointer (some ⟨g, 0, none⟩)] w fun e w' => e = .returned (.int .i64 l.length) ∧ w = w' := by
  obtain ⟨A, c, h1, h2, hb, hq⟩ := h.at_
  have c0 : w.cell? ⟨g, 0, none⟩ = some (.slice A l.length c) := hb.cell 0
  clear h hb hq
  go_enter Try.func14, Try.ntmps14
  go_wp2
  go_ret
  exact ⟨rfl, rfl⟩

/-! ### play.Fault -/
def small (a b : Int) : Ft := if modZ a 3 = 1 then ⟨2, modZ b 300⟩ else ⟨1 + (modZ a 3 : Int), 0⟩
theorem small_two {a b : Int} (h : modZ a 3 = 1) : small a b = ⟨2, modZ b 300⟩ := if_pos h
theorem small_else {a b : Int} (h : modZ a 3 ≠ 1) : small a b = ⟨1 + (modZ a 3 : Int), 0⟩ := if_neg h
set_option maxHeartbeats 800000 in
theorem playfault_any (a b : Int) (w : World) : Calls Try.prog 11 #[.agg #[.int .i64 a, .int .i64 b]] w fun e w' => e = .returned (fval (small a b)) ∧ Below w.heap.size w w' := by
  have HM := Lib.hid (fun w => mod_any a 3 w (by omega) (by omega))
  have hm := modZ_lt a (n := 3) (by omega)
  have HK := Lib.hid (fun w => mod_any b 300 w (by omega) (by omega))
  have HS2 := Lib.hid (small_two (a := a) (b := b))
  have HS := Lib.hid (small_else (a := a) (b := b))
  generalize small a b = s at HS2 HS
  generalize modZ a 3 = m at HM hm HS2 HS
  generalize modZ b 300 = k at HK HS2
  have HG : Hid (Below w.heap.size w ((w.alloc (.cells #[.int .i64 a, .int .i64 b] 23)).alloc (.cells #[.int .i64 0, .int .i64 0] 23))) := ((Below.refl _ _).alloc (Nat.le_refl _) _).alloc (by simp) _
  go_enter Try.func11, Try.ntmps11
  go_wp2_with fail
  refine (HM.out _).mono ?_
  rintro e w1 ⟨rfl, rfl⟩
  have W1 : IntKind.i64.wrap (1 + (m : Int)) = 1 + (m : Int) := IntWalk.i64_in _ (by omega)
  by_cases h1 : m = 1
  · subst h1
    go_wp2_with fail
    refine (HK.out _).mono ?_
    rintro e w1 ⟨rfl, rfl⟩
    go_wp2
    refine bodyPost_ret (v := .agg #[.int .i64 2, .int .i64 k]) (by simp [results, Try.results11, go_sem]) rfl ?_
    exact ⟨by rw [HS2.out (by trivial)]; rfl, ((Below.refl _ _).alloc (Nat.le_refl _) _).alloc (by simp) _⟩
  · have e1 : (1 + (m : Int) == 2) = false := by simp; omega
    go_wp2
    refine bodyPost_ret (v := .agg #[.int .i64 (1 + (m : Int)), .int .i64 0]) (by simp [results, Try.results11, go_sem]) rfl ?_
    exact ⟨by rw [HS.out h1]; rfl, ((Below.refl _ _).alloc (Nat.le_refl _) _).alloc (by simp) _⟩

/-! ### Next -/
/-- what is answered: the first one, if there is one -/
def firstV : List Ft → Value
  | [] => .tuple #[.agg #[.int .i64 0, .int .i64 0], .bool false]
  | f :: _ => .tuple #[.agg #[.int .i64 f.kind, .int .i64 f.keep], .bool true]
set_option maxHeartbeats 1600000 in
theorem next_none (F : Nat → Prop) (g : Nat) (w : World) (h : PlanAt F w g []) : Calls Try.prog 15 #[.pointer (some ⟨g, 0, none⟩)] w fun e w' => e = .returned (firstV []) ∧ PlanAt F w' g [] ∧ Below w.heap.size w w' := by
  obtain ⟨A, c, h1, h2, hb, hq⟩ := h.at_
  have hb1 : Below w.heap.size w (w.alloc (.cells #[.int .i64 0, .int .i64 0] 23)) := (Below.refl _ _).alloc (Nat.le_refl _) _
  have HB := Lib.hid hb1
  have HP := Lib.hid (h.below hb1)
  have hlt := hb.lt
  have c0 : (w.alloc (.cells #[.int .i64 0, .int .i64 0] 23)).cell? ⟨g, 0, none⟩ = some (.slice A 0 c) := (hb.below hb1 hlt).cell 0
  clear h hb hq hb1
  go_enter Try.func15, Try.ntmps15
  go_wp2
  refine bodyPost_ret (v := firstV []) (by simp [firstV, results, Try.results15, go_sem]) rfl ?_
  exact ⟨rfl, HP.out.same fun i _ hi => by simp [World.setCell], HB.out⟩
end Go.Proofs.Ytnbhbhnmidijkaa.Flt
