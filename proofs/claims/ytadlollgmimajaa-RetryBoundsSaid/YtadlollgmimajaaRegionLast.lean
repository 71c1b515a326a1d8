/-
  A region that draws its order, whose last operation waits for all the others: the others in whatever order (all that is loaded is held), then the last one. Of no program.
-/
import Derived.Deep.RegionHeld3
import Derived.Deep.RegionHeld
import Derived.OrdersHeld
namespace Go.Proofs.Ytadlollgmimajaa.Last
open Go

/-- what is to hold when all but the last have come up -/
def Then (P : Program) (ops : Array Oper) (n : Nat) (Q : Exit → Act → World → Prop) : Exit → Act → World → Prop
  | .normal, a, w => wpOp P ops Q n (fun a' w' => Q .normal a' w') a w
  | e, a, w => Q e a w

/-- nobody is guarded; each waits for earlier ones alone -/
def plainB (l : List Oper) : Bool := l.all (fun o => o.guard.isNone) && (List.range l.length).all fun i => ((l[i]?).map fun o => o.after.all fun e => decide (e.on < i)).getD true
def toB (o : Oper) (j : Nat) : Bool := o.after.any fun e => Region.binds .any e && e.on == j
/-- it waits for all of them, by itself or by others that it waits for -/
def waitsB (l : List Oper) (o : Oper) : Bool := (List.range l.length).all (fun j => toB o j || (List.range l.length).any fun k => decide (j < k) && ((l[k]?).map fun ok => toB ok j).getD false) && o.after.all (fun e => decide (e.on < l.length)) && o.guard.isNone

section
variable {P : Program} {l : List Oper} {o : Oper} {Q : Exit → Act → World → Prop}

theorem get_pre {i : Nat} (h : i < l.length) : (l ++ [o]).toArray[i]? = l.toArray[i]? := by
  simp [List.getElem?_append_left h]
theorem get_last : (l ++ [o]).toArray[l.length]? = some o := by simp
theorem edges {i : Nat} {oi : Oper} (hp : plainB l = true) (hi : l.toArray[i]? = some oi) : oi.guard = none ∧ ∀ e ∈ oi.after, e.on < i := by
  have hlt : i < l.length := by
    rcases Nat.lt_or_ge i l.length with h | h
    · exact h
    · simp [List.getElem?_eq_none h] at hi
  simp only [plainB, Bool.and_eq_true, List.all_eq_true, List.mem_range] at hp
  have hi' : l[i]? = some oi := by simpa using hi
  refine ⟨by simpa using hp.1 oi (List.mem_of_getElem? hi'), fun e he => ?_⟩
  have := hp.2 i hlt
  rw [hi'] at this
  simp only [Option.map_some, Option.getD_some, Array.all_eq_true_iff_forall_mem] at this
  simpa using this e he
/-- one that has not come up and waits for nobody: there is one, if not all have come up -/
theorem some_ready (hp : plainB l = true) {L : Array Bool} (hL : L.size = l.length) {j : Nat} (hj : L.getD j true = false) : ∃ i, i ∈ Region.ready .any l.toArray L := by
  induction j using Nat.strongRecOn with
  | _ j ih =>
    have hjl : j < l.length := by
      rcases Nat.lt_or_ge j L.size with h | h
      · omega
      · rw [Array.getD_eq_getD_getElem?, Array.getElem?_eq_none h] at hj; cases hj
    have hoj : l.toArray[j]? = some l[j] := by simp [hjl]
    by_cases hall : ∀ e ∈ (l[j]).after, Region.binds .any e = true → L.getD e.on false = true
    · exact ⟨j, mem_ready.2 ⟨hj, l[j], hoj, hall⟩⟩
    · simp only [Classical.not_forall] at hall
      obtain ⟨e, he, _, hf⟩ := hall
      have hlt := (edges hp hoj).2 e he
      refine ih e.on hlt ?_
      rw [Array.getD_eq_getD_getElem?, Array.getElem?_eq_getElem (by omega)] at hf ⊢
      simpa using hf
theorem push_get {L : Array Bool} {i : Nat} (h : i < L.size) (b d : Bool) : (L.push b).getD i d = L.getD i d := by
  simp only [Array.getD_eq_getD_getElem?]
  rw [Array.getElem?_push_lt h, Array.getElem?_eq_getElem h]
theorem push_set {L : Array Bool} {i : Nat} (h : i < L.size) : (L.push false).setIfInBounds i true = (L.setIfInBounds i true).push false := by
  obtain ⟨ll⟩ := L
  have h' : i < ll.length := by simpa using h
  simp [List.set_append_left _ _ h']
theorem ready_pre (hp : plainB l = true) {L : Array Bool} (hL : L.size = l.length) {i : Nat} (hi : i < l.length) : i ∈ Region.ready .any (l ++ [o]).toArray (L.push false) ↔ i ∈ Region.ready .any l.toArray L := by
  rw [mem_ready, mem_ready, get_pre hi, push_get (by omega)]
  refine and_congr Iff.rfl (exists_congr fun oi => and_congr_right fun hoi => forall_congr' fun e => forall_congr' fun he => ?_)
  have := (edges hp hoi).2 e he
  rw [push_get (by omega)]
theorem ready_lt {i : Nat} {L : Array Bool} (h : i ∈ Region.ready .any (l ++ [o]).toArray L) : i < l.length ∨ i = l.length := by
  obtain ⟨_, oi, hoi, _⟩ := mem_ready.1 h
  have := (Array.getElem?_eq_some_iff.1 hoi).1
  simp at this
  omega
theorem all_done {L : Array Bool} (hL : L.size = l.length) (h : ∀ j, j < l.length → L.getD j false = true) : Region.ready .any l.toArray L = [] := by
  rw [List.eq_nil_iff_forall_not_mem]
  intro i hi
  obtain ⟨h0, oi, hoi, _⟩ := mem_ready.1 hi
  have hlt : i < l.length := by have := (Array.getElem?_eq_some_iff.1 hoi).1; simpa using this
  have h1 := h i hlt
  rw [Array.getD_eq_getD_getElem?, Array.getElem?_eq_getElem (by omega)] at h0 h1
  simp at h0 h1
  rw [h0] at h1
  cases h1
/-- whoever has come up, those that he waited for have come up -/
def Closed (l : List Oper) (L : Array Bool) : Prop := ∀ (i : Nat) (oi : Oper), l.toArray[i]? = some oi → L.getD i false = true → ∀ e ∈ oi.after, Region.binds .any e = true → L.getD e.on false = true
theorem to_spec {o : Oper} {j : Nat} (h : toB o j = true) : ∃ e ∈ o.after, Region.binds .any e = true ∧ e.on = j := by
  unfold toB at h
  rw [Array.any_eq_true] at h
  obtain ⟨i, hi, hb⟩ := h
  simp only [Bool.and_eq_true, beq_iff_eq] at hb
  exact ⟨o.after[i], Array.getElem_mem hi, hb.1, hb.2⟩
theorem last_all (hw : waitsB l o = true) {L : Array Bool} (hL : L.size = l.length) (hc : Closed l L) (h : l.length ∈ Region.ready .any (l ++ [o]).toArray (L.push false)) : ∀ j, j < l.length → L.getD j false = true := by
  obtain ⟨_, o', ho', hall⟩ := mem_ready.1 h
  rw [get_last] at ho'
  obtain rfl : o = o' := Option.some.inj ho'
  simp only [waitsB, Bool.and_eq_true, List.all_eq_true, List.mem_range] at hw
  have key : ∀ m j, j < l.length → l.length - j = m → L.getD j false = true := by
    intro m
    induction m using Nat.strongRecOn with
    | _ m ih =>
      intro j hj hm
      rcases Bool.or_eq_true _ _ ▸ hw.1.1 j hj with h1 | h1
      · obtain ⟨e, he, hb, rfl⟩ := to_spec h1
        have h2 := hall e he hb
        rwa [push_get (by omega)] at h2
      · rw [List.any_eq_true] at h1
        obtain ⟨k, hk, hb⟩ := h1
        rw [List.mem_range] at hk
        rw [Bool.and_eq_true, decide_eq_true_eq, List.getElem?_eq_getElem hk] at hb
        simp only [Option.map_some, Option.getD_some] at hb
        have hkl := ih (l.length - k) (by omega) k hk rfl
        obtain ⟨e, he, hbi, rfl⟩ := to_spec hb.2
        exact hc k l[k] (by simp [hk]) hkl e he hbi
  exact fun j hj => key _ j hj rfl
theorem last_ready (hw : waitsB l o = true) {L : Array Bool} (hL : L.size = l.length) (h : ∀ j, j < l.length → L.getD j false = true) : l.length ∈ Region.ready .any (l ++ [o]).toArray (L.push false) := by
  refine mem_ready.2 ⟨?_, o, get_last, fun e he _ => ?_⟩
  · rw [Array.getD_eq_getD_getElem?, ← hL, Array.getElem?_push_size]
    rfl
  · simp only [waitsB, Bool.and_eq_true, Array.all_eq_true_iff_forall_mem] at hw
    have : e.on < l.length := by simpa using hw.1.2 e he
    rw [push_get (by omega)]
    exact h _ this
theorem step_then {oi : Oper} {n : Nat} {ops : Array Oper} {a : Act} {w : World} {K : Act → World → Prop} (h : oi.wp P a w K (Then P ops n Q)) : oi.wp P a w K Q := by
  unfold Oper.wp at *
  generalize (execOp a.eval oi).run P w = r at *
  cases r with
  | ok m w' =>
    cases m <;> simp only [Oper.upon] at h ⊢ <;> first
      | exact h
      | exact Calls.mono h (fun e w'' he => by cases e <;> exact he)
  | halt x w' => cases x <;> simp only [Oper.upon] at h ⊢ <;> exact h
theorem done_any (md : Region.Mode) (ops : Array Oper) {L : Array Bool} {a : Act} {w : World} (hr : Region.ready md ops L = []) (h : Q .normal a w) : ∀ fuel, wpAny P md ops Q fuel L a w
  | 0 => ⟨hr, h⟩
  | _ + 1 => ⟨fun _ => h, by rw [hr]; intro i hi; cases hi⟩

theorem closed_set {L : Array Bool} (hL : L.size = l.length) (hc : Closed l L) {i : Nat} (hi : i ∈ Region.ready .any l.toArray L) : Closed l (L.setIfInBounds i true) := by
  have hget : ∀ k, L.getD k false = true → (L.setIfInBounds i true).getD k false = true := fun k hk => by
    have hkL : k < L.size := by
      rcases Nat.lt_or_ge k L.size with h | h
      · exact h
      · rw [Array.getD_eq_getD_getElem?, Array.getElem?_eq_none h] at hk; cases hk
    rw [Array.getD_eq_getD_getElem?, Array.getElem?_eq_getElem (by rw [Array.size_setIfInBounds]; exact hkL)]
    rw [Array.getD_eq_getD_getElem?, Array.getElem?_eq_getElem hkL] at hk
    simp only [Option.getD_some] at hk ⊢
    by_cases e : k = i
    · subst e
      simp
    · rw [Array.getElem_setIfInBounds_ne hkL (Ne.symm e)]
      exact hk
  obtain ⟨_, oi, hoi, hall⟩ := mem_ready.1 hi
  intro k ok hok hk e he hb
  by_cases ek : k = i
  · subst ek
    rw [hoi] at hok
    obtain rfl : oi = ok := Option.some.inj hok
    exact hget _ (hall e he hb)
  · have hkl : k < L.size := by have := (Array.getElem?_eq_some_iff.1 hok).1; simp at this; omega
    refine hget _ (hc k ok hok ?_ e he hb)
    rw [Array.getD_eq_getD_getElem?, Array.getElem?_eq_getElem (by rw [Array.size_setIfInBounds]; exact hkl)] at hk
    rw [Array.getD_eq_getD_getElem?, Array.getElem?_eq_getElem hkl]
    simp only [Option.getD_some] at hk ⊢
    rw [Array.getElem_setIfInBounds_ne hkl (Ne.symm ek)] at hk
    exact hk

theorem any_last (hp : plainB l = true) (hw : waitsB l o = true) : ∀ (fuel : Nat) (L : Array Bool) (a : Act) (w : World), L.size = l.length → Closed l L →
    wpAny P .any l.toArray (Then P (l ++ [o]).toArray l.length Q) fuel L a w → wpAny P .any (l ++ [o]).toArray Q (fuel + 1) (L.push false) a w := by
  have hfin : ∀ (fuel : Nat) (L : Array Bool) (a : Act) (w : World), L.size = l.length → (∀ j, j < l.length → L.getD j false = true) → Then P (l ++ [o]).toArray l.length Q .normal a w →
      wpOp P (l ++ [o]).toArray Q l.length (wpAny P .any (l ++ [o]).toArray Q fuel ((L.push false).setIfInBounds l.length true)) a w := fun fuel L a w hL hall h => by
    refine wpOp_mono (fun a' w' hq => done_any _ _ ?_ hq _) h
    rw [List.eq_nil_iff_forall_not_mem]
    intro i hi
    obtain ⟨h0, _, hoi, _⟩ := mem_ready.1 hi
    have hsz : ((L.push false).setIfInBounds l.length true).size = l.length + 1 := by rw [Array.size_setIfInBounds, Array.size_push, hL]
    have hlt : i < l.length + 1 := by have := (Array.getElem?_eq_some_iff.1 hoi).1; simpa using this
    rw [Array.getD_eq_getD_getElem?, Array.getElem?_eq_getElem (by omega)] at h0
    simp only [Option.getD_some] at h0
    by_cases e : i = l.length
    · subst e
      simp at h0
    · rw [Array.getElem_setIfInBounds_ne (show i < (L.push false).size by rw [Array.size_push]; omega) (Ne.symm e)] at h0
      have h1 := hall i (by omega)
      rw [Array.getD_eq_getD_getElem?, Array.getElem?_eq_getElem (by omega)] at h1
      rw [Array.getElem_push_lt (by omega)] at h0
      simp only [Option.getD_some] at h1
      rw [h0] at h1
      cases h1
  have hsome : ∀ L : Array Bool, L.size = l.length → Region.ready .any (l ++ [o]).toArray (L.push false) ≠ [] := fun L hL he => by
    by_cases hall : ∀ j, j < l.length → L.getD j false = true
    · have := last_ready (o := o) hw hL hall
      rw [he] at this
      cases this
    · simp only [Classical.not_forall] at hall
      obtain ⟨j, hj, hf⟩ := hall
      obtain ⟨i, hi⟩ := some_ready hp hL (j := j) (by
        rw [Array.getD_eq_getD_getElem?, Array.getElem?_eq_getElem (by omega)] at hf ⊢
        simpa using hf)
      have hil : i < l.length := by
        obtain ⟨_, _, hoi, _⟩ := mem_ready.1 hi
        have := (Array.getElem?_eq_some_iff.1 hoi).1
        simpa using this
      have := (ready_pre (o := o) hp hL hil).2 hi
      rw [he] at this
      cases this
  intro fuel
  induction fuel with
  | zero =>
    intro L a w hL hc h
    refine ⟨fun he => absurd he (hsome L hL), fun i hi => ?_⟩
    rcases ready_lt hi with hlt | rfl
    · have := (ready_pre (o := o) hp hL hlt).1 hi
      rw [h.1] at this
      cases this
    · exact hfin 0 L a w hL (last_all hw hL hc hi) h.2
  | succ fuel ih =>
    intro L a w hL hc h
    refine ⟨fun he => absurd he (hsome L hL), fun i hi => ?_⟩
    rcases ready_lt hi with hlt | rfl
    · have hpre := (ready_pre (o := o) hp hL hlt).1 hi
      have h1 := h.2 i hpre
      have hoi : l.toArray[i]? = some l[i] := by simp [hlt]
      have hgd := (edges hp hoi).1
      have hset : (L.push false).setIfInBounds i true = (L.setIfInBounds i true).push false := by
        exact push_set (by omega)
      unfold wpOp at h1 ⊢
      rw [get_pre hlt, hoi]
      rw [hoi] at h1
      simp only [Region.wanted, hgd, if_true] at h1 ⊢
      rw [hset]
      refine h1.imp (fun h2 => Oper.wp_mono (fun a' w' h3 => ih _ a' w' (by rw [Array.size_setIfInBounds]; exact hL) (closed_set hL hc hpre) h3) (step_then h2)) (fun h2 => ⟨h2.1, h2.2⟩)
    · have hall := last_all hw hL hc hi
      exact hfin (fuel + 1) L a w hL hall (h.1 (all_done hL hall))

/-- **all but the last, in whatever order, what is loaded held; then the last one** -/
theorem wp_region_last {id : Nat} {S : World → Prop} {a : Act} {w : World} (l : List Oper) (o : Oper) (hm : P.follows .mixedOrders = true) (hp : plainB l = true) (hw : waitsB l o = true) (hS : S w.drew)
    (h : S w.drew → wpAnyH P .any l.toArray (Then P (l ++ [o]).toArray l.length Q) S l.length (Array.replicate l.length false) a w.drew) : (Code.region id (l ++ [o]).toArray true).wp P Q a w := by
  refine wp_region_any hm ?_
  have e1 : (l ++ [o]).toArray.size = l.length + 1 := by simp
  have e2 : Array.replicate (l.length + 1) false = (Array.replicate l.length false).push false := Array.replicate_succ
  rw [e1, e2]
  refine any_last hp hw l.length _ a _ (by simp) (fun i oi hoi hi => ?_) (wpAny_of_held _ _ _ _ (h hS))
  have hlt : i < l.length := by have := (Array.getElem?_eq_some_iff.1 hoi).1; simpa using this
  rw [Array.getD_eq_getD_getElem?, Array.getElem?_eq_getElem (by simpa using hlt)] at hi
  simp at hi
/-- .. of a list that is written out: n of them, and the last one -/
theorem wp_region_last_at {id : Nat} {S : World → Prop} {a : Act} {w : World} {ops : List Oper} (n : Nat) (o : Oper) (hn : ops.take n ++ [o] = ops) (hl : (ops.take n).length = n) (hm : P.follows .mixedOrders = true) (hp : plainB (ops.take n) = true) (hw : waitsB (ops.take n) o = true) (hS : S w.drew)
    (h : S w.drew → wpAnyH P .any (ops.take n).toArray (Then P ops.toArray n Q) S n (Array.replicate n false) a w.drew) : (Code.region id ops.toArray true).wp P Q a w := by
  have := wp_region_last (P := P) (id := id) (S := S) (Q := Q) (a := a) (w := w) (ops.take n) o hm hp hw hS (by rw [hl, hn]; exact h)
  rwa [hn] at this
/-- the last one's step: its wp, as the walk knows it -/
theorem then_normal {n : Nat} {ops : Array Oper} {o : Oper} {a : Act} {w : World} (ho : ops[n]? = some o) (h : wpList P ops Q [o] a w) : Then P ops n Q .normal a w := by
  unfold Then wpOp
  rw [ho]
  exact h
end

/-! ### moves: operations of a drawn region, one by one -/
syntax "held_put" : tactic
macro_rules | `(tactic| held_put) => `(tactic| try simp only [Act.put, List.getElem_toArray, List.getElem_cons_succ, List.getElem_cons_zero, List.setIfInBounds_toArray, List.set_cons_zero, List.set_cons_succ])
/-- operations that S or nothing determines, taken first -/
syntax "held_take" (ppSpace num)+ : tactic
macro_rules
  | `(tactic| held_take $i:num) => `(tactic| (
      refine wpAnyH_take (i := $i) (v := ?hv) rfl (by kernel_rfl) (by kernel_rfl) (by kernel_rfl) (fun _ _ _ h => h) (Or.inl ⟨by rfl, ?hy⟩) (by assumption) ?hr
      case hy => (intro w hSw; (try dsimp only at hSw); go_simp; try with_reducible rfl)
      held_put))
  | `(tactic| held_take $i:num $j:num $is:num*) => `(tactic| (held_take $i; held_take $j $is*))
/-- the one that alone is ready -/
syntax "held_ready" ppSpace num ppSpace ident ppSpace ident : tactic
macro_rules
  | `(tactic| held_ready $i:num $k:ident $h:ident) => `(tactic| (
      refine wpAnyH_ready (rs := [$i]) (by kernel_rfl) (by simp) ?_
      refine AllReadyH.cons rfl (fun $k $h => ?_) AllReadyH.nil
      go_simp))
end Go.Proofs.Ytadlollgmimajaa.Last
