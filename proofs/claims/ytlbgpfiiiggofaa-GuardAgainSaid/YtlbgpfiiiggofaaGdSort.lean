/-
  A table's cells, rising by their keys, in a new slice: slices.SortedFunc over maps.Values. No condition but that the map is not too great.
-/
import Derived.Test.YtlbgpfiiiggofaaGdVals
import Derived.Test.YtlbgpfiiiggofaaGdLays
import Derived.Shelf.SlSortCmp.NoneTotal
namespace Go.Proofs.Ytlbgpfiiiggofaa.Gd
set_option linter.unusedVariables false
set_option linter.unusedSimpArgs false
set_option maxRecDepth 100000
open Go.RowKit Go.Maps Go.Sort Go.Shelf Base GuardMath
set_option linter.ambiguousOpen false

/-! ### two cells held against each other -/
def cmpK (x y : Int) : Int := if x < y then -1 else if y < x then 1 else 0
theorem cmpK_lt {x y : Int} : cmpK x y < 0 ↔ x < y := by
  unfold cmpK
  split
  · omega
  · split <;> omega
theorem isNaN_any (x : Int) (w : World) : Calls Try.prog 42 #[.int .i64 x] w fun e w' => e = .returned (.bool false) ∧ w = w' := by
  go_enter Try.func42, Try.ntmps42
  go_wp2
  go_ret
  exact ⟨by simp, rfl⟩
theorem compare_any (x y : Int) (w : World) : Calls Try.prog 38 #[.int .i64 x, .int .i64 y] w fun e w' => e = .returned (.int .i64 (cmpK x y)) ∧ w = w' := by
  have HE := Lib.hid (show cmpK x y = if x < y then -1 else if y < x then 1 else 0 from rfl)
  go_enter Try.func38, Try.ntmps38
  go_wp2_with (first | (refine (isNaN_any _ _).mono ?_; rintro e w1 ⟨rfl, rfl⟩) | fail)
  all_goals go_ret
  all_goals refine ⟨ret_int ?_, rfl⟩
  all_goals rw [HE.out]
  all_goals first | (rw [if_pos (by omega)]) | (rw [if_neg (by omega), if_pos (by omega)]) | (rw [if_neg (by omega), if_neg (by omega)])
theorem bykeys_any (x y : Ce) (w : World) : Calls Try.prog 34 #[cval x, cval y] w fun e w' => e = .returned (.int .i64 (cmpK x.key y.key)) ∧ ∃ q os, w' = grow (w.drewN q) os := by
  unfold cval
  go_enter Try.func34, Try.ntmps34
  go_wp2_with (first | (refine (compare_any _ _ _).mono ?_; rintro e w1 ⟨rfl, rfl⟩) | fail)
  go_ret
  exact ⟨rfl, 0, _, by rw [Go.Sort.alloc_eq_grow, Go.Sort.alloc_eq_grow, Go.Sort.grow_grow]; rfl⟩
def cfK (x y : Ce) : Int := cmpK x.key y.key
theorem lt_cfK (x y : Ce) : ltOf cfK x y = decide (x.key < y.key) := by
  unfold ltOf cfK
  exact decide_eq_decide.2 cmpK_lt
theorem swoK : SWO (ltOf cfK) where
  irrefl x := by rw [lt_cfK]; simp
  trans x y z h1 h2 := by rw [lt_cfK] at *; simp at *; omega
  ntrans x y z h1 h2 := by rw [lt_cfK] at *; simp at *; omega
theorem cmpLays (blk off size : Nat) (w : World) : CmpLays Try.prog 34 #[] ccells 4 cfK blk off size w := fun _ _ _ _ x y => bykeys_any x y _

/-! ### the row that is sorted -/
theorem cv_at (l : List Ce) (t : Nat) (h : t < l.length * 4) : (cv l)[t]? = (ccells l.toArray[t / 4]!)[t % 4]? := by
  induction l generalizing t with
  | nil => simp at h
  | cons x r ih =>
    show (ccells x ++ cv r)[t]? = _
    rcases Nat.lt_or_ge t 4 with ht | ht
    · rw [List.getElem?_append_left (by exact ht), show t / 4 = 0 by omega, show t % 4 = t by omega]
      simp
    · rw [List.getElem?_append_right (by exact ht), show (ccells x).length = 4 from rfl, ih (t - 4) (by rw [List.length_cons] at h; omega)]
      have e1 : t / 4 = (t - 4) / 4 + 1 := by omega
      have e2 : t % 4 = (t - 4) % 4 := by omega
      rw [e1, e2]
      simp
theorem flat_cv (l : List Ce) : flatK ccells 4 l.toArray = (cv l).toArray := by
  refine ext_get! (by simp [cv_length]) fun t ht => ?_
  have ht' : t < l.length * 4 := by simpa using ht
  rw [get_flatK _ _ _ _ (by simpa using ht')]
  have h1 := cv_at l t ht'
  have h3 : t < (cv l).length := by rw [cv_length]; exact ht'
  have h4 : t % 4 < (ccells l.toArray[t / 4]!).length := by show t % 4 < 4; omega
  rw [List.getElem?_eq_getElem h3, List.getElem?_eq_getElem h4] at h1
  rw [getElem!_pos (ccells l.toArray[t / 4]!) (t % 4) h4, getElem!_pos (cv l).toArray t (by simpa using h3)]
  exact (Option.some.inj h1).symm
theorem holds_cv {w : World} {g : Nat} {cur : Array Value} {e : TypeId} {ss : List Ce} (hb : w.heap[g]? = some (.cells cur e (0, 0))) (ht : cur.toList.take (ss.length * 4) = cv ss) : HoldsK ccells 4 w g 0 ss.toArray := by
  unfold HoldsK
  rw [flat_cv]
  intro j hj
  have hj' : j < ss.length * 4 := by simpa [cv_length] using hj
  refine ⟨?_, by simp [World.frozen?, hb]⟩
  have h1 : (cur.toList.take (ss.length * 4))[j]? = (cv ss)[j]? := by rw [ht]
  rw [List.getElem?_take_of_lt hj'] at h1
  simp only [World.cell?, hb, Nat.zero_add]
  simp only [Option.isSome_none, Bool.false_eq_true, if_false]
  rw [← Array.getElem?_toList, h1]
  have h3 : j < (cv ss).length := by rw [cv_length]; exact hj'
  rw [List.getElem?_eq_getElem h3, getElem!_pos (cv ss).toArray j (by simpa using h3)]
  rfl
theorem heap_sortedC {w : World} {g n : Nat} {os : Array Obj} {cur : Array Value} {e : TypeId} {fr : Nat × Nat} (F : Array Value) (hb : w.heap[g]? = some (.cells cur e fr)) :
    (grow (putRow id (Sort.ahead w n) g 0 F) os).heap[g]? = some (.cells (putCells id 0 F cur) e fr) := by
  have hg : g < w.heap.size := (Array.getElem?_eq_some_iff.1 hb).1
  rw [heap_grow_old _ _ (by simpa using hg)]
  simp [putRow, mapBlock, Sort.ahead, Array.getElem?_modify, hb, onCells]
theorem grownBy_sortedC {w : World} {g n : Nat} {os : Array Obj} (F : Array Value) : w.grownBy (grow (putRow id (Sort.ahead w n) g 0 F) os) (some g) := by
  refine ⟨rfl, rfl, rfl, by simp, fun k hk hne => ?_⟩
  rw [heap_grow_old _ _ (by simpa using hk)]
  have : g ≠ k := fun e => hne (by rw [e])
  simp [putRow, mapBlock, Sort.ahead, Array.getElem?_modify, this]
theorem take_putCellsC (cur : Array Value) (vs : List Value) (h : vs.length ≤ cur.size) : (putCells id 0 vs.toArray cur).toList.take vs.length = vs := by
  apply List.ext_getElem?
  intro j
  by_cases hj : j < vs.length
  · rw [List.getElem?_take_of_lt hj, Array.getElem?_toList]
    simp [putCells, hj, show j < cur.size by omega]
  · rw [List.getElem?_take_eq_none (by omega), List.getElem?_eq_none (by omega)]
/-- behind the sort the same slice owns the sorted list -/
theorem own_sortedC {w : World} {base g cap n : Nat} {e : TypeId} {os : Array Obj} {cur : Array Value} {ss ts : List Ce} (hl : ts.length = ss.length) (hbase : base ≤ g) (hb : w.heap[g]? = some (.cells cur e (0, 0)))
    (h1 : ss.length ≤ cap) (h2 : cap ≤ maxLen) (h3 : cur.size = cap * 4) :
    (sortWorldK ccells 4 w g 0 n ts.toArray os).ownsRow base e 4 (.slice (some ⟨g, 0, none⟩) ss.length cap) ss.length (cv ts) := by
  unfold sortWorldK putRowK
  rw [flat_cv]
  exact ⟨by rw [cv_length, hl], .inr ⟨g, cap, _, rfl, hbase, heap_sortedC _ hb, h1, h2, by simp [putCells, h3], by rw [← hl, ← cv_length]; exact take_putCellsC cur _ (by rw [cv_length]; omega)⟩⟩
theorem sorted_rise {l ts : List Ce} (hl : Rise l) (hp : ts.Perm l) (hs : SortedIn (ltOf cfK) 0 ts.length ts.toArray) : ts = l := by
  refine List.Perm.eq_of_pairwise (le := fun a b => a.key ≤ b.key) (fun a b ha hb h1 h2 => ?_) ?_ (hl.imp fun h => Int.le_of_lt h) hp
  · have hk : a.key = b.key := by omega
    have hb' : b ∈ l := hb
    have ha' : a ∈ l := hp.mem_iff.1 ha
    obtain ⟨i, hi, rfl⟩ := List.getElem_of_mem ha'
    obtain ⟨j, hj, rfl⟩ := List.getElem_of_mem hb'
    have hw := List.pairwise_iff_getElem.1 hl
    rcases Nat.lt_trichotomy i j with h | h | h
    · have := hw i j hi hj h; omega
    · subst h; rfl
    · have := hw j i hj hi h; omega
  · rw [List.pairwise_iff_getElem]
    intro i j hi hj hij
    have := hs i j (Nat.zero_le _) hij hj
    rw [lt_cfK, decide_eq_false_iff_not] at this
    rw [getElem!_pos _ i (by simpa using hi), getElem!_pos _ j (by simpa using hj)] at this
    simpa using this
theorem perm_list {ss : List Ce} {d' : Array Ce} (h : PermIn 0 ss.toArray.size ss.toArray d') : d'.toList.Perm ss := by
  obtain ⟨h1, _, h3⟩ := h
  rw [← h1] at h3
  have e : ss.toArray.extract 0 d'.size = ss.toArray := by rw [h1]; simp
  rw [e] at h3
  simpa using h3

/-! ### maps.Values, slices.Collect, slices.SortedFunc -/
theorem values_any (mb : Option Nat) (w : World) : Calls Try.prog 33 #[.map mb] w fun e w' => e = .returned (.func (.func 37) #[] #[.pointer (some ⟨w.heap.size, 0, none⟩)]) ∧ w' = w.alloc (.cells #[.map mb] 58) := by
  go_enter Try.func33, Try.ntmps33
  go_wp2
  go_ret
  exact ⟨rfl, rfl⟩
def Collected (w : World) (T : List Ce) (e : Ending) (w' : World) : Prop := ∃ v ps, e = .returned v ∧ ps.Perm T ∧ w'.ownsRow w.heap.size 38 4 v ps.length (cv ps) ∧ Below w.heap.size w w'
theorem collect_any (Bm b nn : Nat) (T : List Ce) (hT : Rise T) (hsz : T.length ≤ 1099511627774) (w : World) (hm : w.cell? ⟨Bm, 0, none⟩ = some (.map (some b))) (hown : MapAt w b nn T) :
    Calls Try.prog 35 #[.func (.func 37) #[] #[.pointer (some ⟨Bm, 0, none⟩)]] w (Collected w T) := by
  have cA : Calls Try.prog 39 #[.slice none 0 0, .func (.func 37) #[] #[.pointer (some ⟨Bm, 0, none⟩)]] w (Collected w T) :=
    (callsIn_wide (n := 5)).1 (appendSeq_in Fence.wide 5 trivial trivial rfl (by omega) Bm b nn T hT hsz w hm hown)
  have CA := Lib.hid cA
  clear hm hown cA
  go_enter Try.func35, Try.ntmps35
  go_wp2_with fail
  refine CA.out.mono ?_
  rintro e w1 ⟨v, ps, rfl, h1, h2, h3⟩
  have H := Lib.hid (And.intro h1 (And.intro h2 h3))
  clear h1 h2 h3
  go_wp2
  go_ret
  exact ⟨v, ps, rfl, H.out⟩
theorem sortFunc_any {w : World} {T ps : List Ce} {v : Value} {base : Nat} (hT : Rise T) (hsz : T.length ≤ 1099511627774) (hp : ps.Perm T) (hown : w.ownsRow base 38 4 v ps.length (cv ps)) :
    Calls Try.prog 36 #[v, .func (.func 34) #[] #[]] w fun e w' => e = .returned (.tuple #[]) ∧ w'.ownsRow base 38 4 v T.length (cv T) ∧ w.grownBy w' v.ownBlock := by
  have hl := hp.length_eq
  obtain ⟨A, c, rfl⟩ := own_slice hown
  rcases Nat.eq_zero_or_pos ps.length with h0 | h0
  · have hT0 : T = [] := List.eq_nil_of_length_eq_zero (by omega)
    have hp0 : ps = [] := List.eq_nil_of_length_eq_zero h0
    subst hT0
    subst hp0
    have h := AnyF.slices_SortFunc_none (ρ := Try.sortC_ren) { Try.sortC with } A c (.func (.func 34) #[] #[]) w
    change Calls Try.prog 36 _ _ _ at h
    refine h.mono ?_
    rintro e w' ⟨rfl, rfl⟩
    exact ⟨rfl, hown, World.grownBy.refl _ _⟩
  · obtain ⟨_, hh⟩ := hown
    rcases hh with ⟨_, hz⟩ | ⟨g, cap, cur, he, hbase, hb, k1, k2, k3, k4⟩
    · omega
    · injection he with e1 e2 e3
      subst e1
      subst e3
      have hS := AnyQ.slices_SortFunc (ρ := Try.sortC_ren) Try.sortC 4 Try.isAgg38 Try.sizeOf38 ccells (fun _ => rfl) (fun x v hv => by simp [ccells] at hv; rcases hv with rfl | rfl | rfl | rfl <;> rfl) cfK swoK 34 #[] g 0 c ps.toArray w (enters_of Try.func34 (by kernel_rfl) rfl) (cmpLays g 0 _ w) (holds_cv hb k4) (Array.getElem?_eq_some_iff.1 hb).1 (by simp; omega)
      change Calls Try.prog 36 _ _ _ at hS
      rw [show ps.toArray.size = ps.length by simp] at hS
      refine hS.mono ?_
      rintro e w' ⟨rfl, d', n, os, q1, q2, rfl⟩
      have hd : d'.size = ps.length := by have := q1.1; simpa using this
      have q1' : d'.toList.Perm ps := perm_list (by simpa using q1)
      have hdT : d'.toList = T := sorted_rise hT (q1'.trans hp) (by rw [Array.length_toList, hd]; simpa using q2)
      have ed : d' = T.toArray := by rw [← hdT]
      rw [ed]
      refine ⟨rfl, ?_, ?_⟩
      · have := own_sortedC (w := w) (n := n) (os := os) (e := 38) (ss := ps) (ts := T) (by omega) hbase hb k1 k2 k3
        rwa [hl] at this ⊢
      · have := grownBy_sortedC (w := w) (g := g) (n := n) (os := os) (flatK ccells 4 T.toArray)
        exact this
theorem sortedFunc_any (Bm b nn : Nat) (T : List Ce) (hT : Rise T) (hsz : T.length ≤ 1099511627774) (w : World) (hm : w.cell? ⟨Bm, 0, none⟩ = some (.map (some b))) (hown : MapAt w b nn T) :
    Calls Try.prog 32 #[.func (.func 37) #[] #[.pointer (some ⟨Bm, 0, none⟩)], .func (.func 34) #[] #[]] w (CesNew w T) := by
  have HC := Lib.hid (collect_any Bm b nn T hT hsz w hm hown)
  clear hm hown
  go_enter Try.func32, Try.ntmps32
  go_wp2_with (go_at_call 35; refine HC.out.mono ?_; rintro e w1 ⟨v, ps, rfl, h1, h2, h3⟩; have H := Lib.hid (And.intro h1 (And.intro h2 h3)); clear h1 h2 h3)
  have HS := Lib.hid (sortFunc_any hT hsz H.out.1 H.out.2.1)
  obtain ⟨A, c, rfl⟩ := own_slice H.out.2.1
  refine HS.out.mono ?_
  rintro e w2 ⟨rfl, g1, g2⟩
  have G := Lib.hid (And.intro g1 g2)
  clear g1 g2
  go_wp2
  go_ret
  have hl := H.out.1.length_eq
  have hG1 := G.out.1
  rw [hl] at hG1
  exact ⟨A, c, by rw [hl]; rfl, hG1, H.out.2.2.trans (own_below H.out.2.1 G.out.2 H.out.2.2.size)⟩
/-- a table's cells, told -/
theorem tcells_any (b nn : Nat) (T : List Ce) (hT : Rise T) (hsz : T.length ≤ 1099511627774) (w : World) (hown : MapAt w b nn T) :
    Calls Try.prog 30 #[.map (some b)] w (CesNew w T) := by
  have hb : Below w.heap.size w (w.alloc (.cells #[.map (some b)] 58)) := (Below.refl _ _).alloc (Nat.le_refl _) _
  have HB := Lib.hid hb
  have HS := Lib.hid (sortedFunc_any w.heap.size b nn T hT hsz (w.alloc (.cells #[.map (some b)] 58)) ((Blk.new w _ _).cell 0) (hown.same (hb.block b hown.lt)))
  clear hown hb
  go_enter Try.func30, Try.ntmps30
  go_wp2_with (go_at_call 33; refine (values_any _ _).mono ?_; rintro e w1 ⟨rfl, rfl⟩)
  refine HS.out.mono ?_
  rintro e w2 ⟨A, c, rfl, h1, h2⟩
  have H := Lib.hid (And.intro h1 h2)
  clear h1 h2
  go_wp2
  go_ret
  exact ⟨A, c, rfl, own_mono H.out.1 HB.out.size, HB.out.trans (H.out.2.mono HB.out.size)⟩
end Go.Proofs.Ytlbgpfiiiggofaa.Gd
