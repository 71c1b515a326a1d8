/-
  A row of one's own that lies anywhere in its block: read, cut at its front, appended to, in its room or in a new block. Of no program, no condition.
-/
import Derived.Test.YtnbhbhnmidijkaaTurn
namespace Go.Proofs.Ytnbhbhnmidijkaa.Base
open Go.RowKit Foot
set_option linter.unusedVariables false
set_option linter.unusedSimpArgs false

/-- The slice value '.slice A n c' reads as the cells xs; up to its capacity it lies in a block of F, of elements e. -/
def Que (w : World) (F : Nat → Prop) (e : TypeId) (size : Nat) (A : Option Addr) (n c : Nat) (xs : List Value) : Prop :=
  xs.length = n * size ∧ n ≤ c ∧ c ≤ 9223372036854775807 ∧ ((A = none ∧ c = 0) ∨ ∃ g off cur, A = some ⟨g, off, none⟩ ∧ F g ∧ w.heap[g]? = some (.cells cur e (0, 0)) ∧ off + c * size ≤ cur.size ∧ ∀ j u, xs[j]? = some u → cur[off + j]? = some u)
section
variable {w w' : World} {F F' : Nat → Prop} {e : TypeId} {size n c : Nat} {A : Option Addr} {xs : List Value}
theorem Que.nil_ (w : World) (F : Nat → Prop) (e : TypeId) (size : Nat) : Que w F e size none 0 0 [] := ⟨by simp, Nat.le_refl _, by omega, .inl ⟨rfl, rfl⟩⟩
theorem Que.le (h : Que w F e size A n c xs) : n ≤ c ∧ c ≤ 9223372036854775807 := ⟨h.2.1, h.2.2.1⟩
theorem Que.row (h : Que w F e size A n c xs) : Row w w.heap.size size A n c xs := by
  refine ⟨h.1, h.2.1, h.2.2.1, fun hn => ?_⟩
  rcases h.2.2.2 with ⟨_, h0⟩ | ⟨g, off, cur, rfl, _, hg, _, hc⟩
  · have := h.2.1; omega
  · exact ⟨g, off, rfl, Blk.lt (w := w) hg, fun j u hu => by rw [cell_of_row w g (off + j) cur e (0, 0) hg]; exact hc j u hu⟩
theorem Que.same (h : Que w F e size A n c xs) (hk : ∀ g, A.map (·.block) = some g → w'.heap[g]? = w.heap[g]?) : Que w' F e size A n c xs := by
  refine ⟨h.1, h.2.1, h.2.2.1, h.2.2.2.imp id ?_⟩
  rintro ⟨g, off, cur, rfl, hF, hg, r⟩
  exact ⟨g, off, cur, rfl, hF, (hk g rfl).trans hg, r⟩
theorem Que.mono (h : Que w F e size A n c xs) (hF : ∀ i, F i → F' i) : Que w F' e size A n c xs :=
  ⟨h.1, h.2.1, h.2.2.1, h.2.2.2.imp id fun ⟨g, off, cur, a, hg, r⟩ => ⟨g, off, cur, a, hF g hg, r⟩⟩
theorem Que.blk (h : Que w F e size A n c xs) {g : Nat} (hg : A.map (·.block) = some g) : F g ∧ ∃ cur, w.heap[g]? = some (.cells cur e (0, 0)) := by
  rcases h.2.2.2 with ⟨rfl, _⟩ | ⟨g', off, cur, rfl, hF, hc, _⟩
  · cases hg
  · injection hg with hg
    subst hg
    exact ⟨hF, cur, hc⟩
theorem Que.below (h : Que w F e size A n c xs) (hb : Below w.heap.size w w') : Que w' F e size A n c xs :=
  h.same fun g hg => by
    obtain ⟨_, cur, hc⟩ := h.blk hg
    exact hb.block g (Blk.lt (w := w) hc)
theorem Que.cut (h : Que w F e size A n c xs) {k : Nat} (hk : k ≤ n) : Que w F e size (if c = k then A else A.map (·.add (k * size))) (n - k) (c - k) (xs.drop (k * size)) := by
  obtain ⟨h1, h2, h3, h4⟩ := h
  refine ⟨by rw [List.length_drop, h1, Nat.sub_mul], by omega, by omega, ?_⟩
  rcases h4 with ⟨rfl, h0⟩ | ⟨g, off, cur, rfl, hF, hg, hs, hc⟩
  · exact .inl ⟨by split <;> rfl, by omega⟩
  · right
    by_cases hck : c = k
    · rw [if_pos hck]
      refine ⟨g, off, cur, rfl, hF, hg, by rw [hck, Nat.sub_self, Nat.zero_mul]; omega, fun j u hu => ?_⟩
      rw [List.drop_eq_nil_of_le (by rw [h1]; exact Nat.mul_le_mul_right _ (by omega))] at hu
      simp at hu
    · rw [if_neg hck, Option.map_some, add_none]
      have e1 : k * size + (c - k) * size = c * size := by rw [← Nat.add_mul]; congr 1; omega
      refine ⟨g, off + k * size, cur, rfl, hF, hg, by omega, fun j u hu => ?_⟩
      rw [Nat.add_assoc]
      exact hc _ u (by rw [← hu, List.getElem?_drop])
end
theorem Que.alloc {w : World} {F : Nat → Prop} {e : TypeId} {size n c : Nat} {A : Option Addr} {xs : List Value} (h : Que w F e size A n c xs) (o : Obj) : Que (w.alloc o) F e size A n c xs := h.below ((Below.refl _ _).alloc (Nat.le_refl _) o)
/-- it does not lie in a block of another kind -/
theorem Que.ne {w : World} {F : Nat → Prop} {e t : TypeId} {size n c g : Nat} {A : Option Addr} {xs : List Value} {cs : Array Value} (h : Que w F e size A n c xs) (hb : Blk w g t cs) (ht : t ≠ e) : A.map (·.block) ≠ some g := fun hg => by
  obtain ⟨_, cur, hc⟩ := h.blk hg
  unfold Blk at hb
  rw [hb] at hc
  injection hc with hc
  injection hc with _ hc
  exact ht hc
theorem Que.set_ {w : World} {F : Nat → Prop} {e t : TypeId} {size n c g i : Nat} {A : Option Addr} {xs : List Value} {cs : Array Value} (h : Que w F e size A n c xs) (hb : Blk w g t cs) (ht : t ≠ e) (u : Value) : Que (w.setCell ⟨g, i, none⟩ u) F e size A n c xs :=
  h.same fun k hk => Below.heap_setCell w ⟨g, i, none⟩ u k fun e => h.ne hb ht (by rw [hk]; exact congrArg some e)

/-- what an append leaves -/
def Queued (w : World) (F : Nat → Prop) (e : TypeId) (size : Nat) (A : Option Addr) (n : Nat) (xs : List Value) (A' : Option Addr) (c' : Nat) (w' : World) : Prop :=
  Que w' (Out F w w') e size A' n c' xs ∧ w.grownBy w' (A.map (·.block))
theorem run_append_at {P : Program} (w : World) (t ty e : TypeId) (i : TypeInfo) (ht : P.underlying t = some (.slice e)) (hi : P.info? e = some i)
    (g off sLen sCap : Nat) (cur : Array Value) (hg : w.heap[g]? = some (.cells cur e (0, 0)))
    (a : Addr) (m c : Nat) (news : List Value) (hl : news.length = m * i.size) (hnews : ∀ j u, news[j]? = some u → w.cell? (a.add j) = some u) (h1 : ∀ u ∈ news, u.oneCell' = true)
    (hroom : sLen + m ≤ sCap) (hfit : off + sLen * i.size + news.length ≤ cur.size) :
    (Builtin.append_ #[t, t] ty #[.slice (some ⟨g, off, none⟩) sLen sCap, .slice (some a) m c]).run P w =
      .ok (.slice (some ⟨g, off, none⟩) (sLen + m) sCap) (w.setRow g (cur.toList.take (off + sLen * i.size) ++ news ++ cur.toList.drop (off + sLen * i.size + news.length)).toArray) := by
  have hf := run_firstCells_some (P := P) w i.size m a m c news hl hnews
  have hst := run_storeCells_at P g (off + sLen * i.size) e news 0 cur w hg (by simpa using hfit) h1
  simp only [Nat.add_zero] at hst
  simp [Builtin.append_, run_underlying ht, sizeOf, typeInfo, hi, Builtin.lenOf, hroom, hf, add_none, hst]
theorem run_append_que {P : Program} (w : World) (ty : TypeId) {F : Nat → Prop} {t e : TypeId} {size bytes : Nat} {z : Value} (he : Elem P t e size bytes z) {A : Option Addr} {n c : Nat} {xs : List Value} (h : Que w F e size A n c xs)
    (B : Nat) (a : Addr) (m c2 : Nat) (news : List Value) (hr : Row w B size (some a) m c2 news) (hm : 0 < m) (h1 : ∀ u ∈ news, u.oneCell' = true) (h63 : n + m ≤ 9223372036854775807) (hbytes : (n + m) * bytes ≤ 140737488355328) :
    ∃ A' c' w', (Builtin.append_ #[t, t] ty #[.slice A n c, .slice (some a) m c2]).run P w = .ok (.slice A' (n + m) c') w' ∧ Queued w F e size A (n + m) (xs ++ news) A' c' w' := by
  obtain ⟨i, ht, hi, hz, hs, hby, hzs, hsz⟩ := he
  subst hs hby
  obtain ⟨bb, oo, hbo, _, hcc⟩ := hr.2.2.2 hm
  injection hbo with hbo
  subst hbo
  have hcells : ∀ j u, news[j]? = some u → w.cell? ((⟨bb, oo, none⟩ : Addr).add j) = some u := fun j u hu => by rw [add_none]; exact hcc j u hu
  have hlen : (xs ++ news).length = (n + m) * i.size := by rw [List.length_append, h.1, hr.1, Nat.add_mul]
  have grown : ∀ (old : Nat) (row : Option Nat),
      Que (w.drew.alloc (.cells (xs.toArray ++ news.toArray ++ Builtin.zeroCells z.cells (grownCap w (n + m) old e - (n + m))) e)) (Out F w (w.drew.alloc (.cells (xs.toArray ++ news.toArray ++ Builtin.zeroCells z.cells (grownCap w (n + m) old e - (n + m))) e))) e i.size
        (some ⟨w.heap.size, 0, none⟩) (n + m) (grownCap w (n + m) old e) (xs ++ news) ∧
      w.grownBy (w.drew.alloc (.cells (xs.toArray ++ news.toArray ++ Builtin.zeroCells z.cells (grownCap w (n + m) old e - (n + m))) e)) row := by
    intro old row
    have hge := grownCap_ge w (n + m) old e
    have hcm : grownCap w (n + m) old e ≤ maxLen := grownCap_le_maxLen w (n + m) old e (by unfold maxLen; omega)
    unfold maxLen at hcm
    refine ⟨⟨hlen, hge, by omega, .inr ⟨w.heap.size, 0, _, rfl, .inr ⟨Nat.le_refl _, by simp⟩, heap_alloc_new w.drew _, ?_, fun j u hu => ?_⟩⟩, ⟨rfl, rfl, rfl, by simp, fun k hk _ => Below.heap_alloc w.drew _ k hk⟩⟩
    · simp only [Array.size_append, List.size_toArray, size_zeroCells, hzs, h.1, hr.1, ← Nat.add_mul]
      rw [Nat.zero_add]
      exact Nat.mul_le_mul_right _ (by omega)
    · have hj := (List.getElem?_eq_some_iff.1 hu).1
      rw [Nat.zero_add, Array.getElem?_append_left (by simpa using hj)]
      simpa using hu
  rcases h.2.2.2 with ⟨rfl, rfl⟩ | ⟨g, off, cur, rfl, hF, hg, hle, hc⟩
  · obtain rfl : n = 0 := by have := h.2.1; omega
    have hx : xs = [] := List.eq_nil_of_length_eq_zero (by simpa using h.1)
    subst hx
    have hr2 := run_append_nil (P := P) w t ty e i z ht hi hz ⟨bb, oo, none⟩ m c2 news hr.1 hcells (by omega) (by omega) (by have hb := hbytes; simp only [Nat.zero_add] at hb; omega)
    have hgr := grown 0 ((none : Option Addr).map (·.block))
    simp only [Nat.zero_add, List.nil_append, Array.empty_append] at hgr ⊢
    exact ⟨_, _, _, hr2, hgr.1, hgr.2⟩
  · by_cases hroom : n + m ≤ c
    · have e2 : n * i.size + m * i.size ≤ c * i.size := by rw [← Nat.add_mul]; exact Nat.mul_le_mul_right _ hroom
      have hfit : off + n * i.size + news.length ≤ cur.size := by rw [hr.1]; omega
      have hr2 := run_append_at (P := P) w t ty e i ht hi g off n c cur hg ⟨bb, oo, none⟩ m c2 news hr.1 hcells h1 hroom hfit
      refine ⟨_, _, _, hr2, ⟨hlen, hroom, h.2.2.1, .inr ⟨g, off, _, rfl, .inl hF, setRow_heap w g cur _ e _ hg, ?_, fun j u hu => ?_⟩⟩, ⟨rfl, rfl, rfl, by simp, fun k _ hk => setRow_other w g k _ (fun e => hk (by simp [e]))⟩⟩
      · simp only [List.size_toArray, List.length_append, List.length_take, List.length_drop, Array.length_toList]
        omega
      · have hx := h.1
        simp only [List.getElem?_toArray]
        by_cases hj : j < xs.length
        · rw [List.getElem?_append_left hj] at hu
          rw [List.getElem?_append_left (by rw [List.length_append, List.length_take, Array.length_toList]; omega), List.getElem?_append_left (by rw [List.length_take, Array.length_toList]; omega), List.getElem?_take, if_pos (by omega)]
          rw [Array.getElem?_toList]
          exact hc j u hu
        · rw [List.getElem?_append_right (by omega)] at hu
          have hj2 := (List.getElem?_eq_some_iff.1 hu).1
          rw [List.getElem?_append_left (by rw [List.length_append, List.length_take, Array.length_toList]; omega), List.getElem?_append_right (by rw [List.length_take, Array.length_toList]; omega), List.length_take, Array.length_toList]
          rw [← hu]
          congr 1
          omega
    · have hr2 := run_append_grow (P := P) w t ty e i z ht hi hz ⟨g, off, none⟩ n c xs h.1 (fun j u hu => by rw [add_none, cell_of_row w g (off + j) cur e (0, 0) hg]; exact hc j u hu) ⟨bb, oo, none⟩ m c2 news hr.1 hcells (by omega) (by omega) (growslice_fits (by omega) hbytes)
      have hgr := grown c ((some (⟨g, off, none⟩ : Addr)).map (·.block))
      exact ⟨_, _, _, hr2, hgr.1, hgr.2⟩
/-- at a step of a region that draws its order -/
theorem step_append_que {P : Program} {w : World} {ops : Array Oper} {o : Oper} {a : Act} {K : Act → World → Prop} {Q : Exit → Act → World → Prop} {E : Prop} (hgd : o.guard = none) (s x : Operand) {t e : TypeId} {size bytes : Nat} {z : Value}
    (ho : o.op = .call { callee := .builtin .append, args := #[s, x], argTypes := #[t, t] }) (he : Elem P t e size bytes z) {F : Nat → Prop} {A : Option Addr} {n c : Nat} {xs : List Value} (hq : Que w F e size A n c xs) (hs : a.eval s = .slice A n c)
    (B : Nat) (ad : Addr) (m c2 : Nat) (news : List Value) (hx : a.eval x = .slice (some ad) m c2) (hr : Row w B size (some ad) m c2 news) (hm : 0 < m) (h1 : ∀ u ∈ news, u.oneCell' = true)
    (h63 : n + m ≤ 9223372036854775807) (hbytes : (n + m) * bytes ≤ 140737488355328)
    (h : ∀ A' c' w', Queued w F e size A (n + m) (xs ++ news) A' c' w' → K (a.put o.dst (.slice A' (n + m) c')) w') :
    if Region.wanted o (yielded ops a.tmps) = true then Oper.wp P o a w K Q else E := by
  have hw : Region.wanted o (yielded ops a.tmps) = true := by simp [Region.wanted, hgd]
  rw [if_pos hw]
  obtain ⟨A', c', w', hrun, h2⟩ := run_append_que (P := P) w o.type he hq B ad m c2 news hr hm h1 h63 hbytes
  unfold Oper.wp execOp
  simp only [ho, resolve, invoke, builtin, Sem.run_bind, Sem.run_pure, Result.andThen_ok, List.map_toArray, List.map_cons, List.map_nil, hs, hx, hrun]
  exact h A' c' w' h2
end Go.Proofs.Ytnbhbhnmidijkaa.Base
