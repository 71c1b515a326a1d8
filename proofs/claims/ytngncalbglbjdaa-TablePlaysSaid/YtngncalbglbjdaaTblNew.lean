/-
  Package table: the contract of New.
-/
import Derived.Test.YtngncalbglbjdaaTblLoad
namespace Go.Proofs.Ytngncalbglbjdaa.Tbl
set_option linter.unusedVariables false
set_option maxRecDepth 100000
open Go.RowKit Base IdxMath Foot Idx
set_option linter.ambiguousOpen false
set_option linter.unusedSimpArgs false

def nilp : Value := .pointer none
def half (ps : List Nat) (m : Nat) : Array Value := (ps.map ptr ++ List.replicate m nilp).toArray
theorem half_at (ps : List Nat) (m : Nat) (hm : 0 < m) : (half ps m)[ps.length]? = some nilp := by
  simp [half, hm]
theorem half_set (ps : List Nat) (m q : Nat) : (half ps (m + 1)).setIfInBounds ps.length (ptr q) = half (ps ++ [q]) m := by
  simp [half, List.replicate_succ, List.set_append]
/-- a set begun: k of its n tables are there -/
structure Half (w wr : World) (g p n k : Nat) (ps : List Nat) (G : Nat → Nat → Prop) : Prop where
  box : Blk wr p 59 #[.slice (some ⟨g, 0, none⟩) n n]
  row : Blk wr g 63 (half ps (n - k))
  len : ps.length = k
  le : k ≤ n
  ne : p ≠ g
  hg : w.heap.size ≤ g
  hp : w.heap.size ≤ p
  each : ∀ i q, ps[i]? = some q → IdxAt wr (G i) q []
  ing : ∀ i x, i < k → x < wr.heap.size → G i x → w.heap.size ≤ x ∧ x ≠ p ∧ x ≠ g
  apart : ∀ i j x, i < k → j < k → i ≠ j → x < wr.heap.size → G i x → ¬ G j x
  new : Below w.heap.size w wr
def Part (w wr : World) (g p n k : Nat) : Prop := ∃ ps G, Half w wr g p n k ps G
theorem Part.lay {w wr w2 : World} {g p n k q : Nat} (h : Part w wr g p n k) (hk : k < n) (hq : IdxAt w2 (fun x => wr.heap.size ≤ x ∧ x < w2.heap.size) q []) (hb : Below wr.heap.size wr w2) : Part w (w2.setCell ⟨g, k, none⟩ (ptr q)) g p n (k + 1) := by
  obtain ⟨ps, G, h⟩ := h
  have hfar : ∀ x, x ≠ g → (w2.setCell ⟨g, k, none⟩ (ptr q)).heap[x]? = w2.heap[x]? := fun x hx => Below.heap_setCell w2 _ _ x hx
  have hplt := h.box.lt
  have hglt := h.row.lt
  have hsz := size_setCell w2 ⟨g, k, none⟩ (ptr q)
  have hle := hb.size
  have hlen := h.len
  refine ⟨ps ++ [q], fun j x => if j = k then wr.heap.size ≤ x ∧ x < w2.heap.size else G j x ∧ x < wr.heap.size, ?_⟩
  refine ⟨(hfar p h.ne).trans (h.box.below hb hplt), ?_, by rw [List.length_append, h.len]; rfl, hk, h.ne, h.hg, h.hp, ?_, ?_, ?_, ?_⟩
  · have h1 := (h.row.below hb hglt).set_ k (ptr q)
    rw [show n - k = n - (k + 1) + 1 by omega, ← hlen, half_set] at h1
    rw [← hlen]
    exact h1
  · intro j q' h1
    by_cases hj : j = k
    · subst hj
      rw [← hlen, List.getElem?_append_right (Nat.le_refl _), Nat.sub_self] at h1
      obtain rfl := Option.some.inj h1
      refine (hq.mono fun x hx hG => ?_).keep fun x hx hG => hfar x ?_
      · rw [if_pos rfl]; exact hG
      · rw [if_pos rfl] at hG; omega
    · have hjk : j < k := by
        have := (List.getElem?_eq_some_iff.1 h1).1
        rw [List.length_append, hlen] at this
        simp only [List.length_cons, List.length_nil] at this
        omega
      rw [List.getElem?_append_left (by omega)] at h1
      have h4 : IdxAt w2 (fun x => G j x ∧ x < wr.heap.size) q' [] := ((h.each j q' h1).mono (F' := fun x => G j x ∧ x < wr.heap.size) fun x hx hG => ⟨hG, hx⟩).new hb
      refine (h4.mono fun x hx hG => ?_).keep fun x hx hG => hfar x ?_
      · rw [if_neg hj]; exact hG
      · rw [if_neg hj] at hG
        exact (h.ing j x hjk hG.2 hG.1).2.2
  · intro j x hj hx hG
    by_cases hjk : j = k
    · rw [if_pos hjk] at hG
      have := h.hg
      exact ⟨by omega, by omega, by omega⟩
    · rw [if_neg hjk] at hG
      exact h.ing j x (by omega) hG.2 hG.1
  · intro i j x hi hj hij hx h1 h2
    by_cases hik : i = k
    · rw [if_pos hik] at h1
      rw [if_neg (fun e => hij (hik.trans e.symm))] at h2
      omega
    · rw [if_neg hik] at h1
      by_cases hjk : j = k
      · rw [if_pos hjk] at h2
        omega
      · rw [if_neg hjk] at h2
        exact h.apart i j x (by omega) (by omega) hij h1.2 h1.1 h2.1
  · exact (Turn.below (F := fun x => w.heap.size ≤ x) ((Turn.new (F := fun x => w.heap.size ≤ x) (held_two h.new hb)).setCell (.inl h.hg) _) (fun i hi => hi) (Nat.le_refl _))
theorem Part.done {w wr : World} {g p n : Nat} (h : Part w wr g p n n) (h1 : 1 ≤ n) (h8 : n ≤ 8) : SetAt wr (fun i => w.heap.size ≤ i ∧ i < wr.heap.size) p (List.replicate n []) := by
  obtain ⟨ps, G, h⟩ := h
  have hl : (List.replicate n ([] : List Rw)).length = n := List.length_replicate
  refine ⟨g, ps, G, ?_⟩
  refine ⟨by rw [hl]; exact h.box, ?_, by rw [hl, h.len], by rw [hl]; exact h8, by rw [hl]; exact h1, ⟨h.hp, h.box.lt⟩, ⟨h.hg, h.row.lt⟩, h.ne, ?_, ?_, ?_⟩
  · have := h.row
    rw [Nat.sub_self] at this
    unfold half at this
    simpa using this
  · intro i q l e1 e2
    obtain rfl : l = [] := List.eq_of_mem_replicate (List.mem_of_getElem? e2)
    exact h.each i q e1
  · intro i x hi hx hG
    rw [hl] at hi
    have := h.ing i x hi hx hG
    exact ⟨⟨this.1, hx⟩, this.2⟩
  · intro i j x hi hj
    rw [hl] at hi hj
    exact h.apart i j x hi hj
theorem Part.start {w w1 : World} {n : Nat} (ho : w1.ownsRow w.heap.size 63 1 (.slice (some ⟨w.heap.size, 0, none⟩) n n) n (List.replicate n nilp)) (hb : Below w.heap.size w w1) (hn : 1 ≤ n) :
    Part w (w1.alloc (.cells #[.slice (some ⟨w.heap.size, 0, none⟩) n n] 59)) w.heap.size w1.heap.size n 0 := by
  rcases ho.2 with ⟨hv, h0⟩ | ⟨b, cap, cur, hv, hbase, hg, h1, h2, h3, h4⟩
  · omega
  · simp only [Value.slice.injEq, Option.some.injEq, Addr.mk.injEq] at hv
    obtain ⟨⟨rfl, _⟩, _, rfl⟩ := hv
    have hc : cur = half [] n := by
      apply Array.toList_inj.1
      rw [List.take_of_length_le (by rw [Array.length_toList, h3]; exact Nat.le_refl _)] at h4
      rw [h4]
      simp [half]
    subst hc
    have hlt : w.heap.size < w1.heap.size := Blk.lt (w := w1) hg
    refine ⟨[], fun _ _ => False, Blk.new _ _ _, Blk.alloc hg _, rfl, Nat.zero_le _, by omega, Nat.le_refl _, by omega, ?_, ?_, ?_, hb.alloc hb.size _⟩
    · intro i q h; simp at h
    · intro i x hi; omega
    · intro i j x hi; omega

/-- what New does -/
def Made (w : World) (n : Int) (e : Ending) (w' : World) : Prop :=
  if 1 ≤ n ∧ n ≤ 8 then ∃ p, e = .returned (.tuple #[.pointer (some ⟨p, 0, none⟩), .int .i64 0]) ∧ SetAt w' (fun i => w.heap.size ≤ i ∧ i < w'.heap.size) p (List.replicate n.toNat []) ∧ Below w.heap.size w w'
  else e = .returned (.tuple #[.pointer none, .int .i64 1]) ∧ w' = w
theorem et : Elem Try.prog 57 63 1 8 (.agg #[nilp]) := .of (by rfl) (by rfl) rfl (by omega)
set_option maxHeartbeats 3200000 in
theorem new_any (n : Int) (w : World) : Calls Try.prog 8 #[.int .i64 n] w (Made w n) := by
  rcases Int.lt_or_le n 1 with h1 | h1
  · go_enter Try.func8, Try.ntmps8
    go_wp2
    go_ret2
    unfold Made
    rw [if_neg (by omega)]
    exact ⟨rfl, rfl⟩
  rcases Int.lt_or_le 8 n with h8 | h8
  · go_enter Try.func8, Try.ntmps8
    go_wp2
    go_ret2
    unfold Made
    rw [if_neg (by omega)]
    exact ⟨rfl, rfl⟩
  obtain ⟨m, rfl⟩ := Int.eq_ofNat_of_zero_le (show 0 ≤ n by omega)
  have HM1 : 1 ≤ m := by omega
  have HM8 : m ≤ 8 := by omega
  go_enter Try.func8, Try.ntmps8
  go_wp2_with (first
    | (refine wpList_make_elem _ rfl (.tmp 12) (.tmp 12) rfl et w.heap.size .i64 .i64 _ _ m rfl rfl rfl rfl (by omega) (by omega) (Nat.le_refl _) ?_
       intro w1 ho1 hb1
       replace ho1 : w1.ownsRow w.heap.size 63 1 (.slice (some ⟨w.heap.size, 0, none⟩) m m) m (madeCells #[nilp] (m * 1)).toList := ho1
       rw [Nat.mul_one, toList_madeCells_one] at ho1
       have HP := Lib.hid (Part.start ho1 hb1 HM1)
       clear ho1 hb1))
  generalize w1.alloc (.cells #[.slice (some ⟨w.heap.size, 0, none⟩) m m] 59) = w2 at HP ⊢
  generalize w1.heap.size = p at HP ⊢
  generalize w.heap.size = g at HP ⊢
  clear w1
  go_loopw [21, 5] (fun vi vj wr => ∃ k : Nat, vi = .int .i64 k ∧ k ≤ m ∧ Part w wr g p m k) (fun vi _ _ => m - (intOf vi).toNat)
  case atStart => exact ⟨0, rfl, Nat.zero_le _, HP.out⟩
  case round =>
    obtain ⟨k, rfl, hk, hpart⟩ := hrel
    have HK := Lib.hid hpart
    clear HP
    obtain ⟨ps, G, hH⟩ := hpart
    have c0 : wr.cell? ⟨p, 0, none⟩ = some (.slice (some ⟨g, 0, none⟩) m m) := hH.box.cell 0
    by_cases hkm : k < m
    · have l1 : (k : Int) < (m : Int) := by omega
      have c1 : wr.cell? ⟨g, k, none⟩ = some nilp := by rw [hH.row.cell k, ← hH.len]; exact half_at _ _ (by have := hH.len; omega)
      have z1 : wr.frozen? ⟨g, k, none⟩ = false := hH.row.frozen k
      have HR := Lib.hid hH.row
      have hglt : g < wr.heap.size := hH.row.lt
      clear hH
      go_wp2_with fail
      go_region_with (first
        | (go_at_call 29; refine (Idx.new_any wr.heap.size none 0 0 [] wr.drew (Rs.nil_ _ _) (Nat.le_refl _) (by omega)).mono ?_; rintro e w3 ⟨q, rfl, hq, hb2⟩; have hb2' : Below wr.heap.size wr w3 := held_two (held_start wr) hb2; have d0 := held_cell hb2' c0; have d1 := held_cell hb2' c1; have dz := (HR.out.below hb2' hglt).frozen k; have HQ := Lib.hid (And.intro hq hb2'); clear hb2 hb2' hq)
        | fail)
      all_goals (go_wp2; refine ⟨⟨k + 1, by rw [Int.natCast_add]; rfl, hkm, HK.out.lay hkm HQ.out.1 HQ.out.2⟩, ?_⟩; simp only [intOf, Int.toNat_natCast]; omega)
    · have l1 : decide ((k : Int) < (m : Int)) = false := decide_eq_false (by omega)
      obtain rfl : k = m := by omega
      clear hH
      go_wp2
      go_ret2
      unfold Made
      rw [if_pos (by omega)]
      obtain ⟨ps', G', hH'⟩ := HK.out
      exact ⟨p, rfl, by rw [Int.toNat_natCast]; exact HK.out.done HM1 HM8, hH'.new⟩
end Go.Proofs.Ytngncalbglbjdaa.Tbl
