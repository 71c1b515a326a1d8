/-
  Rows of bytes that a call makes itself: what is appended to one from another row, that it reads as a row of bytes, and what a store into one leaves. Also: rows of rows that came in, kept over what is made later.
-/
import Derived.Test.YtaijgndgdejicaaSums
import Derived.Maps.AppendAt
import Derived.Laws.OwnMore
import Derived.OwnWalk
namespace Go.Proofs.Ytaijgndgdejicaa.Crc
open Go.RowKit

def vals (l : List Int) : List Value := l.map (Value.int .u8)
theorem vals_append (l m : List Int) : vals (l ++ m) = vals l ++ vals m := List.map_append
theorem vals_length (l : List Int) : (vals l).length = l.length := List.length_map _
theorem vals_get (l : List Int) (j : Nat) (h : j < l.length) : (vals l)[j]? = some (.int .u8 (l.getD j 0)) := by
  rw [vals, List.getElem?_map, List.getElem?_eq_getElem h, List.getD_eq_getElem?_getD, List.getElem?_eq_getElem h]
  rfl
theorem vals_one (l : List Int) : ∀ u ∈ vals l, u.oneCell' = true := by
  intro u hu
  obtain ⟨x, _, rfl⟩ := List.mem_map.1 hu
  rfl
theorem byte_info : (Try.prog.info? 5).map (fun i => (i.zero, i.size, i.bytes)) = some (some (.int .u8 0), 1, 1) := by kernel_rfl

theorem Row8.own {w : World} {base : Nat} {A : Option Addr} {n c : Nat} {zs : List Int} (h : w.ownsRow base 5 1 (.slice A n c) n (vals zs)) (hb : bytesB zs) : Row8 w A n zs := by
  have hl : zs.length = n := by have := h.1; rw [vals_length] at this; omega
  rcases h.2 with ⟨he, rfl⟩ | ⟨g, cap, cur, he, hbase, hg, hnc, hcm, hcs, htake⟩
  · exact ⟨hl, by omega, hb, fun hn => absurd hn (by omega)⟩
  · simp only [Value.slice.injEq] at he
    obtain ⟨rfl, _, rfl⟩ := he
    unfold maxLen at hcm
    refine ⟨hl, by omega, hb, fun hn => ⟨g, 0, rfl, ?_, fun j hj => ?_⟩⟩
    · rcases Nat.lt_or_ge g w.heap.size with h1 | h1
      · exact h1
      · rw [Array.getElem?_eq_none h1] at hg; cases hg
    · have := h.cellAt j (by omega)
      rw [Nat.zero_add, this, vals_get zs j (by omega)]

theorem run_append_row (w : World) (ty : TypeId) (base : Nat) (v : Value) (n : Nat) (zs : List Int) (hown : w.ownsRow base 5 1 v n (vals zs)) (A : Option Addr) (m c : Nat) (ys : List Int) (hr : Row8 w A m ys)
    (hsmall : n + m ≤ 2147483648) (hbase : base ≤ w.heap.size) :
    ∃ A' c' w', (Builtin.append_ #[22, 22] ty #[v, .slice A m c]).run Try.prog w = .ok (.slice A' (n + m) c') w' ∧ w'.ownsRow base 5 1 (.slice A' (n + m) c') (n + m) (vals (zs ++ ys)) ∧ Below base w w' := by
  obtain ⟨i, hi, hz, hs, hby⟩ := info_parts byte_info
  rcases A with _ | ad
  · have hm : m = 0 := by
      rcases Nat.eq_zero_or_pos m with h0 | h0
      · exact h0
      · obtain ⟨b, off, h, _⟩ := hr.2.2.2 h0
        cases h
    subst hm
    have hy : ys = [] := List.eq_nil_of_length_eq_zero hr.1
    subst hy
    have hsame : (Builtin.append_ #[22, 22] ty #[v, .slice none 0 c]).run Try.prog w = .ok v w := by
      rcases hown.2 with ⟨rfl, rfl⟩ | ⟨g, cap, cur, rfl, _, _, hnc, _⟩
      · simp [Builtin.append_, run_underlying Try.underlying22, sizeOf, typeInfo, hi, Builtin.lenOf, Builtin.firstCells]
      · simp [Builtin.append_, run_underlying Try.underlying22, sizeOf, typeInfo, hi, Builtin.lenOf, Builtin.firstCells, hnc, storeCells]
    rw [hsame, List.append_nil]
    rcases hown.2 with ⟨rfl, rfl⟩ | ⟨g, cap, cur, rfl, _⟩
    · exact ⟨none, 0, w, rfl, hown, Below.refl _ _⟩
    · exact ⟨some ⟨g, 0, none⟩, cap, w, rfl, hown, Below.refl _ _⟩
  · have hcells : ∀ j u, (vals ys)[j]? = some u → w.cell? (ad.add j) = some u := by
      intro j u hu
      have hj : j < ys.length := by
        rcases Nat.lt_or_ge j ys.length with h1 | h1
        · exact h1
        · rw [List.getElem?_eq_none (by rw [vals_length]; exact h1)] at hu; cases hu
      obtain ⟨b, off, he, _, hc⟩ := hr.2.2.2 (by have := hr.1; omega)
      simp only [Option.some.injEq] at he
      subst he
      have hadd : (⟨b, off, none⟩ : Addr).add j = ⟨b, off + j, none⟩ := by
        by_cases h0 : j = 0
        · subst h0; rfl
        · simp [Addr.add, h0]
      rw [hadd, hc j (by have := hr.1; omega), ← hu, vals_get ys j hj]
    obtain ⟨v', w', hrun, h2, h3, _, _⟩ := run_append_own_at (P := Try.prog) w base 22 ty 5 i (.int .u8 0) 1 1 Try.underlying22 hi hz hs hby rfl (by omega) v n (vals zs) hown ad m c (vals ys)
      (by rw [vals_length, hr.1]; omega) hcells (vals_one ys) (by unfold maxLen; omega) (by omega) hbase
    rw [← vals_append] at h2
    have hb : Below base w w' := (Below.refl base w).grown h3 hbase (fun k hk => (hown.lt k hk).1)
    rcases h2.2 with ⟨hv, hnm⟩ | ⟨g, cap, cur, hv, _⟩
    · subst hv
      rw [hrun]
      exact ⟨none, 0, w', by rw [hnm], by rw [hnm] at h2 ⊢; exact h2, hb⟩
    · subst hv
      exact ⟨some ⟨g, 0, none⟩, cap, w', hrun, h2, hb⟩

theorem wpList_append_row {w : World} {ops : Array Oper} {rest : List Oper} {o : Oper} {a : Act} {Q : Exit → Act → World → Prop} (hgd : o.guard = none) (s x : Operand)
    (ho : o.op = .call { callee := .builtin .append, args := #[s, x], argTypes := #[22, 22] })
    (base : Nat) (v : Value) (n : Nat) (zs : List Int) (hs : a.eval s = v) (hown : w.ownsRow base 5 1 v n (vals zs)) (A : Option Addr) (m c : Nat) (ys : List Int) (hx : a.eval x = .slice A m c) (hr : Row8 w A m ys)
    (hsmall : n + m ≤ 2147483648) (hbase : base ≤ w.heap.size)
    (h : ∀ A' c' w', w'.ownsRow base 5 1 (.slice A' (n + m) c') (n + m) (vals (zs ++ ys)) → Below base w w' → wpList Try.prog ops Q rest (a.put o.dst (.slice A' (n + m) c')) w') :
    wpList Try.prog ops Q (o :: rest) a w := by
  refine wpList_plain hgd fun K hK => ?_
  obtain ⟨A', c', w', hrun, h2, h3⟩ := run_append_row w o.type base v n zs hown A m c ys hr hsmall hbase
  unfold Oper.wp execOp
  simp only [ho, resolve, invoke, builtin, Sem.run_bind, Sem.run_pure, Result.andThen_ok, List.map_toArray, List.map_cons, List.map_nil, hs, hx, hrun]
  exact hK _ _ (h A' c' w' h2 h3)

theorem Parts.below {w w' : World} {B : Nat} {A : Option Addr} {n : Nat} {ls : List (List Int)} (h : Parts w A n ls) (hb : Below B w w') (hB : w.heap.size ≤ B) : Parts w' A n ls := by
  obtain ⟨hl, hm, hy, hc⟩ := h
  refine ⟨hl, hm, hy, fun hn => ?_⟩
  obtain ⟨b, off, hA, hcell⟩ := hc hn
  refine ⟨b, off, hA, fun j hj => ?_⟩
  obtain ⟨A', m, c, h1, h2⟩ := hcell j hj
  refine ⟨A', m, c, ?_, h2.below hb hB⟩
  have hlt := World.block_lt_of_cell? w _ h1
  rw [hb.cell (p := ⟨b, off + j, none⟩) (by show b < B; have : b < w.heap.size := hlt; omega)]
  exact h1
end Go.Proofs.Ytaijgndgdejicaa.Crc
