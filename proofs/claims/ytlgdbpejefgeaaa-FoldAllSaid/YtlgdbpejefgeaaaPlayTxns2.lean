/-
  Contract of how the statements make transactions that may be (play.Txns): the walk.
-/
import Derived.Test.YtlgdbpejefgeaaaPlayTxns
namespace Go.Proofs.Ytlgdbpejefgeaaa.PTx
set_option linter.unusedVariables false
set_option maxRecDepth 100000
open Go.RowKit Base TxnMath
open PChg (Cs gv gcells pchanges_any all_snoc)
open Go.Proofs.Ytlgdbpejefgeaaa.Field (modZ modZ_lt mod_any bigZ bigZ_lt playbig_any cut_any)
set_option linter.ambiguousOpen false
set_option linter.unusedSimpArgs false

theorem InTx.new {w w' : World} {base i : Nat} {vs : List Value} {x : Tx} (h : InTx w base vs i x) (hb : Below w.heap.size w w') : InTx w' base vs i x := by
  obtain ⟨A1, n1, c1, A2, n2, c2, hv, h4, h5⟩ := h
  exact ⟨A1, n1, c1, A2, n2, c2, hv, own_keep h4 hb, own_keep h5 hb⟩
theorem TxRow.push {w w4 : World} {base k c c4 : Nat} {A A4 : Option Addr} {l : List Tx} {vs : List Value} {x : Tx} {A1 A2 : Option Addr} {n1 c1 n2 c2 : Nat} (h1 : w.ownsRow base 42 5 (.slice A k c) k vs) (h2 : l.length = k) (h3 : ∀ i y, l[i]? = some y → InTx w base vs i y)
    (h4 : w4.ownsRow base 42 5 (.slice A4 (k + 1) c4) (k + 1) (vs ++ tcells x.lsn x.kind x.mark A1 n1 c1 A2 n2 c2)) (hg : w.grownBy w4 (Value.slice A k c).ownBlock) (h5 : w.ownsRow base 44 4 (.slice A1 n1 c1) n1 (gv x.chs)) (h6 : w.ownsRow base 9 1 (.slice A2 n2 c2) n2 (sv x.sigs)) :
    TxRow w4 base A4 (k + 1) c4 (l ++ [x]) := by
  have hl : vs.length = k * 5 := h1.1
  refine ⟨_, h4, by rw [List.length_append, h2]; rfl, fun i y hy => ?_⟩
  rcases Nat.lt_or_ge i k with hik | hik
  · rw [List.getElem?_append_left (by omega)] at hy
    obtain ⟨B1, m1, d1, B2, m2, d2, hv, h7, h8⟩ := h3 i y hy
    refine ⟨B1, m1, d1, B2, m2, d2, fun j hj => ?_, own_other h7 h1 chg_ne hg, own_other h8 h1 str_ne hg⟩
    rw [List.getElem?_append_left (by omega)]
    exact hv j hj
  · obtain rfl : i = k := by
      have := (List.getElem?_eq_some_iff.1 hy).1
      rw [List.length_append, h2] at this
      simp at this
      omega
    rw [List.getElem?_append_right (by omega), h2, Nat.sub_self] at hy
    simp only [List.getElem?_cons_zero, Option.some.injEq] at hy
    subst hy
    refine ⟨A1, n1, c1, A2, n2, c2, fun j hj => ?_, own_other h5 h1 chg_ne hg, own_other h6 h1 str_ne hg⟩
    rw [List.getElem?_append_right (by omega), hl, Nat.add_sub_cancel_left]
theorem TxRow.txs {w : World} {base k c : Nat} {A : Option Addr} {l : List Tx} (h : TxRow w base A k c l) : Txs w w.heap.size A k c l := by
  obtain ⟨vs, h1, h2, h3⟩ := h
  obtain ⟨r1, r2, r3, r4⟩ := Row.of_own h1
  refine ⟨h2, r2, r3, fun i x hx => ?_⟩
  have hik : i < k := by have := (List.getElem?_eq_some_iff.1 hx).1; omega
  obtain ⟨b, off, e, hb, hc⟩ := r4 (by omega)
  obtain ⟨A1, n1, c1, A2, n2, c2, hv, h4, h5⟩ := h3 i x hx
  refine ⟨b, off, e, hb, A1, n1, c1, A2, n2, c2, ?_, ?_, ?_, ?_, ?_, Row.of_own h4, Row.of_own h5⟩
  · exact hc (i * 5 + 0) _ (by rw [hv 0 (by omega)]; rfl)
  · exact hc (i * 5 + 1) _ (by rw [hv 1 (by omega)]; rfl)
  · exact hc (i * 5 + 2) _ (by rw [hv 2 (by omega)]; rfl)
  · exact hc (i * 5 + 3) _ (by rw [hv 3 (by omega)]; rfl)
  · exact hc (i * 5 + 4) _ (by rw [hv 4 (by omega)]; rfl)
theorem AllGood.snoc {N : Nat} {l : List Tx} {x : Tx} (h : AllGood N l) (hx : Good N l.length x) : AllGood N (l ++ [x]) := by
  intro i y hy
  rcases Nat.lt_or_ge i l.length with hi | hi
  · rw [List.getElem?_append_left hi] at hy
    exact h i y hy
  · have hi2 : i = l.length := by
      have := (List.getElem?_eq_some_iff.1 hy).1
      rw [List.length_append] at this
      simp at this
      omega
    subst hi2
    rw [List.getElem?_append_right (Nat.le_refl _), Nat.sub_self] at hy
    simp only [List.getElem?_cons_zero, Option.some.injEq] at hy
    subst hy
    exact hx
/-- transactions that the statements made -/
def MadeTxs (N M : Nat) (w : World) (e : Ending) (w' : World) : Prop := ∃ (l : List Tx) (A : Option Addr) (n c : Nat), e = .returned (.slice A n c) ∧ n ≤ M ∧ Txs w' w'.heap.size A n c l ∧ AllGood N l ∧ Below w.heap.size w w'
def TxRel (N M : Nat) (w : World) (n : Nat) (v i : Value) (wr : World) : Prop := ∃ (k : Nat) (l : List Tx) (A : Option Addr) (c : Nat), k ≤ n ∧ k ≤ M ∧ i = .int .i64 k ∧ v = .slice A k c ∧ TxRow wr w.heap.size A k c l ∧ AllGood N l ∧ Below w.heap.size w wr

set_option maxHeartbeats 6400000 in
theorem ptxns_any (N M : Nat) (hN : 1 ≤ N) (hN8 : N ≤ 8) (hM : M ≤ 1000) (B : Nat) (A : Option Addr) (n c : Nat) (l : List Tx) (w : World) (h : Txs w B A n c l) (hB : B ≤ w.heap.size)
    (hok : ∀ x ∈ l, (∀ f ∈ x.chs, f.val.size ≤ 9223372036854775807) ∧ ∀ f ∈ x.sigs, f.size ≤ 9223372036854775807) :
    Calls Try.prog 10 #[.slice A n c, .int .i64 N, .int .i64 M] w (MadeTxs N M w) := by
  have hle := h.le
  have HR := Lib.hid h
  have HOK := Lib.hid hok
  clear h hok
  have C2 := Lib.hid (fun v w => mod_any v 2 w (by omega) (by omega))
  have B2 := Lib.hid (fun v => modZ_lt v (n := 2) (by omega))
  go_enter Try.func10, Try.ntmps10
  go_wp2
  go_loopw [7, 8] (fun v i wr => TxRel N M w n v i wr) (fun _ i _ => n - (Go.RowKit.intOf i).toNat)
  case atStart => exact ⟨0, [], none, 0, by omega, by omega, rfl, rfl, ⟨[], World.ownsRow_nil _ _ _ _, rfl, fun i x hx => by simp at hx⟩, (fun i x hx => by simp at hx), Below.refl _ _⟩
  case round =>
    obtain ⟨k, pre, A0, c0, hk, hkM, rfl, rfl, hrow, hall, hbel⟩ := hrel
    have HROW := Lib.hid hrow
    have HA := Lib.hid hall
    have HB := Lib.hid hbel
    have hz := hbel.size
    obtain ⟨vs, hvs, hpl, hin⟩ := hrow
    have HVS := Lib.hid hvs
    have HIN := Lib.hid hin
    clear hvs hin hall hbel
    by_cases hgo : k < n ∧ k < M
    · obtain ⟨hlt, hltM⟩ := hgo
      obtain ⟨b, off, x, rfl, hbB, hx, A1, n1, c1, A2, n2, c2, x0, x1, x2, x3, x4, hcs, hss⟩ := (HR.out.below (HB.out.mono hB)).at_ hlt
      have hokx := HOK.out x (List.mem_of_getElem? hx)
      have HO1 := Lib.hid hokx.1
      have HO2 := Lib.hid hokx.2
      have HCS := Lib.hid hcs
      have HSS := Lib.hid hss
      have l1 : (k : Int) < (n : Int) := by omega
      have l2 : (k : Int) < (M : Int) := by omega
      clear hx hokx hcs hss x0
      have C1 := Lib.hid (fun w => mod_any x.kind 9 w (by omega) (by omega))
      have b1 := modZ_lt x.kind (n := 9) (by omega)
      have C3 := Lib.hid (fun w => playbig_any x.mark 20 w (by omega) (by omega))
      have b3 := bigZ_lt x.mark (n := 20) (by omega)
      generalize modZ x.kind 9 = k1 at C1 b1
      generalize bigZ x.mark 20 = k3 at C3 b3
      have hbw : b < wr.heap.size := by omega
      have hbs : b ≠ wr.heap.size := by omega
      have hsb : wr.heap.size ≠ b := by omega
      have HT : Hid (Blk (wr.alloc (.cells #[.int .i64 ((k : Int) + 1), .int .i64 1, .slice none 0 0, .slice none 0 0, .int .i64 0] 42)) wr.heap.size 42 #[.int .i64 ((k : Int) + 1), .int .i64 1, .slice none 0 0, .slice none 0 0, .int .i64 0]) := Blk.new _ _ _
      have HW : Hid (Below wr.heap.size wr (wr.alloc (.cells #[.int .i64 ((k : Int) + 1), .int .i64 1, .slice none 0 0, .slice none 0 0, .int .i64 0] 42))) := (Below.refl _ _).alloc (Nat.le_refl _) _
      go_wp2_with fail
      refine (C1.out _).mono ?_
      rintro e w1 ⟨rfl, rfl⟩
      by_cases h8 : k1 = 8
      · subst h8
        go_wp2_with fail
        refine (C2.out _ _).mono ?_
        rintro e w1 ⟨rfl, rfl⟩
        have hb2 := B2.out (wrap64 (x.kind.tdiv 9))
        generalize modZ (wrap64 (x.kind.tdiv 9)) 2 = z at hb2 ⊢
        go_wp2_with fail
        refine (C3.out _).mono ?_
        rintro e w1 ⟨rfl, rfl⟩
        have HW2 : Hid (Below wr.heap.size wr ((wr.alloc (.cells #[.int .i64 ((k : Int) + 1), .int .i64 (2 + (z : Int)), .slice none 0 0, .slice none 0 0, .int .i64 (1 + (k3 : Int))] 42)).alloc (.cells #[.int .i64 ((k : Int) + 1), .int .i64 (2 + (z : Int)), .slice none 0 0, .slice none 0 0, .int .i64 (1 + (k3 : Int))] 42))) := ((Below.refl _ _).alloc (Nat.le_refl _) _).alloc (by simp) _
        go_wp2_with (first
          | (at_builtin
             refine wpList_append_row rfl (.tmp 64) (.tmp 66) rfl etx w.heap.size _ k vs rfl (own_keep HVS.out HW2.out) _ _ 1 1 (tcells ((k : Int) + 1) (2 + (z : Int)) (1 + (k3 : Int)) none 0 0 none 0 0) rfl (one_tx _ ((k : Int) + 1) (2 + (z : Int)) (1 + (k3 : Int)) none 0 0 none 0 0 (by simp)) (tcells_one _ _ _ _ _ _ _ _ _) (by omega) (by omega) (by have := HW2.out.size; simp at this ⊢; omega) ?_
             intro A4 c4 w4 hown4 hg4 hb4
             have HP4 := Lib.hid (TxRow.push (x := ⟨(k : Int) + 1, 2 + (z : Int), [], [], 1 + (k3 : Int)⟩) (own_keep HVS.out HW2.out) hpl (fun i y hy => (HIN.out i y hy).new HW2.out) hown4 hg4.1 (World.ownsRow_nil _ _ _ _) (World.ownsRow_nil _ _ _ _))
             have HB4 : Hid (Below w.heap.size w w4) := (HB.out.trans (HW2.out.mono hz)).trans hb4
             clear hown4 hg4 hb4)
          | fail)
        have HG : Hid (AllGood N (pre ++ [⟨(k : Int) + 1, 2 + (z : Int), [], [], 1 + (k3 : Int)⟩])) := HA.out.snoc ⟨by rw [hpl], by simp, (fun f hf => by cases hf), by simp, (fun f hf => by cases hf), .inr ⟨by dsimp only; omega, by dsimp only; omega, by dsimp only; omega, rfl, rfl⟩⟩
        go_roundw
        case rel => exact ⟨k + 1, _, A4, c4, by omega, by omega, by go_num, rfl, HP4.out, HG.out, HB4.out⟩
        case measure => simp [Go.RowKit.intOf]; omega
      · have h8' : ((k1 : Int) == 8) = false := by simp; omega
        go_wp2_with fail
        refine (pchanges_any N 5 hN hN8 (by omega) B A1 n1 c1 x.chs _ (Row.below HCS.out (HW.out.mono (Nat.le_trans hB hz))) (Nat.le_trans (Nat.le_trans hB hz) HW.out.size) HO1.out).mono ?_
        rintro e w1 ⟨l1', A3, n3, c3, rfl, hn3, ho3, ha3, hb3⟩
        have HO := Lib.hid ho3
        have HCA := Lib.hid ha3
        have HT1 := Lib.hid (HT.out.below hb3 HT.out.lt)
        have HB1 := Lib.hid (held_two HW.out hb3)
        have y3 : w1.cell? ⟨b, off + k * 5 + 3, none⟩ = some (.slice A2 n2 c2) := (HB1.out.cell (p := ⟨b, off + k * 5 + 3, none⟩) hbw).trans x3
        have k2 : w1.cell? ⟨wr.heap.size, 2, none⟩ = some (.slice none 0 0) := HT1.out.cell 2
        have f2 := HT1.out.frozen 2
        clear ho3 ha3 hb3 x1 x2 x3 x4
        go_wp2_with fail
        have HS1 : Hid (Ss (w1.setCell ⟨wr.heap.size, 2, none⟩ (.slice A3 n3 c3)) B A2 n2 c2 x.sigs) := Row.setCell (Row.below HSS.out (HB1.out.mono (Nat.le_trans hB hz))) (by exact Nat.le_trans hB hz) _
        have HT2 : Hid (Blk (w1.setCell ⟨wr.heap.size, 2, none⟩ (.slice A3 n3 c3)) wr.heap.size 42 #[.int .i64 ((k : Int) + 1), .int .i64 1, .slice A3 n3 c3, .slice none 0 0, .int .i64 0]) := HT1.out.set_ 2 _
        have HB2 : Hid (Below wr.heap.size wr (w1.setCell ⟨wr.heap.size, 2, none⟩ (.slice A3 n3 c3))) := HB1.out.setCell (by exact Nat.le_refl _) _
        have HO2' : Hid ((w1.setCell ⟨wr.heap.size, 2, none⟩ (.slice A3 n3 c3)).ownsRow (wr.heap.size + 1) 44 4 (.slice A3 n3 c3) n3 (gv l1')) := (own_mono HO.out (by simp)).kept (only_setCell (World.grownBy.refl _ (some wr.heap.size)) (.inl rfl) _) (.inr fun e => by have := (HO.out.lt _ e).1; simp at this; omega)
        refine (psignals_any N 2 hN (by omega) (by omega) B A2 n2 c2 x.sigs _ HS1.out (Nat.le_trans (Nat.le_trans hB hz) HB2.out.size) HO2.out).mono ?_
        rintro e w3 ⟨m3, A5, n5, c5, rfl, hn5, ho5, ha5, hb5⟩
        have HO3 := Lib.hid (own_keep HO2'.out hb5)
        have HS3 := Lib.hid (own_mono ho5 (show wr.heap.size + 1 ≤ (w1.setCell ⟨wr.heap.size, 2, none⟩ (.slice A3 n3 c3)).heap.size from HT2.out.lt))
        have HA3 := Lib.hid ha5
        have HT3 := Lib.hid (HT2.out.below hb5 HT2.out.lt)
        have HB3 := Lib.hid (held_two HB2.out hb5)
        have z0 : w3.cell? ⟨wr.heap.size, 0, none⟩ = some (.int .i64 ((k : Int) + 1)) := HT3.out.cell 0
        have z1 : w3.cell? ⟨wr.heap.size, 1, none⟩ = some (.int .i64 1) := HT3.out.cell 1
        have z2 : w3.cell? ⟨wr.heap.size, 2, none⟩ = some (.slice A3 n3 c3) := HT3.out.cell 2
        have z3 : w3.cell? ⟨wr.heap.size, 3, none⟩ = some (.slice none 0 0) := HT3.out.cell 3
        have z4 : w3.cell? ⟨wr.heap.size, 4, none⟩ = some (.int .i64 0) := HT3.out.cell 4
        have f3 := HT3.out.frozen 3
        have hz3 : wr.heap.size < w3.heap.size := HT3.out.lt
        have HO5 : Hid ((w3.setCell ⟨wr.heap.size, 3, none⟩ (.slice A5 n5 c5)).ownsRow (wr.heap.size + 1) 44 4 (.slice A3 n3 c3) n3 (gv l1')) := HO3.out.kept (only_setCell (World.grownBy.refl _ (some wr.heap.size)) (.inl rfl) _) (.inr fun e => by have := (HO3.out.lt _ e).1; omega)
        have HS5 : Hid ((w3.setCell ⟨wr.heap.size, 3, none⟩ (.slice A5 n5 c5)).ownsRow (wr.heap.size + 1) 9 1 (.slice A5 n5 c5) n5 (sv m3)) := HS3.out.kept (only_setCell (World.grownBy.refl _ (some wr.heap.size)) (.inl rfl) _) (.inr fun e => by have := (HS3.out.lt _ e).1; omega)
        have HB5 : Hid (Below wr.heap.size wr (w3.setCell ⟨wr.heap.size, 3, none⟩ (.slice A5 n5 c5))) := HB3.out.setCell (by exact Nat.le_refl _) _
        clear ho5 ha5 hb5 y3 k2 f2
        have HL3 : Hid (Below (w3.setCell ⟨wr.heap.size, 3, none⟩ (.slice A5 n5 c5)).heap.size (w3.setCell ⟨wr.heap.size, 3, none⟩ (.slice A5 n5 c5)) ((w3.setCell ⟨wr.heap.size, 3, none⟩ (.slice A5 n5 c5)).alloc (.cells #[.int .i64 ((k : Int) + 1), .int .i64 1, .slice A3 n3 c3, .slice A5 n5 c5, .int .i64 0] 42))) := (Below.refl _ _).alloc (Nat.le_refl _) _
        have HV5 : Hid (((w3.setCell ⟨wr.heap.size, 3, none⟩ (.slice A5 n5 c5)).alloc (.cells #[.int .i64 ((k : Int) + 1), .int .i64 1, .slice A3 n3 c3, .slice A5 n5 c5, .int .i64 0] 42)).ownsRow w.heap.size 42 5 (.slice A0 k c0) k vs) := own_keep HVS.out (held_two HB5.out HL3.out)
        go_wp2_with (first
          | (at_builtin
             refine wpList_append_row rfl (.tmp 64) (.tmp 66) rfl etx w.heap.size _ k vs rfl HV5.out _ _ 1 1 (tcells ((k : Int) + 1) 1 0 A3 n3 c3 A5 n5 c5) rfl (one_tx _ ((k : Int) + 1) 1 0 A3 n3 c3 A5 n5 c5 (by simp)) (tcells_one _ _ _ _ _ _ _ _ _) (by omega) (by omega) (by have := (held_two HB5.out HL3.out).size; omega) ?_
             intro A4 c4 w4 hown4 hg4 hb4
             have HP4 := Lib.hid (TxRow.push (x := ⟨(k : Int) + 1, 1, l1', m3, 0⟩) HV5.out hpl (fun i y hy => ((HIN.out i y hy).new HB5.out).new HL3.out) hown4 hg4.1 (own_mono (own_keep HO5.out HL3.out) (by omega)) (own_mono (own_keep HS5.out HL3.out) (by omega)))
             have HB4 : Hid (Below w.heap.size w w4) := (HB.out.trans ((held_two HB5.out HL3.out).mono hz)).trans hb4
             clear hown4 hg4 hb4)
          | fail)
        have HG : Hid (AllGood N (pre ++ [⟨(k : Int) + 1, 1, l1', m3, 0⟩])) := HA.out.snoc ⟨by rw [hpl], by have h1 := HO5.out.1; rw [PChg.gv_length] at h1; dsimp only; omega, HCA.out, by have h1 := HS5.out.1; rw [sv, List.length_map] at h1; dsimp only; omega, HA3.out, .inl ⟨rfl, rfl⟩⟩
        go_roundw
        case rel => exact ⟨k + 1, _, A4, c4, by omega, by omega, by go_num, rfl, HP4.out, HG.out, HB4.out⟩
        case measure => simp [Go.RowKit.intOf]; omega
    · by_cases hkn : k < n
      all_goals
        have h5 : k < n → ¬ k < M := fun h h5 => hgo ⟨h, h5⟩
        clear hgo
      · have l1 : (k : Int) < (n : Int) := by omega
        have l2 : ¬ (k : Int) < (M : Int) := by omega
        go_wp2
        go_ret
        exact ⟨pre, A0, k, c0, rfl, hkM, HROW.out.txs, HA.out, HB.out⟩
      · have l1 : ¬ (k : Int) < (n : Int) := by omega
        go_wp2
        go_ret
        exact ⟨pre, A0, k, c0, rfl, hkM, HROW.out.txs, HA.out, HB.out⟩
end Go.Proofs.Ytlgdbpejefgeaaa.PTx
