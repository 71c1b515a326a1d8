/-
  The document's replica: contracts of its Cells, Rows. No condition but the sizes said.
-/
import Derived.Test.YtlbgpfiiiggofaaRpSet
import Derived.Test.YtlbgpfiiiggofaaGdApi
import Derived.Test.YtlbgpfiiiggofaaRegionLast
import Derived.Deep.DeepCutAuto
namespace Go.Proofs.Ytlbgpfiiiggofaa.Gd
set_option linter.unusedVariables false
set_option linter.unusedSimpArgs false
set_option maxRecDepth 100000
open Go.RowKit Base GuardMath Foot
open Idx (rv rv_append er Rs)
set_option linter.ambiguousOpen false

set_option maxHeartbeats 1600000 in
theorem rcells_any (R : Nat → Prop) (p : Nat) (T : List (List Ce)) (M : Nat) (t : Int) (w : World) (h : RAt w R p T) (hM : Most T M) (hsz : M ≤ 1099511627774) :
    Calls Try.prog 15 #[.pointer (some ⟨p, 0, none⟩), .int .i64 t] w (CesNew w (tab T t)) := by
  obtain ⟨b, cs, h⟩ := h
  have c0 : w.cell? ⟨p, 0, none⟩ = some (.slice (some ⟨b, 0, none⟩) T.length T.length) := h.box.cell 0
  have HY := Lib.hid h
  clear h
  by_cases hit : isT T t = true
  · obtain ⟨i, rfl, hi⟩ := isT_nat hit
    obtain ⟨A5, n5, c5, l0, e2, d2, ho0, _, _⟩ := HY.out.get hi
    have htab : tab T (i : Int) = l0 := tab_get e2
    have hln : l0.length = n5 := Ces.len (Ces.of_own ho0)
    have hn5 : n5 ≤ 1099511627774 := by have := hM (i : Int); rw [htab] at this; omega
    have k1 : decide ((i : Int) < 0) = false := decide_eq_false (by omega)
    have k2 : decide ((T.length : Int) ≤ (i : Int)) = false := decide_eq_false (by omega)
    have k2n : decide (T.length ≤ i) = false := decide_eq_false (by omega)
    have l3 : (i : Int) < (T.length : Int) := by omega
    have HR := Lib.hid (Ces.of_own ho0)
    rw [htab]
    have HL := Lib.hid hln
    have a0 := (World.cell?_alloc_lt w (.cells #[] 38) ⟨p, 0, none⟩ HY.out.box.lt).trans c0
    have a1 := (World.cell?_alloc_lt w (.cells #[] 38) ⟨b, i, none⟩ HY.out.row.lt).trans d2
    clear hit e2 htab ho0 hln
    go_enter Try.func15, Try.ntmps15
    go_wp2_with (first
      | (at_builtin
         refine wpList_append_row rfl (.tmp 16) (.tmp 23) rfl cel w.heap.size _ 0 [] rfl (own_empty _ _ _ _ rfl (Nat.le_refl _)) w.heap.size A5 n5 c5 (cv l0) rfl (Row.alloc HR.out (Nat.le_refl _) _) (cv_one _) (by omega) (by omega) (by simp) ?_
         intro A1 c1 w1 hown1 _ hb1
         rw [Nat.zero_add, List.nil_append] at hown1
         rw [Nat.zero_add]
         have HO := Lib.hid hown1
         have HB1 := Lib.hid (((Below.refl w.heap.size w).alloc (Nat.le_refl _) _).trans hb1)
         clear hown1 hb1)
      | fail)
    go_ret
    have hO := HO.out
    have hl := HL.out
    subst hl
    exact ⟨A1, c1, rfl, hO, HB1.out⟩
  · have hit : isT T t = false := by simpa using hit
    rw [tab_none hit]
    have hit2 : ¬ (0 ≤ t ∧ t < (T.length : Int)) := of_decide_eq_false hit
    clear hit
    rcases Int.lt_or_le t 0 with t1 | t1
    · have k1 : decide (t < 0) = true := decide_eq_true t1
      clear hit2
      go_enter Try.func15, Try.ntmps15
      go_wp2
      go_ret
      exact ⟨none, 0, rfl, World.ownsRow_nil _ _ _ _, Below.refl _ _⟩
    · have k1 : decide (t < 0) = false := decide_eq_false (by omega)
      have k2 : decide ((T.length : Int) ≤ t) = true := decide_eq_true (by omega)
      clear hit2
      go_enter Try.func15, Try.ntmps15
      go_wp2
      go_ret
      exact ⟨none, 0, rfl, World.ownsRow_nil _ _ _ _, Below.refl _ _⟩
set_option maxHeartbeats 3200000 in
theorem rrows_any (R : Nat → Prop) (p : Nat) (T : List (List Ce)) (M : Nat) (t : Int) (w : World) (h : RAt w R p T) (hM : Most T M) (hsz : M ≤ 1099511627774) :
    Calls Try.prog 18 #[.pointer (some ⟨p, 0, none⟩), .int .i64 t] w (RwsNew w (rows (tab T t))) := by
  have HL := Lib.hid (Nat.le_trans (hM t) hsz)
  have HC := Lib.hid (rcells_any R p T M t w h hM hsz)
  clear h
  go_enter Try.func18, Try.ntmps18
  go_wp2_with (go_at_call 15; refine HC.out.mono ?_; rintro e w1 ⟨A, c, rfl, h1, h2⟩; have HR := Lib.hid (Ces.of_own h1); have HB := Lib.hid h2; clear h1 h2)
  generalize hl : tab T t = l at *
  have hle := HR.out.le
  have hll : l.length ≤ 1099511627774 := HL.out
  clear hl HL
  go_loopw [5, 7] (fun v vi wr => ∃ (k : Nat) (A' : Option Addr) (c' : Nat), vi = .int .i64 k ∧ k ≤ l.length ∧ v = .slice A' (rows (l.take k)).length c' ∧ wr.ownsRow w1.heap.size 43 2 v (rows (l.take k)).length (rv (rows (l.take k))) ∧ Below w1.heap.size w1 wr) (fun _ vi _ => l.length - (Go.RowKit.intOf vi).toNat)
  case atStart => exact ⟨0, none, 0, rfl, Nat.zero_le _, rfl, World.ownsRow_nil _ _ _ _, Below.refl _ _⟩
  case round =>
    obtain ⟨k, A', c', rfl, hk, rfl, ho, hb⟩ := hrel
    have HO := Lib.hid ho
    have HB2 := Lib.hid hb
    clear ho hb
    by_cases hlt : k < l.length
    · obtain ⟨b, off, f, rfl, hbB, q0, q1, q2, q3, hf, ht⟩ := (HR.out.below HB2.out).at_ hlt
      obtain ⟨f0, f1, f2, f3⟩ := f
      dsimp only at q0 q1 q2 q3
      have l1 : (k : Int) < (l.length : Int) := by omega
      have HTK := Lib.hid (show rows (l.take (k + 1)) = rows (l.take k) ++ (if f2 then [] else [⟨f0, f3⟩]) by rw [ht, rows_snoc])
      have hrl : (rows (l.take k)).length ≤ k := Nat.le_trans (rows_le _) (by rw [List.length_take]; omega)
      clear hf ht
      cases f2 with
      | true =>
        have HX : Hid (rows (l.take (k + 1)) = rows (l.take k)) := by show _ = _; rw [HTK.out]; simp
        go_wp2
        go_roundw
        case rel => exact ⟨k + 1, A', c', by go_num, by omega, by rw [HX.out], by rw [HX.out]; exact HO.out, HB2.out⟩
        case measure => simp [Go.RowKit.intOf]; omega
      | false =>
        have HX : Hid (rows (l.take (k + 1)) = rows (l.take k) ++ [⟨f0, f3⟩]) := by show _ = _; rw [HTK.out]; simp
        have hlen : (rows (l.take (k + 1))).length = (rows (l.take k)).length + 1 := by rw [HX.out, List.length_append]; rfl
        have HLN := Lib.hid hlen
        clear hlen q1
        go_upto_region 7 with fail
        have HSX : Hid (∀ wx, Below wr.heap.size wr wx → wx.cell? ⟨b, off + k * 4, none⟩ = some (.int .i64 f0) ∧ wx.cell? ⟨b, off + k * 4 + 3, none⟩ = some (.string f3)) := fun wx hb => ⟨held_cell hb q0, held_cell hb q3⟩
        refine Go.wp_region_held_drew (S := fun w' => w'.cell? ⟨b, off + k * 4, none⟩ = some (.int .i64 f0) ∧ w'.cell? ⟨b, off + k * 4 + 3, none⟩ = some (.string f3)) (by kernel_rfl) (HSX.out _ (held_start wr)) (fun hHeld => ?_)
        refine wpAnyH_take (i := 0) (v := ?av0) rfl (by kernel_rfl) (by kernel_rfl) (by kernel_rfl) (fun _ _ _ h => h) (Or.inl ⟨by rfl, ?ay0⟩) (by assumption) ?ar0
        case ay0 => (intro w hSw; (try dsimp only at hSw); go_simp; try with_reducible rfl)
        try simp only [Act.put, List.getElem_toArray, List.getElem_cons_succ, List.getElem_cons_zero, List.setIfInBounds_toArray, List.set_cons_zero, List.set_cons_succ]
        refine wpAnyH_take (i := 1) (v := ?av1) rfl (by kernel_rfl) (by kernel_rfl) (by kernel_rfl) (fun _ _ _ h => h) (Or.inl ⟨by rfl, ?ay1⟩) (by assumption) ?ar1
        case ay1 => (intro w hSw; (try dsimp only at hSw); go_simp; try with_reducible rfl)
        try simp only [Act.put, List.getElem_toArray, List.getElem_cons_succ, List.getElem_cons_zero, List.setIfInBounds_toArray, List.set_cons_zero, List.set_cons_succ]
        refine wpAnyH_take (i := 2) (v := ?av2) rfl (by kernel_rfl) (by kernel_rfl) (by kernel_rfl) (fun _ _ _ h => h) (Or.inl ⟨by rfl, ?ay2⟩) (by assumption) ?ar2
        case ay2 => (intro w hSw; (try dsimp only at hSw); go_simp; try with_reducible rfl)
        try simp only [Act.put, List.getElem_toArray, List.getElem_cons_succ, List.getElem_cons_zero, List.setIfInBounds_toArray, List.set_cons_zero, List.set_cons_succ]
        refine wpAnyH_take (i := 3) (v := ?av3) rfl (by kernel_rfl) (by kernel_rfl) (by kernel_rfl) (fun _ _ _ h => h) (Or.inl ⟨by rfl, ?ay3⟩) (by assumption) ?ar3
        case ay3 => (intro w hSw; (try dsimp only at hSw); go_simp; try with_reducible rfl)
        try simp only [Act.put, List.getElem_toArray, List.getElem_cons_succ, List.getElem_cons_zero, List.setIfInBounds_toArray, List.set_cons_zero, List.set_cons_succ]
        refine wpAnyH_take (i := 4) (v := ?av4) rfl (by kernel_rfl) (by kernel_rfl) (by kernel_rfl) (fun _ _ _ h => h) (Or.inl ⟨by rfl, ?ay4⟩) (by assumption) ?ar4
        case ay4 => (intro w hSw; (try dsimp only at hSw); go_simp; try with_reducible rfl)
        try simp only [Act.put, List.getElem_toArray, List.getElem_cons_succ, List.getElem_cons_zero, List.setIfInBounds_toArray, List.set_cons_zero, List.set_cons_succ]
        refine wpAnyH_take (i := 5) (v := ?av5) rfl (by kernel_rfl) (by kernel_rfl) (by kernel_rfl) (fun _ _ _ h => h) (Or.inl ⟨by rfl, ?ay5⟩) (by assumption) ?ar5
        case ay5 => (intro w hSw; (try dsimp only at hSw); go_simp; try with_reducible rfl)
        try simp only [Act.put, List.getElem_toArray, List.getElem_cons_succ, List.getElem_cons_zero, List.setIfInBounds_toArray, List.set_cons_zero, List.set_cons_succ]
        refine wpAnyH_take (i := 6) (v := ?av6) rfl (by kernel_rfl) (by kernel_rfl) (by kernel_rfl) (fun _ _ _ h => h) (Or.inl ⟨by rfl, ?ay6⟩) (by assumption) ?ar6
        case ay6 => (intro w hSw; (try dsimp only at hSw); go_simp; try with_reducible rfl)
        try simp only [Act.put, List.getElem_toArray, List.getElem_cons_succ, List.getElem_cons_zero, List.setIfInBounds_toArray, List.set_cons_zero, List.set_cons_succ]
        refine wpAnyH_take (i := 7) (v := ?av7) rfl (by kernel_rfl) (by kernel_rfl) (by kernel_rfl) (fun _ _ _ h => h) (Or.inl ⟨by rfl, ?ay7⟩) (by assumption) ?ar7
        case ay7 => (intro w hSw; (try dsimp only at hSw); go_simp; try with_reducible rfl)
        try simp only [Act.put, List.getElem_toArray, List.getElem_cons_succ, List.getElem_cons_zero, List.setIfInBounds_toArray, List.set_cons_zero, List.set_cons_succ]
        refine wpAnyH_take (i := 8) (v := ?av8) rfl (by kernel_rfl) (by kernel_rfl) (by kernel_rfl) (fun _ _ _ h => h) (Or.inl ⟨by rfl, ?ay8⟩) (by assumption) ?ar8
        case ay8 => (intro w hSw; (try dsimp only at hSw); go_simp; try with_reducible rfl)
        try simp only [Act.put, List.getElem_toArray, List.getElem_cons_succ, List.getElem_cons_zero, List.setIfInBounds_toArray, List.set_cons_zero, List.set_cons_succ]
        refine wpAnyH_take (i := 9) (v := ?av9) rfl (by kernel_rfl) (by kernel_rfl) (by kernel_rfl) (fun _ _ _ h => h) (Or.inl ⟨by rfl, ?ay9⟩) (by assumption) ?ar9
        case ay9 => (intro w hSw; (try dsimp only at hSw); go_simp; try with_reducible rfl)
        try simp only [Act.put, List.getElem_toArray, List.getElem_cons_succ, List.getElem_cons_zero, List.setIfInBounds_toArray, List.set_cons_zero, List.set_cons_succ]
        refine wpAnyH_take (i := 10) (v := ?av10) rfl (by kernel_rfl) (by kernel_rfl) (by kernel_rfl) (fun _ _ _ h => h) (Or.inl ⟨by rfl, ?ay10⟩) (by assumption) ?ar10
        case ay10 => (intro w hSw; (try dsimp only at hSw); go_simp; try with_reducible rfl)
        try simp only [Act.put, List.getElem_toArray, List.getElem_cons_succ, List.getElem_cons_zero, List.setIfInBounds_toArray, List.set_cons_zero, List.set_cons_succ]
        refine wpAnyH_take (i := 11) (v := ?av11) rfl (by kernel_rfl) (by kernel_rfl) (by kernel_rfl) (fun _ _ _ h => h) (Or.inl ⟨by rfl, ?ay11⟩) (by assumption) ?ar11
        case ay11 => (intro w hSw; (try dsimp only at hSw); go_simp; try with_reducible rfl)
        try simp only [Act.put, List.getElem_toArray, List.getElem_cons_succ, List.getElem_cons_zero, List.setIfInBounds_toArray, List.set_cons_zero, List.set_cons_succ]
        refine wpAnyH_ready (rs := [12]) (by kernel_rfl) (by simp) ?_
        refine AllReadyH.cons rfl (fun K hK => ?_) AllReadyH.nil
        go_simp
        refine hK.out _ _ (HSX.out _ (held_alloc_drew (held_start wr) _)) (fun hHeld => ?_)
        clear hK K
        try simp only [Act.put, List.getElem_toArray, List.getElem_cons_succ, List.getElem_cons_zero, List.setIfInBounds_toArray, List.set_cons_zero, List.set_cons_succ]
        refine wpAnyH_ready (rs := [13]) (by kernel_rfl) (by simp) ?_
        refine AllReadyH.cons rfl (fun K hK => ?_) AllReadyH.nil
        refine step_append_row (by rfl) (.tmp 23) (.tmp 35) (by rfl) er w1.heap.size _ (rows (l.take k)).length (rv (rows (l.take k))) (by rfl) (own_drew (own_keep HO.out ((Below.refl _ _).alloc (Nat.le_refl _) _))) (wr.heap.size + 1) _ 1 1 (rv [(⟨f0, f3⟩ : IdxMath.Rw)]) (by rfl) (Row.drew (row_one wr f0 f3 rfl)) (Idx.rv_one _) (by omega) (by omega) (by have := HB2.out.size; simp [World.drew]; omega) ?_
        intro A4 c4 w4 ho4 _ hb4
        rw [← rv_append] at ho4
        have HO4 := Lib.hid ho4
        have HB4 : Hid (Below w1.heap.size w1 w4) := ((HB2.out.alloc HB2.out.size _).drew).trans hb4
        have HS4 := Lib.hid (show w4.cell? ⟨b, off + k * 4, none⟩ = some (.int .i64 f0) ∧ w4.cell? ⟨b, off + k * 4 + 3, none⟩ = some (.string f3) from by
          have h0 := (((Below.refl w1.heap.size wr).alloc HB2.out.size _).drew).trans hb4
          exact ⟨(h0.cell (p := ⟨b, off + k * 4, none⟩) hbB).trans q0, (h0.cell (p := ⟨b, off + k * 4 + 3, none⟩) hbB).trans q3⟩)
        clear ho4 hb4
        refine hK.out _ _ HS4.out (fun hHeld => ?_)
        clear hK K
        try simp only [Act.put, List.getElem_toArray, List.getElem_cons_succ, List.getElem_cons_zero, List.setIfInBounds_toArray, List.set_cons_zero, List.set_cons_succ]
        refine wpAnyH_take (i := 14) (v := ?bv14) rfl (by kernel_rfl) (by kernel_rfl) (by kernel_rfl) (fun _ _ _ h => h) (Or.inl ⟨by rfl, ?by14⟩) (by assumption) ?br14
        case by14 => (intro w hSw; (try dsimp only at hSw); go_simp; try with_reducible rfl)
        try simp only [Act.put, List.getElem_toArray, List.getElem_cons_succ, List.getElem_cons_zero, List.setIfInBounds_toArray, List.set_cons_zero, List.set_cons_succ]
        refine wpAnyH_done (by kernel_rfl) ?_ _
        go_wp2
        go_roundw
        case rel => exact ⟨k + 1, A4, c4, by go_num, by omega, by rw [HLN.out], by rw [HLN.out, HX.out]; exact HO4.out, HB4.out⟩
        case measure => simp [Go.RowKit.intOf]; omega
    · have l1 : ¬ ((k : Int) < (l.length : Int)) := by omega
      obtain rfl : k = l.length := by omega
      rw [List.take_length] at HO
      rw [List.take_length]
      go_wp2
      go_ret
      exact ⟨A', c', rfl, own_mono HO.out HB.out.size, HB.out.trans (HB2.out.mono HB.out.size)⟩
end Go.Proofs.Ytlbgpfiiiggofaa.Gd
