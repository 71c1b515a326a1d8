/-
  Contracts of how the statements make a transaction that may be, of any one.
-/
import Derived.Test.YtjicdnknlfpajaaTxnSome
namespace Go.Proofs.Ytjicdnknlfpajaa.Txn
set_option linter.unusedVariables false
set_option maxRecDepth 100000
open Go.RowKit Base FieldMath TxnMath
open Go.Proofs.Ytjicdnknlfpajaa.Field (ret_bool modZ modZ_lt mod_any bigZ bigZ_lt playbig_any cut_any)
set_option linter.ambiguousOpen false
set_option linter.unusedSimpArgs false

theorem etx : Elem Try.prog 74 25 5 72 (.agg txz) := Elem.of Try.underlying74 (by kernel_rfl) rfl (by omega)
/-- a transaction in the making: whatever its number, it may be -/
def Fit (w : World) (base : Nat) (kind mark : Int) (A : Option Addr) (n c : Nat) (A' : Option Addr) (n' c' : Nat) : Prop :=
  ∃ (l : List Ch) (m : List ByteArray), w.ownsRow base 27 4 (.slice A n c) n (cv l) ∧ w.ownsRow base 9 1 (.slice A' n' c') n' (sv m) ∧ ∀ lsn : Int, 1 ≤ lsn → lsn ≤ 1099511627776 → Tx.may ⟨lsn, kind, l, m, mark⟩ = true
theorem Fit.new {w w' : World} {base : Nat} {kind mark : Int} {A : Option Addr} {n c : Nat} {A' : Option Addr} {n' c' : Nat} (h : Fit w base kind mark A n c A' n' c') (hb : Below w.heap.size w w') : Fit w' base kind mark A n c A' n' c' := by
  obtain ⟨l, m, h1, h2, h3⟩ := h
  exact ⟨l, m, own_keep h1 hb, own_keep h2 hb, h3⟩
theorem fit_mark {w : World} {base : Nat} {kind mark : Int} (hk : kind = 2 ∨ kind = 3) (h1 : 1 ≤ mark) (h2 : mark ≤ 1099511627776) : Fit w base kind mark none 0 0 none 0 0 :=
  ⟨[], [], World.ownsRow_nil _ _ _ _, World.ownsRow_nil _ _ _ _, fun lsn a b => by
    rw [may_two (mayLsn_iff.2 ⟨a, b⟩) hk, mayLsn_iff.2 ⟨h1, h2⟩]
    rfl⟩
theorem fit_client {w : World} {base : Nat} {A : Option Addr} {n c : Nat} {A' : Option Addr} {n' c' : Nat} {l : List Ch} {m : List ByteArray} (h1 : w.ownsRow base 27 4 (.slice A n c) n (cv l)) (h2 : w.ownsRow base 9 1 (.slice A' n' c') n' (sv m)) (hn : n ≤ 5) (hn' : n' ≤ 2) (ha : ∀ f ∈ l, f.may 8 = true) (hb : ∀ f ∈ m, f.size ≤ 40) : Fit w base 1 0 A n c A' n' c' :=
  ⟨l, m, h1, h2, fun lsn a b => by
    have e1 : l.length = n := by have := h1.1; rw [cv_length] at this; omega
    have e2 : m.length = n' := by have := h2.1; rw [sv, List.length_map] at this; omega
    rw [may_one (mayLsn_iff.2 ⟨a, b⟩)]
    unfold mayChs maySigs
    rw [e1, e2, decide_eq_true (by omega), decide_eq_true (by omega), List.all_eq_true.2 ha, List.all_eq_true.2 (fun x hx => decide_eq_true (hb x hx))]
    rfl⟩
/-- the one transaction that Txns makes -/
def MadeTx (w : World) (v : Value) (w' : World) : Prop := ∃ (A0 : Option Addr) (c0 : Nat) (kind mark : Int) (A : Option Addr) (n c : Nat) (A' : Option Addr) (n' c' : Nat), v = .slice A0 1 c0 ∧ w'.ownsRow w.heap.size 25 5 (.slice A0 1 c0) 1 [.int .i64 1, .int .i64 kind, .slice A n c, .slice A' n' c', .int .i64 mark] ∧ Fit w' w.heap.size kind mark A n c A' n' c'
def OneRel (w : World) (v i : Value) (wr : World) : Prop := Below w.heap.size w wr ∧ ((i = .int .i64 0 ∧ v = .slice none 0 0 ∧ w = wr) ∨ (i = .int .i64 1 ∧ MadeTx w v wr))
theorem one_tx (w : World) (kind mark : Int) (A : Option Addr) (n c : Nat) (A' : Option Addr) (n' c' : Nat) {s : Nat} (hs : s = w.heap.size) : Row (w.alloc (.cells #[.int .i64 1, .int .i64 kind, .slice A n c, .slice A' n' c', .int .i64 mark] 25)) (w.heap.size + 1) 5 (some ⟨s, 0, none⟩) 1 1 [.int .i64 1, .int .i64 kind, .slice A n c, .slice A' n' c', .int .i64 mark] :=
  Row.lit w #[.int .i64 1, .int .i64 kind, .slice A n c, .slice A' n' c', .int .i64 mark] _ (0, 0) hs rfl (by omega)
theorem tx_one (kind mark : Int) (A : Option Addr) (n c : Nat) (A' : Option Addr) (n' c' : Nat) : ∀ u ∈ [Value.int .i64 1, .int .i64 kind, .slice A n c, .slice A' n' c', .int .i64 mark], u.oneCell' = true := by
  intro u hu
  simp only [List.mem_cons, List.not_mem_nil, or_false] at hu
  rcases hu with rfl | rfl | rfl | rfl | rfl <;> rfl

set_option maxHeartbeats 3200000 in
theorem ptxns_any (B s : Nat) (lsn kind mark : Int) (A : Option Addr) (n c : Nat) (l : List Ch) (A' : Option Addr) (n' c' : Nat) (m : List ByteArray) (w : World) (hb : Blk w s 25 #[.int .i64 lsn, .int .i64 kind, .slice A n c, .slice A' n' c', .int .i64 mark]) (h1 : Chs w B A n c l) (h2 : Sigs w B A' n' c' m) (hB : B ≤ w.heap.size)
    (ho1 : ∀ f ∈ l, f.val.size ≤ 9223372036854775807) (ho2 : ∀ f ∈ m, f.size ≤ 9223372036854775807) :
    Calls Try.prog 45 #[.slice (some ⟨s, 0, none⟩) 1 1, .int .i64 8, .int .i64 1] w fun e w' => ∃ v, e = .returned v ∧ MadeTx w v w' ∧ Below w.heap.size w w' := by
  have HX := Lib.hid hb
  have HC := Lib.hid h1
  have HS := Lib.hid h2
  have HO1 := Lib.hid ho1
  have HO2q := Lib.hid ho2
  have hsl := hb.lt
  clear hb h1 h2 ho1 ho2
  have C1 := Lib.hid (fun w => mod_any kind 9 w (by omega) (by omega))
  have b1 := modZ_lt kind (n := 9) (by omega)
  have C2 := Lib.hid (fun v w => mod_any v 2 w (by omega) (by omega))
  have b2 := fun v => modZ_lt v (n := 2) (by omega)
  have C3 := Lib.hid (fun w => playbig_any mark 20 w (by omega) (by omega))
  have b3 := bigZ_lt mark (n := 20) (by omega)
  have B2 := Lib.hid b2
  clear b2
  generalize modZ kind 9 = k1 at C1 b1
  generalize bigZ mark 20 = k3 at C3 b3
  go_enter Try.func45, Try.ntmps45
  go_wp2
  go_loopw [7, 8, 9] (fun v i _ wr => OneRel w v i wr) (fun _ i _ _ => 1 - (intOf i).toNat)
  case atStart => exact ⟨Below.refl _ _, .inl ⟨rfl, rfl, rfl⟩⟩
  case round =>
    obtain ⟨hbel, ⟨rfl, rfl, rfl⟩ | ⟨rfl, hmade⟩⟩ := hrel
    · have x1 : w.cell? ⟨s, 1, none⟩ = some (.int .i64 kind) := HX.out.cell 1
      have x2 : w.cell? ⟨s, 2, none⟩ = some (.slice A n c) := HX.out.cell 2
      have x3 : w.cell? ⟨s, 3, none⟩ = some (.slice A' n' c') := HX.out.cell 3
      have x4 : w.cell? ⟨s, 4, none⟩ = some (.int .i64 mark) := HX.out.cell 4
      clear hbel
      have HT : Hid (Blk (w.alloc (.cells #[.int .i64 1, .int .i64 1, .slice none 0 0, .slice none 0 0, .int .i64 0] 25)) w.heap.size 25 #[.int .i64 1, .int .i64 1, .slice none 0 0, .slice none 0 0, .int .i64 0]) := Blk.new _ _ _
      have HW : Hid (Below w.heap.size w (w.alloc (.cells #[.int .i64 1, .int .i64 1, .slice none 0 0, .slice none 0 0, .int .i64 0] 25))) := (Below.refl _ _).alloc (Nat.le_refl _) _
      go_wp2_with fail
      refine (C1.out _).mono ?_
      rintro e w1 ⟨rfl, rfl⟩
      by_cases h8 : k1 = 8
      · subst h8
        go_wp2_with fail
        refine (C2.out _ _).mono ?_
        rintro e w1 ⟨rfl, rfl⟩
        have hb2 := B2.out (wrap64 (kind.tdiv 9))
        generalize modZ (wrap64 (kind.tdiv 9)) 2 = z at hb2 ⊢
        go_wp2_with fail
        refine (C3.out _).mono ?_
        rintro e w1 ⟨rfl, rfl⟩
        go_wp2_with (first
          | (at_builtin
             refine wpList_append_row rfl (.tmp 64) (.tmp 66) rfl etx (w.heap.size + 2) _ 0 [] rfl (World.ownsRow_nil _ _ _ _) _ _ 1 1 [.int .i64 1, .int .i64 (2 + (z : Int)), .slice none 0 0, .slice none 0 0, .int .i64 (1 + (k3 : Int))] rfl (one_tx _ (2 + (z : Int)) (1 + (k3 : Int)) none 0 0 none 0 0 (by simp)) (tx_one _ _ _ _ _ _ _ _) (by omega) (by omega) (by simp) ?_
             intro A4 c4 w4 hown4 _ hb4
             rw [List.nil_append, Nat.zero_add] at hown4
             rw [Nat.zero_add]
             have HO4 := Lib.hid (own_mono hown4 (show w.heap.size ≤ w.heap.size + 2 by omega))
             have HB4 : Hid (Below w.heap.size w w4) := (((Below.refl w.heap.size w).alloc (Nat.le_refl _) _).alloc (by simp) _).trans (hb4.mono (by omega))
             clear hown4 hb4)
          | fail)
        go_roundw
        case rel => exact ⟨HB4.out, .inr ⟨rfl, A4, c4, 2 + (z : Int), 1 + (k3 : Int), none, 0, 0, none, 0, 0, rfl, HO4.out, fit_mark (by omega) (by omega) (by omega)⟩⟩
        case measure => simp [intOf]
      · have h8' : ((k1 : Int) == 8) = false := by simp; omega
        go_wp2_with fail
        refine (pchanges_any B A n c l _ (HC.out.below (HW.out.mono hB)) (Nat.le_trans hB HW.out.size) HO1.out).mono ?_
        rintro e w1 ⟨l1, A1, n1, c1, rfl, hn1, ho1, ha1, hb1⟩
        have HO := Lib.hid ho1
        have HA := Lib.hid ha1
        have HT1 := Lib.hid (HT.out.below hb1 HT.out.lt)
        have HX1 := Lib.hid ((HX.out.alloc _).below hb1 (by simp; omega))
        have HB1 := Lib.hid (held_two HW.out hb1)
        have y3 : w1.cell? ⟨s, 3, none⟩ = some (.slice A' n' c') := HX1.out.cell 3
        have k2 : w1.cell? ⟨w.heap.size, 2, none⟩ = some (.slice none 0 0) := HT1.out.cell 2
        have f2 := HT1.out.frozen 2
        have hsn : s ≠ w.heap.size := by omega
        have hns : w.heap.size ≠ s := by omega
        clear ho1 ha1 hb1 x1 x2 x3 x4
        go_wp2_with fail
        have HS1 : Hid (Sigs (w1.setCell ⟨w.heap.size, 2, none⟩ (.slice A1 n1 c1)) B A' n' c' m) := Row.setCell (HS.out.below (HB1.out.mono hB)) (by exact hB) _
        have HT2 : Hid (Blk (w1.setCell ⟨w.heap.size, 2, none⟩ (.slice A1 n1 c1)) w.heap.size 25 #[.int .i64 1, .int .i64 1, .slice A1 n1 c1, .slice none 0 0, .int .i64 0]) := HT1.out.set_ 2 _
        have HB2 : Hid (Below w.heap.size w (w1.setCell ⟨w.heap.size, 2, none⟩ (.slice A1 n1 c1))) := HB1.out.setCell (by exact Nat.le_refl _) _
        have HO2 : Hid ((w1.setCell ⟨w.heap.size, 2, none⟩ (.slice A1 n1 c1)).ownsRow (w.heap.size + 1) 27 4 (.slice A1 n1 c1) n1 (cv l1)) := (own_mono HO.out (by simp)).kept (only_setCell (World.grownBy.refl _ (some w.heap.size)) (.inl rfl) _) (.inr fun e => by have := (HO.out.lt _ e).1; simp at this; omega)
        refine (psignals_any B A' n' c' m _ HS1.out (Nat.le_trans hB HB2.out.size) HO2q.out).mono ?_
        rintro e w3 ⟨m3, A3, n3, c3, rfl, hn3, ho3, ha3, hb3⟩
        have HO3 := Lib.hid (own_keep HO2.out hb3)
        have HS3 := Lib.hid (own_mono ho3 (show w.heap.size + 1 ≤ (w1.setCell ⟨w.heap.size, 2, none⟩ (.slice A1 n1 c1)).heap.size from HT2.out.lt))
        have HA3 := Lib.hid ha3
        have HT3 := Lib.hid (HT2.out.below hb3 HT2.out.lt)
        have HB3 := Lib.hid (held_two HB2.out hb3)
        have z0 : w3.cell? ⟨w.heap.size, 0, none⟩ = some (.int .i64 1) := HT3.out.cell 0
        have z1 : w3.cell? ⟨w.heap.size, 1, none⟩ = some (.int .i64 1) := HT3.out.cell 1
        have z2 : w3.cell? ⟨w.heap.size, 2, none⟩ = some (.slice A1 n1 c1) := HT3.out.cell 2
        have z3 : w3.cell? ⟨w.heap.size, 3, none⟩ = some (.slice none 0 0) := HT3.out.cell 3
        have z4 : w3.cell? ⟨w.heap.size, 4, none⟩ = some (.int .i64 0) := HT3.out.cell 4
        have f3 := HT3.out.frozen 3
        have hz3 : w.heap.size < w3.heap.size := HT3.out.lt
        have HO5 : Hid ((w3.setCell ⟨w.heap.size, 3, none⟩ (.slice A3 n3 c3)).ownsRow (w.heap.size + 1) 27 4 (.slice A1 n1 c1) n1 (cv l1)) := HO3.out.kept (only_setCell (World.grownBy.refl _ (some w.heap.size)) (.inl rfl) _) (.inr fun e => by have := (HO3.out.lt _ e).1; omega)
        have HS5 : Hid ((w3.setCell ⟨w.heap.size, 3, none⟩ (.slice A3 n3 c3)).ownsRow (w.heap.size + 1) 9 1 (.slice A3 n3 c3) n3 (sv m3)) := HS3.out.kept (only_setCell (World.grownBy.refl _ (some w.heap.size)) (.inl rfl) _) (.inr fun e => by have := (HS3.out.lt _ e).1; omega)
        have HB5 : Hid (Below w.heap.size w (w3.setCell ⟨w.heap.size, 3, none⟩ (.slice A3 n3 c3))) := HB3.out.setCell (by exact Nat.le_refl _) _
        clear ho3 ha3 hb3 y3 k2 f2
        go_wp2_with (first
          | (at_builtin
             refine wpList_append_row rfl (.tmp 64) (.tmp 66) rfl etx ((w3.setCell ⟨w.heap.size, 3, none⟩ (.slice A3 n3 c3)).alloc (.cells #[.int .i64 1, .int .i64 1, .slice A1 n1 c1, .slice A3 n3 c3, .int .i64 0] 25)).heap.size _ 0 [] rfl (World.ownsRow_nil _ _ _ _) _ _ 1 1 [.int .i64 1, .int .i64 1, .slice A1 n1 c1, .slice A3 n3 c3, .int .i64 0] rfl (one_tx _ 1 0 A1 n1 c1 A3 n3 c3 (by simp)) (tx_one _ _ _ _ _ _ _ _) (by omega) (by omega) (by simp) ?_
             intro A4 c4 w4 hown4 _ hb4
             rw [List.nil_append, Nat.zero_add] at hown4
             rw [Nat.zero_add]
             have HO4 := Lib.hid (own_mono hown4 (show w.heap.size ≤ _ by simp; omega))
             have HF4 := Lib.hid (((fit_client HO5.out HS5.out hn1 hn3 HA.out HA3.out).new ((Below.refl _ _).alloc (Nat.le_refl _) (.cells #[.int .i64 1, .int .i64 1, .slice A1 n1 c1, .slice A3 n3 c3, .int .i64 0] 25))).new hb4)
             have HB4 : Hid (Below w.heap.size w w4) := held_two (HB5.out.alloc HB5.out.size _) hb4
             clear hown4 hb4)
          | fail)
        go_roundw
        case rel => exact ⟨HB4.out, .inr ⟨rfl, A4, c4, 1, 0, A1, n1, c1, A3, n3, c3, rfl, HO4.out, by
          obtain ⟨a, b, h1, h2, h3⟩ := HF4.out
          exact ⟨a, b, own_mono h1 (by omega), own_mono h2 (by omega), h3⟩⟩⟩
        case measure => simp [intOf]
    · go_wp2
      go_ret
      exact ⟨_, rfl, hmade, hbel⟩
end Go.Proofs.Ytjicdnknlfpajaa.Txn
