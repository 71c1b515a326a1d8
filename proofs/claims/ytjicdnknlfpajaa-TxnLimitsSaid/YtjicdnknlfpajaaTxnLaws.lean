/-
  The walk of the statement TxnMays: it answers true, whatever the input, and writes nothing that was there.
-/
import Derived.Test.YtjicdnknlfpajaaTxnHelp
import Derived.Test.YtjicdnknlfpajaaTxnRefEncode
import Derived.Deep.RegionHeld3
namespace Go.Proofs.Ytjicdnknlfpajaa.Txn
set_option linter.unusedVariables false
set_option maxRecDepth 100000
open Go.RowKit Base FieldMath TxnMath
open Go.Proofs.Ytjicdnknlfpajaa.Field (ret_bool)
set_option linter.ambiguousOpen false
set_option linter.unusedSimpArgs false

theorem great_any (B : Nat) (t : Tx) (v : Value) (w : World) (h : TxIn w B t v) :
    Calls Try.prog 12 #[v] w fun e w' => ∃ g : Bool, e = .returned (.bool g) ∧ Below w.heap.size w w' := by
  obtain ⟨A, n, c, P, m, k, rfl, h1, h2⟩ := h
  unfold txv
  clear h1 h2
  go_enter Try.func12, Try.ntmps12
  go_wp2
  go_ret
  exact ⟨_, rfl, (Below.refl _ _).alloc (Nat.le_refl _) _⟩
theorem encT_both {w w' : World} {t : Tx} {e : Ending} (h : EncT w t e w') : ∃ A c, e = .returned (.tuple #[.slice A (got (encT t)).length c, .int .i64 (err (encT t))]) ∧ Bytes w' w'.heap.size A (got (encT t)).length c (got (encT t)) ∧ Below w.heap.size w w' := by
  obtain ⟨A, n, c, he, ho, hb⟩ := h
  have hn : n = (got (encT t)).length := by have := ho.1; rw [bv_length, Nat.mul_one] at this; exact this.symm
  subst hn
  exact ⟨A, c, he, Bytes.of_own ho, hb⟩
section
variable {W w w1 : World} {s g : Nat} {T T' : TypeId} {x0 x1 x2 x3 x4 y0 y1 y2 y3 : Value}
def Two9 (W : World) (s g : Nat) (T T' : TypeId) (x0 x1 x2 x3 x4 y0 y1 y2 y3 : Value) (w : World) : Prop := Blk w s T #[x0, x1, x2, x3, x4] ∧ Blk w g T' #[y0, y1, y2, y3] ∧ Below W.heap.size W w
theorem Two9.call (h : Two9 W s g T T' x0 x1 x2 x3 x4 y0 y1 y2 y3 w) (hb : Below w.heap.size w w1) : Two9 W s g T T' x0 x1 x2 x3 x4 y0 y1 y2 y3 w1 := ⟨h.1.below hb h.1.lt, h.2.1.below hb h.2.1.lt, held_call h.2.2 hb⟩
theorem two9 (h : Two9 W s g T T' x0 x1 x2 x3 x4 y0 y1 y2 y3 w) : (w.cell? ⟨s, 0, none⟩ = some x0 ∧ w.cell? ⟨s, 1, none⟩ = some x1 ∧ w.cell? ⟨s, 2, none⟩ = some x2 ∧ w.cell? ⟨s, 3, none⟩ = some x3 ∧ w.cell? ⟨s, 4, none⟩ = some x4) ∧ (w.cell? ⟨g, 0, none⟩ = some y0 ∧ w.cell? ⟨g, 1, none⟩ = some y1 ∧ w.cell? ⟨g, 2, none⟩ = some y2 ∧ w.cell? ⟨g, 3, none⟩ = some y3) ∧ Two9 W s g T T' x0 x1 x2 x3 x4 y0 y1 y2 y3 w :=
  ⟨⟨h.1.cell 0, h.1.cell 1, h.1.cell 2, h.1.cell 3, h.1.cell 4⟩, ⟨h.2.1.cell 0, h.2.1.cell 1, h.2.1.cell 2, h.2.1.cell 3⟩, h⟩
end

set_option maxHeartbeats 6400000 in
theorem mays_walk (t : Tx) (f : Ch) (tables : Int) (v : Value) (w : World) (h : TxIn w w.heap.size t v) :
    Calls Try.prog 3 #[v, chv f, .int .i64 tables] w fun e w' => e = .returned (.bool true) ∧ Below w.heap.size w w' := by
  obtain ⟨A, n, c, A', n', c', rfl, hin⟩ := h.agg
  obtain ⟨ft, fk, fg, fv⟩ := f
  unfold chv
  dsimp only
  have HI := Lib.hid hin
  clear h hin
  have HX : Hid (Blk ((w.alloc (.cells #[.int .i64 t.lsn, .int .i64 t.kind, .slice A n c, .slice A' n' c', .int .i64 t.mark] 25)).alloc (.cells #[.int .i64 ft, .int .i64 fk, .bool fg, .string fv] 27)) w.heap.size 25 #[.int .i64 t.lsn, .int .i64 t.kind, .slice A n c, .slice A' n' c', .int .i64 t.mark]) := (Blk.new _ _ _).alloc _
  have HY : Hid (Blk ((w.alloc (.cells #[.int .i64 t.lsn, .int .i64 t.kind, .slice A n c, .slice A' n' c', .int .i64 t.mark] 25)).alloc (.cells #[.int .i64 ft, .int .i64 fk, .bool fg, .string fv] 27)) (w.heap.size + 1) 27 #[.int .i64 ft, .int .i64 fk, .bool fg, .string fv]) := by have := Blk.new (w.alloc (.cells #[.int .i64 t.lsn, .int .i64 t.kind, .slice A n c, .slice A' n' c', .int .i64 t.mark] 25)) 27 #[.int .i64 ft, .int .i64 fk, .bool fg, .string fv]; exact Lib.hid (by simpa using this)
  have HW : Hid (Below w.heap.size w ((w.alloc (.cells #[.int .i64 t.lsn, .int .i64 t.kind, .slice A n c, .slice A' n' c', .int .i64 t.mark] 25)).alloc (.cells #[.int .i64 ft, .int .i64 fk, .bool fg, .string fv] 27))) := ((Below.refl _ _).alloc (Nat.le_refl _) _).alloc (by simp) _
  go_enter Try.func3, Try.ntmps3
  go_wp2_with fail
  generalize ((w.alloc (.cells #[.int .i64 t.lsn, .int .i64 t.kind, .slice A n c, .slice A' n' c', .int .i64 t.mark] 25)).alloc (.cells #[.int .i64 ft, .int .i64 fk, .bool fg, .string fv] 27)) = W at HX HY HW ⊢
  refine (great_any w.heap.size t _ W (HI.out.below HW.out)).mono ?_
  rintro e w1 ⟨g, rfl, hb1⟩
  have HX1 := Lib.hid (HX.out.below hb1 HX.out.lt)
  have HY1 := Lib.hid (HY.out.below hb1 HY.out.lt)
  have HB1 := Lib.hid (held_two HW.out hb1)
  clear hb1 HX HY HW
  cases g with
  | true =>
    go_wp2_with fail
    refine (awake_any _).mono ?_
    rintro e w2 ⟨rfl, hb2⟩
    have HB2 := Lib.hid (held_two HB1.out hb2)
    clear hb2
    go_wp2
    go_ret
    exact ⟨rfl, HB2.out⟩
  | false =>
    have x0 : w1.cell? ⟨w.heap.size, 0, none⟩ = some (.int .i64 t.lsn) := HX1.out.cell 0
    have x1 : w1.cell? ⟨w.heap.size, 1, none⟩ = some (.int .i64 t.kind) := HX1.out.cell 1
    have x2 : w1.cell? ⟨w.heap.size, 2, none⟩ = some (.slice A n c) := HX1.out.cell 2
    have x3 : w1.cell? ⟨w.heap.size, 3, none⟩ = some (.slice A' n' c') := HX1.out.cell 3
    have x4 : w1.cell? ⟨w.heap.size, 4, none⟩ = some (.int .i64 t.mark) := HX1.out.cell 4
    go_wp2_with fail
    refine (encode_in w.heap.size t _ w1 (HI.out.below HB1.out) HB1.out.size).mono ?_
    intro e w2 he2
    obtain ⟨A2, c2, rfl, hy2, hb2⟩ := encT_both he2
    have HX2 := Lib.hid (HX1.out.below hb2 HX1.out.lt)
    have HY2 := Lib.hid (HY1.out.below hb2 HY1.out.lt)
    have HB2 := Lib.hid (held_two HB1.out hb2)
    have HE2 := Lib.hid hy2
    clear he2 hy2 hb2 x0 x1 x2 x3 x4 HX1 HY1
    have x0 : w2.cell? ⟨w.heap.size, 0, none⟩ = some (.int .i64 t.lsn) := HX2.out.cell 0
    have x1 : w2.cell? ⟨w.heap.size, 1, none⟩ = some (.int .i64 t.kind) := HX2.out.cell 1
    have x2 : w2.cell? ⟨w.heap.size, 2, none⟩ = some (.slice A n c) := HX2.out.cell 2
    have x3 : w2.cell? ⟨w.heap.size, 3, none⟩ = some (.slice A' n' c') := HX2.out.cell 3
    have x4 : w2.cell? ⟨w.heap.size, 4, none⟩ = some (.int .i64 t.mark) := HX2.out.cell 4
    go_wp2_with fail
    have hti := HI.out.below HB2.out
    obtain ⟨_, _, _, _, _, _, hv, hc2, hs2⟩ := hti
    unfold txv at hv
    injection hv with hv
    simp only [Array.mk.injEq, List.cons.injEq, Value.slice.injEq, and_true, true_and] at hv
    obtain ⟨⟨rfl, rfl, rfl⟩, rfl, rfl, rfl⟩ := hv
    refine (refencode_any w.heap.size t.lsn t.kind t.mark A n c t.chs A' n' c' t.sigs w2 hc2 hs2 HB2.out.size).mono ?_
    intro e w3 he3
    obtain ⟨A3, c3, rfl, hy3, hb3⟩ := encT_both he3
    have HX3 := Lib.hid (HX2.out.below hb3 HX2.out.lt)
    have HY3 := Lib.hid (HY2.out.below hb3 HY2.out.lt)
    have HB3 := Lib.hid (held_two HB2.out hb3)
    have HE3 := Lib.hid hy3
    have HF3 := Lib.hid (HE2.out.below hb3)
    have hz23 := hb3.size
    clear he3 hy3 hb3 x0 x1 x2 x3 x4 HX2 HY2 hc2 hs2
    generalize (got (encT t)).length = N at HF3 HE3 ⊢
    generalize ((err (encT t) : Nat) : Int) = q
    have CM : Hid (∀ wx, (Two9 w3 w.heap.size (w.heap.size + 1) 25 27 (.int .i64 t.lsn) (.int .i64 t.kind) (.slice A n c) (.slice A' n' c') (.int .i64 t.mark) (.int .i64 ft) (.int .i64 fk) (.bool fg) (.string fv)) wx → Calls Try.prog 16 #[.agg #[.int .i64 t.lsn, .int .i64 t.kind, .slice A n c, .slice A' n' c', .int .i64 t.mark]] wx fun e w' => e = .returned (.bool t.may) ∧ Below wx.heap.size wx w') := fun wx h => may_in w.heap.size t _ wx (HI.out.below (held_two HB3.out h.2.2)) (held_two HB3.out h.2.2).size
    have CR : Hid (∀ wx, (Two9 w3 w.heap.size (w.heap.size + 1) 25 27 (.int .i64 t.lsn) (.int .i64 t.kind) (.slice A n c) (.slice A' n' c') (.int .i64 t.mark) (.int .i64 ft) (.int .i64 fk) (.bool fg) (.string fv)) wx → Calls Try.prog 17 #[.agg #[.int .i64 t.lsn, .int .i64 t.kind, .slice A n c, .slice A' n' c', .int .i64 t.mark]] wx fun e w' => e = .returned (.bool t.may) ∧ Below wx.heap.size wx w') := fun wx h => by
      obtain ⟨_, _, _, _, _, _, hv, hc2, hs2⟩ := HI.out.below (held_two HB3.out h.2.2)
      unfold txv at hv
      injection hv with hv
      simp only [Array.mk.injEq, List.cons.injEq, Value.slice.injEq, and_true, true_and] at hv
      obtain ⟨⟨rfl, rfl, rfl⟩, rfl, rfl, rfl⟩ := hv
      exact refmay_any w.heap.size t.lsn t.kind t.mark A n c t.chs A' n' c' t.sigs wx hc2 hs2 (held_two HB3.out h.2.2).size
    have CB : Hid (∀ wx, (Two9 w3 w.heap.size (w.heap.size + 1) 25 27 (.int .i64 t.lsn) (.int .i64 t.kind) (.slice A n c) (.slice A' n' c') (.int .i64 t.mark) (.int .i64 ft) (.int .i64 fk) (.bool fg) (.string fv)) wx → Calls Try.prog 18 #[.slice A2 N c2, .slice A3 N c3] wx fun e w' => e = .returned (.bool true) ∧ wx = w') := fun wx h => Go.Proofs.Ytjicdnknlfpajaa.Help.bytes_same w2.heap.size w3.heap.size A2 A3 N c2 N c3 _ wx (HF3.out.below (h.2.2.mono hz23)) (HE3.out.below h.2.2)
    have CC : Hid (∀ wx, Calls Try.prog 19 #[.agg #[.int .i64 ft, .int .i64 fk, .bool fg, .string fv], .int .i64 tables] wx fun e w' => e = .returned (.bool (Ch.may tables ⟨ft, fk, fg, fv⟩)) ∧ Below wx.heap.size wx w') := fun wx => maychange_any ft fk fg fv tables wx
    have CD : Hid (∀ wx, Calls Try.prog 20 #[.agg #[.int .i64 ft, .int .i64 fk, .bool fg, .string fv], .int .i64 tables] wx fun e w' => e = .returned (.bool (Ch.may tables ⟨ft, fk, fg, fv⟩)) ∧ Below wx.heap.size wx w') := fun wx => refmaychange_any ft fk fg fv tables wx
    have HT3 : Hid ((Two9 w3 w.heap.size (w.heap.size + 1) 25 27 (.int .i64 t.lsn) (.int .i64 t.kind) (.slice A n c) (.slice A' n' c') (.int .i64 t.mark) (.int .i64 ft) (.int .i64 fk) (.bool fg) (.string fv)) w3) := ⟨HX3.out, HY3.out, Below.refl _ _⟩
    have HD3 : Hid ((Two9 w3 w.heap.size (w.heap.size + 1) 25 27 (.int .i64 t.lsn) (.int .i64 t.kind) (.slice A n c) (.slice A' n' c') (.int .i64 t.mark) (.int .i64 ft) (.int .i64 fk) (.bool fg) (.string fv)) w3.drew) := ⟨HX3.out, HY3.out, (Below.refl _ _).drew⟩
    generalize t.may = mb at CM CR
    generalize Ch.may tables ⟨ft, fk, fg, fv⟩ = cb at CC CD
    go_wp2_with fail
    go_region_held3 (fun w' => (w'.cell? ⟨w.heap.size, 0, none⟩ = some (.int .i64 t.lsn) ∧ w'.cell? ⟨w.heap.size, 1, none⟩ = some (.int .i64 t.kind) ∧ w'.cell? ⟨w.heap.size, 2, none⟩ = some (.slice A n c) ∧ w'.cell? ⟨w.heap.size, 3, none⟩ = some (.slice A' n' c') ∧ w'.cell? ⟨w.heap.size, 4, none⟩ = some (.int .i64 t.mark)) ∧ (w'.cell? ⟨w.heap.size + 1, 0, none⟩ = some (.int .i64 ft) ∧ w'.cell? ⟨w.heap.size + 1, 1, none⟩ = some (.int .i64 fk) ∧ w'.cell? ⟨w.heap.size + 1, 2, none⟩ = some (.bool fg) ∧ w'.cell? ⟨w.heap.size + 1, 3, none⟩ = some (.string fv)) ∧ (Two9 w3 w.heap.size (w.heap.size + 1) 25 27 (.int .i64 t.lsn) (.int .i64 t.kind) (.slice A n c) (.slice A' n' c') (.int .i64 t.mark) (.int .i64 ft) (.int .i64 fk) (.bool fg) (.string fv)) w')
      (first
        | exact two9 HD3.out
        | (go_split_ands; exact two9 (Two9.call (by assumption) hbc))
        | (go_split_ands; exact two9 (by assumption)))
      (first
        | (go_at_call 13; refine (awake_any _).mono ?_; rintro e wc ⟨rfl, hbc⟩)
        | (go_at_call 16; go_split_ands; refine (CM.out _ (by assumption)).mono ?_; rintro e wc ⟨rfl, hbc⟩)
        | (go_at_call 17; go_split_ands; refine (CR.out _ (by assumption)).mono ?_; rintro e wc ⟨rfl, hbc⟩)
        | (go_at_call 18; go_split_ands; refine (CB.out _ (by assumption)).mono ?_; rintro e wc ⟨rfl, rfl⟩)
        | (go_at_call 19; refine (CC.out _).mono ?_; rintro e wc ⟨rfl, hbc⟩)
        | (go_at_call 20; refine (CD.out _).mono ?_; rintro e wc ⟨rfl, hbc⟩)
        | fail)
    all_goals (
      have HZ : Hid (Below w.heap.size w wc) := by
        go_split_ands
        exact held_two HB3.out (by assumption : (Two9 w3 w.heap.size (w.heap.size + 1) 25 27 (.int .i64 t.lsn) (.int .i64 t.kind) (.slice A n c) (.slice A' n' c') (.int .i64 t.mark) (.int .i64 ft) (.int .i64 fk) (.bool fg) (.string fv)) wc).2.2
      go_wp2
      go_ret
      exact ⟨ret_bool (by simp), HZ.out⟩)
theorem mays_walk2 (t : Tx) (f : Ch) (tables : Int) (v v1 : Value) (w : World) (h : TxIn w w.heap.size t v) (hv : v1 = chv f) :
    Calls Try.prog 3 #[v, v1, .int .i64 tables] w fun e w' => e = .returned (.bool true) ∧ Below w.heap.size w w' := by
  subst hv
  exact mays_walk t f tables v w h
end Go.Proofs.Ytjicdnknlfpajaa.Txn
