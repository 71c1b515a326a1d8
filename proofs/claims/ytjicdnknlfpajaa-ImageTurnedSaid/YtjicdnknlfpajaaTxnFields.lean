/-
  Contracts of how a transaction's fields are gathered (package txn's gatherer, number, yes, text, fieldsOf), of package txn's Encode; the document's Flag and ChangeFields.
-/
import Derived.Test.YtjicdnknlfpajaaTxnMay
import Derived.Test.YtjicdnknlfpajaaFieldEncode
import Derived.Deep.RegionHeld3
namespace Go.Proofs.Ytjicdnknlfpajaa.Txn
set_option linter.unusedVariables false
set_option maxRecDepth 100000
open Go.RowKit Base FieldMath TxnMath
open Go.Proofs.Ytjicdnknlfpajaa.Field (fv fv_append fv_one fv_length fval Flds ef ret_bool empty_iff num_any text_any Encoded)
set_option linter.ambiguousOpen false

theorem cnumber_any (n : Int) (w : World) :
    Calls Try.prog 75 #[.int .i64 n] w fun e w' => e = .returned (.agg #[.int .i64 1, .int .i64 n, .string ⟨#[]⟩]) ∧ Below w.heap.size w w' := by
  go_enter Try.func75, Try.ntmps75
  go_wp2
  exact bodyPost_ret (v := .agg #[.int .i64 1, .int .i64 n, .string ⟨#[]⟩]) (by simp [results, Try.results75, go_sem]) rfl ⟨rfl, (Below.refl _ _).alloc (Nat.le_refl _) _⟩
theorem ctext_any (s : ByteArray) (w : World) :
    Calls Try.prog 77 #[.string s] w fun e w' => e = .returned (.agg #[.int .i64 2, .int .i64 0, .string s]) ∧ Below w.heap.size w w' := by
  go_enter Try.func77, Try.ntmps77
  go_wp2
  exact bodyPost_ret (v := .agg #[.int .i64 2, .int .i64 0, .string s]) (by simp [results, Try.results77, go_sem]) rfl ⟨rfl, (Below.refl _ _).alloc (Nat.le_refl _) _⟩
theorem yes_any (b : Bool) (w : World) :
    Calls Try.prog 76 #[.bool b] w fun e w' => e = .returned (.agg #[.int .i64 1, .int .i64 (flag b), .string ⟨#[]⟩]) ∧ Below w.heap.size w w' := by
  cases b with
  | true =>
    go_enter Try.func76, Try.ntmps76
    go_wp2_with fail
    refine (cnumber_any _ _).mono ?_
    rintro e w1 ⟨rfl, hb⟩
    have hx : Blk w1 w.heap.size 61 #[.int .i64 0, .int .i64 0, .string ⟨#[]⟩] := (Blk.new w _ _).below hb (by simp)
    have f0 := hx.frozen 0
    have f1 := hx.frozen 1
    have f2 := hx.frozen 2
    have k0 : w1.cell? ⟨w.heap.size, 0, none⟩ = some (.int .i64 0) := hx.cell 0
    have k1 : w1.cell? ⟨w.heap.size, 1, none⟩ = some (.int .i64 0) := hx.cell 1
    have k2 : w1.cell? ⟨w.heap.size, 2, none⟩ = some (.string ⟨#[]⟩) := hx.cell 2
    have HB : Hid (Below w.heap.size w w1) := ((Below.refl _ _).alloc (Nat.le_refl _) _).trans (hb.mono (by simp))
    clear hb hx
    go_wp2
    exact bodyPost_ret (v := .agg #[.int .i64 1, .int .i64 1, .string ⟨#[]⟩]) (by simp [results, Try.results76, go_sem, k0, k1, k2]) rfl ⟨rfl, ((HB.out.setCell (by exact Nat.le_refl _) _).setCell (by exact Nat.le_refl _) _).setCell (by exact Nat.le_refl _) _⟩
  | false =>
    go_enter Try.func76, Try.ntmps76
    go_wp2_with fail
    refine (cnumber_any _ _).mono ?_
    rintro e w1 ⟨rfl, hb⟩
    have hx : Blk w1 w.heap.size 61 #[.int .i64 0, .int .i64 0, .string ⟨#[]⟩] := (Blk.new w _ _).below hb (by simp)
    have f0 := hx.frozen 0
    have f1 := hx.frozen 1
    have f2 := hx.frozen 2
    have k0 : w1.cell? ⟨w.heap.size, 0, none⟩ = some (.int .i64 0) := hx.cell 0
    have k1 : w1.cell? ⟨w.heap.size, 1, none⟩ = some (.int .i64 0) := hx.cell 1
    have k2 : w1.cell? ⟨w.heap.size, 2, none⟩ = some (.string ⟨#[]⟩) := hx.cell 2
    have HB : Hid (Below w.heap.size w w1) := ((Below.refl _ _).alloc (Nat.le_refl _) _).trans (hb.mono (by simp))
    clear hb hx
    go_wp2
    exact bodyPost_ret (v := .agg #[.int .i64 1, .int .i64 0, .string ⟨#[]⟩]) (by simp [results, Try.results76, go_sem, k0, k1, k2]) rfl ⟨rfl, ((HB.out.setCell (by exact Nat.le_refl _) _).setCell (by exact Nat.le_refl _) _).setCell (by exact Nat.le_refl _) _⟩
theorem refflag_any (b : Bool) (w : World) :
    Calls Try.prog 78 #[.bool b] w fun e w' => e = .returned (.agg #[.int .i64 1, .int .i64 (flag b), .string ⟨#[]⟩]) ∧ Below w.heap.size w w' := by
  cases b with
  | true =>
    go_enter Try.func78, Try.ntmps78
    go_wp2_with fail
    refine (num_any _ _).mono ?_
    rintro e w1 ⟨rfl, hb⟩
    have hx : Blk w1 w.heap.size 61 #[.int .i64 0, .int .i64 0, .string ⟨#[]⟩] := (Blk.new w _ _).below hb (by simp)
    have f0 := hx.frozen 0
    have f1 := hx.frozen 1
    have f2 := hx.frozen 2
    have k0 : w1.cell? ⟨w.heap.size, 0, none⟩ = some (.int .i64 0) := hx.cell 0
    have k1 : w1.cell? ⟨w.heap.size, 1, none⟩ = some (.int .i64 0) := hx.cell 1
    have k2 : w1.cell? ⟨w.heap.size, 2, none⟩ = some (.string ⟨#[]⟩) := hx.cell 2
    have HB : Hid (Below w.heap.size w w1) := ((Below.refl _ _).alloc (Nat.le_refl _) _).trans (hb.mono (by simp))
    clear hb hx
    go_wp2
    exact bodyPost_ret (v := .agg #[.int .i64 1, .int .i64 1, .string ⟨#[]⟩]) (by simp [results, Try.results78, go_sem, k0, k1, k2]) rfl ⟨rfl, ((HB.out.setCell (by exact Nat.le_refl _) _).setCell (by exact Nat.le_refl _) _).setCell (by exact Nat.le_refl _) _⟩
  | false =>
    go_enter Try.func78, Try.ntmps78
    go_wp2_with fail
    refine (num_any _ _).mono ?_
    rintro e w1 ⟨rfl, hb⟩
    have hx : Blk w1 w.heap.size 61 #[.int .i64 0, .int .i64 0, .string ⟨#[]⟩] := (Blk.new w _ _).below hb (by simp)
    have f0 := hx.frozen 0
    have f1 := hx.frozen 1
    have f2 := hx.frozen 2
    have k0 : w1.cell? ⟨w.heap.size, 0, none⟩ = some (.int .i64 0) := hx.cell 0
    have k1 : w1.cell? ⟨w.heap.size, 1, none⟩ = some (.int .i64 0) := hx.cell 1
    have k2 : w1.cell? ⟨w.heap.size, 2, none⟩ = some (.string ⟨#[]⟩) := hx.cell 2
    have HB : Hid (Below w.heap.size w w1) := ((Below.refl _ _).alloc (Nat.le_refl _) _).trans (hb.mono (by simp))
    clear hb hx
    go_wp2
    exact bodyPost_ret (v := .agg #[.int .i64 1, .int .i64 0, .string ⟨#[]⟩]) (by simp [results, Try.results78, go_sem, k0, k1, k2]) rfl ⟨rfl, ((HB.out.setCell (by exact Nat.le_refl _) _).setCell (by exact Nat.le_refl _) _).setCell (by exact Nat.le_refl _) _⟩

/-! ### the gatherer -/
/-- the gatherer at block g has the fields l, in a row of its own above it -/
def Gath (w : World) (g : Nat) (l : List Fld) : Prop := ∃ A c, Blk w g 116 #[.slice A l.length c] ∧ w.ownsRow (g + 1) 61 3 (.slice A l.length c) l.length (fv l)
theorem Gath.new {w w' : World} {g : Nat} {l : List Fld} (h : Gath w g l) (hb : Below w.heap.size w w') : Gath w' g l := by
  obtain ⟨A, c, h1, h2⟩ := h
  exact ⟨A, c, h1.below hb h1.lt, own_keep h2 hb⟩
theorem Gath.alloc {w : World} {g : Nat} {l : List Fld} (h : Gath w g l) (o : Obj) : Gath (w.alloc o) g l := h.new ((Below.refl _ _).alloc (Nat.le_refl _) o)
theorem Gath.drew {w : World} {g : Nat} {l : List Fld} (h : Gath w g l) : Gath w.drew g l := h
theorem Gath.lt {w : World} {g : Nat} {l : List Fld} (h : Gath w g l) : g < w.heap.size := by
  obtain ⟨A, c, h1, _⟩ := h
  exact h1.lt
/-- what add leaves -/
def Added (w : World) (g : Nat) (l : List Fld) (w' : World) : Prop := Gath w' g l ∧ Below g w w' ∧ ∀ b T cs, Blk w b T cs → b ≠ g → T ≠ 61 → Blk w' b T cs

set_option maxHeartbeats 800000 in
theorem add_any (g : Nat) (l m : List Fld) (B : Nat) (A' : Option Addr) (n' c' : Nat) (w : World) (h : Gath w g l) (hm : Flds w B A' n' c' m) (hl : l.length ≤ 1000000) (hn : n' ≤ 1000000) :
    Calls Try.prog 74 #[.pointer (some ⟨g, 0, none⟩), .slice A' n' c'] w fun e w' => e = .returned (.tuple #[]) ∧ Added w g (l ++ m) w' := by
  have hml := hm.len
  have HML := Lib.hid hml
  have HM := Lib.hid hm
  obtain ⟨A, c, hb, ho⟩ := h
  have hlt := hb.lt
  have k0 : w.cell? ⟨g, 0, none⟩ = some (.slice A l.length c) := hb.cell 0
  have f0 := hb.frozen 0
  have HX := Lib.hid hb
  have HO := Lib.hid ho
  clear hb ho hm hml
  go_enter Try.func74, Try.ntmps74
  go_wp2_with (first
    | (at_builtin
       refine wpList_append_row rfl (.tmp 8) (.tmp 9) rfl ef (g + 1) _ l.length (fv l) rfl HO.out B A' n' c' (fv m) rfl HM.out (fv_one _) (by omega) (by omega) (by omega) ?_
       intro A2 c2 w2 hown2 hg2 hb2
       rw [← fv_append] at hown2
       have hx2 : Blk w2 g 116 #[.slice A l.length c] := HX.out.below hb2 (by omega)
       have k2 : w2.cell? ⟨g, 0, none⟩ = some (.slice A l.length c) := hx2.cell 0
       have f2 := hx2.frozen 0
       have HX2 := Lib.hid hx2
       have HO2 := Lib.hid hown2
       have HG2 := Lib.hid hg2
       have HB2 := Lib.hid hb2
       clear hown2 hg2 hb2 hx2)
    | fail)
  go_end0
  have hll : (l ++ m).length = l.length + n' := by rw [List.length_append, HML.out]
  have hne : ∀ k, (Value.slice A2 (l.length + n') c2).ownBlock = some k → k ≠ g := fun k hk => by have := (HO2.out.lt k hk).1; omega
  refine ⟨rfl, ⟨A2, c2, ?_, ?_⟩, (HB2.out.mono (by omega)).setCell (by exact Nat.le_refl _) _, fun b T cs hbk hbg hT => ?_⟩
  · rw [hll]
    exact HX2.out.set_ 0 _
  · rw [hll]
    exact HO2.out.kept (only_setCell (World.grownBy.refl _ (some g)) (.inl rfl) _) (.inr fun e => by exact hne g e rfl)
  · have h1 : Blk w2 b T cs := hbk.grown HG2.out.1 (fun e => by
      rcases HO.out.2 with ⟨hv, _⟩ | ⟨k, cap, cur, hv, _, hk, _⟩
      · rw [hv] at e; cases e
      · rw [hv] at e
        obtain rfl : b = k := by simp only [Value.ownBlock] at e; injection e
        unfold Blk at hbk
        rw [hbk] at hk
        injection hk with hk
        injection hk with _ h3
        exact hT h3)
    exact h1.far (by exact hbg) _
end Go.Proofs.Ytjicdnknlfpajaa.Txn
