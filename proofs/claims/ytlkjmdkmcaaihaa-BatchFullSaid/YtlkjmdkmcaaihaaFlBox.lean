/-
  Fields that are laid; contract of the document's ChangeFields.
-/
import Derived.Test.YtlkjmdkmcaaihaaTxnChs
import Derived.Test.YtlkjmdkmcaaihaaFieldEncode
import Derived.Deep.RegionHeld3
namespace Go.Proofs.Ytlkjmdkmcaaihaa.Txn
set_option linter.unusedVariables false
set_option maxRecDepth 100000
open Go.RowKit Base FieldMath TxnMath
open Go.Proofs.Ytlkjmdkmcaaihaa.Field (fv fv_append fv_one fv_length fval Flds ef ret_bool empty_iff num_any text_any Encoded)
set_option linter.ambiguousOpen false
set_option linter.unusedSimpArgs false

theorem cnumber_any (n : Int) (w : World) :
    Calls Try.prog 56 #[.int .i64 n] w fun e w' => e = .returned (.agg #[.int .i64 1, .int .i64 n, .string ⟨#[]⟩]) ∧ Below w.heap.size w w' := by
  go_enter Try.func56, Try.ntmps56
  go_wp2
  exact bodyPost_ret (v := .agg #[.int .i64 1, .int .i64 n, .string ⟨#[]⟩]) (by simp [results, Try.results56, go_sem]) rfl ⟨rfl, (Below.refl _ _).alloc (Nat.le_refl _) _⟩
theorem ctext_any (s : ByteArray) (w : World) :
    Calls Try.prog 58 #[.string s] w fun e w' => e = .returned (.agg #[.int .i64 2, .int .i64 0, .string s]) ∧ Below w.heap.size w w' := by
  go_enter Try.func58, Try.ntmps58
  go_wp2
  exact bodyPost_ret (v := .agg #[.int .i64 2, .int .i64 0, .string s]) (by simp [results, Try.results58, go_sem]) rfl ⟨rfl, (Below.refl _ _).alloc (Nat.le_refl _) _⟩
theorem yes_any (b : Bool) (w : World) :
    Calls Try.prog 57 #[.bool b] w fun e w' => e = .returned (.agg #[.int .i64 1, .int .i64 (flag b), .string ⟨#[]⟩]) ∧ Below w.heap.size w w' := by
  cases b with
  | true =>
    go_enter Try.func57, Try.ntmps57
    go_wp2_with fail
    refine (cnumber_any _ _).mono ?_
    rintro e w1 ⟨rfl, hb⟩
    have hx : Blk w1 w.heap.size 59 #[.int .i64 0, .int .i64 0, .string ⟨#[]⟩] := (Blk.new w _ _).below hb (by simp)
    have f0 := hx.frozen 0
    have f1 := hx.frozen 1
    have f2 := hx.frozen 2
    have k0 : w1.cell? ⟨w.heap.size, 0, none⟩ = some (.int .i64 0) := hx.cell 0
    have k1 : w1.cell? ⟨w.heap.size, 1, none⟩ = some (.int .i64 0) := hx.cell 1
    have k2 : w1.cell? ⟨w.heap.size, 2, none⟩ = some (.string ⟨#[]⟩) := hx.cell 2
    have HB : Hid (Below w.heap.size w w1) := ((Below.refl _ _).alloc (Nat.le_refl _) _).trans (hb.mono (by simp))
    clear hb hx
    go_wp2
    exact bodyPost_ret (v := .agg #[.int .i64 1, .int .i64 1, .string ⟨#[]⟩]) (by simp [results, Try.results57, go_sem, k0, k1, k2]) rfl ⟨rfl, ((HB.out.setCell (by exact Nat.le_refl _) _).setCell (by exact Nat.le_refl _) _).setCell (by exact Nat.le_refl _) _⟩
  | false =>
    go_enter Try.func57, Try.ntmps57
    go_wp2_with fail
    refine (cnumber_any _ _).mono ?_
    rintro e w1 ⟨rfl, hb⟩
    have hx : Blk w1 w.heap.size 59 #[.int .i64 0, .int .i64 0, .string ⟨#[]⟩] := (Blk.new w _ _).below hb (by simp)
    have f0 := hx.frozen 0
    have f1 := hx.frozen 1
    have f2 := hx.frozen 2
    have k0 : w1.cell? ⟨w.heap.size, 0, none⟩ = some (.int .i64 0) := hx.cell 0
    have k1 : w1.cell? ⟨w.heap.size, 1, none⟩ = some (.int .i64 0) := hx.cell 1
    have k2 : w1.cell? ⟨w.heap.size, 2, none⟩ = some (.string ⟨#[]⟩) := hx.cell 2
    have HB : Hid (Below w.heap.size w w1) := ((Below.refl _ _).alloc (Nat.le_refl _) _).trans (hb.mono (by simp))
    clear hb hx
    go_wp2
    exact bodyPost_ret (v := .agg #[.int .i64 1, .int .i64 0, .string ⟨#[]⟩]) (by simp [results, Try.results57, go_sem, k0, k1, k2]) rfl ⟨rfl, ((HB.out.setCell (by exact Nat.le_refl _) _).setCell (by exact Nat.le_refl _) _).setCell (by exact Nat.le_refl _) _⟩
theorem refflag_any (b : Bool) (w : World) :
    Calls Try.prog 30 #[.bool b] w fun e w' => e = .returned (.agg #[.int .i64 1, .int .i64 (flag b), .string ⟨#[]⟩]) ∧ Below w.heap.size w w' := by
  cases b with
  | true =>
    go_enter Try.func30, Try.ntmps30
    go_wp2_with fail
    refine (num_any _ _).mono ?_
    rintro e w1 ⟨rfl, hb⟩
    have hx : Blk w1 w.heap.size 59 #[.int .i64 0, .int .i64 0, .string ⟨#[]⟩] := (Blk.new w _ _).below hb (by simp)
    have f0 := hx.frozen 0
    have f1 := hx.frozen 1
    have f2 := hx.frozen 2
    have k0 : w1.cell? ⟨w.heap.size, 0, none⟩ = some (.int .i64 0) := hx.cell 0
    have k1 : w1.cell? ⟨w.heap.size, 1, none⟩ = some (.int .i64 0) := hx.cell 1
    have k2 : w1.cell? ⟨w.heap.size, 2, none⟩ = some (.string ⟨#[]⟩) := hx.cell 2
    have HB : Hid (Below w.heap.size w w1) := ((Below.refl _ _).alloc (Nat.le_refl _) _).trans (hb.mono (by simp))
    clear hb hx
    go_wp2
    exact bodyPost_ret (v := .agg #[.int .i64 1, .int .i64 1, .string ⟨#[]⟩]) (by simp [results, Try.results30, go_sem, k0, k1, k2]) rfl ⟨rfl, ((HB.out.setCell (by exact Nat.le_refl _) _).setCell (by exact Nat.le_refl _) _).setCell (by exact Nat.le_refl _) _⟩
  | false =>
    go_enter Try.func30, Try.ntmps30
    go_wp2_with fail
    refine (num_any _ _).mono ?_
    rintro e w1 ⟨rfl, hb⟩
    have hx : Blk w1 w.heap.size 59 #[.int .i64 0, .int .i64 0, .string ⟨#[]⟩] := (Blk.new w _ _).below hb (by simp)
    have f0 := hx.frozen 0
    have f1 := hx.frozen 1
    have f2 := hx.frozen 2
    have k0 : w1.cell? ⟨w.heap.size, 0, none⟩ = some (.int .i64 0) := hx.cell 0
    have k1 : w1.cell? ⟨w.heap.size, 1, none⟩ = some (.int .i64 0) := hx.cell 1
    have k2 : w1.cell? ⟨w.heap.size, 2, none⟩ = some (.string ⟨#[]⟩) := hx.cell 2
    have HB : Hid (Below w.heap.size w w1) := ((Below.refl _ _).alloc (Nat.le_refl _) _).trans (hb.mono (by simp))
    clear hb hx
    go_wp2
    exact bodyPost_ret (v := .agg #[.int .i64 1, .int .i64 0, .string ⟨#[]⟩]) (by simp [results, Try.results30, go_sem, k0, k1, k2]) rfl ⟨rfl, ((HB.out.setCell (by exact Nat.le_refl _) _).setCell (by exact Nat.le_refl _) _).setCell (by exact Nat.le_refl _) _⟩


end Go.Proofs.Ytlkjmdkmcaaihaa.Txn

namespace Go.Proofs.Ytlkjmdkmcaaihaa.Txn
set_option linter.unusedVariables false
set_option maxRecDepth 100000
open Go.RowKit Base FieldMath TxnMath
open Go.Proofs.Ytlkjmdkmcaaihaa.Field (fv fv_append fv_one fv_length fval Flds ef ret_bool empty_iff num_any text_any Encoded)
set_option linter.ambiguousOpen false
set_option linter.unusedSimpArgs false

section
variable {W w w1 : World} {s g : Nat} {T : TypeId} {x0 x1 x2 x3 x4 : Value}
theorem box4 (h : Blk w s T #[x0, x1, x2, x3]) (hb : Below g W w) : w.cell? ⟨s, 0, none⟩ = some x0 ∧ w.cell? ⟨s, 1, none⟩ = some x1 ∧ w.cell? ⟨s, 2, none⟩ = some x2 ∧ w.cell? ⟨s, 3, none⟩ = some x3 ∧ Blk w s T #[x0, x1, x2, x3] ∧ Below g W w := ⟨h.cell 0, h.cell 1, h.cell 2, h.cell 3, h, hb⟩
theorem box4_call (hg : g ≤ W.heap.size) (hb : Below w.heap.size w w1) (h : Blk w s T #[x0, x1, x2, x3]) (k : Below g W w) : w1.cell? ⟨s, 0, none⟩ = some x0 ∧ w1.cell? ⟨s, 1, none⟩ = some x1 ∧ w1.cell? ⟨s, 2, none⟩ = some x2 ∧ w1.cell? ⟨s, 3, none⟩ = some x3 ∧ Blk w1 s T #[x0, x1, x2, x3] ∧ Below g W w1 := box4 (h.below hb h.lt) (k.trans (hb.mono (Nat.le_trans hg k.size)))
theorem box4_alloc (hg : g ≤ W.heap.size) (o : Obj) (h : Blk w s T #[x0, x1, x2, x3]) (k : Below g W w) : (w.alloc o).cell? ⟨s, 0, none⟩ = some x0 ∧ (w.alloc o).cell? ⟨s, 1, none⟩ = some x1 ∧ (w.alloc o).cell? ⟨s, 2, none⟩ = some x2 ∧ (w.alloc o).cell? ⟨s, 3, none⟩ = some x3 ∧ Blk (w.alloc o) s T #[x0, x1, x2, x3] ∧ Below g W (w.alloc o) := box4 (h.alloc o) (k.alloc (Nat.le_trans hg k.size) o)
end
theorem one_fld2 (w : World) (e : TypeId) (f : Fld) {s : Nat} (hs : s = w.heap.size) : Flds (w.alloc (.cells #[.int .i64 f.kind, .int .i64 f.n, .string f.s] e)) (w.heap.size + 1) (some ⟨s, 0, none⟩) 1 1 [f] :=
  Row.lit w #[.int .i64 f.kind, .int .i64 f.n, .string f.s] e (0, 0) hs rfl (by omega)
theorem three_nums (w : World) (e : TypeId) (a b c : Int) {s : Nat} (hs : s = w.heap.size) : Flds (w.alloc (.cells #[.int .i64 1, .int .i64 a, .string ⟨#[]⟩, .int .i64 1, .int .i64 b, .string ⟨#[]⟩, .int .i64 1, .int .i64 c, .string ⟨#[]⟩] e)) (w.heap.size + 1) (some ⟨s, 0, none⟩) 3 3 [numF a, numF b, numF c] :=
  Row.lit w #[.int .i64 1, .int .i64 a, .string ⟨#[]⟩, .int .i64 1, .int .i64 b, .string ⟨#[]⟩, .int .i64 1, .int .i64 c, .string ⟨#[]⟩] e (0, 0) hs rfl (by omega)
theorem four_chF (w : World) (e : TypeId) (f : Ch) {s : Nat} (hs : s = w.heap.size) : Flds (w.alloc (.cells #[.int .i64 1, .int .i64 f.tbl, .string ⟨#[]⟩, .int .i64 1, .int .i64 f.key, .string ⟨#[]⟩, .int .i64 1, .int .i64 (flag f.gone), .string ⟨#[]⟩, .int .i64 2, .int .i64 0, .string f.val] e)) (w.heap.size + 1) (some ⟨s, 0, none⟩) 4 4 (chF f) :=
  Row.lit w #[.int .i64 1, .int .i64 f.tbl, .string ⟨#[]⟩, .int .i64 1, .int .i64 f.key, .string ⟨#[]⟩, .int .i64 1, .int .i64 (flag f.gone), .string ⟨#[]⟩, .int .i64 2, .int .i64 0, .string f.val] e (0, 0) hs rfl (by omega)
set_option maxHeartbeats 800000 in
theorem changeFields_any (f : Ch) (w : World) :
    Calls Try.prog 29 #[.agg #[.int .i64 f.tbl, .int .i64 f.key, .bool f.gone, .string f.val]] w fun e w' => ∃ A, e = .returned (.slice A 4 4) ∧ Flds w' w'.heap.size A 4 4 (chF f) ∧ Below w.heap.size w w' := by
  obtain ⟨ft, fk, fg, fv'⟩ := f
  dsimp only
  go_enter Try.func29, Try.ntmps29
  go_wp2_with fail
  have hx : Blk (w.alloc (.cells #[.int .i64 ft, .int .i64 fk, .bool fg, .string fv'] 63)) w.heap.size 63 #[.int .i64 ft, .int .i64 fk, .bool fg, .string fv'] := Blk.new _ _ _
  have hw : Below w.heap.size w (w.alloc (.cells #[.int .i64 ft, .int .i64 fk, .bool fg, .string fv'] 63)) := (Below.refl _ _).alloc (Nat.le_refl _) _
  generalize (w.alloc (.cells #[.int .i64 ft, .int .i64 fk, .bool fg, .string fv'] 63)) = V at hx hw
  have HX5 := Lib.hid hx
  have HV := Lib.hid hw
  have HGV : Hid (V.heap.size ≤ V.heap.size) := Nat.le_refl _
  clear hx hw
  go_region_held3 (fun w' => w'.cell? ⟨w.heap.size, 0, none⟩ = some (.int .i64 ft) ∧ w'.cell? ⟨w.heap.size, 1, none⟩ = some (.int .i64 fk) ∧ w'.cell? ⟨w.heap.size, 2, none⟩ = some (.bool fg) ∧ w'.cell? ⟨w.heap.size, 3, none⟩ = some (.string fv') ∧ Blk w' w.heap.size 63 #[.int .i64 ft, .int .i64 fk, .bool fg, .string fv'] ∧ Below V.heap.size V w')
    (first
      | exact box4 (w := V.drew) HX5.out ((Below.refl _ _).drew)
      | (go_split_ands; exact box4_call HGV.out hb1 (by assumption) (by assumption))
      | (go_split_ands; exact box4_alloc HGV.out _ (by assumption) (by assumption)))
    (first
      | (go_at_call 28; refine (num_any _ _).mono ?_; rintro e w1 ⟨rfl, hb1⟩)
      | (go_at_call 30; refine (refflag_any _ _).mono ?_; rintro e w1 ⟨rfl, hb1⟩)
      | (go_at_call 59; refine (text_any _ _).mono ?_; rintro e w1 ⟨rfl, hb1⟩)
      | fail)
  have HZ : Hid (Below w.heap.size w (w1.alloc (.cells #[.int .i64 1, .int .i64 ft, .string ⟨#[]⟩, .int .i64 1, .int .i64 fk, .string ⟨#[]⟩, .int .i64 1, .int .i64 (flag fg), .string ⟨#[]⟩, .int .i64 2, .int .i64 0, .string fv'] 59))) := by
    go_split_ands
    exact held_two HV.out (by assumption)
  clear hb1
  go_wp2
  go_ret
  exact ⟨_, rfl, (four_chF w1 _ ⟨ft, fk, fg, fv'⟩ rfl).more (by simp), HZ.out⟩


end Go.Proofs.Ytlkjmdkmcaaihaa.Txn
