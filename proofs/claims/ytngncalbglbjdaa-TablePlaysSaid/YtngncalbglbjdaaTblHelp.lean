/-
  Package table: the law's first line (awake).
-/
import Derived.Test.YtngncalbglbjdaaTblApply
import Derived.Test.YtngncalbglbjdaaIdxHelp
namespace Go.Proofs.Ytngncalbglbjdaa.Tbl
set_option linter.unusedVariables false
set_option maxRecDepth 100000
open Go.RowKit Base IdxMath Foot Idx
open PChg (gcells gval gv gv_cons gv_length gv_get Cs)
set_option linter.ambiguousOpen false
set_option linter.unusedSimpArgs false

theorem lit_cs {w : World} {b : Nat} {T : TypeId} {x : Cg} (h : Blk w b T #[.int .i64 x.tbl, .int .i64 x.key, .bool x.gone, .string x.val]) : Cs w w.heap.size (some ⟨b, 0, none⟩) 1 1 [x] := by
  refine ⟨rfl, by omega, by omega, fun _ => ⟨b, 0, rfl, h.lt, fun j u hu => ?_⟩⟩
  rw [h.cell, Nat.zero_add]
  have : (gv [x])[j]? = #[Value.int .i64 x.tbl, .int .i64 x.key, .bool x.gone, .string x.val][j]? := by simp [gv, gcells]
  rw [← this]
  exact hu
theorem Made.at_ {w : World} {n : Int} {e : Ending} {w' : World} (h : Made w n e w') (h1 : 1 ≤ n) (h8 : n ≤ 8) : ∃ p, e = .returned (.tuple #[.pointer (some ⟨p, 0, none⟩), .int .i64 0]) ∧ SetAt w' (fun i => w.heap.size ≤ i ∧ i < w'.heap.size) p (List.replicate n.toNat []) ∧ Below w.heap.size w w' := by
  unfold Made at h
  rw [if_pos ⟨h1, h8⟩] at h
  exact h
theorem Made.not_ {w : World} {n : Int} {e : Ending} {w' : World} (h : Made w n e w') (h1 : ¬ (1 ≤ n ∧ n ≤ 8)) : e = .returned (.tuple #[.pointer none, .int .i64 1]) ∧ w = w' := by
  unfold Made at h
  rw [if_neg h1] at h
  exact ⟨h.1, h.2.symm⟩
theorem aw_all : allT [[], []] [⟨1, 5, false, ⟨#[97]⟩⟩] = true := by rfl
theorem aw_appl : appl [[], []] [⟨1, 5, false, ⟨#[97]⟩⟩] = [[], [⟨5, ⟨#[97]⟩⟩]] := by rfl
theorem aw_most : Most [[], []] 0 := by
  intro t
  unfold tab
  split
  · next h =>
    obtain ⟨i, rfl, hi⟩ := isT_nat h
    rcases i with _ | _ | i
    · exact Nat.le_refl _
    · exact Nat.le_refl _
    · simp at hi; omega
  · exact Nat.le_refl _
theorem aw_tab1 : tab [[], [⟨5, ⟨#[97]⟩⟩]] 1 = [⟨5, ⟨#[97]⟩⟩] := by rfl
theorem aw_tab0 : tab [[], [⟨5, ⟨#[97]⟩⟩]] 0 = [] := by rfl
set_option maxHeartbeats 3200000 in
theorem awake_any (w : World) : Calls Try.prog 20 #[] w fun e w' => e = .returned (.bool true) ∧ Below w.heap.size w w' := by
  go_enter Try.func20, Try.ntmps20
  go_wp2_with fail
  refine (new_any 2 w).mono ?_
  intro e w1 h1
  obtain ⟨p, rfl, hs, hb⟩ := h1.at_ (by omega) (by omega)
  have HS : Hid (SetAt w1 _ p [[], []]) := hs
  have HB := Lib.hid hb
  clear h1 hs hb
  go_wp2_with fail
  refine (new_any 0 w1).mono ?_
  intro e w2 h2
  obtain ⟨rfl, rfl⟩ := h2.not_ (by omega)
  clear h2
  go_wp2_with fail
  refine (tables_any _ p _ _ HS.out).mono ?_
  rintro e w3 ⟨rfl, rfl⟩
  have hbl : Blk (w1.alloc (.cells #[.int .i64 1, .int .i64 5, .bool false, .string ⟨#[97]⟩] 45)) w1.heap.size 45 #[.int .i64 1, .int .i64 5, .bool false, .string ⟨#[97]⟩] := Blk.new _ _ _
  have HBL := Lib.hid hbl
  have hb2 : Below w1.heap.size w1 (w1.alloc (.cells #[.int .i64 1, .int .i64 5, .bool false, .string ⟨#[97]⟩] 45)) := (Below.refl _ _).alloc (Nat.le_refl _) _
  have HB2 := Lib.hid hb2
  clear hbl hb2
  go_wp2_with fail
  refine (apply_set _ p _ 0 _ 1 1 [⟨1, 5, false, ⟨#[97]⟩⟩] _ (HS.out.new HB2.out) (fun wr ht => lit_cs ((ht.block _ HBL.out.lt (fun hf => by have := hf.2; omega)).trans HBL.out)) aw_most (by omega)).mono ?_
  rw [aw_all, aw_appl]
  rintro e w3 ⟨rfl, hs3, ht3⟩
  have HS3 := Lib.hid hs3
  have HB3 := Lib.hid (((Turn.new (F := fun i => w.heap.size ≤ i ∧ i < w1.heap.size) (held_two HB.out HB2.out)).trans ht3 fun _ h => .inl h).below (fun i h => h.1) (Nat.le_refl _))
  clear hs3 ht3
  go_wp2_with fail
  refine (rows_any _ p _ 1 _ HS3.out (by rw [aw_tab1]; simp)).mono ?_
  rw [aw_tab1]
  rintro e w4 ⟨A4, c4, rfl, ho4, hb4⟩
  have HO4 := Lib.hid ho4
  have HB4 := Lib.hid hb4
  clear ho4 hb4
  have hlit : Rs (w4.alloc (.cells #[.int .i64 5, .string ⟨#[97]⟩] 37)) (w4.heap.size + 1) (some ⟨w4.heap.size, 0, none⟩) 1 1 [⟨5, ⟨#[97]⟩⟩] := one_row w4 5 _ rfl
  have HLIT := Lib.hid hlit
  clear hlit
  go_wp2_with fail
  refine (rplain_same w4.heap.size _ A4 _ 1 1 c4 1 [⟨5, ⟨#[97]⟩⟩] _ (Rs.below (Rs.of_own HO4.out) ((Below.refl _ _).alloc (Nat.le_refl _) _)) HLIT.out (by simp) (by simp)).mono ?_
  rintro e w5 ⟨rfl, hb5⟩
  have HB5 := Lib.hid (held_two (HB4.out.alloc HB4.out.size _) hb5)
  clear hb5
  go_wp2_with fail
  refine (len_any _ p _ 0 _ (HS3.out.new HB5.out)).mono ?_
  rw [aw_tab0]
  rintro e w6 ⟨rfl, rfl⟩
  go_wp2
  go_ret
  exact ⟨rfl, held_two HB3.out HB5.out⟩
end Go.Proofs.Ytngncalbglbjdaa.Tbl
