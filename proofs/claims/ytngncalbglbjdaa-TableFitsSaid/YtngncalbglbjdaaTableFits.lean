/-
  TableFits: a thousand rows fit, one more does not: the plain facts; the walk of the law.
-/
import Derived.Test.YtngncalbglbjdaaTblFits2
import Derived.Test.YtngncalbglbjdaaTableLoads
import Derived.Test.YtngncalbglbjdaaPlayCut
namespace Go.Proofs.Ytngncalbglbjdaa.Tbl
set_option linter.unusedVariables false
set_option maxRecDepth 100000
open Go.RowKit Base IdxMath Foot Idx
open PChg (gcells gval gv gv_cons gv_length gv_get Cs)
open Go.Proofs.Ytngncalbglbjdaa.Field (modZ modZ_lt mod_any cut_any)
set_option linter.ambiguousOpen false
set_option linter.unusedSimpArgs false

/-! ### plain -/
def rowsK (k : Nat) (v : ByteArray) : List Rw := (List.range k).map fun i : Nat => (⟨(i : Int) + 1, v⟩ : Rw)
theorem rowsK_succ (k : Nat) (v : ByteArray) : rowsK (k + 1) v = rowsK k v ++ [⟨(k : Int) + 1, v⟩] := by simp [rowsK, List.range_succ]
theorem rowsK_length (k : Nat) (v : ByteArray) : (rowsK k v).length = k := by simp [rowsK]
theorem rowsK_lt {k : Nat} {v : ByteArray} : ∀ x ∈ rowsK k v, 1 ≤ x.key ∧ x.key < (k : Int) + 1 := by
  intro x hx
  obtain ⟨i, hi, rfl⟩ := List.mem_map.1 hx
  have := List.mem_range.1 hi
  dsimp only
  omega
theorem put_end {l : List Rw} {k : Int} {v : ByteArray} (h : ∀ x ∈ l, x.key < k) : put l k v = l ++ [⟨k, v⟩] := by
  induction l with
  | nil => rfl
  | cons y r ih =>
    unfold put
    rw [if_pos (h y List.mem_cons_self), ih fun x hx => h x (List.mem_cons_of_mem _ hx)]
    rfl
theorem make_rowsK (k : Nat) (v : ByteArray) : make (rowsK k v) = rowsK k v := by
  induction k with
  | zero => rfl
  | succ k ih =>
    rw [rowsK_succ, make_snoc, ih]
    exact put_end fun x hx => (rowsK_lt x hx).2
theorem rowsK_rise (k : Nat) (v : ByteArray) : Rise (rowsK k v) := by rw [← make_rowsK]; exact Rise.make _
theorem rowsK_there {k : Nat} {v : ByteArray} (x : Int) : there (rowsK k v) x = decide (1 ≤ x ∧ x ≤ (k : Int)) := by
  apply bool_ext
  rw [there_iff (rowsK_rise k v)]
  constructor
  · rintro ⟨y, hy, rfl⟩
    have := rowsK_lt y hy
    simp; omega
  · intro h
    have h := of_decide_eq_true h
    refine ⟨⟨((x - 1).toNat : Int) + 1, v⟩, List.mem_map.2 ⟨(x - 1).toNat, List.mem_range.2 (by omega), rfl⟩, by dsimp only; omega⟩
def moreC : Cg := ⟨0, 5000, false, ⟨#[120]⟩⟩
def lessC : Cg := ⟨0, 1, true, ⟨#[]⟩⟩
theorem fits_nil (R : List Rw) : fitsT [R] [] = decide (R.length ≤ 1000) := by simp [fitsT, allT, doAll, small, tab, isT]
theorem fits_more {k : Nat} (v : ByteArray) (hk : k ≤ 1001) : fitsT [rowsK k v] [moreC] = decide (k + 1 ≤ 1000) := by
  have h1 : isT [rowsK k v] moreC.tbl = true := by rfl
  have e : (one (rowsK k v) moreC).length = k + 1 := by
    have := one_length (rowsK k v) moreC
    rw [rowsK_length, rowsK_there] at this
    have hd : decide (1 ≤ moreC.key ∧ moreC.key ≤ (k : Int)) = false := decide_eq_false (by show ¬ (1 ≤ (5000 : Int) ∧ (5000 : Int) ≤ (k : Int)); omega)
    rw [hd, if_neg (by simp), if_pos ⟨rfl, rfl⟩] at this
    omega
  unfold fitsT
  rw [allT_one h1]
  show (true && small (do1 [rowsK k v] moreC) 1) = _
  unfold small
  have ht : tab (do1 [rowsK k v] moreC) 0 = one (rowsK k v) moreC := by rw [tab_do1 h1]; rfl
  simp [ht, e]
theorem fits_two {k : Nat} (v : ByteArray) (h0 : 1 ≤ k) (hk : k ≤ 1001) : fitsT [rowsK k v] [moreC, lessC] = decide (k ≤ 1000) := by
  have h1 : isT [rowsK k v] moreC.tbl = true := by rfl
  have h2 : isT (do1 [rowsK k v] moreC) lessC.tbl = true := by rfl
  have hd : decide (1 ≤ moreC.key ∧ moreC.key ≤ (k : Int)) = false := decide_eq_false (by show ¬ (1 ≤ (5000 : Int) ∧ (5000 : Int) ≤ (k : Int)); omega)
  have e1 : (one (rowsK k v) moreC).length = k + 1 := by
    have := one_length (rowsK k v) moreC
    rw [rowsK_length, rowsK_there, hd, if_neg (by simp), if_pos ⟨rfl, rfl⟩] at this
    omega
  have e2 : (one (one (rowsK k v) moreC) lessC).length = k := by
    have := one_length (one (rowsK k v) moreC) lessC
    have ht : there (one (rowsK k v) moreC) lessC.key = true := by
      rw [one_there (rowsK_rise k v), if_neg (by decide), rowsK_there]
      exact decide_eq_true (by show 1 ≤ (1 : Int) ∧ (1 : Int) ≤ (k : Int); omega)
    rw [ht, if_pos ⟨rfl, rfl⟩, e1] at this
    omega
  have h12 : allT [rowsK k v] [moreC, lessC] = true := by rfl
  unfold fitsT
  rw [h12]
  show (true && small (do1 (do1 [rowsK k v] moreC) lessC) 1) = _
  unfold small
  have ht : tab (do1 (do1 [rowsK k v] moreC) lessC) 0 = one (one (rowsK k v) moreC) lessC := by
    rw [tab_do1 h2, if_pos (show (0 : Int) = lessC.tbl from rfl), tab_do1 h1, if_pos (show (0 : Int) = moreC.tbl from rfl)]
    rfl
  simp [ht, e2]
theorem fits_no (R : List Rw) : fitsT [R] [⟨1, 1, false, ⟨#[]⟩⟩] = false := by rfl
theorem load_one (R : List Rw) (rows : List Rw) : load [R] 0 rows = [make rows] := by rfl
theorem load_not {R : List Rw} {rows : List Rw} {t : Int} (h : isT [R] t = false) : load [R] t rows = [R] := by unfold load; rw [h]; rfl
theorem lit_cs2 {w : World} {b : Nat} {T : TypeId} {x y : Cg} (h : Blk w b T #[.int .i64 x.tbl, .int .i64 x.key, .bool x.gone, .string x.val, .int .i64 y.tbl, .int .i64 y.key, .bool y.gone, .string y.val]) : Cs w w.heap.size (some ⟨b, 0, none⟩) 2 2 [x, y] := by
  refine ⟨rfl, by omega, by omega, fun _ => ⟨b, 0, rfl, h.lt, fun j u hu => ?_⟩⟩
  rw [h.cell, Nat.zero_add]
  have : (gv [x, y])[j]? = #[Value.int .i64 x.tbl, .int .i64 x.key, .bool x.gone, .string x.val, .int .i64 y.tbl, .int .i64 y.key, .bool y.gone, .string y.val][j]? := by simp [gv, gcells]
  rw [← this]
  exact hu
theorem most_one (R : List Rw) : Most [R] R.length := by
  intro t
  unfold tab
  split
  · next h =>
    obtain ⟨i, rfl, hi⟩ := isT_nat h
    have : i = 0 := by simpa using hi
    subst this
    exact Nat.le_refl _
  · exact Nat.zero_le _
def FitRel (w1 : World) (k : Nat) (v : ByteArray) (vr vi : Value) (wr : World) : Prop :=
  ∃ (i : Nat) (A : Option Addr) (c : Nat), vi = .int .i64 ((i : Int) + 1) ∧ i ≤ k ∧ vr = .slice A i c ∧ wr.ownsRow w1.heap.size 37 2 (.slice A i c) i (rv (rowsK i v)) ∧ Below w1.heap.size w1 wr
set_option maxHeartbeats 12800000 in
theorem tfits_walk (n : Int) (val : ByteArray) (w : World) (hv : val.size ≤ 9223372036854775807) :
    Calls Try.prog 5 #[.int .i64 n, .string val] w fun e w' => e = .returned (.bool true) ∧ Below w.heap.size w w' := by
  obtain ⟨m, hm⟩ : ∃ m, m = modZ n 4 := ⟨_, rfl⟩
  have hm4 : m < 4 := by rw [hm]; exact modZ_lt n (by omega)
  have HM := Lib.hid hm
  obtain ⟨k, hk⟩ : ∃ k : Nat, k = 998 + m := ⟨_, rfl⟩
  have hk1 : 998 ≤ k ∧ k ≤ 1001 := by omega
  have HKZ := Lib.hid (show (998 : Int) + m = k by omega)
  have HK := Lib.hid hk
  clear hk
  have CV := Lib.hid (fun w => cut_any val 9 w hv (by omega))
  clear hm
  go_enter Try.func5, Try.ntmps5
  go_wp2_with fail
  refine (new_any 1 w).mono ?_
  intro e w1 h1
  obtain ⟨p, rfl, hs, hb⟩ := h1.at_ (by omega) (by omega)
  have HS1 : Hid (TS w w1 (fun i => w.heap.size ≤ i ∧ i < w1.heap.size) p [[]]) := ⟨hs, fun i hi => hi⟩
  have HB1 := Lib.hid hb
  clear h1 hs hb
  go_wp2_with fail
  refine (mod_any n 4 w1 (by omega) (by omega)).mono ?_
  rintro e w2 ⟨rfl, rfl⟩
  rw [← HM.out]
  generalize str (List.take 9 val.data.toList) = v at CV
  go_wp2
  rw [HKZ.out]
  go_loopw [8, 9] (fun vr vi wr => FitRel w1 k v vr vi wr) (fun vr vi _ => k + 1 - (intOf vi).toNat)
  case atStart => exact ⟨0, none, 0, rfl, Nat.zero_le _, rfl, World.ownsRow_nil _ _ _ _, Below.refl _ _⟩
  case round =>
    obtain ⟨i, A, c, rfl, hi, rfl, hown, hbel⟩ := hrel
    have HO := Lib.hid hown
    have HB := Lib.hid hbel
    have hz := hbel.size
    clear hown hbel
    by_cases hik : i < k
    · have l1 : (i : Int) + 1 ≤ (k : Int) := by omega
      go_wp2_with (first
        | (refine (CV.out _).mono ?_; rintro e w2 ⟨rfl, rfl⟩)
        | (at_builtin
           refine wpList_append_row rfl (.tmp 32) (.tmp 37) rfl er w1.heap.size _ i (rv (rowsK i v)) rfl (own_keep HO.out ((Below.refl _ _).alloc (Nat.le_refl _) _)) _ _ 1 1 (rv [⟨(i : Int) + 1, v⟩]) rfl (one_row wr ((i : Int) + 1) v rfl) (rv_one _) (by omega) (by omega) (by simp; omega) ?_
           intro A3 c3 w3 hown3 _ hb3
           rw [← rv_append, ← rowsK_succ] at hown3
           have HO3 := Lib.hid hown3
           have HB3 := Lib.hid ((HB.out.alloc hz _).trans hb3)
           clear hown3 hb3)
        | fail)
      refine ⟨⟨i + 1, A3, c3, by rw [Int.natCast_add]; rfl, hik, rfl, HO3.out, HB3.out⟩, by simp only [intOf]; omega⟩
    · obtain rfl : i = k := by omega
      have l1 : ¬ (i : Int) + 1 ≤ (i : Int) := by omega
      have HS2 := Lib.hid (HS1.out.new HB.out)
      have HB2 := Lib.hid (held_two HB1.out HB.out)
      have HZ : Hid (∀ j, (fun j => w.heap.size ≤ j ∧ j < w1.heap.size) j → j < w1.heap.size) := fun j hj => hj.2
      have hic : i ≤ c ∧ c ≤ 9223372036854775807 := (Rs.of_own HO.out).le
      clear HB HS1
      go_wp2_with fail
      refine (load_any _ p [[]] 0 A i c (rowsK i v) wr HS2.out.1 (Rs.of_own HO.out) (by omega)).mono ?_
      rw [show isT [[]] 0 = true from rfl, load_one, make_rowsK]
      rintro e w3 ⟨rfl, hs3, ht3⟩
      have HS3 := Lib.hid (HS2.out.turn HB2.out.size hs3 ht3)
      have HB3 := Lib.hid (below_turn HB2.out ht3 (fun x hx => hx.1))
      have HO3 := Lib.hid (own_off HO.out ht3 HZ.out)
      have HF3 : Hid (∀ g, (Value.slice A i c).ownBlock = some g → ¬ Out (fun j => w.heap.size ≤ j ∧ j < w1.heap.size) wr w3 g) := fun g hg ho => by
        have h1 := (HO.out.lt g hg).1
        have h2 := own_lt HO.out hg
        rcases ho with ho | ho
        · have := ho.2; omega
        · omega
      generalize Out (fun j => w.heap.size ≤ j ∧ j < w1.heap.size) wr w3 = F3 at *
      clear hs3 ht3 HS2 HB2 HO HZ
      go_wp2_with fail
      refine (load_any F3 p [rowsK i v] 1 A i c (rowsK i v) w3 HS3.out.1 (Rs.of_own HO3.out) (by omega)).mono ?_
      rw [show isT [rowsK i v] 1 = false from rfl, load_not (show isT [rowsK i v] 1 = false from rfl)]
      rintro e w4 ⟨rfl, hs4, ht4⟩
      have HS4 := Lib.hid (HS3.out.turn HB3.out.size hs4 ht4)
      have HB4 := Lib.hid (below_turn HB3.out ht4 (fun x hx => (HS3.out.2 x hx).1))
      generalize Out F3 w3 w4 = F4 at *
      clear hs4 ht4 HS3 HB3 HO3 HF3
      go_wp2_with fail
      refine (load_any F4 p [rowsK i v] (-1) none 0 0 [] w4 HS4.out.1 (Rs.nil_ _ _) (by omega)).mono ?_
      rw [show isT [rowsK i v] (-1) = false from rfl, load_not (show isT [rowsK i v] (-1) = false from rfl)]
      rintro e w5 ⟨rfl, hs5, ht5⟩
      have HS5 := Lib.hid (HS4.out.turn HB4.out.size hs5 ht5)
      have HB5 := Lib.hid (below_turn HB4.out ht5 (fun x hx => (HS4.out.2 x hx).1))
      generalize Out F4 w4 w5 = F5 at *
      clear hs5 ht5 HS4 HB4
      have HT0 : Hid ((tab [rowsK i v] 0).length = i) := rowsK_length i v
      go_wp2_with fail
      refine (len_any F5 p [rowsK i v] 0 w5 HS5.out.1).mono ?_
      rintro e w6 ⟨rfl, rfl⟩
      rw [HT0.out]
      obtain ⟨o1, ho1⟩ : ∃ o1, o1 = decide (i + 1 ≤ 1000) := ⟨_, rfl⟩
      obtain ⟨o2, ho2⟩ : ∃ o2, o2 = decide (i ≤ 1000) := ⟨_, rfl⟩
      have HFM := Lib.hid ((fits_more (k := i) v (by omega)).trans ho1.symm)
      have HF2 := Lib.hid ((fits_two (k := i) v (by omega) (by omega)).trans ho2.symm)
      have HFN := Lib.hid (show fitsT [rowsK i v] [] = o2 by rw [fits_nil, rowsK_length, ho2])
      have HO1 := Lib.hid ho1
      have HO2 := Lib.hid ho2
      clear ho1 ho2
      have HFO := Lib.hid (fits_no (rowsK i v))
      have HMO : Hid (Most [rowsK i v] 1001) := (most_one (rowsK i v)).mono (by rw [rowsK_length]; omega)
      generalize rowsK i v = R at *
      have hbx : Below w5.heap.size w5 ((w5.alloc (.cells #[.int .i64 0, .int .i64 5000, .bool false, .string ⟨#[120]⟩] 45)).alloc (.cells #[.int .i64 0, .int .i64 1, .bool true, .string ⟨#[]⟩] 45)) := ((Below.refl _ _).alloc (Nat.le_refl _) _).alloc (by simp) _
      have hm0 := (Blk.new w5 45 #[.int .i64 0, .int .i64 5000, .bool false, .string ⟨#[120]⟩]).alloc (.cells #[.int .i64 0, .int .i64 1, .bool true, .string ⟨#[]⟩] 45)
      have hl0 : Blk ((w5.alloc (.cells #[.int .i64 0, .int .i64 5000, .bool false, .string ⟨#[120]⟩] 45)).alloc (.cells #[.int .i64 0, .int .i64 1, .bool true, .string ⟨#[]⟩] 45)) (w5.heap.size + 1) 45 #[.int .i64 0, .int .i64 1, .bool true, .string ⟨#[]⟩] := by
        have := Blk.new (w5.alloc (.cells #[.int .i64 0, .int .i64 5000, .bool false, .string ⟨#[120]⟩] 45)) 45 #[.int .i64 0, .int .i64 1, .bool true, .string ⟨#[]⟩]
        simpa using this
      have HS6 := Lib.hid (HS5.out.new hbx)
      have HB6 := Lib.hid (held_two HB5.out hbx)
      have HM0 := Lib.hid hm0
      have HL0 := Lib.hid hl0
      clear hbx hm0 hl0 HS5 HB5
      go_upto_region 14 with fail
      obtain ⟨s8, hs8⟩ : ∃ s8, s8 = w5.heap.size := ⟨_, rfl⟩
      obtain ⟨s9, hs9⟩ : ∃ s9, s9 = w5.heap.size + 1 := ⟨_, rfl⟩
      generalize ((w5.alloc (.cells #[.int .i64 0, .int .i64 5000, .bool false, .string ⟨#[120]⟩] 45)).alloc (.cells #[.int .i64 0, .int .i64 1, .bool true, .string ⟨#[]⟩] 45)) = w6 at *
      rw [← hs9] at HL0
      rw [← hs8] at HM0
      rw [← hs9, ← hs8]
      clear hs8 hs9
      have a0 : w6.cell? ⟨s8, 0, none⟩ = some (.int .i64 0) := HM0.out.cell 0
      have a1 : w6.cell? ⟨s8, 1, none⟩ = some (.int .i64 5000) := HM0.out.cell 1
      have a2 : w6.cell? ⟨s8, 2, none⟩ = some (.bool false) := HM0.out.cell 2
      have a3 : w6.cell? ⟨s8, 3, none⟩ = some (.string ⟨#[120]⟩) := HM0.out.cell 3
      have HBL6 := Lib.hid (Blk.new w6 45 #[.int .i64 0, .int .i64 5000, .bool false, .string ⟨#[120]⟩])
      have hbx6 : Below w6.heap.size w6 (w6.alloc (.cells #[.int .i64 0, .int .i64 5000, .bool false, .string ⟨#[120]⟩] 45)) := (Below.refl _ _).alloc (Nat.le_refl _) _
      have HS6b := Lib.hid (HS6.out.new hbx6)
      have HB6b := Lib.hid (held_two HB6.out hbx6)
      have HM6 := Lib.hid (HM0.out.below hbx6 HM0.out.lt)
      have HL6 := Lib.hid (HL0.out.below hbx6 HL0.out.lt)
      clear hbx6 HS6 HB6 HM0 HL0
      go_wp2_with fail
      refine (fits_any F5 p [R] 1001 _ 1 1 [moreC] _ HS6b.out.1 (lit_cs HBL6.out) (by intro f hf; rw [List.mem_singleton] at hf; subst hf; exact ⟨by decide, by decide⟩) HMO.out (by omega)).mono ?_
      rw [HFM.out]
      rintro e w7 ⟨rfl, hb7⟩
      have HS7 := Lib.hid (HS6b.out.new hb7)
      have HB7 := Lib.hid (held_two HB6b.out hb7)
      have hm7 := HM6.out.below hb7 HM6.out.lt
      have hl7 := HL6.out.below hb7 HL6.out.lt
      clear a0 a1 a2 a3 hb7 HS6b HB6b HM6 HL6 HBL6
      have a0 : w7.cell? ⟨s8, 0, none⟩ = some (.int .i64 0) := hm7.cell 0
      have a1 : w7.cell? ⟨s8, 1, none⟩ = some (.int .i64 5000) := hm7.cell 1
      have a2 : w7.cell? ⟨s8, 2, none⟩ = some (.bool false) := hm7.cell 2
      have a3 : w7.cell? ⟨s8, 3, none⟩ = some (.string ⟨#[120]⟩) := hm7.cell 3
      have b0 : w7.cell? ⟨s9, 0, none⟩ = some (.int .i64 0) := hl7.cell 0
      have b1 : w7.cell? ⟨s9, 1, none⟩ = some (.int .i64 1) := hl7.cell 1
      have b2 : w7.cell? ⟨s9, 2, none⟩ = some (.bool true) := hl7.cell 2
      have b3 : w7.cell? ⟨s9, 3, none⟩ = some (.string ⟨#[]⟩) := hl7.cell 3
      have HBL7 := Lib.hid (Blk.new w7 45 #[.int .i64 0, .int .i64 5000, .bool false, .string ⟨#[120]⟩, .int .i64 0, .int .i64 1, .bool true, .string ⟨#[]⟩])
      have hbx7 : Below w7.heap.size w7 (w7.alloc (.cells #[.int .i64 0, .int .i64 5000, .bool false, .string ⟨#[120]⟩, .int .i64 0, .int .i64 1, .bool true, .string ⟨#[]⟩] 45)) := (Below.refl _ _).alloc (Nat.le_refl _) _
      have HS7b := Lib.hid (HS7.out.new hbx7)
      have HB7b := Lib.hid (held_two HB7.out hbx7)
      clear hbx7 hm7 hl7 HS7 HB7
      go_wp2_with fail
      refine (fits_any F5 p [R] 1001 _ 2 2 [moreC, lessC] _ HS7b.out.1 (lit_cs2 HBL7.out) (by intro f hf; rcases List.mem_cons.1 hf with rfl | hf; exact ⟨by decide, by decide⟩; rw [List.mem_singleton] at hf; subst hf; exact ⟨by decide, by decide⟩) HMO.out (by omega)).mono ?_
      rw [HF2.out]
      rintro e w8 ⟨rfl, hb8⟩
      have HS8 := Lib.hid (HS7b.out.new hb8)
      have HB8 := Lib.hid (held_two HB7b.out hb8)
      clear a0 a1 a2 a3 b0 b1 b2 b3 hb8 HS7b HB7b HBL7
      go_wp2_with fail
      refine (awake_any w8).mono ?_
      rintro e w9 ⟨rfl, hb9⟩
      have HS9 := Lib.hid (HS8.out.new hb9)
      have HB9 := Lib.hid (held_two HB8.out hb9)
      clear hb9 HS8 HB8
      go_wp2_with fail
      refine (len_any F5 p [R] 0 w9 HS9.out.1).mono ?_
      rintro e w10 ⟨rfl, rfl⟩
      rw [HT0.out]
      have HBL9 := Lib.hid (Blk.new w9 45 #[.int .i64 1, .int .i64 1, .bool false, .string ⟨#[]⟩])
      have hbx9 : Below w9.heap.size w9 (w9.alloc (.cells #[.int .i64 1, .int .i64 1, .bool false, .string ⟨#[]⟩] 45)) := (Below.refl _ _).alloc (Nat.le_refl _) _
      have HS9b := Lib.hid (HS9.out.new hbx9)
      have HB9b := Lib.hid (held_two HB9.out hbx9)
      clear hbx9 HS9 HB9
      have HO1' : (decide (i ≤ 999)) = o1 := by rw [HO1.out]; exact decide_eq_decide.2 (by omega)
      have HO2' : (decide (i ≤ 1000)) = o2 := HO2.out.symm
      by_cases hi1000 : i ≤ 1000
      · by_cases hi999 : i ≤ 999
        · obtain rfl : o1 = true := by rw [← HO1']; exact decide_eq_true hi999
          obtain rfl : o2 = true := by rw [← HO2']; exact decide_eq_true hi1000
          clear HO1' HO2' HO1 HO2
          go_wp2_with fail
          refine (fits_any F5 p [R] 1001 _ 1 1 [⟨1, 1, false, ⟨#[]⟩⟩] _ HS9b.out.1 (lit_cs HBL9.out) (by intro f hf; rw [List.mem_singleton] at hf; subst hf; exact ⟨by decide, by decide⟩) HMO.out (by omega)).mono ?_
          rw [HFO.out]
          rintro e w11 ⟨rfl, hb11⟩
          have HS11 := Lib.hid (HS9b.out.new hb11)
          have HB11 := Lib.hid (held_two HB9b.out hb11)
          clear hb11 HS9b HB9b HBL9
          go_wp2_with fail
          refine (fits_any F5 p [R] 1001 none 0 0 [] w11 HS11.out.1 (Row.nil_ _ _ _) (by intro f hf; cases hf) HMO.out (by omega)).mono ?_
          rw [HFN.out]
          rintro e w12 ⟨rfl, hb12⟩
          have HB12 := Lib.hid (held_two HB11.out hb12)
          clear hb12 HS11 HB11
          go_wp2
          go_ret
          exact ⟨by first | rfl | exact ret_bool' (by simp; omega), HB12.out⟩
        · obtain rfl : o1 = false := by rw [← HO1']; exact decide_eq_false hi999
          obtain rfl : o2 = true := by rw [← HO2']; exact decide_eq_true hi1000
          clear HO1' HO2' HO1 HO2
          go_wp2_with fail
          refine (fits_any F5 p [R] 1001 _ 1 1 [⟨1, 1, false, ⟨#[]⟩⟩] _ HS9b.out.1 (lit_cs HBL9.out) (by intro f hf; rw [List.mem_singleton] at hf; subst hf; exact ⟨by decide, by decide⟩) HMO.out (by omega)).mono ?_
          rw [HFO.out]
          rintro e w11 ⟨rfl, hb11⟩
          have HS11 := Lib.hid (HS9b.out.new hb11)
          have HB11 := Lib.hid (held_two HB9b.out hb11)
          clear hb11 HS9b HB9b HBL9
          go_wp2_with fail
          refine (fits_any F5 p [R] 1001 none 0 0 [] w11 HS11.out.1 (Row.nil_ _ _ _) (by intro f hf; cases hf) HMO.out (by omega)).mono ?_
          rw [HFN.out]
          rintro e w12 ⟨rfl, hb12⟩
          have HB12 := Lib.hid (held_two HB11.out hb12)
          clear hb12 HS11 HB11
          go_wp2
          go_ret
          exact ⟨by first | rfl | exact ret_bool' (by simp; omega), HB12.out⟩
      · have hi999 : ¬ i ≤ 999 := by omega
        obtain rfl : o1 = false := by rw [← HO1']; exact decide_eq_false hi999
        obtain rfl : o2 = false := by rw [← HO2']; exact decide_eq_false hi1000
        clear HO1' HO2' HO1 HO2
        go_wp2_with fail
        refine (fits_any F5 p [R] 1001 _ 1 1 [⟨1, 1, false, ⟨#[]⟩⟩] _ HS9b.out.1 (lit_cs HBL9.out) (by intro f hf; rw [List.mem_singleton] at hf; subst hf; exact ⟨by decide, by decide⟩) HMO.out (by omega)).mono ?_
        rw [HFO.out]
        rintro e w11 ⟨rfl, hb11⟩
        have HS11 := Lib.hid (HS9b.out.new hb11)
        have HB11 := Lib.hid (held_two HB9b.out hb11)
        clear hb11 HS9b HB9b HBL9
        go_wp2_with fail
        refine (fits_any F5 p [R] 1001 none 0 0 [] w11 HS11.out.1 (Row.nil_ _ _ _) (by intro f hf; cases hf) HMO.out (by omega)).mono ?_
        rw [HFN.out]
        rintro e w12 ⟨rfl, hb12⟩
        have HB12 := Lib.hid (held_two HB11.out hb12)
        clear hb12 HS11 HB11
        go_wp2
        go_ret
        exact ⟨by first | rfl | exact ret_bool' (by simp; omega), HB12.out⟩
end Go.Proofs.Ytngncalbglbjdaa.Tbl
