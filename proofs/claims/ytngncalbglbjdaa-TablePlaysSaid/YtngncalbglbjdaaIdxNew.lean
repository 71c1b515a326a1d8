/-
  The contract of index.New: rows put one behind the other.
-/
import Derived.Test.YtngncalbglbjdaaIdxCode
namespace Go.Proofs.Ytngncalbglbjdaa.Idx
set_option linter.unusedVariables false
set_option maxRecDepth 100000
open Go.RowKit Base IdxMath Foot
open Go.Sort (grow)
set_option linter.ambiguousOpen false
set_option linter.unusedSimpArgs false

theorem reverse_nil (w : World) : Calls Try.prog 46 #[.slice none 0 0] w fun e w' => e = .returned (.tuple #[]) ∧ w = w' := by
  go_enter Try.func46, Try.ntmps46
  go_wp2
  refine wp_loop_rounds 1 ?_
  rw [rounds_succ]
  go_wp2
  go_end0
  exact ⟨rfl, rfl⟩
theorem insertion_nil (v : Value) (w : World) : Calls Try.prog 61 #[.slice none 0 0, .int .i64 0, .int .i64 0, v] w fun e w' => e = .returned (.tuple #[]) ∧ w = w' := by
  go_enter Try.func61, Try.ntmps61
  go_wp2
  refine wp_loop_rounds 1 ?_
  rw [rounds_succ]
  go_wp2
  go_end0
  exact ⟨rfl, rfl⟩
theorem stableCmp_nil (v : Value) (w : World) : Calls Try.prog 56 #[.slice none 0 0, .int .i64 0, v] w fun e w' => e = .returned (.tuple #[]) ∧ w = w' := by
  go_enter Try.func56, Try.ntmps56
  go_wp2
  refine wp_loop_rounds 1 ?_
  rw [rounds_succ]
  go_wp2_with fail
  refine (insertion_nil _ _).mono ?_
  rintro e w1 ⟨rfl, rfl⟩
  go_wp2
  refine wp_loop_rounds 1 ?_
  rw [rounds_succ]
  go_wp2
  go_end0
  exact ⟨rfl, rfl⟩
theorem stable_nil (v : Value) (w : World) : Calls Try.prog 47 #[.slice none 0 0, v] w fun e w' => e = .returned (.tuple #[]) ∧ w = w' := by
  go_enter Try.func47, Try.ntmps47
  go_wp2_with fail
  refine (stableCmp_nil _ _).mono ?_
  rintro e w1 ⟨rfl, rfl⟩
  go_wp2
  go_end0
  exact ⟨rfl, rfl⟩
theorem compact_nil (v : Value) (w : World) : Calls Try.prog 49 #[.slice none 0 0, v] w fun e w' => e = .returned (.slice none 0 0) ∧ w = w' := by
  go_enter Try.func49, Try.ntmps49
  go_wp2
  go_ret
  exact ⟨rfl, rfl⟩

theorem below_of_only' {B : Nat} {a w : World} {g : Nat} (h : a.grownBy w (some g)) (hg : B ≤ g) (hB : B ≤ a.heap.size) : Below B a w :=
  ⟨h.os, h.tape, h.output, h.size, fun i hi => h.block i (by omega) (fun e => by injection e; omega)⟩
/-- an index laid over rows of its own -/
theorem begun_of {w w1 : World} {A : Option Addr} {c : Nat} {l : List Rw} (hb : Below w.heap.size w w1) (ho : w1.ownsRow w.heap.size 37 2 (.slice A l.length c) l.length (rv l)) (hr : Rise l) :
    Begun w l (.returned (.pointer (some ⟨w1.heap.size, 0, none⟩))) (w1.alloc (.cells #[.slice A l.length c] 85)) := by
  have hbx : Below w1.heap.size w1 (w1.alloc (.cells #[.slice A l.length c] 85)) := (Below.refl _ _).alloc (Nat.le_refl _) _
  refine ⟨w1.heap.size, rfl, ⟨A, c, Blk.new _ _ _, ⟨hb.size, by simp⟩, own_mono (own_keep ho hbx) (Nat.zero_le _), fun g hg => ⟨(ho.lt g hg).1, by have := own_lt ho hg; simp; omega⟩, hr⟩, hb.alloc hb.size _⟩
set_option maxHeartbeats 1600000 in
theorem new_any (B : Nat) (A : Option Addr) (n c : Nat) (rows : List Rw) (w : World) (hr : Rs w B A n c rows) (hB : B ≤ w.heap.size) (hsz : n ≤ 1099511627774) :
    Calls Try.prog 29 #[.slice A n c] w (Begun w (make rows)) := by
  have HC := Lib.hid (clone_any B A n c rows w hr hB (by omega))
  have HL := Lib.hid hr.len
  clear hr
  go_enter Try.func29, Try.ntmps29
  go_wp2_with fail
  refine HC.out.mono ?_
  rintro e w1 ⟨A1, c1, rfl, ho1, hb1⟩
  have HB1 := Lib.hid hb1
  clear hb1
  rcases ho1.2 with ⟨hv, h0⟩ | ⟨b, cap, cur, hv, hbase, hg, h1, h2, h3, h4⟩
  · simp only [Value.slice.injEq] at hv
    obtain ⟨rfl, h0, rfl⟩ := hv
    obtain rfl : rows = [] := List.eq_nil_of_length_eq_zero h0
    clear ho1
    go_wp2_with fail
    refine (reverse_nil _).mono ?_
    rintro e w2 ⟨rfl, rfl⟩
    go_wp2_with fail
    refine (stable_nil _ _).mono ?_
    rintro e w2 ⟨rfl, rfl⟩
    go_wp2_with fail
    refine (compact_nil _ _).mono ?_
    rintro e w2 ⟨rfl, rfl⟩
    have HF := Lib.hid (begun_of (A := none) (c := 0) (l := []) HB1.out (World.ownsRow_nil _ _ _ _) Rise.nil)
    go_wp2
    go_ret
    exact HF.out
  · simp only [Value.slice.injEq] at hv
    obtain ⟨rfl, _, rfl⟩ := hv
    have ha : Arr w1 b c1 rows := ⟨cur, hg, h1, h2, h3, h4⟩
    have HA := Lib.hid ha
    have HBS := Lib.hid hbase
    clear ho1 hg h1 h2 h3 h4 ha hbase
    generalize hn : rows.length = N at *
    have HN := Lib.hid hn
    have hN : N ≤ 1099511627774 := by have := HL.out; omega
    clear hn
    go_wp2_with fail
    refine (by have := reverse_any b c1 rows w1 HA.out; rw [HN.out] at this; exact this : Calls Try.prog 46 #[.slice (some ⟨b, 0, none⟩) N c1] w1 _).mono ?_
    rintro e w2 ⟨rfl, ha2, hg2⟩
    have HA2 := Lib.hid ha2
    have HG2 := Lib.hid hg2
    clear ha2 hg2
    go_wp2_with fail
    refine (stable_any b c1 rows.reverse N w2 HA2.out (by rw [List.length_reverse, HN.out]) (by omega)).mono ?_
    rintro e w3 ⟨rfl, hg3, S, hs1, hs2, hs3, ha3⟩
    have HG3 := Lib.hid (only_trans HG2.out hg3 (.inl rfl))
    have HA3 := Lib.hid ha3
    have HS := Lib.hid (And.intro (cpt_make hs1 hs2) hs3)
    clear hg3 hs1 hs2 hs3 ha3
    go_wp2_with fail
    refine (compact_any b c1 N S w3 HA3.out (by rw [HS.out.2, List.length_reverse, HN.out]) (by omega)).mono ?_
    rintro e w4 ⟨rfl, ha4, hg4⟩
    rw [HS.out.1] at ha4 ⊢
    have hb4 : Below w.heap.size w w4 := HB1.out.trans (below_of_only' (only_trans HG3.out hg4 (.inl rfl)) HBS.out HB1.out.size)
    have HF := Lib.hid (begun_of hb4 (ha4.own HBS.out) (Rise.make rows))
    clear ha4 hg4 hb4
    go_wp2
    go_ret
    exact HF.out
theorem Begun.at_ {w w' : World} {l : List Rw} {e : Ending} (h : Begun w l e w') : ∃ p, e = .returned (.pointer (some ⟨p, 0, none⟩)) ∧ IdxAt w' (fun i => w.heap.size ≤ i ∧ i < w'.heap.size) p l ∧ Below w.heap.size w w' := h
end Go.Proofs.Ytngncalbglbjdaa.Idx
