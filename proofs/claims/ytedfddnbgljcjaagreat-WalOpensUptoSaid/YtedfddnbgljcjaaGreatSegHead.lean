/-
  Contracts of package seg's Head and of the document's own (qanatref04): the record that a segment begins with.
-/
import Derived.Test.YtedfddnbgljcjaaGreatMaths
import Derived.Test.YtedfddnbgljcjaaGreatFieldEncode
import Derived.Test.YtedfddnbgljcjaaGreatRecTake
namespace Go.Proofs.YtedfddnbgljcjaaGreat.Seg
set_option maxRecDepth 100000
open Go.RowKit Base FieldMath RecMath SegMath
open Go.Proofs.YtedfddnbgljcjaaGreat.Field Go.Proofs.YtedfddnbgljcjaaGreat.Rec
set_option linter.ambiguousOpen false

theorem maybe_any (x : Int) (w : World) :
    Calls Tryz.prog 90 #[.int .i64 x] w fun e w' => e = .returned (.bool (decide (1 ≤ x ∧ x ≤ 1099511627776))) ∧ w = w' := by
  by_cases h1 : 1 ≤ x
  · by_cases h2 : x ≤ 1099511627776
    all_goals
      go_enter Tryz.func90, Tryz.ntmps90
      go_wp2
      go_ret
      exact ⟨ret_bool (by simp [h1, h2]), rfl⟩
  · go_enter Tryz.func90, Tryz.ntmps90
    go_wp2
    go_ret
    exact ⟨ret_bool (by simp; omega), rfl⟩

theorem one_num (w : World) (e : TypeId) (x : Int) {s : Nat} (hs : s = w.heap.size) : Flds (w.alloc (.cells #[.int .i64 1, .int .i64 x, .string ⟨#[]⟩] e)) (w.heap.size + 1) (some ⟨s, 0, none⟩) 1 1 [numF x] :=
  Row.lit w #[.int .i64 1, .int .i64 x, .string ⟨#[]⟩] e (0, 0) hs rfl (by omega)

/-- Put of a head's fields -/
theorem putted_head {w w' : World} {x : Int} {A : Option Addr} {n c : Nat} (h0 : 1 ≤ x) (h1 : x ≤ 1099511627776) (ho : w'.ownsRow w.heap.size 5 1 (.slice A n c) n (bv (headB x))) (hb : Below w.heap.size w w') : Putted w (head x) (.returned (.tuple #[.slice A n c, .int .i64 0])) w' := by
  unfold Putted head
  rw [if_pos ⟨h0, h1⟩]
  exact ⟨A, n, c, rfl, ho, hb⟩
theorem putted_bad {w : World} {x : Int} (h : ¬ (1 ≤ x ∧ x ≤ 1099511627776)) : Putted w (head x) (.returned (.tuple #[.slice none 0 0, .int .i64 1])) w := by
  unfold Putted head
  rw [if_neg h]
  exact ⟨none, 0, 0, rfl, World.ownsRow_nil _ _ _ _, Below.refl _ _⟩

set_option maxHeartbeats 800000 in
theorem head_any (x : Int) (w : World) : Calls Tryz.prog 72 #[.int .i64 x] w (Putted w (head x)) := by
  by_cases h : 1 ≤ x ∧ x ≤ 1099511627776
  · have hd : decide (1 ≤ x ∧ x ≤ 1099511627776) = true := by simpa using h
    have HH := Lib.hid h
    clear h
    go_enter Tryz.func72, Tryz.ntmps72
    go_wp2_with fail
    refine (maybe_any x w).mono ?_
    rintro e w1 ⟨rfl, rfl⟩
    rw [hd]
    clear hd
    go_wp2_with fail
    refine (encode_any _ _ 1 1 [numF x] _ (one_num _ _ x rfl) (by simp)).mono ?_
    rintro e w1 ⟨A1, n1, c1, rfl, ho1, hb1⟩
    rw [enc_num] at ho1 ⊢
    have HY1 := Lib.hid (Bytes.of_own ho1)
    have HB1 := Lib.hid (held_two ((Below.refl w.heap.size w).alloc (Nat.le_refl _) _) hb1)
    clear ho1 hb1
    rw [show err (Except.ok (headP x)) = 0 from rfl]
    go_wp2_with fail
    refine (put_any _ _ _ _ (headP x) _ HY1.out (Nat.le_refl _)).mono ?_
    rintro e w2 ⟨A2, n2, c2, rfl, ho2, hb2⟩
    rw [put_head] at ho2 ⊢
    have HO2 := Lib.hid (own_mono ho2 HB1.out.size)
    have HB2 := Lib.hid (held_two HB1.out hb2)
    clear ho2 hb2
    rw [show err (Except.ok (headB x)) = 0 from rfl]
    go_wp2
    go_ret2
    exact putted_head HH.out.1 HH.out.2 HO2.out HB2.out
  · have hd : decide (1 ≤ x ∧ x ≤ 1099511627776) = false := by simpa using h
    have HH := Lib.hid h
    clear h
    go_enter Tryz.func72, Tryz.ntmps72
    go_wp2_with fail
    refine (maybe_any x w).mono ?_
    rintro e w1 ⟨rfl, rfl⟩
    rw [hd]
    clear hd
    go_wp2
    go_ret2
    exact putted_bad HH.out

set_option maxHeartbeats 800000 in
theorem refhead_any (x : Int) (w : World) : Calls Tryz.prog 22 #[.int .i64 x] w (Putted w (head x)) := by
  by_cases h : 1 ≤ x ∧ x ≤ 1099511627776
  · obtain ⟨h1, h2⟩ := h
    go_enter Tryz.func22, Tryz.ntmps22
    go_wp2_with fail
    refine (num_any x _).mono ?_
    rintro e w0 ⟨rfl, hb0⟩
    have HB0 := Lib.hid hb0
    clear hb0
    go_wp2_with fail
    refine (refencode_any _ _ 1 1 [numF x] _ (one_num _ _ x rfl) (by simp)).mono ?_
    rintro e w1 ⟨A1, n1, c1, rfl, ho1, hb1⟩
    rw [enc_num] at ho1 ⊢
    have HY1 := Lib.hid (Bytes.of_own ho1)
    have HB1 := Lib.hid (held_two (held_alloc HB0.out _) hb1)
    clear ho1 hb1
    rw [show err (Except.ok (headP x)) = 0 from rfl]
    go_wp2_with fail
    refine (refput_any _ _ _ _ (headP x) _ HY1.out (Nat.le_refl _)).mono ?_
    rintro e w2 ⟨A2, n2, c2, rfl, ho2, hb2⟩
    rw [put_head] at ho2 ⊢
    have HO2 := Lib.hid (own_mono ho2 HB1.out.size)
    have HB2 := Lib.hid (held_two HB1.out hb2)
    clear ho2 hb2
    rw [show err (Except.ok (headB x)) = 0 from rfl]
    go_wp2
    go_ret2
    exact putted_head h1 h2 HO2.out HB2.out
  · have HH := Lib.hid h
    by_cases h1 : x < 1
    · clear h
      go_enter Tryz.func22, Tryz.ntmps22
      go_wp2
      go_ret2
      exact putted_bad HH.out
    · have h2 : 1099511627776 < x := by omega
      clear h
      go_enter Tryz.func22, Tryz.ntmps22
      go_wp2
      go_ret2
      exact putted_bad HH.out
end Go.Proofs.YtedfddnbgljcjaaGreat.Seg
