/-
  Contract of the statements' 'alike': the code's set of tables and the document's have the same rows.
-/
import Derived.Test.YtngncalbglbjdaaTblRefSet
import Derived.Test.YtngncalbglbjdaaIdxHelp
import Derived.BigQuiet
namespace Go.Proofs.Ytngncalbglbjdaa.Tbl
set_option linter.unusedVariables false
set_option maxRecDepth 100000
open Go.RowKit Base IdxMath Foot Idx
set_option linter.ambiguousOpen false
set_option linter.unusedSimpArgs false

theorem newRows_at {w w' : World} {l : List Rw} {e : Ending} (h : NewRows w l e w') : ∃ A c, e = .returned (.slice A l.length c) ∧ Rs w' w'.heap.size A l.length c l ∧ Below w.heap.size w w' := by
  obtain ⟨A, c, he, ho, hb⟩ := h
  exact ⟨A, c, he, Rs.of_own ho, hb⟩
set_option maxHeartbeats 6400000 in
theorem alike_any (F R : Nat → Prop) (p q : Nat) (T : List (List Rw)) (w : World) (h1 : SetAt w F p T) (h2 : RAt w R q T) (hsz : ∀ t : Int, (tab T t).length ≤ 1000000) :
    Calls Try.prog 13 #[.pointer (some ⟨p, 0, none⟩), .pointer (some ⟨q, 0, none⟩)] w fun e w' => e = .returned (.bool true) ∧ Below w.heap.size w w' := by
  have H1 := Lib.hid h1
  have H2 := Lib.hid h2
  have HSZ := Lib.hid hsz
  obtain ⟨b, cs, hX⟩ := h2
  have hm8 : T.length ≤ 8 := hX.most
  have HBOX := Lib.hid hX.box
  clear h1 hX hsz
  go_enter Try.func13, Try.ntmps13
  go_wp2
  go_loopw [5] (fun vi wr => ∃ t : Int, -1 ≤ t ∧ t ≤ T.length + 1 ∧ vi = .int .i64 t ∧ Below w.heap.size w wr) (fun vi _ => (T.length + 1 - intOf vi).toNat)
  case atStart => exact ⟨-1, by omega, by omega, rfl, Below.refl _ _⟩
  case round =>
    obtain ⟨t, ht0, ht1, rfl, hbw⟩ := hrel
    have HB := Lib.hid hbw
    have c0 : wr.cell? ⟨q, 0, none⟩ = some (.slice (some ⟨b, 0, none⟩) T.length T.length) := (HBOX.out.below hbw HBOX.out.lt).cell 0
    clear hbw
    by_cases hlt : t ≤ T.length
    · have hs := HSZ.out t
      go_wp2_with fail
      refine (rows_any F p T t wr (H1.out.new HB.out) (by omega)).mono ?_
      intro e w1 hh
      obtain ⟨A1, c1, rfl, hr1, hb1⟩ := newRows_at hh
      have HR1 := Lib.hid hr1
      have HB1 := Lib.hid (held_two HB.out hb1)
      clear hh hr1 hb1
      go_wp2_with fail
      refine (refrows_any R q T t w1 (H2.out.new HB1.out) (by omega)).mono ?_
      intro e w2 hh
      obtain ⟨A2, c2, rfl, hr2, hb2⟩ := newRows_at hh
      have HR2 := Lib.hid hr2
      have HB2 := Lib.hid (held_two HB1.out hb2)
      have HR12 := Lib.hid (HR1.out.below hb2)
      have hz2 := hb2.size
      clear hh hr2 hb2
      go_wp2_with fail
      refine (rplain_same w1.heap.size w2.heap.size A1 A2 _ _ c1 c2 _ w2 HR12.out HR2.out hz2 (Nat.le_refl _)).mono ?_
      rintro e w3 ⟨rfl, hb3⟩
      have HB3 := Lib.hid (held_two HB2.out hb3)
      clear hb3
      go_wp2_with fail
      refine (len_any F p T t w3 (H1.out.new HB3.out)).mono ?_
      rintro e w4 ⟨rfl, rfl⟩
      go_wp2_with fail
      refine (refrows_any R q T t w3 (H2.out.new HB3.out) (by omega)).mono ?_
      intro e w5 hh
      obtain ⟨A5, c5, rfl, _, hb5⟩ := newRows_at hh
      have HB5 := Lib.hid (held_two HB3.out hb5)
      clear hh hb5
      generalize (tab T t).length = N at *
      go_wp2
      go_roundw
      case rel => exact ⟨t + 1, by omega, by omega, by first | rfl | go_num, HB5.out⟩
      case measure => simp [intOf]; omega
    · have HT : Hid (∀ m, Calls Try.prog 35 #[.pointer (some ⟨p, 0, none⟩)] (wr.drewN m) fun e w'' => e = .returned (.int .i64 T.length) ∧ ∃ j, w'' = wr.drewN j) :=
        fun m => (tables_any F p T _ ((H1.out.new HB.out).new (below_drewN (Below.refl _ _) m))).mono fun e w'' h => ⟨h.1, m, h.2.symm⟩
      go_upto_region 6 with fail
      go_quiet (first | (go_at_call 35; exact HT.out _))
      go_wp2
      go_ret
      exact ⟨by simp, below_drewN HB.out _⟩
end Go.Proofs.Ytngncalbglbjdaa.Tbl
