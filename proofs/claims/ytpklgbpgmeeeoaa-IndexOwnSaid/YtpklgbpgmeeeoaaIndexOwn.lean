/-
  The walk of the law IndexOwn: what was handed in, and what is handed out, are not the index's own.
-/
import Derived.Test.YtpklgbpgmeeeoaaIdxHelp2
import Derived.Test.YtpklgbpgmeeeoaaIdxOpen
namespace Go.Proofs.Ytpklgbpgmeeeoaa.Idx
set_option linter.unusedVariables false
set_option maxRecDepth 100000
open Go.RowKit Base IdxMath Foot
open Go.Sort (grow)
set_option linter.ambiguousOpen false
set_option linter.unusedSimpArgs false

theorem after_zero (l : List Rw) (k n : Int) (h : n ≤ 0) : after l k n = [] := by
  unfold after
  rw [show n.toNat = 0 by omega, List.take_zero]
set_option maxHeartbeats 6400000 in
theorem own_walk (A : Option Addr) (n c : Nat) (l : List Rw) (key : Int) (w : World) (h : Rz w w.heap.size A n c l) :
    Calls Try.prog 6 #[.slice A n c, .int .i64 key] w fun e w' => e = .returned (.bool true) ∧ Below w.heap.size w w' := by
  have hle := h.1.le
  have HR := Lib.hid h
  have HL := Lib.hid h.1.len
  clear h
  by_cases h200 : 200 < n
  · go_enter Try.func6, Try.ntmps6
    go_wp2_with fail
    refine (awake_any _).mono ?_
    rintro e w1 ⟨rfl, hb⟩
    have HB := Lib.hid hb
    clear hb
    go_wp2
    go_ret
    exact ⟨rfl, HB.out⟩
  · have h200' : ¬ (200 : Int) < (n : Int) := by omega
    go_enter Try.func6, Try.ntmps6
    go_wp2_with fail
    refine (own_row _ A n c l ⟨9, ⟨#[122]⟩⟩ _ HR.out.1 (Nat.le_refl _) (by omega)).mono ?_
    rintro e w1 ⟨A1, c1, rfl, ho1, hb1⟩
    have hrs := Rs.of_own ho1
    have hc1 := hrs.le
    have HFULL : Hid (Rs w1 w1.heap.size A1 (n + 3) (n + 3) (l ++ [⟨9, ⟨#[122]⟩⟩, ⟨9, ⟨#[122]⟩⟩, ⟨9, ⟨#[122]⟩⟩])) := Row.recap hrs (by omega) (by omega)
    have HIN : Hid (Rs w1 w1.heap.size A1 n (n + 3) l) := by
      have := HFULL.out.front (k := n) (by omega)
      rw [List.take_left' HL.out] at this
      exact this
    obtain ⟨g, rfl, hgb⟩ : ∃ g, A1 = some ⟨g, 0, none⟩ ∧ ∃ cs, Blk w1 g 38 cs ∧ n * 2 ≤ cs.size ∧ w.heap.size ≤ g := by
      rcases ho1.2 with ⟨hv, h0⟩ | ⟨g, cap, cur, hv, hb, hg, h1, h2, h3, h4⟩
      · omega
      · simp only [Value.slice.injEq] at hv
        exact ⟨g, hv.1, cur, hg, by omega, hb⟩
    have HGB := Lib.hid hgb
    have HB1 := Lib.hid hb1
    clear ho1 hb1 hrs hc1 hgb
    go_wp2_with fail
    refine (new_any _ _ n (n + 3) l _ HIN.out (Nat.le_refl _) (by omega)).mono ?_
    intro e w2 h2
    obtain ⟨p, rfl, hx, hb2⟩ := h2.at_
    have HX := Lib.hid hx
    have HB2 := Lib.hid hb2
    clear h2 hx hb2
    go_wp2_with fail
    refine (kept_same w1.heap.size w.heap.size (some ⟨g, 0, none⟩) A n c l ⟨9, ⟨#[122]⟩⟩ w2 HL.out (HFULL.out.below HB2.out) (HR.out.1.below (HB1.out.trans (HB2.out.mono HB1.out.size))) HB2.out.size (Nat.le_trans HB1.out.size HB2.out.size) (by omega)).mono ?_
    rintro e w3 ⟨rfl, hb3⟩
    have HX3 := Lib.hid (HX.out.new hb3)
    have HB3 := Lib.hid (HB2.out.trans (hb3.mono HB2.out.size))
    have hs23 := hb3.size
    clear hb3
    have hml : (make l).length ≤ 1099511627774 := by have := make_length l; have := HL.out; omega
    go_wp2_with fail
    refine (all_any _ p _ w3 HX3.out (by omega)).mono ?_
    rintro e w4 ⟨A4, c4, rfl, ho4, hb4⟩
    have HX4 := Lib.hid (HX3.out.new hb4)
    have HO4 := Lib.hid (own_mono ho4 (Nat.le_trans HB3.out.size (Nat.le_refl _)))
    have HB4 := Lib.hid (HB3.out.trans (hb4.mono HB3.out.size))
    have hs34 := hb4.size
    clear ho4 hb4
    -- what was handed in is written over
    go_wp2_with fail
    refine (by
      obtain ⟨cs, k1, k2, k3⟩ := HGB.out
      exact spoil_blk g n (n + 3) cs w4 (k1.below HB4.out k1.lt) k2 (by omega) (by omega) : Calls Try.prog 30 #[.slice (some ⟨g, 0, none⟩) n (n + 3)] w4 fun e w' => e = .returned (.tuple #[]) ∧ w4.grownBy w' (some g)).mono ?_
    rintro e w5 ⟨rfl, hg5⟩
    have hgl : g < w1.heap.size := by obtain ⟨cs, k1, k2, k3⟩ := HGB.out; exact k1.lt
    have hgw : w.heap.size ≤ g := by obtain ⟨cs, k1, k2, k3⟩ := HGB.out; exact k3
    have HX5 : Hid (IdxAt w5 (fun i => w1.heap.size ≤ i ∧ i < w2.heap.size) p (make l)) := HX4.out.keep fun i hi hF => hg5.block i hi (by intro e; injection e; omega)
    have HO5 : Hid (w5.ownsRow w1.heap.size 38 2 (.slice A4 (make l).length c4) (make l).length (rv (make l))) := own_same HO4.out fun i hi => hg5.block i (own_lt HO4.out hi) (by intro e; injection e; have := (HO4.out.lt i hi).1; omega)
    have HB5 : Hid (Below w.heap.size w w5) := (HB1.out.trans (HB4.out.mono HB1.out.size)).trans (below_of_only' hg5 hgw (Nat.le_trans HB1.out.size HB4.out.size))
    have hs25 : w2.heap.size ≤ w5.heap.size := Nat.le_trans (Nat.le_trans hs23 hs34) hg5.size
    have hs5 : w1.heap.size ≤ w5.heap.size := Nat.le_trans HB4.out.size hg5.size
    clear hg5 HX3 HX4 HO4 HX HB2 HB3 HB4 hgl hgw HGB HIN HFULL
    -- what is handed out is written over
    go_wp2_with fail
    refine (all_any _ p _ w5 HX5.out (by omega)).mono ?_
    rintro e w6 ⟨A6, c6, rfl, ho6, hb6⟩
    have HX6 := Lib.hid (HX5.out.new hb6)
    have HO6 := Lib.hid (own_keep HO5.out hb6)
    have HB6 := Lib.hid (HB5.out.trans (hb6.mono HB5.out.size))
    have HOX := Lib.hid ho6
    have hs6 := hb6.size
    clear ho6 hb6
    go_wp2_with fail
    refine (spoil_any w5.heap.size A6 _ c6 _ w6 HOX.out).mono ?_
    rintro e w7 ⟨rfl, hg7⟩
    have hb7 : Below w5.heap.size w6 w7 := (Below.refl _ _).grown hg7 hs6 fun k hk => (HOX.out.lt k hk).1
    have HX7 : Hid (IdxAt w7 (fun i => w1.heap.size ≤ i ∧ i < w2.heap.size) p (make l)) := HX6.out.keep fun i hi hF => hb7.block i (by omega)
    have HO7 : Hid (w7.ownsRow w1.heap.size 38 2 (.slice A4 (make l).length c4) (make l).length (rv (make l))) := own_same HO6.out fun i hi => hb7.block i (own_lt HO5.out hi)
    have HB7 := Lib.hid (HB6.out.trans (hb7.mono HB5.out.size))
    have hs57 : w5.heap.size ≤ w7.heap.size := Nat.le_trans hs6 hg7.size
    have HO5L := Lib.hid (fun i hi => own_lt (g := i) HO5.out hi)
    clear hg7 hb7 HX5 HX6 HO5 HO6 HOX HB5 HB6
    go_wp2_with fail
    refine (after_any _ p _ key 5 w7 HX7.out (by omega)).mono ?_
    rintro e w8 ⟨A8, c8, rfl, ho8, hb8⟩
    have HX8 := Lib.hid (HX7.out.new hb8)
    have HO8 := Lib.hid (own_keep HO7.out hb8)
    have HB8 := Lib.hid (HB7.out.trans (hb8.mono HB7.out.size))
    have HOX := Lib.hid ho8
    have hs8 := hb8.size
    clear ho8 hb8
    go_wp2_with fail
    refine (spoil_any w7.heap.size A8 _ c8 _ w8 HOX.out).mono ?_
    rintro e w9 ⟨rfl, hg9⟩
    have hb9 : Below w7.heap.size w8 w9 := (Below.refl _ _).grown hg9 hs8 fun k hk => (HOX.out.lt k hk).1
    have HX9 : Hid (IdxAt w9 (fun i => w1.heap.size ≤ i ∧ i < w2.heap.size) p (make l)) := HX8.out.keep fun i hi hF => hb9.block i (by omega)
    have HO9 : Hid (w9.ownsRow w1.heap.size 38 2 (.slice A4 (make l).length c4) (make l).length (rv (make l))) := own_same HO8.out fun i hi => hb9.block i (Nat.lt_of_lt_of_le (HO5L.out i hi) hs57)
    have HB9 := Lib.hid (HB8.out.trans (hb9.mono HB7.out.size))
    clear hg9 hb9 HX7 HX8 HO7 HO8 HOX HB7 HB8
    go_wp2_with fail
    refine (awake_any _).mono ?_
    rintro e wa ⟨rfl, hba⟩
    have HXa := Lib.hid (HX9.out.new hba)
    have HOa := Lib.hid (own_keep HO9.out hba)
    have HBa := Lib.hid (HB9.out.trans (hba.mono HB9.out.size))
    clear hba HX9 HO9 HB9
    go_wp2_with fail
    refine (all_any _ p _ wa HXa.out (by omega)).mono ?_
    rintro e wb ⟨Ab, cb, rfl, hob, hbb⟩
    have HXb := Lib.hid (HXa.out.new hbb)
    have HOb := Lib.hid (own_keep HOa.out hbb)
    have HBb := Lib.hid (HBa.out.trans (hbb.mono HBa.out.size))
    have HRb := Lib.hid (Rs.of_own hob)
    clear hob hbb HXa HOa HBa
    go_wp2_with fail
    refine (rplain_same wb.heap.size wb.heap.size Ab A4 _ _ cb c4 (make l) wb HRb.out (Rs.of_own HOb.out) (Nat.le_refl _) (Nat.le_refl _)).mono ?_
    rintro e wc ⟨rfl, hbc⟩
    have HXc := Lib.hid (HXb.out.new hbc)
    have HBc := Lib.hid (HBb.out.trans (hbc.mono HBb.out.size))
    clear hbc HXb HOb HBb HRb
    go_wp2_with fail
    refine (after_any _ p _ key 0 wc HXc.out (by omega)).mono ?_
    rw [after_zero _ _ _ (Int.le_refl 0)]
    rintro e wd ⟨Ad, cd, rfl, _, hbd⟩
    have HXd := Lib.hid (HXc.out.new hbd)
    have HBd := Lib.hid (HBc.out.trans (hbd.mono HBc.out.size))
    clear hbd HXc HBc
    go_wp2_with fail
    refine (after_any _ p _ key (-3) wd HXd.out (by omega)).mono ?_
    rw [after_zero _ _ _ (by omega)]
    rintro e we ⟨Ae, ce, rfl, _, hbe⟩
    have HBe := Lib.hid (HBd.out.trans (hbe.mono HBd.out.size))
    clear hbe HXd HBd
    go_wp2
    go_ret
    exact ⟨rfl, HBe.out⟩
end Go.Proofs.Ytpklgbpgmeeeoaa.Idx
