/-
  TableLoads: the walk of the law.
-/
import Derived.Test.YtngncalbglbjdaaTableApart
import Derived.Test.YtngncalbglbjdaaTblLoad
import Derived.Test.YtngncalbglbjdaaIdxHelp2
import Derived.Test.YtngncalbglbjdaaIdxRef2
import Derived.Test.YtngncalbglbjdaaIdxOpen
namespace Go.Proofs.Ytngncalbglbjdaa.Tbl
set_option linter.unusedVariables false
set_option maxRecDepth 100000
open Go.RowKit Base IdxMath Foot Idx
open PChg (gcells gval gv gv_cons gv_length gv_get Cs SomeCh pchanges_any)
open Go.Proofs.Ytngncalbglbjdaa.Field (modZ modZ_lt mod_any)
set_option linter.ambiguousOpen false
set_option linter.unusedSimpArgs false

theorem load_tab {T : List (List Rw)} {t : Int} {rows : List Rw} (h : isT T t = true) (u : Int) : tab (load T t rows) u = if u = t then make rows else tab T u := by
  obtain ⟨i, rfl, hi⟩ := isT_nat h
  unfold load
  rw [if_pos h, Int.toNat_natCast, tab_set hi]
theorem load_in (F : Nat → Prop) (p : Nat) (T : List (List Rw)) (t : Int) (A : Option Addr) (n c : Nat) (rows : List Rw) (w : World) (h : SetAt w F p T) (hr : Rs w w.heap.size A n c rows) (hsz : n ≤ 1099511627774) (ht : isT T t = true) :
    Calls Try.prog 24 #[.pointer (some ⟨p, 0, none⟩), .int .i64 t, .slice A n c] w fun e w' => e = .returned (.bool true) ∧ ∃ T2, SetAt w' (Out F w w') p T2 ∧ Turn F w w' ∧ ∀ u, tab T2 u = if u = t then make rows else tab T u := by
  refine (load_any F p T t A n c rows w h hr hsz).mono ?_
  rw [ht]
  rintro e w' ⟨rfl, h1, h2⟩
  exact ⟨rfl, _, h1, h2, load_tab ht⟩
def E3 : List (List Rw) := List.replicate 3 []
theorem own_off {w w' : World} {F : Nat → Prop} {base : Nat} {A : Option Addr} {n c : Nat} {l : List Rw} (h : w.ownsRow base 37 2 (.slice A n c) n (rv l)) (ht : Turn F w w') (hF : ∀ i, F i → i < base) : w'.ownsRow base 37 2 (.slice A n c) n (rv l) :=
  own_same h fun g hg => ht.block g (own_lt h hg) fun hf => by have := (h.lt g hg).1; have := hF g hf; omega
set_option maxHeartbeats 12800000 in
theorem loads_walk (A0 : Option Addr) (n0 c0 : Nat) (l0 : List Cg) (A1 : Option Addr) (n1 c1 : Nat) (rows : List Rw) (t : Int) (w : World) (h : Cs w w.heap.size A0 n0 c0 l0) (hok : ∀ f ∈ l0, f.val.size ≤ 9223372036854775807) (hr : Rz w w.heap.size A1 n1 c1 rows) :
    Calls Try.prog 6 #[.slice A0 n0 c0, .slice A1 n1 c1, .int .i64 t] w fun e w' => e = .returned (.bool true) ∧ Below w.heap.size w w' := by
  have HC := Lib.hid h
  have HOK := Lib.hid hok
  have HR := Lib.hid hr.1
  have HL := Lib.hid hr.1.len
  have hle := hr.1.le
  clear h hok hr
  by_cases h200 : 200 < n1
  · have y1 : (200 : Int) < (n1 : Int) := by omega
    go_enter Try.func6, Try.ntmps6
    go_wp2_with fail
    refine (new_any 3 w).mono ?_
    intro e w1 h1
    obtain ⟨p, rfl, hs, hb⟩ := h1.at_ (by omega) (by omega)
    have HB := Lib.hid hb
    clear h1 hs hb
    go_wp2_with fail
    refine (awake_any w1).mono ?_
    rintro e w2 ⟨rfl, hb2⟩
    have HB2 := Lib.hid (held_two HB.out hb2)
    clear hb2
    go_wp2
    go_ret
    exact ⟨rfl, HB2.out⟩
  · have y1 : ¬ (200 : Int) < (n1 : Int) := by omega
    obtain ⟨m, hm⟩ : ∃ m, m = modZ t 3 := ⟨_, rfl⟩
    have hm3 : m < 3 := by rw [hm]; exact modZ_lt t (by omega)
    have HM := Lib.hid hm
    clear hm
    go_enter Try.func6, Try.ntmps6
    go_wp2_with fail
    refine (new_any 3 w).mono ?_
    intro e w1 h1
    obtain ⟨p, rfl, hs, hb⟩ := h1.at_ (by omega) (by omega)
    have HS1 : Hid (TS w w1 (fun i => w.heap.size ≤ i ∧ i < w1.heap.size) p E3) := ⟨hs, fun i hi => hi⟩
    have HB1 := Lib.hid hb
    clear h1 hs hb
    go_wp2_with fail
    refine (pchanges_any 3 40 (by omega) (by omega) (by omega) w.heap.size A0 n0 c0 l0 w1 (HC.out.below HB1.out) HB1.out.size HOK.out).mono ?_
    rintro e w2 ⟨l, A, n, c, rfl, hn, hown, hmay, hb2⟩
    have HB2 := Lib.hid (held_two HB1.out hb2)
    have HS2 := Lib.hid (HS1.out.new hb2)
    have HALL : Hid (allT E3 l = true) := allT_may hmay
    have HOC : Hid (OwnC w2 w1.heap.size A n c l (fun i => w.heap.size ≤ i ∧ i < w1.heap.size)) := ⟨hown, fun g hg hF => by have h1 := (hown.lt g hg).1; have := hF.2; omega⟩
    have hnc : n ≤ c ∧ c ≤ 9223372036854775807 := (show Cs _ _ _ _ _ l from Row.of_own hown).le
    have HLEN := Lib.hid ((show Cs _ _ _ _ _ l from Row.of_own hown).len)
    clear hown hmay hb2 HS1
    go_wp2_with fail
    refine (apply_set _ p E3 0 A n c l w2 HS2.out.1 (fun wr ht => (HOC.out.turn ht).cs) (most_none 3) (by omega)).mono ?_
    rw [HALL.out, show appl E3 l = doAll E3 l by unfold appl; rw [HALL.out]; rfl]
    rintro e w3 ⟨rfl, hs3, ht3⟩
    have HS3 := Lib.hid (HS2.out.turn HB2.out.size hs3 ht3)
    have HB3 := Lib.hid (below_turn HB2.out ht3 (fun x hx => hx.1))
    have HMO : Hid (Most (doAll E3 l) 200) := (most_doAll (most_none 3) l HALL.out).mono (by rw [HLEN.out]; omega)
    have HIS : Hid (∀ u : Int, 0 ≤ u → u < 3 → isT (doAll E3 l) u = true) := fun u h1 h2 => (isT_doAll _ _ _).trans (decide_eq_true ⟨h1, by unfold E3; rw [List.length_replicate]; exact h2⟩)
    generalize Out (fun i => w.heap.size ≤ i ∧ i < w1.heap.size) w2 w3 = F3 at *
    generalize doAll E3 l = T1 at *
    clear hs3 ht3 HOC HALL HS2 hnc HLEN
    go_wp2_with fail
    refine (mod_any t 3 w3 (by omega) (by omega)).mono ?_
    rintro e w4 ⟨rfl, rfl⟩
    rw [← HM.out]
    have hc : m = 0 ∨ m = 1 ∨ m = 2 := by omega
    rcases hc with rfl | rfl | rfl
    all_goals (
      go_wp2_with fail
      refine (rows_any F3 p T1 _ w3 HS3.out.1 (by have := HMO.out; exact Nat.le_trans (this _) (by omega))).mono ?_
      rintro e w4 ⟨A4, c4, rfl, ho4, hb4⟩
      have HO4 := Lib.hid ho4
      have HS4 := Lib.hid (HS3.out.new hb4)
      have HB4 := Lib.hid (held_two HB3.out hb4)
      have HF4 : Hid (∀ i, F3 i → i < w3.heap.size) := fun i hi => (HS3.out.2 i hi).2
      have HL4 : Hid (∀ x, (Value.slice A4 (tab T1 _).length c4).ownBlock = some x → x < w4.heap.size) := fun x hx => own_lt HO4.out hx
      have hw4 : w.heap.size ≤ w4.heap.size := HB4.out.size
      clear ho4 hb4 HS3 HB3
      go_wp2_with fail
      refine (own_row w.heap.size A1 n1 c1 rows ⟨1, ⟨#[111]⟩⟩ w4 (HR.out.below HB4.out) HB4.out.size (by omega)).mono ?_
      rintro e w5 ⟨A5, c5, rfl, ho5, hb5⟩
      have hrs := Rs.of_own ho5
      have hc5 := hrs.le
      have HIN : Hid (Rs w5 w5.heap.size A5 n1 (n1 + 3) rows) := by
        have := (show Rs w5 w5.heap.size A5 (n1 + 3) (n1 + 3) _ from Row.recap hrs (by omega) (by omega)).front (k := n1) (by omega)
        rw [List.take_left' HL.out] at this
        exact this
      have HO5 := Lib.hid ho5
      have HO45 := Lib.hid (own_keep HO4.out hb5)
      have HS5 := Lib.hid (HS4.out.new hb5)
      have HB5 := Lib.hid (held_two HB4.out hb5)
      have HZ4 := Lib.hid (HS4.out.2)
      clear ho5 hb5 hrs hc5 HO4 HS4 HB4
      go_wp2_with fail
      refine (load_in F3 p T1 _ A5 n1 (n1 + 3) rows w5 HS5.out.1 HIN.out (by omega) (HIS.out _ (by decide) (by decide))).mono ?_
      rintro e w6 ⟨rfl, T2, hs6, ht6, hlt6⟩
      have HLT := Lib.hid hlt6
      have HS6 := Lib.hid (HS5.out.turn HB5.out.size hs6 ht6)
      have HB6 := Lib.hid (below_turn HB5.out ht6 (fun x hx => (HS5.out.2 x hx).1))
      have HO6 := Lib.hid (own_off HO5.out ht6 (fun i hi => (HZ4.out i hi).2))
      have HO46 := Lib.hid (own_off HO45.out ht6 HF4.out)
      have HFO6 : Hid (∀ i, w4.heap.size ≤ i → i < w5.heap.size → ¬ Out F3 w5 w6 i) := fun i h1 h2 ho => by
        rcases ho with ho | ho
        · have := (HZ4.out i ho).2; omega
        · omega
      have hz5 : w4.heap.size ≤ w5.heap.size ∨ n1 + 3 = 0 := by
        rcases HO5.out.2 with ⟨hv, h0⟩ | ⟨g, cap, cur, hv, hb, hg, _⟩
        · omega
        · exact .inl (by have := own_lt HO5.out (g := g) (by rw [hv]; rfl); omega)
      generalize Out F3 w5 w6 = F6 at *
      have hrs6 := Rs.of_own HO6.out
      have hc6 := hrs6.le
      have HF6 : Hid (Rs w6 w6.heap.size A5 (n1 + 3) (n1 + 3) (rows ++ [⟨1, ⟨#[111]⟩⟩, ⟨1, ⟨#[111]⟩⟩, ⟨1, ⟨#[111]⟩⟩])) := Row.recap hrs6 (by omega) (by omega)
      obtain ⟨g, rfl, hgb⟩ : ∃ g, A5 = some ⟨g, 0, none⟩ ∧ ∃ cs, Blk w6 g 37 cs ∧ n1 * 2 ≤ cs.size ∧ w4.heap.size ≤ g := by
        rcases HO6.out.2 with ⟨hv, h0⟩ | ⟨g, cap, cur, hv, hb, hg, h1, h2, h3, h4⟩
        · omega
        · simp only [Value.slice.injEq] at hv
          exact ⟨g, hv.1, cur, hg, by omega, hb⟩
      obtain ⟨cs, hblk, hcs, hge⟩ := hgb
      have hgl : g < w5.heap.size := own_lt HO5.out rfl
      have HGF : Hid (¬ F6 g) := HFO6.out g hge hgl
      have HBLK := Lib.hid hblk
      clear hs6 ht6 hlt6 hrs6 hc6 hz5 HFO6 hblk HO5 HO45 HS5 HB5 HIN HZ4
      go_wp2_with fail
      refine (kept_same w6.heap.size w.heap.size (some ⟨g, 0, none⟩) A1 n1 c1 rows ⟨1, ⟨#[111]⟩⟩ w6 HL.out HF6.out (HR.out.below HB6.out) (Nat.le_refl _) HB6.out.size (by omega)).mono ?_
      rintro e w7 ⟨rfl, hb7⟩
      have HS7 := Lib.hid (HS6.out.new hb7)
      have HB7 := Lib.hid (held_two HB6.out hb7)
      have HO47 := Lib.hid (own_keep HO46.out hb7)
      have HBLK7 := Lib.hid (HBLK.out.below hb7 HBLK.out.lt)
      clear hb7 HS6 HB6 HO46 HBLK HF6 HO6
      go_wp2_with fail
      refine (spoil_blk g n1 (n1 + 3) cs w7 HBLK7.out hcs (by omega) (by omega)).mono ?_
      rintro e w8 ⟨rfl, hg8⟩
      have ht8 : Turn (fun i => i = g) w7 w8 := Turn.grown hg8 (fun x hx => by injection hx with hx; exact hx.symm)
      have HS8 := Lib.hid (HS7.out.off ht8 (fun x hx e => by subst e; exact HGF.out hx))
      have HB8 := Lib.hid (below_turn HB7.out ht8 (fun x hx => by subst hx; omega))
      have HO48 : Hid (w8.ownsRow w3.heap.size 37 2 (.slice A4 _ c4) _ (rv (tab T1 _))) := own_same HO47.out fun x hx => ht8.block x (own_lt HO47.out hx) (fun e => by subst e; have h2 := HL4.out _ hx; omega)
      clear hg8 ht8 HS7 HB7 HO47 HBLK7
      go_wp2_with fail
      refine (awake_any w8).mono ?_
      rintro e w9 ⟨rfl, hb9⟩
      have HS9 := Lib.hid (HS8.out.new hb9)
      have HB9 := Lib.hid (held_two HB8.out hb9)
      have HO49 := Lib.hid (own_keep HO48.out hb9)
      clear hb9 HS8 HB8 HO48
      have HMK : Hid ((make rows).length ≤ 200) := Nat.le_trans (make_length rows) (by have := HL.out; omega)
      go_wp2_with fail
      refine (rows_any F6 p T2 _ w9 HS9.out.1 (by rw [HLT.out, if_pos rfl]; exact Nat.le_trans HMK.out (by omega))).mono ?_
      rw [HLT.out, if_pos rfl]
      rintro e w10 ⟨A10, c10, rfl, ho10, hb10⟩
      have HS10 := Lib.hid (HS9.out.new hb10)
      have HB10 := Lib.hid (held_two HB9.out hb10)
      have HO410 := Lib.hid (own_keep HO49.out hb10)
      have HO10 := Lib.hid ho10
      clear ho10 hb10 HS9 HB9 HO49
      go_wp2_with fail
      refine (refmake_any w.heap.size A1 n1 c1 rows w10 (HR.out.below HB10.out) HB10.out.size (by omega)).mono ?_
      rintro e w11 ⟨A11, c11, rfl, ho11, hb11⟩
      have HS11 := Lib.hid (HS10.out.new hb11)
      have HB11 := Lib.hid (held_two HB10.out hb11)
      have HO411 := Lib.hid (own_keep HO410.out hb11)
      have HO1011 := Lib.hid (own_keep HO10.out hb11)
      have HO11 := Lib.hid ho11
      clear ho11 hb11 HS10 HB10 HO410 HO10
      go_wp2_with fail
      refine (rplain_same w11.heap.size w11.heap.size A10 A11 _ _ c10 c11 (make rows) w11 (Rs.of_own HO1011.out) (Rs.of_own HO11.out) (Nat.le_refl _) (Nat.le_refl _)).mono ?_
      rintro e w12 ⟨rfl, hb12⟩
      have HS12 := Lib.hid (HS11.out.new hb12)
      have HB12 := Lib.hid (held_two HB11.out hb12)
      have HO412 := Lib.hid (own_keep HO411.out hb12)
      clear hb12 HS11 HB11 HO411 HO1011 HO11
      go_wp2_with fail
      refine (rows_any F6 p T2 _ w12 HS12.out.1 (by rw [HLT.out, if_neg (by decide)]; exact Nat.le_trans (HMO.out _) (by omega))).mono ?_
      rw [HLT.out, if_neg (by decide)]
      rintro e w13 ⟨A13, c13, rfl, ho13, hb13⟩
      have HB13 := Lib.hid (held_two HB12.out hb13)
      have HO413 := Lib.hid (own_keep HO412.out hb13)
      have HO13 := Lib.hid ho13
      clear ho13 hb13 HS12 HB12 HO412
      go_wp2_with fail
      refine (rplain_same w13.heap.size w13.heap.size A13 A4 _ _ c13 c4 _ w13 (Rs.of_own HO13.out) (Rs.of_own HO413.out) (Nat.le_refl _) (Nat.le_refl _)).mono ?_
      rintro e w14 ⟨rfl, hb14⟩
      have HB14 := Lib.hid (held_two HB13.out hb14)
      clear hb14 HB13 HO13 HO413
      go_wp2
      go_ret
      exact ⟨rfl, HB14.out⟩)
end Go.Proofs.Ytngncalbglbjdaa.Tbl
