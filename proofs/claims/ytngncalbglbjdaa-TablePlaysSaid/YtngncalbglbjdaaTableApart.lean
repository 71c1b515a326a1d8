/-
  TableApart: the walk of the law.
-/
import Derived.Test.YtngncalbglbjdaaTblApart
import Derived.Test.YtngncalbglbjdaaIdxHelp
namespace Go.Proofs.Ytngncalbglbjdaa.Tbl
set_option linter.unusedVariables false
set_option maxRecDepth 100000
open Go.RowKit Base IdxMath Foot Idx
open PChg (gcells gval gv gv_cons gv_length gv_get Cs SomeCh pchanges_any)
open Go.Proofs.Ytngncalbglbjdaa.Field (modZ modZ_lt mod_any)
set_option linter.ambiguousOpen false
set_option linter.unusedSimpArgs false

theorem most_doAll {T : List (List Rw)} {M : Nat} (h : Most T M) (l : List Cg) (hl : allT T l = true) : Most (doAll T l) (M + l.length) := by
  induction l generalizing T M with
  | nil => exact h
  | cons c l ih =>
    obtain ⟨h1, h2⟩ := allT_cons hl
    have := ih (h.do1 h1) (by unfold allT at h2 ⊢; simpa [isT_length (show (do1 T c).length = T.length by simp [do1])] using h2)
    rw [List.length_cons, show M + (l.length + 1) = M + 1 + l.length by omega]
    exact this
theorem Most.mono {T : List (List Rw)} {M N : Nat} (h : Most T M) (hm : M ≤ N) : Most T N := fun t => Nat.le_trans (h t) hm
theorem allT_sub {T : List (List Rw)} {l m : List Cg} (h : allT T l = true) (hs : m.Sublist l) : allT T m = true := by
  unfold allT at h ⊢
  rw [List.all_eq_true] at h ⊢
  exact fun x hx => h x (hs.subset hx)
theorem most_none (n : Nat) : Most (List.replicate n []) 0 := by
  intro t
  unfold tab
  split
  · next h =>
    obtain ⟨i, rfl, hi⟩ := isT_nat h
    rw [Int.toNat_natCast, List.getElem?_eq_getElem hi, List.getElem_replicate]
    exact Nat.le_refl _
  · exact Nat.le_refl _
theorem tab_empty (n : Nat) (t : Int) : tab (List.replicate n []) t = [] := List.eq_nil_of_length_eq_zero (Nat.le_zero.1 (most_none n t))
theorem allT_may {n : Nat} {l : List Cg} (h : ∀ f ∈ l, TxnMath.Ch.may (n : Int) f = true) : allT (List.replicate n []) l = true := by
  unfold allT
  rw [List.all_eq_true]
  intro f hf
  have := PChg.may_tbl (h f hf)
  unfold isT
  rw [List.length_replicate]
  exact decide_eq_true this
def OwnC (wr : World) (base : Nat) (A : Option Addr) (n c : Nat) (l : List Cg) (F : Nat → Prop) : Prop := wr.ownsRow base 45 4 (.slice A n c) n (gv l) ∧ ∀ g, (Value.slice A n c).ownBlock = some g → ¬ F g
theorem OwnC.below {wr w' : World} {base : Nat} {A : Option Addr} {n c : Nat} {l : List Cg} {F : Nat → Prop} (h : OwnC wr base A n c l F) (hb : Below wr.heap.size wr w') : OwnC w' base A n c l F := ⟨own_keep h.1 hb, h.2⟩
theorem OwnC.turn {wr w' : World} {base : Nat} {A : Option Addr} {n c : Nat} {l : List Cg} {F : Nat → Prop} (h : OwnC wr base A n c l F) (ht : Turn F wr w') : OwnC w' base A n c l (Out F wr w') :=
  ⟨own_same h.1 fun g hg => ht.block g (own_lt h.1 hg) (h.2 g hg), fun g hg ho => by
    rcases ho with ho | ho
    · exact h.2 g hg ho
    · have := own_lt h.1 hg; omega⟩
theorem OwnC.off {wr w' : World} {base : Nat} {A : Option Addr} {n c : Nat} {l : List Cg} {F F' : Nat → Prop} (h : OwnC wr base A n c l F) (h' : OwnC wr base A n c l F') (ht : Turn F' wr w') : OwnC w' base A n c l F :=
  ⟨own_same h.1 fun g hg => ht.block g (own_lt h.1 hg) (h'.2 g hg), h.2⟩
theorem OwnC.cs {wr : World} {base : Nat} {A : Option Addr} {n c : Nat} {l : List Cg} {F : Nat → Prop} (h : OwnC wr base A n c l F) : Cs wr wr.heap.size A n c l := Row.of_own h.1

def flt (t : Int) (l : List Cg) : List Cg := l.filter fun c => decide (c.tbl = t)
def E4 : List (List Rw) := List.replicate 4 []
def ApRel (w : World) (pa pb base : Nat) (A : Option Addr) (n c : Nat) (l : List Cg) (t : Int) (vi : Value) (wr : World) : Prop :=
  ∃ (i : Nat) (Fa Fb : Nat → Prop), vi = .int .i64 i ∧ i ≤ n ∧ TS w wr Fa pa (doAll E4 (l.take i)) ∧ TS w wr Fb pb (doAll E4 (flt t (l.take i))) ∧ (∀ x, Fa x → ¬ Fb x) ∧ OwnC wr base A n c l Fa ∧ OwnC wr base A n c l Fb ∧ Below w.heap.size w wr
theorem allT_one {T : List (List Rw)} {f : Cg} (h : isT T f.tbl = true) : allT T [f] = true := by unfold allT; simp [h]
theorem appl_one {T : List (List Rw)} {f : Cg} (h : isT T f.tbl = true) : appl T [f] = do1 T f := by unfold appl; rw [allT_one h]; rfl

set_option maxHeartbeats 6400000 in
theorem apart_walk (A0 : Option Addr) (n0 c0 : Nat) (l0 : List Cg) (t : Int) (w : World) (h : Cs w w.heap.size A0 n0 c0 l0) (hok : ∀ f ∈ l0, f.val.size ≤ 9223372036854775807) :
    Calls Try.prog 4 #[.slice A0 n0 c0, .int .i64 t] w fun e w' => e = .returned (.bool true) ∧ Below w.heap.size w w' := by
  have HC := Lib.hid h
  have HOK := Lib.hid hok
  clear h hok
  obtain ⟨m, hm⟩ : ∃ m, m = modZ t 4 := ⟨_, rfl⟩
  have hm4 : m < 4 := by rw [hm]; exact modZ_lt t (by omega)
  have HM := Lib.hid hm
  clear hm
  go_enter Try.func4, Try.ntmps4
  go_wp2_with fail
  refine (mod_any t 4 w (by omega) (by omega)).mono ?_
  rintro e w1 ⟨rfl, rfl⟩
  rw [← HM.out]
  go_wp2_with fail
  refine (new_any 4 w).mono ?_
  intro e w1 h1
  obtain ⟨pa, rfl, hsa, hba⟩ := h1.at_ (by omega) (by omega)
  have HSA : Hid (TS w w1 _ pa E4) := ⟨hsa, fun i hi => hi⟩
  have HB1 := Lib.hid hba
  clear h1 hsa hba
  go_wp2_with fail
  refine (new_any 4 w1).mono ?_
  intro e w2 h2
  obtain ⟨pb, rfl, hsb, hbb⟩ := h2.at_ (by omega) (by omega)
  have HSB : Hid (TS w w2 (fun i => w1.heap.size ≤ i ∧ i < w2.heap.size) pb E4) := ⟨hsb, fun i hi => ⟨Nat.le_trans HB1.out.size hi.1, hi.2⟩⟩
  have HSA2 := Lib.hid (HSA.out.new hbb)
  have HB2 := Lib.hid (held_two HB1.out hbb)
  clear h2 hsb hbb HSA
  go_wp2_with fail
  refine (pchanges_any 4 60 (by omega) (by omega) (by omega) w.heap.size A0 n0 c0 l0 w2 (HC.out.below HB2.out) HB2.out.size HOK.out).mono ?_
  rintro e w3 ⟨l, A, n, c, rfl, hn, hown, hmay, hb3⟩
  have HB3 := Lib.hid (held_two HB2.out hb3)
  have hnc : n ≤ c ∧ c ≤ 9223372036854775807 := (show Cs _ _ _ _ _ l from Row.of_own hown).le
  have HLEN := Lib.hid ((show Cs _ _ _ _ _ l from Row.of_own hown).len)
  have HALL : Hid (allT E4 l = true) := allT_may hmay
  have S1 : Hid (ApRel w pa pb w2.heap.size A n c l m (.int .i64 0) w3) :=
    ⟨0, _, _, rfl, Nat.zero_le _, HSA2.out.new hb3, HSB.out.new hb3, (fun x hx hy => by have h1 := hx.2; have h2 := hy.1; omega), ⟨hown, fun g hg hF => by have h1 := (hown.lt g hg).1; have := hF.2; have := HB2.out.size; have h3 := HSB.out.1; have h4 := HSB.out.2; exact absurd h1 (by
      have hx : w1.heap.size ≤ w2.heap.size := by
        obtain ⟨b, ps, G, hh⟩ := HSB.out.1
        have := (hh.inp).1
        have := (hh.inp).2
        omega
      omega)⟩, ⟨hown, fun g hg hF => by have h1 := (hown.lt g hg).1; have := hF.2; omega⟩, HB3.out⟩
  clear hown hmay hb3 HSA2 HSB HB1 HB2
  go_wp2
  go_loopw [11] (fun vi wr => ApRel w pa pb w2.heap.size A n c l m vi wr) (fun vi _ => n - (intOf vi).toNat)
  case atStart => exact S1.out
  case round =>
    obtain ⟨i, Fa, Fb, rfl, hi, hTA, hTB, hap, hOA, hOB, hbel⟩ := hrel
    have HTA := Lib.hid hTA
    have HTB := Lib.hid hTB
    have HAP := Lib.hid hap
    have HOA := Lib.hid hOA
    have HOB := Lib.hid hOB
    have HBW := Lib.hid hbel
    clear hTA hTB hap hOA hOB hbel S1
    by_cases hin : i < n
    · obtain ⟨b, off, f, rfl, hbB, c0, c1, c2, c3, hf, ht⟩ := HOA.out.cs.at_ hin
      have HT := Lib.hid ht
      have hft : isT E4 f.tbl = true := allT_at HALL.out hf
      have HFA : Hid (isT (doAll E4 (l.take i)) f.tbl = true) := (isT_doAll _ _ _).trans hft
      have HFB : Hid (isT (doAll E4 (flt m (l.take i))) f.tbl = true) := (isT_doAll _ _ _).trans hft
      have HMA : Hid (Most (doAll E4 (l.take i)) 100) := (most_doAll (most_none 4) _ (allT_sub HALL.out (List.take_sublist _ _))).mono (by rw [List.length_take]; omega)
      have HMB : Hid (Most (doAll E4 (flt m (l.take i))) 100) := (most_doAll (most_none 4) _ (allT_sub HALL.out (List.filter_sublist.trans (List.take_sublist _ _)))).mono (by have := List.length_filter_le (fun c : Cg => decide (c.tbl = (m : Int))) (l.take i); rw [List.length_take] at this; omega)
      have HNA : Hid (doAll E4 (l.take (i + 1)) = do1 (doAll E4 (l.take i)) f) := by show _ = _; rw [ht, doAll_snoc]
      have HFE := Lib.hid hf
      clear hf ht hft
      obtain ⟨ft, fk, fg, fv⟩ := f
      dsimp only at c0 c1 c2 c3
      have hbx : Below wr.heap.size wr (wr.alloc (.cells #[.int .i64 ft, .int .i64 fk, .bool fg, .string fv] 45)) := (Below.refl _ _).alloc (Nat.le_refl _) _
      have HBL := Lib.hid (Blk.new wr 45 #[.int .i64 ft, .int .i64 fk, .bool fg, .string fv])
      have HTA1 := Lib.hid (HTA.out.new hbx)
      have HTB1 := Lib.hid (HTB.out.new hbx)
      have HOA1 := Lib.hid (HOA.out.below hbx)
      have HOB1 := Lib.hid (HOB.out.below hbx)
      have HBW1 := Lib.hid (held_two HBW.out hbx)
      have HFRa : Hid (∀ x, Fa x → x < wr.heap.size) := fun x hx => (HTA.out.2 x hx).2
      have HFRb : Hid (∀ x, Fb x → x < wr.heap.size) := fun x hx => (HTB.out.2 x hx).2
      have l1 : (i : Int) < (n : Int) := by omega
      clear hbx HTA HTB HOA HOB HBW
      go_wp2_with fail
      refine (apply_set Fa pa _ 100 _ 1 1 [⟨ft, fk, fg, fv⟩] _ HTA1.out.1 (fun wx hx => lit_cs ((hx.block _ HBL.out.lt (fun hf => by have := HFRa.out _ hf; omega)).trans HBL.out)) HMA.out (by omega)).mono ?_
      rw [allT_one HFA.out, appl_one HFA.out]
      rintro e w4 ⟨rfl, hs4, ht4⟩
      have HTA4 := Lib.hid (HTA1.out.turn HBW1.out.size hs4 ht4)
      have HTB4 := Lib.hid (HTB1.out.off ht4 (fun x h1 h2 => HAP.out x h2 h1))
      have HAP4 : Hid (∀ x, Fb x → ¬ Out Fa (wr.alloc (.cells #[.int .i64 ft, .int .i64 fk, .bool fg, .string fv] 45)) w4 x) := apart_out HTB1.out (fun x h1 h2 => HAP.out x h2 h1)
      have HOB4 := Lib.hid (HOB1.out.off HOA1.out ht4)
      have HOA4 := Lib.hid (HOA1.out.turn ht4)
      have HBW4 := Lib.hid (below_turn HBW1.out ht4 (fun x hx => (HTA1.out.2 x hx).1))
      obtain ⟨b', off', f', e', _, d0, _, _, _, hf', _⟩ := HOA4.out.cs.at_ hin
      simp only [Option.some.injEq, Addr.mk.injEq, and_true] at e'
      obtain ⟨rfl, rfl⟩ := e'
      obtain rfl : (⟨ft, fk, fg, fv⟩ : Cg) = f' := by have h := HFE.out; rw [hf'] at h; injection h with h; exact h.symm
      dsimp only at d0
      clear hs4 ht4 hf'
      generalize (wr.alloc (.cells #[.int .i64 ft, .int .i64 fk, .bool fg, .string fv] 45)) = wx at *
      by_cases htm : ft = (m : Int)
      · have y1 : (ft == (m : Int)) = true := by simpa using htm
        have HNB : Hid (doAll E4 (flt m (l.take (i + 1))) = do1 (doAll E4 (flt m (l.take i))) ⟨ft, fk, fg, fv⟩) := by show _ = _; unfold flt; rw [filter_snoc_yes HT.out htm, doAll_snoc]
        clear htm
        obtain ⟨b', off', f', e', _, g0, g1, g2, g3, hf', _⟩ := HOA4.out.cs.at_ hin
        simp only [Option.some.injEq, Addr.mk.injEq, and_true] at e'
        obtain ⟨rfl, rfl⟩ := e'
        obtain rfl : (⟨ft, fk, fg, fv⟩ : Cg) = f' := by have h := HFE.out; rw [hf'] at h; injection h with h; exact h.symm
        dsimp only at g0 g1 g2 g3
        clear d0 hf'
        have hby : Below w4.heap.size w4 (w4.alloc (.cells #[.int .i64 ft, .int .i64 fk, .bool fg, .string fv] 45)) := (Below.refl _ _).alloc (Nat.le_refl _) _
        have HBL5 := Lib.hid (Blk.new w4 45 #[.int .i64 ft, .int .i64 fk, .bool fg, .string fv])
        have HTA5 := Lib.hid (HTA4.out.new hby)
        have HTB5 := Lib.hid (HTB4.out.new hby)
        have HOA5 := Lib.hid (HOA4.out.below hby)
        have HOB5 := Lib.hid (HOB4.out.below hby)
        have HBW5 := Lib.hid (held_two HBW4.out hby)
        have HFR5 : Hid (∀ x, Fb x → x < w4.heap.size) := fun x hx => (HTB4.out.2 x hx).2
        clear hby HTA4 HTB4 HOA4 HOB4 HBW4
        go_wp2_with fail
        refine (apply_set Fb pb _ 100 _ 1 1 [⟨ft, fk, fg, fv⟩] _ HTB5.out.1 (fun wx hx => lit_cs ((hx.block _ HBL5.out.lt (fun hf => by have := HFR5.out _ hf; omega)).trans HBL5.out)) HMB.out (by omega)).mono ?_
        rw [allT_one HFB.out, appl_one HFB.out]
        rintro e w6 ⟨rfl, hs6, ht6⟩
        have HTB6 := Lib.hid (HTB5.out.turn HBW5.out.size hs6 ht6)
        have HTA6 := Lib.hid (HTA5.out.off ht6 (fun x h1 h2 => HAP4.out x h2 h1))
        have HAP6 := Lib.hid (apart_out (w' := w6) HTA5.out (fun x h1 h2 => HAP4.out x h2 h1))
        have HOA6 := Lib.hid (HOA5.out.off HOB5.out ht6)
        have HOB6 := Lib.hid (HOB5.out.turn ht6)
        have HBW6 := Lib.hid (below_turn HBW5.out ht6 (fun x hx => (HTB5.out.2 x hx).1))
        clear hs6 ht6 HTA5 HTB5 HOA5 HOB5 HBW5
        go_wp2
        go_roundw
        case rel => exact ⟨i + 1, _, _, by go_num, hin, by rw [HNA.out]; exact HTA6.out, by rw [HNB.out]; exact HTB6.out, HAP6.out, HOA6.out, HOB6.out, HBW6.out⟩
        case measure => simp [RowKit.intOf]; omega
      · have y1 : (ft == (m : Int)) = false := by simpa using htm
        have HNB : Hid (doAll E4 (flt m (l.take (i + 1))) = doAll E4 (flt m (l.take i))) := by show _ = _; unfold flt; rw [filter_snoc_no HT.out htm]
        clear htm
        go_wp2
        go_roundw
        case rel => exact ⟨i + 1, _, _, by go_num, hin, by rw [HNA.out]; exact HTA4.out, by rw [HNB.out]; exact HTB4.out, (fun x hx hy => HAP4.out x hy hx), HOA4.out, HOB4.out, HBW4.out⟩
        case measure => simp [RowKit.intOf]; omega
    · have hlk : l.take i = l := List.take_of_length_le (by rw [HLEN.out]; omega)
      rw [hlk] at HTA HTB
      clear hlk
      have HRA : Hid (tab (doAll E4 l) m = tab (doAll E4 (flt m l)) m) := tab_apart E4 E4 m rfl (fun _ => rfl) l HALL.out
      have HSZ : Hid ((tab (doAll E4 l) m).length ≤ 100) := ((most_doAll (most_none 4) l HALL.out).mono (by rw [HLEN.out]; omega)) m
      have HOT : Hid (∀ u : Int, u ≠ m → tab (doAll E4 (flt m l)) u = []) := fun u hu => (tab_other E4 m u hu l HALL.out).trans (tab_empty 4 u)
      generalize doAll E4 l = TA at *
      generalize doAll E4 (flt m l) = TB at *
      go_wp2_with fail
      refine (awake_any wr).mono ?_
      rintro e w5 ⟨rfl, hb5⟩
      have HTA5 := Lib.hid (HTA.out.new hb5)
      have HTB5 := Lib.hid (HTB.out.new hb5)
      have HBW5 := Lib.hid (held_two HBW.out hb5)
      clear hb5 HTA HTB HOA HOB HBW
      go_wp2_with fail
      refine (rows_any Fa pa TA m w5 HTA5.out.1 (by have := HSZ.out; omega)).mono ?_
      rintro e w6 ⟨A6, c6, rfl, ho6, hb6⟩
      have HTB6 := Lib.hid (HTB5.out.new hb6)
      have HO6 := Lib.hid ho6
      have HBW6 := Lib.hid (held_two HBW5.out hb6)
      clear ho6 hb6 HTA5 HTB5
      go_wp2_with fail
      refine (rows_any Fb pb TB m w6 HTB6.out.1 (by have := HSZ.out; rw [HRA.out] at this; omega)).mono ?_
      rintro e w7 ⟨A7, c7, rfl, ho7, hb7⟩
      have HTB7 := Lib.hid (HTB6.out.new hb7)
      have HO7 := Lib.hid ho7
      have HR6 := Lib.hid (Rs.below (Rs.of_own HO6.out) hb7)
      have HBW7 := Lib.hid (held_two HBW6.out hb7)
      have HS7 := Lib.hid hb7.size
      clear ho7 hb7 HTB6
      rw [← HRA.out] at HO7
      rw [← HRA.out]
      generalize tab TA m = ra at *
      go_wp2_with fail
      refine (rplain_same w6.heap.size w7.heap.size A6 A7 _ _ c6 c7 ra w7 HR6.out (Rs.of_own HO7.out) HS7.out (Nat.le_refl _)).mono ?_
      rintro e w8 ⟨rfl, hb8⟩
      have HTB8 := Lib.hid (HTB7.out.new hb8)
      have HBW8 := Lib.hid (held_two HBW7.out hb8)
      clear hb8 HTB7
      have hc : m = 0 ∨ m = 1 ∨ m = 2 ∨ m = 3 := by omega
      rcases hc with rfl | rfl | rfl | rfl
      all_goals (
        go_wp2_with fail
        refine (len_any Fb pb TB _ w8 HTB8.out.1).mono ?_
        rintro e w9 ⟨rfl, rfl⟩
        rw [HOT.out _ (by decide)]
        go_wp2
        go_ret
        exact ⟨rfl, HBW8.out⟩)
end Go.Proofs.Ytngncalbglbjdaa.Tbl
