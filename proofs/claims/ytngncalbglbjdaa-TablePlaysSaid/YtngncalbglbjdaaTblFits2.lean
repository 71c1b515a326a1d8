/-
  Package table: contract of Fits.
-/
import Derived.Test.YtngncalbglbjdaaTblFits
namespace Go.Proofs.Ytngncalbglbjdaa.Tbl
set_option linter.unusedVariables false
set_option maxRecDepth 100000
open Go.RowKit Base IdxMath Foot Idx
open PChg (gcells gval gv gv_cons gv_length gv_get Cs)
set_option linter.ambiguousOpen false
set_option linter.unusedSimpArgs false

/-- whether each table has at most a thousand rows behind these changes -/
def small (T : List (List Rw)) (k : Nat) : Bool := (List.range k).all fun j => decide ((tab T (j : Int)).length ≤ 1000)
def fitsT (T : List (List Rw)) (l : List Cg) : Bool := allT T l && small (doAll T l) T.length
theorem small_succ (T : List (List Rw)) (k : Nat) : small T (k + 1) = (small T k && decide ((tab T (k : Int)).length ≤ 1000)) := by simp [small, List.range_succ]
theorem small_not {T : List (List Rw)} {k n : Nat} (h : k < n) (hk : ¬ (tab T (k : Int)).length ≤ 1000) : small T n = false := by
  unfold small
  rw [List.all_eq_false]
  exact ⟨k, List.mem_range.2 h, by simpa using hk⟩
set_option maxHeartbeats 6400000 in
theorem fits_any (F : Nat → Prop) (p : Nat) (T : List (List Rw)) (M : Nat) (A : Option Addr) (n c : Nat) (l : List Cg) (w : World) (h : SetAt w F p T) (hl : Cs w w.heap.size A n c l) (hkeys : ∀ f ∈ l, In64 f.key) (hM : Most T M) (hsz : M + n ≤ 1099511627774) :
    Calls Try.prog 11 #[.pointer (some ⟨p, 0, none⟩), .slice A n c] w fun e w' => e = .returned (.bool (fitsT T l)) ∧ Below w.heap.size w w' := by
  have HH := Lib.hid (hasAll_any F p T A n c l w h hl)
  have HC := Lib.hid hl
  have HS := Lib.hid h
  have HKEYS := Lib.hid hkeys
  have HM := Lib.hid hM
  have HLEN := Lib.hid hl.len
  clear h hl hkeys hM
  cases ht : allT T l with
  | false =>
    have HT := Lib.hid ht
    clear ht
    go_enter Try.func11, Try.ntmps11
    go_wp2_with fail
    refine HH.out.mono ?_
    rintro e w1 ⟨rfl, hb⟩
    rw [HT.out]
    have HB1 := Lib.hid hb
    clear hb
    go_wp2
    go_ret
    exact ⟨by unfold fitsT; rw [HT.out]; rfl, HB1.out⟩
  | true =>
    have HT := Lib.hid ht
    clear ht
    go_enter Try.func11, Try.ntmps11
    go_wp2_with fail
    refine HH.out.mono ?_
    rintro e w1 ⟨rfl, hb⟩
    rw [HT.out]
    have HB1 := Lib.hid hb
    clear hb
    go_wp2_with fail
    refine (growth_any F p T M A n c l w1 (HS.out.new HB1.out) ((HC.out.below HB1.out).more HB1.out.size) HT.out HKEYS.out HM.out hsz).mono ?_
    rintro e w2 ⟨rfl, hb2⟩
    have HB2 := Lib.hid (held_two HB1.out hb2)
    have HMO : Hid (Most (doAll T l) (M + n)) := (most_doAll HM.out _ HT.out).mono (by rw [HLEN.out]; omega)
    have HFT : Hid (fitsT T l = small (doAll T l) T.length) := by show _ = _; unfold fitsT; rw [HT.out]; rfl
    generalize doAll T l = T1 at *
    unfold grArr
    have hset := HS.out.new HB2.out
    obtain ⟨bb, ps, G, hX⟩ := hset
    have hpl := hX.box.lt
    have hbl := hX.row.lt
    have HX := Lib.hid hX
    have d0 : w2.cell? ⟨p, 0, none⟩ = some (.slice (some ⟨bb, 0, none⟩) T.length T.length) := hX.box.cell 0
    have HG2 := Lib.hid (Blk.new w2 68 (grArr T T1))
    have HB2' : Hid (Below w.heap.size w (w2.alloc (.cells (grArr T T1) 68))) := HB2.out.alloc HB2.out.size _
    have hb23 : Below w2.heap.size w2 (w2.alloc (.cells (grArr T T1) 68)) := (Below.refl _ _).alloc (Nat.le_refl _) _
    have S1 : Hid (Below w2.heap.size w2 (w2.alloc (.cells (grArr T T1) 68)) ∧ Blk (w2.alloc (.cells (grArr T T1) 68)) w2.heap.size 68 (grArr T T1)) := ⟨hb23, HG2.out⟩
    have hm8 : T.length ≤ 8 := hX.most
    clear hX hb2 HH hb23
    go_wp2
    go_loopw [20, 7, 6] (fun vi _ _ wr => ∃ k : Nat, vi = .int .i64 k ∧ k ≤ T.length ∧ small T1 k = true ∧ Below w2.heap.size w2 wr ∧ Blk wr w2.heap.size 68 (grArr T T1)) (fun vi _ _ _ => T.length - (intOf vi).toNat)
    case atStart => exact ⟨0, rfl, Nat.zero_le _, rfl, S1.out.1, S1.out.2⟩
    case round =>
      obtain ⟨k, rfl, hk, hsm, hbw, hgb⟩ := hrel
      by_cases hkn : k < T.length
      · have l1 : (k : Int) < (T.length : Int) := by omega
        have hX := HX.out.keep hbw.size (fun i hi _ => hbw.block i hi)
        obtain ⟨q, l0, e1, e2, d1, hq0⟩ := hX.get hkn
        have c1 : wr.cell? ⟨bb, k, none⟩ = some (.pointer (some ⟨q, 0, none⟩)) := d1
        have hgk : wr.cell? ⟨w2.heap.size, k, none⟩ = some (.int .i64 (gr T T1 k)) := by rw [hgb.cell, grArr_get T T1 (by omega)]
        have hkc : (wr.alloc (.cells #[.pointer (some ⟨q, 0, none⟩)] 63)).cell? ⟨w2.heap.size, k, none⟩ = some (.int .i64 (gr T T1 k)) := by rw [(hgb.alloc _).cell, grArr_get T T1 (by omega)]
        have hx0 : (wr.alloc (.cells #[.pointer (some ⟨q, 0, none⟩)] 63)).cell? ⟨wr.heap.size, 0, none⟩ = some (.pointer (some ⟨q, 0, none⟩)) := (Blk.new wr _ _).cell 0
        have hb3 : Below wr.heap.size wr (wr.alloc (.cells #[.pointer (some ⟨q, 0, none⟩)] 63)) := (Below.refl _ _).alloc (Nat.le_refl _) _
        have HL : Hid (∀ m, Calls Try.prog 33 #[.pointer (some ⟨q, 0, none⟩)] ((wr.alloc (.cells #[.pointer (some ⟨q, 0, none⟩)] 63)).drewN m) fun e w'' => e = .returned (.int .i64 l0.length) ∧ ∃ j, w'' = (wr.alloc (.cells #[.pointer (some ⟨q, 0, none⟩)] 63)).drewN j) :=
          fun m => (Idx.len_any (G k) q l0 _ ((hq0.mono (fun i _ h => h.1)).new (below_drewN hb3 m))).mono fun e w'' h => ⟨h.1, m, h.2.symm⟩
        have HSUM : Hid ((l0.length : Int) + gr T T1 k = (tab T1 (k : Int)).length) := by show _ = _; unfold gr; rw [tab_get hkn e2]; omega
        have hs1 : (l0.length : Int) ≤ 1099511627774 := by have := HM.out (k : Int); rw [tab_get hkn e2] at this; omega
        have hs2 := HMO.out (k : Int)
        have HB3 := Lib.hid (hbw.trans (hb3.mono hbw.size))
        have HG3 := Lib.hid (hgb.alloc (.cells #[.pointer (some ⟨q, 0, none⟩)] 63))
        have HSM := Lib.hid hsm
        have hgl := hgb.lt
        have hneq : w2.heap.size ≠ wr.heap.size := by omega
        clear d1 hq0 e1 e2 hX hb3 hsm hbw hgb
        obtain ⟨gk, hgk'⟩ : ∃ gk, gk = gr T T1 k := ⟨_, rfl⟩
        rw [← hgk'] at hgk hkc HSUM
        clear hgk'
        obtain ⟨n0, hn0⟩ : ∃ n0 : Nat, n0 = l0.length := ⟨_, rfl⟩
        rw [← hn0] at HSUM hs1 HL
        have HSUM2 : (n0 : Int) + gk = (tab T1 (k : Int)).length := HSUM.out
        have hw : IntKind.i64.wrap ((n0 : Int) + gk) = (n0 : Int) + gk := IntWalk.i64_in _ (by omega)
        clear hn0 HSUM
        by_cases h1000 : (tab T1 (k : Int)).length ≤ 1000
        · have HS2 : Hid (small T1 (k + 1) = true) := by show _ = _; rw [small_succ, HSM.out]; simpa using h1000
          have hq : ¬ (1000 : Int) < (n0 : Int) + gk := by omega
          have hqd : decide ((1000 : Int) < (n0 : Int) + gk) = false := decide_eq_false hq
          generalize (tab T1 (k : Int)).length = tl at *
          go_upto_region 7 with fail
          go_quiet (first | (go_at_call 33; exact HL.out _))
          go_wp2
          refine ⟨⟨k + 1, by rw [Int.natCast_add]; rfl, hkn, HS2.out, below_drewN HB3.out _, HG3.out⟩, by simp only [intOf, Int.toNat_natCast]; omega⟩
        · have HS2 := Lib.hid (small_not hkn h1000)
          have hq : (1000 : Int) < (n0 : Int) + gk := by omega
          have hqd : decide ((1000 : Int) < (n0 : Int) + gk) = true := decide_eq_true hq
          generalize (tab T1 (k : Int)).length = tl at *
          go_upto_region 7 with fail
          go_quiet (first | (go_at_call 33; exact HL.out _))
          go_wp2
          go_ret
          exact ⟨by rw [HFT.out, HS2.out]; rfl, (HB2.out.trans (HB3.out.mono HB2.out.size)).trans (below_drewN (Below.refl _ _) _)⟩
      · have l1 : decide ((k : Int) < (T.length : Int)) = false := decide_eq_false (by omega)
        obtain rfl : k = T.length := by omega
        have HSM := Lib.hid hsm
        have HB3 := Lib.hid (HB2.out.trans (hbw.mono HB2.out.size))
        clear hsm hbw hgb
        go_wp2
        go_ret
        exact ⟨by rw [HFT.out, HSM.out]; rfl, HB3.out⟩
end Go.Proofs.Ytngncalbglbjdaa.Tbl
