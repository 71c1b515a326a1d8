/-
  TablePlays: the walk of the law.
-/
import Derived.Test.YtngncalbglbjdaaTblBoth
import Derived.Test.YtngncalbglbjdaaTblAlike
import Derived.Test.YtngncalbglbjdaaTblRefFits
import Derived.Deep.DeepCutAuto
import Derived.BigRegion
namespace Go.Proofs.Ytngncalbglbjdaa.Tbl
set_option linter.unusedVariables false
set_option maxRecDepth 100000
open Go.RowKit Base IdxMath Foot Idx
open PChg (gcells gval gv gv_cons gv_length gv_get Cs SomeCh pchanges_any)
open Lsts (Lsts)
open Go.Proofs.Ytngncalbglbjdaa.Field (modZ modZ_lt mod_any)
set_option linter.ambiguousOpen false
set_option linter.unusedSimpArgs false

/-- the first of some changes -/
theorem cs_front {w : World} {B n c m : Nat} {A : Option Addr} {l : List Cg} (h : Cs w B A n c l) (hm : m ≤ n) : Cs w B A m c (l.take m) := by
  have hl := h.len
  obtain ⟨h1, h2, h3, h4⟩ := h
  refine ⟨by rw [gv_length, List.length_take]; omega, by omega, h3, fun h0 => ?_⟩
  obtain ⟨b, off, e, hb, hc⟩ := h4 (by omega)
  refine ⟨b, off, e, hb, fun j u hu => hc j u ?_⟩
  have hj : j < (gv (l.take m)).length := by
    rcases Nat.lt_or_ge j (gv (l.take m)).length with h | h
    · exact h
    · rw [List.getElem?_eq_none h] at hu; cases hu
  have e2 : gv l = gv (l.take m) ++ gv (l.drop m) := by rw [← PChg.gv_append, List.take_append_drop]
  rw [e2, List.getElem?_append_left hj]
  exact hu
theorem lsts_below {w w' : World} {B n c : Nat} {A : Option Addr} {ls : List (List Cg)} (h : Lsts Cs w B A n c ls) (hb : Below B w w') : Lsts Cs w' B A n c ls := h.below hb fun _ _ _ _ hx => hx.below hb
/-- what the changes of a round are -/
def Roundly (w0 w : World) (F R : Nat → Prop) (p q : Nat) (T : List (List Rw)) (vc : Value) : Prop :=
  ∃ (A : Option Addr) (m c : Nat) (l : List Cg), vc = .slice A m c ∧ m ≤ 20 ∧ (∀ f ∈ l, In64 f.key) ∧ CsIn w F R A m c l ∧ Both w0 w F R p q T T
def PlRel (w0 : World) (p q k n : Nat) (vi : Value) (wr : World) : Prop :=
  ∃ (i : Nat) (F R : Nat → Prop) (T : List (List Rw)), vi = .int .i64 i ∧ i ≤ n ∧ i ≤ 20 ∧ T.length = k ∧ Most T (20 * i) ∧ Both w0 wr F R p q T T
theorem most_all {T : List (List Rw)} {M : Nat} (h : Most T M) (hM : M ≤ 1000000) : ∀ t : Int, (tab T t).length ≤ 1000000 := fun t => Nat.le_trans (h t) hM
theorem tmod_nat (i k : Nat) (hk : 0 < k) : Int.tmod (i : Int) (k : Int) = ((i % k : Nat) : Int) := (Int.tmod_eq_emod_of_nonneg (by omega)).trans (Int.natCast_emod i k).symm
theorem aft_any (F : Nat → Prop) (p : Nat) (T : List (List Rw)) (t k n : Int) (w : World) (h : SetAt w F p T) (ht : isT T t = false) :
    Calls Try.prog 17 #[.pointer (some ⟨p, 0, none⟩), .int .i64 t, .int .i64 k, .int .i64 n] w fun e w' => ∃ A c, e = .returned (.slice A 0 c) ∧ Below w.heap.size w w' := by
  refine (after_any F p T t k n w h (by rw [tab_none ht]; simp)).mono ?_
  rw [tab_none ht, after_nil]
  rintro e w' ⟨A, c, rfl, _, hb⟩
  exact ⟨A, c, rfl, hb⟩

set_option maxHeartbeats 12800000 in
theorem plays_walk (n : Int) (A0 : Option Addr) (n0 c0 : Nat) (L : List (List Cg)) (key most : Int) (w : World) (h : Lsts Cs w w.heap.size A0 n0 c0 L) (hok : ∀ l ∈ L, In1 l) :
    Calls Try.prog 3 #[.int .i64 n, .slice A0 n0 c0, .int .i64 key, .int .i64 most] w fun e w' => e = .returned (.bool true) ∧ Below w.heap.size w w' := by
  have hle := h.le
  have HC := Lib.hid h
  have HOK := Lib.hid hok
  clear h hok
  obtain ⟨m, hm⟩ : ∃ m, m = modZ n 8 := ⟨_, rfl⟩
  have hm8 : m < 8 := by rw [hm]; exact modZ_lt n (by omega)
  have HM := Lib.hid hm
  clear hm
  obtain ⟨k, hk⟩ : ∃ k, k = 1 + m := ⟨_, rfl⟩
  have hk1 : 1 ≤ k := by omega
  have hk8 : k ≤ 8 := by omega
  have hwk : (1 : Int) + (m : Int) = (k : Int) := by omega
  have hwk2 : IntKind.i64.wrap ((1 : Int) + (m : Int)) = (k : Int) := by rw [IntWalk.i64_in _ (by omega)]; omega
  clear hk
  go_enter Try.func3, Try.ntmps3
  go_wp2_with fail
  refine (mod_any n 8 w (by omega) (by omega)).mono ?_
  rintro e w1 ⟨rfl, rfl⟩
  rw [← HM.out]
  go_wp2_with fail
  refine (new_any k w).mono ?_
  intro e w1 h1
  obtain ⟨p, rfl, hs, hb⟩ := h1.at_ (by omega) (by omega)
  rw [Int.toNat_natCast] at hs
  have HS := Lib.hid hs
  have HB1 := Lib.hid hb
  clear h1 hs hb
  go_wp2_with fail
  refine (refnew2_any k hk1 hk8 w1).mono ?_
  rintro e w2 ⟨q, rfl, hr, hb2⟩
  have HBO : Hid (Both w w2 (fun i => w.heap.size ≤ i ∧ i < w1.heap.size) (fun i => w1.heap.size ≤ i ∧ i < w2.heap.size) p q (List.replicate k []) (List.replicate k [])) :=
    ⟨HS.out.new hb2, hr, fun i hi => ⟨hi.1, Nat.lt_of_lt_of_le hi.2 hb2.size⟩, fun i hi => ⟨Nat.le_trans HB1.out.size hi.1, hi.2⟩, fun i h1 h2 => by have := h1.2; have := h2.1; omega, held_two HB1.out hb2⟩
  clear hr hb2 HS HB1
  go_wp2
  go_loopw [13, 14, 15] (fun vi _ _ wr => PlRel w p q k n0 vi wr) (fun vi _ _ _ => n0 - (intOf vi).toNat)
  case atStart => exact ⟨0, _, _, _, rfl, Nat.zero_le _, Nat.zero_le _, List.length_replicate, most_none k, HBO.out⟩
  case round =>
    obtain ⟨i, F, R, T, rfl, hi, hi20, hT, hM, hbo⟩ := hrel
    have HBW := Lib.hid hbo
    have HMO := Lib.hid hM
    have HTL := Lib.hid hT
    clear hbo hM hT HBO
    by_cases hin : i < n0 ∧ i < 20
    · obtain ⟨hin, hin20⟩ := hin
      have hlst := lsts_below HC.out HBW.out.bel
      obtain ⟨b, off, A', n', c', l, rfl, hbl, e0, hcs, hget, _⟩ := hlst.at_ hin
      have HCS := Lib.hid hcs
      have hle' := hcs.le
      have HIN := Lib.hid (HOK.out l (List.mem_of_getElem? hget))
      have q1 : (i : Int) < (n0 : Int) := by omega
      have q2 : (i : Int) < 20 := by omega
      have q5 : Int.tmod (i : Int) 5 = ((i % 5 : Nat) : Int) := tmod_nat i 5 (by omega)
      clear hlst hcs hget
      go_upto_region 9 with fail
      go_cut [14] (fun v wx => ∃ n2, v = .slice A' n2 c' ∧ n2 ≤ 20 ∧ n2 ≤ n' ∧ ∃ d, wx = wr.drewN d)
      case first =>
        have hA : A'.map (·.add 0) = A' := by
          cases A' with
          | none => rfl
          | some a => simp [Addr.add]
        by_cases h20 : 20 < n'
        · have z1 : (20 : Int) < (n' : Int) := by omega
          have z2 : 20 ≤ c' := by omega
          go_quiet (fail)
          go_wp2
          go_meet
          exact ⟨20, rfl, Nat.le_refl _, by omega, _, rfl⟩
        · have z1 : ¬ (20 : Int) < (n' : Int) := by omega
          have z2 : n' ≤ c' := by omega
          go_quiet (fail)
          go_wp2
          go_meet
          exact ⟨n', rfl, by omega, Nat.le_refl _, _, rfl⟩
      case rest =>
      obtain ⟨n2, rfl, hn20, hn2, d, rfl⟩ := hcut
      have HBW2 := Lib.hid (HBW.out.new (below_drewN (Below.refl _ _) d))
      have HCS2 := Lib.hid (show Cs (wr.drewN d) w.heap.size A' n2 c' (l.take n2) from cs_front HCS.out hn2)
      have HIN2 : Hid (In1 (l.take n2)) := fun f hf => HIN.out f (List.mem_of_mem_take hf)
      generalize l.take n2 = l2 at HCS2 HIN2
      generalize wr.drewN d = wa at *
      go_upto_if 55 with fail
      go_cut [14] (fun v wx => Roundly w wx F R p q T v)
      case first =>
        by_cases h5 : i % 5 = 4
        · have q6 : (((i % 5 : Nat) : Int) != 4) = false := by rw [h5]; rfl
          go_wp2_with fail
          go_meet
          exact ⟨A', n2, c', l2, rfl, hn20, fun f hf => (HIN2.out f hf).1, CsIn.raw HCS2.out HBW2.out.bel.size (fun i hi => (HBW2.out.inF i hi).1) (fun i hi => (HBW2.out.inR i hi).1), HBW2.out⟩
        · have q6 : (((i % 5 : Nat) : Int) != 4) = true := by simp; omega
          go_wp2_with fail
          refine (pchanges_any k 20 hk1 hk8 (by omega) w.heap.size A' n2 c' l2 wa HCS2.out HBW2.out.bel.size (fun f hf => (HIN2.out f hf).2)).mono ?_
          rintro e wb ⟨l3, A3, n3, c3, rfl, hn3, hown, hmay, hb3⟩
          have HX : Hid (Roundly w wb F R p q T (.slice A3 n3 c3)) := ⟨A3, n3, c3, l3, rfl, hn3, in_may hmay, CsIn.made hown (fun i hi => (HBW2.out.inF i hi).2) (fun i hi => (HBW2.out.inR i hi).2), HBW2.out.new hb3⟩
          clear hown hmay hb3
          go_wp2_with fail
          go_meet
          exact HX.out
      case rest =>
      obtain ⟨A, m2, c, l3, rfl, hm20, hkeys, hcs, hbo⟩ := hcut
      have HKY := Lib.hid hkeys
      have HC3 := Lib.hid hcs
      have HB3 := Lib.hid hbo
      have hl3 : l3.length = m2 := hcs.1.len
      have HMA := Lib.hid (show Most (appl T l3) (20 * (i + 1)) from (most_appl (n := m2) HMO.out (by omega)).mono (by omega))
      have HTL2 := Lib.hid (show (appl T l3).length = k by rw [appl_length]; exact HTL.out)
      clear hkeys hcs hbo hl3 HBW HBW2 HCS HCS2 HIN HIN2
      go_wp2_with fail
      refine (fits_any F p T (20 * i) A m2 c l3 wc HB3.out.set HC3.out.1 HKY.out HMO.out (by omega)).mono ?_
      rintro e w3 ⟨rfl, hb3⟩
      have HB4 := Lib.hid (HB3.out.new hb3)
      have HC4 := Lib.hid (HC3.out.new hb3)
      clear hb3 HB3 HC3
      go_wp2_with fail
      refine (reffits_any R q T (20 * i) A m2 c l3 w3 HB4.out.ref HC4.out.1 HMO.out (by omega)).mono ?_
      rintro e w4 ⟨rfl, hb4⟩
      have HB5 := Lib.hid (HB4.out.new hb4)
      have HC5 := Lib.hid (HC4.out.new hb4)
      clear hb4 HB4 HC4
      generalize fitsT T l3 = bf
      have hbf : (bf != bf) = false := by simp
      go_wp2_with fail
      refine (alike_any F R p q T w4 HB5.out.set HB5.out.ref (most_all HMO.out (by omega))).mono ?_
      rintro e w5 ⟨rfl, hb5⟩
      have HB6 := Lib.hid (HB5.out.new hb5)
      have HC6 := Lib.hid (HC5.out.new hb5)
      clear hb5 HB5 HC5
      go_wp2_with fail
      refine (apply_set F p T (20 * i) A m2 c l3 w5 HB6.out.set (fun wx hx => HC6.out.atF hx) HMO.out (by omega)).mono ?_
      rintro e w6 ⟨rfl, hs6, ht6⟩
      have HB7 := Lib.hid (HB6.out.code hs6 ht6)
      have HC7 := Lib.hid (HC6.out.code ht6)
      clear hs6 ht6 HB6 HC6
      generalize Out F w5 w6 = F2 at *
      go_wp2_with fail
      refine (refapply_any R q T (20 * i) A m2 c l3 w6 HB7.out.ref (fun wx hx => HC7.out.atR hx) HMO.out (by omega)).mono ?_
      rintro e w7 ⟨rfl, hs7, ht7⟩
      have HB8 := Lib.hid (HB7.out.doc hs7 ht7)
      clear hs7 ht7 HB7 HC7
      generalize Out R w6 w7 = R2 at *
      generalize allT T l3 = ba
      generalize appl T l3 = T2 at *
      have hba : (ba != ba) = false := by simp
      go_wp2_with fail
      refine (alike_any F2 R2 p q T2 w7 HB8.out.set HB8.out.ref (most_all HMA.out (by omega))).mono ?_
      rintro e w8 ⟨rfl, hb8⟩
      have HB9 := Lib.hid (HB8.out.new hb8)
      clear hb8 HB8
      have qk : Int.tmod (i : Int) (k : Int) = ((i % k : Nat) : Int) := tmod_nat i k (by omega)
      have qk0 : ¬ (k : Int) = 0 := by omega
      have HLT := Lib.hid (most_all HMA.out (by omega) ((i % k : Nat) : Int))
      generalize i % k = t at *
      go_wp2_with fail
      refine (after_any F2 p T2 t key most w8 HB9.out.set (by have := HLT.out; omega)).mono ?_
      rintro e w9 ⟨A9, c9, rfl, ho9, hb9⟩
      have HB10 := Lib.hid (HB9.out.new hb9)
      have HO9 := Lib.hid ho9
      clear ho9 hb9 HB9
      go_wp2_with fail
      refine (refrows_any R2 q T2 t w9 HB10.out.ref (by have := HLT.out; omega)).mono ?_
      intro e w10 hh
      obtain ⟨A10, c10, rfl, hr10, hb10⟩ := newRows_at hh
      have HB11 := Lib.hid (HB10.out.new hb10)
      have HO10 := Lib.hid (own_keep HO9.out hb10)
      have HR10 := Lib.hid hr10
      clear hh hr10 hb10 HB10 HO9
      generalize tab T2 (t : Int) = rows at *
      have hrl : rows.length ≤ 1000000 := HLT.out
      go_wp2_with fail
      refine (refafter_any w10.heap.size A10 _ c10 rows key most w10 HR10.out (Nat.le_refl _) (by omega)).mono ?_
      rintro e w11 ⟨A11, c11, rfl, ho11, hb11⟩
      have HB12 := Lib.hid (HB11.out.new hb11)
      have HO11 := Lib.hid (own_keep HO10.out hb11)
      have HO12 := Lib.hid ho11
      clear ho11 hb11 HB11 HO10
      go_wp2_with fail
      refine (rplain_same w11.heap.size w11.heap.size A9 A11 _ _ c9 c11 _ w11 (Rs.of_own HO11.out) (Rs.of_own HO12.out) (Nat.le_refl _) (Nat.le_refl _)).mono ?_
      rintro e w12 ⟨rfl, hb12⟩
      have HB13 := Lib.hid (HB12.out.new hb12)
      clear hb12 HB12
      go_wp2
      go_roundw
      case rel => exact ⟨i + 1, F2, R2, T2, by go_num, by omega, by omega, HTL2.out, HMA.out, HB13.out⟩
      case measure => simp [intOf]; omega
    · have ht1 : isT T (-1) = false := decide_eq_false (by omega)
      have ht2 : isT T (k : Int) = false := decide_eq_false (by have := HTL.out; omega)
      have HEND := Lib.hid (fun wx (hx : Below wr.heap.size wr wx) => aft_any F p T (-1) 0 9 wx (HBW.out.new hx).set ht1)
      have HEND2 := Lib.hid (fun wx (hx : Below wr.heap.size wr wx) => aft_any F p T k 0 9 wx (HBW.out.new hx).set ht2)
      clear ht1 ht2
      by_cases hi0 : i < n0
      · have q1 : (i : Int) < (n0 : Int) := by omega
        have q2 : ¬ (i : Int) < 20 := by omega
        clear hin
        go_wp2_with fail
        refine (awake_any wr).mono ?_
        rintro e w3 ⟨rfl, hb3⟩
        have HB3 := Lib.hid hb3
        clear hb3
        go_wp2_with fail
        refine (HEND.out w3 HB3.out).mono ?_
        rintro e w4 ⟨A4, c4, rfl, hb4⟩
        have HB4 := Lib.hid (held_two HB3.out hb4)
        clear hb4
        go_wp2_with fail
        refine (HEND2.out w4 HB4.out).mono ?_
        rintro e w5 ⟨A5, c5, rfl, hb5⟩
        have HB5 := Lib.hid (held_two HB4.out hb5)
        clear hb5
        go_wp2
        go_ret
        exact ⟨rfl, held_two HBW.out.bel HB5.out⟩
      · have q1 : ¬ (i : Int) < (n0 : Int) := by omega
        clear hin
        go_wp2_with fail
        refine (awake_any wr).mono ?_
        rintro e w3 ⟨rfl, hb3⟩
        have HB3 := Lib.hid hb3
        clear hb3
        go_wp2_with fail
        refine (HEND.out w3 HB3.out).mono ?_
        rintro e w4 ⟨A4, c4, rfl, hb4⟩
        have HB4 := Lib.hid (held_two HB3.out hb4)
        clear hb4
        go_wp2_with fail
        refine (HEND2.out w4 HB4.out).mono ?_
        rintro e w5 ⟨A5, c5, rfl, hb5⟩
        have HB5 := Lib.hid (held_two HB4.out hb5)
        clear hb5
        go_wp2
        go_ret
        exact ⟨rfl, held_two HBW.out.bel HB5.out⟩
end Go.Proofs.Ytngncalbglbjdaa.Tbl
