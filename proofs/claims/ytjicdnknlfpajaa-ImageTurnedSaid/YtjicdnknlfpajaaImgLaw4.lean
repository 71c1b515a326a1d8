/-
  The walk of the statement ImageTurned: it answers true, whatever the input, and writes nothing that was there.
-/
import Derived.Test.YtjicdnknlfpajaaImgLaw2
import Derived.Test.YtjicdnknlfpajaaTurn8
import Derived.OpenShut
namespace Go.Proofs.Ytjicdnknlfpajaa.Img
set_option linter.unusedVariables false
set_option maxRecDepth 100000
open Go.RowKit Base FieldMath RecMath
open ImgMath
open IdxMath (Rw)
open Go.Proofs.Ytjicdnknlfpajaa.Field (ret_bool modZ modZ_lt mod_any)
open Rec (turn8 turned_end)
set_option linter.ambiguousOpen false
set_option linter.unusedSimpArgs false

/-- the first eight bytes of an image -/
def hd8 (p : List UInt8) : List UInt8 := big p.length 4 ++ big (sum (big p.length 4 ++ p)) 4
theorem hd8_length (p : List UInt8) : (hd8 p).length = 8 := by unfold hd8; rw [List.length_append, big_length, big_length]
theorem imgB_hd (x : Im) : imgB x = hd8 (encZ (fldsI x)) ++ encZ (fldsI x) := by unfold imgB recB hd8; rw [List.append_assoc]
def TurnI (w : World) (n : Nat) (hd p : List UInt8) (f : Nat) (bs : Int) (g c : Nat) (t i : Value) (wr : World) : Prop :=
  ∃ (k : Nat) (q : List UInt8) (tb : Bool), k ≤ 32 ∧ f + k ≤ 8 * n ∧ i = .int .i64 k ∧ t = .bool tb ∧ tb = decide (bs.toNat % 2 ^ k ≠ 0) ∧ q.length = n ∧ wr.ownsRow w.heap.size 5 1 (.slice (some ⟨g, 0, none⟩) (8 + n) c) (8 + n) (bv (hd ++ q)) ∧ Below w.heap.size w wr ∧
    Crc.num (q.map UInt8.toNat) = Crc.num (p.map UInt8.toNat) ^^^ (2 ^ f * (bs.toNat % 2 ^ k)) ∧ (tb = false → q = p)

set_option maxHeartbeats 6400000 in
theorem turned_walk (A : Option Addr) (na c0 : Nat) (T0 : List (List Rw)) (at_ bs : Int) (w : World) (h : Tabs w w.heap.size A na c0 T0) (hs : ∀ l ∈ T0, Short l) (hb0 : 0 ≤ bs) (hb1 : bs < 4294967296) :
    Calls Try.prog 11 #[.slice A na c0, .int .i64 at_, .int .u32 bs] w fun e w' => e = .returned (.bool true) ∧ Below w.heap.size w w' := by
  have HT := Lib.hid h
  have HS := Lib.hid hs
  clear h hs
  go_enter Try.func11, Try.ntmps11
  go_wp2_with fail
  refine (right_any w.heap.size A na c0 T0 w HT.out (Nat.le_refl _) HS.out).mono ?_
  rintro e w1 ⟨A1, n1, c1, T, rfl, ho1, hn1, hn8, hall, hbl1⟩
  have HT1 := Lib.hid ho1.tabs
  have HB1 := Lib.hid hbl1
  have hmay := right_may (k := 7) (by omega) (by omega) ho1.len hn1 hn8 hall
  have HM := Lib.hid hmay
  obtain ⟨hs2, hs3⟩ := imgB_size hmay
  clear ho1 hbl1 hall hmay HT HS
  go_wp2_with fail
  refine (encode_any w1.heap.size 7 A1 n1 c1 T w1 HT1.out (Nat.le_refl _)).mono ?_
  intro e w2 he2
  obtain ⟨A2, c, rfl, _, ho2, hb2⟩ := encI_at he2 HM.out
  have HDE := Lib.hid (decI_enc HM.out)
  have HHE := Lib.hid (imgB_hd ⟨7, T⟩)
  rw [HHE.out] at ho2 hs2 hs3 HDE ⊢
  clear he2
  have HEND := Lib.hid (fun (q : List UInt8) (f k : Nat) (tb : Bool) => @turned_end (encZ (fldsI ⟨7, T⟩)).length (encZ (fldsI ⟨7, T⟩)) q f k bs tb rfl)
  have HHD := Lib.hid (hd8_length (encZ (fldsI ⟨7, T⟩)))
  have HENL := Lib.hid (encZ_len (may_of HM.out))
  generalize encZ (fldsI ⟨7, T⟩) = p at *
  have HEND2 : Hid (∀ (q : List UInt8) (f k : Nat) (tb : Bool), q.length = p.length → p.length ≤ 1048576 → f ≤ 8 * p.length → k ≤ 32 → tb = decide (bs.toNat % 2 ^ k ≠ 0) → Crc.num (q.map UInt8.toNat) = Crc.num (p.map UInt8.toNat) ^^^ (2 ^ f * (bs.toNat % 2 ^ k)) → tk (hd8 p ++ q) = if tb = true then .error 4 else .ok q) := HEND.out
  clear HEND HHE
  obtain ⟨n, hn⟩ : ∃ n, n = p.length := ⟨_, rfl⟩
  have hsz : (hd8 p ++ p).length = 8 + n := by rw [List.length_append, HHD.out, hn]
  rw [hsz] at ho2 hs2 hs3 ⊢
  rw [← hn] at HEND2 HENL
  have HL := Lib.hid hn.symm
  have hnb : n ≤ 1048576 := HENL.out
  clear hsz hn HENL
  generalize hd8 p = hd at *
  obtain ⟨g, rfl⟩ : ∃ g, A2 = some ⟨g, 0, none⟩ := by
    rcases ho2.2 with ⟨_, h⟩ | ⟨g, cap, cur, h, _⟩
    · omega
    · simp only [Value.slice.injEq] at h
      exact ⟨g, h.1⟩
  have HO2 := Lib.hid (own_mono ho2 HB1.out.size)
  have HB2 := Lib.hid (held_two HB1.out hb2)
  have hle := (Bytes.of_own ho2).le
  have hpos : 1 ≤ n := by omega
  clear ho2 hb2
  go_wp2_with fail
  refine (awake_any _).mono ?_
  rintro e w3 ⟨rfl, hb3⟩
  have HB3 := Lib.hid (held_two HB2.out hb3)
  have HO3 := Lib.hid (own_keep HO2.out hb3)
  clear hb3
  have CM : Hid (∀ (z : Int) wc, z = ((8 * n : Nat) : Int) → Calls Try.prog 26 #[.int .i64 at_, .int .i64 z] wc fun e w' => e = .returned (.int .i64 (modZ at_ (8 * n) : Nat)) ∧ wc = w') := fun z wc hz => by rw [hz]; exact mod_any at_ (8 * n) wc (by omega) (by omega)
  have hf := modZ_lt at_ (n := 8 * n) (by omega)
  generalize modZ at_ (8 * n) = f at hf CM
  have l9 : ¬ (8 : Int) + n < 9 := by omega
  go_wp2_with fail
  refine (CM.out _ _ (by first | omega | (simp; omega))).mono ?_
  rintro e w4 ⟨rfl, rfl⟩
  go_wp2_with fail
  go_loopw [10, 11] (fun t i wr => TurnI w n hd p f bs g c t i wr) (fun _ i _ => 32 - (intOf i).toNat)
  case atStart =>
    exact ⟨0, p, false, by omega, by omega, rfl, rfl, by simp [Nat.mod_one], HL.out, HO3.out, HB3.out, by rw [Nat.pow_zero, Nat.mod_one, Nat.mul_zero, Nat.xor_zero], fun _ => rfl⟩
  case round =>
    obtain ⟨k, q, tb, hk, hfk, rfl, rfl, htb, hql, hown, hbel, hnum, hqp⟩ := hrel
    have HTB := Lib.hid htb
    have HO := Lib.hid hown
    have HB := Lib.hid hbel
    have HN := Lib.hid hnum
    have HQL := Lib.hid hql
    have HQP := Lib.hid hqp
    clear htb hown hbel hnum hql hqp
    by_cases hin : k < 32 ∧ f + k < 8 * n
    · obtain ⟨h32, h8⟩ := hin
      have h8i : (f : Int) + k < 8 * n := by omega
      have hq := Crc.quo_nat hb0 k
      have hq0 : 0 ≤ bs / 2 ^ k := by rw [hq]; exact Int.natCast_nonneg _
      have hq1 : bs / 2 ^ k < 4294967296 := by
        have := Nat.div_le_self bs.toNat (2 ^ k)
        rw [hq]; omega
      have hand := Crc.and_one hq0 hq1
      by_cases hodd : (bs / 2 ^ k) % 2 = 1
      · have ht : (bits .and .u32 (bs / 2 ^ k) 1 == 1) = true := by rw [hand, hodd]; rfl
        have HM2 := Lib.hid (Crc.mod_succ_one (x := bs.toNat) (k := k) (by rw [hq] at hodd; omega))
        clear hand hodd hq0 hq1 hq
        obtain ⟨z, hz⟩ : ∃ z, q[(f + k) / 8]? = some z := ⟨_, List.getElem?_eq_getElem (by rw [HQL.out]; omega)⟩
        have hcell : wr.cell? ⟨g, 8 + (f + k) / 8, none⟩ = some (.int .u8 (z.toNat : Nat)) := by
          have h1 := HO.out.cellAt (8 + (f + k) / 8) (by omega)
          rw [bv, List.getElem?_map, List.getElem?_append_right (by rw [HHD.out]; omega), HHD.out, Nat.add_sub_cancel_left, hz] at h1
          exact h1
        have hfro := HO.out.frozenAt (8 + (f + k) / 8)
        have HTS := Lib.hid (turn8 hz (Nat.mod_lt (f + k) (by omega : 0 < 8)))
        have hzb : z.toNat < 256 := z.toNat_lt
        have HST := Lib.hid (HO.out.stored (8 + (f + k) / 8) (.int .u8 (((z ^^^ UInt8.ofNat (2 ^ ((f + k) % 8))).toNat : Nat) : Int)))
        clear hz
        go_wp2
        rw [HTS.out.1]
        go_roundw
        case rel =>
          have hst := HST.out
          have hnm := HTS.out.2
          rw [show 8 * ((f + k) / 8) + (f + k) % 8 = f + k from by omega] at hnm
          refine ⟨k + 1, q.set ((f + k) / 8) (z ^^^ UInt8.ofNat (2 ^ ((f + k) % 8))), true, by omega, by omega, by go_num, rfl, ?_, by rw [List.length_set]; exact HQL.out, ?_, ?_, ?_, fun e => by cases e⟩
          · rw [HM2.out]
            symm
            rw [decide_eq_true_iff]
            intro h0
            have h1 := congrArg (fun m => m ^^^ 2 ^ k) h0
            simp only [Nat.xor_assoc, Nat.xor_self, Nat.xor_zero, Nat.zero_xor] at h1
            have h2 : bs.toNat % 2 ^ k < 2 ^ k := Nat.mod_lt _ (Nat.pow_pos (by omega))
            omega
          · have h1 := hst.1
            rw [bv, ← List.map_set (f := fun b : UInt8 => Value.int .u8 (b.toNat : Int)), List.set_append_right _ _ (by rw [HHD.out]; omega), HHD.out, Nat.add_sub_cancel_left] at h1
            exact h1
          · exact HB.out.grown hst.2 HB.out.size (fun q hq => (HO.out.lt q hq).1)
          · rw [hnm, HN.out, HM2.out, Crc.mul_xor, Nat.xor_assoc, Nat.pow_add]
        case measure => simp [intOf]; omega
      · have hev : (bs / 2 ^ k) % 2 = 0 := by omega
        have ht : (bits .and .u32 (bs / 2 ^ k) 1 == 1) = false := by rw [hand, hev]; rfl
        have HM2 := Lib.hid (Crc.mod_succ_zero (x := bs.toNat) (k := k) (by rw [hq] at hev; omega))
        clear hand hodd hev hq0 hq1 hq
        go_wp2
        go_roundw
        case rel => exact ⟨k + 1, q, tb, by omega, by omega, by go_num, rfl, by rw [HM2.out]; exact HTB.out, HQL.out, HO.out, HB.out, by rw [HM2.out]; exact HN.out, HQP.out⟩
        case measure => simp [intOf]; omega
    · have HTK := Lib.hid (HEND2.out q f k tb HQL.out hnb (by omega) hk HTB.out HN.out)
      have HY := Lib.hid (Bytes.of_own HO.out)
      by_cases h32 : k < 32
      all_goals
        have h8i : k < 32 → ¬ (f : Int) + k < 8 * n := by omega
        clear hin
        cases tb with
        | true =>
          have HDN := Lib.hid (decI_bad (by have := HTK.out; rw [if_pos rfl] at this; exact this))
          go_wp2_with fail
          refine (decode_any _ _ _ _ (hd ++ q) _ HY.out (Nat.le_refl _)).mono ?_
          intro e w5 h5
          rw [HDN.out] at h5
          obtain ⟨A5, n5, c5, rfl, hb5⟩ := decI_none h5
          have HB5 := Lib.hid (held_two HB.out hb5)
          clear hb5 h5
          go_wp2
          go_ret
          exact ⟨rfl, HB5.out⟩
        | false =>
          have HQE := Lib.hid (HQP.out rfl)
          go_wp2_with fail
          refine (decode_any _ _ _ _ (hd ++ q) _ HY.out (Nat.le_refl _)).mono ?_
          intro e w5 h5
          rw [HQE.out, HDE.out] at h5
          obtain ⟨A5, n5, c5, rfl, hy5, hb5⟩ := decI_some h5
          have HB5 := Lib.hid (held_two HB.out hb5)
          clear hb5 h5 hy5
          go_wp2
          go_ret
          exact ⟨rfl, HB5.out⟩
end Go.Proofs.Ytjicdnknlfpajaa.Img
