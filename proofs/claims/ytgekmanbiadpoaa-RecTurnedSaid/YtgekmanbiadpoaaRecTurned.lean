/-
  The walk of the law on records of which bits are turned: they are told by the sum.
-/
import Derived.Test.YtgekmanbiadpoaaRecAwake
import Derived.Test.YtgekmanbiadpoaaPlayMod
import Derived.Test.YtgekmanbiadpoaaCrcBits
import Derived.OpenShut
namespace Go.Proofs.Ytgekmanbiadpoaa.Rec
open Go.RowKit Base FieldMath RecMath
open Go.Proofs.Ytgekmanbiadpoaa.Field Help
set_option linter.ambiguousOpen false

theorem turn8 {q : List UInt8} {i j : Nat} {z : UInt8} (hz : q[i]? = some z) (hj : j < 8) :
    bits .xor .u8 (z.toNat : Int) (2 ^ j % 256) = (((z ^^^ UInt8.ofNat (2 ^ j)).toNat : Nat) : Int) ∧ Crc.num ((q.set i (z ^^^ UInt8.ofNat (2 ^ j))).map UInt8.toNat) = Crc.num (q.map UInt8.toNat) ^^^ 2 ^ (8 * i + j) := by
  have hp := Crc.pow_small hj
  have hzl := z.toNat_lt
  have hi : i < q.length := by
    rcases Nat.lt_or_ge i q.length with h | h
    · exact h
    · rw [List.getElem?_eq_none h] at hz; cases hz
  have ht : (z ^^^ UInt8.ofNat (2 ^ j)).toNat = z.toNat ^^^ 2 ^ j := by
    rw [UInt8.toNat_xor, UInt8.toNat_ofNat']
    show _ ^^^ (2 ^ j % 256) = _
    rw [Nat.mod_eq_of_lt hp.2]
  constructor
  · rw [hp.1, u8_xor _ _ (by omega) (by omega) (by omega) (by omega), Int.toNat_natCast, Int.toNat_natCast, ht]
  · rw [List.map_set, ht]
    have hg : (q.map UInt8.toNat).getD i 0 = z.toNat := by
      rw [List.getD_eq_getElem?_getD, List.getElem?_map, hz]; rfl
    rw [← hg, Crc.num_set _ i (2 ^ j) (by rw [List.length_map]; exact hi), Nat.pow_add]

theorem u32_bd {n : Int} (h : (Lit.int .u32 n).wf = true) : 0 ≤ n ∧ n < 4294967296 := by
  have := bounds_u32 h
  omega

def TurnRel (w : World) (n : Nat) (hd p : List UInt8) (f : Nat) (bs : Int) (g c : Nat) (t i : Value) (wr : World) : Prop :=
  ∃ (k : Nat) (q : List UInt8) (tb : Bool), k ≤ 32 ∧ f + k ≤ 8 * n ∧ i = .int .i64 k ∧ t = .bool tb ∧ tb = decide (bs.toNat % 2 ^ k ≠ 0) ∧ q.length = n ∧ wr.ownsRow w.heap.size 5 1 (.slice (some ⟨g, 0, none⟩) (8 + n) c) (8 + n) (bv (hd ++ q)) ∧ Below w.heap.size w wr ∧
    Crc.num (q.map UInt8.toNat) = Crc.num (p.map UInt8.toNat) ^^^ (2 ^ f * (bs.toNat % 2 ^ k))

/-- what Take says, at the end -/
theorem turned_end {n : Nat} {p q : List UInt8} {f k : Nat} {bs : Int} {tb : Bool} (hp : p.length = n) (hq : q.length = n) (hn : n ≤ 4000) (hf : f ≤ 8 * n) (hk : k ≤ 32) (htb : tb = decide (bs.toNat % 2 ^ k ≠ 0))
    (hnum : Crc.num (q.map UInt8.toNat) = Crc.num (p.map UInt8.toNat) ^^^ (2 ^ f * (bs.toNat % 2 ^ k))) :
    tk ((big n 4 ++ big (sum (big n 4 ++ p)) 4) ++ q) = if tb = true then .error 4 else .ok q := by
  have he : bs.toNat % 2 ^ k < 4294967296 := by
    have h1 : bs.toNat % 2 ^ k < 2 ^ k := Nat.mod_lt _ (Nat.pow_pos (by omega))
    have h2 : 2 ^ k ≤ 2 ^ 32 := Nat.pow_le_pow_right (by omega) hk
    omega
  have hb := burst_sum (big n 4) p q _ f (by omega) hnum (by omega) he
  have h1 := tk_parts (s := sum (big n 4 ++ p)) q [] hq (by omega) (sum_lt _)
  rw [List.append_nil] at h1
  rw [List.append_assoc, h1]
  subst htb
  by_cases h0 : bs.toNat % 2 ^ k = 0
  · rw [if_pos (hb.2 h0), if_neg (by simp [h0])]
  · rw [if_neg (fun h => h0 (hb.1 h)), if_pos (by simp [h0])]

set_option maxRecDepth 100000 in
set_option maxHeartbeats 1600000 in
theorem turned_walk (A : Option Addr) (n c : Nat) (p : List UInt8) (at_ bs : Int) (w : World) (hr : Bytes w w.heap.size A n c p) (hb0 : 0 ≤ bs) (hb1 : bs < 4294967296) :
    Calls Try.prog 6 #[.slice A n c, .int .i64 at_, .int .u32 bs] w fun e w' => e = .returned (.bool true) ∧ Below w.heap.size w w' := by
  have hle := hr.le
  by_cases hz : n = 0
  · subst hz
    clear hr
    go_enter Try.func6, Try.ntmps6
    go_wp2_with (go_at_call 12; refine (awake_any _).mono ?_; rintro e w1 ⟨rfl, hb⟩; have HB := Lib.hid hb; clear hb)
    go_ret
    exact ⟨rfl, HB.out⟩
  · have hpos : 0 < n := by omega
    have hne : ((n : Int) == 0) = false := by simp; omega
    clear hz
    by_cases hbig : 4000 < n
    · clear hr
      go_enter Try.func6, Try.ntmps6
      go_wp2_with (go_at_call 12; refine (awake_any _).mono ?_; rintro e w1 ⟨rfl, hb⟩; have HB := Lib.hid hb; clear hb)
      go_ret
      exact ⟨rfl, HB.out⟩
    · have hn : n ≤ 4000 := by omega
      clear hbig
      have hlen := hr.len
      have HL := Lib.hid hlen
      have HR := Lib.hid hr
      have HPUT := Lib.hid (show put p = .ok ((big n 4 ++ big (sum (big n 4 ++ p)) 4) ++ p) by unfold put; rw [if_neg (by omega), recB, hlen, List.append_assoc])
      have HRL := Lib.hid (show ((big n 4 ++ big (sum (big n 4 ++ p)) 4) ++ p).length = 8 + n by rw [List.length_append, List.length_append, big_length, big_length]; omega)
      have HEND := Lib.hid (fun (q : List UInt8) (f k : Nat) (tb : Bool) => @turned_end n p q f k bs tb hlen)
      have HHD := Lib.hid (show (big n 4 ++ big (sum (big n 4 ++ p)) 4).length = 8 by rw [List.length_append, big_length, big_length])
      clear hr hlen
      generalize big n 4 ++ big (sum (big n 4 ++ p)) 4 = hd at HPUT HRL HEND HHD
      go_enter Try.func6, Try.ntmps6
      go_wp2_with fail
      refine (put_val w.heap.size _ _ _ p _ (8 + n) _ HR.out (Nat.le_refl _) HPUT.out HRL.out).mono ?_
      rintro e w1 ⟨A1, c1, rfl, ho1, hbl1⟩
      have HB1 := Lib.hid hbl1
      obtain ⟨g, rfl⟩ : ∃ g, A1 = some ⟨g, 0, none⟩ := by
        rcases ho1.2 with ⟨_, h⟩ | ⟨g, cap, cur, h, _⟩
        · omega
        · simp only [Value.slice.injEq] at h
          exact ⟨g, h.1⟩
      have HO1 := Lib.hid ho1
      clear ho1 hbl1
      go_wp2_with fail
      refine (awake_any _).mono ?_
      rintro e w2 ⟨rfl, hbl2⟩
      have HB2 := Lib.hid (held_two HB1.out hbl2)
      have HO2 := Lib.hid (own_keep HO1.out hbl2)
      clear hbl2
      go_wp2_with fail
      refine (mod_any at_ (8 * n) _ (by omega) (by omega)).mono ?_
      rintro e w3 ⟨rfl, rfl⟩
      have hf := modZ_lt at_ (n := 8 * n) (by omega)
      generalize modZ at_ (8 * n) = f at hf
      go_wp2_with fail
      go_loopw [10, 11] (fun t i wr => TurnRel w n hd p f bs g c1 t i wr) (fun _ i _ => 32 - (intOf i).toNat)
      case atStart =>
        exact ⟨0, p, false, by omega, by omega, rfl, rfl, by simp [Nat.mod_one], HL.out, HO2.out, HB2.out, by rw [Nat.pow_zero, Nat.mod_one, Nat.mul_zero, Nat.xor_zero]⟩
      case round =>
        obtain ⟨k, q, tb, hk, hfk, rfl, rfl, htb, hql, hown, hbel, hnum⟩ := hrel
        have HT := Lib.hid htb
        have HO := Lib.hid hown
        have HB := Lib.hid hbel
        have HN := Lib.hid hnum
        have HQL := Lib.hid hql
        clear htb hown hbel hnum hql
        by_cases hin : k < 32 ∧ f + k < 8 * n
        · obtain ⟨h32, h8⟩ := hin
          have h8i : (f : Int) + k < 8 * n := by omega
          have hq := Crc.quo_nat hb0 k
          have hq0 : 0 ≤ bs / 2 ^ k := by rw [hq]; exact Int.natCast_nonneg _
          have hq1 : bs / 2 ^ k < 4294967296 := by
            have := Nat.div_le_self bs.toNat (2 ^ k)
            rw [hq]; omega
          have hand := Crc.and_one hq0 hq1
          by_cases hodd : (bs / 2 ^ k) % 2 = 1
          · have ht : (bits .and .u32 (bs / 2 ^ k) 1 == 1) = true := by rw [hand, hodd]; rfl
            have HM := Lib.hid (Crc.mod_succ_one (x := bs.toNat) (k := k) (by rw [hq] at hodd; omega))
            clear hand hodd hq0 hq1 hq
            obtain ⟨z, hz⟩ : ∃ z, q[(f + k) / 8]? = some z := ⟨_, List.getElem?_eq_getElem (by rw [HQL.out]; omega)⟩
            have hcell : wr.cell? ⟨g, 8 + (f + k) / 8, none⟩ = some (.int .u8 (z.toNat : Nat)) := by
              have h1 := HO.out.cellAt (8 + (f + k) / 8) (by omega)
              rw [bv, List.getElem?_map, List.getElem?_append_right (by rw [HHD.out]; omega), HHD.out, Nat.add_sub_cancel_left, hz] at h1
              exact h1
            have hfro := HO.out.frozenAt (8 + (f + k) / 8)
            have HTS := Lib.hid (turn8 hz (Nat.mod_lt (f + k) (by omega : 0 < 8)))
            have hzb : z.toNat < 256 := z.toNat_lt
            have HST := Lib.hid (HO.out.stored (8 + (f + k) / 8) (.int .u8 (((z ^^^ UInt8.ofNat (2 ^ ((f + k) % 8))).toNat : Nat) : Int)))
            clear hz
            go_wp2
            rw [HTS.out.1]
            go_roundw
            case rel =>
              have hst := HST.out
              have hnm := HTS.out.2
              rw [show 8 * ((f + k) / 8) + (f + k) % 8 = f + k from by omega] at hnm
              refine ⟨k + 1, q.set ((f + k) / 8) (z ^^^ UInt8.ofNat (2 ^ ((f + k) % 8))), true, by omega, by omega, by go_num, rfl, ?_, by rw [List.length_set]; exact HQL.out, ?_, ?_, ?_⟩
              · rw [HM.out]
                symm
                rw [decide_eq_true_iff]
                intro h0
                have h1 := congrArg (fun m => m ^^^ 2 ^ k) h0
                simp only [Nat.xor_assoc, Nat.xor_self, Nat.xor_zero, Nat.zero_xor] at h1
                have h2 : bs.toNat % 2 ^ k < 2 ^ k := Nat.mod_lt _ (Nat.pow_pos (by omega))
                omega
              · have h1 := hst.1
                rw [bv, ← List.map_set (f := fun b : UInt8 => Value.int .u8 (b.toNat : Int)), List.set_append_right _ _ (by rw [HHD.out]; omega), HHD.out, Nat.add_sub_cancel_left] at h1
                exact h1
              · exact HB.out.grown hst.2 HB.out.size (fun q hq => (HO.out.lt q hq).1)
              · rw [hnm, HN.out, HM.out, Crc.mul_xor, Nat.xor_assoc, Nat.pow_add]
            case measure => simp [intOf]; omega
          · have hev : (bs / 2 ^ k) % 2 = 0 := by omega
            have ht : (bits .and .u32 (bs / 2 ^ k) 1 == 1) = false := by rw [hand, hev]; rfl
            have HM := Lib.hid (Crc.mod_succ_zero (x := bs.toNat) (k := k) (by rw [hq] at hev; omega))
            clear hand hodd hev hq0 hq1 hq
            go_wp2
            go_roundw
            case rel => exact ⟨k + 1, q, tb, by omega, by omega, by go_num, rfl, by rw [HM.out]; exact HT.out, HQL.out, HO.out, HB.out, by rw [HM.out]; exact HN.out⟩
            case measure => simp [intOf]; omega
        · have HTK := Lib.hid (HEND.out q f k tb HQL.out hn (by omega) hk HT.out HN.out)
          have HY := Lib.hid (Bytes.of_own HO.out)
          have htk := HTK.out
          by_cases h32 : k < 32
          all_goals
            have h8i : k < 32 → ¬ (f : Int) + k < 8 * n := by omega
            clear hin
            cases tb with
            | true =>
              rw [if_pos rfl] at htk
              have HTB := Lib.hid htk
              clear htk
              go_wp2_with fail
              refine (take_bad _ _ _ _ _ 4 _ HY.out (Nat.le_refl _) HTB.out).mono ?_
              rintro e w5 ⟨A5, n5, c5, rfl, hb5⟩
              have HB5 := Lib.hid (held_two HB.out hb5)
              clear hb5
              go_wp2
              go_ret
              exact ⟨rfl, HB5.out⟩
            | false =>
              rw [if_neg (by simp)] at htk
              have HTB := Lib.hid htk
              clear htk
              go_wp2_with fail
              refine (take_val _ _ _ _ _ q n _ HY.out (Nat.le_refl _) HTB.out HQL.out).mono ?_
              rintro e w5 ⟨A5, c5, rfl, hy5, hb5⟩
              have HB5 := Lib.hid (held_two HB.out hb5)
              clear hb5 hy5
              go_wp2
              go_ret
              exact ⟨rfl, HB5.out⟩
end Go.Proofs.Ytgekmanbiadpoaa.Rec
