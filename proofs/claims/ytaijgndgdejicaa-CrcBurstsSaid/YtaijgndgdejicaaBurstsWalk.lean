/-
  The walk of the law on bursts: whatever bytes, whatever place and pattern of at most 32 bits, the sums are unlike just where a bit was turned; it writes nothing that was there.
-/
import Derived.Test.YtaijgndgdejicaaOwn
import Derived.IntWalk
namespace Go.Proofs.Ytaijgndgdejicaa.Crc
open Go.RowKit

theorem from_val (at_ : Int) (n : Nat) (hpos : 0 < n) (hn : n ≤ 4000) : ∃ f : Nat, f < 8 * n ∧ wrap64 ((IntKind.u64.wrap at_).tmod (8 * ↑n)) = (f : Int) := by
  have hw : IntKind.u64.wrap at_ = at_ % 18446744073709551616 := by simp [IntKind.wrap, IntKind.bits, IntKind.signed]
  have h0 : 0 ≤ at_ % 18446744073709551616 := Int.emod_nonneg _ (by omega)
  rw [hw, Int.tmod_eq_emod_of_nonneg h0]
  generalize at_ % 18446744073709551616 = y at h0
  have h1 : 0 ≤ y % (8 * (n : Int)) := Int.emod_nonneg _ (by omega)
  have h2 : y % (8 * (n : Int)) < 8 * n := Int.emod_lt_of_pos _ (by omega)
  generalize y % (8 * (n : Int)) = z at h1 h2
  refine ⟨z.toNat, by omega, ?_⟩
  rw [IntWalk.wrap64_in z (by omega)]
  omega

/-! ### bits of the pattern -/
theorem mod_succ_one {x k : Nat} (h : x / 2 ^ k % 2 = 1) : x % 2 ^ (k + 1) = (x % 2 ^ k) ^^^ 2 ^ k := by
  apply Nat.eq_of_testBit_eq
  intro i
  rw [Nat.testBit_xor, Nat.testBit_mod_two_pow, Nat.testBit_mod_two_pow, Nat.testBit_two_pow]
  by_cases hi : i = k
  · subst hi
    have : x.testBit i = true := by rw [Nat.testBit_eq_decide_div_mod_eq, h]; rfl
    simp [this]
  · by_cases h1 : i < k
    · have : i < k + 1 := by omega
      have h2 : ¬ k = i := by omega
      simp [h1, this, h2]
    · have : ¬ i < k + 1 := by omega
      have h2 : ¬ k = i := by omega
      simp [h1, this, h2]
theorem mod_succ_zero {x k : Nat} (h : x / 2 ^ k % 2 = 0) : x % 2 ^ (k + 1) = x % 2 ^ k := by
  apply Nat.eq_of_testBit_eq
  intro i
  rw [Nat.testBit_mod_two_pow, Nat.testBit_mod_two_pow]
  by_cases hi : i = k
  · subst hi
    have : x.testBit i = false := by rw [Nat.testBit_eq_decide_div_mod_eq, h]; rfl
    simp [this]
  · by_cases h1 : i < k
    · have : i < k + 1 := by omega
      simp [h1, this]
    · have : ¬ i < k + 1 := by omega
      simp [h1, this]
theorem quo_nat {bs : Int} (h0 : 0 ≤ bs) (k : Nat) : bs / 2 ^ k = ((bs.toNat / 2 ^ k : Nat) : Int) := by
  rw [Int.natCast_ediv, Int.natCast_pow, Int.toNat_of_nonneg h0]
  rfl
theorem mul_xor (f a b : Nat) : 2 ^ f * (a ^^^ b) = 2 ^ f * a ^^^ 2 ^ f * b := by
  rw [Nat.mul_comm _ (a ^^^ b), Nat.mul_comm _ a, Nat.mul_comm _ b, ← Nat.shiftLeft_eq, ← Nat.shiftLeft_eq, ← Nat.shiftLeft_eq, Nat.shiftLeft_xor_distrib]
theorem pow_small {j : Nat} (h : j < 8) : ((2 : Int) ^ j % 256) = ((2 ^ j : Nat) : Int) ∧ 2 ^ j < 256 := by
  match j, h with
  | 0, _ => exact ⟨by decide, by decide⟩
  | 1, _ => exact ⟨by decide, by decide⟩
  | 2, _ => exact ⟨by decide, by decide⟩
  | 3, _ => exact ⟨by decide, by decide⟩
  | 4, _ => exact ⟨by decide, by decide⟩
  | 5, _ => exact ⟨by decide, by decide⟩
  | 6, _ => exact ⟨by decide, by decide⟩
  | 7, _ => exact ⟨by decide, by decide⟩
theorem turn_set {ys : List Int} {i j : Nat} {z : Int} (hil : i < ys.length) (hz : ys.getD i 0 = z) (hy : bytesB ys) (hj : j < 8) :
    bytesB (ys.set i (bits .xor .u8 z (2 ^ j % 256))) ∧ num ((ys.set i (bits .xor .u8 z (2 ^ j % 256))).map Int.toNat) = num (ys.map Int.toNat) ^^^ 2 ^ (8 * i + j) := by
  have hg : ys.getD i 0 = ys[i] := by rw [List.getD_eq_getElem?_getD, List.getElem?_eq_getElem hil]; rfl
  have hzb := hy ys[i] (List.getElem_mem hil)
  rw [← hg, hz] at hzb
  have hp := pow_small hj
  have hu : bits .xor .u8 z (2 ^ j % 256) = ((z.toNat ^^^ 2 ^ j : Nat) : Int) := by
    rw [hp.1, u8_xor z _ hzb.1 hzb.2 (by omega) (by omega), Int.toNat_natCast]
  have hlt : z.toNat ^^^ 2 ^ j < 256 := Nat.xor_lt_two_pow (n := 8) (by omega) hp.2
  rw [hu]
  constructor
  · intro x hx
    rcases List.mem_or_eq_of_mem_set hx with h | h
    · exact hy x h
    · subst h; omega
  · rw [List.map_set, Int.toNat_natCast]
    have hz2 : (ys.map Int.toNat).getD i 0 = z.toNat := by
      rw [← hz, hg, List.getD_eq_getElem?_getD, List.getElem?_map, List.getElem?_eq_getElem hil]; rfl
    rw [← hz2, num_set _ i (2 ^ j) (by rw [List.length_map]; exact hil), Nat.pow_add]

def BurstRel (w : World) (base n : Nat) (zs : List Int) (f : Nat) (bs : Int) (g c2 : Nat) (t i : Value) (wr : World) : Prop :=
  ∃ (k : Nat) (ys : List Int) (tb : Bool), k ≤ 32 ∧ f + k ≤ 8 * n ∧ i = .int .i64 k ∧ t = .bool tb ∧ tb = decide (bs.toNat % 2 ^ k ≠ 0) ∧ bytesB ys ∧ wr.ownsRow base 5 1 (.slice (some ⟨g, 0, none⟩) n c2) n (vals ys) ∧ Below base w wr ∧
    num (ys.map Int.toNat) = num (zs.map Int.toNat) ^^^ (2 ^ f * (bs.toNat % 2 ^ k))

/-- what the law compares, at the end -/
theorem burst_end {zs ys : List Int} {f k : Nat} {bs : Int} {tb : Bool} (hlen : ys.length = zs.length) (hz : bytesB zs) (hy : bytesB ys) (hf : f ≤ 8 * zs.length) (hk : k ≤ 32) (htb : tb = decide (bs.toNat % 2 ^ k ≠ 0))
    (hn : num (ys.map Int.toNat) = num (zs.map Int.toNat) ^^^ (2 ^ f * (bs.toNat % 2 ^ k))) : (moreZ 0 zs != moreZ 0 ys) = tb := by
  have he : bs.toNat % 2 ^ k < 4294967296 := by
    have h1 : bs.toNat % 2 ^ k < 2 ^ k := Nat.mod_lt _ (Nat.pow_pos (by omega))
    have h2 : 2 ^ k ≤ 2 ^ 32 := Nat.pow_le_pow_right (by omega) hk
    omega
  have hb := burst (ntZ 0).toNat (zs.map Int.toNat) (ys.map Int.toNat) _ f (by rw [List.length_map, List.length_map, hlen]) hn (by rw [List.length_map]; exact hf) he
  have hnt := ntZ_bd (c := 0) (by omega) (by omega)
  have hz1 := morZ_bd zs hnt.1 hnt.2 hz
  have hy1 := morZ_bd ys hnt.1 hnt.2 hy
  have hiff : moreZ 0 zs = moreZ 0 ys ↔ bs.toNat % 2 ^ k = 0 := by
    rw [← hb]
    constructor
    · intro h
      have := ntZ_inj hz1.1 hz1.2 hy1.1 hy1.2 h
      unfold morZ at this
      omega
    · intro h
      unfold moreZ morZ
      rw [h]
  rw [htb, Bool.eq_iff_iff]
  simp [hiff]

set_option maxHeartbeats 1000000 in
theorem bursts_walk (A : Option Addr) (n cap : Nat) (zs : List Int) (at_ bs : Int) (w : World) (hr : Row8 w A n zs) (_ha0 : -9223372036854775808 ≤ at_) (_ha1 : at_ ≤ 9223372036854775807) (hb0 : 0 ≤ bs) (hb1 : bs < 4294967296) :
    Calls Try.prog 6 #[.slice A n cap, .int .i64 at_, .int .u32 bs] w fun e w' => e = .returned (.bool true) ∧ Below w.heap.size w w' := by
  have hn := hr.2.1
  have HR := Lib.hid hr
  clear hr
  by_cases hz : n = 0
  · subst hz
    go_enter Try.func6, Try.ntmps6
    go_wp2_with (go_at_call 7; refine (awake_any _).mono ?_; rintro e w1 ⟨rfl, hb⟩; have HB := Lib.hid hb; clear hb)
    go_ret
    exact ⟨rfl, HB.out⟩
  · have hpos : 0 < n := by omega
    have hne : ((n : Int) == 0) = false := by simp; omega
    clear hz
    by_cases hbig : 4000 < n
    · go_enter Try.func6, Try.ntmps6
      go_wp2_with (go_at_call 7; refine (awake_any _).mono ?_; rintro e w1 ⟨rfl, hb⟩; have HB := Lib.hid hb; clear hb)
      go_ret
      exact ⟨rfl, HB.out⟩
    · have hn2 : n ≤ 4000 := by omega
      clear hbig hn
      obtain ⟨f, hf, hfe⟩ := from_val at_ n hpos hn2
      go_enter Try.func6, Try.ntmps6
      go_wp2_with (first
        | (at_builtin
           refine wpList_append_row rfl (.tmp 20) (.tmp 21) rfl w.heap.size _ 0 [] rfl (World.ownsRow_lit w #[] 0 (Nat.le_refl _) (by unfold maxLen; omega) rfl) A n cap zs rfl (HR.out.alloc _) (by omega) (by simp) ?_
           intro A2 c2 w2 hown2 hb2
           rw [Nat.zero_add, List.nil_append] at hown2
           obtain ⟨g, rfl⟩ : ∃ g, A2 = some ⟨g, 0, none⟩ := by
             rcases hown2.2 with ⟨_, h⟩ | ⟨g, cap, cur, h, _⟩
             · omega
             · simp only [Value.slice.injEq] at h
               exact ⟨g, h.1⟩
           have HO2 := Lib.hid hown2
           have HB2 := Lib.hid hb2
           clear hown2 hb2))
      rw [hfe]
      clear hfe
      go_loopw [9, 10] (fun t i wr => BurstRel w w.heap.size n zs f bs g c2 t i wr) (fun _ i _ => 32 - (intOf i).toNat)
      case atStart =>
        exact ⟨0, zs, false, by omega, by omega, rfl, rfl, by simp [Nat.mod_one], HR.out.2.2.1, HO2.out, ((Below.refl _ _).alloc (Nat.le_refl _) _).trans HB2.out, by rw [Nat.pow_zero, Nat.mod_one, Nat.mul_zero, Nat.xor_zero]⟩
      case round =>
        obtain ⟨k, ys, tb, hk, hfk, rfl, rfl, htb, hby, hown, hbel, hnum⟩ := hrel
        have HT := Lib.hid htb
        have HY := Lib.hid hby
        have HO := Lib.hid hown
        have HB := Lib.hid hbel
        have HN := Lib.hid hnum
        clear htb hby hown hbel hnum
        by_cases hin : k < 32 ∧ f + k < 8 * n
        · obtain ⟨h32, h8⟩ := hin
          have h8i : (f : Int) + k < 8 * n := by omega
          have hq := quo_nat hb0 k
          have hq0 : 0 ≤ bs / 2 ^ k := by rw [hq]; exact Int.natCast_nonneg _
          have hq1 : bs / 2 ^ k < 4294967296 := by
            have := Nat.div_le_self bs.toNat (2 ^ k)
            rw [hq]; omega
          have hand := and_one hq0 hq1
          by_cases hodd : (bs / 2 ^ k) % 2 = 1
          · have ht : (bits .and .u32 (bs / 2 ^ k) 1 == 1) = true := by rw [hand, hodd]; rfl
            have HM := Lib.hid (mod_succ_one (x := bs.toNat) (k := k) (by rw [hq] at hodd; omega))
            clear hand hodd hq0 hq1 hq
            have hil : (f + k) / 8 < ys.length := by have := HO.out.1; rw [vals_length] at this; omega
            have hcell : wr.cell? ⟨g, (f + k) / 8, none⟩ = some (.int .u8 (ys.getD ((f + k) / 8) 0)) := by rw [HO.out.cellAt _ (by omega), vals_get ys _ hil]
            have hfro := HO.out.frozenAt ((f + k) / 8)
            generalize hzz : ys.getD ((f + k) / 8) 0 = z at hcell
            have HZ := Lib.hid hzz
            clear hzz
            go_wp2
            go_roundw
            case rel =>
              have hts := turn_set hil HZ.out HY.out (Nat.mod_lt (f + k) (by omega : 0 < 8))
              rw [show 8 * ((f + k) / 8) + (f + k) % 8 = f + k from by omega] at hts
              have hst := HO.out.stored ((f + k) / 8) (.int .u8 (bits .xor .u8 z (2 ^ ((f + k) % 8) % 256)))
              refine ⟨k + 1, _, true, by omega, by omega, by go_num, rfl, ?_, hts.1, ?_, ?_, ?_⟩
              · rw [HM.out]
                symm
                rw [decide_eq_true_iff]
                intro h0
                have h1 := congrArg (fun m => m ^^^ 2 ^ k) h0
                simp only [Nat.xor_assoc, Nat.xor_self, Nat.xor_zero, Nat.zero_xor] at h1
                have h2 : bs.toNat % 2 ^ k < 2 ^ k := Nat.mod_lt _ (Nat.pow_pos (by omega))
                omega
              · have := hst.1
                rw [vals, ← List.map_set] at this
                exact this
              · exact HB.out.grown hst.2 HB.out.size (fun q hq => (HO.out.lt q hq).1)
              · rw [hts.2, HN.out, HM.out, mul_xor, Nat.xor_assoc, Nat.pow_add]
            case measure => simp [intOf]; omega
          · have hev : (bs / 2 ^ k) % 2 = 0 := by omega
            have ht : (bits .and .u32 (bs / 2 ^ k) 1 == 1) = false := by rw [hand, hev]; rfl
            have HM := Lib.hid (mod_succ_zero (x := bs.toNat) (k := k) (by rw [hq] at hev; omega))
            clear hand hodd hev hq0 hq1 hq
            go_wp2
            go_roundw
            case rel => exact ⟨k + 1, ys, tb, by omega, by omega, by go_num, rfl, by rw [HM.out]; exact HT.out, HY.out, HO.out, HB.out, by rw [HM.out]; exact HN.out⟩
            case measure => simp [intOf]; omega
        · have hlen : ys.length = zs.length := by have h1 := HO.out.1; have h2 := HR.out.1; rw [vals_length] at h1; omega
          have HE := Lib.hid (burst_end hlen HR.out.2.2.1 HY.out (by have := HR.out.1; omega) hk HT.out HN.out)
          clear hlen
          have HYR := Lib.hid (Row8.own HO.out HY.out)
          have E1 := Lib.hid (show moreZ 0 [zs].flatten = moreZ 0 zs by simp)
          have E2 := Lib.hid (show moreZ 0 [ys].flatten = moreZ 0 ys by simp)
          generalize moreZ 0 zs = x at HE E1
          generalize moreZ 0 ys = y at HE E2
          have hxy := HE.out
          by_cases h32 : k < 32
          all_goals
            have h8i : k < 32 → ¬ (f : Int) + k < 8 * n := by omega
            clear hin
            go_wp2_with fail
            refine (awake_any _).mono ?_
            rintro e w1 ⟨rfl, hb⟩
            have HB1 := Lib.hid hb
            clear hb
            have R0 := Lib.hid (HR.out.below (HB.out.trans (HB1.out.mono HB.out.size)) (Nat.le_refl _))
            have R1 := Lib.hid (HYR.out.below HB1.out (Nat.le_refl _))
            go_wp2_with fail
            refine (sum_val _ _ _ _ _ x (Parts.one R0.out _ rfl) E1.out).mono ?_
            rintro e w2 ⟨rfl, rfl⟩
            go_wp2_with fail
            refine (sum_val _ _ _ _ _ y (Parts.one (R1.out.alloc _) _ (by simp)) E2.out).mono ?_
            rintro e w2 ⟨rfl, rfl⟩
            go_wp2
            go_ret
            have hs := HB.out.size
            have hs1 := HB1.out.size
            exact ⟨rfl, ((HB.out.trans (HB1.out.mono hs)).alloc (by omega) _).alloc (by simp; omega) _⟩
end Go.Proofs.Ytaijgndgdejicaa.Crc
