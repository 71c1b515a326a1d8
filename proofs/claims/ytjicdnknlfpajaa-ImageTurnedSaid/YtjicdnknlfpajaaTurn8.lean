/-
  Bits that are turned in a row of bytes: one of them, of no walk; what Take says at the end.
-/

import Derived.Test.YtjicdnknlfpajaaCrcBits
import Derived.Test.YtjicdnknlfpajaaRecTake
import Derived.OpenShut
namespace Go.Proofs.Ytjicdnknlfpajaa.Rec
set_option maxRecDepth 100000
open Go.RowKit Base FieldMath RecMath
open Go.Proofs.Ytjicdnknlfpajaa.Field
set_option linter.ambiguousOpen false

theorem turn8 {q : List UInt8} {i j : Nat} {z : UInt8} (hz : q[i]? = some z) (hj : j < 8) :
    bits .xor .u8 (z.toNat : Int) (2 ^ j % 256) = (((z ^^^ UInt8.ofNat (2 ^ j)).toNat : Nat) : Int) ∧ Crc.num ((q.set i (z ^^^ UInt8.ofNat (2 ^ j))).map UInt8.toNat) = Crc.num (q.map UInt8.toNat) ^^^ 2 ^ (8 * i + j) := by
  have hp := Crc.pow_small hj
  have hzl := z.toNat_lt
  have hi : i < q.length := by
    rcases Nat.lt_or_ge i q.length with h | h
    · exact h
    · rw [List.getElem?_eq_none h] at hz; cases hz
  have ht : (z ^^^ UInt8.ofNat (2 ^ j)).toNat = z.toNat ^^^ 2 ^ j := by
    rw [UInt8.toNat_xor, UInt8.toNat_ofNat']
    show _ ^^^ (2 ^ j % 256) = _
    rw [Nat.mod_eq_of_lt hp.2]
  constructor
  · rw [hp.1, u8_xor _ _ (by omega) (by omega) (by omega) (by omega), Int.toNat_natCast, Int.toNat_natCast, ht]
  · rw [List.map_set, ht]
    have hg : (q.map UInt8.toNat).getD i 0 = z.toNat := by
      rw [List.getD_eq_getElem?_getD, List.getElem?_map, hz]; rfl
    rw [← hg, Crc.num_set _ i (2 ^ j) (by rw [List.length_map]; exact hi), Nat.pow_add]

theorem u32_bd {n : Int} (h : (Lit.int .u32 n).wf = true) : 0 ≤ n ∧ n < 4294967296 := by
  have := bounds_u32 h
  omega

/-- what Take says, at the end -/
theorem turned_end {n : Nat} {p q : List UInt8} {f k : Nat} {bs : Int} {tb : Bool} (hp : p.length = n) (hq : q.length = n) (hn : n ≤ 1048576) (hf : f ≤ 8 * n) (hk : k ≤ 32) (htb : tb = decide (bs.toNat % 2 ^ k ≠ 0))
    (hnum : Crc.num (q.map UInt8.toNat) = Crc.num (p.map UInt8.toNat) ^^^ (2 ^ f * (bs.toNat % 2 ^ k))) :
    tk ((big n 4 ++ big (sum (big n 4 ++ p)) 4) ++ q) = if tb = true then .error 4 else .ok q := by
  have he : bs.toNat % 2 ^ k < 4294967296 := by
    have h1 : bs.toNat % 2 ^ k < 2 ^ k := Nat.mod_lt _ (Nat.pow_pos (by omega))
    have h2 : 2 ^ k ≤ 2 ^ 32 := Nat.pow_le_pow_right (by omega) hk
    omega
  have hb := burst_sum (big n 4) p q _ f (by omega) hnum (by omega) he
  have h1 := tk_parts (s := sum (big n 4 ++ p)) q [] hq (by omega) (sum_lt _)
  rw [List.append_nil] at h1
  rw [List.append_assoc, h1]
  subst htb
  by_cases h0 : bs.toNat % 2 ^ k = 0
  · rw [if_pos (hb.2 h0), if_neg (by simp [h0])]
  · rw [if_neg (fun h => h0 (hb.1 h)), if_pos (by simp [h0])]

end Go.Proofs.Ytjicdnknlfpajaa.Rec
