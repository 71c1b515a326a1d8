/-
  Contracts of the functions of package crc and of the document's own answer (qanatref01), over rows of bytes that may be nil: each returns the plain mathematics' number and leaves the world as it was.
-/
import Derived.Test.YtedfddnbgljcjaaGreatRows
import Derived.Test.YtedfddnbgljcjaaGreatMaths
import Derived.WalkKit
import Derived.Outline
import Derived.Below
import Derived.Lib.Hide
namespace Go.Proofs.YtedfddnbgljcjaaGreat.Crc
set_option maxRecDepth 100000
open Go.RowKit

/-- A slice of bytes that reads as the list zs (nil, empty or not). -/
def Row8 (w : World) (A : Option Addr) (n : Nat) (zs : List Int) : Prop :=
  zs.length = n ∧ n ≤ 9223372036854775807 ∧ bytesB zs ∧
    (0 < n → ∃ b off, A = some ⟨b, off, none⟩ ∧ b < w.heap.size ∧ ∀ j, j < n → w.cell? ⟨b, off + j, none⟩ = some (.int .u8 (zs.getD j 0)))

theorem Row8.none_ (w : World) (A : Option Addr) : Row8 w A 0 [] := ⟨rfl, by omega, by intro x hx; simp at hx, fun h => absurd h (by omega)⟩
theorem Row8.at_ {w : World} {A : Option Addr} {n k : Nat} {zs : List Int} (h : Row8 w A n zs) (hk : k < n) :
    ∃ b off z, A = some ⟨b, off, none⟩ ∧ w.cell? ⟨b, off + k, none⟩ = some (.int .u8 z) ∧ 0 ≤ z ∧ z < 256 ∧ zs.take (k + 1) = zs.take k ++ [z] := by
  obtain ⟨hl, _, hb, hc⟩ := h
  obtain ⟨b, off, hA, _, hcell⟩ := hc (by omega)
  have hkl : k < zs.length := by omega
  have hm := hb (zs[k]) (List.getElem_mem hkl)
  refine ⟨b, off, zs[k], hA, ?_, hm.1, hm.2, List.take_succ_eq_append_getElem hkl⟩
  rw [hcell k hk, List.getD_eq_getElem?_getD, List.getElem?_eq_getElem hkl]
  rfl
theorem Row8.take_bytes {w : World} {A : Option Addr} {n : Nat} {zs : List Int} (h : Row8 w A n zs) (k : Nat) : bytesB (zs.take k) :=
  fun x hx => h.2.2.1 x (List.mem_of_mem_take hx)
theorem Row8.below {w w' : World} {B : Nat} {A : Option Addr} {n : Nat} {zs : List Int} (h : Row8 w A n zs) (hb : Below B w w') (hB : w.heap.size ≤ B) : Row8 w' A n zs := by
  obtain ⟨hl, hm, hy, hc⟩ := h
  refine ⟨hl, hm, hy, fun hn => ?_⟩
  obtain ⟨b, off, hA, hlt, hcell⟩ := hc hn
  refine ⟨b, off, hA, ?_, fun j hj => ?_⟩
  · have := hb.size; omega
  · rw [hb.cell (p := ⟨b, off + j, none⟩) (by show b < B; omega)]; exact hcell j hj

theorem ret_int {k : IntKind} {a b : Int} (h : a = b) : Ending.returned (.int k a) = .returned (.int k b) := by rw [h]

set_option maxHeartbeats 400000 in
theorem eight_any (c : Int) (w : World) (h0 : 0 ≤ c) (h1 : c < 4294967296) :
    Calls Tryz.prog 126 #[.int .u32 c] w fun e w' => e = .returned (.int .u32 (itZ 8 c)) ∧ w = w' := by
  go_enter Tryz.func126, Tryz.ntmps126
  go_wp2
  go_loop [0, 3] (fun c' i => ∃ (k : Nat) (x : Int), k ≤ 8 ∧ i = .int .i64 k ∧ c' = .int .u32 x ∧ 0 ≤ x ∧ x < 4294967296 ∧ x = itZ k c) (fun _ i => 8 - (intOf i).toNat)
  case atStart => exact ⟨0, c, by omega, rfl, rfl, h0, h1, (itZ_zero h0).symm⟩
  case round =>
    obtain ⟨k, x, hk, rfl, rfl, hx0, hx1, hx⟩ := hrel
    have HX := Lib.hid hx
    clear hx
    by_cases hlt : k < 8
    · go_wp2
      go_round
      case rel =>
        have hb := stZ_bd hx0 hx1
        exact ⟨k + 1, stZ x, by omega, by go_num, by rw [step_text hx0 hx1], hb.1, hb.2, by rw [itZ_succ, ← HX.out]⟩
      case measure => simp [intOf]; omega
    · go_wp2
      go_ret
      have hk8 : k = 8 := by omega
      subst hk8
      exact ⟨ret_int HX.out, rfl⟩

set_option maxHeartbeats 400000 in
theorem more_any (s : Int) (A : Option Addr) (n cap : Nat) (zs : List Int) (w : World) (h0 : 0 ≤ s) (h1 : s < 4294967296) (hr : Row8 w A n zs) :
    Calls Tryz.prog 117 #[.int .u32 s, .slice A n cap] w fun e w' => e = .returned (.int .u32 (moreZ s zs)) ∧ w = w' := by
  have hn := hr.2.1
  have HR := Lib.hid hr
  clear hr
  have hnt := ntZ_bd h0 h1
  have HN := Lib.hid hnt
  clear hnt
  go_enter Tryz.func117, Tryz.ntmps117
  go_wp2
  go_loop [5, 12] (fun c' i => ∃ (k : Nat) (x : Int), k ≤ n ∧ i = .int .i64 k ∧ c' = .int .u32 x ∧ 0 ≤ x ∧ x < 4294967296 ∧ x = morZ (ntZ s) (zs.take k)) (fun _ i => n - (intOf i).toNat)
  case atStart => exact ⟨0, _, by omega, rfl, rfl, HN.out.1, HN.out.2, by rw [List.take_zero, morZ_nil HN.out.1]; rfl⟩
  case round =>
    obtain ⟨k, x, hk, rfl, rfl, hx0, hx1, hx⟩ := hrel
    have HX := Lib.hid hx
    clear hx
    by_cases hlt : k < n
    · obtain ⟨b, off, z, rfl, hcell, hz0, hz1, ht⟩ := HR.out.at_ hlt
      have HT := Lib.hid ht
      clear ht
      have hxb := xorZ_bd hx0 hx1 hz0 (by omega : z < 4294967296)
      obtain ⟨hxb0, hxb1⟩ := hxb
      go_wp2_with (go_at_call 126; refine (eight_any _ _ hxb0 hxb1).mono ?_; rintro e w' ⟨rfl, rfl⟩)
      go_round
      case rel =>
        have hb := itZ_bd 8 hxb0 hxb1
        refine ⟨k + 1, _, by omega, by go_num, rfl, hb.1, hb.2, ?_⟩
        rw [HT.out, morZ_snoc _ _ _ (by rw [← HX.out]; exact hx0) (by rw [← HX.out]; exact hx1) ⟨hz0, hz1⟩, ← HX.out]
      case measure => simp [intOf]; omega
    · go_wp2
      go_ret
      refine ⟨ret_int ?_, rfl⟩
      have hz : zs.take k = zs := List.take_of_length_le (by have := HR.out.1; omega)
      rw [hz] at HX
      show ntZ x = moreZ s zs
      rw [HX.out]
      rfl

set_option maxRecDepth 100000 in
set_option maxHeartbeats 400000 in
theorem refmore_any (s : Int) (A : Option Addr) (n cap : Nat) (zs : List Int) (w : World) (h0 : 0 ≤ s) (h1 : s < 4294967296) (hr : Row8 w A n zs) :
    Calls Tryz.prog 76 #[.int .u32 s, .slice A n cap] w fun e w' => e = .returned (.int .u32 (moreZ s zs)) ∧ w = w' := by
  have hn := hr.2.1
  have HR := Lib.hid hr
  clear hr
  have hnt := ntZ_bd h0 h1
  have HN := Lib.hid hnt
  clear hnt
  go_enter Tryz.func76, Tryz.ntmps76
  go_wp2
  go_loop [5, 6, 7, 8] (fun c' i _ _ => ∃ (k : Nat) (x : Int), k ≤ n ∧ i = .int .i64 k ∧ c' = .int .u32 x ∧ 0 ≤ x ∧ x < 4294967296 ∧ x = morZ (ntZ s) (zs.take k)) (fun _ i _ _ => n - (intOf i).toNat)
  case atStart => exact ⟨0, _, by omega, rfl, rfl, HN.out.1, HN.out.2, by rw [List.take_zero, morZ_nil HN.out.1]; rfl⟩
  case round =>
    obtain ⟨k, x, hk, rfl, rfl, hx0, hx1, hx⟩ := hrel
    have HX := Lib.hid hx
    clear hx
    by_cases hlt : k < n
    · obtain ⟨b, off, z, rfl, hcell, hz0, hz1, ht⟩ := HR.out.at_ hlt
      have HT := Lib.hid ht
      clear ht
      have hxb := xorZ_bd hx0 hx1 hz0 (by omega : z < 4294967296)
      have HB0 := Lib.hid hxb
      clear hxb
      go_wp2
      go_loop [5, 7, 8] (fun c' i _ => ∃ (j : Nat) (y : Int), j ≤ 8 ∧ i = .int .i64 j ∧ c' = .int .u32 y ∧ 0 ≤ y ∧ y < 4294967296 ∧ y = itZ j (bits .xor .u32 x z)) (fun _ i _ => 8 - (intOf i).toNat)
      case atStart => exact ⟨0, _, by omega, rfl, rfl, HB0.out.1, HB0.out.2, (itZ_zero HB0.out.1).symm⟩
      case round =>
        obtain ⟨j, y, hj, rfl, rfl, hy0, hy1, hy⟩ := hrel
        have HY := Lib.hid hy
        clear hy
        have hand := and_one hy0 hy1
        by_cases hjl : j < 8
        · have hb := stZ_bd hy0 hy1
          by_cases hodd : y % 2 = 1
          · have ht : (bits .and .u32 y 1 == 1) = true := by rw [hand, hodd]; rfl
            have HO := Lib.hid hodd
            have HB := Lib.hid hb
            clear hodd hand hb
            go_wp2
            go_round
            case rel => exact ⟨j + 1, stZ y, by omega, by go_num, by rw [step_odd hy0 hy1 HO.out], HB.out.1, HB.out.2, by rw [itZ_succ, ← HY.out]⟩
            case measure => simp [intOf]; omega
          · have hev : y % 2 = 0 := by omega
            have ht : (bits .and .u32 y 1 == 1) = false := by rw [hand, hev]; rfl
            have HO := Lib.hid hev
            have HB := Lib.hid hb
            clear hodd hev hand hb
            go_wp2
            go_round
            case rel => exact ⟨j + 1, stZ y, by omega, by go_num, by rw [step_even hy0 HO.out], HB.out.1, HB.out.2, by rw [itZ_succ, ← HY.out]⟩
            case measure => simp [intOf]; omega
        · clear hand
          go_wp2
          go_round
          case rel =>
            have hj8 : j = 8 := by omega
            subst hj8
            refine ⟨k + 1, _, by omega, by go_num, rfl, hy0, hy1, ?_⟩
            rw [HT.out, morZ_snoc _ _ _ (by rw [← HX.out]; exact hx0) (by rw [← HX.out]; exact hx1) ⟨hz0, hz1⟩, ← HX.out, HY.out]
          case measure => simp [intOf]; omega
    · go_wp2
      go_ret
      refine ⟨ret_int ?_, rfl⟩
      have hz : zs.take k = zs := List.take_of_length_le (by have := HR.out.1; omega)
      rw [hz] at HX
      show ntZ x = moreZ s zs
      rw [HX.out]
      rfl

theorem refsum_any (A : Option Addr) (n cap : Nat) (zs : List Int) (w : World) (hr : Row8 w A n zs) :
    Calls Tryz.prog 77 #[.slice A n cap] w fun e w' => e = .returned (.int .u32 (moreZ 0 zs)) ∧ w = w' := by
  have HR := Lib.hid hr
  clear hr
  go_enter Tryz.func77, Tryz.ntmps77
  go_wp2_with (go_at_call 76; refine (refmore_any _ _ _ _ zs _ (by omega) (by omega) HR.out).mono ?_; rintro e w' ⟨rfl, rfl⟩)
  go_ret
  exact ⟨rfl, rfl⟩
end Go.Proofs.YtedfddnbgljcjaaGreat.Crc
