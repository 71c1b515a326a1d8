/-
  The walk of the law IndexLast: of each key the last row that was put is there.
-/
import Derived.Test.YtpklgbpgmeeeoaaIdxHelp
import Derived.Test.YtpklgbpgmeeeoaaIdxOpen
namespace Go.Proofs.Ytpklgbpgmeeeoaa.Idx
set_option linter.unusedVariables false
set_option maxRecDepth 100000
open Go.RowKit Base IdxMath Foot
open Go.Sort (grow)
set_option linter.ambiguousOpen false
set_option linter.unusedSimpArgs false

/-- the val that was put last -/
def lastV (l : List Rw) (k : Int) : ByteArray := (IdxMath.get l.reverse k).getD ⟨#[]⟩
theorem lastV_snoc (l : List Rw) (x : Rw) (k : Int) : lastV (l ++ [x]) k = if x.key = k then x.val else lastV l k := by
  unfold lastV
  rw [List.reverse_append, List.reverse_singleton, List.singleton_append, get_cons]
  split <;> rfl
theorem lastV_make (l : List Rw) (k : Int) : getV (make l) k = lastV l k := by unfold getV lastV; rw [get_make]
theorem get_mem {l : List Rw} {x : Rw} (h : x ∈ l) : (IdxMath.get l x.key).isSome = true := by
  unfold IdxMath.get
  rw [Option.isSome_map, List.find?_isSome]
  exact ⟨x, h, by simp⟩
def ValRel (l : List Rw) (key : Int) (n : Nat) (vk vv : Value) (w2 wr : World) : Prop := ∃ k : Nat, vk = .int .i64 k ∧ k ≤ n ∧ vv = .string (lastV (l.take k) key) ∧ Below w2.heap.size w2 wr
set_option maxHeartbeats 3200000 in
theorem last_walk (A : Option Addr) (n c : Nat) (l : List Rw) (w : World) (h : Rz w w.heap.size A n c l) :
    Calls Try.prog 5 #[.slice A n c] w fun e w' => e = .returned (.bool true) ∧ Below w.heap.size w w' := by
  have hle := h.1.le
  have HR := Lib.hid h
  have HL := Lib.hid h.1.len
  clear h
  by_cases h200 : 200 < n
  · go_enter Try.func5, Try.ntmps5
    go_wp2_with fail
    refine (awake_any _).mono ?_
    rintro e w1 ⟨rfl, hb⟩
    have HB := Lib.hid hb
    clear hb
    go_wp2
    go_ret
    exact ⟨rfl, HB.out⟩
  · have h200' : ¬ (200 : Int) < (n : Int) := by omega
    have h200'' : decide ((n : Int) > 200) = false := decide_eq_false (by omega)
    go_enter Try.func5, Try.ntmps5
    go_wp2_with fail
    refine (new_any _ _ n c l _ HR.out.1 (Nat.le_refl _) (by omega)).mono ?_
    intro e w1 h1
    obtain ⟨p, rfl, hx, hb⟩ := h1.at_
    have HX := Lib.hid hx
    have HB := Lib.hid hb
    clear h1 hx hb
    go_wp2
    go_loopw [4] (fun v wr => ∃ i : Nat, v = .int .i64 i ∧ i ≤ n ∧ Below w1.heap.size w1 wr) (fun v _ => n - (intOf v).toNat)
    case atStart => exact ⟨0, rfl, Nat.zero_le _, Below.refl _ _⟩
    case round =>
      obtain ⟨i, rfl, hin, hbr⟩ := hrel
      have HBR := Lib.hid hbr
      clear hbr
      by_cases hlt : i < n
      · obtain ⟨b, off, y, rfl, hbB, d0, d1, hy, _⟩ := (HR.out.1.below (HB.out.trans (HBR.out.mono HB.out.size))).at_ hlt
        have HY := Lib.hid hy
        have l1 : (i : Int) < (n : Int) := by omega
        clear hy
        go_wp2
        go_loopw [6, 5] (fun vk vv wx => ValRel l y.key n vk vv wr wx) (fun vk _ _ => n - (intOf vk).toNat)
        case atStart => exact ⟨0, rfl, Nat.zero_le _, rfl, Below.refl _ _⟩
        case round =>
          obtain ⟨k, rfl, hkn, rfl, hbx⟩ := hrel
          have HBX := Lib.hid hbx
          have HBA := Lib.hid (HB.out.trans ((HBR.out.trans (hbx.mono HBR.out.size)).mono HB.out.size))
          have d0x := (hbx.cell (World.block_lt_of_cell? _ _ d0)).trans d0
          have d1x := (hbx.cell (World.block_lt_of_cell? _ _ d1)).trans d1
          clear hbx
          by_cases hkl : k < n
          · obtain ⟨b', off', z, hA, hbB', e0, e1, hz, htz⟩ := (HR.out.1.below HBA.out).at_ hkl
            simp only [Option.some.injEq, Addr.mk.injEq, and_true] at hA
            obtain ⟨rfl, rfl⟩ := hA
            have HZ := Lib.hid (show lastV (l.take (k + 1)) y.key = if z.key = y.key then z.val else lastV (l.take k) y.key by rw [htz, lastV_snoc])
            have l2 : (k : Int) < (n : Int) := by omega
            clear hz htz
            by_cases hzy : z.key = y.key
            · have hz2 : (z.key == y.key) = true := by simpa using hzy
              have HZY := Lib.hid hzy
              clear hzy
              go_wp2_with fail
              go_quiet (fail)
              go_wp2
              go_roundw
              case rel => exact ⟨k + 1, by go_num, hkl, by rw [HZ.out, if_pos HZY.out], below_drewN HBX.out _⟩
              case measure => simp [intOf]; omega
            · have hz2 : (z.key == y.key) = false := by rw [beq_eq_false_iff_ne]; exact hzy
              have HZY := Lib.hid hzy
              clear hzy
              go_wp2_with fail
              go_quiet (fail)
              go_wp2
              go_roundw
              case rel => exact ⟨k + 1, by go_num, hkl, by rw [HZ.out, if_neg HZY.out], below_drewN HBX.out _⟩
              case measure => simp [intOf]; omega
          · obtain rfl : k = n := by omega
            have HV := Lib.hid (show lastV (l.take k) y.key = getV (make l) y.key by rw [lastV_make, ← HL.out, List.take_length])
            have HS := Lib.hid (show (IdxMath.get (make l) y.key).isSome = true by rw [get_make]; exact get_mem (List.mem_reverse.2 (List.mem_of_getElem? HY.out)))
            have HBW := Lib.hid (HBR.out.trans (HBX.out.mono HBR.out.size))
            have HXX := Lib.hid (HX.out.new HBW.out)
            rw [HV.out]
            go_wp2_with fail
            refine (get_any _ p _ y.key _ HXX.out (by have := make_length l; have := HL.out; omega)).mono ?_
            rintro e w4 ⟨rfl, hb4⟩
            rw [HS.out]
            have HB4 := Lib.hid (HBW.out.trans (hb4.mono HBW.out.size))
            clear hb4
            generalize getV (make l) y.key = gv
            go_wp2
            go_roundw
            case rel => exact ⟨i + 1, by go_num, hlt, HB4.out⟩
            case measure => simp [intOf]; omega
      · have HBW := Lib.hid (HB.out.trans (HBR.out.mono HB.out.size))
        go_wp2_with fail
        refine (awake_any _).mono ?_
        rintro e w4 ⟨rfl, hb4⟩
        have HB4 := Lib.hid (HBW.out.trans (hb4.mono HBW.out.size))
        clear hb4
        go_wp2
        go_ret
        exact ⟨rfl, HB4.out⟩
end Go.Proofs.Ytpklgbpgmeeeoaa.Idx
