/-
  Contracts of slices.BinarySearchFunc over rising rows, of slices.CompactFunc at rows in order in a block of the call's own, of slices.Clone.
-/
import Derived.Test.YtngncalbglbjdaaIdxInsert
import Derived.Test.YtngncalbglbjdaaIdxEdit
namespace Go.Proofs.Ytngncalbglbjdaa.Idx
set_option linter.unusedVariables false
set_option maxRecDepth 100000
open Go.RowKit Base IdxMath
open Go.Sort (grow)
set_option linter.ambiguousOpen false
set_option linter.unusedSimpArgs false

theorem got_cell {wr : World} {p : Addr} {v : Value} (h : wr.cell? p = some v) : ∀ n os, (grow (wr.drewN n) os).cell? p = some v := fun n os => cell_grown (World.block_lt_of_cell? wr p h) h n os
theorem below_grown {B : Nat} {a w : World} (h : Below B a w) (hB : B ≤ a.heap.size) (n : Nat) (os : Array Obj) : Below B a (grow (w.drewN n) os) :=
  h.trans ((below_grow w n os).mono (Nat.le_trans hB h.size))

def diff2' (i j : Value) : Nat := (intOf j).toNat - (intOf i).toNat
def SeekRel (w1 : World) (n : Nat) (l : List Rw) (k : Int) (vi vj : Value) (wr : World) : Prop :=
  ∃ i j : Nat, vi = .int .i64 i ∧ vj = .int .i64 j ∧ i ≤ j ∧ j ≤ n ∧ Lo l i k ∧ Hi l j k ∧ Below w1.heap.size w1 wr
/-- what a search answers -/
def Sought (w : World) (l : List Rw) (k : Int) (e : Ending) (w' : World) : Prop :=
  e = .returned (.tuple #[.int .i64 (pos l k), .bool (there l k)]) ∧ Below w.heap.size w w'
set_option maxHeartbeats 3200000 in
theorem search_any (B : Nat) (A : Option Addr) (n c : Nat) (l : List Rw) (t : Rw) (w : World) (h : Rs w B A n c l) (hB : B ≤ w.heap.size) (hs : Rise l) (hsz : n ≤ 1099511627776) :
    Calls Try.prog 60 #[.slice A n c, .agg #[.int .i64 t.key, .string t.val], .func (.func 48) #[] #[]] w (Sought w l t.key) := by
  have hlen := h.len
  have hle := h.le
  obtain ⟨w1, hw1⟩ : ∃ w1, w1 = w.alloc (.cells #[.int .i64 t.key, .string t.val] 37) := ⟨_, rfl⟩
  have hbx : Blk w1 w.heap.size 37 #[.int .i64 t.key, .string t.val] := by rw [hw1]; exact Blk.new _ _ _
  have hsz1 : w1.heap.size = w.heap.size + 1 := by rw [hw1]; simp
  have hbw : Below w.heap.size w w1 := by rw [hw1]; exact (Below.refl _ _).alloc (Nat.le_refl _) _
  have HW := Lib.hid hw1
  have HBX := Lib.hid hbx
  have HBW := Lib.hid hbw
  have HS1 := Lib.hid hsz1
  have HR : Hid (Rs w1 B A n c l) := h.below (hbw.mono hB)
  have HS := Lib.hid hs
  have HL := Lib.hid hlen
  obtain ⟨tb, htb⟩ : ∃ tb, tb = w.heap.size := ⟨_, rfl⟩
  rw [← htb] at HBX
  have HTB := Lib.hid htb
  clear h hw1 hbx hbw hsz1 hs hlen
  go_enter Try.func60, Try.ntmps60
  go_wp2
  rw [← HTB.out, ← HW.out]
  clear htb
  go_loopw [9, 10] (fun i j wr => SeekRel w1 n l t.key i j wr) (fun i j _ => diff2' i j)
  case atStart => exact ⟨0, n, rfl, rfl, Nat.zero_le _, Nat.le_refl _, (fun p x hp => by omega), (fun p x hp hx => by rw [List.getElem?_eq_none (by rw [HL.out]; exact hp)] at hx; cases hx), Below.refl _ _⟩
  case round =>
    obtain ⟨i, j, rfl, rfl, hij, hjn, hlo, hhi, hb⟩ := hrel
    have HLO := Lib.hid hlo
    have HHI := Lib.hid hhi
    have HB := Lib.hid hb
    have mixed : Try.prog.follows .mixedOrders = true := by kernel_rfl
    have b0 := got_cell ((HBX.out.below hb (by rw [HS1.out, ← HTB.out]; omega)).cell 0)
    have b1 := got_cell ((HBX.out.below hb (by rw [HS1.out, ← HTB.out]; omega)).cell 1)
    have hRr := HR.out.below (hb.mono (by rw [HS1.out]; omega))
    clear hlo hhi hb
    by_cases hlt : i < j
    · have l3 : (i : Int) < (j : Int) := by omega
      obtain ⟨k, hk⟩ : ∃ k, k = (i + j) / 2 := ⟨_, rfl⟩
      have e2 : ((i : Int) + (j : Int)) / 2 = (k : Int) := by omega
      have hkb : i ≤ k ∧ k < j := by omega
      obtain ⟨b, off, x, rfl, _, c0, c1, hx, _⟩ := hRr.at_ (k := k) (by omega)
      have c0 := got_cell c0
      have c1 := got_cell c1
      have hc := cmp_grown x t wr
      have HX := Lib.hid hx
      have l4 : (k : Int) < (n : Int) := by omega
      have HK := Lib.hid hk
      have HKB := Lib.hid hkb
      have l6 : k + 1 ≤ n := by omega
      clear hx hk hkb hRr
      by_cases hxu : x.key < t.key
      · rw [cmpK_neg hxu] at hc
        have hn : ((-1 : Int) < 0) := by omega
        go_wp2_with fail
        go_quiet_grown (first | (go_at_call 48; exact hc _ _))
        go_wp2
        go_roundw
        case rel =>
          have := HKB.out
          exact ⟨k + 1, j, by go_num, rfl, by omega, hjn, HS.out.srt.lo HX.out hxu, HHI.out, below_grown HB.out (Nat.le_refl _) _ _⟩
        case measure =>
          have := HKB.out
          simp [intOf, diff2']; omega
      · have hk2 : decide (cmpK x.key t.key < 0) = false := decide_eq_false fun h => hxu (cmpK_lt.1 h)
        go_wp2_with fail
        go_quiet_grown (first | (go_at_call 48; exact hc _ _))
        go_wp2
        go_roundw
        case rel =>
          have := HKB.out
          exact ⟨i, k, rfl, rfl, by omega, by omega, HLO.out, HS.out.srt.hi HX.out (by omega), below_grown HB.out (Nat.le_refl _) _ _⟩
        case measure =>
          have := HKB.out
          simp [intOf, diff2']; omega
    · obtain rfl : i = j := by omega
      have HP := Lib.hid (pos_of (by rw [HL.out]; exact hjn) HLO.out HHI.out)
      have l2 : ¬ (i : Int) < (i : Int) := by omega
      by_cases hin : i < n
      · obtain ⟨b, off, x, rfl, _, c0, c1, hx, _⟩ := hRr.at_ hin
        have c0 := got_cell c0
        have c1 := got_cell c1
        have hc := cmp_grown x t wr
        have HX := Lib.hid hx
        have l4 : (i : Int) < (n : Int) := by omega
        clear hx hRr
        by_cases hxu : x.key = t.key
        · have hz : cmpK x.key t.key = 0 := cmpK_eq.2 hxu
          rw [hz] at hc
          have HXU := Lib.hid hxu
          clear hxu hz
          go_wp2_with fail
          go_quiet_grown (first | (go_at_call 48; exact hc _ _))
          go_wp2
          go_ret2
          have hth : there l t.key = true := there_yes (by rw [HP.out]; exact HX.out) HXU.out
          exact ⟨by rw [HP.out, hth]; rfl, HBW.out.trans ((below_grown HB.out (Nat.le_refl _) _ _).mono (by rw [HS1.out]; omega))⟩
        · have hz : (cmpK x.key t.key == 0) = false := by rw [beq_eq_false_iff_ne]; exact fun h => hxu (cmpK_eq.1 h)
          have HXU := Lib.hid hxu
          clear hxu
          go_wp2_with fail
          go_quiet_grown (first | (go_at_call 48; exact hc _ _))
          go_wp2
          go_ret2
          have hth : there l t.key = false := there_no (by rw [HP.out]; exact HX.out) HXU.out
          exact ⟨by rw [HP.out, hth]; rfl, HBW.out.trans ((below_grown HB.out (Nat.le_refl _) _ _).mono (by rw [HS1.out]; omega))⟩
      · obtain rfl : i = n := by omega
        have hth := Lib.hid (show there l t.key = false from there_end (by rw [HP.out, HL.out]; exact Nat.le_refl _))
        have l4 : decide ((i : Int) < (i : Int)) = false := by simp
        clear hRr b0 b1
        go_wp2_with fail
        go_quiet (fail)
        go_wp2
        go_ret2
        exact ⟨by rw [HP.out, hth.out]; rfl, HBW.out.trans ((below_drewN HB.out _).mono (by rw [HS1.out]; omega))⟩
end Go.Proofs.Ytngncalbglbjdaa.Idx
