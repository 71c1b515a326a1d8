/-
  Package fold: contract of Between.
-/
import Derived.Test.YtlgdbpejefgeaaaFoldValue
namespace Go.Proofs.Ytlgdbpejefgeaaa.Fold
set_option linter.unusedVariables false
set_option linter.unusedSimpArgs false
set_option maxRecDepth 100000
open Go.RowKit Base IdxMath FoldMath Foot
open TxnMath (Ch Tx)
open PChg (gval Cs)
open PTx
set_option linter.ambiguousOpen false

/-- Between on its way: none of the places below k did; the walk stands behind j -/
def BetI (w0 : World) (s p : Nat) (A : Option Addr) (n c : Nat) (l : List Tx) (a : Nat) (t key : Int) (v : ByteArray) (k : Nat) (wr : World) : Prop :=
  ∃ j : Nat, j ≤ n ∧ j ≤ k ∧ a ≤ k ∧ (∀ q, a ≤ q → q < k → value t key (chs l q) ≠ some v) ∧ WalkAt wr p A n c j (.func (.func 34) #[.pointer (some ⟨s, 0, none⟩)] #[]) ∧ SpotAt wr s t key (value t key (chs l j)) ∧ Below w0.heap.size w0 wr
def BetR (w : World) (b : Bool) (e : Ending) (w' : World) : Prop := e = .returned (.bool b) ∧ Below w.heap.size w w'
set_option maxHeartbeats 3200000 in
theorem between_any (B : Nat) (A : Option Addr) (n c : Nat) (l : List Tx) (a b t key : Int) (v : ByteArray) (w : World) (hl : Txs w B A n c l) (hB : B ≤ w.heap.size) (hM : (chs l n).length < 1099511627774) (hn : n ≤ 1099511627774) :
    Calls Try.prog 17 #[.slice A n c, .int .i64 a, .int .i64 b, .int .i64 t, .agg #[.int .i64 key, .string v]] w (BetR w (between l a b t key v)) := by
  have hlen := hl.len
  have hb0 : Below w.heap.size w (w.alloc (.cells #[.int .i64 key, .string v] 36)) := (Below.refl _ _).alloc (Nat.le_refl _) _
  have hz0 : (w.alloc (.cells #[.int .i64 key, .string v] 36)).heap.size = w.heap.size + 1 := by simp
  have hx0 : Blk (w.alloc (.cells #[.int .i64 key, .string v] 36)) w.heap.size 36 #[.int .i64 key, .string v] := Blk.new _ _ _
  have HL : Hid (Txs (w.alloc (.cells #[.int .i64 key, .string v] 36)) (w.alloc (.cells #[.int .i64 key, .string v] 36)).heap.size A n c l) := ((hl.more hB).below hb0).more (by rw [hz0]; exact Nat.le_succ _)
  have HM := Lib.hid hM
  have HBT : Hid (between l a b t key v = between l a b t key v) := rfl
  have HRB : ∀ r : Bool, between l a b t key v = r → ∀ w', Below (w.alloc (.cells #[.int .i64 key, .string v] 36)).heap.size (w.alloc (.cells #[.int .i64 key, .string v] 36)) w' → BetR w (between l a b t key v) (.returned (.bool r)) w' := fun r h w' hb => ⟨by rw [h], hb0.trans (hb.mono (by rw [hz0]; exact Nat.le_succ _))⟩
  have HRET := Lib.hid HRB
  have HX0 := Lib.hid hx0
  have HZ0 := Lib.hid hz0
  have HYES : Hid (∀ k, held a n ≤ k → k ≤ held b n → value t key (chs l k) = some v → between l a b t key v = true) := fun k h1 h2 h3 => between_yes (by rw [hlen]; exact h1) (by rw [hlen]; exact h2) h3
  have HNO : Hid ((∀ k, held a n ≤ k → k ≤ held b n → value t key (chs l k) ≠ some v) → between l a b t key v = false) := fun h => between_no (by rw [hlen]; exact h)
  have hha : held a n ≤ n := held_le a n
  have hhb : held b n ≤ n := held_le b n
  clear hl hM hb0 hz0 hx0 HRB HBT
  have hmf := run_mf
  generalize hBB : between l a b t key v = bb at *
  clear hBB
  go_enter Try.func17, Try.ntmps17
  go_upto_region 1 with fail
  generalize (w.alloc (.cells #[.int .i64 key, .string v] 36)) = w0 at *
  have r0 : w0.cell? ⟨w.heap.size, 0, none⟩ = some (.int .i64 key) := HX0.out.cell 0
  go_wp2_with fail
  have hb1 : Below w0.heap.size w0 (w0.alloc (.cells #[.int .i64 t, .int .i64 key, .string ⟨#[]⟩, .bool false] 70)) := (Below.refl _ _).alloc (Nat.le_refl _) _
  have hs1 : SpotAt (w0.alloc (.cells #[.int .i64 t, .int .i64 key, .string ⟨#[]⟩, .bool false] 70)) w0.heap.size t key none := Blk.new _ _ _
  have hz1 : (w0.alloc (.cells #[.int .i64 t, .int .i64 key, .string ⟨#[]⟩, .bool false] 70)).heap.size = w0.heap.size + 1 := by simp
  generalize (w0.alloc (.cells #[.int .i64 t, .int .i64 key, .string ⟨#[]⟩, .bool false] 70)) = w1 at hb1 hs1 hz1 ⊢
  have HZ1 := Lib.hid hz1
  clear hz1
  refine (walkOver_any A n c _ _ _ w1).mono ?_
  rintro e w2 ⟨rfl, rfl⟩
  have HW2 : Hid (WalkAt (w1.alloc (.cells #[.slice A n c, .int .i64 0, .func (.func 34) #[.pointer (some ⟨w0.heap.size, 0, none⟩)] #[]] 75)) w1.heap.size A n c (0 : Nat) (.func (.func 34) #[.pointer (some ⟨w0.heap.size, 0, none⟩)] #[])) := Blk.new _ _ _
  have HT2 : Hid (SpotAt (w1.alloc (.cells #[.slice A n c, .int .i64 0, .func (.func 34) #[.pointer (some ⟨w0.heap.size, 0, none⟩)] #[]] 75)) w0.heap.size t key (value t key (chs l 0))) := by rw [chs_zero]; exact Blk.alloc hs1 _
  have HB2 : Hid (Below w0.heap.size w0 (w1.alloc (.cells #[.slice A n c, .int .i64 0, .func (.func 34) #[.pointer (some ⟨w0.heap.size, 0, none⟩)] #[]] 75))) := hb1.alloc hb1.size _
  generalize (w1.alloc (.cells #[.slice A n c, .int .i64 0, .func (.func 34) #[.pointer (some ⟨w0.heap.size, 0, none⟩)] #[]] 75)) = w2 at HW2 HT2 HB2 ⊢
  clear hb1 hs1 r0
  obtain ⟨p, hp⟩ : ∃ p, p = w1.heap.size := ⟨_, rfl⟩
  have HP : Hid (w0.heap.size < p) := by have := HZ1.out; show _ < _; omega
  rw [← hp] at HW2 ⊢
  clear hp HZ1 w1
  go_wp2_with fail
  refine (held_any p A n c a w2 (HW2.out.cell 0)).mono ?_
  rintro e w3 ⟨rfl, rfl⟩
  go_wp2_with fail
  go_loopw [13] (fun vi wr => ∃ k : Nat, vi = .int .i64 k ∧ k ≤ n + 1 ∧ BetI w0 w0.heap.size p A n c l (held a n) t key v k wr) (fun vi _ => n + 2 - (Go.RowKit.intOf vi).toNat)
  case atStart => exact ⟨held a n, rfl, by omega, 0, by omega, by omega, Nat.le_refl _, (fun q h1 h2 => by omega), HW2.out, HT2.out, HB2.out⟩
  case round =>
    obtain ⟨k, rfl, hk, j, hjn, hjk, hak, hno, hwa, hsp, hbe⟩ := hrel
    have HNK := Lib.hid hno
    have HWA := Lib.hid hwa
    have HSP := Lib.hid hsp
    have HBE := Lib.hid hbe
    clear hno hwa hsp hbe HW2 HT2 HB2
    go_wp2_with fail
    refine (held_any p A n c b wr (HWA.out.cell 0)).mono ?_
    rintro e w3 ⟨rfl, rfl⟩
    by_cases hkb : k ≤ held b n
    · have l1 : (k : Int) ≤ (held b n : Int) := by omega
      have hkh : held (k : Int) n = k := held_nat (by omega)
      have CT := Lib.hid (to_spot_any (fun i => i = w0.heap.size) (fun cs wx => SpotAt wx w0.heap.size t key (value t key cs)) (.pointer (some ⟨w0.heap.size, 0, none⟩)) 1099511627774 (fun _ => True) (spot_col w0.heap.size 1099511627774 t key) p w0.heap.size A n c j k l wr HWA.out HSP.out (HL.out.below HBE.out) (Nat.le_of_lt HP.out) (fun i hi => ⟨by omega, by have := HP.out; omega⟩) (fun _ _ => trivial) HM.out hjn)
      rw [hkh, Nat.max_eq_right hjk] at CT
      clear hkh
      go_wp2_with fail
      refine CT.out.mono ?_
      rintro e w3 ⟨rfl, hw3, hs3, hb3⟩
      have HW3 := Lib.hid hw3
      have HB3 : Hid (Below w0.heap.size w0 w3) := HBE.out.trans hb3
      have HS3 := Lib.hid hs3
      have q1 : w3.cell? ⟨w.heap.size, 1, none⟩ = some (.string v) := (HX0.out.below HB3.out HX0.out.lt).cell 1
      clear hw3 hs3 hb3 CT
      go_wp2_with fail
      refine (has_any w0.heap.size t key (value t key (chs l k)) v w3 HS3.out).mono ?_
      rintro e w4 ⟨rfl, rfl⟩
      by_cases hv : value t key (chs l k) = some v
      · rw [decide_eq_true hv]
        have HQ := Lib.hid (HRET.out true (HYES.out k hak hkb hv) w3 HB3.out)
        clear hv
        go_wp2
        go_ret
        exact HQ.out
      · rw [decide_eq_false hv]
        have HN : Hid (BetI w0 w0.heap.size p A n c l (held a n) t key v (k + 1) w3) := ⟨k, by omega, by omega, by omega, fun q h1 h2 => by
          by_cases hq : q = k
          · rw [hq]; exact hv
          · exact HNK.out q h1 (by omega), HW3.out, HS3.out, HB3.out⟩
        clear hv
        go_wp2
        go_roundw
        case rel => exact ⟨k + 1, by go_num, by omega, HN.out⟩
        case measure => simp [Go.RowKit.intOf]; omega
    · have l1 : ¬ (k : Int) ≤ (held b n : Int) := by omega
      have HQ := Lib.hid (HRET.out false (HNO.out fun q h1 h2 => HNK.out q h1 (by omega)) wr HBE.out)
      go_wp2
      go_ret
      exact HQ.out
end Go.Proofs.Ytlgdbpejefgeaaa.Fold
