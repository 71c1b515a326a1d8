/-
  Package fold: contract of Value.
-/
import Derived.Test.YtlgdbpejefgeaaaFoldCode
import Derived.Test.YtlgdbpejefgeaaaFoldToSpot
import Derived.Test.YtlgdbpejefgeaaaFoldSpot
namespace Go.Proofs.Ytlgdbpejefgeaaa.Fold
set_option linter.unusedVariables false
set_option linter.unusedSimpArgs false
set_option maxRecDepth 100000
open Go.RowKit Base IdxMath FoldMath Foot
open TxnMath (Ch Tx)
open PChg (gval Cs)
open PTx
open Lsts (Lsts)
open Idx (Rs)
set_option linter.ambiguousOpen false

/-- what Value answers -/
def ValueR (w : World) (o : Option ByteArray) (e : Ending) (w' : World) : Prop := e = .returned (.tuple #[.string (o.getD ⟨#[]⟩), .bool o.isSome]) ∧ Below w.heap.size w w'
set_option maxHeartbeats 3200000 in
theorem value_any (B : Nat) (A : Option Addr) (n c : Nat) (l : List Tx) (k t key : Int) (w : World) (hl : Txs w B A n c l) (hB : B ≤ w.heap.size) (hM : (chs l n).length < 1099511627774) :
    Calls Try.prog 15 #[.slice A n c, .int .i64 k, .int .i64 t, .int .i64 key] w (ValueR w (value t key (chs l (held k l.length)))) := by
  have hlen := hl.len
  have HL := Lib.hid (hl.more hB)
  have HM := Lib.hid hM
  clear hl hM
  rw [hlen]
  have hmf := run_mf
  go_enter Try.func15, Try.ntmps15
  go_wp2_with fail
  have hb1 : Below w.heap.size w (w.alloc (.cells #[.int .i64 t, .int .i64 key, .string ⟨#[]⟩, .bool false] 70)) := (Below.refl _ _).alloc (Nat.le_refl _) _
  have hs1 : SpotAt (w.alloc (.cells #[.int .i64 t, .int .i64 key, .string ⟨#[]⟩, .bool false] 70)) w.heap.size t key none := Blk.new _ _ _
  have hz1 : (w.alloc (.cells #[.int .i64 t, .int .i64 key, .string ⟨#[]⟩, .bool false] 70)).heap.size = w.heap.size + 1 := by simp
  generalize (w.alloc (.cells #[.int .i64 t, .int .i64 key, .string ⟨#[]⟩, .bool false] 70)) = w1 at hb1 hs1 hz1 ⊢
  have HZ1 := Lib.hid hz1
  clear hz1
  refine (walkOver_any A n c _ _ _ w1).mono ?_
  rintro e w2 ⟨rfl, rfl⟩
  have hba : Below w1.heap.size w1 (w1.alloc (.cells #[.slice A n c, .int .i64 0, .func (.func 34) #[.pointer (some ⟨w.heap.size, 0, none⟩)] #[]] 75)) := (Below.refl _ _).alloc (Nat.le_refl _) _
  have HW2 : Hid (WalkAt (w1.alloc (.cells #[.slice A n c, .int .i64 0, .func (.func 34) #[.pointer (some ⟨w.heap.size, 0, none⟩)] #[]] 75)) w1.heap.size A n c (0 : Nat) (.func (.func 34) #[.pointer (some ⟨w.heap.size, 0, none⟩)] #[])) := Blk.new _ _ _
  have HT2 : Hid (SpotAt (w1.alloc (.cells #[.slice A n c, .int .i64 0, .func (.func 34) #[.pointer (some ⟨w.heap.size, 0, none⟩)] #[]] 75)) w.heap.size t key (value t key (chs l 0))) := by rw [chs_zero]; exact Blk.alloc hs1 _
  have HB2 : Hid (Below w.heap.size w (w1.alloc (.cells #[.slice A n c, .int .i64 0, .func (.func 34) #[.pointer (some ⟨w.heap.size, 0, none⟩)] #[]] 75))) := hb1.alloc hb1.size _
  generalize (w1.alloc (.cells #[.slice A n c, .int .i64 0, .func (.func 34) #[.pointer (some ⟨w.heap.size, 0, none⟩)] #[]] 75)) = w2 at HW2 HT2 HB2 ⊢
  clear hba hb1 hs1
  have CT := Lib.hid (to_spot_any (fun i => i = w.heap.size) (fun cs wx => SpotAt wx w.heap.size t key (value t key cs)) (.pointer (some ⟨w.heap.size, 0, none⟩)) 1099511627774 (fun _ => True) (spot_col w.heap.size 1099511627774 t key) w1.heap.size w.heap.size A n c 0 k l w2 HW2.out HT2.out (HL.out.below HB2.out) (by have := HZ1.out; omega) (fun i hi => ⟨by omega, by have := HZ1.out; omega⟩) (fun _ _ => trivial) HM.out (Nat.zero_le _))
  go_wp2_with fail
  refine CT.out.mono ?_
  rintro e w3 ⟨rfl, _, ht3, hb3⟩
  rw [Nat.max_eq_right (Nat.zero_le _)] at ht3
  have HT3 := Lib.hid ht3
  have HB3 : Hid (Below w.heap.size w w3) := HB2.out.trans hb3
  obtain ⟨o, ho⟩ : ∃ o, o = value t key (chs l (held k n)) := ⟨_, rfl⟩
  rw [← ho] at ht3
  have HO := Lib.hid ho
  clear ho
  have s2 : w3.cell? ⟨w.heap.size, 2, none⟩ = some (.string (o.getD ⟨#[]⟩)) := ht3.cell 2
  have s3 : w3.cell? ⟨w.heap.size, 3, none⟩ = some (.bool o.isSome) := ht3.cell 3
  clear ht3 hb3 HT3 HW2 HT2 HB2
  go_upto_region 4 with fail
  go_quiet (fail)
  go_wp2
  go_ret2
  rw [← HO.out]
  exact ⟨rfl, below_drewN HB3.out _⟩
end Go.Proofs.Ytlgdbpejefgeaaa.Fold
