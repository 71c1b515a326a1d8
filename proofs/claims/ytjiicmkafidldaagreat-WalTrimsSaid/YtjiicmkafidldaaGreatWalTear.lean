/-
  The contract of a log's Tear (package wal).
-/
import Derived.Test.YtjiicmkafidldaaGreatWalAppend
namespace Go.Proofs.YtjiicmkafidldaaGreat.Wal
set_option maxRecDepth 100000
open Go.RowKit Base WalMath
open Go.Proofs.YtjiicmkafidldaaGreat.Disk (Turn Out DiskAt I64 Fits own_same own_type)
open DiskMath (Fl Dk)
set_option linter.ambiguousOpen false

set_option maxHeartbeats 3200000 in
theorem tear_any (T : Nat → Prop) (g gd : Nat) (l : Lg) (d : Dk) (k M : Nat) (A : Option Addr) (n c : Nat) (p : List UInt8) (x : Nat) (w : World) (h : Both T w g gd l d) (hT : New T w) (ho : Ok l) (hc : Cap k M d) (hk : k ≤ 10000000) (hM : M ≤ 35184372088832) (hr : Bytes w w.heap.size A n c p) (hx : x ≤ 4611686018427387904) :
    Calls Tryz.prog 24 #[.pointer (some ⟨g, 0, none⟩), .slice A n c, .int .i64 x] w (Wrote T w g gd (tear l d p x)) := by
  have HB := Lib.hid h
  have HT := Lib.hid hT
  have HO := Lib.hid ho
  have HC := Lib.hid hc
  have HR := Lib.hid hr
  obtain ⟨F, G, hdk, hl, _, _, _⟩ := h
  have HP := Lib.hid (plan_any F G g gd l d w.heap.size A n c p w hl hdk ho hr (Nat.le_refl _))
  clear hT ho hc hr hdk hl
  generalize hap : tear l d p x = r
  have HAP := Lib.hid hap
  clear hap
  have hx0 : decide ((x : Int) < 0) = false := by simp
  go_enter Tryz.func24, Tryz.ntmps24
  go_wp2_with fail
  refine HP.out.mono ?_
  intro e w1 hpl
  clear HP
  cases hpe : plan l d.off p with
  | error kk =>
    rw [hpe] at hpl
    obtain ⟨rfl, hb1⟩ := hpl
    have HE := Lib.hid (show r = ((kk : Int), l, d) by rw [← HAP.out, tear, if_neg (show ¬ (x : Int) < 0 by omega), hpe])
    have hne2 : ((kk : Int) != 0) = true := by have := plan_err hpe; simp; omega
    have HB1 := Lib.hid hb1
    clear hb1 hpe
    go_wp2
    go_ret
    rw [HE.out]
    exact ⟨rfl, HB.out.new (held_alloc HB1.out _), Turn.new (held_alloc HB1.out _)⟩
  | ok qb =>
    obtain ⟨q, b⟩ := qb
    rw [hpe] at hpl
    obtain ⟨A1, c1, rfl, hown1, hb1⟩ := hpl
    have HE := Lib.hid (show r = write l d q (b.take (x % b.length)) by rw [← HAP.out, tear, if_neg (show ¬ (x : Int) < 0 by omega), hpe, Int.toNat_natCast])
    have hpo := plan_ok hpe
    have hbl := hpo.2.2.2.1
    have hb0 := hpo.2.2.2.2.1
    clear hpe hpo
    have HB1 := Lib.hid hb1
    have HW2 : Hid (Below w.heap.size w (w1.alloc (.cells #[.int .i64 q.file, .int .i64 q.had, .bool q.begins] 82))) := held_alloc hb1 _
    have HX : Hid (Blk (w1.alloc (.cells #[.int .i64 q.file, .int .i64 q.had, .bool q.begins] 82)) w1.heap.size 82 #[.int .i64 q.file, .int .i64 q.had, .bool q.begins]) := Blk.new _ _ _
    have HY2 : Hid (Bytes (w1.alloc (.cells #[.int .i64 q.file, .int .i64 q.had, .bool q.begins] 82)) (w1.alloc (.cells #[.int .i64 q.file, .int .i64 q.had, .bool q.begins] 82)).heap.size A1 b.length c1 b) := Bytes.of_own (hown1.alloc _)
    have HLB : Hid (∀ m, m ≤ b.length → Lies (fun i => ¬ Win T w.heap.size (w1.alloc (.cells #[.int .i64 q.file, .int .i64 q.had, .bool q.begins] 82)).heap.size i) A1 m) := fun m hm hn bb off e hw => by
      have a := hown1.lt bb (by rw [e]; rfl)
      have c := hw.2
      rw [World.size_alloc] at c
      omega
    have hc1 : b.length ≤ c1 := (Bytes.of_own hown1).le.1
    have hc2 : c1 ≤ 9223372036854775807 := (Bytes.of_own hown1).le.2
    clear hb1 hown1
    unfold pcv
    obtain ⟨v, hv⟩ : ∃ v : Int, v = (b.length : Int) := ⟨_, rfl⟩
    obtain ⟨m, hm⟩ : ∃ m : Nat, m = x % b.length := ⟨_, rfl⟩
    have hmb : m < b.length := by rw [hm]; exact Nat.mod_lt _ hb0
    have htm : (x : Int).tmod (b.length : Int) = (m : Int) := by
      rw [hm]
      exact (Int.tmod_eq_emod_of_nonneg (by omega)).trans (Int.natCast_emod x b.length).symm
    have hw1 : IntKind.i64.wrap (m : Int) = (m : Int) := IntWalk.i64_in _ (by omega)
    have HM := Lib.hid hm
    have hmc : m ≤ c1 := by omega
    clear hm hv
    generalize hL : b.length = L at *
    have HL := Lib.hid hL
    clear hL
    have hv0 : ¬ L = 0 := by omega
    have hv2 : (L == 0) = false := by simp; omega
    have hv1 : ((L : Int) == 0) = false := by simp; omega
    go_wp2_with fail
    generalize w1.alloc (.cells #[.int .i64 q.file, .int .i64 q.had, .bool q.begins] 82) = W2 at *
    generalize w1.heap.size = s1 at *
    have x0 : W2.cell? ⟨s1, 0, none⟩ = some (.int .i64 q.file) := HX.out.cell 0
    have x1 : W2.cell? ⟨s1, 1, none⟩ = some (.int .i64 q.had) := HX.out.cell 1
    have x2 : W2.cell? ⟨s1, 2, none⟩ = some (.bool q.begins) := HX.out.cell 2
    have HTW : Hid (Turn T w W2) := Turn.new HW2.out
    go_still_tail 8, (by kernel_rfl)
    go_wp2_with fail
    have hnd : (W2.drew).heap.size = W2.heap.size := rfl
    have hyt : Bytes W2.drew W2.drew.heap.size A1 m c1 (b.take m) := (HY2.out.front (k := m) (by omega)).drewN 1
    refine (write_any (Win T w.heap.size W2.heap.size) g gd l d k M q A1 m c1 (b.take m) _ ((HB.out.win HW2.out).drewN 1) (HT.out.win HW2.out.size) HC.out (by omega) hyt (HLB.out m (by omega)) (by omega)).mono ?_
    rintro e w3 ⟨rfl, hb3, ht3⟩
    have HB3 := Lib.hid hb3
    have HT3 : Hid (Turn T w w3) := HTW.out.trans (F' := T) ⟨ht3.os, ht3.tape, ht3.output, ht3.size, (Turn.win ht3).block⟩ fun _ hi => .inl hi
    clear hb3 ht3 hyt htm hw1
    go_wp2
    go_ret
    rw [HE.out, ← HM.out]
    exact ⟨rfl, HB3.out.mono fun _ hi => hi.1, HT3.out⟩
end Go.Proofs.YtjiicmkafidldaaGreat.Wal
