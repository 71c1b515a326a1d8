/-
  The walk of GuardPlays; how its ops are opened. No condition but that the keys are 64 bit numbers.
-/
import Derived.Test.YtlbgpfiiiggofaaGdAwake
import Derived.Test.YtlbgpfiiiggofaaGdOp
import Derived.Test.YtlbgpfiiiggofaaGdTwo
import Derived.Test.YtlbgpfiiiggofaaCellHelp
import Derived.Test.YtlbgpfiiiggofaaRowHelp
import Derived.Test.YtlbgpfiiiggofaaOpOpen
import Derived.Test.YtlbgpfiiiggofaaLsts
import Derived.Deep.CutBlock
namespace Go.Proofs.Ytlbgpfiiiggofaa.Gd
set_option linter.unusedVariables false
set_option linter.unusedSimpArgs false
set_option maxRecDepth 100000
open Go.RowKit Base GuardMath Foot
open Go.Proofs.Ytlbgpfiiiggofaa.Field (modZ bigZ modZ_lt bigZ_lt mod_any playbig_any)
open Lsts (Lsts)
open Idx (Rs)
set_option linter.ambiguousOpen false

section
open Go.ChangeShapes Go.WideShapes Go.Deep
variable {H : Type} {enc : TypeId × Value → H} {W : World} {a : Option Addr} {len cap : Nat} {d : DataW H} {p : List MemPlace}
theorem open_ops (n : Nat) (cs : List Value) (y : DataW H × List MemPlace) (hf : DataW.trod enc Try.prog W 0 (fun _ => true) true n 30 cs = some y) : ∃ A n' c' l, cs = [.slice A n' c'] ∧ Gps W W.heap.size A n' c' l ∧ ∀ x ∈ l, OkKey x.key := by
  rcases Flat.open_slice_fields Try.underlying30 Try.underlying32 (by kernel_rfl) (by kernel_rfl) hf with hcs | ⟨x, l, c, m, hcs, hl, hm, hmm, hall⟩
  · exact ⟨none, 0, 0, [], hcs, Row.nil_ _ _ _, fun x hx => by cases hx⟩
  · obtain ⟨ls, h1, _, h3⟩ := Flat.open_flat (ec := ocells) (k := 5) (fun _ => rfl) (by omega) noGp (fun x => OkKey x.key) (y := x) hl hm (fun i hi => by
      obtain ⟨n, hn⟩ := hall i (by rw [hmm]; simp; omega)
      obtain ⟨v0, y0, c0, t0⟩ := hn 0 _ rfl
      obtain ⟨v1, y1, c1, t1⟩ := hn 1 _ rfl
      obtain ⟨v2, y2, c2, t2⟩ := hn 2 _ rfl
      obtain ⟨v3, y3, c3, t3⟩ := hn 3 _ rfl
      obtain ⟨v4, y4, c4, t4⟩ := hn 4 _ rfl
      obtain ⟨k0, e0, _, _⟩ := DataW.trod_int Try.underlying2 t0
      obtain ⟨k1, e1, _, _⟩ := DataW.trod_int Try.underlying3 t1
      obtain ⟨k2, e2, _, kw2⟩ := DataW.trod_int Try.underlying2 t2
      obtain ⟨k3, e3, _⟩ := DataW.trod_bool Try.underlying4 t3
      obtain ⟨k4, e4, _, ws4⟩ := DataW.trod_string Try.underlying9 t4
      simp only [List.cons.injEq, and_true] at e0 e1 e2 e3 e4
      subst e0 e1 e2 e3 e4
      refine ⟨⟨k0, k1, k2, k3, k4⟩, ok_key kw2, fun j hj => ?_⟩
      match j, hj with
      | 0, _ => exact ⟨_, rfl, c0⟩
      | 1, _ => exact ⟨_, rfl, c1⟩
      | 2, _ => exact ⟨_, rfl, c2⟩
      | 3, _ => exact ⟨_, rfl, c3⟩
      | 4, _ => exact ⟨_, rfl, c4⟩)
    exact ⟨_, _, _, ls, hcs, h1, h3⟩
theorem open_oplists (h : DataW.Trod enc Try.prog W 0 (fun _ => true) true 22 (.slice a len cap) d p) : ∃ L, Lsts Gps W W.heap.size a len cap L ∧ ∀ l ∈ L, ∀ x ∈ l, OkKey x.key :=
  Lsts.open_lsts ([] : List Gp) Try.underlying22 (by kernel_rfl) (fun n cs y hy => open_ops n cs y hy) h
end
theorem Two.mono2 {B0 : Nat} {w : World} {g n M M2 : Nat} {T : List (List Ce)} {p M' M3 : Nat} {T' : List (List Ce)} {s : Nat} (h : Two B0 w g n M T p M' T' s) (hM : M ≤ M2) (hM' : M' ≤ M3) : Two B0 w g n M2 T p M3 T' s := ⟨h.code.mono hM, h.doc, h.most.mono hM', h.base, h.size⟩
/-- both replicas, with the same tables -/
def PlRel (w : World) (k p i : Nat) (wr : World) : Prop := ∃ T, Two w.heap.size wr w.heap.size k (20 * i) T p (20 * i) T wr.heap.size ∧ Below w.heap.size w wr
theorem opsZ_key {l : List Gp} {k j : Nat} (h : ∀ x ∈ l, OkKey x.key) : ∀ o ∈ (l.take j).map (opZ · k), In64 o.key := fun o ho => by
  obtain ⟨x, hx, rfl⟩ := List.mem_map.1 ho
  have h1 := h x (List.mem_of_mem_take hx)
  show In64 (opZ x k).key
  unfold opZ
  split
  · exact h1
  · have := bigZ_lt x.key (n := 6) (by omega)
    exact ⟨by show _ ≤ ((bigZ x.key 6 : Nat) : Int); omega, by show ((bigZ x.key 6 : Nat) : Int) ≤ _; omega⟩
set_option maxHeartbeats 12800000 in
theorem plays_walk (tb : Int) (A0 : Option Addr) (n c0 : Nat) (L : List (List Gp)) (w : World) (h : Lsts Gps w w.heap.size A0 n c0 L) (hk : ∀ l ∈ L, ∀ x ∈ l, OkKey x.key) :
    Calls Try.prog 3 #[.int .i64 tb, .slice A0 n c0] w fun e w' => e = .returned (.bool true) ∧ Below w.heap.size w w' := by
  have HL := Lib.hid h
  have HK := Lib.hid hk
  have hle := h.le
  have HMC := Lib.hid (fun w => mod_any tb 3 w (by omega) (by omega))
  have hml := modZ_lt tb (n := 3) (by omega)
  generalize modZ tb 3 = m at *
  clear h hk
  go_enter Try.func3, Try.ntmps3
  go_upto_region 1 with fail
  go_cut [5] (fun v wx => (∃ k : Nat, v = .int .i64 k ∧ 1 ≤ k ∧ k ≤ 3) ∧ wx = w)
  case first =>
    go_wp2_with (go_at_call 7; refine (HMC.out _).mono ?_; rintro e wx ⟨rfl, rfl⟩)
    go_meet
    exact ⟨⟨m + 1, by first | go_num | (congr 1; omega), by omega, by omega⟩, rfl⟩
  obtain ⟨⟨k, rfl, hk1, hk3⟩, hw⟩ := hcut
  have hw2 := hw.symm
  clear hw
  subst hw2
  go_upto_block 0 with (first
    | (go_at_call 8; refine (new_any k hk1 (by omega) _).mono ?_; rintro e w1 ⟨rfl, hg, hz, hb⟩; have HGA := Lib.hid hg; have HZ1 := Lib.hid hz; have HB1 := Lib.hid hb; clear hg hz hb)
    | (go_at_call 9; refine (rnew_any k hk1 (by omega) _).mono ?_; rintro e w2 ⟨p, rfl, hr, hb2⟩; have HTW := Lib.hid (Two.made HGA.out HZ1.out HB1.out hr hb2); have HB2 := Lib.hid (HB1.out.trans (hb2.mono HB1.out.size)); clear hr hb2))
  go_cut [9] (fun v wx => ∃ i, i ≤ 20 ∧ PlRel w k p i wx)
  case first =>
    go_wp2_with fail
    go_loopw [9] (fun vi wr => ∃ i : Nat, vi = .int .i64 i ∧ i ≤ n ∧ i ≤ 20 ∧ PlRel w k p i wr) (fun vi _ => n - (Go.RowKit.intOf vi).toNat)
    case atStart => exact ⟨0, rfl, Nat.zero_le _, by omega, E k, HTW.out, HB2.out⟩
    case round =>
      obtain ⟨i, rfl, hin, hi20, T, htw, hbl⟩ := hrel
      have HT := Lib.hid htw
      have HBL := Lib.hid hbl
      clear htw hbl
      by_cases hlt : i < n
      rotate_left
      · have l1 : decide ((i : Int) < (n : Int)) = false := decide_eq_false (by omega)
        have l1n : decide (i < n) = false := decide_eq_false hlt
        go_wp2_with fail
        go_meet
        exact ⟨i, hi20, T, HT.out, HBL.out⟩
      by_cases h20 : i < 20
      rotate_left
      · have l1 : (i : Int) < (n : Int) := by omega
        have l2 : decide ((i : Int) < 20) = false := decide_eq_false (by omega)
        go_wp2_with fail
        go_meet
        exact ⟨i, hi20, T, HT.out, HBL.out⟩
      have l1 : (i : Int) < (n : Int) := by omega
      have l2 : (i : Int) < 20 := by omega
      obtain ⟨b, off, A1, n1, c1, l1', rfl, hbB, q0, hR1, hl1, _⟩ := (HL.out.below HBL.out (fun _ _ _ _ h => h.below HBL.out)).at_ hlt
      have HQ0 := Lib.hid q0
      have HR1 := Lib.hid hR1
      have HK1 := Lib.hid (HK.out l1' (List.mem_of_getElem? hl1))
      have hle1 := hR1.le
      have HN1 := Lib.hid hR1.len
      clear q0 hR1 hl1
      generalize wr = wq at *
      go_upto_block 2 with fail
      go_cut [10, 11] (fun v vj wx => ∃ (j : Nat) (A : Option Addr) (c : Nat), v = .slice A j c ∧ j ≤ 20 ∧ j ≤ n1 ∧ wx.ownsRow wq.heap.size 32 5 (.slice A j c) j (ov ((l1'.take j).map (opZ · k))) ∧ Below wq.heap.size wq wx)
      case first =>
        go_wp2_with fail
        go_loopw [10, 11] (fun v vj wx => ∃ (j : Nat) (A : Option Addr) (c : Nat), vj = .int .i64 j ∧ v = .slice A j c ∧ j ≤ 20 ∧ j ≤ n1 ∧ wx.ownsRow wq.heap.size 32 5 v j (ov ((l1'.take j).map (opZ · k))) ∧ Below wq.heap.size wq wx) (fun _ vj _ => n1 - (Go.RowKit.intOf vj).toNat)
        case atStart => exact ⟨0, none, 0, rfl, rfl, by omega, Nat.zero_le _, World.ownsRow_nil _ _ _ _, Below.refl _ _⟩
        case round =>
          obtain ⟨j, A, c, rfl, rfl, hj20, hj1, ho, hbj⟩ := hrel
          have HO := Lib.hid ho
          have HBJ := Lib.hid hbj
          have q0 := held_cell hbj HQ0.out
          clear ho hbj
          by_cases hjn : j < n1
          rotate_left
          · have m1 : decide ((j : Int) < (n1 : Int)) = false := decide_eq_false (by omega)
            have m1n : decide (j < n1) = false := decide_eq_false hjn
            go_wp2_with fail
            go_meet
            exact ⟨j, A, c, rfl, hj20, hj1, HO.out, HBJ.out⟩
          by_cases hj2 : j < 20
          rotate_left
          · have m1 : (j : Int) < (n1 : Int) := by omega
            have m2 : decide ((j : Int) < 20) = false := decide_eq_false (by omega)
            go_wp2_with fail
            go_meet
            exact ⟨j, A, c, rfl, hj20, hj1, HO.out, HBJ.out⟩
          have m1 : (j : Int) < (n1 : Int) := by omega
          have m2 : (j : Int) < 20 := by omega
          obtain ⟨b1, off1, f, rfl, hb1, y0, y1, y2, y3, y4, hf, ht⟩ := (HR1.out.below (HBJ.out.mono HBL.out.size)).at_ hjn
          have HMP : Hid ((l1'.take (j + 1)).map (opZ · k) = (l1'.take j).map (opZ · k) ++ [opZ f k]) := by show _ = _; rw [ht, List.map_append]; rfl
          have HFV : Hid (Value.agg #[.int .i64 f.lsn, .int .i64 f.tbl, .int .i64 f.key, .bool f.gone, .string f.val] = oval f) := (rfl : _ = _)
          obtain ⟨oz, hoz⟩ : ∃ oz, oz = opZ f k := ⟨_, rfl⟩
          obtain ⟨z0, z1, z2, z3, z4⟩ := oz
          have HOZ := Lib.hid hoz
          clear hf ht hoz
          go_wp2_with (first
            | (go_at_call 10
               rw [HFV.out]
               refine (op_any f k _ (by omega) (by omega)).mono ?_
               rw [← HOZ.out]
               unfold oval
               dsimp only
               rintro e wo ⟨rfl, hbo⟩
               have HOO := Lib.hid (own_keep HO.out hbo)
               have HBO := Lib.hid (held_two HBJ.out hbo)
               clear hbo)
            | (at_builtin
               refine wpList_append_row rfl (.tmp 52) (.tmp 62) rfl oel wq.heap.size _ j _ rfl (own_keep HOO.out ((Below.refl _ _).alloc (Nat.le_refl _) _)) (wo.heap.size + 1) _ 1 1 (ov [⟨z0, z1, z2, z3, z4⟩]) rfl (oone wo ⟨z0, z1, z2, z3, z4⟩ rfl) (ov_one _) (by omega) (by omega) (by have := HBO.out.size; simp; omega) ?_
               intro A4 c4 w4 ho4 _ hb4
               rw [← ov_append, HOZ.out, ← HMP.out] at ho4
               have HO4 := Lib.hid ho4
               have HB4 := Lib.hid ((HBO.out.alloc HBO.out.size _).trans hb4)
               clear ho4 hb4)
            | fail)
          go_roundw
          case rel => exact ⟨j + 1, A4, c4, by go_num, rfl, by omega, by omega, HO4.out, HB4.out⟩
          case measure => simp [Go.RowKit.intOf]; omega
      obtain ⟨j, A, c, rfl, hj20, hj1, ho, hbj⟩ := hcut
      have hko : ∀ o ∈ (l1'.take j).map (opZ · k), In64 o.key := opsZ_key HK1.out
      generalize (l1'.take j).map (opZ · k) = ops at *
      have hlo : ops.length = j := (Gps.of_own ho).len
      have HKO := Lib.hid hko
      have HLO := Lib.hid hlo
      have HTV := Lib.hid (HT.out.new hbj)
      have HOV := Lib.hid (Gps.of_own ho)
      have HWV : Hid (Below w.heap.size w wc) := HBL.out.trans (hbj.mono HBL.out.size)
      have hwq : w.heap.size + 2 + k ≤ wq.heap.size := HT.out.code.lt (by omega)
      have HOF : Hid (∀ b off, A = some ⟨b, off, none⟩ → wq.heap.size ≤ b) := fun b off e => by
        subst e
        rcases own_addr ho with ⟨h1, _⟩ | ⟨g, h1⟩
        · cases h1
        · injection h1 with h1
          injection h1 with h1 _
          exact (ho.lt b rfl).1
      clear hko hlo ho hbj
      go_wp2_with fail
      refine (two_put HTV.out wc.heap.size A j c ops HOV.out (Nat.le_refl _) (fun b off e => not_own (by have := HOF.out b off e; omega)) HKO.out (by rw [HLO.out]; omega) (by omega) HWV.out.size).mono ?_
      rintro e w5 ⟨⟨rfl, h5, hb5⟩, ht5⟩
      have HT5 := Lib.hid h5
      have HW5 : Hid (Below w.heap.size w w5) := HWV.out.trans hb5
      have HO5 := Lib.hid ((HOV.out.apart (Nat.le_refl _) (fun b off e => not_own (by have := HOF.out b off e; omega)) ht5).more ht5.size)
      clear h5 hb5 ht5
      go_wp2_with fail
      refine (two_rput HT5.out w5.heap.size A j c ops HO5.out (Nat.le_refl _) (fun b off e => .inr (HOF.out b off e)) (by omega) HW5.out.size).mono ?_
      rintro e w6 ⟨rfl, h6, hb6⟩
      have HT6 := Lib.hid h6
      have HW6 : Hid (Below w.heap.size w w6) := HW5.out.trans hb6
      clear h6 hb6
      have HM6 : Hid (20 * i + ops.length ≤ 20 * (i + 1)) := by show _ ≤ _; rw [HLO.out]; omega
      have HM7 : Hid (20 * i + j ≤ 20 * (i + 1)) := by show _ ≤ _; omega
      generalize doAll T ops = T6 at *
      go_wp2_with fail
      go_loopw [12] (fun vt wx => ∃ t : Int, vt = .int .i64 t ∧ -1 ≤ t ∧ t ≤ (k : Int) + 1 ∧ Below w6.heap.size w6 wx) (fun vt _ => ((k : Int) + 1 - Go.RowKit.intOf vt).toNat)
      case atStart => exact ⟨-1, rfl, by omega, by omega, Below.refl _ _⟩
      case round =>
        obtain ⟨t, rfl, ht0, ht1, hbt⟩ := hrel
        have HBT := Lib.hid hbt
        clear hbt
        by_cases htk : t ≤ (k : Int)
        rotate_left
        · have m1 : decide (t ≤ (k : Int)) = false := decide_eq_false htk
          have HTR := Lib.hid (HT6.out.new HBT.out)
          have HBR : Hid (Below w.heap.size w wr) := held_two HW6.out HBT.out
          go_wp2_with fail
          go_roundw
          case rel => exact ⟨i + 1, by go_num, by omega, by omega, T6, (HTR.out.up).mono2 HM6.out HM7.out, HBR.out⟩
          case measure => simp [Go.RowKit.intOf]; omega
        have m1 : decide (t ≤ (k : Int)) = true := decide_eq_true htk
        have HTR := Lib.hid (HT6.out.new HBT.out)
        go_wp2_with fail
        refine (cells_any w.heap.size k _ _ t _ HTR.out.code (by have := HM6.out; omega) (by omega)).mono ?_
        rintro e w9 ⟨A9, c9, rfl, h9, hb9⟩
        have HC9 := Lib.hid (Ces.of_own h9)
        have HT9 := Lib.hid (HTR.out.new hb9)
        have HB9 : Hid (Below w6.heap.size w6 w9) := held_two HBT.out hb9
        clear h9 hb9
        go_wp2_with fail
        refine (two_rcells HT9.out t (by have := HM7.out; omega)).mono ?_
        rintro e w10 ⟨A10, c10, rfl, h10, hb10⟩
        have HC10 := Lib.hid (Ces.of_own h10)
        have HC9b := Lib.hid (HC9.out.below hb10)
        have HT10 := Lib.hid (HT9.out.new hb10)
        have HB10 : Hid (Below w6.heap.size w6 w10) := held_two HB9.out hb10
        have hs10 := hb10.size
        clear h10 hb10
        go_wp2_with fail
        refine (cplain_same w9.heap.size w10.heap.size A9 A10 _ _ c9 c10 _ _ HC9b.out HC10.out hs10 (Nat.le_refl _)).mono ?_
        rintro e w11 ⟨rfl, hb11⟩
        have HT11 := Lib.hid (HT10.out.new hb11)
        have HB11 : Hid (Below w6.heap.size w6 w11) := held_two HB10.out hb11
        clear hb11 hs10
        go_wp2_with fail
        refine (rows_any w.heap.size k _ _ t _ HT11.out.code (by have := HM6.out; omega) (by omega)).mono ?_
        rintro e w12 ⟨A12, c12, rfl, h12, hb12⟩
        have HC12 := Lib.hid (Idx.Rs.of_own h12)
        have HT12 := Lib.hid (HT11.out.new hb12)
        have HB12 : Hid (Below w6.heap.size w6 w12) := held_two HB11.out hb12
        clear h12 hb12
        go_wp2_with fail
        refine (two_rrows HT12.out t (by have := HM7.out; omega)).mono ?_
        rintro e w13 ⟨A13, c13, rfl, h13, hb13⟩
        have HC13 := Lib.hid (Idx.Rs.of_own h13)
        have HC12b := Lib.hid (HC12.out.below hb13)
        have HB13 : Hid (Below w6.heap.size w6 w13) := held_two HB12.out hb13
        have hs13 := hb13.size
        clear h13 hb13
        go_wp2_with fail
        refine (Idx.rplain_same w12.heap.size w13.heap.size A12 A13 _ _ c12 c13 _ _ HC12b.out HC13.out hs13 (Nat.le_refl _)).mono ?_
        rintro e w14 ⟨rfl, hb14⟩
        have HB14 : Hid (Below w6.heap.size w6 w14) := held_two HB13.out hb14
        clear hb14 hs13
        go_wp2_with fail
        go_roundw
        case rel => exact ⟨t + 1, by first | rfl | go_num, by omega, by omega, HB14.out⟩
        case measure => simp [Go.RowKit.intOf]; omega
  obtain ⟨i, hi20, T, htw, hbl⟩ := hcut
  have HT := Lib.hid htw
  have HBL := Lib.hid hbl
  clear htw hbl HTW HB2
  go_wp2_with fail
  refine (awake_any _).mono ?_
  rintro e w8 ⟨rfl, hb8⟩
  have HT8 := Lib.hid (HT.out.new hb8)
  have HB8 : Hid (Below w.heap.size w w8) := held_two HBL.out hb8
  clear hb8
  go_wp2_with fail
  refine (tables_any w.heap.size k _ _ _ HT8.out.code).mono ?_
  rintro e w9 ⟨rfl, rfl⟩
  go_wp2
  go_ret
  exact ⟨by first | rfl | simp, HB8.out⟩
end Go.Proofs.Ytlbgpfiiiggofaa.Gd
