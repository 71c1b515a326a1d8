/-
  Package fold: a walk goes on (to): whatever takes the changes, of one key's value: contract.
-/
import Derived.Test.YtlgdbpejefgeaaaFoldCol
import Derived.BigQuiet
namespace Go.Proofs.Ytlgdbpejefgeaaa.Fold
set_option linter.unusedVariables false
set_option linter.unusedSimpArgs false
set_option maxRecDepth 100000
open Go.RowKit Base FoldMath Foot
open TxnMath (Ch Tx)
open PChg (gval Cs)
open PTx
open Last (wp_region_last_at then_normal)
set_option linter.ambiguousOpen false

set_option maxHeartbeats 6400000 in
theorem to_spot_any (R : Nat → Prop) (J : List Ch → World → Prop) (v : Value) (M : Nat) (ok : Ch → Prop) (hC : Col R J 34 v M ok) (p B : Nat) (A : Option Addr) (n c j : Nat) (k : Int) (l : List Tx) (w : World)
    (hb : WalkAt w p A n c j (.func (.func 34) #[v] #[])) (hJ : J (chs l j) w) (hl : Txs w B A n c l) (hp : B ≤ p) (hR : ∀ i, R i → B ≤ i ∧ i ≠ p) (hok : ∀ x ∈ chs l n, ok x) (hM : (chs l n).length < M) (hj : j ≤ n) :
    Calls Try.prog 28 #[.pointer (some ⟨p, 0, none⟩), .int .i64 k] w (ToR B J 34 v p A n c l (max j (held k n)) w) := by
  have HW := Lib.hid hb
  have HJ := Lib.hid hJ
  have HL := Lib.hid hl
  have HR := Lib.hid hR
  have HOK := Lib.hid hok
  have HM := Lib.hid hM
  have hle := hl.le
  have hBw : B ≤ w.heap.size := by have := hb.lt; omega
  have hmk : held k n ≤ n := held_le k n
  generalize hK : held k n = h at *
  have HK := Lib.hid hK
  clear hb hJ hl hR hok hM hK
  go_enter Try.func28, Try.ntmps28
  go_wp2
  go_loopw [] (fun wr => AtI B J 34 v p A n c l j h w wr) (fun wr => n - (Go.RowKit.intOf ((wr.cell? ⟨p, 1, none⟩).getD undef)).toNat)
  case atStart => exact ⟨j, Nat.le_refl _, by omega, HW.out, HJ.out, Below.refl _ _⟩
  case round =>
    obtain ⟨i, hji, him, hwa, hjj, hbe⟩ := hrel
    have p0 : wr.cell? ⟨p, 0, none⟩ = some (.slice A n c) := hwa.cell 0
    have p1 : wr.cell? ⟨p, 1, none⟩ = some (.int .i64 i) := hwa.cell 1
    have CH : Hid (∀ q, Calls Try.prog 35 #[.pointer (some ⟨p, 0, none⟩), .int .i64 k] (wr.drewN q) fun e w'' => e = .returned (.int .i64 h) ∧ ∃ q', w'' = wr.drewN q') := fun q => by rw [← HK.out]; exact (held_any p A n c k (wr.drewN q) p0).mono fun e w'' hh => ⟨hh.1, q, hh.2.symm⟩
    have HWA := Lib.hid hwa
    have HJJ := Lib.hid hjj
    have HBE := Lib.hid hbe
    have hpl := hwa.lt
    have hbz := hbe.size
    clear hwa hjj hbe
    by_cases hih : i < h
    · have l1 : (i : Int) < (h : Int) := by omega
      obtain ⟨b, off, x, rfl, hbB, hx, A1, n1, c1, A2, n2, c2, x0, x1, x2, x3, x4, hcs, _⟩ := (HL.out.below HBE.out).at_ (show i < n by omega)
      have HX := Lib.hid hx
      have HCS := Lib.hid hcs
      have hn1 := hcs.le
      have hl1 := hcs.len
      clear hx hcs
      go_upto_region 0 with fail
      go_quiet (first | (go_at_call 35; exact CH.out _))
      have HWA1 : Hid (WalkAt (wr.drewN nq) p (some ⟨b, off, none⟩) n c i (.func (.func 34) #[v] #[])) := Blk.drewN HWA.out _
      have HJ1 : Hid (J (chs l i) (wr.drewN nq)) := hC.keep _ _ _ HJJ.out fun _ _ _ => rfl
      have HB1 : Hid (Below B w (wr.drewN nq)) := below_drewN HBE.out _
      have z0 : (wr.drewN nq).cell? ⟨b, off + i * 5, none⟩ = some (.int .i64 x.lsn) := x0
      have z1 : (wr.drewN nq).cell? ⟨b, off + i * 5 + 1, none⟩ = some (.int .i64 x.kind) := x1
      have z2 : (wr.drewN nq).cell? ⟨b, off + i * 5 + 2, none⟩ = some (.slice A1 n1 c1) := x2
      have z3 : (wr.drewN nq).cell? ⟨b, off + i * 5 + 3, none⟩ = some (.slice A2 n2 c2) := x3
      have z4 : (wr.drewN nq).cell? ⟨b, off + i * 5 + 4, none⟩ = some (.int .i64 x.mark) := x4
      have HCS1 : Hid (Cs (wr.drewN nq) B A1 n1 c1 x.chs) := HCS.out
      have hpl1 : p < (wr.drewN nq).heap.size := hpl
      have HP1 := Lib.hid p1
      clear x0 x1 x2 x3 x4 p0 p1 HWA HJJ HBE HCS CH hpl hbz
      generalize wr.drewN nq = W1 at *
      go_wp2_with fail
      refine (next_any p b off n c i _ x.lsn x.kind x.mark A1 n1 c1 A2 n2 c2 W1 HWA1.out (by omega) (by omega) z0 z1 z2 z3 z4).mono ?_
      rintro e w2 ⟨rfl, hw2, ht2⟩
      have HM0 : Hid (AtM B J 34 v p (some ⟨b, off, none⟩) n c l x i w 0 w2) := by
        refine ⟨hw2, ?_, HB1.out.trans (ht2.below (fun i hi => by subst hi; exact hp) (by omega))⟩
        rw [List.take_zero, List.append_nil]
        exact hC.keep _ _ _ HJ1.out fun q hq hR => ht2.block q hq (fun e => (HR.out q hR).2 e)
      have HCS2 : Hid (∀ wx, Below B w wx → Cs wx B A1 n1 c1 x.chs) := fun wx hbx => Row.keep (HCS1.out) fun q hq => (hbx.cell hq).trans (HB1.out.cell hq).symm
      clear hw2 ht2 z0 z1 z2 z3 z4 HWA1 HJ1 HCS1
      unfold txval
      have hfld : (Instr.field 42 (.agg #[.int .i64 x.lsn, .int .i64 x.kind, .slice A1 n1 c1, .slice A2 n2 c2, .int .i64 x.mark]) 2).run Try.prog w2 = .ok (.slice A1 n1 c1) w2 := by kernel_rfl
      go_wp2_with fail
      go_loopw [23] (fun vi wx => ∃ m : Nat, vi = .int .i64 m ∧ m ≤ n1 ∧ AtM B J 34 v p (some ⟨b, off, none⟩) n c l x i w m wx) (fun vi _ => n1 - (Go.RowKit.intOf vi).toNat)
      case atStart => exact ⟨0, rfl, Nat.zero_le _, HM0.out⟩
      case round =>
        obtain ⟨m, rfl, hm, hma⟩ := hrel
        have HMA := Lib.hid hma
        clear HM0
        by_cases hmn : m < n1
        · obtain ⟨hwa, hjj, hbe⟩ := hma
          obtain ⟨b3, off3, f, rfl, hb3, c0, c1', c2', c3, hf, ht⟩ := (HCS2.out wr hbe).at_ hmn
          have HF := Lib.hid (And.intro hf ht)
          have p2 : wr.cell? ⟨p, 2, none⟩ = some (.func (.func 34) #[v] #[]) := hwa.cell 2
          have hpx := hwa.lt
          have l2 : (m : Int) < (n1 : Int) := by omega
          obtain ⟨ft, fk, fg, fv⟩ := f
          dsimp only at c0 c1' c2' c3
          clear hwa hjj hbe hf ht
          go_upto_region 4 with fail
          have hbx : Below wr.heap.size wr (wr.alloc (.cells #[.int .i64 ft, .int .i64 fk, .bool fg, .string fv] 44)) := (Below.refl _ _).alloc (Nat.le_refl _) _
          have hxx : Blk (wr.alloc (.cells #[.int .i64 ft, .int .i64 fk, .bool fg, .string fv] 44)) wr.heap.size 44 #[.int .i64 ft, .int .i64 fk, .bool fg, .string fv] := Blk.new _ _ _
          generalize (wr.alloc (.cells #[.int .i64 ft, .int .i64 fk, .bool fg, .string fv] 44)) = W at hbx hxx ⊢
          refine wp_region_last_at (S := fun w' => w'.cell? ⟨p, 2, none⟩ = some (.func (.func 34) #[v] #[]) ∧ w'.cell? ⟨wr.heap.size, 0, none⟩ = some (.int .i64 ft) ∧ w'.cell? ⟨wr.heap.size, 1, none⟩ = some (.int .i64 fk) ∧ w'.cell? ⟨wr.heap.size, 2, none⟩ = some (.bool fg) ∧ w'.cell? ⟨wr.heap.size, 3, none⟩ = some (.string fv)) 5 _ rfl rfl (by kernel_rfl) (by kernel_rfl) (by kernel_rfl)
            ⟨held_cell hbx p2, hxx.cell 0, hxx.cell 1, hxx.cell 2, hxx.cell 3⟩ (fun hHeld => ?_)
          simp only [List.take_succ_cons, List.take_zero]
          refine wpAnyH_take (i := 0) (v := ?av0) rfl (by kernel_rfl) (by kernel_rfl) (by kernel_rfl) (fun _ _ _ h => h) (Or.inl ⟨by rfl, ?ay0⟩) (by assumption) ?ar0
          case ay0 => (intro w hSw; (try dsimp only at hSw); go_simp; try with_reducible rfl)
          try simp only [Act.put, List.getElem_toArray, List.getElem_cons_succ, List.getElem_cons_zero, List.setIfInBounds_toArray, List.set_cons_zero, List.set_cons_succ]
          refine wpAnyH_take (i := 1) (v := ?av1) rfl (by kernel_rfl) (by kernel_rfl) (by kernel_rfl) (fun _ _ _ h => h) (Or.inl ⟨by rfl, ?ay1⟩) (by assumption) ?ar1
          case ay1 => (intro w hSw; (try dsimp only at hSw); go_simp; try with_reducible rfl)
          try simp only [Act.put, List.getElem_toArray, List.getElem_cons_succ, List.getElem_cons_zero, List.setIfInBounds_toArray, List.set_cons_zero, List.set_cons_succ]
          refine wpAnyH_take (i := 2) (v := ?av2) rfl (by kernel_rfl) (by kernel_rfl) (by kernel_rfl) (fun _ _ _ h => h) (Or.inl ⟨by rfl, ?ay2⟩) (by assumption) ?ar2
          case ay2 => (intro w hSw; (try dsimp only at hSw); go_simp; try with_reducible rfl)
          try simp only [Act.put, List.getElem_toArray, List.getElem_cons_succ, List.getElem_cons_zero, List.setIfInBounds_toArray, List.set_cons_zero, List.set_cons_succ]
          refine wpAnyH_take (i := 3) (v := ?av3) rfl (by kernel_rfl) (by kernel_rfl) (by kernel_rfl) (fun _ _ _ h => h) (Or.inl ⟨by rfl, ?ay3⟩) (by assumption) ?ar3
          case ay3 => (intro w hSw; (try dsimp only at hSw); go_simp; try with_reducible rfl)
          try simp only [Act.put, List.getElem_toArray, List.getElem_cons_succ, List.getElem_cons_zero, List.setIfInBounds_toArray, List.set_cons_zero, List.set_cons_succ]
          refine wpAnyH_take (i := 4) (v := ?av4) rfl (by kernel_rfl) (by kernel_rfl) (by kernel_rfl) (fun _ _ _ h => h) (Or.inl ⟨by rfl, ?ay4⟩) (by assumption) ?ar4
          case ay4 => (intro w hSw; (try dsimp only at hSw); go_simp; try with_reducible rfl)
          try simp only [Act.put, List.getElem_toArray, List.getElem_cons_succ, List.getElem_cons_zero, List.setIfInBounds_toArray, List.set_cons_zero, List.set_cons_succ]
          refine wpAnyH_done (by kernel_rfl) ?_ _
          refine then_normal rfl ?_
          have HAW : Hid (WalkAt W.drew p (some ⟨b, off, none⟩) n c (i + 1 : Nat) (.func (.func 34) #[v] #[]) ∧ J (chs l i ++ x.chs.take m) W.drew ∧ Below B w W.drew) := by
            obtain ⟨hwa, hjj, hbe⟩ := HMA.out
            refine ⟨Blk.below hwa hbx.drew hpx, hC.keep _ _ _ hjj fun q hq _ => hbx.block q hq, ?_⟩
            exact (hbe.trans (hbx.mono (by have := hbe.size; omega))).drew
          have hroom : (chs l i ++ x.chs.take m).length < M := Nat.lt_trans (chs_room HX.out (by omega) (by omega)) HM.out
          have hokf : ok ⟨ft, fk, fg, fv⟩ := HOK.out _ (chs_in HX.out (by omega) (List.mem_of_getElem? HF.out.1))
          have CT := Lib.hid (hC.take _ ⟨ft, fk, fg, fv⟩ W.drew HAW.out.2.1 hokf hroom)
          clear hbx hxx hHeld
          go_wp2_with fail
          refine CT.out.mono ?_
          rintro e w4 ⟨rfl, hj4, ht4⟩
          have HN : Hid (AtM B J 34 v p (some ⟨b, off, none⟩) n c l x i w (m + 1) w4) := by
            obtain ⟨hwa, hjj, hbe⟩ := HAW.out
            refine ⟨(ht4.block p hwa.lt (fun h => (HR.out p h).2 rfl)).trans hwa, ?_, hbe.trans (ht4.below (fun q hq => (HR.out q hq).1) (by have := hbe.size; omega))⟩
            rw [HF.out.2, ← List.append_assoc]
            exact hj4
          clear hj4 ht4 CT HAW
          go_wp2
          go_roundw
          case rel => exact ⟨m + 1, by go_num, by omega, HN.out⟩
          case measure => simp [Go.RowKit.intOf]; omega
        · obtain rfl : m = n1 := by omega
          have l2 : ¬ (m : Int) < (m : Int) := by omega
          have hcell : wr.cell? ⟨p, 1, none⟩ = some (.int .i64 ((i + 1 : Nat) : Int)) := hma.1.cell 1
          have HE : Hid (AtI B J 34 v p (some ⟨b, off, none⟩) n c l j h w wr) := by
            obtain ⟨hwa, hjj, hbe⟩ := hma
            rw [List.take_of_length_le (by omega), ← chs_succ HX.out] at hjj
            exact ⟨i + 1, by omega, by omega, hwa, hjj, hbe⟩
          clear hma HMA
          go_wp2
          go_roundw
          case rel => exact HE.out
          case measure => rw [hcell, HP1.out]; simp [Go.RowKit.intOf]; omega
    · have l1 : ¬ (i : Int) < (h : Int) := by omega
      go_upto_region 0 with fail
      go_quiet (first | (go_at_call 35; exact CH.out _))
      go_wp2
      go_end0
      obtain rfl : i = max j h := by omega
      exact ⟨rfl, Blk.drewN HWA.out _, hC.keep _ _ _ HJJ.out fun _ _ _ => rfl, below_drewN HBE.out _⟩
end Go.Proofs.Ytlgdbpejefgeaaa.Fold
