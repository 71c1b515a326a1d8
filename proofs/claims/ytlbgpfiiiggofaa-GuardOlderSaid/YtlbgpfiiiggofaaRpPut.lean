/-
  The document's replica: contract of its Put. No condition but the sizes said, and that the ops lie off the replica.
-/
import Derived.Test.YtlbgpfiiiggofaaRpSet
import Derived.Test.YtlbgpfiiiggofaaOpMem
import Derived.Test.YtlbgpfiiiggofaaRegionLast
import Derived.Test.YtlbgpfiiiggofaaGdPuts
import Derived.Deep.DeepCutAuto
import Derived.Deep.CutBlock
import Derived.BigQuiet
namespace Go.Proofs.Ytlbgpfiiiggofaa.Gd
set_option linter.unusedVariables false
set_option linter.unusedSimpArgs false
set_option maxRecDepth 100000
open Go.RowKit Base GuardMath Foot
set_option linter.ambiguousOpen false

theorem pos_step {l : List Ce} {k : Int} {i : Nat} {x : Ce} (hi : i ≤ pos l k) (hx : l[i]? = some x) (h : x.key < k) : i + 1 ≤ pos l k := by
  induction l generalizing i with
  | nil => simp at hx
  | cons y r ih =>
    unfold pos at hi ⊢
    by_cases hy : y.key < k
    · rw [if_pos hy] at hi ⊢
      cases i with
      | zero => omega
      | succ i => have := ih (i := i) (by omega) (by simpa using hx); omega
    · rw [if_neg hy] at hi
      obtain rfl : i = 0 := by omega
      simp at hx
      subst hx
      exact absurd h hy
theorem pos_stop {l : List Ce} {k : Int} {i : Nat} {x : Ce} (hi : i ≤ pos l k) (hx : l[i]? = some x) (h : ¬ x.key < k) : i = pos l k := by
  induction l generalizing i with
  | nil => simp at hx
  | cons y r ih =>
    unfold pos at hi ⊢
    by_cases hy : y.key < k
    · rw [if_pos hy] at hi ⊢
      cases i with
      | zero =>
        simp at hx
        subst hx
        exact absurd hy h
      | succ i => have := ih (i := i) (by omega) (by simpa using hx); omega
    · rw [if_neg hy] at hi ⊢
      omega
theorem own_nilcap {w : World} {base : Nat} {e : TypeId} {size n c : Nat} {vs : List Value} (h : w.ownsRow base e size (.slice none n c) n vs) : n = 0 ∧ c = 0 := by
  rcases h.2 with ⟨hv, h0⟩ | ⟨g, cap, cur, hv, _⟩
  · injection hv with _ _ hc
    exact ⟨h0, hc⟩
  · cases hv
def RPutR (w : World) (R : Nat → Prop) (p : Nat) (T : List (List Ce)) (l : List Gp) (e : Ending) (w' : World) : Prop := e = .returned (.int .i64 (cnt T l)) ∧ RAt w' (Out R w w') p (doAll T l) ∧ Turn R w w'
def RStep (w : World) (R : Nat → Prop) (p n M : Nat) (T : List (List Ce)) (l : List Gp) (k : Nat) (wr : World) : Prop := k ≤ n ∧ RAt wr (Out R w wr) p (doAll T (l.take k)) ∧ Most (doAll T (l.take k)) (M + k) ∧ Turn R w wr
theorem RStep.idle {w wr w2 : World} {R : Nat → Prop} {p n M : Nat} {T : List (List Ce)} {l : List Gp} {k : Nat} (hs : RAt wr (Out R w wr) p (doAll T (l.take k))) (hm : Most (doAll T (l.take k)) (M + k)) (ht : Turn R w wr) (hk : k < n) (he : doAll T (l.take (k + 1)) = doAll T (l.take k)) (hb : Below wr.heap.size wr w2) : RStep w R p n M T l (k + 1) w2 :=
  ⟨hk, by rw [he]; exact (hs.new hb).mono fun i _ hi => Out.mono hb.size hi, by rw [he]; exact hm.mono (by omega), ht.trans (Turn.new (F := R) hb) fun _ h => .inl h⟩
theorem held_alloc_drew2 (V : World) (a b : Obj) : Below V.heap.size V ((V.alloc a).alloc b).drew := (((Below.refl _ _).alloc (Nat.le_refl _) a).alloc (by simp) b).drew
/-- one cell in a block reads as a row of one -/
theorem cone_blk {w : World} {g : Nat} {y : Ce} (h : Blk w g 38 #[.int .i64 y.key, .int .i64 y.lsn, .bool y.gone, .string y.val]) : Row w w.heap.size 4 (some ⟨g, 0, none⟩) 1 1 (cv [y]) := by
  refine ⟨rfl, Nat.le_refl _, by omega, fun _ => ⟨g, 0, rfl, h.lt, fun j u hu => ?_⟩⟩
  rw [Nat.zero_add, h.cell]
  have e : cv [y] = [.int .i64 y.key, .int .i64 y.lsn, .bool y.gone, .string y.val] := rfl
  rw [e] at hu
  rw [← Array.getElem?_toList]
  exact hu
theorem rp_ne {w : World} {R : Nat → Prop} {p b : Nat} {cs : Array Value} {T : List (List Ce)} (h : RLie w R p b cs T) : p ≠ b := fun e => by
  have h3 := h.row
  have h4 := h.box
  unfold Blk at h3 h4
  rw [e, h3] at h4
  simp at h4
/-- a cell that holds a number is not of the row of tables -/
theorem rp_apart {w : World} {R : Nat → Prop} {p b : Nat} {cs : Array Value} {T : List (List Ce)} {b' off : Nat} {k : Int} (h : RLie w R p b cs T) (hc : w.cell? ⟨b', off, none⟩ = some (.int .i64 k)) : b' ≠ b := by
  rintro rfl
  rw [h.row.cell off] at hc
  have hlt : off < cs.size := by
    rcases Nat.lt_or_ge off cs.size with hh | hh
    · exact hh
    · rw [Array.getElem?_eq_none hh] at hc; cases hc
  obtain ⟨A, n, c, e, _⟩ := h.each off _ _ hc (List.getElem?_eq_getElem (by rw [← h.len]; exact hlt))
  cases e
/-- the i-th table turned, in the row -/
theorem rturn_lay {w wr w2 : World} {R : Nat → Prop} {p b i : Nat} {cs : Array Value} {T : List (List Ce)} (h : RLie wr (Out R w wr) p b cs T) (hi : i < T.length) (ht : Turn R w wr) (hb : Below wr.heap.size wr w2) {A : Option Addr} {n c : Nat} {l : List Ce} (ho : w2.ownsRow 0 38 4 (.slice A n c) n (cv l)) (hg : ∀ g, (Value.slice A n c).ownBlock = some g → Out (Out R w wr) wr w2 g) (hr : Rise l) :
    RAt (w2.setCell ⟨b, i, none⟩ (.slice A n c)) (Out R w (w2.setCell ⟨b, i, none⟩ (.slice A n c))) p (T.set i l) ∧ Turn R w (w2.setCell ⟨b, i, none⟩ (.slice A n c)) := by
  have hsz : (w2.setCell ⟨b, i, none⟩ (.slice A n c)).heap.size = w2.heap.size := by simp [World.setCell]
  refine ⟨⟨b, _, (h.lay hi hb ho hg hr).mono fun x _ hx => ?_⟩, ?_⟩
  · have := Out.two ht hx hb.size
    rcases this with h1 | h1
    · exact .inl h1
    · exact .inr ⟨h1.1, by rw [hsz]; exact h1.2⟩
  · refine (ht.trans (Turn.new (F := fun _ => False) hb) fun _ hf => hf.elim).setCell ?_ _
    rcases h.inb with h1 | h1
    · exact .inl h1
    · exact .inr h1.1
set_option maxHeartbeats 12800000 in
theorem rput_any (R : Nat → Prop) (p : Nat) (T : List (List Ce)) (M : Nat) (A : Option Addr) (n c : Nat) (l : List Gp) (w : World) (h : RAt w R p T) (hl : ∀ wr, Turn R w wr → Gps wr wr.heap.size A n c l) (hM : Most T M) (hsz : M + n ≤ 1099511627774) :
    Calls Try.prog 12 #[.pointer (some ⟨p, 0, none⟩), .slice A n c] w (RPutR w R p T l) := by
  have HS := Lib.hid h
  have HC := Lib.hid hl
  have HLEN := Lib.hid (hl w (.refl _ _)).len
  have hle := (hl w (.refl _ _)).le
  have HM := Lib.hid hM
  clear h hl hM
  go_enter Try.func12, Try.ntmps12
  go_wp2
  go_loopw [5, 6] (fun v vi wr => ∃ k : Nat, vi = .int .i64 k ∧ v = .int .i64 (cnt T (l.take k)) ∧ RStep w R p n M T l k wr) (fun _ vi _ => n - (Go.RowKit.intOf vi).toNat)
  case atStart => exact ⟨0, rfl, rfl, Nat.zero_le _, HS.out.mono fun i _ hi => .inl hi, HM.out, Turn.refl _ _⟩
  case round =>
    obtain ⟨k, rfl, rfl, hk, hset, hmost, hturn⟩ := hrel
    by_cases hkn : k < n
    rotate_left
    · obtain rfl : k = n := by omega
      have hlk : l.take k = l := List.take_of_length_le (by rw [HLEN.out]; exact Nat.le_refl _)
      rw [hlk] at hset
      rw [hlk]
      have H1 := Lib.hid hset
      have H2 := Lib.hid hturn
      clear hset hturn hmost
      go_wp2
      go_ret
      exact ⟨rfl, H1.out, H2.out⟩
    obtain ⟨b, off, f, rfl, hbB, c0, c1, c2, c3, c4, hf, ht⟩ := (HC.out wr hturn).at_ hkn
    obtain ⟨f0, f1, f2, f3, f4⟩ := f
    dsimp only at c0 c1 c2 c3 c4
    have HDA : Hid (doAll T (l.take (k + 1)) = do1 (doAll T (l.take k)) ⟨f0, f1, f2, f3, f4⟩) := by show _ = _; rw [ht, doAll_snoc]
    have HCN : Hid (cnt T (l.take (k + 1)) = cnt T (l.take k) + if plays (doAll T (l.take k)) ⟨f0, f1, f2, f3, f4⟩ then 1 else 0) := by show _ = _; rw [ht, cnt_snoc]
    have hcl : cnt T (l.take k) ≤ k := Nat.le_trans (cnt_le _ _) (by rw [List.length_take]; omega)
    have hkM : k ≤ 1099511627774 := by omega
    have hb : Below wr.heap.size wr (wr.alloc (.cells #[.int .i64 f0, .int .i64 f1, .int .i64 f2, .bool f3, .string f4] 32)) := (Below.refl _ _).alloc (Nat.le_refl _) _
    have hx : Blk (wr.alloc (.cells #[.int .i64 f0, .int .i64 f1, .int .i64 f2, .bool f3, .string f4] 32)) wr.heap.size 32 #[.int .i64 f0, .int .i64 f1, .int .i64 f2, .bool f3, .string f4] := Blk.new _ _ _
    have l0 : (k : Int) < (n : Int) := by omega
    have HSET := Lib.hid hset
    have HMO := Lib.hid hmost
    have HTU := Lib.hid hturn
    clear hset hmost hturn hf ht
    go_upto_region 6 with fail
    generalize (wr.alloc (.cells #[.int .i64 f0, .int .i64 f1, .int .i64 f2, .bool f3, .string f4] 32)) = W at hb hx ⊢
    obtain ⟨q, hq⟩ : ∃ q, q = wr.heap.size := ⟨_, rfl⟩
    rw [← hq] at hx ⊢
    have HQ := Lib.hid hq
    have HX := Lib.hid hx
    have HB := Lib.hid hb
    have x0 := hx.cell 0
    have x1 := hx.cell 1
    have x2 := hx.cell 2
    have x3 := hx.cell 3
    have x4 := hx.cell 4
    clear c0 c1 c2 c3 c4 hq
    obtain ⟨bb, cs, hY⟩ := HSET.out
    have hYW : RLie W (Out R w wr) p bb cs (doAll T (l.take k)) := hY.keep fun i hi _ => hb.block i hi
    have d0 : W.cell? ⟨p, 0, none⟩ = some (.slice (some ⟨bb, 0, none⟩) (doAll T (l.take k)).length (doAll T (l.take k)).length) := hYW.box.cell 0
    have HY := Lib.hid hY
    have HYW := Lib.hid hYW
    clear hY hYW hx hb
    generalize hTT : doAll T (l.take k) = TT at *
    have HTT := Lib.hid hTT
    clear hTT
    rcases Int.lt_or_le f1 0 with t1 | t1
    · have HI : Hid (plays TT ⟨f0, f1, f2, f3, f4⟩ = false) := by show _ = _; unfold plays; rw [show isT TT f1 = false from decide_eq_false (by omega)]; rfl
      have k1 : decide (f1 < 0) = true := decide_eq_true t1
      have HC0 : Hid (cnt T (l.take (k + 1)) = cnt T (l.take k)) := by show _ = _; rw [HCN.out, HI.out]; rfl
      have HD0 : Hid (doAll T (l.take (k + 1)) = doAll T (l.take k)) := by show _ = _; rw [HDA.out, do1_idle HI.out, HTT.out]
      clear t1
      go_quiet (fail)
      go_wp2
      go_roundw
      case rel => exact ⟨k + 1, by go_num, by rw [HC0.out], RStep.idle (by rw [HTT.out]; exact HSET.out) (by rw [HTT.out]; exact HMO.out) HTU.out hkn HD0.out (below_drewN HB.out _)⟩
      case measure => simp [Go.RowKit.intOf]; omega
    by_cases t2 : f1 < (TT.length : Int)
    rotate_left
    · have HI : Hid (plays TT ⟨f0, f1, f2, f3, f4⟩ = false) := by show _ = _; unfold plays; rw [show isT TT f1 = false from decide_eq_false (by omega)]; rfl
      have k1 : decide (f1 < 0) = false := decide_eq_false (by omega)
      have k2 : decide ((TT.length : Int) ≤ f1) = true := decide_eq_true (by omega)
      have HC0 : Hid (cnt T (l.take (k + 1)) = cnt T (l.take k)) := by show _ = _; rw [HCN.out, HI.out]; rfl
      have HD0 : Hid (doAll T (l.take (k + 1)) = doAll T (l.take k)) := by show _ = _; rw [HDA.out, do1_idle HI.out, HTT.out]
      clear t1 t2
      go_quiet (fail)
      go_wp2
      go_roundw
      case rel => exact ⟨k + 1, by go_num, by rw [HC0.out], RStep.idle (by rw [HTT.out]; exact HSET.out) (by rw [HTT.out]; exact HMO.out) HTU.out hkn HD0.out (below_drewN HB.out _)⟩
      case measure => simp [Go.RowKit.intOf]; omega
    obtain ⟨i, rfl⟩ := Int.eq_ofNat_of_zero_le t1
    have hi : i < TT.length := by omega
    obtain ⟨A5, n5, c5, l0, e2, d2, ho0, hr0, hg0⟩ := HYW.out.get hi
    have htab : tab TT (i : Int) = l0 := tab_get e2
    have HPL : Hid (plays TT ⟨f0, i, f2, f3, f4⟩ = !held l0 ⟨f0, i, f2, f3, f4⟩) := by show _ = _; unfold plays; rw [show isT TT ((⟨f0, i, f2, f3, f4⟩ : Gp).tbl) = true from isT_mk hi, Bool.true_and]; exact congrArg (fun t => !held t _) htab
    have HDO : Hid (do1 TT ⟨f0, i, f2, f3, f4⟩ = TT.set i (put l0 ⟨f0, i, f2, f3, f4⟩)) := by
      show _ = _
      unfold do1
      rw [if_pos (show isT TT ((⟨f0, i, f2, f3, f4⟩ : Gp).tbl) = true from isT_mk hi)]
      show TT.set ((i : Int).toNat) (put (tab TT (i : Int)) _) = _
      rw [Int.toNat_natCast, htab]
    have hln : l0.length = n5 := Ces.len (Ces.of_own ho0)
    have hn5 : n5 ≤ 1099511627773 := by have := HMO.out (i : Int); rw [htab] at this; omega
    have hle5 : n5 ≤ c5 ∧ c5 ≤ 9223372036854775807 := Ces.le (Ces.of_own ho0)
    have HLN5 := Lib.hid hln
    have HO0 := Lib.hid ho0
    have HR0 := Lib.hid hr0
    have HD2 : Hid (wr.cell? ⟨bb, i, none⟩ = some (.slice A5 n5 c5)) := by
      show _ = _
      rw [← d2]
      exact (HB.out.cell (p := ⟨bb, i, none⟩) HY.out.row.lt).symm
    have HYR := Lib.hid HY.out
    have hpne : p ≠ bb := rp_ne HYW.out
    have hqne : q ≠ bb := rp_apart HYW.out x0
    have k1 : decide ((i : Int) < 0) = false := decide_eq_false (by omega)
    have k2 : decide ((TT.length : Int) ≤ (i : Int)) = false := decide_eq_false (by omega)
    have k2n : decide (TT.length ≤ i) = false := decide_eq_false (by omega)
    have l3 : (i : Int) < (TT.length : Int) := t2
    have hple := pos_le l0 f2
    rw [hln] at hple
    clear ho0 hr0 hg0 e2 htab t1 t2 HY
    go_cut [35] (fun v wx => v = .bool false ∧ Below W.heap.size W wx)
    case first =>
      go_quiet (fail)
      go_wp2_with fail
      go_meet
      exact ⟨rfl, below_drewN (Below.refl _ _) _⟩
    obtain ⟨rfl, hc1⟩ := hcut
    have D1 := held_cell hc1 d0
    have D2 := held_cell hc1 d2
    have D3 := held_cell hc1 x1
    have HC1 := Lib.hid hc1
    clear d0 d2 hc1
    go_upto_region 7 with fail
    go_cut [8] (fun v wx => v = .slice A5 n5 c5 ∧ Below W.heap.size W wx)
    case first =>
      go_quiet (fail)
      go_wp2_with fail
      go_meet
      exact ⟨rfl, below_drewN HC1.out _⟩
    obtain ⟨rfl, hc2⟩ := hcut
    have HV := Lib.hid hc2
    have v0 := held_cell hc2 x0
    have v2 := held_cell hc2 x2
    have v3 := held_cell hc2 x3
    have v4 := held_cell hc2 x4
    have v1 := held_cell hc2 x1
    have HRW : Hid (Ces wc wc.heap.size A5 n5 c5 l0) := Ces.of_own (own_keep HO0.out hc2)
    clear HC1 D1 D2 D3 hc2 x0 x1 x2 x3 x4 k1 k2 k2n
    generalize wc = V at *
    go_upto_block 2 with fail
    go_cut [9] (fun v wx => v = .int .i64 (pos l0 f2) ∧ Below V.heap.size V wx)
    case first =>
      go_wp2_with fail
      go_loopw [9] (fun vi wx => ∃ j : Nat, vi = .int .i64 j ∧ j ≤ pos l0 f2 ∧ Below V.heap.size V wx) (fun vi _ => n5 - (Go.RowKit.intOf vi).toNat)
      case atStart => exact ⟨0, rfl, Nat.zero_le _, Below.refl _ _⟩
      case round =>
        obtain ⟨j, rfl, hj, hbl⟩ := hrel
        have HBL := Lib.hid hbl
        have u2 := held_cell hbl v2
        clear hbl
        by_cases hjn : j < n5
        · obtain ⟨b5, off5, y, rfl, hb5, z0, z1, z2, z3, hy, _⟩ := (HRW.out.below HBL.out).at_ hjn
          have m1 : decide ((j : Int) < (n5 : Int)) = true := decide_eq_true (by omega)
          have m1n : decide (j < n5) = true := decide_eq_true hjn
          by_cases hyk : y.key < f2
          · have m2 : decide (y.key < f2) = true := decide_eq_true hyk
            have HP := Lib.hid (pos_step hj hy hyk)
            clear hyk hy hj
            go_upto_region 9 with fail
            go_quiet (fail)
            go_wp2
            go_roundw
            case rel => exact ⟨j + 1, by go_num, HP.out, below_drewN HBL.out _⟩
            case measure => simp [Go.RowKit.intOf]; omega
          · have m2 : decide (y.key < f2) = false := decide_eq_false hyk
            have HP := Lib.hid (pos_stop hj hy hyk)
            clear hyk hy hj
            go_upto_region 9 with fail
            go_quiet (fail)
            go_wp2_with fail
            go_meet
            exact ⟨by rw [← HP.out], below_drewN HBL.out _⟩
        · have m1 : decide ((j : Int) < (n5 : Int)) = false := decide_eq_false (by omega)
          have m1n : decide (j < n5) = false := decide_eq_false hjn
          have HP := Lib.hid (show j = pos l0 f2 by omega)
          clear hj
          go_upto_region 9 with fail
          go_quiet (fail)
          go_wp2_with fail
          go_meet
          exact ⟨by rw [← HP.out], below_drewN HBL.out _⟩
    obtain ⟨rfl, hc3⟩ := hcut
    have HU := Lib.hid (held_two HV.out hc3)
    have u0 := held_cell hc3 v0
    have u1 := held_cell hc3 v1
    have u2 := held_cell hc3 v2
    have u3 := held_cell hc3 v3
    have u4 := held_cell hc3 v4
    have HRU : Hid (Ces wc wc.heap.size A5 n5 c5 l0) := (HRW.out.below hc3).more hc3.size
    clear v0 v1 v2 v3 v4 hc3 HV HRW
    generalize wc = U at *
    obtain ⟨ip, hip⟩ : ∃ ip, ip = pos l0 f2 := ⟨_, rfl⟩
    rw [← hip] at hple ⊢
    have HIP := Lib.hid hip
    clear hip
    go_upto_region 11 with fail
    go_cut [10] (fun v wx => v = .bool (at_ l0 f2).isSome ∧ Below U.heap.size U wx)
    case first =>
      by_cases hin : ip < n5
      · obtain ⟨b5, off5, y, rfl, hb5, z0, z1, z2, z3, hy, _⟩ := HRU.out.at_ hin
        have m1 : decide ((ip : Int) < (n5 : Int)) = true := decide_eq_true (by omega)
        have m1n : decide (ip < n5) = true := decide_eq_true hin
        by_cases hyk : y.key = f2
        · have m2 : (y.key == f2) = true := by simpa using hyk
          have HT := Lib.hid (at_yes (l := l0) (k := f2) (by rw [← HIP.out]; exact hy) hyk)
          clear hyk hy
          go_quiet (fail)
          go_wp2_with fail
          go_meet
          exact ⟨by rw [HT.out]; rfl, below_drewN (Below.refl _ _) _⟩
        · have m2 : (y.key == f2) = false := by simpa using hyk
          have HT := Lib.hid (at_no (l := l0) (k := f2) (by rw [← HIP.out]; exact hy) hyk)
          clear hyk hy
          go_quiet (fail)
          go_wp2_with fail
          go_meet
          exact ⟨by rw [HT.out]; rfl, below_drewN (Below.refl _ _) _⟩
      · have m1 : decide ((ip : Int) < (n5 : Int)) = false := decide_eq_false (by omega)
        have m1n : decide (ip < n5) = false := decide_eq_false hin
        have HT := Lib.hid (at_end (l := l0) (k := f2) (by rw [← HIP.out, HLN5.out]; omega))
        go_quiet (fail)
        go_wp2_with fail
        go_meet
        exact ⟨by rw [HT.out]; rfl, below_drewN (Below.refl _ _) _⟩
    obtain ⟨rfl, hc4⟩ := hcut
    have HU4 := Lib.hid (held_two HU.out hc4)
    have v0 := held_cell hc4 u0
    have v1 := held_cell hc4 u1
    have v2 := held_cell hc4 u2
    have v3 := held_cell hc4 u3
    have v4 := held_cell hc4 u4
    have HRV : Hid (Ces wc wc.heap.size A5 n5 c5 l0) := (HRU.out.below hc4).more hc4.size
    clear u0 u1 u2 u3 u4 hc4 HU HRU
    generalize wc = V4 at *
    have HHD : Hid (held l0 ⟨f0, i, f2, f3, f4⟩ = match at_ l0 f2 with | none => false | some x => decide (f0 < x.lsn)) := (rfl : _ = _)
    have HPU : Hid (put l0 ⟨f0, i, f2, f3, f4⟩ = if held l0 ⟨f0, i, f2, f3, f4⟩ then l0 else ins l0 (mk ⟨f0, i, f2, f3, f4⟩)) := (rfl : _ = _)
    have HYP : Hid (∀ y, at_ l0 f2 = some y → ∃ b5 off5, A5 = some ⟨b5, off5, none⟩ ∧ ip < n5 ∧ V4.cell? ⟨b5, off5 + ip * 4 + 1, none⟩ = some (.int .i64 y.lsn)) := fun y hy => by
      obtain ⟨h1, h2, h3⟩ := pos_lt hy
      rw [← HIP.out] at h1 h2
      rw [HLN5.out] at h1
      obtain ⟨b5, off5, y', e, hb5, z0, z1, z2, z3, hy', _⟩ := HRV.out.at_ h1
      rw [h2] at hy'
      injection hy' with hy'
      subst hy'
      exact ⟨b5, off5, e, h1, z1⟩
    go_upto_region 12 with fail
    by_cases hh : held l0 ⟨f0, i, f2, f3, f4⟩ = true
    · have HI : Hid (plays TT ⟨f0, i, f2, f3, f4⟩ = false) := by show _ = _; rw [HPL.out, hh]; rfl
      have HC0 : Hid (cnt T (l.take (k + 1)) = cnt T (l.take k)) := by show _ = _; rw [HCN.out, HI.out]; rfl
      have HD0 : Hid (doAll T (l.take (k + 1)) = doAll T (l.take k)) := by show _ = _; rw [HDA.out, do1_idle HI.out, HTT.out]
      rw [HHD.out] at hh
      cases hat : at_ l0 f2 with
      | none => rw [hat] at hh; cases hh
      | some y =>
        rw [hat] at hh
        have m2 : decide (f0 < y.lsn) = true := hh
        obtain ⟨b5, off5, rfl, hin, z1⟩ := HYP.out y hat
        have hinI : (ip : Int) < (n5 : Int) := by omega
        clear hh hat HYP
        simp only [Option.isSome_some]
        go_quiet (fail)
        go_wp2
        go_roundw
        case rel => exact ⟨k + 1, by go_num, by rw [HC0.out], RStep.idle (by rw [HTT.out]; exact HSET.out) (by rw [HTT.out]; exact HMO.out) HTU.out hkn HD0.out (below_drewN (HB.out.trans (HU4.out.mono HB.out.size)) _)⟩
        case measure => simp [Go.RowKit.intOf]; omega
    have hh : held l0 ⟨f0, i, f2, f3, f4⟩ = false := by simpa using hh
    go_cut [10, 84] (fun v10 v wx => v10 = .bool (at_ l0 f2).isSome ∧ v = .bool false ∧ Below V4.heap.size V4 wx)
    case first =>
      rw [HHD.out] at hh
      cases hat : at_ l0 f2 with
      | none =>
        have HAT := Lib.hid hat
        clear hh hat HYP
        simp only [Option.isSome_none]
        go_quiet (fail)
        go_wp2_with fail
        go_meet
        exact ⟨by rw [HAT.out]; rfl, rfl, below_drewN (Below.refl _ _) _⟩
      | some y =>
        rw [hat] at hh
        have m2 : decide (f0 < y.lsn) = false := hh
        obtain ⟨b5, off5, rfl, hin, z1⟩ := HYP.out y hat
        have hinI : (ip : Int) < (n5 : Int) := by omega
        have HAT := Lib.hid hat
        clear hh hat HYP
        simp only [Option.isSome_some]
        go_quiet (fail)
        go_wp2_with fail
        go_meet
        exact ⟨by rw [HAT.out]; rfl, by first | rfl | simp [m2], below_drewN (Below.refl _ _) _⟩
    obtain ⟨rfl, rfl, hc5⟩ := hcut
    have HU5 := Lib.hid (held_two HU4.out hc5)
    have u0 := held_cell hc5 v0
    have u1 := held_cell hc5 v1
    have u2 := held_cell hc5 v2
    have u3 := held_cell hc5 v3
    have u4 := held_cell hc5 v4
    have HRU : Hid (Ces wc wc.heap.size A5 n5 c5 l0) := (HRV.out.below hc5).more hc5.size
    clear v0 v1 v2 v3 v4 hc5 HU4 HRV HYP
    generalize wc = V5 at *
    obtain ⟨y3, hy3⟩ : ∃ y3, y3 = (mk ⟨f0, i, f2, f3, f4⟩).val := ⟨_, rfl⟩
    have HY3 := Lib.hid hy3
    have HVT : Hid (f3 = true → y3 = ⟨#[]⟩) := fun h => by rw [hy3, h]; rfl
    have HVF : Hid (f3 = false → y3 = f4) := fun h => by rw [hy3, h]; rfl
    clear hy3
    go_upto_region 14 with fail
    have hXB : Blk (V5.alloc (.cells #[.int .i64 f2, .int .i64 f0, .bool f3, .string f4] 38)) V5.heap.size 38 #[.int .i64 f2, .int .i64 f0, .bool f3, .string f4] := Blk.new _ _ _
    have hb5 : Below V5.heap.size V5 (V5.alloc (.cells #[.int .i64 f2, .int .i64 f0, .bool f3, .string f4] 38)) := (Below.refl _ _).alloc (Nat.le_refl _) _
    generalize (V5.alloc (.cells #[.int .i64 f2, .int .i64 f0, .bool f3, .string f4] 38)) = W5 at hXB hb5 ⊢
    have g3 := held_cell hb5 u3
    have HXB := Lib.hid hXB
    have HB5 := Lib.hid hb5
    have xx3 := hXB.cell 3
    have fx3 := hXB.frozen 3
    clear hXB hb5
    go_upto_if 95 with fail
    go_cut [] (fun wx => Blk wx V5.heap.size 38 #[.int .i64 f2, .int .i64 f0, .bool f3, .string y3] ∧ Below V5.heap.size V5 wx)
    case first =>
      cases f3 with
      | true =>
        have hv := HVT.out rfl
        subst hv
        go_wp2_with fail
        go_meet
        exact ⟨HXB.out.set_ 3 (.string ⟨#[]⟩), HB5.out.setCell (p := ⟨V5.heap.size, 3, none⟩) (Nat.le_refl _) _⟩
      | false =>
        have hv := HVF.out rfl
        subst hv
        go_wp2_with fail
        go_meet
        exact ⟨HXB.out, HB5.out⟩
    obtain ⟨hXC, hc6⟩ := hcut
    have HU6 := Lib.hid (held_two HU5.out hc6)
    have hX5 : V5.heap.size < wc.heap.size := hXC.lt
    obtain ⟨X, hX⟩ : ∃ X, X = V5.heap.size := ⟨_, rfl⟩
    rw [← hX] at hXC hX5 ⊢
    have HXC := Lib.hid hXC
    have v1 := held_cell hc6 u1
    have HRV : Hid (Ces wc wc.heap.size A5 n5 c5 l0) := (HRU.out.below hc6).more hc6.size
    clear u0 u1 u2 u3 u4 hc6 HU5 HRU hXC HVT HVF hX g3 xx3 fx3 HXB HB5
    generalize wc = V at *
    have hip5 : ip ≤ c5 := by omega
    have HF : Hid (Ces V V.heap.size A5 ip c5 (l0.take ip)) := HRV.out.front hple
    have HYM : Hid (∀ (wx : World) (g : Nat), Blk wx g 38 #[.int .i64 f2, .int .i64 f0, .bool f3, .string y3] → Blk wx g 38 #[.int .i64 (mk ⟨f0, i, f2, f3, f4⟩).key, .int .i64 (mk ⟨f0, i, f2, f3, f4⟩).lsn, .bool (mk ⟨f0, i, f2, f3, f4⟩).gone, .string (mk ⟨f0, i, f2, f3, f4⟩).val]) := fun wx g h => by rw [← HY3.out]; exact h
    have HSX : Hid (∀ wx, Below V.heap.size V wx → wx.cell? ⟨X, 0, none⟩ = some (.int .i64 f2) ∧ wx.cell? ⟨X, 1, none⟩ = some (.int .i64 f0) ∧ wx.cell? ⟨X, 2, none⟩ = some (.bool f3) ∧ wx.cell? ⟨X, 3, none⟩ = some (.string y3)) := fun wx hb => ⟨held_cell hb (HXC.out.cell 0), held_cell hb (HXC.out.cell 1), held_cell hb (HXC.out.cell 2), held_cell hb (HXC.out.cell 3)⟩
    go_upto_region 16 with fail
    go_cut [12] (fun v wx => ∃ A2 c2, v = .slice A2 (ip + 1) c2 ∧ wx.ownsRow V.heap.size 38 4 (.slice A2 (ip + 1) c2) (ip + 1) (cv (l0.take ip ++ [mk ⟨f0, i, f2, f3, f4⟩])) ∧ Below V.heap.size V wx)
    case first =>
      refine Go.wp_region_held_drew (S := fun w' => w'.cell? ⟨X, 0, none⟩ = some (.int .i64 f2) ∧ w'.cell? ⟨X, 1, none⟩ = some (.int .i64 f0) ∧ w'.cell? ⟨X, 2, none⟩ = some (.bool f3) ∧ w'.cell? ⟨X, 3, none⟩ = some (.string y3)) (by kernel_rfl) (HSX.out _ (held_start V)) (fun hHeld => ?_)
      refine wpAnyH_take (i := 1) (v := ?mv1) rfl (by kernel_rfl) (by kernel_rfl) (by kernel_rfl) (fun _ _ _ h => h) (Or.inl ⟨by rfl, ?my1⟩) (by assumption) ?mr1
      case my1 => (intro w hSw; (try dsimp only at hSw); go_simp; try with_reducible rfl)
      try simp only [Act.put, List.getElem_toArray, List.getElem_cons_succ, List.getElem_cons_zero, List.setIfInBounds_toArray, List.set_cons_zero, List.set_cons_succ]
      refine wpAnyH_take (i := 2) (v := ?mv2) rfl (by kernel_rfl) (by kernel_rfl) (by kernel_rfl) (fun _ _ _ h => h) (Or.inl ⟨by rfl, ?my2⟩) (by assumption) ?mr2
      case my2 => (intro w hSw; (try dsimp only at hSw); go_simp; try with_reducible rfl)
      try simp only [Act.put, List.getElem_toArray, List.getElem_cons_succ, List.getElem_cons_zero, List.setIfInBounds_toArray, List.set_cons_zero, List.set_cons_succ]
      refine wpAnyH_take (i := 3) (v := ?mv3) rfl (by kernel_rfl) (by kernel_rfl) (by kernel_rfl) (fun _ _ _ h => h) (Or.inl ⟨by rfl, ?my3⟩) (by assumption) ?mr3
      case my3 => (intro w hSw; (try dsimp only at hSw); go_simp; try with_reducible rfl)
      try simp only [Act.put, List.getElem_toArray, List.getElem_cons_succ, List.getElem_cons_zero, List.setIfInBounds_toArray, List.set_cons_zero, List.set_cons_succ]
      refine wpAnyH_take (i := 5) (v := ?mv5) rfl (by kernel_rfl) (by kernel_rfl) (by kernel_rfl) (fun _ _ _ h => h) (Or.inl ⟨by rfl, ?my5⟩) (by assumption) ?mr5
      case my5 => (intro w hSw; (try dsimp only at hSw); go_simp; try with_reducible rfl)
      try simp only [Act.put, List.getElem_toArray, List.getElem_cons_succ, List.getElem_cons_zero, List.setIfInBounds_toArray, List.set_cons_zero, List.set_cons_succ]
      refine wpAnyH_ready (rs := [0, 6]) (by kernel_rfl) (by simp) ?_
      refine AllReadyH.cons rfl (fun K hK => ?_) (AllReadyH.cons rfl (fun K hK => ?_) AllReadyH.nil)
      · go_simp
        refine hK.out _ _ (HSX.out _ (held_alloc_drew (held_start V) _)) (fun hHeld => ?_)
        clear hK K
        try simp only [Act.put, List.getElem_toArray, List.getElem_cons_succ, List.getElem_cons_zero, List.setIfInBounds_toArray, List.set_cons_zero, List.set_cons_succ]
        refine wpAnyH_ready (rs := [4, 6]) (by kernel_rfl) (by simp) ?_
        refine AllReadyH.cons rfl (fun K hK => ?_) (AllReadyH.cons rfl (fun K hK => ?_) AllReadyH.nil)
        · refine step_append_row (by rfl) (.tmp 97) (.tmp 100) (by rfl) cel V.heap.size _ 0 [] (by rfl) (own_empty V V.heap.size _ 4 rfl (Nat.le_refl _)) V.heap.size A5 ip c5 (cv (l0.take ip)) (by rfl) (Row.alloc HF.out (Nat.le_refl _) _) (cv_one _) (by omega) (by omega) (by first | (simp [World.drew]; done) | (simp [World.drew]; omega)) ?_
          intro A1 c1 w1 hown1 hg1 hb1
          rw [Nat.zero_add, List.nil_append] at hown1
          rw [Nat.zero_add] at hg1 ⊢
          have hB1 : Below V.heap.size V w1 := (held_alloc_drew (held_start V) (.cells #[] 38)).trans hb1
          refine hK.out _ _ (HSX.out _ hB1) (fun hHeld => ?_)
          clear hK K
          try simp only [Act.put, List.getElem_toArray, List.getElem_cons_succ, List.getElem_cons_zero, List.setIfInBounds_toArray, List.set_cons_zero, List.set_cons_succ]
          refine wpAnyH_ready (rs := [6]) (by kernel_rfl) (by simp) ?_
          refine AllReadyH.cons rfl (fun K hK => ?_) AllReadyH.nil
          go_simp
          have hB1x : Below V.heap.size V (w1.alloc (.cells #[.int .i64 f2, .int .i64 f0, .bool f3, .string y3] 38)) := hB1.alloc hB1.size _
          refine hK.out _ _ (HSX.out _ hB1x) (fun hHeld => ?_)
          clear hK K
          try simp only [Act.put, List.getElem_toArray, List.getElem_cons_succ, List.getElem_cons_zero, List.setIfInBounds_toArray, List.set_cons_zero, List.set_cons_succ]
          refine wpAnyH_ready (rs := [7]) (by kernel_rfl) (by simp) ?_
          refine AllReadyH.cons rfl (fun K hK => ?_) AllReadyH.nil
          refine step_append_row (by rfl) (.tmp 101) (.tmp 103) (by rfl) cel V.heap.size _ ip (cv (l0.take ip)) (by rfl) (own_keep hown1 ((Below.refl _ _).alloc (Nat.le_refl _) _)) _ _ 1 1 (cv [mk ⟨f0, i, f2, f3, f4⟩]) (by rfl) (cone_blk (y := mk ⟨f0, i, f2, f3, f4⟩) (HYM.out _ _ (Blk.new w1 _ _))) (cv_one _) (by omega) (by omega) hB1x.size ?_
          intro A2 c2 w2 hown2 _ hb2
          rw [← cv_append] at hown2
          have hB2 : Below V.heap.size V w2 := hB1x.trans hb2
          refine hK.out _ _ (HSX.out _ hB2) (fun hHeld => ?_)
          clear hK K
          try simp only [Act.put, List.getElem_toArray, List.getElem_cons_succ, List.getElem_cons_zero, List.setIfInBounds_toArray, List.set_cons_zero, List.set_cons_succ]
          refine wpAnyH_take (i := 8) (v := ?oav8) rfl (by kernel_rfl) (by kernel_rfl) (by kernel_rfl) (fun _ _ _ h => h) (Or.inl ⟨by rfl, ?oay8⟩) (by assumption) ?oar8
          case oay8 => (intro w hSw; (try dsimp only at hSw); go_simp; try with_reducible rfl)
          try simp only [Act.put, List.getElem_toArray, List.getElem_cons_succ, List.getElem_cons_zero, List.setIfInBounds_toArray, List.set_cons_zero, List.set_cons_succ]
          refine wpAnyH_done (by kernel_rfl) ?_ _
          have HO2 := Lib.hid hown2
          have HBB2 := Lib.hid hB2
          go_wp2_with fail
          go_meet
          exact ⟨A2, c2, rfl, HO2.out, HBB2.out⟩
        · go_simp
          refine hK.out _ _ (HSX.out _ (held_alloc_drew2 V _ _)) (fun hHeld => ?_)
          clear hK K
          try simp only [Act.put, List.getElem_toArray, List.getElem_cons_succ, List.getElem_cons_zero, List.setIfInBounds_toArray, List.set_cons_zero, List.set_cons_succ]
          refine wpAnyH_ready (rs := [4]) (by kernel_rfl) (by simp) ?_
          refine AllReadyH.cons rfl (fun K hK => ?_) AllReadyH.nil
          refine step_append_row (by rfl) (.tmp 97) (.tmp 100) (by rfl) cel V.heap.size _ 0 [] (by rfl) ((own_empty V V.heap.size _ 4 rfl (Nat.le_refl _)).alloc _) V.heap.size A5 ip c5 (cv (l0.take ip)) (by rfl) (Row.alloc (Row.alloc HF.out (Nat.le_refl _) _) (by simp) _) (cv_one _) (by omega) (by omega) (by first | (simp [World.drew]; done) | (simp [World.drew]; omega)) ?_
          intro A1 c1 w1 hown1 hg1 hb1
          rw [Nat.zero_add, List.nil_append] at hown1
          rw [Nat.zero_add] at hg1 ⊢
          have hB1x : Below V.heap.size V w1 := (held_alloc_drew2 V _ _).trans hb1
          have hyw : Blk w1 (V.heap.size + 1) 38 #[.int .i64 f2, .int .i64 f0, .bool f3, .string y3] := Blk.grown (w := ((V.alloc (.cells #[] 38)).alloc (.cells #[.int .i64 f2, .int .i64 f0, .bool f3, .string y3] 38)).drew) (show Blk ((V.alloc (.cells #[] 38)).alloc (.cells #[.int .i64 f2, .int .i64 f0, .bool f3, .string y3] 38)) (V.heap.size + 1) 38 #[.int .i64 f2, .int .i64 f0, .bool f3, .string y3] from by have := Blk.new (V.alloc (.cells #[] 38)) 38 #[.int .i64 f2, .int .i64 f0, .bool f3, .string y3]; simpa using this) hg1.1 (by simp [Value.ownBlock])
          refine hK.out _ _ (HSX.out _ hB1x) (fun hHeld => ?_)
          clear hK K
          try simp only [Act.put, List.getElem_toArray, List.getElem_cons_succ, List.getElem_cons_zero, List.setIfInBounds_toArray, List.set_cons_zero, List.set_cons_succ]
          refine wpAnyH_ready (rs := [7]) (by kernel_rfl) (by simp) ?_
          refine AllReadyH.cons rfl (fun K hK => ?_) AllReadyH.nil
          refine step_append_row (by rfl) (.tmp 101) (.tmp 103) (by rfl) cel V.heap.size _ ip (cv (l0.take ip)) (by rfl) hown1 _ _ 1 1 (cv [mk ⟨f0, i, f2, f3, f4⟩]) (by rfl) (cone_blk (y := mk ⟨f0, i, f2, f3, f4⟩) (HYM.out _ _ hyw)) (cv_one _) (by omega) (by omega) hB1x.size ?_
          intro A2 c2 w2 hown2 _ hb2
          rw [← cv_append] at hown2
          have hB2 : Below V.heap.size V w2 := hB1x.trans hb2
          refine hK.out _ _ (HSX.out _ hB2) (fun hHeld => ?_)
          clear hK K
          try simp only [Act.put, List.getElem_toArray, List.getElem_cons_succ, List.getElem_cons_zero, List.setIfInBounds_toArray, List.set_cons_zero, List.set_cons_succ]
          refine wpAnyH_take (i := 8) (v := ?obv8) rfl (by kernel_rfl) (by kernel_rfl) (by kernel_rfl) (fun _ _ _ h => h) (Or.inl ⟨by rfl, ?oby8⟩) (by assumption) ?obr8
          case oby8 => (intro w hSw; (try dsimp only at hSw); go_simp; try with_reducible rfl)
          try simp only [Act.put, List.getElem_toArray, List.getElem_cons_succ, List.getElem_cons_zero, List.setIfInBounds_toArray, List.set_cons_zero, List.set_cons_succ]
          refine wpAnyH_done (by kernel_rfl) ?_ _
          have HO2 := Lib.hid hown2
          have HBB2 := Lib.hid hB2
          go_wp2_with fail
          go_meet
          exact ⟨A2, c2, rfl, HO2.out, HBB2.out⟩
      · go_simp
        refine hK.out _ _ (HSX.out _ (held_alloc_drew (held_start V) _)) (fun hHeld => ?_)
        clear hK K
        try simp only [Act.put, List.getElem_toArray, List.getElem_cons_succ, List.getElem_cons_zero, List.setIfInBounds_toArray, List.set_cons_zero, List.set_cons_succ]
        refine wpAnyH_ready (rs := [0]) (by kernel_rfl) (by simp) ?_
        refine AllReadyH.cons rfl (fun K hK => ?_) AllReadyH.nil
        go_simp
        refine hK.out _ _ (HSX.out _ (held_alloc_drew2 V _ _)) (fun hHeld => ?_)
        clear hK K
        try simp only [Act.put, List.getElem_toArray, List.getElem_cons_succ, List.getElem_cons_zero, List.setIfInBounds_toArray, List.set_cons_zero, List.set_cons_succ]
        refine wpAnyH_ready (rs := [4]) (by kernel_rfl) (by simp) ?_
        refine AllReadyH.cons rfl (fun K hK => ?_) AllReadyH.nil
        refine step_append_row (by rfl) (.tmp 97) (.tmp 100) (by rfl) cel V.heap.size _ 0 [] (by rfl) (own_empty (V.alloc (.cells #[.int .i64 f2, .int .i64 f0, .bool f3, .string y3] 38)) V.heap.size _ 4 (by simp) (by simp)) V.heap.size A5 ip c5 (cv (l0.take ip)) (by rfl) (Row.alloc (Row.alloc HF.out (Nat.le_refl _) _) (by simp) _) (cv_one _) (by omega) (by omega) (by first | (simp [World.drew]; done) | (simp [World.drew]; omega)) ?_
        intro A1 c1 w1 hown1 hg1 hb1
        rw [Nat.zero_add, List.nil_append] at hown1
        rw [Nat.zero_add] at hg1 ⊢
        have hB1x : Below V.heap.size V w1 := (held_alloc_drew2 V _ _).trans hb1
        have hyw : Blk w1 V.heap.size 38 #[.int .i64 f2, .int .i64 f0, .bool f3, .string y3] := Blk.grown (w := ((V.alloc (.cells #[.int .i64 f2, .int .i64 f0, .bool f3, .string y3] 38)).alloc (.cells #[] 38)).drew) ((Blk.new V _ _).alloc _) hg1.1 (by simp [Value.ownBlock])
        refine hK.out _ _ (HSX.out _ hB1x) (fun hHeld => ?_)
        clear hK K
        try simp only [Act.put, List.getElem_toArray, List.getElem_cons_succ, List.getElem_cons_zero, List.setIfInBounds_toArray, List.set_cons_zero, List.set_cons_succ]
        refine wpAnyH_ready (rs := [7]) (by kernel_rfl) (by simp) ?_
        refine AllReadyH.cons rfl (fun K hK => ?_) AllReadyH.nil
        refine step_append_row (by rfl) (.tmp 101) (.tmp 103) (by rfl) cel V.heap.size _ ip (cv (l0.take ip)) (by rfl) hown1 _ _ 1 1 (cv [mk ⟨f0, i, f2, f3, f4⟩]) (by rfl) (cone_blk (y := mk ⟨f0, i, f2, f3, f4⟩) (HYM.out _ _ hyw)) (cv_one _) (by omega) (by omega) hB1x.size ?_
        intro A2 c2 w2 hown2 _ hb2
        rw [← cv_append] at hown2
        have hB2 : Below V.heap.size V w2 := hB1x.trans hb2
        refine hK.out _ _ (HSX.out _ hB2) (fun hHeld => ?_)
        clear hK K
        try simp only [Act.put, List.getElem_toArray, List.getElem_cons_succ, List.getElem_cons_zero, List.setIfInBounds_toArray, List.set_cons_zero, List.set_cons_succ]
        refine wpAnyH_take (i := 8) (v := ?ocv8) rfl (by kernel_rfl) (by kernel_rfl) (by kernel_rfl) (fun _ _ _ h => h) (Or.inl ⟨by rfl, ?ocy8⟩) (by assumption) ?ocr8
        case ocy8 => (intro w hSw; (try dsimp only at hSw); go_simp; try with_reducible rfl)
        try simp only [Act.put, List.getElem_toArray, List.getElem_cons_succ, List.getElem_cons_zero, List.setIfInBounds_toArray, List.set_cons_zero, List.set_cons_succ]
        refine wpAnyH_done (by kernel_rfl) ?_ _
        have HO2 := Lib.hid hown2
        have HBB2 := Lib.hid hB2
        go_wp2_with fail
        go_meet
        exact ⟨A2, c2, rfl, HO2.out, HBB2.out⟩
    obtain ⟨A2, c2, rfl, ho6, hb6⟩ := hcut
    have HO6 := Lib.hid ho6
    have HB6 := Lib.hid hb6
    have HRQ : Hid (Ces wc wc.heap.size A5 n5 c5 l0) := (HRV.out.below hb6).more hb6.size
    have HB3 : Hid (Below wr.heap.size wr V) := HB.out.trans (HU6.out.mono HB.out.size)
    have HSZ : Hid (∀ wx, Below V.heap.size V wx → wx.cell? ⟨p, 0, none⟩ = some (.slice (some ⟨bb, 0, none⟩) TT.length TT.length) ∧ wx.cell? ⟨q, 1, none⟩ = some (.int .i64 i)) := fun wx hx => ⟨held_cell (held_two HU6.out hx) (HYW.out.box.cell 0), held_cell (held_two HU6.out hx) (HX.out.cell 1)⟩
    clear v1 ho6 hb6 HSX HYM HXC HF HRV
    generalize wc = V6 at *
    obtain ⟨jj, hjj⟩ : ∃ jj, jj = if (at_ l0 f2).isSome then ip + 1 else ip := ⟨_, rfl⟩
    have hjn : jj ≤ n5 := by
      rw [hjj]
      cases hat : at_ l0 f2 with
      | none => exact hple
      | some y =>
        have h1 := (pos_lt hat).1
        rw [← HIP.out, HLN5.out] at h1
        exact h1
    have HPT : Hid (put l0 ⟨f0, i, f2, f3, f4⟩ = (l0.take ip ++ [mk ⟨f0, i, f2, f3, f4⟩]) ++ l0.drop jj) := by
      show _ = _
      rw [HPU.out, hh, if_neg (by simp), ins_eq]
      show l0.take (pos l0 f2) ++ mk ⟨f0, i, f2, f3, f4⟩ :: l0.drop (if (at_ l0 f2).isSome then pos l0 f2 + 1 else pos l0 f2) = _
      rw [← HIP.out, ← hjj]
      simp
    have HRP : Hid (Rise (put l0 ⟨f0, i, f2, f3, f4⟩)) := rise_put HR0.out _
    have HC1 : Hid (cnt T (l.take (k + 1)) = cnt T (l.take k) + 1) := by show _ = _; rw [HCN.out, HPL.out, hh]; rfl
    have HD1 : Hid (doAll T (l.take (k + 1)) = TT.set i (put l0 ⟨f0, i, f2, f3, f4⟩)) := HDA.out.trans HDO.out
    have HM1 : Hid (Most (doAll T (l.take (k + 1))) (M + (k + 1))) := by show Most _ _; rw [HDA.out]; exact most_do1 HMO.out _
    have HJ := Lib.hid hjj
    clear hjj
    go_upto_if 105 with fail
    go_cut [9, 10] (fun v v10 wx => v = .int .i64 jj ∧ wx = V6)
    case first =>
      cases hat : (at_ l0 f2).isSome with
      | true =>
        have HJ1 : Hid (jj = ip + 1) := by show _ = _; rw [HJ.out, hat]; rfl
        go_wp2_with fail
        go_meet
        exact ⟨by rw [HJ1.out]; go_num, rfl⟩
      | false =>
        have HJ1 : Hid (jj = ip) := by show _ = _; rw [HJ.out, hat]; rfl
        go_wp2_with fail
        go_meet
        exact ⟨by rw [HJ1.out], rfl⟩
    obtain ⟨rfl, hw6⟩ := hcut
    subst hw6
    have HDR := Lib.hid (HRQ.out.cut (k := jj) hjn)
    go_upto_region 19 with fail
    clear hh
    rcases own_addr HO0.out with ⟨hA, hn0, hc0⟩ | ⟨g5, hA⟩
    · subst hA
      subst hn0
      subst hc0
      obtain rfl : jj = 0 := by omega
      have HD6 : Hid (Ces wc wc.heap.size none 0 0 (l0.drop 0)) := by show Ces _ _ _ _ _ _; have := HDR.out; simpa using this
      refine Go.wp_region_held_drew (S := fun w' => w'.cell? ⟨p, 0, none⟩ = some (.slice (some ⟨bb, 0, none⟩) TT.length TT.length) ∧ w'.cell? ⟨q, 1, none⟩ = some (.int .i64 i)) (by kernel_rfl) (HSZ.out _ (HB6.out.drew)) (fun hHeld => ?_)
      refine wpAnyH_take (i := 0) (v := ?pav0) rfl (by kernel_rfl) (by kernel_rfl) (by kernel_rfl) (fun _ _ _ h => h) (Or.inl ⟨by rfl, ?pay0⟩) (by assumption) ?par0
      case pay0 => (intro w hSw; (try dsimp only at hSw); go_simp; try with_reducible rfl)
      try simp only [Act.put, List.getElem_toArray, List.getElem_cons_succ, List.getElem_cons_zero, List.setIfInBounds_toArray, List.set_cons_zero, List.set_cons_succ]
      refine wpAnyH_take (i := 1) (v := ?pav1) rfl (by kernel_rfl) (by kernel_rfl) (by kernel_rfl) (fun _ _ _ h => h) (Or.inl ⟨by rfl, ?pay1⟩) (by assumption) ?par1
      case pay1 => (intro w hSw; (try dsimp only at hSw); go_simp; try with_reducible rfl)
      try simp only [Act.put, List.getElem_toArray, List.getElem_cons_succ, List.getElem_cons_zero, List.setIfInBounds_toArray, List.set_cons_zero, List.set_cons_succ]
      refine wpAnyH_take (i := 2) (v := ?pav2) rfl (by kernel_rfl) (by kernel_rfl) (by kernel_rfl) (fun _ _ _ h => h) (Or.inl ⟨by rfl, ?pay2⟩) (by assumption) ?par2
      case pay2 => (intro w hSw; (try dsimp only at hSw); go_simp; try with_reducible rfl)
      try simp only [Act.put, List.getElem_toArray, List.getElem_cons_succ, List.getElem_cons_zero, List.setIfInBounds_toArray, List.set_cons_zero, List.set_cons_succ]
      refine wpAnyH_take (i := 3) (v := ?pav3) rfl (by kernel_rfl) (by kernel_rfl) (by kernel_rfl) (fun _ _ _ h => h) (Or.inl ⟨by rfl, ?pay3⟩) (by assumption) ?par3
      case pay3 => (intro w hSw; (try dsimp only at hSw); go_simp; try with_reducible rfl)
      try simp only [Act.put, List.getElem_toArray, List.getElem_cons_succ, List.getElem_cons_zero, List.setIfInBounds_toArray, List.set_cons_zero, List.set_cons_succ]
      refine wpAnyH_take (i := 4) (v := ?pav4) rfl (by kernel_rfl) (by kernel_rfl) (by kernel_rfl) (fun _ _ _ h => h) (Or.inl ⟨by rfl, ?pay4⟩) (by assumption) ?par4
      case pay4 => (intro w hSw; (try dsimp only at hSw); go_simp; try with_reducible rfl)
      try simp only [Act.put, List.getElem_toArray, List.getElem_cons_succ, List.getElem_cons_zero, List.setIfInBounds_toArray, List.set_cons_zero, List.set_cons_succ]
      refine wpAnyH_take (i := 5) (v := ?pav5) rfl (by kernel_rfl) (by kernel_rfl) (by kernel_rfl) (fun _ _ _ h => h) (Or.inl ⟨by rfl, ?pay5⟩) (by assumption) ?par5
      case pay5 => (intro w hSw; (try dsimp only at hSw); go_simp; try with_reducible rfl)
      try simp only [Act.put, List.getElem_toArray, List.getElem_cons_succ, List.getElem_cons_zero, List.setIfInBounds_toArray, List.set_cons_zero, List.set_cons_succ]
      refine wpAnyH_take (i := 6) (v := ?pav6) rfl (by kernel_rfl) (by kernel_rfl) (by kernel_rfl) (fun _ _ _ h => h) (Or.inl ⟨by rfl, ?pay6⟩) (by assumption) ?par6
      case pay6 => (intro w hSw; (try dsimp only at hSw); go_simp; try with_reducible rfl)
      try simp only [Act.put, List.getElem_toArray, List.getElem_cons_succ, List.getElem_cons_zero, List.setIfInBounds_toArray, List.set_cons_zero, List.set_cons_succ]
      refine wpAnyH_take (i := 7) (v := ?pav7) rfl (by kernel_rfl) (by kernel_rfl) (by kernel_rfl) (fun _ _ _ h => h) (Or.inl ⟨by rfl, ?pay7⟩) (by assumption) ?par7
      case pay7 => (intro w hSw; (try dsimp only at hSw); go_simp; try with_reducible rfl)
      try simp only [Act.put, List.getElem_toArray, List.getElem_cons_succ, List.getElem_cons_zero, List.setIfInBounds_toArray, List.set_cons_zero, List.set_cons_succ]
      refine wpAnyH_take (i := 8) (v := ?pav8) rfl (by kernel_rfl) (by kernel_rfl) (by kernel_rfl) (fun _ _ _ h => h) (Or.inl ⟨by rfl, ?pay8⟩) (by assumption) ?par8
      case pay8 => (intro w hSw; (try dsimp only at hSw); go_simp; try with_reducible rfl)
      try simp only [Act.put, List.getElem_toArray, List.getElem_cons_succ, List.getElem_cons_zero, List.setIfInBounds_toArray, List.set_cons_zero, List.set_cons_succ]
      refine wpAnyH_take (i := 9) (v := ?pav9) rfl (by kernel_rfl) (by kernel_rfl) (by kernel_rfl) (fun _ _ _ h => h) (Or.inl ⟨by rfl, ?pay9⟩) (by assumption) ?par9
      case pay9 => (intro w hSw; (try dsimp only at hSw); go_simp; try with_reducible rfl)
      try simp only [Act.put, List.getElem_toArray, List.getElem_cons_succ, List.getElem_cons_zero, List.setIfInBounds_toArray, List.set_cons_zero, List.set_cons_succ]
      refine wpAnyH_ready (rs := [10]) (by kernel_rfl) (by simp) ?_
      refine AllReadyH.cons rfl (fun K hK => ?_) AllReadyH.nil
      refine step_append_row (by rfl) (.tmp 114) (.tmp 117) (by rfl) cel V.heap.size _ (ip + 1) _ (by rfl) (own_drew HO6.out) wc.heap.size _ 0 0 (cv (l0.drop 0)) (by rfl) (Row.drew HD6.out) (cv_one _) (by omega) (by omega) HB6.out.size ?_
      intro A7 c7 w7 hown7 _ hb7
      rw [← cv_append, ← HPT.out] at hown7
      have hB7 : Below V.heap.size V w7 := (HB6.out.drew).trans hb7
      have HW7 : Hid (Below wr.heap.size wr w7) := HB3.out.trans (hB7.mono HB3.out.size)
      have HE7 := Lib.hid (HSZ.out _ hB7)
      have hf7 := (HYR.out.row.below HW7.out HYR.out.row.lt).frozen i
      have HZ := Lib.hid (rturn_lay HYR.out hi HTU.out HW7.out (own_mono hown7 (Nat.zero_le _)) (fun g hg => .inr (by have := hown7.lt g hg; have := HB3.out.size; omega)) HRP.out)
      refine hK.out _ _ HE7.out (fun hHeld => ?_)
      clear hK K hown7 hb7 hB7
      try simp only [Act.put, List.getElem_toArray, List.getElem_cons_succ, List.getElem_cons_zero, List.setIfInBounds_toArray, List.set_cons_zero, List.set_cons_succ]
      refine wpAnyH_take (i := 11) (v := ?pazv11) rfl (by kernel_rfl) (by kernel_rfl) (by kernel_rfl) (fun _ _ _ h => h) (Or.inl ⟨by rfl, ?pazy11⟩) (by assumption) ?pazr11
      case pazy11 => (intro w hSw; (try dsimp only at hSw); go_simp; try with_reducible rfl)
      try simp only [Act.put, List.getElem_toArray, List.getElem_cons_succ, List.getElem_cons_zero, List.setIfInBounds_toArray, List.set_cons_zero, List.set_cons_succ]
      have e7 : w7.cell? ⟨bb, i, none⟩ = some (.slice _ _ _) := (HW7.out.cell (p := ⟨bb, i, none⟩) HYR.out.row.lt).trans HD2.out
      refine wpAnyH_ready (rs := [12]) (by kernel_rfl) (by simp) ?_
      refine AllReadyH.cons rfl (fun K hK => ?_) AllReadyH.nil
      go_simp
      refine hK.out _ _ ⟨(World.cell?_setCell_far w7 ⟨bb, i, none⟩ ⟨p, 0, none⟩ _ (Ne.symm hpne)).trans HE7.out.1, (World.cell?_setCell_far w7 ⟨bb, i, none⟩ ⟨q, 1, none⟩ _ (Ne.symm hqne)).trans HE7.out.2⟩ (fun hHeld => ?_)
      clear hK K
      try simp only [Act.put, List.getElem_toArray, List.getElem_cons_succ, List.getElem_cons_zero, List.setIfInBounds_toArray, List.set_cons_zero, List.set_cons_succ]
      refine wpAnyH_done (by kernel_rfl) ?_ _
      clear hHeld e7 hf7
      go_wp2
      go_roundw
      case rel => exact ⟨k + 1, by go_num, by rw [HC1.out]; go_num, hkn, by rw [HD1.out]; exact HZ.out.1, HM1.out, HZ.out.2⟩
      case measure => simp [Go.RowKit.intOf]; omega
    · subst hA
      by_cases hci : c5 = jj
      · have hn1 : n5 = jj := by omega
        have HD6 : Hid (Ces wc wc.heap.size (some ⟨g5, 0, none⟩) 0 0 (l0.drop jj)) := by have := HDR.out; rw [if_pos hci, hci, hn1, Nat.sub_self] at this; exact this
        subst hci
        subst hn1
        refine Go.wp_region_held_drew (S := fun w' => w'.cell? ⟨p, 0, none⟩ = some (.slice (some ⟨bb, 0, none⟩) TT.length TT.length) ∧ w'.cell? ⟨q, 1, none⟩ = some (.int .i64 i)) (by kernel_rfl) (HSZ.out _ (HB6.out.drew)) (fun hHeld => ?_)
        refine wpAnyH_take (i := 0) (v := ?pbv0) rfl (by kernel_rfl) (by kernel_rfl) (by kernel_rfl) (fun _ _ _ h => h) (Or.inl ⟨by rfl, ?pby0⟩) (by assumption) ?pbr0
        case pby0 => (intro w hSw; (try dsimp only at hSw); go_simp; try with_reducible rfl)
        try simp only [Act.put, List.getElem_toArray, List.getElem_cons_succ, List.getElem_cons_zero, List.setIfInBounds_toArray, List.set_cons_zero, List.set_cons_succ]
        refine wpAnyH_take (i := 1) (v := ?pbv1) rfl (by kernel_rfl) (by kernel_rfl) (by kernel_rfl) (fun _ _ _ h => h) (Or.inl ⟨by rfl, ?pby1⟩) (by assumption) ?pbr1
        case pby1 => (intro w hSw; (try dsimp only at hSw); go_simp; try with_reducible rfl)
        try simp only [Act.put, List.getElem_toArray, List.getElem_cons_succ, List.getElem_cons_zero, List.setIfInBounds_toArray, List.set_cons_zero, List.set_cons_succ]
        refine wpAnyH_take (i := 2) (v := ?pbv2) rfl (by kernel_rfl) (by kernel_rfl) (by kernel_rfl) (fun _ _ _ h => h) (Or.inl ⟨by rfl, ?pby2⟩) (by assumption) ?pbr2
        case pby2 => (intro w hSw; (try dsimp only at hSw); go_simp; try with_reducible rfl)
        try simp only [Act.put, List.getElem_toArray, List.getElem_cons_succ, List.getElem_cons_zero, List.setIfInBounds_toArray, List.set_cons_zero, List.set_cons_succ]
        refine wpAnyH_take (i := 3) (v := ?pbv3) rfl (by kernel_rfl) (by kernel_rfl) (by kernel_rfl) (fun _ _ _ h => h) (Or.inl ⟨by rfl, ?pby3⟩) (by assumption) ?pbr3
        case pby3 => (intro w hSw; (try dsimp only at hSw); go_simp; try with_reducible rfl)
        try simp only [Act.put, List.getElem_toArray, List.getElem_cons_succ, List.getElem_cons_zero, List.setIfInBounds_toArray, List.set_cons_zero, List.set_cons_succ]
        refine wpAnyH_take (i := 4) (v := ?pbv4) rfl (by kernel_rfl) (by kernel_rfl) (by kernel_rfl) (fun _ _ _ h => h) (Or.inl ⟨by rfl, ?pby4⟩) (by assumption) ?pbr4
        case pby4 => (intro w hSw; (try dsimp only at hSw); go_simp; try with_reducible rfl)
        try simp only [Act.put, List.getElem_toArray, List.getElem_cons_succ, List.getElem_cons_zero, List.setIfInBounds_toArray, List.set_cons_zero, List.set_cons_succ]
        refine wpAnyH_take (i := 5) (v := ?pbv5) rfl (by kernel_rfl) (by kernel_rfl) (by kernel_rfl) (fun _ _ _ h => h) (Or.inl ⟨by rfl, ?pby5⟩) (by assumption) ?pbr5
        case pby5 => (intro w hSw; (try dsimp only at hSw); go_simp; try with_reducible rfl)
        try simp only [Act.put, List.getElem_toArray, List.getElem_cons_succ, List.getElem_cons_zero, List.setIfInBounds_toArray, List.set_cons_zero, List.set_cons_succ]
        refine wpAnyH_take (i := 6) (v := ?pbv6) rfl (by kernel_rfl) (by kernel_rfl) (by kernel_rfl) (fun _ _ _ h => h) (Or.inl ⟨by rfl, ?pby6⟩) (by assumption) ?pbr6
        case pby6 => (intro w hSw; (try dsimp only at hSw); go_simp; try with_reducible rfl)
        try simp only [Act.put, List.getElem_toArray, List.getElem_cons_succ, List.getElem_cons_zero, List.setIfInBounds_toArray, List.set_cons_zero, List.set_cons_succ]
        refine wpAnyH_take (i := 7) (v := ?pbv7) rfl (by kernel_rfl) (by kernel_rfl) (by kernel_rfl) (fun _ _ _ h => h) (Or.inl ⟨by rfl, ?pby7⟩) (by assumption) ?pbr7
        case pby7 => (intro w hSw; (try dsimp only at hSw); go_simp; try with_reducible rfl)
        try simp only [Act.put, List.getElem_toArray, List.getElem_cons_succ, List.getElem_cons_zero, List.setIfInBounds_toArray, List.set_cons_zero, List.set_cons_succ]
        refine wpAnyH_take (i := 8) (v := ?pbv8) rfl (by kernel_rfl) (by kernel_rfl) (by kernel_rfl) (fun _ _ _ h => h) (Or.inl ⟨by rfl, ?pby8⟩) (by assumption) ?pbr8
        case pby8 => (intro w hSw; (try dsimp only at hSw); go_simp; try with_reducible rfl)
        try simp only [Act.put, List.getElem_toArray, List.getElem_cons_succ, List.getElem_cons_zero, List.setIfInBounds_toArray, List.set_cons_zero, List.set_cons_succ]
        refine wpAnyH_take (i := 9) (v := ?pbv9) rfl (by kernel_rfl) (by kernel_rfl) (by kernel_rfl) (fun _ _ _ h => h) (Or.inl ⟨by rfl, ?pby9⟩) (by assumption) ?pbr9
        case pby9 => (intro w hSw; (try dsimp only at hSw); go_simp; try with_reducible rfl)
        try simp only [Act.put, List.getElem_toArray, List.getElem_cons_succ, List.getElem_cons_zero, List.setIfInBounds_toArray, List.set_cons_zero, List.set_cons_succ]
        refine wpAnyH_ready (rs := [10]) (by kernel_rfl) (by simp) ?_
        refine AllReadyH.cons rfl (fun K hK => ?_) AllReadyH.nil
        refine step_append_row (by rfl) (.tmp 114) (.tmp 117) (by rfl) cel V.heap.size _ (ip + 1) _ (by rfl) (own_drew HO6.out) wc.heap.size _ 0 0 (cv (l0.drop n5)) (by rfl) (Row.drew HD6.out) (cv_one _) (by omega) (by omega) HB6.out.size ?_
        intro A7 c7 w7 hown7 _ hb7
        rw [← cv_append, ← HPT.out] at hown7
        have hB7 : Below V.heap.size V w7 := (HB6.out.drew).trans hb7
        have HW7 : Hid (Below wr.heap.size wr w7) := HB3.out.trans (hB7.mono HB3.out.size)
        have HE7 := Lib.hid (HSZ.out _ hB7)
        have hf7 := (HYR.out.row.below HW7.out HYR.out.row.lt).frozen i
        have HZ := Lib.hid (rturn_lay HYR.out hi HTU.out HW7.out (own_mono hown7 (Nat.zero_le _)) (fun g hg => .inr (by have := hown7.lt g hg; have := HB3.out.size; omega)) HRP.out)
        refine hK.out _ _ HE7.out (fun hHeld => ?_)
        clear hK K hown7 hb7 hB7
        try simp only [Act.put, List.getElem_toArray, List.getElem_cons_succ, List.getElem_cons_zero, List.setIfInBounds_toArray, List.set_cons_zero, List.set_cons_succ]
        refine wpAnyH_take (i := 11) (v := ?pbzv11) rfl (by kernel_rfl) (by kernel_rfl) (by kernel_rfl) (fun _ _ _ h => h) (Or.inl ⟨by rfl, ?pbzy11⟩) (by assumption) ?pbzr11
        case pbzy11 => (intro w hSw; (try dsimp only at hSw); go_simp; try with_reducible rfl)
        try simp only [Act.put, List.getElem_toArray, List.getElem_cons_succ, List.getElem_cons_zero, List.setIfInBounds_toArray, List.set_cons_zero, List.set_cons_succ]
        have e7 : w7.cell? ⟨bb, i, none⟩ = some (.slice _ _ _) := (HW7.out.cell (p := ⟨bb, i, none⟩) HYR.out.row.lt).trans HD2.out
        refine wpAnyH_ready (rs := [12]) (by kernel_rfl) (by simp) ?_
        refine AllReadyH.cons rfl (fun K hK => ?_) AllReadyH.nil
        go_simp
        refine hK.out _ _ ⟨(World.cell?_setCell_far w7 ⟨bb, i, none⟩ ⟨p, 0, none⟩ _ (Ne.symm hpne)).trans HE7.out.1, (World.cell?_setCell_far w7 ⟨bb, i, none⟩ ⟨q, 1, none⟩ _ (Ne.symm hqne)).trans HE7.out.2⟩ (fun hHeld => ?_)
        clear hK K
        try simp only [Act.put, List.getElem_toArray, List.getElem_cons_succ, List.getElem_cons_zero, List.setIfInBounds_toArray, List.set_cons_zero, List.set_cons_succ]
        refine wpAnyH_done (by kernel_rfl) ?_ _
        clear hHeld e7 hf7
        go_wp2
        go_roundw
        case rel => exact ⟨k + 1, by go_num, by rw [HC1.out]; go_num, hkn, by rw [HD1.out]; exact HZ.out.1, HM1.out, HZ.out.2⟩
        case measure => simp [Go.RowKit.intOf]; omega
      · have hcj : jj ≤ c5 := by omega
        have HD6 : Hid (Ces wc wc.heap.size (some ⟨g5, jj * 4, none⟩) (n5 - jj) (c5 - jj) (l0.drop jj)) := by have := HDR.out; rw [if_neg hci, Option.map_some, add_none, Nat.zero_add] at this; exact this
        refine Go.wp_region_held_drew (S := fun w' => w'.cell? ⟨p, 0, none⟩ = some (.slice (some ⟨bb, 0, none⟩) TT.length TT.length) ∧ w'.cell? ⟨q, 1, none⟩ = some (.int .i64 i)) (by kernel_rfl) (HSZ.out _ (HB6.out.drew)) (fun hHeld => ?_)
        refine wpAnyH_take (i := 0) (v := ?pcv0) rfl (by kernel_rfl) (by kernel_rfl) (by kernel_rfl) (fun _ _ _ h => h) (Or.inl ⟨by rfl, ?pcy0⟩) (by assumption) ?pcr0
        case pcy0 => (intro w hSw; (try dsimp only at hSw); go_simp; try with_reducible rfl)
        try simp only [Act.put, List.getElem_toArray, List.getElem_cons_succ, List.getElem_cons_zero, List.setIfInBounds_toArray, List.set_cons_zero, List.set_cons_succ]
        refine wpAnyH_take (i := 1) (v := ?pcv1) rfl (by kernel_rfl) (by kernel_rfl) (by kernel_rfl) (fun _ _ _ h => h) (Or.inl ⟨by rfl, ?pcy1⟩) (by assumption) ?pcr1
        case pcy1 => (intro w hSw; (try dsimp only at hSw); go_simp; try with_reducible rfl)
        try simp only [Act.put, List.getElem_toArray, List.getElem_cons_succ, List.getElem_cons_zero, List.setIfInBounds_toArray, List.set_cons_zero, List.set_cons_succ]
        refine wpAnyH_take (i := 2) (v := ?pcv2) rfl (by kernel_rfl) (by kernel_rfl) (by kernel_rfl) (fun _ _ _ h => h) (Or.inl ⟨by rfl, ?pcy2⟩) (by assumption) ?pcr2
        case pcy2 => (intro w hSw; (try dsimp only at hSw); go_simp; try with_reducible rfl)
        try simp only [Act.put, List.getElem_toArray, List.getElem_cons_succ, List.getElem_cons_zero, List.setIfInBounds_toArray, List.set_cons_zero, List.set_cons_succ]
        refine wpAnyH_take (i := 3) (v := ?pcv3) rfl (by kernel_rfl) (by kernel_rfl) (by kernel_rfl) (fun _ _ _ h => h) (Or.inl ⟨by rfl, ?pcy3⟩) (by assumption) ?pcr3
        case pcy3 => (intro w hSw; (try dsimp only at hSw); go_simp; try with_reducible rfl)
        try simp only [Act.put, List.getElem_toArray, List.getElem_cons_succ, List.getElem_cons_zero, List.setIfInBounds_toArray, List.set_cons_zero, List.set_cons_succ]
        refine wpAnyH_take (i := 4) (v := ?pcv4) rfl (by kernel_rfl) (by kernel_rfl) (by kernel_rfl) (fun _ _ _ h => h) (Or.inl ⟨by rfl, ?pcy4⟩) (by assumption) ?pcr4
        case pcy4 => (intro w hSw; (try dsimp only at hSw); go_simp; try with_reducible rfl)
        try simp only [Act.put, List.getElem_toArray, List.getElem_cons_succ, List.getElem_cons_zero, List.setIfInBounds_toArray, List.set_cons_zero, List.set_cons_succ]
        refine wpAnyH_take (i := 5) (v := ?pcv5) rfl (by kernel_rfl) (by kernel_rfl) (by kernel_rfl) (fun _ _ _ h => h) (Or.inl ⟨by rfl, ?pcy5⟩) (by assumption) ?pcr5
        case pcy5 => (intro w hSw; (try dsimp only at hSw); go_simp; try with_reducible rfl)
        try simp only [Act.put, List.getElem_toArray, List.getElem_cons_succ, List.getElem_cons_zero, List.setIfInBounds_toArray, List.set_cons_zero, List.set_cons_succ]
        refine wpAnyH_take (i := 6) (v := ?pcv6) rfl (by kernel_rfl) (by kernel_rfl) (by kernel_rfl) (fun _ _ _ h => h) (Or.inl ⟨by rfl, ?pcy6⟩) (by assumption) ?pcr6
        case pcy6 => (intro w hSw; (try dsimp only at hSw); go_simp; try with_reducible rfl)
        try simp only [Act.put, List.getElem_toArray, List.getElem_cons_succ, List.getElem_cons_zero, List.setIfInBounds_toArray, List.set_cons_zero, List.set_cons_succ]
        refine wpAnyH_take (i := 7) (v := ?pcv7) rfl (by kernel_rfl) (by kernel_rfl) (by kernel_rfl) (fun _ _ _ h => h) (Or.inl ⟨by rfl, ?pcy7⟩) (by assumption) ?pcr7
        case pcy7 => (intro w hSw; (try dsimp only at hSw); go_simp; try with_reducible rfl)
        try simp only [Act.put, List.getElem_toArray, List.getElem_cons_succ, List.getElem_cons_zero, List.setIfInBounds_toArray, List.set_cons_zero, List.set_cons_succ]
        refine wpAnyH_take (i := 8) (v := ?pcv8) rfl (by kernel_rfl) (by kernel_rfl) (by kernel_rfl) (fun _ _ _ h => h) (Or.inl ⟨by rfl, ?pcy8⟩) (by assumption) ?pcr8
        case pcy8 => (intro w hSw; (try dsimp only at hSw); go_simp; try with_reducible rfl)
        try simp only [Act.put, List.getElem_toArray, List.getElem_cons_succ, List.getElem_cons_zero, List.setIfInBounds_toArray, List.set_cons_zero, List.set_cons_succ]
        refine wpAnyH_take (i := 9) (v := ?pcv9) rfl (by kernel_rfl) (by kernel_rfl) (by kernel_rfl) (fun _ _ _ h => h) (Or.inl ⟨by rfl, ?pcy9⟩) (by assumption) ?pcr9
        case pcy9 => (intro w hSw; (try dsimp only at hSw); go_simp; try with_reducible rfl)
        try simp only [Act.put, List.getElem_toArray, List.getElem_cons_succ, List.getElem_cons_zero, List.setIfInBounds_toArray, List.set_cons_zero, List.set_cons_succ]
        refine wpAnyH_ready (rs := [10]) (by kernel_rfl) (by simp) ?_
        refine AllReadyH.cons rfl (fun K hK => ?_) AllReadyH.nil
        refine step_append_row (by rfl) (.tmp 114) (.tmp 117) (by rfl) cel V.heap.size _ (ip + 1) _ (by rfl) (own_drew HO6.out) wc.heap.size _ (n5 - jj) (c5 - jj) (cv (l0.drop jj)) (by rfl) (Row.drew HD6.out) (cv_one _) (by omega) (by omega) HB6.out.size ?_
        intro A7 c7 w7 hown7 _ hb7
        rw [← cv_append, ← HPT.out] at hown7
        have hB7 : Below V.heap.size V w7 := (HB6.out.drew).trans hb7
        have HW7 : Hid (Below wr.heap.size wr w7) := HB3.out.trans (hB7.mono HB3.out.size)
        have HE7 := Lib.hid (HSZ.out _ hB7)
        have hf7 := (HYR.out.row.below HW7.out HYR.out.row.lt).frozen i
        have HZ := Lib.hid (rturn_lay HYR.out hi HTU.out HW7.out (own_mono hown7 (Nat.zero_le _)) (fun g hg => .inr (by have := hown7.lt g hg; have := HB3.out.size; omega)) HRP.out)
        refine hK.out _ _ HE7.out (fun hHeld => ?_)
        clear hK K hown7 hb7 hB7
        try simp only [Act.put, List.getElem_toArray, List.getElem_cons_succ, List.getElem_cons_zero, List.setIfInBounds_toArray, List.set_cons_zero, List.set_cons_succ]
        refine wpAnyH_take (i := 11) (v := ?pczv11) rfl (by kernel_rfl) (by kernel_rfl) (by kernel_rfl) (fun _ _ _ h => h) (Or.inl ⟨by rfl, ?pczy11⟩) (by assumption) ?pczr11
        case pczy11 => (intro w hSw; (try dsimp only at hSw); go_simp; try with_reducible rfl)
        try simp only [Act.put, List.getElem_toArray, List.getElem_cons_succ, List.getElem_cons_zero, List.setIfInBounds_toArray, List.set_cons_zero, List.set_cons_succ]
        have e7 : w7.cell? ⟨bb, i, none⟩ = some (.slice _ _ _) := (HW7.out.cell (p := ⟨bb, i, none⟩) HYR.out.row.lt).trans HD2.out
        refine wpAnyH_ready (rs := [12]) (by kernel_rfl) (by simp) ?_
        refine AllReadyH.cons rfl (fun K hK => ?_) AllReadyH.nil
        go_simp
        refine hK.out _ _ ⟨(World.cell?_setCell_far w7 ⟨bb, i, none⟩ ⟨p, 0, none⟩ _ (Ne.symm hpne)).trans HE7.out.1, (World.cell?_setCell_far w7 ⟨bb, i, none⟩ ⟨q, 1, none⟩ _ (Ne.symm hqne)).trans HE7.out.2⟩ (fun hHeld => ?_)
        clear hK K
        try simp only [Act.put, List.getElem_toArray, List.getElem_cons_succ, List.getElem_cons_zero, List.setIfInBounds_toArray, List.set_cons_zero, List.set_cons_succ]
        refine wpAnyH_done (by kernel_rfl) ?_ _
        clear hHeld e7 hf7
        go_wp2
        go_roundw
        case rel => exact ⟨k + 1, by go_num, by rw [HC1.out]; go_num, hkn, by rw [HD1.out]; exact HZ.out.1, HM1.out, HZ.out.2⟩
        case measure => simp [Go.RowKit.intOf]; omega
end Go.Proofs.Ytlbgpfiiiggofaa.Gd
