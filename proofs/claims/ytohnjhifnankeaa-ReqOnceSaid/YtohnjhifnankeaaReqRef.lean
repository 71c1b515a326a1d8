/-
  Contracts of the document's own answers for requests (qanatref13): which may be.
-/
import Derived.Test.YtohnjhifnankeaaReqDo
import Derived.Deep.DeepCutAuto
namespace Go.Proofs.Ytohnjhifnankeaa.Req
set_option linter.unusedVariables false
set_option maxRecDepth 100000
open Go.RowKit Base ReqMath
open Go.Sort (grow)
set_option linter.ambiguousOpen false
set_option linter.unusedSimpArgs false

theorem takes_no {l : List Rq} {f : Rq} {k : Nat} (hk : l.length = k) (h : ¬ (f.id = (k : Int) + 1 ∧ inb f = true ∧ lastAt l ≤ f.at_ ∧ waits l f.tbl = false)) : takes l f = false := by
  cases ht : takes l f with
  | false => rfl
  | true =>
    obtain ⟨_, h1, h2, h3, h4⟩ := takes_parts ht
    exact absurd ⟨by rw [h1, hk], h2, h3, h4⟩ h
def RefC (W : World) (l : List Rq) (k : Nat) (f : Rq) (v : Value) (wx : World) : Prop := ∃ (bb : Bool) (q : Nat), v = .bool bb ∧ wx = W.drewN q ∧ (bb = true → may l = false) ∧ (bb = false → f.id = (k : Int) + 1 ∧ 0 ≤ f.tbl ∧ f.tbl < 8 ∧ 1 ≤ f.wt ∧ f.wt ≤ 8 ∧ 1 ≤ f.at_ ∧ f.at_ ≤ 1099511627776 ∧ lastAt (l.take k) ≤ f.at_)
def RefI (l : List Rq) (w : World) (k : Nat) (wr : World) : Prop := (∀ j r, j < k → l[j]? = some r → takes (l.take j) r = true) ∧ Gr w wr
set_option maxHeartbeats 16000000 in
theorem refmay_any (B : Nat) (A : Option Addr) (n c : Nat) (l : List Rq) (w : World) (h : Qs w B A n c l) (hB : B ≤ w.heap.size) :
    Calls Try.prog 23 #[.slice A n c] w fun e w' => e = .returned (.bool (may l)) ∧ Gr w w' := by
  have hle := h.le
  have HL := Lib.hid h.len
  have HR := Lib.hid h
  by_cases hbig : 64 < n
  · have HM : Hid (may l = false) := by
      show may l = false
      cases hm : may l with
      | false => rfl
      | true => have := may_len hm; rw [HL.out] at this; omega
    clear h
    have l1 : (64 : Int) < (n : Int) := by omega
    go_enter Try.func23, Try.ntmps23
    go_wp2
    go_ret
    exact ⟨by rw [HM.out]; rfl, Gr.refl _⟩
  clear h
  have l0 : ¬ (64 : Int) < (n : Int) := by omega
  go_enter Try.func23, Try.ntmps23
  go_wp2
  go_loopw [3] (fun i wr => ∃ k : Nat, k ≤ n ∧ i = .int .i64 k ∧ RefI l w k wr) (fun i _ => n - (intOf i).toNat)
  case atStart => exact ⟨0, by omega, rfl, (fun j r hj => by omega), Gr.refl _⟩
  case round =>
    obtain ⟨k, hk, rfl, hall, hg⟩ := hrel
    have HG := Lib.hid hg
    have HA := Lib.hid hall
    clear hg hall
    by_cases hlt : k < n
    rotate_left
    · obtain rfl : k = n := by omega
      have HM : Hid (may l = true) := may_iff.2 fun i r hr => HA.out i r (by rw [← HL.out]; exact (List.getElem?_eq_some_iff.1 hr).1) hr
      go_wp2
      go_ret
      exact ⟨by rw [HM.out]; rfl, HG.out⟩
    have HQ := Lib.hid (HR.out.below (HG.out.below.mono hB))
    obtain ⟨b, off, f, rfl, hb, c0, c1, c2, c3, c4, c5, c6, hget, ht⟩ := HQ.out.at_ hlt
    obtain ⟨f0, f1, f2, f3, f4, f5, f6⟩ := f
    dsimp only at c0 c1 c2 c3 c4 c5 c6
    have l1 : (k : Int) < (n : Int) := by omega
    have hbw : b < wr.heap.size := Nat.lt_of_lt_of_le hb (Nat.le_trans hB HG.out.below.size)
    have HBW := Lib.hid hbw
    have htk : (l.take k).length = k := by rw [List.length_take, HL.out]; omega
    have HTK := Lib.hid htk
    have HY : Hid (takes (l.take k) ⟨f0, f1, f2, f3, f4, f5, f6⟩ = true → ∀ j r, j < k + 1 → l[j]? = some r → takes (l.take j) r = true) := fun hy j r hj hr => by
      rcases Nat.lt_or_ge j k with h1 | h1
      · exact HA.out j r h1 hr
      · obtain rfl : j = k := by omega
        rw [hget] at hr
        injection hr with hr
        rw [← hr]
        exact hy
    have HN : Hid (¬ (f0 = (k : Int) + 1 ∧ inb ⟨f0, f1, f2, f3, f4, f5, f6⟩ = true ∧ lastAt (l.take k) ≤ f3 ∧ waits (l.take k) f1 = false) → may l = false) := fun hh => may_no hget (takes_no htk hh)
    obtain ⟨W, hW⟩ : ∃ W, W = wr.alloc (.cells #[.int .i64 f0, .int .i64 f1, .int .i64 f2, .int .i64 f3, .int .i64 f4, .int .i64 f5, .bool f6] 29) := ⟨_, rfl⟩
    have hx : Blk W wr.heap.size 29 #[.int .i64 f0, .int .i64 f1, .int .i64 f2, .int .i64 f3, .int .i64 f4, .int .i64 f5, .bool f6] := by rw [hW]; exact Blk.new _ _ _
    have HGW : Hid (Gr w W) := by show Gr w W; rw [hW]; exact HG.out.alloc _
    have hbel : Below wr.heap.size wr W := by rw [hW]; exact (Below.refl _ _).alloc (Nat.le_refl _) _
    have HQW : Hid (Qs W B (some ⟨b, off, none⟩) n c l) := HQ.out.below (hbel.mono (Nat.le_trans hB HG.out.below.size))
    obtain ⟨p, hp⟩ : ∃ p, p = wr.heap.size := ⟨_, rfl⟩
    rw [← hp] at hx
    have HXW := Lib.hid hx
    have HW := Lib.hid hW
    have HP := Lib.hid hp
    have HLA : Hid (∀ m : Nat, k = m + 1 → ∃ at0, W.cell? ⟨b, off + m * 7 + 3, none⟩ = some (.int .i64 at0) ∧ lastAt (l.take k) = at0) := fun m hm => by
      obtain ⟨b', off', f', e', _, _, _, _, d3, _, _, _, hg', _⟩ := HQW.out.at_ (k := m) (by omega)
      injection e' with e'
      injection e' with e1 e2
      subst e1 e2
      refine ⟨f'.at_, d3, ?_⟩
      rw [hm]
      exact lastAt_take hg'
    have HL0 : Hid (k = 0 → lastAt (l.take k) = 0) := fun h0 => by rw [h0]; rfl
    have q0 := hx.cell 0
    have q1 := hx.cell 1
    have q2 := hx.cell 2
    have q3 := hx.cell 3
    have q4 := hx.cell 4
    have q5 := hx.cell 5
    have q6 := hx.cell 6
    clear hget ht hx hW hp htk hbel hbw
    go_upto_region 7 with fail
    rw [← HW.out, ← HP.out]
    clear c0 c1 c2 c3 c4 c5 c6
    go_cut [68] (fun v wx => RefC W l k ⟨f0, f1, f2, f3, f4, f5, f6⟩ v wx)
    case first =>
      by_cases t1 : f0 = (k : Int) + 1
      rotate_left
      · have y1 : (f0 == (k : Int) + 1) = false := by simpa using t1
        have y1' : (f0 != (k : Int) + 1) = true := by simpa using t1
        go_quiet (fail)
        go_wp2_with fail
        go_meet
        exact ⟨true, _, rfl, rfl, fun _ => HN.out (fun hh => by have := inb_parts hh.2.1; dsimp only at this; omega), fun hh => by cases hh⟩
      have y1 : (f0 == (k : Int) + 1) = true := by simpa using t1
      have y1' : (f0 != (k : Int) + 1) = false := by simpa using t1
      by_cases t2 : 0 ≤ f1
      rotate_left
      · have y2 : decide (f1 < 0) = true := by simp; omega
        go_quiet (fail)
        go_wp2_with fail
        go_meet
        exact ⟨true, _, rfl, rfl, fun _ => HN.out (fun hh => by have := inb_parts hh.2.1; dsimp only at this; omega), fun hh => by cases hh⟩
      have y2 : decide (f1 < 0) = false := by simp; omega
      by_cases t3 : f1 < 8
      rotate_left
      · have y3 : decide (8 ≤ f1) = true := by simp; omega
        go_quiet (fail)
        go_wp2_with fail
        go_meet
        exact ⟨true, _, rfl, rfl, fun _ => HN.out (fun hh => by have := inb_parts hh.2.1; dsimp only at this; omega), fun hh => by cases hh⟩
      have y3 : decide (8 ≤ f1) = false := by simp; omega
      by_cases t4 : 1 ≤ f2
      rotate_left
      · have y4 : decide (f2 < 1) = true := by simp; omega
        go_quiet (fail)
        go_wp2_with fail
        go_meet
        exact ⟨true, _, rfl, rfl, fun _ => HN.out (fun hh => by have := inb_parts hh.2.1; dsimp only at this; omega), fun hh => by cases hh⟩
      have y4 : decide (f2 < 1) = false := by simp; omega
      by_cases t5 : f2 ≤ 8
      rotate_left
      · have y5 : decide (8 < f2) = true := by simp; omega
        go_quiet (fail)
        go_wp2_with fail
        go_meet
        exact ⟨true, _, rfl, rfl, fun _ => HN.out (fun hh => by have := inb_parts hh.2.1; dsimp only at this; omega), fun hh => by cases hh⟩
      have y5 : decide (8 < f2) = false := by simp; omega
      by_cases t6 : 1 ≤ f3
      rotate_left
      · have y6 : decide (f3 < 1) = true := by simp; omega
        go_quiet (fail)
        go_wp2_with fail
        go_meet
        exact ⟨true, _, rfl, rfl, fun _ => HN.out (fun hh => by have := inb_parts hh.2.1; dsimp only at this; omega), fun hh => by cases hh⟩
      have y6 : decide (f3 < 1) = false := by simp; omega
      by_cases t7 : f3 ≤ 1099511627776
      rotate_left
      · have y7 : decide (1099511627776 < f3) = true := by simp; omega
        go_quiet (fail)
        go_wp2_with fail
        go_meet
        exact ⟨true, _, rfl, rfl, fun _ => HN.out (fun hh => by have := inb_parts hh.2.1; dsimp only at this; omega), fun hh => by cases hh⟩
      have y7 : decide (1099511627776 < f3) = false := by simp; omega
      by_cases hk0 : k = 0
      · have y8 : decide ((0 : Int) < (k : Int)) = false := by simp; omega
        have y8' : decide (0 < k) = false := by simp; omega
        have HLT : Hid (lastAt (l.take k) ≤ f3) := by show _ ≤ _; rw [HL0.out hk0]; omega
        go_quiet (fail)
        go_wp2_with fail
        go_meet
        exact ⟨false, _, rfl, rfl, (fun hh => by cases hh), fun _ => ⟨t1, t2, t3, t4, t5, t6, t7, HLT.out⟩⟩
      · obtain ⟨m, hm⟩ : ∃ m : Nat, k = m + 1 := ⟨k - 1, by omega⟩
        obtain ⟨at0, d3, hat⟩ := HLA.out m hm
        have HAT := Lib.hid hat
        have HKM := Lib.hid hm
        have y8 : decide ((0 : Int) < (k : Int)) = true := by simp; omega
        have y8' : decide (0 < k) = true := by simp; omega
        have l3 : (k : Int) - 1 = (m : Int) := by omega
        have l4 : (m : Int) < (n : Int) := by omega
        have l5 : IntKind.i64.wrap ((k : Int) - 1) = (m : Int) := by rw [IntKind.wrap_i64]; omega
        clear hat hm
        by_cases t9 : at0 ≤ f3
        rotate_left
        · have y9 : decide (f3 < at0) = true := by simp; omega
          go_quiet (fail)
          go_wp2_with fail
          go_meet
          exact ⟨true, _, rfl, rfl, fun _ => HN.out (fun hh => by have := hh.2.2.1; rw [HAT.out] at this; omega), fun hh => by cases hh⟩
        have y9 : decide (f3 < at0) = false := by simp; omega
        have HLT : Hid (lastAt (l.take k) ≤ f3) := by show _ ≤ _; rw [HAT.out]; omega
        go_quiet (fail)
        go_wp2_with fail
        go_meet
        exact ⟨false, _, rfl, rfl, (fun hh => by cases hh), fun _ => ⟨t1, t2, t3, t4, t5, t6, t7, HLT.out⟩⟩
    case rest =>
      obtain ⟨bb, q, rfl, rfl, hno, hyes⟩ := hcut
      have HGX : Hid (Gr w (W.drewN q)) := HGW.out.drewN q
      have HQX : Hid (Qs (W.drewN q) B (some ⟨b, off, none⟩) n c l) := HQW.out
      have HX : Hid (Blk (W.drewN q) p 29 #[.int .i64 f0, .int .i64 f1, .int .i64 f2, .int .i64 f3, .int .i64 f4, .int .i64 f5, .bool f6]) := Lib.hid (show Blk (W.drewN q) p _ _ from HXW.out)
      have HNO := Lib.hid hno
      have HYES := Lib.hid hyes
      clear q0 q1 q2 q3 q4 q5 q6 hno hyes HLA HL0 HGW HQW HXW HQ
      generalize W.drewN q = X at *
      cases bb with
      | true =>
        go_wp2
        go_ret
        exact ⟨by rw [HNO.out (by first | rfl | trivial)]; rfl, HGX.out⟩
      | false =>
        obtain ⟨t1, t2, t3, t4, t5, t6, t7, t8⟩ := HYES.out (by first | rfl | trivial)
        dsimp only at t1 t2 t3 t4 t5 t6 t7 t8
        have HT1 := Lib.hid t1
        have HT8 := Lib.hid t8
        clear t1 t8
        have q0 := HX.out.cell 0
        have q1 := HX.out.cell 1
        have q2 := HX.out.cell 2
        have q3 := HX.out.cell 3
        have q4 := HX.out.cell 4
        have q5 := HX.out.cell 5
        have q6 := HX.out.cell 6
        by_cases u1 : 0 ≤ f4
        rotate_left
        · go_wp2
          go_ret
          exact ⟨by rw [HN.out (fun hh => by have := inb_parts hh.2.1; dsimp only at this; omega)]; rfl, HGX.out⟩
        by_cases u2 : f4 ≤ 1099511627776
        rotate_left
        · go_wp2
          go_ret
          exact ⟨by rw [HN.out (fun hh => by have := inb_parts hh.2.1; dsimp only at this; omega)]; rfl, HGX.out⟩
        by_cases u3 : 0 ≤ f5
        rotate_left
        · go_wp2
          go_ret
          exact ⟨by rw [HN.out (fun hh => by have := inb_parts hh.2.1; dsimp only at this; omega)]; rfl, HGX.out⟩
        by_cases u4 : f5 ≤ 1099511627776
        rotate_left
        · go_wp2
          go_ret
          exact ⟨by rw [HN.out (fun hh => by have := inb_parts hh.2.1; dsimp only at this; omega)]; rfl, HGX.out⟩
        have HIN : Hid (inb ⟨f0, f1, f2, f3, f4, f5, f6⟩ = true) := inb_mk ⟨t2, t3, t4, t5, t6, t7, u1, u2, u3, u4⟩
        go_wp2
        clear q0 q1 q2 q3 q4 q5 q6
        go_loopw [5] (fun j wz => ∃ m : Nat, m ≤ k ∧ j = .int .i64 m ∧ waits (l.take m) f1 = false ∧ ∃ q, wz = X.drewN q) (fun j _ => k - (intOf j).toNat)
        case atStart => exact ⟨0, by omega, rfl, rfl, 0, rfl⟩
        case round =>
          obtain ⟨m, hm, rfl, hw, q, rfl⟩ := hrel
          have HWT := Lib.hid hw
          clear hw
          by_cases hmk : m < k
          · obtain ⟨b', off', g, e', _, d0, d1, d2, d3, d4, d5, d6, hg', ht'⟩ := HQX.out.at_ (k := m) (by omega)
            injection e' with e'
            injection e' with e1 e2
            subst e1 e2
            have HS : Hid (waits (l.take (m + 1)) f1 = (g.tbl == f1 && !g.done)) := by show _ = _; rw [ht', waits_snoc, HWT.out, Bool.false_or]
            have HYW : Hid ((g.tbl == f1 && !g.done) = true → waits (l.take k) f1 = true) := waits_yes (i := m) (by rw [List.getElem?_take_of_lt hmk]; exact hg')
            have HX2 : Hid (Blk (X.drewN q) p 29 #[.int .i64 f0, .int .i64 f1, .int .i64 f2, .int .i64 f3, .int .i64 f4, .int .i64 f5, .bool f6]) := Lib.hid (show Blk (X.drewN q) p _ _ from HX.out)
            have HQ2 : Hid (Qs (X.drewN q) B (some ⟨b, off, none⟩) n c l) := HQX.out
            obtain ⟨g0, g1, g2, g3, g4, g5, g6⟩ := g
            dsimp only at d1 d6 HS HYW
            have d1' : (X.drewN q).cell? ⟨b, off + m * 7 + 1, none⟩ = some (.int .i64 g1) := d1
            have d6' : (X.drewN q).cell? ⟨b, off + m * 7 + 6, none⟩ = some (.bool g6) := d6
            have q1 := HX2.out.cell 1
            have l2 : (m : Int) < (k : Int) := by omega
            have l3 : (m : Int) < (n : Int) := by omega
            have HGX2 : Hid (Gr w (X.drewN q)) := HGX.out.drewN q
            have HQN : Hid (∀ z, (X.drewN q).drewN z = X.drewN (q + z)) := fun z => by rw [World.drewN_drewN]
            clear d0 d1 d2 d3 d4 d5 d6 hg' ht'
            generalize X.drewN q = Y at *
            by_cases hgt : g1 = f1
            · subst hgt
              have z1 : (g1 == g1) = true := by simp
              cases g6 with
              | true =>
                rw [show (g1 == g1 && !true) = false by simp] at HS
                go_wp2_with fail
                go_quiet (fail)
                go_wp2
                go_roundw
                case rel => exact ⟨m + 1, by omega, by go_num, HS.out, _, HQN.out _⟩
                case measure => simp [intOf]; omega
              | false =>
                go_wp2_with fail
                go_quiet (fail)
                go_wp2
                go_ret
                exact ⟨by rw [HN.out (fun hh => by have := hh.2.2.2; rw [HYW.out (by simp)] at this; cases this)]; rfl, HGX2.out.drewN _⟩
            · have z1 : (g1 == f1) = false := by simpa using hgt
              rw [z1, Bool.false_and] at HS
              go_wp2_with fail
              go_quiet (fail)
              go_wp2
              go_roundw
              case rel => exact ⟨m + 1, by omega, by go_num, HS.out, _, HQN.out _⟩
              case measure => simp [intOf]; omega
          · obtain rfl : m = k := by omega
            have HK : Hid (takes (l.take m) ⟨f0, f1, f2, f3, f4, f5, f6⟩ = true) := takes_mk (by rw [HTK.out]; omega) (by rw [HTK.out]; exact HT1.out) HIN.out HT8.out HWT.out
            go_wp2
            go_roundw
            case rel => exact ⟨m + 1, by omega, by go_num, HY.out HK.out, HGX.out.drewN q⟩
            case measure => simp [intOf]; omega
end Go.Proofs.Ytohnjhifnankeaa.Req
