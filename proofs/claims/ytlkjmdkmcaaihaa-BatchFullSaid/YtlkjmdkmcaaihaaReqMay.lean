/-
  Contracts of package req: whether one may come behind others, whether a list may be.
-/
import Derived.Test.YtlkjmdkmcaaihaaReqCode
import Derived.Deep.DeepCutAuto
namespace Go.Proofs.Ytlkjmdkmcaaihaa.Req
set_option linter.unusedVariables false
set_option maxRecDepth 100000
open Go.RowKit Base ReqMath
open Go.Sort (grow)
set_option linter.ambiguousOpen false
set_option linter.unusedSimpArgs false

set_option maxHeartbeats 3200000 in
theorem takes_any (B : Nat) (A : Option Addr) (n c : Nat) (l : List Rq) (r : Rq) (w : World) (h : Qs w B A n c l) (hB : B ≤ w.heap.size) (hn : n ≤ 1099511627776) :
    Calls Try.prog 86 #[.slice A n c, qval r] w fun e w' => e = .returned (.bool (takes l r)) ∧ Gr w w' := by
  obtain ⟨r0, r1, r2, r3, r4, r5, r6⟩ := r
  have HL := Lib.hid h.len
  have HE := Lib.hid (show takes l ⟨r0, r1, r2, r3, r4, r5, r6⟩ = (decide (l.length < 64) && decide (r0 = l.length + 1) && inb ⟨r0, r1, r2, r3, r4, r5, r6⟩ && decide (lastAt l ≤ r3) && !waits l r1) from rfl)
  have hbx : Below w.heap.size w (w.alloc (.cells #[.int .i64 r0, .int .i64 r1, .int .i64 r2, .int .i64 r3, .int .i64 r4, .int .i64 r5, .bool r6] 125)) := (Below.refl _ _).alloc (Nat.le_refl _) _
  have HR : Hid (Qs (w.alloc (.cells #[.int .i64 r0, .int .i64 r1, .int .i64 r2, .int .i64 r3, .int .i64 r4, .int .i64 r5, .bool r6] 125)) B A n c l) := h.below (hbx.mono hB)
  have HGW := Lib.hid ((Gr.refl w).alloc (.cells #[.int .i64 r0, .int .i64 r1, .int .i64 r2, .int .i64 r3, .int .i64 r4, .int .i64 r5, .bool r6] 125))
  have hx := Blk.new w 125 #[.int .i64 r0, .int .i64 r1, .int .i64 r2, .int .i64 r3, .int .i64 r4, .int .i64 r5, .bool r6]
  have mixed : Try.prog.follows .mixedOrders = true := by kernel_rfl
  obtain ⟨p, hp⟩ : ∃ p, p = w.heap.size := ⟨_, rfl⟩
  unfold qval
  dsimp only
  go_enter Try.func86, Try.ntmps86
  go_upto_region 1 with fail
  have HB : Hid (B ≤ (w.alloc (.cells #[.int .i64 r0, .int .i64 r1, .int .i64 r2, .int .i64 r3, .int .i64 r4, .int .i64 r5, .bool r6] 125)).heap.size) := Nat.le_trans hB hbx.size
  generalize w.alloc (.cells #[.int .i64 r0, .int .i64 r1, .int .i64 r2, .int .i64 r3, .int .i64 r4, .int .i64 r5, .bool r6] 125) = W at *
  rw [← hp] at hx ⊢
  have hlt := hx.lt
  have q0 : ∀ n os, (grow (W.drewN n) os).cell? ⟨p, 0, none⟩ = some (.int .i64 r0) := cell_grown hlt (hx.cell 0)
  have q1 : ∀ n os, (grow (W.drewN n) os).cell? ⟨p, 1, none⟩ = some (.int .i64 r1) := cell_grown hlt (hx.cell 1)
  have q2 : ∀ n os, (grow (W.drewN n) os).cell? ⟨p, 2, none⟩ = some (.int .i64 r2) := cell_grown hlt (hx.cell 2)
  have q3 : ∀ n os, (grow (W.drewN n) os).cell? ⟨p, 3, none⟩ = some (.int .i64 r3) := cell_grown hlt (hx.cell 3)
  have q4 : ∀ n os, (grow (W.drewN n) os).cell? ⟨p, 4, none⟩ = some (.int .i64 r4) := cell_grown hlt (hx.cell 4)
  have q5 : ∀ n os, (grow (W.drewN n) os).cell? ⟨p, 5, none⟩ = some (.int .i64 r5) := cell_grown hlt (hx.cell 5)
  have q6 : ∀ n os, (grow (W.drewN n) os).cell? ⟨p, 6, none⟩ = some (.bool r6) := cell_grown hlt (hx.cell 6)
  have H1 : Hid (∀ m os, Calls Try.prog 84 #[.slice A n c] (grow (W.drewN m) os) fun e w'' => e = .returned (.int .i64 ((n : Int) + 1)) ∧ ∃ p : GrownBy, w'' = grow (W.drewN p.n) p.os) := fun m os => Gr.same (nextid_any A n c _ hn)
  have H2 : Hid (∀ m os, Calls Try.prog 89 #[.agg #[.int .i64 r0, .int .i64 r1, .int .i64 r2, .int .i64 r3, .int .i64 r4, .int .i64 r5, .bool r6]] (grow (W.drewN m) os) fun e w'' => e = .returned (.bool (inb ⟨r0, r1, r2, r3, r4, r5, r6⟩)) ∧ ∃ p : GrownBy, w'' = grow (W.drewN p.n) p.os) := fun m os => Gr.met (inb_any ⟨r0, r1, r2, r3, r4, r5, r6⟩ _)
  have H3 : Hid (∀ m os, Calls Try.prog 90 #[.slice A n c] (grow (W.drewN m) os) fun e w'' => e = .returned (.int .i64 (lastAt l)) ∧ ∃ p : GrownBy, w'' = grow (W.drewN p.n) p.os) := fun m os => Gr.same (lastat_any B A n c l _ (HR.out.below (((Gr.refl W).grown m os).below.mono HB.out)))
  have H4 : Hid (∀ m os, Calls Try.prog 91 #[.slice A n c, .int .i64 r1] (grow (W.drewN m) os) fun e w'' => e = .returned (.bool (waits l r1)) ∧ ∃ p : GrownBy, w'' = grow (W.drewN p.n) p.os) := fun m os => Gr.met (waits_any B A n c l r1 _ (HR.out.below (((Gr.refl W).grown m os).below.mono HB.out)) (Nat.le_trans HB.out ((Gr.refl W).grown m os).below.size))
  rw [HL.out] at HE
  clear h hx hbx hp hlt hB
  generalize inb ⟨r0, r1, r2, r3, r4, r5, r6⟩ = b2 at HE H2
  generalize lastAt l = la at HE H3
  generalize waits l r1 = b4 at HE H4
  have fin : ∀ (bb : Bool) (w' : World), bb = (decide (n < 64) && decide (r0 = (n : Int) + 1) && b2 && decide (la ≤ r3) && !b4) → Gr W w' → Ending.returned (.bool bb) = .returned (.bool (takes l ⟨r0, r1, r2, r3, r4, r5, r6⟩)) ∧ Gr w w' := fun bb w' h2 h3 => ⟨by rw [h2, HE.out], HGW.out.trans h3⟩
  have FIN := Lib.hid fin
  clear fin HE HGW
  by_cases h1 : n < 64
  · have l1 : decide ((n : Int) < 64) = true := by rw [decide_eq_true_eq]; omega
    have l1' : (n : Int) < 64 := by omega
    by_cases h2 : r0 = (n : Int) + 1
    · have l2 : (r0 == (n : Int) + 1) = true := by simpa using h2
      have K2 := Lib.hid h2
      clear h2
      cases b2 with
      | true =>
        by_cases h3 : la ≤ r3
        · have l3 : decide (la ≤ r3) = true := by rw [decide_eq_true_eq]; exact h3
          go_quiet_grown (first | (go_at_call 84; exact H1.out _ _) | (go_at_call 89; exact H2.out _ _) | (go_at_call 90; exact H3.out _ _) | (go_at_call 91; exact H4.out _ _))
          go_wp2
          go_ret
          exact FIN.out (!b4) _ (by simp [h1, K2.out, h3]) ((Gr.refl W).grown _ _)
        · have l3 : decide (la ≤ r3) = false := by rw [decide_eq_false_iff_not]; exact h3
          go_quiet_grown (first | (go_at_call 84; exact H1.out _ _) | (go_at_call 89; exact H2.out _ _) | (go_at_call 90; exact H3.out _ _))
          go_wp2
          go_ret
          exact FIN.out false _ (by simp [l3]) ((Gr.refl W).grown _ _)
      | false =>
        go_quiet_grown (first | (go_at_call 84; exact H1.out _ _) | (go_at_call 89; exact H2.out _ _))
        go_wp2
        go_ret
        exact FIN.out false _ (by simp) ((Gr.refl W).grown _ _)
    · have l2 : (r0 == (n : Int) + 1) = false := by rw [beq_eq_false_iff_ne]; exact h2
      go_quiet_grown (first | (go_at_call 84; exact H1.out _ _))
      go_wp2
      go_ret
      exact FIN.out false _ (by simp [h2]) ((Gr.refl W).grown _ _)
  · have l1 : decide ((n : Int) < 64) = false := by rw [decide_eq_false_iff_not]; omega
    go_quiet_grown (fail)
    go_wp2
    go_ret
    exact FIN.out false _ (by simp [h1]) ((Gr.refl W).grown _ _)

set_option maxHeartbeats 1600000 in
theorem may_any (B : Nat) (A : Option Addr) (n c : Nat) (l : List Rq) (w : World) (h : Qs w B A n c l) (hB : B ≤ w.heap.size) (hn : n ≤ 1099511627776) :
    Calls Try.prog 85 #[.slice A n c] w fun e w' => e = .returned (.bool (may l)) ∧ Gr w w' := by
  have hle := h.le
  have HL := Lib.hid h.len
  have HR := Lib.hid h
  have mixed : Try.prog.follows .mixedOrders = true := by kernel_rfl
  clear h
  go_enter Try.func85, Try.ntmps85
  go_wp2
  go_loopw [7] (fun i wr => ∃ k : Nat, k ≤ n ∧ i = .int .i64 k ∧ (∀ j r, j < k → l[j]? = some r → takes (l.take j) r = true) ∧ Gr w wr) (fun i _ => n - (intOf i).toNat)
  case atStart => exact ⟨0, by omega, rfl, (fun j r hj => by omega), Gr.refl _⟩
  case round =>
    obtain ⟨k, hk, rfl, hall, hg⟩ := hrel
    have HG := Lib.hid hg
    have HA := Lib.hid hall
    clear hg hall
    by_cases hlt : k < n
    · obtain ⟨b, off, f, rfl, hb, c0, c1, c2, c3, c4, c5, c6, hget, ht⟩ := (HR.out.below (HG.out.below.mono hB)).at_ hlt
      obtain ⟨f0, f1, f2, f3, f4, f5, f6⟩ := f
      dsimp only at c0 c1 c2 c3 c4 c5 c6
      have l1 : (k : Int) < (n : Int) := by omega
      have l2 : k ≤ c := by omega
      obtain ⟨W, hW⟩ : ∃ W, W = wr.alloc (.cells #[.int .i64 f0, .int .i64 f1, .int .i64 f2, .int .i64 f3, .int .i64 f4, .int .i64 f5, .bool f6] 125) := ⟨_, rfl⟩
      have hx : Blk W wr.heap.size 125 #[.int .i64 f0, .int .i64 f1, .int .i64 f2, .int .i64 f3, .int .i64 f4, .int .i64 f5, .bool f6] := by rw [hW]; exact Blk.new _ _ _
      have HGW : Hid (Gr w W) := by show Gr w W; rw [hW]; exact HG.out.alloc _
      have HF : Hid (Qs W B (some ⟨b, off, none⟩) k c (l.take k)) := (HR.out.below (HGW.out.below.mono hB)).front (by omega)
      have HC : Hid (∀ m os, Calls Try.prog 86 #[.slice (some ⟨b, off, none⟩) k c, .agg #[.int .i64 f0, .int .i64 f1, .int .i64 f2, .int .i64 f3, .int .i64 f4, .int .i64 f5, .bool f6]] (grow (W.drewN m) os) fun e w'' => e = .returned (.bool (takes (l.take k) ⟨f0, f1, f2, f3, f4, f5, f6⟩)) ∧ ∃ p : GrownBy, w'' = grow (W.drewN p.n) p.os) :=
        fun m os => Gr.met (takes_any B _ k c (l.take k) ⟨f0, f1, f2, f3, f4, f5, f6⟩ _ (HF.out.below (((Gr.refl W).grown m os).below.mono (Nat.le_trans hB HGW.out.below.size))) (Nat.le_trans (Nat.le_trans hB HGW.out.below.size) ((Gr.refl W).grown m os).below.size) (by omega))
      obtain ⟨p, hp⟩ : ∃ p, p = wr.heap.size := ⟨_, rfl⟩
      rw [← hp] at hx
      have hltp := hx.lt
      have q0 : ∀ n os, (grow (W.drewN n) os).cell? ⟨p, 0, none⟩ = some (.int .i64 f0) := cell_grown hltp (hx.cell 0)
      have q1 : ∀ n os, (grow (W.drewN n) os).cell? ⟨p, 1, none⟩ = some (.int .i64 f1) := cell_grown hltp (hx.cell 1)
      have q2 : ∀ n os, (grow (W.drewN n) os).cell? ⟨p, 2, none⟩ = some (.int .i64 f2) := cell_grown hltp (hx.cell 2)
      have q3 : ∀ n os, (grow (W.drewN n) os).cell? ⟨p, 3, none⟩ = some (.int .i64 f3) := cell_grown hltp (hx.cell 3)
      have q4 : ∀ n os, (grow (W.drewN n) os).cell? ⟨p, 4, none⟩ = some (.int .i64 f4) := cell_grown hltp (hx.cell 4)
      have q5 : ∀ n os, (grow (W.drewN n) os).cell? ⟨p, 5, none⟩ = some (.int .i64 f5) := cell_grown hltp (hx.cell 5)
      have q6 : ∀ n os, (grow (W.drewN n) os).cell? ⟨p, 6, none⟩ = some (.bool f6) := cell_grown hltp (hx.cell 6)
      have HY : Hid (takes (l.take k) ⟨f0, f1, f2, f3, f4, f5, f6⟩ = true → ∀ j r, j < k + 1 → l[j]? = some r → takes (l.take j) r = true) := fun hy j r hj hr => by
        rcases Nat.lt_or_ge j k with h1 | h1
        · exact HA.out j r h1 hr
        · obtain rfl : j = k := by omega
          rw [hget] at hr
          injection hr with hr
          rw [← hr]
          exact hy
      have HN : Hid (takes (l.take k) ⟨f0, f1, f2, f3, f4, f5, f6⟩ = false → may l = false) := may_no hget
      have HW := Lib.hid hW
      have HP := Lib.hid hp
      clear hget ht hx hW hltp hp
      generalize takes (l.take k) ⟨f0, f1, f2, f3, f4, f5, f6⟩ = bb at *
      go_upto_region 4 with fail
      rw [← HW.out, ← HP.out]
      clear c0 c1 c2 c3 c4 c5 c6
      cases bb with
      | true =>
        go_quiet_grown (first | (go_at_call 86; exact HC.out _ _))
        go_wp2
        go_roundw
        case rel => exact ⟨k + 1, by omega, by go_num, HY.out (by first | rfl | trivial), HGW.out.grown _ _⟩
        case measure => simp [intOf]; omega
      | false =>
        go_quiet_grown (first | (go_at_call 86; exact HC.out _ _))
        go_wp2
        go_ret
        exact ⟨by rw [HN.out (by first | rfl | trivial)]; rfl, HGW.out.grown _ _⟩
    · obtain rfl : k = n := by omega
      have HM : Hid (may l = true) := may_iff.2 fun i r hr => HA.out i r (by rw [← HL.out]; exact (List.getElem?_eq_some_iff.1 hr).1) hr
      go_wp2
      go_ret
      exact ⟨by rw [HM.out]; rfl, HG.out⟩
end Go.Proofs.Ytlkjmdkmcaaihaa.Req
