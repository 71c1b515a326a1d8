/-
  Contract of package fault's Push. No condition.
-/
import Derived.Test.YtnbhbhnmidijkaaFaultNext
import Derived.Test.YtnbhbhnmidijkaaRegionLast
namespace Go.Proofs.Ytnbhbhnmidijkaa.Flt
set_option linter.unusedVariables false
set_option maxRecDepth 100000
open Go.RowKit Base FaultMath Foot Last
set_option linter.ambiguousOpen false
set_option linter.unusedSimpArgs false

/-- the slice lies in no block of F -/
def Off (F : Nat → Prop) (A : Option Addr) (n : Nat) : Prop := 0 < n → ∀ b, A.map (·.block) = some b → ¬ F b
theorem Fts.same {w w' : World} {B B' n c : Nat} {A : Option Addr} {l : List Ft} (h : Fts w B A n c l) (hs : 0 < n → ∀ b, A.map (·.block) = some b → b < B → b < B' ∧ w'.heap[b]? = w.heap[b]?) : Fts w' B' A n c l := by
  refine ⟨h.1, h.2.1, h.2.2.1, fun hn => ?_⟩
  obtain ⟨b, off, e, hb, hc⟩ := h.2.2.2 hn
  obtain ⟨h1, h2⟩ := hs hn b (by rw [e]; rfl) hb
  exact ⟨b, off, e, h1, fun j u hu => (World.cell?_of_block (w := w) (a := ⟨b, off + j, none⟩) h2).trans (hc j u hu)⟩
theorem Fts.turn {F : Nat → Prop} {w w' : World} {B n c : Nat} {A : Option Addr} {l : List Ft} (h : Fts w B A n c l) (hB : B ≤ w.heap.size) (ho : Off F A n) (ht : Turn F w w') : Fts w' B A n c l :=
  Fts.same h fun hn b hb hlt => ⟨hlt, ht.block b (by omega) (ho hn b hb)⟩
def PuRel (F : Nat → Prop) (w : World) (g n : Nat) (l fs : List Ft) (vi : Value) (wr : World) : Prop := ∃ k : Nat, k ≤ n ∧ vi = .int .i64 k ∧ PlanAt (Out F w wr) wr g (push l (fs.take k)) ∧ Turn F w wr
/-- what Push leaves -/
def Pushed (F : Nat → Prop) (w : World) (g : Nat) (l fs : List Ft) (e : Ending) (w' : World) : Prop := e = .returned (.int .i64 ((push l fs).length - l.length : Nat)) ∧ PlanAt (Out F w w') w' g (push l fs) ∧ Turn F w w'
theorem Pushed.end_ {F : Nat → Prop} {w wr w' : World} {g m ll : Nat} {l fs q : List Ft} {v : Int} (hq : push l fs = q) (hm : m = q.length) (hl : ll = l.length) (hge : ll ≤ m) (hv : v = (m : Int) - (ll : Int)) (hp : PlanAt (Out F w wr) wr g q) (ht : Turn F w wr) (hb : Below wr.heap.size wr w') : Pushed F w g l fs (.returned (.int .i64 v)) w' := by
  unfold Pushed
  rw [hq, ← hm, ← hl]
  refine ⟨by rw [hv]; congr 2; omega, (hp.below hb).mono fun i hi => hi.mono hb.size, ht.trans (F' := fun _ => False) (Turn.new hb) (fun _ h => h.elim)⟩
/-- one more, and the plan's own cell set -/
theorem plan_more {F : Nat → Prop} {w w2 w4 : World} {g m c1 c4 : Nat} {A1 A4 : Option Addr} {q : List Ft} {f : Ft} {o : Obj} (hT : Turn F w w2) (hb : Blk w2 g 44 #[.slice A1 m c1]) (hF : Out F w w2 g) (h24 : m < 1024) (hm : m = q.length) (hQ : Que w2 (Out F w w2) 23 2 A1 m c1 (fv q))
    (hd : Queued (w2.alloc o).drew (Out F w w2) 23 2 A1 (m + 1) (fv q ++ fv [f]) A4 c4 w4) : PlanAt (Out F w (w4.setCell ⟨g, 0, none⟩ (.slice A4 (m + 1) c4))) (w4.setCell ⟨g, 0, none⟩ (.slice A4 (m + 1) c4)) g (q ++ [f]) ∧ Turn F w (w4.setCell ⟨g, 0, none⟩ (.slice A4 (m + 1) c4)) := by
  have hg : (w2.alloc o).grownBy w4 (A1.map (·.block)) := only_of_drew hd.2
  have h2 : w2.grownBy w4 (A1.map (·.block)) := only_trans (only_alloc (World.grownBy.refl w2 _) o) hg (.inl rfl)
  have hne := hQ.ne hb (by decide)
  have hb4 : Blk w4 g 44 #[.slice A1 m c1] := hb.grown h2 (fun e => hne e.symm)
  have hz : w2.heap.size ≤ w4.heap.size := h2.size
  have hz5 : (w4.setCell ⟨g, 0, none⟩ (.slice A4 (m + 1) c4)).heap.size = w4.heap.size := by simp [World.setCell]
  have hT4 : Turn F w w4 := hT.trans (F' := Out F w w2) (Turn.grown h2 fun k hk => (hQ.blk hk).1) fun i hi => hi.imp id fun h => h.1
  refine ⟨⟨hF.mono (by rw [hz5]; exact hz), by rw [List.length_append, ← hm]; show m + 1 ≤ 1024; omega, A4, m + 1, c4, hb4.set_ 0 _, ?_⟩, hT4.setCell (p := ⟨g, 0, none⟩) (hF.imp id fun h => h.1) _⟩
  have hq4 := hd.1
  rw [← fv_append] at hq4
  refine (hq4.set_ hb4 (by decide) _).mono fun i hi => ?_
  rcases hi with hi | hi
  · exact hi.mono (by rw [hz5]; exact hz)
  · refine .inr ⟨Nat.le_trans hT.size (Nat.le_trans ?_ hi.1), by rw [hz5]; exact hi.2⟩
    simp [World.drew]
set_option maxHeartbeats 6400000 in
theorem push_any (F : Nat → Prop) (g B : Nat) (A : Option Addr) (n c : Nat) (l fs : List Ft) (w : World) (h : PlanAt F w g l) (hr : Fts w B A n c fs) (hB : B ≤ w.heap.size) (ho : Off F A n) : Calls Try.prog 13 #[.pointer (some ⟨g, 0, none⟩), .slice A n c] w (Pushed F w g l fs) := by
  have hle := hr.le
  have hl24 := h.2.1
  obtain ⟨A0, c0, h1, h2, hb, hq⟩ := h.at_
  have p0 : w.cell? ⟨g, 0, none⟩ = some (.slice A0 l.length c0) := hb.cell 0
  have HP := Lib.hid h
  have HR := Lib.hid hr
  have HO := Lib.hid ho
  have HL := Lib.hid hr.len
  obtain ⟨ll, hll⟩ : ∃ ll, ll = l.length := ⟨_, rfl⟩
  rw [← hll] at p0 hl24 h1
  have HLL := Lib.hid hll
  clear h hr ho hb hq hll
  go_enter Try.func13, Try.ntmps13
  go_wp2
  clear p0 h1
  go_loopw [15] (fun vi wr => PuRel F w g n l fs vi wr) (fun vi _ => n - (Go.RowKit.intOf vi).toNat)
  case atStart => exact ⟨0, Nat.zero_le _, rfl, HP.out.mono fun i hi => .inl hi, Turn.refl _ _⟩
  case round =>
    obtain ⟨k, hk, rfl, hpl, htn⟩ := hrel
    obtain ⟨q, hq⟩ : ∃ q, q = push l (fs.take k) := ⟨_, rfl⟩
    rw [← hq] at hpl
    have HQ := Lib.hid hq
    have hq24 := hpl.2.1
    have HGE : Hid (l.length ≤ q.length) := by rw [hq]; exact push_ge _ _
    obtain ⟨A1, c1, h1, h2, hb, hque⟩ := hpl.at_
    obtain ⟨m, hm⟩ : ∃ m, m = q.length := ⟨_, rfl⟩
    rw [← hm] at hq24 h1 hb hque HGE
    have HM := Lib.hid hm
    have HPL := Lib.hid hpl
    have HT := Lib.hid htn
    have p0 : wr.cell? ⟨g, 0, none⟩ = some (.slice A1 m c1) := hb.cell 0
    have fr := hb.frozen 0
    have hgl := hb.lt
    have HBK := Lib.hid hb
    have HQUE := Lib.hid hque
    have hge : ll ≤ m := by rw [HLL.out]; exact HGE.out
    clear hb hque hm hpl htn hq HGE
    by_cases hkn : k < n
    · have HR2 : Hid (Fts wr B A n c fs) := HR.out.turn hB HO.out HT.out
      have hz := HT.out.size
      obtain ⟨b, off, f, rfl, hbb, q0, q1, hget, htake⟩ := HR2.out.at_ hkn
      obtain ⟨k0, k1⟩ := f
      dsimp only at q0 q1
      have HTK := Lib.hid htake
      have l1 : (k : Int) < (n : Int) := by omega
      have hbw : Below wr.heap.size wr (wr.alloc (.cells #[.int .i64 k0, .int .i64 k1] 23)) := (Below.refl _ _).alloc (Nat.le_refl _) _
      clear hget htake
      by_cases hfull : m = 1024
      · have l2 : ((m : Int) == 1024) = true := by simp; omega
        have HST : Hid (push l fs = q) := by
          rw [HQ.out]
          exact push_stop (by rw [← HQ.out, ← HM.out]; omega)
        have HWB := Lib.hid hbw
        clear hbw
        go_wp2
        go_ret
        exact Pushed.end_ HST.out HM.out HLL.out hge (by omega) HPL.out HT.out HWB.out
      · have l2 : ((m : Int) == 1024) = false := by simp; omega
        have HWB := Lib.hid hbw
        have HX := Lib.hid (Blk.new wr 23 #[.int .i64 k0, .int .i64 k1])
        have hzb : wr.heap.size < (wr.alloc (.cells #[.int .i64 k0, .int .i64 k1] 23)).heap.size := by simp
        clear hbw
        go_wp2_with fail
        refine (may_any k0 k1 _).mono ?_
        rintro e w2 ⟨rfl, hg2⟩
        have hb2 := hg2.below
        have HB2 := Lib.hid (held_two HWB.out hb2)
        have hx2 := HX.out.below hb2 hzb
        have hgl2 : g < w2.heap.size := by have := HB2.out.size; omega
        have hbk2 := HBK.out.below HB2.out hgl
        have hfr2 := hbk2.frozen 0
        have HQ2 := Lib.hid ((HQUE.out.below HB2.out).mono (F' := Out F w w2) fun i hi => Out.mono HB2.out.size hi)
        have p2 : w2.cell? ⟨g, 0, none⟩ = some (.slice A1 m c1) := hbk2.cell 0
        have HBK2 := Lib.hid hbk2
        have HX2 := Lib.hid hx2
        obtain ⟨sx, hsx⟩ : ∃ sx, sx = wr.heap.size := ⟨_, rfl⟩
        rw [← hsx] at HX2 hx2 ⊢
        have HSX := Lib.hid hsx
        have x0 : w2.cell? ⟨sx, 0, none⟩ = some (.int .i64 k0) := hx2.cell 0
        have x1 : w2.cell? ⟨sx, 1, none⟩ = some (.int .i64 k1) := hx2.cell 1
        have HPL2 := Lib.hid ((HPL.out.below HB2.out).mono fun i hi => Out.mono HB2.out.size hi)
        have HT2 : Hid (Turn F w w2) := Lib.hid (HT.out.trans (F' := fun _ => False) (Turn.new HB2.out) (fun _ h => h.elim))
        clear hb2 hg2 hx2 hbk2 p0 q0 q1 fr hsx
        cases hmay : may ⟨k0, k1⟩ with
        | false =>
          have HN : Hid (push l (fs.take (k + 1)) = q) := by rw [HTK.out, push_snoc, ← HQ.out]; exact put_no hmay
          go_wp2
          go_roundw
          case rel => exact ⟨k + 1, by omega, by go_num, by rw [HN.out]; exact HPL2.out, HT2.out⟩
          case measure => simp [intOf]; omega
        | true =>
          have HN : Hid (push l (fs.take (k + 1)) = q ++ [⟨k0, k1⟩]) := by rw [HTK.out, push_snoc, ← HQ.out]; exact put_yes hmay (by rw [← HM.out]; omega)
          clear hmay
          have hzr : ∀ b, A1.map (·.block) = some b → b < sx := fun b hb => by
            obtain ⟨_, cur, hc⟩ := HQUE.out.blk hb
            rw [HSX.out]
            exact Blk.lt (w := wr) hc
          have HNX : Hid (A1.map (·.block) ≠ some sx) := fun hb => by have := hzr sx hb; omega
          have HNG : Hid (A1.map (·.block) ≠ some g) := HQUE.out.ne HBK.out (by decide)
          have hx2l := HX2.out.lt
          clear hzr
          go_wp2_with fail
          refine wp_region_last_at (S := fun w' => w'.cell? ⟨g, 0, none⟩ = some (.slice A1 m c1) ∧ w'.cell? ⟨sx, 0, none⟩ = some (.int .i64 k0) ∧ w'.cell? ⟨sx, 1, none⟩ = some (.int .i64 k1)) 10 _ rfl rfl (by kernel_rfl) (by kernel_rfl) (by kernel_rfl) ⟨p2, x0, x1⟩ (fun hHeld => ?_)
          simp only [List.take_succ_cons, List.take_zero]
          refine wpAnyH_take (i := 0) (v := ?av0) rfl (by kernel_rfl) (by kernel_rfl) (by kernel_rfl) (fun _ _ _ h => h) (Or.inl ⟨by rfl, ?ay0⟩) (by assumption) ?ar0
          case ay0 => (intro w hSw; (try dsimp only at hSw); go_simp; try with_reducible rfl)
          try simp only [Act.put, List.getElem_toArray, List.getElem_cons_succ, List.getElem_cons_zero, List.setIfInBounds_toArray, List.set_cons_zero, List.set_cons_succ]
          refine wpAnyH_take (i := 1) (v := ?av1) rfl (by kernel_rfl) (by kernel_rfl) (by kernel_rfl) (fun _ _ _ h => h) (Or.inl ⟨by rfl, ?ay1⟩) (by assumption) ?ar1
          case ay1 => (intro w hSw; (try dsimp only at hSw); go_simp; try with_reducible rfl)
          try simp only [Act.put, List.getElem_toArray, List.getElem_cons_succ, List.getElem_cons_zero, List.setIfInBounds_toArray, List.set_cons_zero, List.set_cons_succ]
          refine wpAnyH_take (i := 2) (v := ?av2) rfl (by kernel_rfl) (by kernel_rfl) (by kernel_rfl) (fun _ _ _ h => h) (Or.inl ⟨by rfl, ?ay2⟩) (by assumption) ?ar2
          case ay2 => (intro w hSw; (try dsimp only at hSw); go_simp; try with_reducible rfl)
          try simp only [Act.put, List.getElem_toArray, List.getElem_cons_succ, List.getElem_cons_zero, List.setIfInBounds_toArray, List.set_cons_zero, List.set_cons_succ]
          refine wpAnyH_take (i := 3) (v := ?av3) rfl (by kernel_rfl) (by kernel_rfl) (by kernel_rfl) (fun _ _ _ h => h) (Or.inl ⟨by rfl, ?ay3⟩) (by assumption) ?ar3
          case ay3 => (intro w hSw; (try dsimp only at hSw); go_simp; try with_reducible rfl)
          try simp only [Act.put, List.getElem_toArray, List.getElem_cons_succ, List.getElem_cons_zero, List.setIfInBounds_toArray, List.set_cons_zero, List.set_cons_succ]
          refine wpAnyH_take (i := 4) (v := ?av4) rfl (by kernel_rfl) (by kernel_rfl) (by kernel_rfl) (fun _ _ _ h => h) (Or.inl ⟨by rfl, ?ay4⟩) (by assumption) ?ar4
          case ay4 => (intro w hSw; (try dsimp only at hSw); go_simp; try with_reducible rfl)
          try simp only [Act.put, List.getElem_toArray, List.getElem_cons_succ, List.getElem_cons_zero, List.setIfInBounds_toArray, List.set_cons_zero, List.set_cons_succ]
          refine wpAnyH_take (i := 5) (v := ?av5) rfl (by kernel_rfl) (by kernel_rfl) (by kernel_rfl) (fun _ _ _ h => h) (Or.inl ⟨by rfl, ?ay5⟩) (by assumption) ?ar5
          case ay5 => (intro w hSw; (try dsimp only at hSw); go_simp; try with_reducible rfl)
          try simp only [Act.put, List.getElem_toArray, List.getElem_cons_succ, List.getElem_cons_zero, List.setIfInBounds_toArray, List.set_cons_zero, List.set_cons_succ]
          refine wpAnyH_ready (rs := [6]) (by kernel_rfl) (by simp) ?_
          refine AllReadyH.cons rfl (fun K hK => ?_) AllReadyH.nil
          go_simp
          have hb3 : Below w2.heap.size w2 (w2.alloc (.cells #[.int .i64 k0, .int .i64 k1] 23)) := (Below.refl _ _).alloc (Nat.le_refl _) _
          refine hK.out _ _ ⟨(hb3.cell hgl2).trans p2, (hb3.cell hx2l).trans x0, (hb3.cell hx2l).trans x1⟩ (fun hHeld => ?_)
          clear hK K
          try simp only [Act.put, List.getElem_toArray, List.getElem_cons_succ, List.getElem_cons_zero, List.setIfInBounds_toArray, List.set_cons_zero, List.set_cons_succ]
          refine wpAnyH_ready (rs := [7]) (by kernel_rfl) (by simp) ?_
          refine AllReadyH.cons rfl (fun K hK => ?_) AllReadyH.nil
          refine step_append_que (by rfl) (.tmp 31) (.tmp 33) (by rfl) fel (HQ2.out.alloc (.cells #[.int .i64 k0, .int .i64 k1] 23)) (by rfl) _ _ 1 1 (fv [⟨k0, k1⟩]) (by rfl) (fone w2 ⟨k0, k1⟩ rfl) (by omega) (fv_one _) (by omega) (by omega) ?_
          intro A4 c4 w4 hqd
          have hg5 : w2.grownBy w4 (A1.map (·.block)) := only_trans (only_alloc (World.grownBy.refl w2 _) (.cells #[.int .i64 k0, .int .i64 k1] 23)) (only_of_drew hqd.2) (.inl rfl)
          have hbk4 := HBK2.out.grown hg5 (fun e => HNG.out e.symm)
          have hx4 := HX2.out.grown hg5 (fun e => HNX.out e.symm)
          refine hK.out _ _ ⟨hbk4.cell 0, hx4.cell 0, hx4.cell 1⟩ (fun hHeld => ?_)
          clear hK K
          try simp only [Act.put, List.getElem_toArray, List.getElem_cons_succ, List.getElem_cons_zero, List.setIfInBounds_toArray, List.set_cons_zero, List.set_cons_succ]
          refine wpAnyH_take (i := 8) (v := ?bv8) rfl (by kernel_rfl) (by kernel_rfl) (by kernel_rfl) (fun _ _ _ h => h) (Or.inl ⟨by rfl, ?by8⟩) (by assumption) ?br8
          case by8 => (intro w hSw; (try dsimp only at hSw); go_simp; try with_reducible rfl)
          try simp only [Act.put, List.getElem_toArray, List.getElem_cons_succ, List.getElem_cons_zero, List.setIfInBounds_toArray, List.set_cons_zero, List.set_cons_succ]
          refine wpAnyH_take (i := 9) (v := ?bv9) rfl (by kernel_rfl) (by kernel_rfl) (by kernel_rfl) (fun _ _ _ h => h) (Or.inl ⟨by rfl, ?by9⟩) (by assumption) ?br9
          case by9 => (intro w hSw; (try dsimp only at hSw); go_simp; try with_reducible rfl)
          try simp only [Act.put, List.getElem_toArray, List.getElem_cons_succ, List.getElem_cons_zero, List.setIfInBounds_toArray, List.set_cons_zero, List.set_cons_succ]
          refine wpAnyH_done (by kernel_rfl) ?_ _
          refine then_normal rfl ?_
          have HPM := Lib.hid (plan_more HT2.out HBK2.out HPL2.out.1 (by omega) HM.out HQ2.out hqd)
          have p4 : w4.cell? ⟨g, 0, none⟩ = some (.slice A1 m c1) := hHeld.1
          have f4 := hbk4.frozen 0
          clear hqd hg5 hbk4 hx4 p2 hfr2
          go_wp2
          go_roundw
          case rel => exact ⟨k + 1, by omega, by go_num, by rw [HN.out]; exact HPM.out.1, HPM.out.2⟩
          case measure => simp [intOf]; omega
    · obtain rfl : k = n := by omega
      have l1 : ¬ (k : Int) < (k : Int) := by omega
      have hwz : IntKind.i64.wrap ((m : Int) - (ll : Int)) = (m : Int) - (ll : Int) := IntWalk.i64_in _ (by omega)
      have he : push l fs = q := by rw [HQ.out, List.take_of_length_le (by rw [HL.out]; omega)]
      have HE := Lib.hid he
      clear he
      go_wp2
      go_ret
      exact Pushed.end_ HE.out HM.out HLL.out hge (by omega) HPL.out HT.out (Below.refl _ _)
end Go.Proofs.Ytnbhbhnmidijkaa.Flt
