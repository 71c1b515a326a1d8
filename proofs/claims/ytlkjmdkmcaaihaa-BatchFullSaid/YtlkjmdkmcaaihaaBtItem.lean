/-
  Contract of package batch's reader of an item: what is read is what the plain mathematics says.
-/
import Derived.Test.YtlkjmdkmcaaihaaBtRead
import Derived.Test.YtlkjmdkmcaaihaaRegionLast
namespace Go.Proofs.Ytlkjmdkmcaaihaa.Bt
set_option linter.unusedVariables false
set_option maxRecDepth 100000
open Go.RowKit Base FieldMath TxnMath BatchMath Last
open GuardMath (Gp noGp)
open Gd (Gps ov ov_append ov_one ov_length ocells oval oel oone)
open Txn (Rd St St.start St.call St.store St.recv Blk.kept cnumber2_any upTo_any yes2_any ctext2_any)
open Go.Proofs.Ytlkjmdkmcaaihaa.Field (fv fv_append fv_one fv_length fv_get fv_take Flds ef ret_bool empty_iff)
set_option linter.ambiguousOpen false
set_option linter.unusedSimpArgs false

/-- a reader on its way through an item -/
abbrev ItSt := St 74 25 itz
theorem rdN_range {m : Int} (hm : 0 ≤ m) (s : Rs) : 0 ≤ (rdN (some m) s).1 ∧ (rdN (some m) s).1 ≤ m := by
  unfold rdN
  match s with
  | none => exact ⟨Int.le_refl _, hm⟩
  | some [] => exact ⟨Int.le_refl _, hm⟩
  | some (f :: r) =>
    dsimp only
    by_cases h : f.kind = 1 ∧ fits (some m) f.n = true
    · rw [if_pos h]
      have := h.2
      unfold fits at this
      simp only [Bool.and_eq_true, decide_eq_true_eq] at this
      exact this
    · rw [if_neg h]
      exact ⟨Int.le_refl _, hm⟩
theorem rdL_step {α : Type} {rd : Rs → α × Rs} {N k : Nat} {pre : List α} {s0 s : Rs} (h : rdL rd false N s0 = (pre ++ (rdL rd false (N - k) s).1, (rdL rd false (N - k) s).2)) (hlt : k < N) :
    rdL rd false N s0 = (pre ++ [(rd s).1] ++ (rdL rd false (N - (k + 1)) (rd s).2).1, (rdL rd false (N - (k + 1)) (rd s).2).2) := by
  obtain ⟨m, hm⟩ : ∃ m, N - k = m + 1 := ⟨N - k - 1, by omega⟩
  rw [h, hm, show N - (k + 1) = m by omega, rdL, if_neg (by simp)]
  simp
theorem off_ {w wr w1 : World} {g n : Nat} {e : TypeId} {size : Nat} {v : Value} {xs : List Value} (h : wr.ownsRow (w.heap.size + 3) e size v n xs) (hlt : g < w.heap.size) (hg : wr.grownBy w1 (some g)) : w1.ownsRow (w.heap.size + 3) e size v n xs :=
  h.kept hg (.inr fun e => by have := (h.lt g e).1; omega)
theorem three_on (w : World) (b : Nat) (v0 v1 v2 : Value) : w.grownBy (((w.setCell ⟨b, 0, none⟩ v0).setCell ⟨b, 1, none⟩ v1).setCell ⟨b, 2, none⟩ v2) (some b) := by
  have h0 := only_setCell (World.grownBy.refl w (some b)) (p := ⟨b, 0, none⟩) (.inl rfl) v0
  have h1 := only_setCell h0 (p := ⟨b, 1, none⟩) (.inl rfl) v1
  exact only_setCell h1 (p := ⟨b, 2, none⟩) (.inl rfl) v2
def OpsRel (w : World) (B g N : Nat) (L : Int) (s0 : Rs) (i : Value) (wr : World) : Prop :=
  ∃ (k : Nat) (pre : List Gp) (s : Rs) (A : Option Addr) (c : Nat), k ≤ N ∧ i = .int .i64 k ∧ rdL (rdO none none) false N s0 = (pre ++ (rdL (rdO none none) false (N - k) s).1, (rdL (rdO none none) false (N - k) s).2) ∧
    wr.ownsRow (w.heap.size + 3) 29 5 (.slice A k c) k (ov pre) ∧ ItSt w B g s #[.int .i64 L, .slice A k c, .slice none 0 0] wr
def NtsRel (w : World) (B g N : Nat) (L : Int) (l : List Gp) (A0 : Option Addr) (n0 c0 : Nat) (s0 : Rs) (i : Value) (wr : World) : Prop :=
  ∃ (k : Nat) (pre : List Nt) (s : Rs) (A : Option Addr) (c : Nat), k ≤ N ∧ i = .int .i64 k ∧ rdL (rdM codeB) false N s0 = (pre ++ (rdL (rdM codeB) false (N - k) s).1, (rdL (rdM codeB) false (N - k) s).2) ∧
    wr.ownsRow (w.heap.size + 3) 29 5 (.slice A0 n0 c0) n0 (ov l) ∧ wr.ownsRow (w.heap.size + 3) 27 7 (.slice A k c) k (ntv pre) ∧ ItSt w B g s #[.int .i64 L, .slice A0 n0 c0, .slice A k c] wr
/-- what the reader of an item answers -/
def ReadI (w : World) (B g : Nat) (q : It × Rs) (e : Ending) (w' : World) : Prop :=
  ∃ A n c A' n' c', e = .returned (itv q.1.lsn A n c A' n' c') ∧ ItOwn w' w.heap.size q.1 A n c A' n' c' ∧ Rd w' B g q.2 ∧ w.grownBy w' (some g)

set_option maxHeartbeats 3200000 in
theorem item_any (B g : Nat) (s : Rs) (w : World) (h : Rd w B g s) :
    Calls Try.prog 36 #[.agg #[.pointer (some ⟨g, 0, none⟩)]] w (ReadI w B g (rdI none none codeB false s)) := by
  obtain ⟨a, ha⟩ : ∃ a, a = rdN none s := ⟨_, rfl⟩
  obtain ⟨n, hn⟩ : ∃ n, n = rdN (some 4096) a.2 := ⟨_, rfl⟩
  obtain ⟨d, hd⟩ : ∃ d, d = rdL (rdO none none) false n.1.toNat n.2 := ⟨_, rfl⟩
  obtain ⟨m, hm⟩ : ∃ m, m = rdN (some 256) d.2 := ⟨_, rfl⟩
  obtain ⟨e, he⟩ : ∃ e, e = rdL (rdM codeB) false m.1.toNat m.2 := ⟨_, rfl⟩
  have HE : Hid (rdI none none codeB false s = (⟨a.1, d.1, e.1⟩, e.2)) := by
    show _ = _
    rw [he, hm, hd, hn, ha]
    rfl
  have hn2 := rdN_range (show (0 : Int) ≤ 4096 by omega) a.2
  rw [← hn] at hn2
  have hm2 := rdN_range (show (0 : Int) ≤ 256 by omega) d.2
  rw [← hm] at hm2
  obtain ⟨N, hN⟩ : ∃ N : Nat, n.1 = N := ⟨n.1.toNat, by omega⟩
  obtain ⟨M, hM⟩ : ∃ M : Nat, m.1 = M := ⟨m.1.toNat, by omega⟩
  rw [hN, Int.toNat_natCast] at hd
  rw [hM, Int.toNat_natCast] at he
  rw [hN] at hn2
  rw [hM] at hm2
  have HA := Lib.hid ha
  have HNN := Lib.hid hn
  have HD := Lib.hid hd
  have HMM := Lib.hid hm
  have HEE := Lib.hid he
  have HN := Lib.hid hN
  have HM := Lib.hid hM
  have HR := Lib.hid h
  have hlt := h.lt
  clear h ha hn hd hm he hN hM
  go_enter Try.func36, Try.ntmps36
  go_wp2_with fail
  have HT0 : Hid (ItSt w B g s itz (((w.alloc (.cells #[.pointer (some ⟨g, 0, none⟩)] 74)).alloc (.cells itz 25)).alloc (.cells itz 25))) := St.start HR.out
  refine (cnumber2_any B g s _ HT0.out.1).mono ?_
  rintro e1 w1 ⟨he1, hr1, hg1⟩
  rw [← HA.out] at he1 hr1
  subst he1
  have HT1 := Lib.hid (HT0.out.call hlt hr1 hg1)
  have k1 : w1.cell? ⟨w.heap.size + 2, 0, none⟩ = some (.int .i64 0) := HT1.out.2.1.cell 0
  have cr1 := HT1.out.recv
  have f1 := HT1.out.2.1.frozen 0
  clear hr1 hg1 HT0
  go_wp2_with fail
  have HS1 := Lib.hid (HT1.out.store hlt 0 (.int .i64 a.1))
  refine (upTo_any B g a.2 4096 _ HS1.out.1 (by omega)).mono ?_
  rintro e4 w4 ⟨he4, hr4, hg4⟩
  rw [show ((4096 : Nat) : Int) = 4096 from rfl, ← HNN.out, HN.out] at he4
  rw [show ((4096 : Nat) : Int) = 4096 from rfl, ← HNN.out] at hr4
  subst he4
  have HT4 : Hid (ItSt w B g n.2 #[.int .i64 a.1, .slice none 0 0, .slice none 0 0] w4) := HS1.out.call hlt hr4 hg4
  clear hr4 hg4 HS1 HT1 k1 f1 cr1
  go_wp2
  go_loopw [11] (fun i wr => OpsRel w B g N a.1 n.2 i wr) (fun i _ => N - (intOf i).toNat)
  case atStart => exact ⟨0, [], n.2, none, 0, by omega, rfl, rfl, World.ownsRow_nil _ _ _ _, HT4.out⟩
  case round =>
    obtain ⟨k, pre, s1, A, cp, hk, rfl, hrd, hown, hst⟩ := hrel
    have c2 : wr.cell? ⟨w.heap.size + 2, 1, none⟩ = some (.slice A k cp) := hst.2.1.cell 1
    have cr := hst.recv
    have hcc := And.intro c2 cr
    have HRD := Lib.hid hrd
    have HO := Lib.hid hown
    have HT := Lib.hid hst
    clear hrd hown hst HT4
    by_cases hlk : k < N
    · have HST := Lib.hid (rdL_step HRD.out hlk)
      go_wp2_with fail
      refine wp_region_last_at (S := fun w' => w'.cell? ⟨w.heap.size + 2, 1, none⟩ = some (.slice A k cp) ∧ w'.cell? ⟨w.heap.size, 0, none⟩ = some (.pointer (some ⟨g, 0, none⟩))) 7 _ rfl rfl (by kernel_rfl) (by kernel_rfl) (by kernel_rfl) hcc (fun hHeld => ?_)
      simp only [List.take_succ_cons, List.take_zero]
      refine wpAnyH_take (i := 0) (v := ?pav0) rfl (by kernel_rfl) (by kernel_rfl) (by kernel_rfl) (fun _ _ _ h => h) (Or.inl ⟨by rfl, ?pay0⟩) (by assumption) ?par0
      case pay0 => (intro w hSw; (try dsimp only at hSw); obtain ⟨hSa, hSb⟩ := hSw; go_simp; try with_reducible rfl)
      try simp only [Act.put, List.getElem_toArray, List.getElem_cons_succ, List.getElem_cons_zero, List.setIfInBounds_toArray, List.set_cons_zero, List.set_cons_succ]
      refine wpAnyH_take (i := 1) (v := ?pav1) rfl (by kernel_rfl) (by kernel_rfl) (by kernel_rfl) (fun _ _ _ h => h) (Or.inl ⟨by rfl, ?pay1⟩) (by assumption) ?par1
      case pay1 => (intro w hSw; (try dsimp only at hSw); obtain ⟨hSa, hSb⟩ := hSw; go_simp; try with_reducible rfl)
      try simp only [Act.put, List.getElem_toArray, List.getElem_cons_succ, List.getElem_cons_zero, List.setIfInBounds_toArray, List.set_cons_zero, List.set_cons_succ]
      refine wpAnyH_take (i := 2) (v := ?pav2) rfl (by kernel_rfl) (by kernel_rfl) (by kernel_rfl) (fun _ _ _ h => h) (Or.inl ⟨by rfl, ?pay2⟩) (by assumption) ?par2
      case pay2 => (intro w hSw; (try dsimp only at hSw); obtain ⟨hSa, hSb⟩ := hSw; go_simp; try with_reducible rfl)
      try simp only [Act.put, List.getElem_toArray, List.getElem_cons_succ, List.getElem_cons_zero, List.setIfInBounds_toArray, List.set_cons_zero, List.set_cons_succ]
      refine wpAnyH_ready (rs := [3]) (by kernel_rfl) (by simp) ?_
      refine AllReadyH.cons rfl (fun K hK => ?_) AllReadyH.nil
      go_simp
      refine (op_any B g s1 _ (show Rd wr.drew B g s1 from HT.out.1)).mono ?_
      rintro e5 w5 ⟨rfl, hr5, hg5⟩
      replace hg5 := only_of_drew hg5
      have HT5 := Lib.hid (HT.out.call hlt hr5 hg5)
      have HO5 := Lib.hid (off_ HO.out hlt hg5)
      refine hK.out _ _ ⟨HT5.out.2.1.cell 1, HT5.out.recv⟩ (fun hHeld => ?_)
      clear hK K hr5 hg5
      obtain ⟨f, hf⟩ : ∃ f, f = (rdO none none s1).1 := ⟨_, rfl⟩
      rw [← hf] at HST ⊢
      unfold oval
      clear hf
      try simp only [Act.put, List.getElem_toArray, List.getElem_cons_succ, List.getElem_cons_zero, List.setIfInBounds_toArray, List.set_cons_zero, List.set_cons_succ]
      refine wpAnyH_ready (rs := [4]) (by kernel_rfl) (by simp) ?_
      refine AllReadyH.cons rfl (fun K hK => ?_) AllReadyH.nil
      go_simp
      refine hK.out _ _ ⟨(HT5.out.2.1.alloc _).cell 1, (HT5.out.alloc _).recv⟩ (fun hHeld => ?_)
      clear hK K
      try simp only [Act.put, List.getElem_toArray, List.getElem_cons_succ, List.getElem_cons_zero, List.setIfInBounds_toArray, List.set_cons_zero, List.set_cons_succ]
      refine wpAnyH_ready (rs := [5]) (by kernel_rfl) (by simp) ?_
      refine AllReadyH.cons rfl (fun K hK => ?_) AllReadyH.nil
      refine step_append_row (by rfl) (.tmp 14) (.tmp 17) (by rfl) oel (w.heap.size + 3) (.slice A k cp) k (ov pre) (by rfl) (own_keep HO5.out ((Below.refl _ _).alloc (Nat.le_refl _) _)) (w5.heap.size + 1) (some ⟨w5.heap.size, 0, none⟩) 1 1 (ov [f]) (by rfl) (oone w5 f rfl) (ov_one _) (by omega) (by omega) (by have := HT5.out.2.1.lt; simp; omega) ?_
      intro A6 c6 w6 hown6 hg6 hb6
      rw [← ov_append] at hown6
      have HT6 := Lib.hid ((show ItSt w B g (rdO none none s1).2 _ (w5.alloc (.cells #[.int .i64 f.lsn, .int .i64 f.tbl, .int .i64 f.key, .bool f.gone, .string f.val] 29)) from HT5.out.alloc _).below hlt hb6)
      have HO6 := Lib.hid hown6
      have k6 : w6.cell? ⟨w.heap.size + 2, 1, none⟩ = some (.slice A k cp) := HT6.out.2.1.cell 1
      have kk6 := And.intro k6 HT6.out.recv
      have f6 := HT6.out.2.1.frozen 1
      clear hown6 hg6 hb6
      refine hK.out _ _ kk6 (fun hHeld => ?_)
      clear hK K
      try simp only [Act.put, List.getElem_toArray, List.getElem_cons_succ, List.getElem_cons_zero, List.setIfInBounds_toArray, List.set_cons_zero, List.set_cons_succ]
      refine wpAnyH_take (i := 6) (v := ?pbv6) rfl (by kernel_rfl) (by kernel_rfl) (by kernel_rfl) (fun _ _ _ h => h) (Or.inl ⟨by rfl, ?pby6⟩) (by assumption) ?pbr6
      case pby6 => (intro w hSw; (try dsimp only at hSw); obtain ⟨hSa, hSb⟩ := hSw; go_simp; try with_reducible rfl)
      try simp only [Act.put, List.getElem_toArray, List.getElem_cons_succ, List.getElem_cons_zero, List.setIfInBounds_toArray, List.set_cons_zero, List.set_cons_succ]
      refine wpAnyH_done (by kernel_rfl) ?_ _
      refine then_normal rfl ?_
      have HS6 : Hid (ItSt w B g (rdO none none s1).2 #[.int .i64 a.1, .slice A6 (k + 1) c6, .slice none 0 0] (w6.setCell ⟨w.heap.size + 2, 1, none⟩ (.slice A6 (k + 1) c6))) := HT6.out.store hlt 1 _
      have HO7 : Hid ((w6.setCell ⟨w.heap.size + 2, 1, none⟩ (.slice A6 (k + 1) c6)).ownsRow (w.heap.size + 3) 29 5 (.slice A6 (k + 1) c6) (k + 1) (ov (pre ++ [f]))) :=
        HO6.out.kept (only_setCell (World.grownBy.refl _ (some (w.heap.size + 2))) (.inl rfl) _) (.inr fun e => by have := (HO6.out.lt _ e).1; omega)
      clear hHeld c2 cr hcc
      go_wp2
      go_roundw
      case rel => exact ⟨k + 1, pre ++ [f], (rdO none none s1).2, A6, c6, by omega, by go_num, HST.out, HO7.out, HS6.out⟩
      case measure => simp [intOf]; omega
    · have HD1 : Hid (d = (pre, s1)) := by
        show d = _
        rw [HD.out, HRD.out, show N - k = 0 by omega]
        simp [rdL]
      obtain rfl : k = N := by omega
      clear HRD hlk hk
      have HP : Hid (pre = d.1) := by
        show _ = _
        rw [HD1.out]
      have hS : Hid (s1 = d.2) := by
        show _ = _
        rw [HD1.out]
      have HTx := Lib.hid HT.out
      rw [hS.out] at HTx
      clear HT
      go_wp2_with fail
      refine (upTo_any B g d.2 256 _ HTx.out.1 (by omega)).mono ?_
      rintro e4 w4 ⟨he4, hr4, hg4⟩
      rw [show ((256 : Nat) : Int) = 256 from rfl, ← HMM.out, HM.out] at he4
      rw [show ((256 : Nat) : Int) = 256 from rfl, ← HMM.out] at hr4
      subst he4
      have HT5 := Lib.hid (HTx.out.call hlt hr4 hg4)
      have HO5 := Lib.hid (off_ HO.out hlt hg4)
      clear hr4 hg4 HTx
      go_wp2
      go_loopw [24] (fun i wr => NtsRel w B g M a.1 pre A k cp m.2 i wr) (fun i _ => M - (intOf i).toNat)
      case atStart => exact ⟨0, [], m.2, none, 0, by omega, rfl, rfl, HO5.out, World.ownsRow_nil _ _ _ _, HT5.out⟩
      case round =>
        obtain ⟨j, pre2, s2, A2, cp2, hj, rfl, hrd, hownc, hown, hst⟩ := hrel
        have d3 : wr.cell? ⟨w.heap.size + 2, 2, none⟩ = some (.slice A2 j cp2) := hst.2.1.cell 2
        have dr := hst.recv
        have hcc := And.intro d3 dr
        have HRD := Lib.hid hrd
        have HOC := Lib.hid hownc
        have HO2 := Lib.hid hown
        have HT := Lib.hid hst
        clear hrd hown hownc hst HT5 HO5
        by_cases hlj : j < M
        · have HST := Lib.hid (rdL_step HRD.out hlj)
          go_wp2_with fail
          refine wp_region_last_at (S := fun w' => w'.cell? ⟨w.heap.size + 2, 2, none⟩ = some (.slice A2 j cp2) ∧ w'.cell? ⟨w.heap.size, 0, none⟩ = some (.pointer (some ⟨g, 0, none⟩))) 7 _ rfl rfl (by kernel_rfl) (by kernel_rfl) (by kernel_rfl) hcc (fun hHeld => ?_)
          simp only [List.take_succ_cons, List.take_zero]
          refine wpAnyH_take (i := 0) (v := ?qav0) rfl (by kernel_rfl) (by kernel_rfl) (by kernel_rfl) (fun _ _ _ h => h) (Or.inl ⟨by rfl, ?qay0⟩) (by assumption) ?qar0
          case qay0 => (intro w hSw; (try dsimp only at hSw); obtain ⟨hSa, hSb⟩ := hSw; go_simp; try with_reducible rfl)
          try simp only [Act.put, List.getElem_toArray, List.getElem_cons_succ, List.getElem_cons_zero, List.setIfInBounds_toArray, List.set_cons_zero, List.set_cons_succ]
          refine wpAnyH_take (i := 1) (v := ?qav1) rfl (by kernel_rfl) (by kernel_rfl) (by kernel_rfl) (fun _ _ _ h => h) (Or.inl ⟨by rfl, ?qay1⟩) (by assumption) ?qar1
          case qay1 => (intro w hSw; (try dsimp only at hSw); obtain ⟨hSa, hSb⟩ := hSw; go_simp; try with_reducible rfl)
          try simp only [Act.put, List.getElem_toArray, List.getElem_cons_succ, List.getElem_cons_zero, List.setIfInBounds_toArray, List.set_cons_zero, List.set_cons_succ]
          refine wpAnyH_take (i := 2) (v := ?qav2) rfl (by kernel_rfl) (by kernel_rfl) (by kernel_rfl) (fun _ _ _ h => h) (Or.inl ⟨by rfl, ?qay2⟩) (by assumption) ?qar2
          case qay2 => (intro w hSw; (try dsimp only at hSw); obtain ⟨hSa, hSb⟩ := hSw; go_simp; try with_reducible rfl)
          try simp only [Act.put, List.getElem_toArray, List.getElem_cons_succ, List.getElem_cons_zero, List.setIfInBounds_toArray, List.set_cons_zero, List.set_cons_succ]
          refine wpAnyH_ready (rs := [3]) (by kernel_rfl) (by simp) ?_
          refine AllReadyH.cons rfl (fun K hK => ?_) AllReadyH.nil
          go_simp
          refine (note_any B g s2 _ (show Rd wr.drew B g s2 from HT.out.1)).mono ?_
          rintro e5 w5 ⟨rfl, hr5, hg5⟩
          replace hg5 := only_of_drew hg5
          have HT5 := Lib.hid (HT.out.call hlt hr5 hg5)
          have HO5 := Lib.hid (off_ HO2.out hlt hg5)
          have HOC5 := Lib.hid (off_ HOC.out hlt hg5)
          refine hK.out _ _ ⟨HT5.out.2.1.cell 2, HT5.out.recv⟩ (fun hHeld => ?_)
          clear hK K hr5 hg5
          obtain ⟨f, hf⟩ : ∃ f, f = (rdM codeB s2).1 := ⟨_, rfl⟩
          rw [← hf] at HST ⊢
          unfold ntval
          clear hf
          try simp only [Act.put, List.getElem_toArray, List.getElem_cons_succ, List.getElem_cons_zero, List.setIfInBounds_toArray, List.set_cons_zero, List.set_cons_succ]
          refine wpAnyH_ready (rs := [4]) (by kernel_rfl) (by simp) ?_
          refine AllReadyH.cons rfl (fun K hK => ?_) AllReadyH.nil
          go_simp
          refine hK.out _ _ ⟨(HT5.out.2.1.alloc _).cell 2, (HT5.out.alloc _).recv⟩ (fun hHeld => ?_)
          clear hK K
          try simp only [Act.put, List.getElem_toArray, List.getElem_cons_succ, List.getElem_cons_zero, List.setIfInBounds_toArray, List.set_cons_zero, List.set_cons_succ]
          refine wpAnyH_ready (rs := [5]) (by kernel_rfl) (by simp) ?_
          refine AllReadyH.cons rfl (fun K hK => ?_) AllReadyH.nil
          refine step_append_row (by rfl) (.tmp 27) (.tmp 30) (by rfl) ntel (w.heap.size + 3) (.slice A2 j cp2) j (ntv pre2) (by rfl) (own_keep HO5.out ((Below.refl _ _).alloc (Nat.le_refl _) _)) (w5.heap.size + 1) (some ⟨w5.heap.size, 0, none⟩) 1 1 (ntv [f]) (by rfl) (ntone w5 f rfl) (ntv_one _) (by omega) (by omega) (by have := HT5.out.2.1.lt; simp; omega) ?_
          intro A6 c6 w6 hown6 hg6 hb6
          have HOC6 := Lib.hid ((own_keep HOC5.out ((Below.refl _ _).alloc (Nat.le_refl _) (.cells #[.int .i64 f.kind, .int .i64 f.id, .int .i64 f.tbl, .int .i64 f.wt, .int .i64 f.at_, .int .i64 f.cur, .bool f.done] 27))).kept hg6.1 (own_types HOC5.out HO5.out (by decide)))
          rw [← ntv_append] at hown6
          have HT6 := Lib.hid ((show ItSt w B g (rdM codeB s2).2 _ (w5.alloc (.cells #[.int .i64 f.kind, .int .i64 f.id, .int .i64 f.tbl, .int .i64 f.wt, .int .i64 f.at_, .int .i64 f.cur, .bool f.done] 27)) from HT5.out.alloc _).below hlt hb6)
          have HO6 := Lib.hid hown6
          have k6 : w6.cell? ⟨w.heap.size + 2, 2, none⟩ = some (.slice A2 j cp2) := HT6.out.2.1.cell 2
          have kk6 := And.intro k6 HT6.out.recv
          have f6 := HT6.out.2.1.frozen 2
          clear hown6 hg6 hb6
          refine hK.out _ _ kk6 (fun hHeld => ?_)
          clear hK K
          try simp only [Act.put, List.getElem_toArray, List.getElem_cons_succ, List.getElem_cons_zero, List.setIfInBounds_toArray, List.set_cons_zero, List.set_cons_succ]
          refine wpAnyH_take (i := 6) (v := ?qbv6) rfl (by kernel_rfl) (by kernel_rfl) (by kernel_rfl) (fun _ _ _ h => h) (Or.inl ⟨by rfl, ?qby6⟩) (by assumption) ?qbr6
          case qby6 => (intro w hSw; (try dsimp only at hSw); obtain ⟨hSa, hSb⟩ := hSw; go_simp; try with_reducible rfl)
          try simp only [Act.put, List.getElem_toArray, List.getElem_cons_succ, List.getElem_cons_zero, List.setIfInBounds_toArray, List.set_cons_zero, List.set_cons_succ]
          refine wpAnyH_done (by kernel_rfl) ?_ _
          refine then_normal rfl ?_
          have HS6 : Hid (ItSt w B g (rdM codeB s2).2 #[.int .i64 a.1, .slice A k cp, .slice A6 (j + 1) c6] (w6.setCell ⟨w.heap.size + 2, 2, none⟩ (.slice A6 (j + 1) c6))) := HT6.out.store hlt 2 _
          have HO7 : Hid ((w6.setCell ⟨w.heap.size + 2, 2, none⟩ (.slice A6 (j + 1) c6)).ownsRow (w.heap.size + 3) 27 7 (.slice A6 (j + 1) c6) (j + 1) (ntv (pre2 ++ [f]))) :=
            HO6.out.kept (only_setCell (World.grownBy.refl _ (some (w.heap.size + 2))) (.inl rfl) _) (.inr fun e => by have := (HO6.out.lt _ e).1; omega)
          have HO8 : Hid ((w6.setCell ⟨w.heap.size + 2, 2, none⟩ (.slice A6 (j + 1) c6)).ownsRow (w.heap.size + 3) 29 5 (.slice A k cp) k (ov pre)) :=
            HOC6.out.kept (only_setCell (World.grownBy.refl _ (some (w.heap.size + 2))) (.inl rfl) _) (.inr fun e => by have := (HOC6.out.lt _ e).1; omega)
          clear hHeld d3 dr hcc
          go_wp2
          go_roundw
          case rel => exact ⟨j + 1, pre2 ++ [f], (rdM codeB s2).2, A6, c6, by omega, by go_num, HST.out, HO8.out, HO7.out, HS6.out⟩
          case measure => simp [intOf]; omega
        · have HD2 : Hid (e = (pre2, s2)) := by
            show e = _
            rw [HEE.out, HRD.out, show M - j = 0 by omega]
            simp [rdL]
          have p0 : wr.cell? ⟨w.heap.size + 2, 0, none⟩ = some (.int .i64 a.1) := HT.out.2.1.cell 0
          have p1 : wr.cell? ⟨w.heap.size + 2, 1, none⟩ = some (.slice A k cp) := HT.out.2.1.cell 1
          have q0 : wr.cell? ⟨w.heap.size + 1, 0, none⟩ = some (.int .i64 0) := HT.out.2.2.1.cell 0
          have q1 : wr.cell? ⟨w.heap.size + 1, 1, none⟩ = some (.slice none 0 0) := HT.out.2.2.1.cell 1
          have q2 : wr.cell? ⟨w.heap.size + 1, 2, none⟩ = some (.slice none 0 0) := HT.out.2.2.1.cell 2
          have r0 := HT.out.2.2.1.frozen 0
          have r1 := HT.out.2.2.1.frozen 1
          have r2 := HT.out.2.2.1.frozen 2
          have hlt2 : g < w.heap.size + 1 := by omega
          go_wp2
          rw [HE.out, HD2.out, ← HP.out]
          have hon := three_on wr (w.heap.size + 1) (.int .i64 a.1) (.slice A k cp) (.slice A2 j cp2)
          refine bodyPost_ret (v := itv a.1 A k cp A2 j cp2) (by simp [itv, results, Try.results36, go_sem, q0, q1, q2]) rfl ⟨A, k, cp, A2, j, cp2, rfl, ⟨?_, ?_⟩, ?_, ?_⟩
          · exact own_mono (HOC.out.kept hon (.inr fun e => by have := (HOC.out.lt _ e).1; omega)) (by omega)
          · exact own_mono (HO2.out.kept hon (.inr fun e => by have := (HO2.out.lt _ e).1; omega)) (by omega)
          · exact ((HT.out.1.far (by exact hlt2) _).far (by exact hlt2) _).far (by exact hlt2) _
          · exact only_trans HT.out.2.2.2.1 hon (.inr fun x hx => by injection hx; omega)
end Go.Proofs.Ytlkjmdkmcaaihaa.Bt
