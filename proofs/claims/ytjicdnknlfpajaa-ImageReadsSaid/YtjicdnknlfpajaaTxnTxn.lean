/-
  Contract of package txn's reader of a transaction: what is read is what the plain mathematics says.
-/
import Derived.Test.YtjicdnknlfpajaaTxnRead
import Derived.Test.YtjicdnknlfpajaaRegionLast
namespace Go.Proofs.Ytjicdnknlfpajaa.Txn
set_option linter.unusedVariables false
set_option maxRecDepth 100000
open Go.RowKit Base FieldMath TxnMath Last
open Go.Proofs.Ytjicdnknlfpajaa.Field (fv fv_append fv_one fv_length fv_get fv_take Flds ef ret_bool empty_iff)
set_option linter.ambiguousOpen false
set_option linter.unusedSimpArgs false

theorem ech : Elem Try.prog 22 27 4 40 (.agg #[.int .i64 0, .int .i64 0, .bool false, .string ⟨#[]⟩]) := Elem.of Try.underlying22 (by kernel_rfl) rfl (by omega)
theorem estr : Elem Try.prog 23 9 1 16 (.string ⟨#[]⟩) := Elem.of Try.underlying23 (by kernel_rfl) rfl (by omega)
def txz : Array Value := #[.int .i64 0, .int .i64 0, .slice none 0 0, .slice none 0 0, .int .i64 0]
/-- a reader on its way through a transaction -/
abbrev TxSt := St 80 25 txz
theorem rdN_range {m : Int} (hm : 0 ≤ m) (s : Rs) : 0 ≤ (rdN (some m) s).1 ∧ (rdN (some m) s).1 ≤ m := by
  unfold rdN
  match s with
  | none => exact ⟨Int.le_refl _, hm⟩
  | some [] => exact ⟨Int.le_refl _, hm⟩
  | some (f :: r) =>
    dsimp only
    by_cases h : f.kind = 1 ∧ fits (some m) f.n = true
    · rw [if_pos h]
      have := h.2
      unfold fits at this
      simp only [Bool.and_eq_true, decide_eq_true_eq] at this
      exact this
    · rw [if_neg h]
      exact ⟨Int.le_refl _, hm⟩
theorem rdCs_step {hk : Option Int} {N k : Nat} {pre : List Ch} {s0 s : Rs} (h : rdCs hk false N s0 = (pre ++ (rdCs hk false (N - k) s).1, (rdCs hk false (N - k) s).2)) (hlt : k < N) :
    rdCs hk false N s0 = (pre ++ [(rdC hk s).1] ++ (rdCs hk false (N - (k + 1)) (rdC hk s).2).1, (rdCs hk false (N - (k + 1)) (rdC hk s).2).2) := by
  obtain ⟨m, hm⟩ : ∃ m, N - k = m + 1 := ⟨N - k - 1, by omega⟩
  rw [h, hm, show N - (k + 1) = m by omega, rdCs, if_neg (by simp)]
  simp
theorem rdTs_step {N k : Nat} {pre : List ByteArray} {s0 s : Rs} (h : rdTs false N s0 = (pre ++ (rdTs false (N - k) s).1, (rdTs false (N - k) s).2)) (hlt : k < N) :
    rdTs false N s0 = (pre ++ [(rdT s).1] ++ (rdTs false (N - (k + 1)) (rdT s).2).1, (rdTs false (N - (k + 1)) (rdT s).2).2) := by
  obtain ⟨m, hm⟩ : ∃ m, N - k = m + 1 := ⟨N - k - 1, by omega⟩
  rw [h, hm, show N - (k + 1) = m by omega, rdTs, if_neg (by simp)]
  simp
theorem one_ch (w : World) (f : Ch) {s : Nat} (hs : s = w.heap.size) : Row (w.alloc (.cells #[.int .i64 f.tbl, .int .i64 f.key, .bool f.gone, .string f.val] 27)) (w.heap.size + 1) 4 (some ⟨s, 0, none⟩) 1 1 (cv [f]) :=
  Row.lit w #[.int .i64 f.tbl, .int .i64 f.key, .bool f.gone, .string f.val] _ (0, 0) hs rfl (by omega)
theorem one_str (w : World) (f : ByteArray) {s : Nat} (hs : s = w.heap.size) : Row (w.alloc (.cells #[.string f] 9)) (w.heap.size + 1) 1 (some ⟨s, 0, none⟩) 1 1 (sv [f]) :=
  Row.lit w #[.string f] _ (0, 0) hs rfl (by omega)
theorem own_off {w wr w1 : World} {g n : Nat} {e : TypeId} {size : Nat} {v : Value} {xs : List Value} (h : wr.ownsRow (w.heap.size + 3) e size v n xs) (hlt : g < w.heap.size) (hg : wr.grownBy w1 (some g)) : w1.ownsRow (w.heap.size + 3) e size v n xs :=
  h.kept hg (.inr fun e => by have := (h.lt g e).1; omega)
theorem five_on (w : World) (b : Nat) (v0 v1 v2 v3 v4 : Value) : w.grownBy (((((w.setCell ⟨b, 0, none⟩ v0).setCell ⟨b, 1, none⟩ v1).setCell ⟨b, 2, none⟩ v2).setCell ⟨b, 3, none⟩ v3).setCell ⟨b, 4, none⟩ v4) (some b) := by
  have h0 := only_setCell (World.grownBy.refl w (some b)) (p := ⟨b, 0, none⟩) (.inl rfl) v0
  have h1 := only_setCell h0 (p := ⟨b, 1, none⟩) (.inl rfl) v1
  have h2 := only_setCell h1 (p := ⟨b, 2, none⟩) (.inl rfl) v2
  have h3 := only_setCell h2 (p := ⟨b, 3, none⟩) (.inl rfl) v3
  exact only_setCell h3 (p := ⟨b, 4, none⟩) (.inl rfl) v4
def ChsRel (w : World) (B g N : Nat) (lsn kind mark : Int) (s0 : Rs) (i : Value) (wr : World) : Prop :=
  ∃ (k : Nat) (pre : List Ch) (s : Rs) (A : Option Addr) (c : Nat), k ≤ N ∧ i = .int .i64 k ∧ rdCs none false N s0 = (pre ++ (rdCs none false (N - k) s).1, (rdCs none false (N - k) s).2) ∧
    wr.ownsRow (w.heap.size + 3) 27 4 (.slice A k c) k (cv pre) ∧ TxSt w B g s #[.int .i64 lsn, .int .i64 kind, .slice A k c, .slice none 0 0, .int .i64 mark] wr
def SigsRelR (w : World) (B g N : Nat) (lsn kind mark : Int) (l : List Ch) (A0 : Option Addr) (n0 c0 : Nat) (s0 : Rs) (i : Value) (wr : World) : Prop :=
  ∃ (k : Nat) (pre : List ByteArray) (s : Rs) (A : Option Addr) (c : Nat), k ≤ N ∧ i = .int .i64 k ∧ rdTs false N s0 = (pre ++ (rdTs false (N - k) s).1, (rdTs false (N - k) s).2) ∧
    wr.ownsRow (w.heap.size + 3) 27 4 (.slice A0 n0 c0) n0 (cv l) ∧ wr.ownsRow (w.heap.size + 3) 9 1 (.slice A k c) k (sv pre) ∧ TxSt w B g s #[.int .i64 lsn, .int .i64 kind, .slice A0 n0 c0, .slice A k c, .int .i64 mark] wr
/-- what the reader of a transaction answers -/
def ReadX (w : World) (B g : Nat) (q : Tx × Rs) (e : Ending) (w' : World) : Prop :=
  ∃ A n c A' n' c', e = .returned (txv q.1.lsn q.1.kind q.1.mark A n c A' n' c') ∧ w'.ownsRow w.heap.size 27 4 (.slice A n c) n (cv q.1.chs) ∧ w'.ownsRow w.heap.size 9 1 (.slice A' n' c') n' (sv q.1.sigs) ∧ Rd w' B g q.2 ∧ w.grownBy w' (some g)

set_option maxHeartbeats 3200000 in
theorem txn_any (B g : Nat) (s : Rs) (w : World) (h : Rd w B g s) :
    Calls Try.prog 47 #[.agg #[.pointer (some ⟨g, 0, none⟩)]] w (ReadX w B g (rdX none none false s)) := by
  obtain ⟨a, ha⟩ : ∃ a, a = rdN none s := ⟨_, rfl⟩
  obtain ⟨b, hb⟩ : ∃ b, b = rdN (some 3) a.2 := ⟨_, rfl⟩
  obtain ⟨c, hc⟩ : ∃ c, c = rdN none b.2 := ⟨_, rfl⟩
  obtain ⟨n, hn⟩ : ∃ n, n = rdN (some 16) c.2 := ⟨_, rfl⟩
  obtain ⟨d, hd⟩ : ∃ d, d = rdCs none false n.1.toNat n.2 := ⟨_, rfl⟩
  obtain ⟨m, hm⟩ : ∃ m, m = rdN (some 2) d.2 := ⟨_, rfl⟩
  obtain ⟨e, he⟩ : ∃ e, e = rdTs false m.1.toNat m.2 := ⟨_, rfl⟩
  have HE : Hid (rdX none none false s = (⟨a.1, b.1, d.1, e.1, c.1⟩, e.2)) := by
    show _ = _
    rw [he, hm, hd, hn, hc, hb, ha]
    rfl
  have hn2 := rdN_range (show (0 : Int) ≤ 16 by omega) c.2
  rw [← hn] at hn2
  have hm2 := rdN_range (show (0 : Int) ≤ 2 by omega) d.2
  rw [← hm] at hm2
  obtain ⟨N, hN⟩ : ∃ N : Nat, n.1 = N := ⟨n.1.toNat, by omega⟩
  obtain ⟨M, hM⟩ : ∃ M : Nat, m.1 = M := ⟨m.1.toNat, by omega⟩
  rw [hN, Int.toNat_natCast] at hd
  rw [hM, Int.toNat_natCast] at he
  rw [hN] at hn2
  rw [hM] at hm2
  have HA := Lib.hid ha
  have HBB := Lib.hid hb
  have HCC := Lib.hid hc
  have HNN := Lib.hid hn
  have HD := Lib.hid hd
  have HMM := Lib.hid hm
  have HEE := Lib.hid he
  have HN := Lib.hid hN
  have HM := Lib.hid hM
  have HR := Lib.hid h
  have hlt := h.lt
  clear h ha hb hc hn hd hm he hN hM
  go_enter Try.func47, Try.ntmps47
  go_wp2_with fail
  have HT0 : Hid (TxSt w B g s txz (((w.alloc (.cells #[.pointer (some ⟨g, 0, none⟩)] 80)).alloc (.cells txz 25)).alloc (.cells txz 25))) := St.start HR.out
  refine (cnumber2_any B g s _ HT0.out.1).mono ?_
  rintro e1 w1 ⟨he1, hr1, hg1⟩
  rw [← HA.out] at he1 hr1
  subst he1
  have HT1 := Lib.hid (HT0.out.call hlt hr1 hg1)
  have k1 : w1.cell? ⟨w.heap.size + 2, 0, none⟩ = some (.int .i64 0) := HT1.out.2.1.cell 0
  have cr1 := HT1.out.recv
  have f1 := HT1.out.2.1.frozen 0
  clear hr1 hg1 HT0
  go_wp2_with fail
  have HS1 := Lib.hid (HT1.out.store hlt 0 (.int .i64 a.1))
  refine (upTo_any B g a.2 3 _ HS1.out.1 (by omega)).mono ?_
  rintro e2 w2 ⟨he2, hr2, hg2⟩
  rw [show ((3 : Nat) : Int) = 3 from rfl, ← HBB.out] at he2 hr2
  subst he2
  have HT2 := Lib.hid (HS1.out.call hlt hr2 hg2)
  have k2 : w2.cell? ⟨w.heap.size + 2, 1, none⟩ = some (.int .i64 0) := HT2.out.2.1.cell 1
  have cr2 := HT2.out.recv
  have f2 := HT2.out.2.1.frozen 1
  clear hr2 hg2 HS1 HT1 k1 f1 cr1
  go_wp2_with fail
  have HS2 := Lib.hid (HT2.out.store hlt 1 (.int .i64 b.1))
  refine (cnumber2_any B g b.2 _ HS2.out.1).mono ?_
  rintro e3 w3 ⟨he3, hr3, hg3⟩
  rw [← HCC.out] at he3 hr3
  subst he3
  have HT3 := Lib.hid (HS2.out.call hlt hr3 hg3)
  have k3 : w3.cell? ⟨w.heap.size + 2, 4, none⟩ = some (.int .i64 0) := HT3.out.2.1.cell 4
  have cr3 := HT3.out.recv
  have f3 := HT3.out.2.1.frozen 4
  clear hr3 hg3 HS2 HT2 k2 f2 cr2
  go_wp2_with fail
  have HS3 := Lib.hid (HT3.out.store hlt 4 (.int .i64 c.1))
  refine (upTo_any B g c.2 16 _ HS3.out.1 (by omega)).mono ?_
  rintro e4 w4 ⟨he4, hr4, hg4⟩
  rw [show ((16 : Nat) : Int) = 16 from rfl, ← HNN.out, HN.out] at he4
  rw [show ((16 : Nat) : Int) = 16 from rfl, ← HNN.out] at hr4
  subst he4
  have HT4 : Hid (TxSt w B g n.2 #[.int .i64 a.1, .int .i64 b.1, .slice none 0 0, .slice none 0 0, .int .i64 c.1] w4) := HS3.out.call hlt hr4 hg4
  clear hr4 hg4 HS3 HT3 k3 f3 cr3
  go_wp2
  go_loopw [19] (fun i wr => ChsRel w B g N a.1 b.1 c.1 n.2 i wr) (fun i _ => N - (intOf i).toNat)
  case atStart => exact ⟨0, [], n.2, none, 0, by omega, rfl, rfl, World.ownsRow_nil _ _ _ _, HT4.out⟩
  case round =>
    obtain ⟨k, pre, s1, A, cp, hk, rfl, hrd, hown, hst⟩ := hrel
    have c2 : wr.cell? ⟨w.heap.size + 2, 2, none⟩ = some (.slice A k cp) := hst.2.1.cell 2
    have cr := hst.recv
    have hcc := And.intro c2 cr
    have HRD := Lib.hid hrd
    have HO := Lib.hid hown
    have HT := Lib.hid hst
    clear hrd hown hst HT4
    by_cases hlk : k < N
    · have HST := Lib.hid (rdCs_step HRD.out hlk)
      go_wp2_with fail
      refine wp_region_last_at (S := fun w' => w'.cell? ⟨w.heap.size + 2, 2, none⟩ = some (.slice A k cp) ∧ w'.cell? ⟨w.heap.size, 0, none⟩ = some (.pointer (some ⟨g, 0, none⟩))) 7 _ rfl rfl (by kernel_rfl) (by kernel_rfl) (by kernel_rfl) hcc (fun hHeld => ?_)
      simp only [List.take_succ_cons, List.take_zero]
      refine wpAnyH_take (i := 0) (v := ?av0) rfl (by kernel_rfl) (by kernel_rfl) (by kernel_rfl) (fun _ _ _ h => h) (Or.inl ⟨by rfl, ?ay0⟩) (by assumption) ?ar0
      case ay0 => (intro w hSw; (try dsimp only at hSw); obtain ⟨hSa, hSb⟩ := hSw; go_simp; try with_reducible rfl)
      try simp only [Act.put, List.getElem_toArray, List.getElem_cons_succ, List.getElem_cons_zero, List.setIfInBounds_toArray, List.set_cons_zero, List.set_cons_succ]
      refine wpAnyH_take (i := 1) (v := ?av1) rfl (by kernel_rfl) (by kernel_rfl) (by kernel_rfl) (fun _ _ _ h => h) (Or.inl ⟨by rfl, ?ay1⟩) (by assumption) ?ar1
      case ay1 => (intro w hSw; (try dsimp only at hSw); obtain ⟨hSa, hSb⟩ := hSw; go_simp; try with_reducible rfl)
      try simp only [Act.put, List.getElem_toArray, List.getElem_cons_succ, List.getElem_cons_zero, List.setIfInBounds_toArray, List.set_cons_zero, List.set_cons_succ]
      refine wpAnyH_take (i := 2) (v := ?av2) rfl (by kernel_rfl) (by kernel_rfl) (by kernel_rfl) (fun _ _ _ h => h) (Or.inl ⟨by rfl, ?ay2⟩) (by assumption) ?ar2
      case ay2 => (intro w hSw; (try dsimp only at hSw); obtain ⟨hSa, hSb⟩ := hSw; go_simp; try with_reducible rfl)
      try simp only [Act.put, List.getElem_toArray, List.getElem_cons_succ, List.getElem_cons_zero, List.setIfInBounds_toArray, List.set_cons_zero, List.set_cons_succ]
      refine wpAnyH_ready (rs := [3]) (by kernel_rfl) (by simp) ?_
      refine AllReadyH.cons rfl (fun K hK => ?_) AllReadyH.nil
      go_simp
      refine (change_any B g s1 _ (show Rd wr.drew B g s1 from HT.out.1)).mono ?_
      rintro e5 w5 ⟨rfl, hr5, hg5⟩
      replace hg5 := only_of_drew hg5
      have HT5 := Lib.hid (HT.out.call hlt hr5 hg5)
      have HO5 := Lib.hid (own_off HO.out hlt hg5)
      refine hK.out _ _ ⟨HT5.out.2.1.cell 2, HT5.out.recv⟩ (fun hHeld => ?_)
      clear hK K hr5 hg5
      obtain ⟨f, hf⟩ : ∃ f, f = (rdC none s1).1 := ⟨_, rfl⟩
      rw [← hf] at HST ⊢
      unfold chv
      clear hf
      try simp only [Act.put, List.getElem_toArray, List.getElem_cons_succ, List.getElem_cons_zero, List.setIfInBounds_toArray, List.set_cons_zero, List.set_cons_succ]
      refine wpAnyH_ready (rs := [4]) (by kernel_rfl) (by simp) ?_
      refine AllReadyH.cons rfl (fun K hK => ?_) AllReadyH.nil
      go_simp
      refine hK.out _ _ ⟨(HT5.out.2.1.alloc _).cell 2, (HT5.out.alloc _).recv⟩ (fun hHeld => ?_)
      clear hK K
      try simp only [Act.put, List.getElem_toArray, List.getElem_cons_succ, List.getElem_cons_zero, List.setIfInBounds_toArray, List.set_cons_zero, List.set_cons_succ]
      refine wpAnyH_ready (rs := [5]) (by kernel_rfl) (by simp) ?_
      refine AllReadyH.cons rfl (fun K hK => ?_) AllReadyH.nil
      refine step_append_row (by rfl) (.tmp 22) (.tmp 25) (by rfl) ech (w.heap.size + 3) (.slice A k cp) k (cv pre) (by rfl) (own_keep HO5.out ((Below.refl _ _).alloc (Nat.le_refl _) _)) (w5.heap.size + 1) (some ⟨w5.heap.size, 0, none⟩) 1 1 (cv [f]) (by rfl) (one_ch w5 f rfl) (cv_one _) (by omega) (by omega) (by have := HT5.out.2.1.lt; simp; omega) ?_
      intro A6 c6 w6 hown6 hg6 hb6
      rw [← cv_append] at hown6
      have HT6 := Lib.hid ((show TxSt w B g (rdC none s1).2 _ (w5.alloc (.cells #[.int .i64 f.tbl, .int .i64 f.key, .bool f.gone, .string f.val] 27)) from HT5.out.alloc _).below hlt hb6)
      have HO6 := Lib.hid hown6
      have k6 : w6.cell? ⟨w.heap.size + 2, 2, none⟩ = some (.slice A k cp) := HT6.out.2.1.cell 2
      have kk6 := And.intro k6 HT6.out.recv
      have f6 := HT6.out.2.1.frozen 2
      clear hown6 hg6 hb6
      refine hK.out _ _ kk6 (fun hHeld => ?_)
      clear hK K
      try simp only [Act.put, List.getElem_toArray, List.getElem_cons_succ, List.getElem_cons_zero, List.setIfInBounds_toArray, List.set_cons_zero, List.set_cons_succ]
      refine wpAnyH_take (i := 6) (v := ?bv6) rfl (by kernel_rfl) (by kernel_rfl) (by kernel_rfl) (fun _ _ _ h => h) (Or.inl ⟨by rfl, ?by6⟩) (by assumption) ?br6
      case by6 => (intro w hSw; (try dsimp only at hSw); obtain ⟨hSa, hSb⟩ := hSw; go_simp; try with_reducible rfl)
      try simp only [Act.put, List.getElem_toArray, List.getElem_cons_succ, List.getElem_cons_zero, List.setIfInBounds_toArray, List.set_cons_zero, List.set_cons_succ]
      refine wpAnyH_done (by kernel_rfl) ?_ _
      refine then_normal rfl ?_
      have HS6 : Hid (TxSt w B g (rdC none s1).2 #[.int .i64 a.1, .int .i64 b.1, .slice A6 (k + 1) c6, .slice none 0 0, .int .i64 c.1] (w6.setCell ⟨w.heap.size + 2, 2, none⟩ (.slice A6 (k + 1) c6))) := HT6.out.store hlt 2 _
      have HO7 : Hid ((w6.setCell ⟨w.heap.size + 2, 2, none⟩ (.slice A6 (k + 1) c6)).ownsRow (w.heap.size + 3) 27 4 (.slice A6 (k + 1) c6) (k + 1) (cv (pre ++ [f]))) :=
        HO6.out.kept (only_setCell (World.grownBy.refl _ (some (w.heap.size + 2))) (.inl rfl) _) (.inr fun e => by have := (HO6.out.lt _ e).1; omega)
      clear hHeld c2 cr hcc
      go_wp2
      go_roundw
      case rel => exact ⟨k + 1, pre ++ [f], (rdC none s1).2, A6, c6, by omega, by go_num, HST.out, HO7.out, HS6.out⟩
      case measure => simp [intOf]; omega
    · have HD1 : Hid (d = (pre, s1)) := by
        show d = _
        rw [HD.out, HRD.out, show N - k = 0 by omega]
        simp [rdCs]
      obtain rfl : k = N := by omega
      clear HRD hlk hk
      have HP : Hid (pre = d.1) := by
        show _ = _
        rw [HD1.out]
      have hS : Hid (s1 = d.2) := by
        show _ = _
        rw [HD1.out]
      have HTx := Lib.hid HT.out
      rw [hS.out] at HTx
      clear HT
      go_wp2_with fail
      refine (upTo_any B g d.2 2 _ HTx.out.1 (by omega)).mono ?_
      rintro e4 w4 ⟨he4, hr4, hg4⟩
      rw [show ((2 : Nat) : Int) = 2 from rfl, ← HMM.out, HM.out] at he4
      rw [show ((2 : Nat) : Int) = 2 from rfl, ← HMM.out] at hr4
      subst he4
      have HT5 := Lib.hid (HTx.out.call hlt hr4 hg4)
      have HO5 := Lib.hid (own_off HO.out hlt hg4)
      clear hr4 hg4 HTx
      go_wp2
      go_loopw [32] (fun i wr => SigsRelR w B g M a.1 b.1 c.1 pre A k cp m.2 i wr) (fun i _ => M - (intOf i).toNat)
      case atStart => exact ⟨0, [], m.2, none, 0, by omega, rfl, rfl, HO5.out, World.ownsRow_nil _ _ _ _, HT5.out⟩
      case round =>
        obtain ⟨j, pre2, s2, A2, cp2, hj, rfl, hrd, hownc, hown, hst⟩ := hrel
        have d3 : wr.cell? ⟨w.heap.size + 2, 3, none⟩ = some (.slice A2 j cp2) := hst.2.1.cell 3
        have dr := hst.recv
        have hdd := And.intro d3 dr
        have HRD := Lib.hid hrd
        have HOC := Lib.hid hownc
        have HO2 := Lib.hid hown
        have HT := Lib.hid hst
        clear hrd hown hownc hst HT5 HO5
        by_cases hlj : j < M
        · have HST := Lib.hid (rdTs_step HRD.out hlj)
          go_wp2_with fail
          refine wp_region_last_at (S := fun w' => w'.cell? ⟨w.heap.size + 2, 3, none⟩ = some (.slice A2 j cp2) ∧ w'.cell? ⟨w.heap.size, 0, none⟩ = some (.pointer (some ⟨g, 0, none⟩))) 8 _ rfl rfl (by kernel_rfl) (by kernel_rfl) (by kernel_rfl) hdd (fun hHeld => ?_)
          simp only [List.take_succ_cons, List.take_zero]
          refine wpAnyH_take (i := 0) (v := ?cv0) rfl (by kernel_rfl) (by kernel_rfl) (by kernel_rfl) (fun _ _ _ h => h) (Or.inl ⟨by rfl, ?cy0⟩) (by assumption) ?cr0
          case cy0 => (intro w hSw; (try dsimp only at hSw); obtain ⟨hSa, hSb⟩ := hSw; go_simp; try with_reducible rfl)
          try simp only [Act.put, List.getElem_toArray, List.getElem_cons_succ, List.getElem_cons_zero, List.setIfInBounds_toArray, List.set_cons_zero, List.set_cons_succ]
          refine wpAnyH_take (i := 1) (v := ?cv1) rfl (by kernel_rfl) (by kernel_rfl) (by kernel_rfl) (fun _ _ _ h => h) (Or.inl ⟨by rfl, ?cy1⟩) (by assumption) ?cr1
          case cy1 => (intro w hSw; (try dsimp only at hSw); obtain ⟨hSa, hSb⟩ := hSw; go_simp; try with_reducible rfl)
          try simp only [Act.put, List.getElem_toArray, List.getElem_cons_succ, List.getElem_cons_zero, List.setIfInBounds_toArray, List.set_cons_zero, List.set_cons_succ]
          refine wpAnyH_take (i := 2) (v := ?cv2) rfl (by kernel_rfl) (by kernel_rfl) (by kernel_rfl) (fun _ _ _ h => h) (Or.inl ⟨by rfl, ?cy2⟩) (by assumption) ?cr2
          case cy2 => (intro w hSw; (try dsimp only at hSw); obtain ⟨hSa, hSb⟩ := hSw; go_simp; try with_reducible rfl)
          try simp only [Act.put, List.getElem_toArray, List.getElem_cons_succ, List.getElem_cons_zero, List.setIfInBounds_toArray, List.set_cons_zero, List.set_cons_succ]
          refine wpAnyH_take (i := 3) (v := ?cv9) rfl (by kernel_rfl) (by kernel_rfl) (by kernel_rfl) (fun _ _ _ h => h) (Or.inl ⟨by rfl, ?cy9⟩) (by assumption) ?cr9
          case cy9 => (intro w hSw; (try dsimp only at hSw); obtain ⟨hSa, hSb⟩ := hSw; go_simp; try with_reducible rfl)
          try simp only [Act.put, List.getElem_toArray, List.getElem_cons_succ, List.getElem_cons_zero, List.setIfInBounds_toArray, List.set_cons_zero, List.set_cons_succ]
          refine wpAnyH_ready (rs := [4]) (by kernel_rfl) (by simp) ?_
          refine AllReadyH.cons rfl (fun K hK => ?_) AllReadyH.nil
          go_simp
          refine (ctext2_any B g s2 _ (show Rd wr.drew B g s2 from HT.out.1)).mono ?_
          rintro e5 w5 ⟨rfl, hr5, hg5⟩
          replace hg5 := only_of_drew hg5
          have HT5 := Lib.hid (HT.out.call hlt hr5 hg5)
          have HO5 := Lib.hid (own_off HO2.out hlt hg5)
          have HOC5 := Lib.hid (own_off HOC.out hlt hg5)
          refine hK.out _ _ ⟨HT5.out.2.1.cell 3, HT5.out.recv⟩ (fun hHeld => ?_)
          clear hK K hr5 hg5
          obtain ⟨f, hf⟩ : ∃ f, f = (rdT s2).1 := ⟨_, rfl⟩
          rw [← hf] at HST ⊢
          clear hf
          try simp only [Act.put, List.getElem_toArray, List.getElem_cons_succ, List.getElem_cons_zero, List.setIfInBounds_toArray, List.set_cons_zero, List.set_cons_succ]
          refine wpAnyH_ready (rs := [5]) (by kernel_rfl) (by simp) ?_
          refine AllReadyH.cons rfl (fun K hK => ?_) AllReadyH.nil
          go_simp
          refine hK.out _ _ ⟨(HT5.out.2.1.alloc _).cell 3, (HT5.out.alloc _).recv⟩ (fun hHeld => ?_)
          clear hK K
          try simp only [Act.put, List.getElem_toArray, List.getElem_cons_succ, List.getElem_cons_zero, List.setIfInBounds_toArray, List.set_cons_zero, List.set_cons_succ]
          refine wpAnyH_ready (rs := [6]) (by kernel_rfl) (by simp) ?_
          refine AllReadyH.cons rfl (fun K hK => ?_) AllReadyH.nil
          refine step_append_row (by rfl) (.tmp 35) (.tmp 39) (by rfl) estr (w.heap.size + 3) (.slice A2 j cp2) j (sv pre2) (by rfl) (own_keep HO5.out ((Below.refl _ _).alloc (Nat.le_refl _) _)) (w5.heap.size + 1) (some ⟨w5.heap.size, 0, none⟩) 1 1 (sv [f]) (by rfl) (one_str w5 f rfl) (sv_one _) (by omega) (by omega) (by have := HT5.out.2.1.lt; simp; omega) ?_
          intro A6 c6 w6 hown6 hg6 hb6
          have HOC6 := Lib.hid ((own_keep HOC5.out ((Below.refl _ _).alloc (Nat.le_refl _) (.cells #[.string f] 9))).kept hg6.1 (own_types HOC5.out HO5.out (by decide)))
          rw [show sv pre2 ++ sv [f] = sv (pre2 ++ [f]) from List.map_append.symm] at hown6
          have HT6 := Lib.hid ((show TxSt w B g (rdT s2).2 _ (w5.alloc (.cells #[.string f] 9)) from HT5.out.alloc _).below hlt hb6)
          have HO6 := Lib.hid hown6
          have k6 : w6.cell? ⟨w.heap.size + 2, 3, none⟩ = some (.slice A2 j cp2) := HT6.out.2.1.cell 3
          have kk6 := And.intro k6 HT6.out.recv
          have f6 := HT6.out.2.1.frozen 3
          clear hown6 hg6 hb6
          refine hK.out _ _ kk6 (fun hHeld => ?_)
          clear hK K
          try simp only [Act.put, List.getElem_toArray, List.getElem_cons_succ, List.getElem_cons_zero, List.setIfInBounds_toArray, List.set_cons_zero, List.set_cons_succ]
          refine wpAnyH_take (i := 7) (v := ?dv6) rfl (by kernel_rfl) (by kernel_rfl) (by kernel_rfl) (fun _ _ _ h => h) (Or.inl ⟨by rfl, ?dy6⟩) (by assumption) ?dr6
          case dy6 => (intro w hSw; (try dsimp only at hSw); obtain ⟨hSa, hSb⟩ := hSw; go_simp; try with_reducible rfl)
          try simp only [Act.put, List.getElem_toArray, List.getElem_cons_succ, List.getElem_cons_zero, List.setIfInBounds_toArray, List.set_cons_zero, List.set_cons_succ]
          refine wpAnyH_done (by kernel_rfl) ?_ _
          refine then_normal rfl ?_
          have HS6 : Hid (TxSt w B g (rdT s2).2 #[.int .i64 a.1, .int .i64 b.1, .slice A k cp, .slice A6 (j + 1) c6, .int .i64 c.1] (w6.setCell ⟨w.heap.size + 2, 3, none⟩ (.slice A6 (j + 1) c6))) := HT6.out.store hlt 3 _
          have HO7 : Hid ((w6.setCell ⟨w.heap.size + 2, 3, none⟩ (.slice A6 (j + 1) c6)).ownsRow (w.heap.size + 3) 9 1 (.slice A6 (j + 1) c6) (j + 1) (sv (pre2 ++ [f]))) :=
            HO6.out.kept (only_setCell (World.grownBy.refl _ (some (w.heap.size + 2))) (.inl rfl) _) (.inr fun e => by have := (HO6.out.lt _ e).1; omega)
          have HO8 : Hid ((w6.setCell ⟨w.heap.size + 2, 3, none⟩ (.slice A6 (j + 1) c6)).ownsRow (w.heap.size + 3) 27 4 (.slice A k cp) k (cv pre)) :=
            HOC6.out.kept (only_setCell (World.grownBy.refl _ (some (w.heap.size + 2))) (.inl rfl) _) (.inr fun e => by have := (HOC6.out.lt _ e).1; omega)
          clear hHeld d3 dr hdd
          go_wp2
          go_roundw
          case rel => exact ⟨j + 1, pre2 ++ [f], (rdT s2).2, A6, c6, by omega, by go_num, HST.out, HO8.out, HO7.out, HS6.out⟩
          case measure => simp [intOf]; omega
        · have HD2 : Hid (e = (pre2, s2)) := by
            show e = _
            rw [HEE.out, HRD.out, show M - j = 0 by omega]
            simp [rdTs]
          have p0 : wr.cell? ⟨w.heap.size + 2, 0, none⟩ = some (.int .i64 a.1) := HT.out.2.1.cell 0
          have p1 : wr.cell? ⟨w.heap.size + 2, 1, none⟩ = some (.int .i64 b.1) := HT.out.2.1.cell 1
          have p2 : wr.cell? ⟨w.heap.size + 2, 2, none⟩ = some (.slice A k cp) := HT.out.2.1.cell 2
          have p4 : wr.cell? ⟨w.heap.size + 2, 4, none⟩ = some (.int .i64 c.1) := HT.out.2.1.cell 4
          have q0 : wr.cell? ⟨w.heap.size + 1, 0, none⟩ = some (.int .i64 0) := HT.out.2.2.1.cell 0
          have q1 : wr.cell? ⟨w.heap.size + 1, 1, none⟩ = some (.int .i64 0) := HT.out.2.2.1.cell 1
          have q2 : wr.cell? ⟨w.heap.size + 1, 2, none⟩ = some (.slice none 0 0) := HT.out.2.2.1.cell 2
          have q3 : wr.cell? ⟨w.heap.size + 1, 3, none⟩ = some (.slice none 0 0) := HT.out.2.2.1.cell 3
          have q4 : wr.cell? ⟨w.heap.size + 1, 4, none⟩ = some (.int .i64 0) := HT.out.2.2.1.cell 4
          have r0 := HT.out.2.2.1.frozen 0
          have r1 := HT.out.2.2.1.frozen 1
          have r2 := HT.out.2.2.1.frozen 2
          have r3 := HT.out.2.2.1.frozen 3
          have r4 := HT.out.2.2.1.frozen 4
          have hlt2 : g < w.heap.size + 1 := by omega
          go_wp2
          rw [HE.out, HD2.out, ← HP.out]
          have hon := five_on wr (w.heap.size + 1) (.int .i64 a.1) (.int .i64 b.1) (.slice A k cp) (.slice A2 j cp2) (.int .i64 c.1)
          refine bodyPost_ret (v := txv a.1 b.1 c.1 A k cp A2 j cp2) (by simp [txv, results, Try.results47, go_sem, q0, q1, q2, q3, q4]) rfl ⟨A, k, cp, A2, j, cp2, rfl, ?_, ?_, ?_, ?_⟩
          · exact own_mono (HOC.out.kept hon (.inr fun e => by have := (HOC.out.lt _ e).1; omega)) (by omega)
          · exact own_mono (HO2.out.kept hon (.inr fun e => by have := (HO2.out.lt _ e).1; omega)) (by omega)
          · exact ((((HT.out.1.far (by exact hlt2) _).far (by exact hlt2) _).far (by exact hlt2) _).far (by exact hlt2) _).far (by exact hlt2) _
          · exact only_trans HT.out.2.2.2.1 hon (.inr fun x hx => by injection hx; omega)
end Go.Proofs.Ytjicdnknlfpajaa.Txn
