/-
  Contract of the document's Decode (transactions): it answers what the plain mathematics says of the bytes.
-/
import Derived.Test.YtjicdnknlfpajaaTxnRefRead
import Derived.Test.YtjicdnknlfpajaaTxnEncode
namespace Go.Proofs.Ytjicdnknlfpajaa.Txn
set_option linter.unusedVariables false
set_option maxRecDepth 100000
open Go.RowKit Base FieldMath TxnMath Last
open Go.Proofs.Ytjicdnknlfpajaa.Field (fv fv_append fv_one fv_length fv_get fv_take Flds ef ret_bool empty_iff Decoded)
set_option linter.ambiguousOpen false
set_option linter.unusedSimpArgs false

abbrev mx : Option Int := some 1099511627776
theorem decR_none {l : List UInt8} {fs : List Fld} (h : dec l = .ok fs) (hx : decX mx mx true fs = none) : decT l = .error 3 := by rw [decT_ref, h]; dsimp only; rw [hx]
theorem decR_some {l : List UInt8} {fs : List Fld} {t : Tx} (h : dec l = .ok fs) (hx : decX mx mx true fs = some t) : decT l = .ok t := by rw [decT_ref, h]; dsimp only; rw [hx]
/-- the document's Decode on its way: the reader at block g, the transaction at block c, the result's block ahead of both -/
def DSt (w : World) (B g c : Nat) (s : Rs) (cs : Array Value) (wr : World) : Prop := RR wr B g s ∧ Blk wr c 25 cs ∧ Blk wr w.heap.size 25 txz ∧ Below w.heap.size w wr
section
variable {w wr w1 : World} {B g c : Nat} {s s' : Rs} {cs : Array Value}
theorem DSt.call (h : DSt w B g c s cs wr) (hR : w.heap.size < g) (hc : g < c) (hr : RR w1 B g s') (hg : wr.grownBy w1 (some g)) : DSt w B g c s' cs w1 :=
  ⟨hr, Blk.kept h.2.1 hg (by omega), Blk.kept h.2.2.1 hg (by omega), h.2.2.2.trans ((below_of_only hg (Nat.le_of_lt h.1.lt)).mono (by omega))⟩
theorem DSt.store (h : DSt w B g c s cs wr) (hR : w.heap.size < g) (hc : g < c) (i : Nat) (v : Value) : DSt w B g c s (cs.setIfInBounds i v) (wr.setCell ⟨c, i, none⟩ v) :=
  ⟨h.1.far (by exact hc) v, h.2.1.set_ i v, h.2.2.1.far (by show w.heap.size ≠ c; omega) v, h.2.2.2.setCell (by show w.heap.size ≤ c; omega) v⟩
theorem DSt.alloc (h : DSt w B g c s cs wr) (o : Obj) : DSt w B g c s cs (wr.alloc o) := ⟨h.1.alloc o, h.2.1.alloc o, h.2.2.1.alloc o, h.2.2.2.alloc h.2.2.2.size o⟩
theorem DSt.below (h : DSt w B g c s cs wr) (hR : w.heap.size < g) (hc : g < c) (hb : Below (c + 1) wr w1) : DSt w B g c s cs w1 := by
  obtain ⟨⟨A, n, k, l, a, x, h1, h2, h3, h4, h5⟩, hx, hy, ho⟩ := h
  exact ⟨⟨A, n, k, l, a, x, h1.below hb (by omega), h2.below (hb.mono (by omega)), h3, h4, h5⟩, hx.below hb (by omega), hy.below hb (by omega), ho.trans (hb.mono (by omega))⟩
end
theorem own_off2 {wr w1 : World} {g c n : Nat} {e : TypeId} {size : Nat} {v : Value} {xs : List Value} (h : wr.ownsRow (c + 1) e size v n xs) (hlt : g < c) (hg : wr.grownBy w1 (some g)) : w1.ownsRow (c + 1) e size v n xs :=
  h.kept hg (.inr fun e => by have := (h.lt g e).1; omega)
theorem rdCs_step2 {hk : Option Int} {N k : Nat} {pre : List Ch} {s0 : Rs} {r : List Fld} (h : rdCs hk true N s0 = (pre ++ (rdCs hk true (N - k) (some r)).1, (rdCs hk true (N - k) (some r)).2)) (hlt : k < N) :
    rdCs hk true N s0 = (pre ++ [(rdC hk (some r)).1] ++ (rdCs hk true (N - (k + 1)) (rdC hk (some r)).2).1, (rdCs hk true (N - (k + 1)) (rdC hk (some r)).2).2) := by
  obtain ⟨m, hm⟩ : ∃ m, N - k = m + 1 := ⟨N - k - 1, by omega⟩
  rw [h, hm, show N - (k + 1) = m by omega, rdCs, if_neg (by simp)]
  simp
theorem rdTs_step2 {N k : Nat} {pre : List ByteArray} {s0 : Rs} {r : List Fld} (h : rdTs true N s0 = (pre ++ (rdTs true (N - k) (some r)).1, (rdTs true (N - k) (some r)).2)) (hlt : k < N) :
    rdTs true N s0 = (pre ++ [(rdT (some r)).1] ++ (rdTs true (N - (k + 1)) (rdT (some r)).2).1, (rdTs true (N - (k + 1)) (rdT (some r)).2).2) := by
  obtain ⟨m, hm⟩ : ∃ m, N - k = m + 1 := ⟨N - k - 1, by omega⟩
  rw [h, hm, show N - (k + 1) = m by omega, rdTs, if_neg (by simp)]
  simp
theorem rdCs_stop {hk : Option Int} {m : Nat} {s : Rs} (h : m = 0 ∨ s = none) : rdCs hk true m s = ([], s) := by
  rcases h with rfl | rfl
  · rfl
  · cases m with
    | zero => rfl
    | succ m => rw [rdCs, if_pos (by simp)]
theorem rdTs_stop {m : Nat} {s : Rs} (h : m = 0 ∨ s = none) : rdTs true m s = ([], s) := by
  rcases h with rfl | rfl
  · rfl
  · cases m with
    | zero => rfl
    | succ m => rw [rdTs, if_pos (by simp)]
def DChsRel (w : World) (B g c N : Nat) (lsn kind mark : Int) (s0 : Rs) (i : Value) (wr : World) : Prop :=
  ∃ (k : Nat) (pre : List Ch) (s : Rs) (A : Option Addr) (cp : Nat), k ≤ N ∧ i = .int .i64 k ∧ rdCs mx true N s0 = (pre ++ (rdCs mx true (N - k) s).1, (rdCs mx true (N - k) s).2) ∧
    wr.ownsRow (c + 1) 27 4 (.slice A k cp) k (cv pre) ∧ DSt w B g c s #[.int .i64 lsn, .int .i64 kind, .slice A k cp, .slice none 0 0, .int .i64 mark] wr
def DSigsRel (w : World) (B g c N : Nat) (lsn kind mark : Int) (l : List Ch) (A0 : Option Addr) (n0 c0 : Nat) (s0 : Rs) (i : Value) (wr : World) : Prop :=
  ∃ (k : Nat) (pre : List ByteArray) (s : Rs) (A : Option Addr) (cp : Nat), k ≤ N ∧ i = .int .i64 k ∧ rdTs true N s0 = (pre ++ (rdTs true (N - k) s).1, (rdTs true (N - k) s).2) ∧
    wr.ownsRow (c + 1) 27 4 (.slice A0 n0 c0) n0 (cv l) ∧ wr.ownsRow (c + 1) 9 1 (.slice A k cp) k (sv pre) ∧ DSt w B g c s #[.int .i64 lsn, .int .i64 kind, .slice A0 n0 c0, .slice A k cp, .int .i64 mark] wr
/-- the reader's bad mark, and what it has before it -/
theorem RR.bad {w : World} {B g : Nat} {s : Rs} (h : RR w B g s) : (w.cell? ⟨g, 2, none⟩ = some (.bool true) ∧ s = none) ∨ (∃ r, w.cell? ⟨g, 2, none⟩ = some (.bool false) ∧ s = some r) := by
  obtain ⟨A, n, k, l, a, x, h1, h2, h3, h4, h5⟩ := h
  cases x with
  | true => exact .inl ⟨h1.cell 2, by rw [h5]; rfl⟩
  | false => exact .inr ⟨_, h1.cell 2, by rw [h5, if_neg (by simp)]⟩

set_option maxHeartbeats 6400000 in
theorem refdecode_any (B : Nat) (A : Option Addr) (n c : Nat) (l : List UInt8) (w : World) (hr : Bytes w B A n c l) (hB : B ≤ w.heap.size) :
    Calls Try.prog 25 #[.slice A n c] w (DecT w l) := by
  have HR := Lib.hid hr
  clear hr
  have HX0 : Hid (Blk (w.alloc (.cells txz 25)) w.heap.size 25 txz) := Blk.new _ _ _
  have HB0 : Hid (Below w.heap.size w (w.alloc (.cells txz 25))) := (Below.refl _ _).alloc (Nat.le_refl _) _
  go_enter Try.func25, Try.ntmps25
  go_wp2_with fail
  refine (Field.refdecode_any B A n c l _ (HR.out.alloc hB _) (by simp; omega)).mono ?_
  rintro e w1 ⟨A1, n1, c1, rfl, hf1, hb1⟩
  have HX1 := Lib.hid (HX0.out.below hb1 HX0.out.lt)
  have HB1 := Lib.hid (held_two HB0.out hb1)
  have HF1 := Lib.hid hf1
  have hz1 : w.heap.size < w1.heap.size := HX1.out.lt
  clear hf1 hb1 HX0 HB0
  have q0 : w1.cell? ⟨w.heap.size, 0, none⟩ = some (.int .i64 0) := HX1.out.cell 0
  have q1 : w1.cell? ⟨w.heap.size, 1, none⟩ = some (.int .i64 0) := HX1.out.cell 1
  have q2 : w1.cell? ⟨w.heap.size, 2, none⟩ = some (.slice none 0 0) := HX1.out.cell 2
  have q3 : w1.cell? ⟨w.heap.size, 3, none⟩ = some (.slice none 0 0) := HX1.out.cell 3
  have q4 : w1.cell? ⟨w.heap.size, 4, none⟩ = some (.int .i64 0) := HX1.out.cell 4
  have r0 := HX1.out.frozen 0
  have r1 := HX1.out.frozen 1
  have r2 := HX1.out.frozen 2
  have r3 := HX1.out.frozen 3
  have r4 := HX1.out.frozen 4
  cases hd : dec l with
  | error k =>
    have hk0 : k ≠ 0 := by have := dec_why hd; omega
    have hk1 : ((k : Int) != 0) = true := by simp; omega
    have HD := Lib.hid (decT_err hd)
    clear hd hk0
    rw [show ((err (Except.error k : Except Nat (List Fld)) : Nat) : Int) = (k : Int) from rfl]
    go_wp2
    refine bodyPost_ret (v := .tuple #[txv 0 0 0 none 0 0 none 0 0, .int .i64 k]) (by simp [txv, results, Try.results25, go_sem, q0, q1, q2, q3, q4]) rfl ?_
    exact decT_no HD.out rfl (five_below HB1.out _ _ _ _ _)
  | ok fs =>
    have HD := Lib.hid hd
    rw [hd] at HF1
    have HF2 : Hid (Flds w1 w1.heap.size A1 n1 c1 fs) := HF1.out
    clear hd HF1 q0 q1 q2 q3 q4 r0 r1 r2 r3 r4
    rw [show ((err (Except.ok fs : Except Nat (List Fld)) : Nat) : Int) = 0 from rfl]
    obtain ⟨a, ha⟩ : ∃ a, a = rdN mx (some fs) := ⟨_, rfl⟩
    obtain ⟨b, hb⟩ : ∃ b, b = rdN (some 3) a.2 := ⟨_, rfl⟩
    obtain ⟨c, hc⟩ : ∃ c, c = rdN mx b.2 := ⟨_, rfl⟩
    obtain ⟨n, hn⟩ : ∃ n, n = rdN (some 16) c.2 := ⟨_, rfl⟩
    obtain ⟨d, hd⟩ : ∃ d, d = rdCs mx true n.1.toNat n.2 := ⟨_, rfl⟩
    obtain ⟨m, hm⟩ : ∃ m, m = rdN (some 2) d.2 := ⟨_, rfl⟩
    obtain ⟨e, he⟩ : ∃ e, e = rdTs true m.1.toNat m.2 := ⟨_, rfl⟩
    have HE : Hid (rdX mx mx true (some fs) = (⟨a.1, b.1, d.1, e.1, c.1⟩, e.2)) := by
      show _ = _
      rw [he, hm, hd, hn, hc, hb, ha]
      rfl
    have hn2 := rdN_range (show (0 : Int) ≤ 16 by omega) c.2
    rw [← hn] at hn2
    have hm2 := rdN_range (show (0 : Int) ≤ 2 by omega) d.2
    rw [← hm] at hm2
    obtain ⟨N, hN⟩ : ∃ N : Nat, n.1 = N := ⟨n.1.toNat, by omega⟩
    obtain ⟨M, hM⟩ : ∃ M : Nat, m.1 = M := ⟨m.1.toNat, by omega⟩
    rw [hN, Int.toNat_natCast] at hd
    rw [hM, Int.toNat_natCast] at he
    rw [hN] at hn2
    rw [hM] at hm2
    have HA := Lib.hid ha
    have HBB := Lib.hid hb
    have HCC := Lib.hid hc
    have HNN := Lib.hid hn
    have HDD := Lib.hid hd
    have HMM := Lib.hid hm
    have HEE := Lib.hid he
    have HN := Lib.hid hN
    have HM := Lib.hid hM
    clear ha hb hc hn hd hm he hN hM
    go_wp2_with fail
    have HW2 : Hid (RR (w1.alloc (.cells #[.slice A1 n1 c1, .int .i64 0, .bool false] 91)) w1.heap.size w1.heap.size (some fs)) := ⟨A1, n1, c1, fs, 0, false, Blk.new _ _ _, HF2.out.alloc (Nat.le_refl _) _, Nat.zero_le _, Nat.le_refl _, rfl⟩
    refine (rint_any w1.heap.size w1.heap.size (some fs) 1099511627776 _ HW2.out).mono ?_
    rintro e3 w3 ⟨he3, hr3, hg3⟩
    rw [show ((1099511627776 : Nat) : Int) = 1099511627776 from rfl, ← HA.out] at he3 hr3
    subst he3
    have hz3 : w1.heap.size < w3.heap.size := hr3.lt
    have HT3 : Hid (DSt w w1.heap.size w1.heap.size w3.heap.size a.2 #[.int .i64 a.1, .int .i64 0, .slice none 0 0, .slice none 0 0, .int .i64 0] (w3.alloc (.cells #[.int .i64 a.1, .int .i64 0, .slice none 0 0, .slice none 0 0, .int .i64 0] 25))) :=
      ⟨hr3.alloc _, Blk.new _ _ _, (Blk.kept (HX1.out.alloc _) hg3 (by omega)).alloc _, ((HB1.out.alloc (by omega) _).trans ((below_of_only hg3 (by simp)).mono (by omega))).alloc (by omega) _⟩
    generalize hgg : w1.heap.size = g at hz1 hz3 HT3 ⊢
    clear hr3 hg3 HW2 HX1 HB1 HF2 hgg
    go_wp2_with fail
    refine (rint_any g g a.2 3 _ HT3.out.1).mono ?_
    rintro e4 w4 ⟨he4, hr4, hg4⟩
    rw [show ((3 : Nat) : Int) = 3 from rfl, ← HBB.out] at he4 hr4
    subst he4
    have HT4 := Lib.hid (HT3.out.call hz1 hz3 hr4 hg4)
    generalize w3.heap.size = ct at hz3 HT4 ⊢
    have k4 : w4.cell? ⟨ct, 1, none⟩ = some (.int .i64 0) := HT4.out.2.1.cell 1
    have f4 := HT4.out.2.1.frozen 1
    clear hr4 hg4 HT3
    go_wp2_with fail
    have HS4 := Lib.hid (HT4.out.store hz1 hz3 1 (.int .i64 b.1))
    refine (rint_any g g b.2 1099511627776 _ HS4.out.1).mono ?_
    rintro e5 w5 ⟨he5, hr5, hg5⟩
    rw [show ((1099511627776 : Nat) : Int) = 1099511627776 from rfl, ← HCC.out] at he5 hr5
    subst he5
    have HT5 := Lib.hid (HS4.out.call hz1 hz3 hr5 hg5)
    have k5 : w5.cell? ⟨ct, 4, none⟩ = some (.int .i64 0) := HT5.out.2.1.cell 4
    have f5 := HT5.out.2.1.frozen 4
    clear hr5 hg5 HS4 HT4 k4 f4
    go_wp2_with fail
    have HS5 := Lib.hid (HT5.out.store hz1 hz3 4 (.int .i64 c.1))
    refine (rint_any g g c.2 16 _ HS5.out.1).mono ?_
    rintro e6 w6 ⟨he6, hr6, hg6⟩
    rw [show ((16 : Nat) : Int) = 16 from rfl, ← HNN.out, HN.out] at he6
    rw [show ((16 : Nat) : Int) = 16 from rfl, ← HNN.out] at hr6
    subst he6
    have HT6 : Hid (DSt w g g ct n.2 #[.int .i64 a.1, .int .i64 b.1, .slice none 0 0, .slice none 0 0, .int .i64 c.1] w6) := HS5.out.call hz1 hz3 hr6 hg6
    clear hr6 hg6 HS5 HT5 k5 f5
    go_wp2
    go_loopw [9] (fun i wr => DChsRel w g g ct N a.1 b.1 c.1 n.2 i wr) (fun i _ => N - (intOf i).toNat)
    case atStart => exact ⟨0, [], n.2, none, 0, by omega, rfl, rfl, World.ownsRow_nil _ _ _ _, HT6.out⟩
    case round =>
      obtain ⟨k, pre, s1, Ap, cp, hk, rfl, hrd, hown, hst⟩ := hrel
      have c2 : wr.cell? ⟨ct, 2, none⟩ = some (.slice Ap k cp) := hst.2.1.cell 2
      have HRD := Lib.hid hrd
      have HO := Lib.hid hown
      have HT := Lib.hid hst
      have hbad := hst.1.bad
      clear hrd hown hst HT6
      by_cases hgo : k < N ∧ s1 ≠ none
      · obtain ⟨hlk, hs1⟩ := hgo
        obtain ⟨r, kb, rfl⟩ : ∃ r, wr.cell? ⟨g, 2, none⟩ = some (.bool false) ∧ s1 = some r := by
          rcases hbad with ⟨_, h2⟩ | h2
          · exact absurd h2 hs1
          · exact h2
        clear hbad hs1
        have HST := Lib.hid (rdCs_step2 HRD.out hlk)
        go_wp2_with fail
        refine wp_region_last_at (S := fun w' => w'.cell? ⟨ct, 2, none⟩ = some (.slice Ap k cp)) 7 _ rfl rfl (by kernel_rfl) (by kernel_rfl) (by kernel_rfl) c2 (fun hHeld => ?_)
        simp only [List.take_succ_cons, List.take_zero]
        refine wpAnyH_take (i := 0) (v := ?av0) rfl (by kernel_rfl) (by kernel_rfl) (by kernel_rfl) (fun _ _ _ h => h) (Or.inl ⟨by rfl, ?ay0⟩) (by assumption) ?ar0
        case ay0 => (intro w hSw; (try dsimp only at hSw); go_simp; try with_reducible rfl)
        try simp only [Act.put, List.getElem_toArray, List.getElem_cons_succ, List.getElem_cons_zero, List.setIfInBounds_toArray, List.set_cons_zero, List.set_cons_succ]
        refine wpAnyH_take (i := 1) (v := ?av1) rfl (by kernel_rfl) (by kernel_rfl) (by kernel_rfl) (fun _ _ _ h => h) (Or.inl ⟨by rfl, ?ay1⟩) (by assumption) ?ar1
        case ay1 => (intro w hSw; (try dsimp only at hSw); go_simp; try with_reducible rfl)
        try simp only [Act.put, List.getElem_toArray, List.getElem_cons_succ, List.getElem_cons_zero, List.setIfInBounds_toArray, List.set_cons_zero, List.set_cons_succ]
        refine wpAnyH_take (i := 2) (v := ?av2) rfl (by kernel_rfl) (by kernel_rfl) (by kernel_rfl) (fun _ _ _ h => h) (Or.inl ⟨by rfl, ?ay2⟩) (by assumption) ?ar2
        case ay2 => (intro w hSw; (try dsimp only at hSw); go_simp; try with_reducible rfl)
        try simp only [Act.put, List.getElem_toArray, List.getElem_cons_succ, List.getElem_cons_zero, List.setIfInBounds_toArray, List.set_cons_zero, List.set_cons_succ]
        refine wpAnyH_ready (rs := [3]) (by kernel_rfl) (by simp) ?_
        refine AllReadyH.cons rfl (fun K hK => ?_) AllReadyH.nil
        go_simp
        refine (rchange_any g g (some r) _ (show RR wr.drew g g (some r) from HT.out.1)).mono ?_
        rintro e5 w5 ⟨rfl, hr5, hg5⟩
        replace hg5 := only_of_drew hg5
        have HT5 := Lib.hid (HT.out.call hz1 hz3 hr5 hg5)
        have HO5 := Lib.hid (own_off2 HO.out hz3 hg5)
        refine hK.out _ _ (HT5.out.2.1.cell 2) (fun hHeld => ?_)
        clear hK K hr5 hg5
        obtain ⟨f, hf⟩ : ∃ f, f = (rdC mx (some r)).1 := ⟨_, rfl⟩
        rw [← hf] at HST ⊢
        unfold chv
        clear hf
        try simp only [Act.put, List.getElem_toArray, List.getElem_cons_succ, List.getElem_cons_zero, List.setIfInBounds_toArray, List.set_cons_zero, List.set_cons_succ]
        refine wpAnyH_ready (rs := [4]) (by kernel_rfl) (by simp) ?_
        refine AllReadyH.cons rfl (fun K hK => ?_) AllReadyH.nil
        go_simp
        refine hK.out _ _ ((HT5.out.2.1.alloc _).cell 2) (fun hHeld => ?_)
        clear hK K
        try simp only [Act.put, List.getElem_toArray, List.getElem_cons_succ, List.getElem_cons_zero, List.setIfInBounds_toArray, List.set_cons_zero, List.set_cons_succ]
        refine wpAnyH_ready (rs := [5]) (by kernel_rfl) (by simp) ?_
        refine AllReadyH.cons rfl (fun K hK => ?_) AllReadyH.nil
        refine step_append_row (by rfl) (.tmp 47) (.tmp 50) (by rfl) ech (ct + 1) (.slice Ap k cp) k (cv pre) (by rfl) (own_keep HO5.out ((Below.refl _ _).alloc (Nat.le_refl _) _)) (w5.heap.size + 1) (some ⟨w5.heap.size, 0, none⟩) 1 1 (cv [f]) (by rfl) (one_ch w5 f rfl) (cv_one _) (by omega) (by omega) (by have := HT5.out.2.1.lt; simp; omega) ?_
        intro A6 c6 w6 hown6 hg6 hb6
        rw [← cv_append] at hown6
        have HT6 := Lib.hid ((HT5.out.alloc (.cells #[.int .i64 f.tbl, .int .i64 f.key, .bool f.gone, .string f.val] 27)).below hz1 hz3 hb6)
        have HO6 := Lib.hid hown6
        have k6 : w6.cell? ⟨ct, 2, none⟩ = some (.slice Ap k cp) := HT6.out.2.1.cell 2
        have f6 := HT6.out.2.1.frozen 2
        clear hown6 hg6 hb6
        refine hK.out _ _ k6 (fun hHeld => ?_)
        clear hK K
        try simp only [Act.put, List.getElem_toArray, List.getElem_cons_succ, List.getElem_cons_zero, List.setIfInBounds_toArray, List.set_cons_zero, List.set_cons_succ]
        refine wpAnyH_take (i := 6) (v := ?bv6) rfl (by kernel_rfl) (by kernel_rfl) (by kernel_rfl) (fun _ _ _ h => h) (Or.inl ⟨by rfl, ?by6⟩) (by assumption) ?br6
        case by6 => (intro w hSw; (try dsimp only at hSw); go_simp; try with_reducible rfl)
        try simp only [Act.put, List.getElem_toArray, List.getElem_cons_succ, List.getElem_cons_zero, List.setIfInBounds_toArray, List.set_cons_zero, List.set_cons_succ]
        refine wpAnyH_done (by kernel_rfl) ?_ _
        refine then_normal rfl ?_
        have HS6 : Hid (DSt w g g ct (rdC mx (some r)).2 #[.int .i64 a.1, .int .i64 b.1, .slice A6 (k + 1) c6, .slice none 0 0, .int .i64 c.1] (w6.setCell ⟨ct, 2, none⟩ (.slice A6 (k + 1) c6))) := HT6.out.store hz1 hz3 2 _
        have HO7 : Hid ((w6.setCell ⟨ct, 2, none⟩ (.slice A6 (k + 1) c6)).ownsRow (ct + 1) 27 4 (.slice A6 (k + 1) c6) (k + 1) (cv (pre ++ [f]))) :=
          HO6.out.kept (only_setCell (World.grownBy.refl _ (some ct)) (.inl rfl) _) (.inr fun e => by have := (HO6.out.lt _ e).1; omega)
        clear hHeld c2
        go_wp2
        go_roundw
        case rel => exact ⟨k + 1, pre ++ [f], (rdC mx (some r)).2, A6, c6, by omega, by go_num, HST.out, HO7.out, HS6.out⟩
        case measure => simp [intOf]; omega
      · have HD1 : Hid (d = (pre, s1)) := by
          show d = _
          rw [HDD.out, HRD.out, rdCs_stop (by
            by_cases h : k < N
            · exact .inr (Classical.byContradiction fun e => hgo ⟨h, e⟩)
            · exact .inl (by omega))]
          simp
        have HP : Hid (pre = d.1) := by
          show _ = _
          rw [HD1.out]
        have hS : Hid (s1 = d.2) := by
          show _ = _
          rw [HD1.out]
        have HTx := Lib.hid HT.out
        rw [hS.out] at HTx
        have hkb : k < N → wr.cell? ⟨g, 2, none⟩ = some (.bool true) := fun h => by
          rcases hbad with ⟨h1, _⟩ | ⟨r, _, h2⟩
          · exact h1
          · exact absurd (by rw [h2]; simp) (fun e => hgo ⟨h, e⟩)
        have hw2 : ∀ x : Bool, (k < N ∧ wr.cell? ⟨g, 2, none⟩ = some (.bool true)) ∨ (¬ k < N ∧ True) := fun _ => by
          by_cases h : k < N
          · exact .inl ⟨h, hkb h⟩
          · exact .inr ⟨h, trivial⟩
        have hw3 := hw2 true
        clear HT HRD hS hkb hw2 hbad hgo HD1 c2 hk
        rcases hw3 with ⟨hlk, kb⟩ | ⟨hlk, kb⟩
        all_goals (
          go_wp2_with fail
          refine (rint_any g g d.2 2 _ HTx.out.1).mono ?_
          rintro e7 w7 ⟨he7, hr7, hg7⟩
          rw [show ((2 : Nat) : Int) = 2 from rfl, ← HMM.out, HM.out] at he7
          rw [show ((2 : Nat) : Int) = 2 from rfl, ← HMM.out] at hr7
          subst he7
          have HT7 := Lib.hid (HTx.out.call hz1 hz3 hr7 hg7)
          have HO7 := Lib.hid (own_off2 HO.out hz3 hg7)
          clear hr7 hg7 kb
          go_wp2
          go_loopw [10] (fun i wr => DSigsRel w g g ct M a.1 b.1 c.1 pre Ap k cp m.2 i wr) (fun i _ => M - (intOf i).toNat)
          case atStart => exact ⟨0, [], m.2, none, 0, by omega, rfl, rfl, HO7.out, World.ownsRow_nil _ _ _ _, HT7.out⟩
          case round =>
            obtain ⟨j, pre2, s2, A2, cp2, hj, rfl, hrd, hownc, hown, hst⟩ := hrel
            have d3 : wr.cell? ⟨ct, 3, none⟩ = some (.slice A2 j cp2) := hst.2.1.cell 3
            have HRD := Lib.hid hrd
            have HOC := Lib.hid hownc
            have HO2 := Lib.hid hown
            have HT := Lib.hid hst
            have hbad := hst.1.bad
            clear hrd hown hownc hst HT7 HO7
            by_cases hgo : j < M ∧ s2 ≠ none
            · obtain ⟨hlj, hs1⟩ := hgo
              obtain ⟨r, kb, rfl⟩ : ∃ r, wr.cell? ⟨g, 2, none⟩ = some (.bool false) ∧ s2 = some r := by
                rcases hbad with ⟨_, h2⟩ | h2
                · exact absurd h2 hs1
                · exact h2
              clear hbad hs1
              have HST := Lib.hid (rdTs_step2 HRD.out hlj)
              go_wp2_with fail
              refine wp_region_last_at (S := fun w' => w'.cell? ⟨ct, 3, none⟩ = some (.slice A2 j cp2)) 7 _ rfl rfl (by kernel_rfl) (by kernel_rfl) (by kernel_rfl) d3 (fun hHeld => ?_)
              simp only [List.take_succ_cons, List.take_zero]
              refine wpAnyH_take (i := 0) (v := ?_) rfl (by kernel_rfl) (by kernel_rfl) (by kernel_rfl) (fun _ _ _ h => h) (Or.inl ⟨by rfl, ?_⟩) (by assumption) ?_
              rotate_left 1
              · (intro w hSw; (try dsimp only at hSw); go_simp; try with_reducible rfl)
              try simp only [Act.put, List.getElem_toArray, List.getElem_cons_succ, List.getElem_cons_zero, List.setIfInBounds_toArray, List.set_cons_zero, List.set_cons_succ]
              refine wpAnyH_take (i := 1) (v := ?_) rfl (by kernel_rfl) (by kernel_rfl) (by kernel_rfl) (fun _ _ _ h => h) (Or.inl ⟨by rfl, ?_⟩) (by assumption) ?_
              rotate_left 1
              · (intro w hSw; (try dsimp only at hSw); go_simp; try with_reducible rfl)
              try simp only [Act.put, List.getElem_toArray, List.getElem_cons_succ, List.getElem_cons_zero, List.setIfInBounds_toArray, List.set_cons_zero, List.set_cons_succ]
              refine wpAnyH_take (i := 2) (v := ?_) rfl (by kernel_rfl) (by kernel_rfl) (by kernel_rfl) (fun _ _ _ h => h) (Or.inl ⟨by rfl, ?_⟩) (by assumption) ?_
              rotate_left 1
              · (intro w hSw; (try dsimp only at hSw); go_simp; try with_reducible rfl)
              try simp only [Act.put, List.getElem_toArray, List.getElem_cons_succ, List.getElem_cons_zero, List.setIfInBounds_toArray, List.set_cons_zero, List.set_cons_succ]
              refine wpAnyH_ready (rs := [3]) (by kernel_rfl) (by simp) ?_
              refine AllReadyH.cons rfl (fun K hK => ?_) AllReadyH.nil
              go_simp
              refine (rtext_any g g (some r) _ (show RR wr.drew g g (some r) from HT.out.1)).mono ?_
              rintro e5 w5 ⟨rfl, hr5, hg5⟩
              replace hg5 := only_of_drew hg5
              have HT5 := Lib.hid (HT.out.call hz1 hz3 hr5 hg5)
              have HO5 := Lib.hid (own_off2 HO2.out hz3 hg5)
              have HOC5 := Lib.hid (own_off2 HOC.out hz3 hg5)
              refine hK.out _ _ (HT5.out.2.1.cell 3) (fun hHeld => ?_)
              clear hK K hr5 hg5
              obtain ⟨f, hf⟩ : ∃ f, f = (rdT (some r)).1 := ⟨_, rfl⟩
              rw [← hf] at HST ⊢
              clear hf
              try simp only [Act.put, List.getElem_toArray, List.getElem_cons_succ, List.getElem_cons_zero, List.setIfInBounds_toArray, List.set_cons_zero, List.set_cons_succ]
              refine wpAnyH_ready (rs := [4]) (by kernel_rfl) (by simp) ?_
              refine AllReadyH.cons rfl (fun K hK => ?_) AllReadyH.nil
              go_simp
              refine hK.out _ _ ((HT5.out.2.1.alloc _).cell 3) (fun hHeld => ?_)
              clear hK K
              try simp only [Act.put, List.getElem_toArray, List.getElem_cons_succ, List.getElem_cons_zero, List.setIfInBounds_toArray, List.set_cons_zero, List.set_cons_succ]
              refine wpAnyH_ready (rs := [5]) (by kernel_rfl) (by simp) ?_
              refine AllReadyH.cons rfl (fun K hK => ?_) AllReadyH.nil
              refine step_append_row (by rfl) (.tmp 68) (.tmp 71) (by rfl) estr (ct + 1) (.slice A2 j cp2) j (sv pre2) (by rfl) (own_keep HO5.out ((Below.refl _ _).alloc (Nat.le_refl _) _)) (w5.heap.size + 1) (some ⟨w5.heap.size, 0, none⟩) 1 1 (sv [f]) (by rfl) (one_str w5 f rfl) (sv_one _) (by omega) (by omega) (by have := HT5.out.2.1.lt; simp; omega) ?_
              intro A6 c6 w6 hown6 hg6 hb6
              have HOC6 := Lib.hid ((own_keep HOC5.out ((Below.refl _ _).alloc (Nat.le_refl _) (.cells #[.string f] 9))).kept hg6.1 (own_types HOC5.out HO5.out (by decide)))
              rw [show sv pre2 ++ sv [f] = sv (pre2 ++ [f]) from List.map_append.symm] at hown6
              have HT6 := Lib.hid ((HT5.out.alloc (.cells #[.string f] 9)).below hz1 hz3 hb6)
              have HO6 := Lib.hid hown6
              have k6 : w6.cell? ⟨ct, 3, none⟩ = some (.slice A2 j cp2) := HT6.out.2.1.cell 3
              have f6 := HT6.out.2.1.frozen 3
              clear hown6 hg6 hb6
              refine hK.out _ _ k6 (fun hHeld => ?_)
              clear hK K
              try simp only [Act.put, List.getElem_toArray, List.getElem_cons_succ, List.getElem_cons_zero, List.setIfInBounds_toArray, List.set_cons_zero, List.set_cons_succ]
              refine wpAnyH_take (i := 6) (v := ?_) rfl (by kernel_rfl) (by kernel_rfl) (by kernel_rfl) (fun _ _ _ h => h) (Or.inl ⟨by rfl, ?_⟩) (by assumption) ?_
              rotate_left 1
              · (intro w hSw; (try dsimp only at hSw); go_simp; try with_reducible rfl)
              try simp only [Act.put, List.getElem_toArray, List.getElem_cons_succ, List.getElem_cons_zero, List.setIfInBounds_toArray, List.set_cons_zero, List.set_cons_succ]
              refine wpAnyH_done (by kernel_rfl) ?_ _
              refine then_normal rfl ?_
              have HS6 : Hid (DSt w g g ct (rdT (some r)).2 #[.int .i64 a.1, .int .i64 b.1, .slice Ap k cp, .slice A6 (j + 1) c6, .int .i64 c.1] (w6.setCell ⟨ct, 3, none⟩ (.slice A6 (j + 1) c6))) := HT6.out.store hz1 hz3 3 _
              have HO7 : Hid ((w6.setCell ⟨ct, 3, none⟩ (.slice A6 (j + 1) c6)).ownsRow (ct + 1) 9 1 (.slice A6 (j + 1) c6) (j + 1) (sv (pre2 ++ [f]))) :=
                HO6.out.kept (only_setCell (World.grownBy.refl _ (some ct)) (.inl rfl) _) (.inr fun e => by have := (HO6.out.lt _ e).1; omega)
              have HO8 : Hid ((w6.setCell ⟨ct, 3, none⟩ (.slice A6 (j + 1) c6)).ownsRow (ct + 1) 27 4 (.slice Ap k cp) k (cv pre)) :=
                HOC6.out.kept (only_setCell (World.grownBy.refl _ (some ct)) (.inl rfl) _) (.inr fun e => by have := (HOC6.out.lt _ e).1; omega)
              clear hHeld d3
              go_wp2
              go_roundw
              case rel => exact ⟨j + 1, pre2 ++ [f], (rdT (some r)).2, A6, c6, by omega, by go_num, HST.out, HO8.out, HO7.out, HS6.out⟩
              case measure => simp [intOf]; omega
            · have HD2 : Hid (e = (pre2, s2)) := by
                show e = _
                rw [HEE.out, HRD.out, rdTs_stop (by
                  by_cases h : j < M
                  · exact .inr (Classical.byContradiction fun e => hgo ⟨h, e⟩)
                  · exact .inl (by omega))]
                simp
              have hS2 : Hid (s2 = e.2) := by
                show _ = _
                rw [HD2.out]
              have HTy := Lib.hid HT.out
              rw [hS2.out] at HTy
              have hkb : j < M → wr.cell? ⟨g, 2, none⟩ = some (.bool true) := fun h => by
                rcases hbad with ⟨h1, _⟩ | ⟨r, _, h2⟩
                · exact h1
                · exact absurd (by rw [h2]; simp) (fun e => hgo ⟨h, e⟩)
              have hw2 : ∀ x : Bool, (j < M ∧ wr.cell? ⟨g, 2, none⟩ = some (.bool true)) ∨ (¬ j < M ∧ True) := fun _ => by
                by_cases h : j < M
                · exact .inl ⟨h, hkb h⟩
                · exact .inr ⟨h, trivial⟩
              have hw3 := hw2 true
              have HOF := Lib.hid (Row.of_own HOC.out)
              have HOG := Lib.hid (Row.of_own HO2.out)
              clear HT HRD hS2 hkb hw2 hbad hgo d3 hj
              rcases hw3 with ⟨hlj, kb⟩ | ⟨hlj, kb⟩
              all_goals (
                go_wp2_with fail
                refine (rend_any g g e.2 _ HTy.out.1).mono ?_
                rintro e8 W ⟨rfl, kk, hW⟩
                have HX8 : Hid (Blk W w.heap.size 25 txz) := by rw [hW]; exact HTy.out.2.2.1.drewN kk
                have HC8 : Hid (Blk W ct 25 #[.int .i64 a.1, .int .i64 b.1, .slice Ap k cp, .slice A2 j cp2, .int .i64 c.1]) := by rw [hW]; exact HTy.out.2.1.drewN kk
                have HB8 : Hid (Below w.heap.size w W) := by rw [hW]; exact below_drewN HTy.out.2.2.2 kk
                have HOC8 : Hid (W.ownsRow (ct + 1) 27 4 (.slice Ap k cp) k (cv pre)) := by rw [hW]; exact HOC.out
                have HOS8 : Hid (W.ownsRow (ct + 1) 9 1 (.slice A2 j cp2) j (sv pre2)) := by rw [hW]; exact HO2.out
                clear hW kb
                have hR8 : w.heap.size < W.heap.size := HX8.out.lt
                cases hend : isEnd e.2 with
                | false =>
                  have HE9 := Lib.hid (decR_none HD.out (decX_off (by rw [HE.out]; intro h; dsimp only at h; rw [h] at hend; cases hend)))
                  clear hend
                  have qb0 : W.cell? ⟨w.heap.size, 0, none⟩ = some (.int .i64 0) := HX8.out.cell 0
                  have qb1 : W.cell? ⟨w.heap.size, 1, none⟩ = some (.int .i64 0) := HX8.out.cell 1
                  have qb2 : W.cell? ⟨w.heap.size, 2, none⟩ = some (.slice none 0 0) := HX8.out.cell 2
                  have qb3 : W.cell? ⟨w.heap.size, 3, none⟩ = some (.slice none 0 0) := HX8.out.cell 3
                  have qb4 : W.cell? ⟨w.heap.size, 4, none⟩ = some (.int .i64 0) := HX8.out.cell 4
                  have rb0 := HX8.out.frozen 0
                  have rb1 := HX8.out.frozen 1
                  have rb2 := HX8.out.frozen 2
                  have rb3 := HX8.out.frozen 3
                  have rb4 := HX8.out.frozen 4
                  go_wp2
                  refine bodyPost_ret (v := .tuple #[txv 0 0 0 none 0 0 none 0 0, .int .i64 3]) (by simp [txv, results, Try.results25, go_sem, qb0, qb1, qb2, qb3, qb4]) rfl ?_
                  exact decT_no HE9.out rfl (five_below HB8.out _ _ _ _ _)
                | true =>
                  have hem : e.2 = some [] := by
                    revert hend
                    generalize e.2 = z
                    intro hend
                    match z, hend with
                    | some [], _ => rfl
                  have HEM := Lib.hid hem
                  clear hend hem
                  have t0 : W.cell? ⟨ct, 0, none⟩ = some (.int .i64 a.1) := HC8.out.cell 0
                  have t1 : W.cell? ⟨ct, 1, none⟩ = some (.int .i64 b.1) := HC8.out.cell 1
                  have t2 : W.cell? ⟨ct, 2, none⟩ = some (.slice Ap k cp) := HC8.out.cell 2
                  have t3 : W.cell? ⟨ct, 3, none⟩ = some (.slice A2 j cp2) := HC8.out.cell 3
                  have t4 : W.cell? ⟨ct, 4, none⟩ = some (.int .i64 c.1) := HC8.out.cell 4
                  go_wp2_with fail
                  refine (refmay_any W.heap.size a.1 b.1 c.1 Ap k cp pre A2 j cp2 pre2 _ (Row.of_own HOC8.out) (Row.of_own HOS8.out) (Nat.le_refl _)).mono ?_
                  rintro e9 w9 ⟨rfl, hb9⟩
                  have HX9 := Lib.hid (HX8.out.below hb9 hR8)
                  have HC9 := Lib.hid (HC8.out.below hb9 HC8.out.lt)
                  have HB9 := Lib.hid (held_two HB8.out hb9)
                  have HOC9 := Lib.hid (own_keep HOC8.out hb9)
                  have HOS9 := Lib.hid (own_keep HOS8.out hb9)
                  have u0 : w9.cell? ⟨ct, 0, none⟩ = some (.int .i64 a.1) := HC9.out.cell 0
                  have u1 : w9.cell? ⟨ct, 1, none⟩ = some (.int .i64 b.1) := HC9.out.cell 1
                  have u2 : w9.cell? ⟨ct, 2, none⟩ = some (.slice Ap k cp) := HC9.out.cell 2
                  have u3 : w9.cell? ⟨ct, 3, none⟩ = some (.slice A2 j cp2) := HC9.out.cell 3
                  have u4 : w9.cell? ⟨ct, 4, none⟩ = some (.int .i64 c.1) := HC9.out.cell 4
                  clear hb9 t0 t1 t2 t3 t4
                  have qc0 : w9.cell? ⟨w.heap.size, 0, none⟩ = some (.int .i64 0) := HX9.out.cell 0
                  have qc1 : w9.cell? ⟨w.heap.size, 1, none⟩ = some (.int .i64 0) := HX9.out.cell 1
                  have qc2 : w9.cell? ⟨w.heap.size, 2, none⟩ = some (.slice none 0 0) := HX9.out.cell 2
                  have qc3 : w9.cell? ⟨w.heap.size, 3, none⟩ = some (.slice none 0 0) := HX9.out.cell 3
                  have qc4 : w9.cell? ⟨w.heap.size, 4, none⟩ = some (.int .i64 0) := HX9.out.cell 4
                  have rc0 := HX9.out.frozen 0
                  have rc1 := HX9.out.frozen 1
                  have rc2 := HX9.out.frozen 2
                  have rc3 := HX9.out.frozen 3
                  have rc4 := HX9.out.frozen 4
                  have HT9 : Hid ((rdX mx mx true (some fs)).1 = ⟨a.1, b.1, pre, pre2, c.1⟩) := by
                    show _ = _
                    rw [HE.out, HD2.out, ← HP.out]
                  cases hm : Tx.may ⟨a.1, b.1, pre, pre2, c.1⟩ with
                  | true =>
                    have HE9 := Lib.hid (decR_some HD.out (decX_good (by rw [HE.out]; exact HEM.out) (by rw [HT9.out]; exact hm)))
                    rw [HT9.out] at HE9
                    clear hm
                    go_wp2
                    have hon := five_on w9 w.heap.size (.int .i64 a.1) (.int .i64 b.1) (.slice Ap k cp) (.slice A2 j cp2) (.int .i64 c.1)
                    refine bodyPost_ret (v := .tuple #[txv a.1 b.1 c.1 Ap k cp A2 j cp2, .int .i64 0]) (by simp [txv, results, Try.results25, go_sem, qc0, qc1, qc2, qc3, qc4]) rfl ?_
                    unfold DecT
                    rw [HE9.out]
                    refine ⟨Ap, k, cp, A2, j, cp2, rfl, Row.of_own (HOC9.out.kept hon (.inr fun e => by have := (HOC9.out.lt _ e).1; omega)), Row.of_own (HOS9.out.kept hon (.inr fun e => by have := (HOS9.out.lt _ e).1; omega)), five_below HB9.out _ _ _ _ _⟩
                  | false =>
                    have HE9 := Lib.hid (decR_none HD.out (decX_bad (by rw [HT9.out]; exact hm)))
                    clear hm
                    go_wp2
                    refine bodyPost_ret (v := .tuple #[txv 0 0 0 none 0 0 none 0 0, .int .i64 3]) (by simp [txv, results, Try.results25, go_sem, qc0, qc1, qc2, qc3, qc4]) rfl ?_
                    exact decT_no HE9.out rfl (five_below HB9.out _ _ _ _ _)))
end Go.Proofs.Ytjicdnknlfpajaa.Txn
