/-
  Contract of the document's FromImage.
-/
import Derived.Test.YtjicdnknlfpajaaImgRead2
import Derived.Test.YtjicdnknlfpajaaImgEncode
import Derived.Test.YtjicdnknlfpajaaTxnRefRead
namespace Go.Proofs.Ytjicdnknlfpajaa.Img
set_option linter.unusedVariables false
set_option maxRecDepth 100000
open Go.RowKit Base FieldMath TxnMath RecMath
open ImgMath
open IdxMath (Rw)
open Idx (rv rv_append rv_one er)
open Go.Proofs.Ytjicdnknlfpajaa.Field (Flds)
open Txn (RR rint_any rtext_any rend_any RInt RText)
set_option linter.ambiguousOpen false
set_option linter.unusedSimpArgs false

abbrev mx : Option Int := some 1099511627776
theorem rdRs_step2 {hk : Option Int} {N k : Nat} {pre : List Rw} {s0 : Rst} {r : List Fld} (h : rdRs hk true N s0 = (pre ++ (rdRs hk true (N - k) (some r)).1, (rdRs hk true (N - k) (some r)).2)) (hlt : k < N) :
    rdRs hk true N s0 = (pre ++ [(rdR hk (some r)).1] ++ (rdRs hk true (N - (k + 1)) (rdR hk (some r)).2).1, (rdRs hk true (N - (k + 1)) (rdR hk (some r)).2).2) := by
  obtain ⟨m, hm⟩ : ∃ m, N - k = m + 1 := ⟨N - k - 1, by omega⟩
  rw [h, hm, show N - (k + 1) = m by omega, rdRs, if_neg (by simp)]
  simp
theorem rdRs_stop {hk : Option Int} {m : Nat} {s : Rst} (h : m = 0 ∨ s = none) : rdRs hk true m s = ([], s) := by
  cases m with
  | zero => rfl
  | succ m =>
    rcases h with h | h
    · cases h
    · subst h; rw [rdRs, if_pos ⟨rfl, rfl⟩]
theorem rdTabs_step2 {hk : Option Int} {N k : Nat} {pre : List (List Rw)} {s0 : Rst} {r : List Fld} (h : rdTabs hk true N s0 = (pre ++ (rdTabs hk true (N - k) (some r)).1, (rdTabs hk true (N - k) (some r)).2)) (hlt : k < N) :
    rdTabs hk true N s0 = (pre ++ [(rdTab hk true (some r)).1] ++ (rdTabs hk true (N - (k + 1)) (rdTab hk true (some r)).2).1, (rdTabs hk true (N - (k + 1)) (rdTab hk true (some r)).2).2) := by
  obtain ⟨m, hm⟩ : ∃ m, N - k = m + 1 := ⟨N - k - 1, by omega⟩
  rw [h, hm, show N - (k + 1) = m by omega, rdTabs, if_neg (by simp)]
  simp
theorem rdTabs_stop {hk : Option Int} {m : Nat} {s : Rst} (h : m = 0 ∨ s = none) : rdTabs hk true m s = ([], s) := by
  cases m with
  | zero => rfl
  | succ m =>
    rcases h with h | h
    · cases h
    · subst h; rw [rdTabs, if_pos ⟨rfl, rfl⟩]
/-- the reader's bad mark, and what it has before it -/
theorem RR.bad {w : World} {B g : Nat} {s : Rst} (h : RR w B g s) : (w.cell? ⟨g, 2, none⟩ = some (.bool true) ∧ s = none) ∨ (∃ r, w.cell? ⟨g, 2, none⟩ = some (.bool false) ∧ s = some r) := by
  obtain ⟨A, n, k, l, a, x, h1, h2, h3, h4, h5⟩ := h
  cases x with
  | true => exact .inl ⟨h1.cell 2, by rw [h5]; rfl⟩
  | false => exact .inr ⟨_, h1.cell 2, by rw [h5, if_neg (by simp)]⟩
theorem RR.past {w w1 : World} {B g base : Nat} {s : Rst} (h : RR w B g s) (hb : Below base w w1) (hg : g < base) : RR w1 B g s := by
  obtain ⟨A, n, c, l, a, x, h1, h2, h3, h4, h5⟩ := h
  exact ⟨A, n, c, l, a, x, h1.below hb hg, h2.below (hb.mono (by omega)), h3, h4, h5⟩
theorem grown_below {w0 w w1 : World} {g : Nat} (h : w0.grownBy w (some g)) (hb : Below w0.heap.size w w1) : w0.grownBy w1 (some g) :=
  ⟨hb.os.trans h.os, hb.tape.trans h.tape, hb.output.trans h.output, Nat.le_trans h.size hb.size, fun i hi hne => (hb.block i hi).trans (h.block i hi hne)⟩
def DTaRel (w4 : World) (g N : Nat) (s0 : Rst) (vl vi : Value) (wr : World) : Prop :=
  ∃ (k : Nat) (pre : List Rw) (s : Rst) (A : Option Addr) (c : Nat), k ≤ N ∧ vi = .int .i64 k ∧ vl = .slice A k c ∧ rdRs mx true N s0 = (pre ++ (rdRs mx true (N - k) s).1, (rdRs mx true (N - k) s).2) ∧
    wr.ownsRow w4.heap.size 97 2 (.slice A k c) k (rv pre) ∧ RR wr g g s ∧ w4.grownBy wr (some g)
def DImRel (w : World) (g N : Nat) (s0 : Rst) (vl vi : Value) (wr : World) : Prop :=
  ∃ (k : Nat) (pre : List (List Rw)) (s : Rst) (A : Option Addr) (c : Nat), k ≤ N ∧ vi = .int .i64 k ∧ vl = .slice A k c ∧ rdTabs mx true N s0 = (pre ++ (rdTabs mx true (N - k) s).1, (rdTabs mx true (N - k) s).2) ∧
    OwnTabs wr (g + 1) A k c pre ∧ RR wr g g s ∧ Below w.heap.size w wr
theorem decI_fields2 {l : List UInt8} {fs : List Fld} (h : ImgMath.fieldsOf l = some fs) : decI l = ImgMath.decX mx mx true fs := by rw [decI_ref, h]
set_option maxHeartbeats 12800000 in
theorem fromimage_any (B : Nat) (A : Option Addr) (n c : Nat) (l : List UInt8) (w : World) (hr : Bytes w B A n c l) (hB : B ≤ w.heap.size) :
    Calls Try.prog 37 #[.slice A n c] w (DecI w (decI l)) := by
  have HR := Lib.hid hr
  have HL := Lib.hid hr.len
  have hle := hr.le
  clear hr
  go_enter Try.func37, Try.ntmps37
  go_wp2_with fail
  refine (Rec.reftake_any B A n c l w HR.out hB).mono ?_
  rintro e w1 ⟨A1, n1, c1, rfl, ho1, hb1⟩
  have HB1 := Lib.hid hb1
  cases htk : tk l with
  | error k =>
    have hk0 := tk_err htk
    have hk1 : ((k : Int) != 0) = true := by simp; omega
    have HD := Lib.hid (decI_bad htk)
    rw [htk] at ho1
    clear ho1 hb1 htk hk0
    rw [show ((err (Except.error k : Except Nat (List UInt8)) : Nat) : Int) = (k : Int) from rfl, show ((tsize (Except.error k) : Nat) : Int) = 0 from rfl]
    go_wp2
    refine bodyPost_ret (v := .tuple #[.int .i64 0, .slice none 0 0, .int .i64 3]) (by simp [results, Try.results37, go_sem]) rfl ?_
    exact decI_no HD.out rfl HB1.out
  | ok p =>
    have hfit := tk_fits htk
    rw [htk] at ho1
    have HO1 : Hid (Bytes w1 w1.heap.size A1 n1 c1 p) := Bytes.of_own ho1
    rw [show ((err (Except.ok p : Except Nat (List UInt8)) : Nat) : Int) = 0 from rfl, show ((tsize (Except.ok p) : Nat) : Int) = ((8 + p.length : Nat) : Int) from rfl]
    obtain ⟨m, hm⟩ : ∃ m, m = 8 + p.length := ⟨_, rfl⟩
    rw [← hm]
    have hmn : m ≤ n := by have := HL.out; omega
    by_cases hlt : m ≠ n
    · have HD := Lib.hid (show decI l = none by unfold decI ImgMath.fieldsOf; rw [htk]; dsimp only; rw [if_neg (by have := HL.out; omega)])
      have l1 : ((m : Int) != (n : Int)) = true := by simp; omega
      clear ho1 hb1 htk hm hfit
      go_wp2
      refine bodyPost_ret (v := .tuple #[.int .i64 0, .slice none 0 0, .int .i64 3]) (by simp [results, Try.results37, go_sem]) rfl ?_
      exact decI_no HD.out rfl HB1.out
    · have hmne : m = n := Classical.not_not.1 hlt
      have HFE := Lib.hid (show ∀ q, dec p = q → ImgMath.fieldsOf l = (match q with | .error _ => none | .ok fs => some fs) from fun q hq => by unfold ImgMath.fieldsOf; rw [htk]; dsimp only; rw [if_pos (by have := HL.out; omega), hq]; cases q <;> rfl)
      subst hmne
      clear ho1 hb1 htk hm hfit hlt hmn
      go_wp2_with fail
      refine (Field.refdecode_any w1.heap.size A1 n1 c1 p w1 HO1.out (Nat.le_refl _)).mono ?_
      rintro e w2 ⟨A2, n2, c2, rfl, hf2, hb2⟩
      have HB2 := Lib.hid (held_two HB1.out hb2)
      cases hd : dec p with
      | error k =>
        have hk0 := Txn.dec_why hd
        have hk1 : ((k : Int) != 0) = true := by simp; omega
        have HD := Lib.hid (show decI l = none by unfold decI; rw [HFE.out _ hd])
        rw [hd] at hf2
        clear hd hb2 hk0 hf2
        rw [show ((err (Except.error k : Except Nat (List Fld)) : Nat) : Int) = (k : Int) from rfl]
        go_wp2
        refine bodyPost_ret (v := .tuple #[.int .i64 0, .slice none 0 0, .int .i64 3]) (by simp [results, Try.results37, go_sem]) rfl ?_
        exact decI_no HD.out rfl HB2.out
      | ok fs =>
        have HDF := Lib.hid (decI_fields2 (HFE.out _ hd))
        rw [hd] at hf2
        have HF2 : Hid (Flds w2 w2.heap.size A2 n2 c2 fs) := hf2
        clear hd hb2 hf2 HFE
        rw [show ((err (Except.ok fs : Except Nat (List Fld)) : Nat) : Int) = 0 from rfl]
        obtain ⟨a, ha⟩ : ∃ a, a = rdN mx (some fs) := ⟨_, rfl⟩
        obtain ⟨nn, hn⟩ : ∃ nn, nn = rdN (some 8) a.2 := ⟨_, rfl⟩
        have hn2 := rdN_range (show (0 : Int) ≤ 8 by omega) a.2
        rw [← hn] at hn2
        obtain ⟨N, hN⟩ : ∃ N : Nat, nn.1 = N := ⟨nn.1.toNat, by omega⟩
        rw [hN] at hn2
        obtain ⟨d, hd⟩ : ∃ d, d = rdTabs mx true N nn.2 := ⟨_, rfl⟩
        have HE : Hid (rdI mx mx true (some fs) = (⟨a.1, d.1⟩, d.2)) := by
          show _ = _
          rw [hd, ← Int.toNat_natCast N, ← hN, hn, ha]
          rfl
        have HA := Lib.hid ha
        have HNN := Lib.hid hn
        have HN := Lib.hid hN
        have HDD := Lib.hid hd
        clear ha hn hN hd
        have HW2 : Hid (RR (w2.alloc (.cells #[.slice A2 n2 c2, .int .i64 0, .bool false] 91)) w2.heap.size w2.heap.size (some fs)) := ⟨A2, n2, c2, fs, 0, false, Blk.new _ _ _, HF2.out.alloc (Nat.le_refl _) _, Nat.zero_le _, Nat.le_refl _, rfl⟩
        go_wp2_with fail
        refine (rint_any w2.heap.size w2.heap.size (some fs) 1099511627776 _ HW2.out).mono ?_
        rintro e3 w3 ⟨he3, hr3, hg3⟩
        rw [show ((1099511627776 : Nat) : Int) = 1099511627776 from rfl, ← HA.out] at he3 hr3
        subst he3
        have hgw : w.heap.size ≤ w2.heap.size := HB2.out.size
        have HB3 : Hid (Below w.heap.size w w3) := (HB2.out.alloc HB2.out.size (.cells #[.slice A2 n2 c2, .int .i64 0, .bool false] 91)).grown hg3 (by simp; omega) (fun x hx => by injection hx; omega)
        have HR3 := Lib.hid hr3
        generalize hgg : w2.heap.size = g at hgw HR3 ⊢
        clear hr3 hg3 HW2 HF2 hgg
        go_wp2_with fail
        refine (rint_any g g a.2 8 _ HR3.out).mono ?_
        rintro e4 w4 ⟨he4, hr4, hg4⟩
        rw [show ((8 : Nat) : Int) = 8 from rfl, ← HNN.out, HN.out] at he4
        rw [show ((8 : Nat) : Int) = 8 from rfl, ← HNN.out] at hr4
        subst he4
        have HR4 := Lib.hid hr4
        have HB4 := Lib.hid (HB3.out.grown hg4 HB3.out.size (fun x hx => by injection hx; omega))
        clear hr4 hg4 HR3 HB3
        go_wp2
        go_loopw [12, 13, 14, 15, 16, 17] (fun vl vi _ _ _ _ wr => DImRel w g N nn.2 vl vi wr) (fun _ vi _ _ _ _ _ => N - (intOf vi).toNat)
        case atStart => exact ⟨0, [], nn.2, none, 0, by omega, rfl, rfl, rfl, OwnTabs.nil_ _ _, HR4.out, HB4.out⟩
        case round =>
          obtain ⟨k, pre, s1, Ap, cp, hk, rfl, rfl, hrd, hown, hst, hbel⟩ := hrel
          have HRD := Lib.hid hrd
          have HO := Lib.hid hown
          have HT := Lib.hid hst
          have HB := Lib.hid hbel
          have hbad := RR.bad hst
          have hgl := hst.lt
          have hbz := hbel.size
          clear hrd hown hst hbel HR4 HB4
          by_cases hgo : k < N ∧ s1 ≠ none
          · obtain ⟨hlk, hs1⟩ := hgo
            obtain ⟨r, kb, rfl⟩ : ∃ r, wr.cell? ⟨g, 2, none⟩ = some (.bool false) ∧ s1 = some r := by
              rcases hbad with ⟨_, h2⟩ | h2
              · exact absurd h2 hs1
              · exact h2
            clear hbad hs1
            have HST := Lib.hid (rdTabs_step2 HRD.out hlk)
            have l1 : (k : Int) < (N : Int) := by omega
            obtain ⟨mm, hmm⟩ : ∃ mm, mm = rdN (some 1000) (some r) := ⟨_, rfl⟩
            have hmm2 := rdN_range (show (0 : Int) ≤ 1000 by omega) (some r)
            rw [← hmm] at hmm2
            obtain ⟨M, hM⟩ : ∃ M : Nat, mm.1 = M := ⟨mm.1.toNat, by omega⟩
            rw [hM] at hmm2
            obtain ⟨dd, hdd⟩ : ∃ dd, dd = rdRs mx true M mm.2 := ⟨_, rfl⟩
            have HTB : Hid (rdTab mx true (some r) = dd) := by
              show _ = _
              rw [hdd, ← Int.toNat_natCast M, ← hM, hmm]
              rfl
            have HMM := Lib.hid hmm
            have HM := Lib.hid hM
            have HD2 := Lib.hid hdd
            clear hmm hM hdd
            go_wp2_with fail
            refine (rint_any g g (some r) 1000 _ HT.out).mono ?_
            rintro e5 w5 ⟨he5, hr5, hg5⟩
            rw [show ((1000 : Nat) : Int) = 1000 from rfl, ← HMM.out, HM.out] at he5
            rw [show ((1000 : Nat) : Int) = 1000 from rfl, ← HMM.out] at hr5
            subst he5
            have HO5 := Lib.hid (HO.out.off (by omega) hg5)
            have HB5 := Lib.hid (HB.out.grown hg5 HB.out.size (fun x hx => by injection hx; omega))
            have HR5 := Lib.hid hr5
            have hgl5 := hr5.lt
            clear hr5 hg5 kb HT HB HO
            go_wp2
            go_loopw [15, 16, 17] (fun vl vi _ wr => DTaRel w5 g M mm.2 vl vi wr) (fun _ vi _ _ => M - (intOf vi).toNat)
            case atStart => exact ⟨0, [], mm.2, none, 0, by omega, rfl, rfl, rfl, World.ownsRow_nil _ _ _ _, HR5.out, World.grownBy.refl _ _⟩
            case round =>
              obtain ⟨j, pre2, s2, Aq, cq, hj, rfl, rfl, hrd2, hown2, hst2, hgr2⟩ := hrel
              have HRD2 := Lib.hid hrd2
              have HO2 := Lib.hid hown2
              have HT2 := Lib.hid hst2
              have HG2 := Lib.hid hgr2
              have hbad2 := RR.bad hst2
              have hgz := hgr2.size
              clear hrd2 hown2 hst2 hgr2
              by_cases hgo2 : j < M ∧ s2 ≠ none
              · obtain ⟨hlj, hs2⟩ := hgo2
                obtain ⟨r2, kb2, rfl⟩ : ∃ r2, wr.cell? ⟨g, 2, none⟩ = some (.bool false) ∧ s2 = some r2 := by
                  rcases hbad2 with ⟨_, h2⟩ | h2
                  · exact absurd h2 hs2
                  · exact h2
                clear hbad2 hs2
                have HST2 := Lib.hid (rdRs_step2 HRD2.out hlj)
                have l2 : (j : Int) < (M : Int) := by omega
                obtain ⟨ka, hka⟩ : ∃ ka, ka = rdN mx (some r2) := ⟨_, rfl⟩
                obtain ⟨kt, hkt⟩ : ∃ kt, kt = rdT ka.2 := ⟨_, rfl⟩
                have HRW : Hid (rdR mx (some r2) = (⟨ka.1, kt.1⟩, kt.2)) := by
                  show _ = _
                  rw [hkt, hka]
                  rfl
                have HKA := Lib.hid hka
                have HKT := Lib.hid hkt
                clear hka hkt
                go_wp2_with fail
                refine (rint_any g g (some r2) 1099511627776 _ HT2.out).mono ?_
                rintro e6 w6 ⟨he6, hr6, hg6⟩
                rw [show ((1099511627776 : Nat) : Int) = 1099511627776 from rfl, ← HKA.out] at he6 hr6
                subst he6
                have HO6 := Lib.hid (own_off HO2.out hgl5 hg6)
                have HG6 := Lib.hid (only_trans HG2.out hg6 (.inl rfl))
                have hz6 := HG6.out.size
                have HR6 := Lib.hid (hr6.alloc (.cells #[.int .i64 ka.1, .string ⟨#[]⟩] 97))
                have hgl6 := hr6.lt
                have HX6 := Lib.hid (Blk.new w6 97 #[.int .i64 ka.1, .string ⟨#[]⟩])
                have HO6' := Lib.hid (own_keep HO6.out ((Below.refl _ _).alloc (Nat.le_refl _) (.cells #[.int .i64 ka.1, .string ⟨#[]⟩] 97)))
                have HG6' := Lib.hid (only_alloc HG6.out (.cells #[.int .i64 ka.1, .string ⟨#[]⟩] 97))
                have HOB : Hid (∀ x, (Value.slice Aq j cq).ownBlock = some x → x < w6.heap.size) := fun x hx => by
                  rcases HO6.out.2 with ⟨hv, _⟩ | ⟨gx, cap, cur, hv, _, hgx, _⟩
                  · rw [hv] at hx; cases hx
                  · rw [hv] at hx
                    obtain rfl : gx = x := by simp only [Value.ownBlock] at hx; injection hx
                    exact Blk.lt (w := w6) hgx
                clear hr6 hg6 kb2 HO6 HG6 HT2 HG2 HO2
                go_wp2_with fail
                refine (rtext_any g g ka.2 _ HR6.out).mono ?_
                rintro e7 w7 ⟨he7, hr7, hg7⟩
                rw [← HKT.out] at he7 hr7
                subst he7
                have hx7 : Blk w7 w6.heap.size 97 #[.int .i64 ka.1, .string ⟨#[]⟩] := Txn.Blk.kept HX6.out hg7 (by omega)
                have HO7 := Lib.hid (own_off HO6'.out hgl5 hg7)
                have HG7 := Lib.hid (only_trans HG6'.out hg7 (.inl rfl))
                have x0 : w7.cell? ⟨w6.heap.size, 0, none⟩ = some (.int .i64 ka.1) := hx7.cell 0
                have x1 : w7.cell? ⟨w6.heap.size, 1, none⟩ = some (.string ⟨#[]⟩) := hx7.cell 1
                have xf := hx7.frozen 1
                have hz7 : w6.heap.size < w7.heap.size := hx7.lt
                have HX7 := Lib.hid (hx7.set_ 1 (.string kt.1))
                have HR8 := Lib.hid (RR.far hr7 (p := ⟨w6.heap.size, 1, none⟩) (by exact hgl6) (.string kt.1))
                have HO8 : Hid ((w7.setCell ⟨w6.heap.size, 1, none⟩ (.string kt.1)).ownsRow w5.heap.size 97 2 (.slice Aq j cq) j (rv pre2)) :=
                  HO7.out.kept (only_setCell (World.grownBy.refl _ (some w6.heap.size)) (.inl rfl) _) (.inr fun e => by have := HOB.out _ e; omega)
                have HG8 := Lib.hid (only_setCell HG7.out (p := ⟨w6.heap.size, 1, none⟩) (.inr (by show w5.heap.size ≤ w6.heap.size; omega)) (.string kt.1))
                clear hr7 hg7 hx7 HR6 HX6 HO6' HG6' HO7 HG7 HOB
                have c0 : (w7.setCell ⟨w6.heap.size, 1, none⟩ (.string kt.1)).cell? ⟨w6.heap.size, 0, none⟩ = some (.int .i64 ka.1) := HX7.out.cell 0
                have c1' : (w7.setCell ⟨w6.heap.size, 1, none⟩ (.string kt.1)).cell? ⟨w6.heap.size, 1, none⟩ = some (.string kt.1) := HX7.out.cell 1
                obtain ⟨w8, hw8⟩ : ∃ w8, w8 = w7.setCell ⟨w6.heap.size, 1, none⟩ (.string kt.1) := ⟨_, rfl⟩
                go_upto_region 21 with fail
                rw [← hw8] at c0 c1' HX7 HR8 HO8 HG8 ⊢
                clear hw8 x0 x1 xf
                have hgz8 := HG8.out.size
                go_wp2_with (first
                  | (at_builtin
                     refine wpList_append_row rfl (.tmp 78) (.tmp 80) rfl er w5.heap.size (.slice Aq j cq) j (rv pre2) rfl (own_keep HO8.out ((Below.refl _ _).alloc (Nat.le_refl _) _)) (w8.heap.size + 1) (some ⟨w8.heap.size, 0, none⟩) 1 1 (rv [⟨ka.1, kt.1⟩]) rfl (one_row w8 ⟨ka.1, kt.1⟩ rfl) (rv_one _) (by omega) (by omega) (by simp; omega) ?_
                     intro A9 c9 w9 hown9 _ hb9
                     rw [← rv_append] at hown9
                     have HO9 := Lib.hid hown9
                     have HR9 := Lib.hid (RR.past (HR8.out.alloc (.cells #[.int .i64 ka.1, .string kt.1] 97)) hb9 hgl5)
                     have HG9 := Lib.hid (grown_below (only_alloc HG8.out (.cells #[.int .i64 ka.1, .string kt.1] 97)) hb9)
                     clear hown9 hb9)
                  | fail)
                rw [HRW.out] at HST2
                go_roundw
                case rel => exact ⟨j + 1, pre2 ++ [⟨ka.1, kt.1⟩], kt.2, A9, c9, by omega, by go_num, rfl, HST2.out, HO9.out, HR9.out, HG9.out⟩
                case measure => simp [intOf]; omega
              · have HD1 : Hid (dd = (pre2, s2)) := by
                  show dd = _
                  rw [HD2.out, HRD2.out, rdRs_stop (by
                    by_cases h : j < M
                    · exact .inr (Classical.byContradiction fun e => hgo2 ⟨h, e⟩)
                    · exact .inl (by omega))]
                  simp
                have hw3 : (j < M ∧ wr.cell? ⟨g, 2, none⟩ = some (.bool true)) ∨ (¬ j < M ∧ True) := by
                  by_cases h : j < M
                  · refine .inl ⟨h, ?_⟩
                    rcases hbad2 with ⟨h1, _⟩ | ⟨r2, _, h2⟩
                    · exact h1
                    · exact absurd (by rw [h2]; simp) (fun e => hgo2 ⟨h, e⟩)
                  · exact .inr ⟨h, trivial⟩
                have HOT := Lib.hid (HO5.out.off (by omega) HG2.out)
                have HLT := Lib.hid (own_mono (base' := g + 1) HO2.out (by omega))
                have HBT := Lib.hid (HB5.out.grown HG2.out HB5.out.size (fun x hx => by injection hx; omega))
                have hbz2 := HBT.out.size
                have hgl2 := HT2.out.lt
                clear hbad2 hgo2
                have HOTk := Lib.hid (HOT.out.keep ((Below.refl _ _).alloc (Nat.le_refl _) (.cells #[.slice Aq j cq] 95)))
                have HLTk := Lib.hid (own_keep HLT.out ((Below.refl _ _).alloc (Nat.le_refl _) (.cells #[.slice Aq j cq] 95)))
                obtain ⟨vs, hv1, hv2, hv3⟩ := HOTk.out
                have HV1 := Lib.hid hv1
                have HV2 := Lib.hid hv2
                have HV3 := Lib.hid hv3
                clear hv1 hv2 hv3
                rw [HTB.out, HD1.out] at HST
                rcases hw3 with ⟨hlj, kb2⟩ | ⟨hlj, kb2⟩
                all_goals (
                  go_wp2_with (first
                    | (at_builtin
                       refine wpList_append_row rfl (.tmp 82) (.tmp 84) rfl etab (g + 1) (.slice Ap k cp) k vs rfl HV1.out (wr.heap.size + 1) (some ⟨wr.heap.size, 0, none⟩) 1 1 [.slice Aq j cq] rfl (one_slice wr Aq j cq rfl) (fun u hu => by rw [List.mem_singleton] at hu; subst hu; rfl) (by omega) (by omega) (by simp; omega) ?_
                       intro A9 c9 w9 hown9 hg9 hb9
                       have HO9 := Lib.hid (OwnTabs.snoc HV1.out HV2.out HV3.out HLTk.out hown9 hg9.1)
                       have HR9 := Lib.hid (RR.past (HT2.out.alloc (.cells #[.slice Aq j cq] 95)) hb9 (Nat.lt_succ_self g))
                       have HB9 := Lib.hid ((HBT.out.alloc HBT.out.size (.cells #[.slice Aq j cq] 95)).trans (hb9.mono (by omega)))
                       clear hown9 hg9 hb9)
                    | fail)
                  go_roundw
                  case rel => exact ⟨k + 1, pre ++ [pre2], s2, A9, c9, by omega, by go_num, rfl, HST.out, HO9.out, HR9.out, HB9.out⟩
                  case measure => simp [intOf]; omega)
          · have HD1 : Hid (d = (pre, s1)) := by
              show d = _
              rw [HDD.out, HRD.out, rdTabs_stop (by
                by_cases h : k < N
                · exact .inr (Classical.byContradiction fun e => hgo ⟨h, e⟩)
                · exact .inl (by omega))]
              simp
            have hw3 : (k < N ∧ wr.cell? ⟨g, 2, none⟩ = some (.bool true)) ∨ (¬ k < N ∧ True) := by
              by_cases h : k < N
              · refine .inl ⟨h, ?_⟩
                rcases hbad with ⟨h1, _⟩ | ⟨r2, _, h2⟩
                · exact h1
                · exact absurd (by rw [h2]; simp) (fun e => hgo ⟨h, e⟩)
              · exact .inr ⟨h, trivial⟩
            have HQ : Hid (rdI mx mx true (some fs) = (⟨a.1, pre⟩, s1)) := by show _ = _; rw [HE.out, HD1.out]
            clear hbad hgo HRD HD1
            rcases hw3 with ⟨hlk, kb⟩ | ⟨hlk, kb⟩
            all_goals (
              cases hend : Txn.isEnd s1 with
              | false =>
                have HEND := Lib.hid hend
                have HD := Lib.hid (show decI l = none by rw [HDF.out]; unfold ImgMath.decX; rw [HQ.out, ← isEnd_ends, hend]; rfl)
                clear hend
                go_wp2_with fail
                refine (rend_any g g s1 _ HT.out).mono ?_
                rintro e8 w8 ⟨rfl, q8, rfl⟩
                rw [HEND.out]
                go_wp2
                refine bodyPost_ret (v := .tuple #[.int .i64 0, .slice none 0 0, .int .i64 3]) (by simp [results, Try.results37, go_sem]) rfl ?_
                exact decI_no HD.out rfl (below_drewN HB.out _)
              | true =>
                have HEND := Lib.hid hend
                have HDE := Lib.hid (show decI l = if (Im.mk a.1 pre).may = true then some ⟨a.1, pre⟩ else none by rw [HDF.out]; unfold ImgMath.decX; rw [HQ.out, ← isEnd_ends, hend]; cases (Im.mk a.1 pre).may <;> rfl)
                clear hend
                go_wp2_with fail
                refine (rend_any g g s1 _ HT.out).mono ?_
                rintro e8 w8 ⟨rfl, q8, rfl⟩
                rw [HEND.out]
                go_wp2_with fail
                refine (refmay_any (wr.drewN q8).heap.size a.1 Ap k cp pre _ (show Tabs (wr.drewN q8) wr.heap.size Ap k cp pre from (HO.out.keep (below_drewN (Below.refl _ _) q8)).tabs)).mono ?_
                rintro e9 w9 ⟨rfl, q9, rfl⟩
                cases hm : (Im.mk a.1 pre).may with
                | true =>
                  have HD := Lib.hid (show decI l = some ⟨a.1, pre⟩ by rw [HDE.out, if_pos hm])
                  clear hm
                  go_wp2
                  refine bodyPost_ret (v := .tuple #[.int .i64 a.1, .slice Ap k cp, .int .i64 0]) (by simp [results, Try.results37, go_sem]) rfl ?_
                  rw [HD.out]
                  exact ⟨Ap, k, cp, rfl, (HO.out.keep (below_drewN (Below.refl _ _) _)).mono (by omega), below_drewN HB.out _⟩
                | false =>
                  have HD := Lib.hid (show decI l = none by rw [HDE.out, if_neg (by rw [hm]; simp)])
                  clear hm
                  go_wp2
                  refine bodyPost_ret (v := .tuple #[.int .i64 0, .slice none 0 0, .int .i64 3]) (by simp [results, Try.results37, go_sem]) rfl ?_
                  exact decI_no HD.out rfl (below_drewN HB.out _))
end Go.Proofs.Ytjicdnknlfpajaa.Img
