/-
  ReqPlays: the walk of the law.
-/
import Derived.Test.YtohnjhifnankeaaReqLaw
import Derived.Test.YtohnjhifnankeaaReqOwn
namespace Go.Proofs.Ytohnjhifnankeaa.Req
set_option linter.unusedVariables false
set_option maxRecDepth 100000
open Go.RowKit Base ReqMath ReqOpMath
open Go.Proofs.Ytohnjhifnankeaa.Field (modZ bigZ modZ_lt bigZ_lt mod_any playbig_any)
open Go.Sort (grow)
set_option linter.ambiguousOpen false
set_option linter.unusedSimpArgs false

/-- the block of what Own laid -/
theorem own_blk {w : World} {base n c : Nat} {A : Option Addr} {xs : List Value} (h : w.ownsRow base 29 7 (.slice A (n + 3) c) (n + 3) xs) : ∃ g cur, A = some ⟨g, 0, none⟩ ∧ Blk w g 29 cur ∧ (n + 3) * 7 ≤ cur.size ∧ base ≤ g := by
  rcases h.2 with ⟨hv, _⟩ | ⟨g, cap, cur, hv, hb, hg, h1, h2, h3, h4⟩
  · simp only [Value.slice.injEq] at hv
    omega
  · simp only [Value.slice.injEq] at hv
    obtain ⟨rfl, _, rfl⟩ := hv
    exact ⟨g, cur, rfl, hg, by omega, hb⟩
theorem own_front {w : World} {base n c : Nat} {A : Option Addr} {l : List Rq} {f : Rq} (h : w.ownsRow base 29 7 (.slice A (n + 3) c) (n + 3) (qv (l ++ [f, f, f]))) (hl : l.length = n) (hn : n + 3 ≤ 9223372036854775807) : Qs w w.heap.size A n (n + 3) l := by
  have h1 : Qs w w.heap.size A (n + 3) c (l ++ [f, f, f]) := Qs.of_own h
  have h2 := h1.front (k := n) (by omega)
  rw [List.take_left' hl] at h2
  exact Row.recap h2 (by omega) hn
def PlRel (w : World) (n0 : Nat) (vl vi : Value) (wr : World) : Prop := ∃ (i : Nat) (A : Option Addr) (n c : Nat) (l : List Rq), i ≤ n0 ∧ vi = .int .i64 i ∧ vl = .slice A n c ∧ may l = true ∧ l.length = n ∧ wr.ownsRow w.heap.size 29 7 (.slice A n c) n (qv l) ∧ Below w.heap.size w wr
set_option maxHeartbeats 12800000 in
theorem plays_walk (A0 : Option Addr) (n0 c0 : Nat) (os : List Ro) (w : World) (h : Ros w w.heap.size A0 n0 c0 os) :
    Calls Try.prog 3 #[.slice A0 n0 c0] w fun e w' => e = .returned (.bool true) ∧ Below w.heap.size w w' := by
  have HOP := Lib.hid h
  have hle0 := h.le
  clear h
  go_enter Try.func3, Try.ntmps3
  go_wp2
  go_loopw [3, 4] (fun vl vi wr => PlRel w n0 vl vi wr) (fun _ vi _ => n0 - (intOf vi).toNat)
  case atStart => exact ⟨0, none, 0, 0, [], by omega, rfl, rfl, may_nil, rfl, World.ownsRow_nil _ _ _ _, Below.refl _ _⟩
  case round =>
    obtain ⟨i, A, n, c, l, hi, rfl, rfl, hmay, hln, hown, hbel⟩ := hrel
    have HL := Lib.hid hown
    have HB := Lib.hid hbel
    have HMAY := Lib.hid hmay
    have HLN := Lib.hid hln
    have hn64 : n ≤ 64 := by rw [← hln]; exact may_len hmay
    have hnc := (Row.of_own hown).le
    clear hown hbel hmay hln
    by_cases hgo : i < n0 ∧ i < 60
    · obtain ⟨hin, hi60⟩ := hgo
      have l1 : (i : Int) < (n0 : Int) := by omega
      have l2 : (i : Int) < 60 := by omega
      obtain ⟨b, off, o, rfl, hb, q0, q1, q2, q3, q4, q5, q6, hget, _⟩ := (HOP.out.below HB.out).at_ hin
      have HOG := Lib.hid hget
      obtain ⟨o0, o1, o2, o3, o4, o5, o6⟩ := o
      dsimp only at q0 q1 q2 q3 q4 q5 q6
      have hs := small_any wr.heap.size A n c l ⟨o0, o1, o2, o3, o4, o5, o6⟩ wr (Qs.of_own HL.out) (Nat.le_refl _) HMAY.out
      obtain ⟨res, hres⟩ : ∃ res, res = ReqOpMath.step l ⟨o0, o1, o2, o3, o4, o5, o6⟩ := ⟨_, rfl⟩
      have HRES := Lib.hid hres
      have hst : res = if decide (modZ o0 7 < 3) then accept l (small l ⟨o0, o1, o2, o3, o4, o5, o6⟩).tbl (small l ⟨o0, o1, o2, o3, o4, o5, o6⟩).wt (small l ⟨o0, o1, o2, o3, o4, o5, o6⟩).at_ else chunk l (small l ⟨o0, o1, o2, o3, o4, o5, o6⟩).id (small l ⟨o0, o1, o2, o3, o4, o5, o6⟩).cur (small l ⟨o0, o1, o2, o3, o4, o5, o6⟩).done := hres
      clear hres hget
      generalize small l ⟨o0, o1, o2, o3, o4, o5, o6⟩ = s at hs hst
      obtain ⟨s0, s1, s2, s3, s4, s5, s6⟩ := s
      dsimp only at hst
      unfold rval at hs
      dsimp only at hs
      have C0 := fun w => mod_any o0 7 w (by omega) (by omega)
      have b7 := modZ_lt o0 (n := 7) (by omega)
      generalize modZ o0 7 = m0 at C0 b7 hst
      have HS := Lib.hid hs
      have HST := Lib.hid hst
      have HC0 := Lib.hid C0
      clear hs hst C0
      go_wp2_with fail
      refine HS.out.mono ?_
      rintro e w2 ⟨rfl, hb2⟩
      have hx := Blk.new w2 25 #[.int .i64 s0, .int .i64 s1, .int .i64 s2, .int .i64 s3, .int .i64 s4, .int .i64 s5, .bool s6]
      have hbx : Below w2.heap.size w2 (w2.alloc (.cells #[.int .i64 s0, .int .i64 s1, .int .i64 s2, .int .i64 s3, .int .i64 s4, .int .i64 s5, .bool s6] 25)) := (Below.refl _ _).alloc (Nat.le_refl _) _
      have HL2 := Lib.hid (own_keep (own_keep HL.out hb2) hbx)
      have HB2 := Lib.hid (held_two (held_two HB.out hb2) hbx)
      have HX2 := Lib.hid hx
      clear hb2 hx hbx q0 q1 q2 q3 q4 q5 q6
      go_wp2_with fail
      obtain ⟨W, hW⟩ : ∃ W, W = w2.alloc (.cells #[.int .i64 s0, .int .i64 s1, .int .i64 s2, .int .i64 s3, .int .i64 s4, .int .i64 s5, .bool s6] 25) := ⟨_, rfl⟩
      obtain ⟨X, hX⟩ : ∃ X, X = w2.heap.size := ⟨_, rfl⟩
      rw [← hW] at HL2 HB2 HX2 ⊢
      rw [← hX] at HX2 ⊢
      clear hW hX
      refine (qown_any W.heap.size A n c l ⟨9, 0, 0, 0, 0, 0, false⟩ W (Qs.of_own HL2.out) (Nat.le_refl _) (by omega)).mono ?_
      rintro e w3 ⟨AI, cI, rfl, hoI, hb3⟩
      have HI3 := Lib.hid (own_mono hoI HB2.out.size)
      have HGI : Hid (∀ g, AI = some ⟨g, 0, none⟩ → g < w3.heap.size) := fun g hg => (hoI.lt g (by rw [hg]; rfl)).2
      have HL3 := Lib.hid (own_keep HL2.out hb3)
      have HB3 := Lib.hid (held_two HB2.out hb3)
      have hx3 := HX2.out.below hb3 HX2.out.lt
      have HX3 := Lib.hid hx3
      have HOP3 := Lib.hid (HOP.out.below HB3.out)
      clear hoI hb3 hx3
      obtain ⟨b', off', f', e', hb', d0, d1, d2, d3, d4, d5, d6, hg', _⟩ := HOP3.out.at_ hin
      injection e' with e'
      injection e' with e1 e2
      subst e1 e2
      obtain rfl : (⟨o0, o1, o2, o3, o4, o5, o6⟩ : Ro) = f' := by have h := HOG.out; rw [hg'] at h; injection h with h; exact h.symm
      dsimp only at d0 d1 d2 d3 d4 d5 d6
      clear hg'
      go_wp2_with fail
      refine (HC0.out _).mono ?_
      rintro e wz ⟨rfl, rfl⟩
      have x0 := HX3.out.cell 0
      have x1 := HX3.out.cell 1
      have x2 := HX3.out.cell 2
      have x3 := HX3.out.cell 3
      have x4 := HX3.out.cell 4
      have x5 := HX3.out.cell 5
      have x6 := HX3.out.cell 6
      clear d0 d1 d2 d3 d4 d5 d6 HOP3
      have HF3 := Lib.hid (own_front HI3.out HLN.out (by omega))
      by_cases h3 : m0 < 3
      · have l3 : decide ((m0 : Int) < 3) = true := by first | (simp; done) | (simp; omega)
        have l4 : (m0 : Int) < 3 := by omega
        rw [show decide (m0 < 3) = true by simpa using h3, if_pos rfl] at HST
        go_wp2_with fail
        refine (accept_any w3.heap.size AI n (n + 3) l s1 s2 s4 w3 HF3.out (Nat.le_refl _) (by omega)).mono ?_
        intro e w4 h4
        rw [← HST.out] at h4
        clear x0 x1 x2 x3 x4 x5 x6
        obtain ⟨A4, c4, rfl, ho4, hb4⟩ := h4.at_
        have HANS := Lib.hid h4
        have HB4 := Lib.hid (held_two HB3.out hb4)
        have HO4 := Lib.hid ho4
        have HL4 := Lib.hid (own_keep HL3.out hb4)
        have HI4 := Lib.hid (own_keep HI3.out hb4)
        have HOP4 := Lib.hid (HOP.out.below HB4.out)
        have hz4 := hb4.size
        have hx4 := HX3.out.below hb4 HX3.out.lt
        have HX4 := Lib.hid hx4
        clear h4 ho4 hb4 hx4
        obtain ⟨b', off', f', e', hb', d0, d1, d2, d3, d4, d5, d6, hg', _⟩ := HOP4.out.at_ hin
        injection e' with e'
        injection e' with e1 e2
        subst e1 e2
        obtain rfl : (⟨o0, o1, o2, o3, o4, o5, o6⟩ : Ro) = f' := by have h := HOG.out; rw [hg'] at h; injection h with h; exact h.symm
        dsimp only at d0 d1 d2 d3 d4 d5 d6
        clear hg'
        have hs1 : (res.getD []).length = (res.getD []).length := rfl
        go_wp2_with fail
        refine (do_any w4.heap.size A n c l ⟨o0, o1, o2, o3, o4, o5, o6⟩ w4 (Qs.of_own HL4.out) (Nat.le_refl _) HMAY.out).mono ?_
        intro e w5 h5
        rw [← HRES.out] at h5
        obtain ⟨A5, c5, rfl, ho5, hb5⟩ := h5.at_
        have HB5 := Lib.hid (held_two HB4.out hb5)
        have HO5 := Lib.hid ho5
        have HM5 := Lib.hid (own_keep HO4.out hb5)
        have HL5 := Lib.hid (own_keep HL4.out hb5)
        have HI5 := Lib.hid (own_keep HI4.out hb5)
        have hz5 := hb5.size
        clear h5 ho5 hb5 d0 d1 d2 d3 d4 d5 d6
        obtain ⟨mm, hmm⟩ : ∃ mm, mm = res.getD [] := ⟨_, rfl⟩
        obtain ⟨bo, hbo⟩ : ∃ bo, bo = res.isSome := ⟨_, rfl⟩
        rw [← hmm] at HO5 HM5 ⊢
        rw [← hbo]
        obtain ⟨q, hq⟩ : ∃ q, q = mm.length := ⟨_, rfl⟩
        rw [← hq] at HO5 HM5 ⊢
        have HQ := Lib.hid hq
        have hbb : (bo != bo) = false := by simp
        have hbb2 : (bo == bo) = true := by simp
        have HBO := Lib.hid hbo
        have HMM := Lib.hid hmm
        clear hq hmm hbo hs1
        go_wp2_with fail
        refine (qplain_same w5.heap.size w5.heap.size A4 A5 q q c4 c5 mm w5 (Qs.of_own HM5.out) (Qs.of_own HO5.out) (Nat.le_refl _) (Nat.le_refl _)).mono ?_
        rintro e w6 ⟨rfl, hb6⟩
        have HB6 := Lib.hid (held_two HB5.out hb6)
        have HM6 := Lib.hid (own_keep HM5.out hb6)
        have HL6 := Lib.hid (own_keep HL5.out hb6)
        have HI6 := Lib.hid (own_keep HI5.out hb6)
        have hz6 := hb6.size
        clear hb6 HO5 HM5 HL5 HI5
        go_wp2_with fail
        refine (qkept_same w6.heap.size w6.heap.size _ A n c l ⟨9, 0, 0, 0, 0, 0, false⟩ w6 HLN.out (Row.recap (Qs.of_own HI6.out) (Nat.le_refl _) (by omega)) (Qs.of_own HL6.out) (Nat.le_refl _) (Nat.le_refl _) (by omega)).mono ?_
        rintro e w7 ⟨rfl, hb7⟩
        have HB7 := Lib.hid (held_two HB6.out hb7)
        have HM7 := Lib.hid (own_keep HM6.out hb7)
        have HL7 := Lib.hid (own_keep HL6.out hb7)
        have HI7 := Lib.hid (own_keep HI6.out hb7)
        have hz7 := hb7.size
        clear hb7 HM6 HL6 HI6
        go_wp2_with fail
        refine (Open_any w7.heap.size _ n (n + 3) l w7 (own_front HI7.out HLN.out (by omega)) (Nat.le_refl _) (by omega)).mono ?_
        rintro e w8 ⟨A8, c8, rfl, ho8, hb8⟩
        have HB8 := Lib.hid (held_two HB7.out hb8)
        have HM8 := Lib.hid (own_keep HM7.out hb8)
        have HL8 := Lib.hid (own_keep HL7.out hb8)
        have HI8 := Lib.hid (own_keep HI7.out hb8)
        have HO8 := Lib.hid ho8
        have hz8 := hb8.size
        clear ho8 hb8 HM7 HL7 HI7
        go_wp2_with fail
        refine (refopen_any w8.heap.size A n c l w8 (Qs.of_own HL8.out) (Nat.le_refl _) (by omega)).mono ?_
        rintro e w9 ⟨A9, c9, rfl, ho9, hb9⟩
        have HB9 := Lib.hid (held_two HB8.out hb9)
        have HM9 := Lib.hid (own_keep HM8.out hb9)
        have HL9 := Lib.hid (own_keep HL8.out hb9)
        have HI9 := Lib.hid (own_keep HI8.out hb9)
        have HO9 := Lib.hid ho9
        have HO9' := Lib.hid (own_keep HO8.out hb9)
        have hz9 := hb9.size
        clear ho9 hb9 HM8 HL8 HI8 HO8
        go_wp2_with fail
        refine (qplain_same w9.heap.size w9.heap.size A8 A9 _ _ c8 c9 (opens l) w9 (Qs.of_own HO9'.out) (Qs.of_own HO9.out) (Nat.le_refl _) (Nat.le_refl _)).mono ?_
        rintro e w10 ⟨rfl, hb10⟩
        have HB10 := Lib.hid (held_two HB9.out hb10)
        have HM10 := Lib.hid (own_keep HM9.out hb10)
        have HL10 := Lib.hid (own_keep HL9.out hb10)
        have HI10 := Lib.hid (own_keep HI9.out hb10)
        have hz10 := hb10.size
        clear hb10 HM9 HL9 HI9 HO9 HO9'
        cases bo with
        | false =>
          go_wp2_with fail
          refine (May_any w10.heap.size A n c l w10 (Qs.of_own HL10.out) (Nat.le_refl _) (by omega)).mono ?_
          rintro e w11 ⟨rfl, hg⟩
          rw [HMAY.out]
          have HB11 := Lib.hid (held_two HB10.out hg.below)
          have HL11 := Lib.hid (own_keep HL10.out hg.below)
          clear hg
          go_wp2
          go_roundw
          case rel => exact ⟨i + 1, A, n, c, l, by omega, by go_num, rfl, HMAY.out, HLN.out, HL11.out, HB11.out⟩
          case measure => simp [intOf]; omega
        | true =>
          have HRM : Hid (res = some mm) := by
            have h1 := HBO.out
            have h2 := HMM.out
            cases res with
            | none => cases h1
            | some x => rw [h2]; rfl
          have HMM2 : Hid (may mm = true) := (step_may (l := l) (o := ⟨o0, o1, o2, o3, o4, o5, o6⟩) (by rw [← HRES.out]; exact HRM.out)).1
          have hq64 : q ≤ 64 := by rw [HQ.out]; exact may_len HMM2.out
          obtain ⟨g, cur, hAg, hBg, hcs, hge⟩ := own_blk HI10.out
          have hgm : ∀ k, (Value.slice A4 q c4).ownBlock = some k → g ≠ k := by
            intro k hk
            have h1 := (HM10.out.lt k hk).1
            have h2 := HGI.out g hAg
            omega
          have HGM := Lib.hid hgm
          have HBG := Lib.hid hBg
          have HGE := Lib.hid hge
          have HCS := Lib.hid hcs
          clear hgm hBg hge hcs
          subst hAg
          go_wp2_with fail
          refine (qspoil_blk g n (n + 3) cur w10 HBG.out (by have := HCS.out; omega) (by omega) (by omega)).mono ?_
          rintro e w11 ⟨rfl, hgr⟩
          have hb11 : Below w.heap.size w w11 := HB10.out.grown hgr HB10.out.size (fun k hk => by injection hk with hk; rw [← hk]; exact HGE.out)
          have hm11 : w11.ownsRow _ 29 7 (.slice A4 q c4) q (qv mm) := HM10.out.kept hgr (by
            cases hk : (Value.slice A4 q c4).ownBlock with
            | none => exact .inl rfl
            | some k => exact .inr (fun h => by injection h with h; exact HGM.out k hk h.symm))
          have HB11 := Lib.hid hb11
          have HM11 := Lib.hid hm11
          clear hgr hb11 hm11
          go_wp2_with (first
            | (at_builtin
               refine wpList_append_row rfl (.tmp 95) (.tmp 96) rfl qel w.heap.size _ 0 [] rfl (own_empty _ _ _ _ rfl HB11.out.size) w11.heap.size A4 q c4 (qv mm) rfl (Row.alloc (Row.of_own HM11.out) (Nat.le_refl _) _) (qv_one _) (by omega) (by omega) (by have := HB11.out.size; simp; omega) ?_
               intro A12 c12 w12 hown12 _ hb12
               rw [Nat.zero_add, List.nil_append] at hown12
               rw [Nat.zero_add]
               have HO12 := Lib.hid hown12
               have HB12 := Lib.hid ((HB11.out.alloc HB11.out.size _).trans hb12)
               clear hown12 hb12)
            | fail)
          refine (May_any w12.heap.size A12 q c12 mm w12 (Qs.of_own HO12.out) (Nat.le_refl _) (by omega)).mono ?_
          rintro e w13 ⟨rfl, hg⟩
          rw [HMM2.out]
          have HB13 := Lib.hid (held_two HB12.out hg.below)
          have HO13 := Lib.hid (own_keep HO12.out hg.below)
          clear hg
          go_wp2
          go_roundw
          case rel => exact ⟨i + 1, A12, q, c12, mm, by omega, by go_num, rfl, HMM2.out, HQ.out.symm, HO13.out, HB13.out⟩
          case measure => simp [intOf]; omega
      · have l3 : decide ((m0 : Int) < 3) = false := by first | (simp; done) | (simp; omega)
        have l4 : ¬ (m0 : Int) < 3 := by omega
        rw [show decide (m0 < 3) = false by simpa using h3, if_neg (by simp)] at HST
        go_wp2_with fail
        refine (chunk_any w3.heap.size AI n (n + 3) l s3 s5 s6 w3 HF3.out (Nat.le_refl _) (by omega)).mono ?_
        intro e w4 h4
        rw [← HST.out] at h4
        clear x0 x1 x2 x3 x4 x5 x6
        obtain ⟨A4, c4, rfl, ho4, hb4⟩ := h4.at_
        have HANS := Lib.hid h4
        have HB4 := Lib.hid (held_two HB3.out hb4)
        have HO4 := Lib.hid ho4
        have HL4 := Lib.hid (own_keep HL3.out hb4)
        have HI4 := Lib.hid (own_keep HI3.out hb4)
        have HOP4 := Lib.hid (HOP.out.below HB4.out)
        have hz4 := hb4.size
        have hx4 := HX3.out.below hb4 HX3.out.lt
        have HX4 := Lib.hid hx4
        clear h4 ho4 hb4 hx4
        obtain ⟨b', off', f', e', hb', d0, d1, d2, d3, d4, d5, d6, hg', _⟩ := HOP4.out.at_ hin
        injection e' with e'
        injection e' with e1 e2
        subst e1 e2
        obtain rfl : (⟨o0, o1, o2, o3, o4, o5, o6⟩ : Ro) = f' := by have h := HOG.out; rw [hg'] at h; injection h with h; exact h.symm
        dsimp only at d0 d1 d2 d3 d4 d5 d6
        clear hg'
        have hs1 : (res.getD []).length = (res.getD []).length := rfl
        go_wp2_with fail
        refine (do_any w4.heap.size A n c l ⟨o0, o1, o2, o3, o4, o5, o6⟩ w4 (Qs.of_own HL4.out) (Nat.le_refl _) HMAY.out).mono ?_
        intro e w5 h5
        rw [← HRES.out] at h5
        obtain ⟨A5, c5, rfl, ho5, hb5⟩ := h5.at_
        have HB5 := Lib.hid (held_two HB4.out hb5)
        have HO5 := Lib.hid ho5
        have HM5 := Lib.hid (own_keep HO4.out hb5)
        have HL5 := Lib.hid (own_keep HL4.out hb5)
        have HI5 := Lib.hid (own_keep HI4.out hb5)
        have hz5 := hb5.size
        clear h5 ho5 hb5 d0 d1 d2 d3 d4 d5 d6
        obtain ⟨mm, hmm⟩ : ∃ mm, mm = res.getD [] := ⟨_, rfl⟩
        obtain ⟨bo, hbo⟩ : ∃ bo, bo = res.isSome := ⟨_, rfl⟩
        rw [← hmm] at HO5 HM5 ⊢
        rw [← hbo]
        obtain ⟨q, hq⟩ : ∃ q, q = mm.length := ⟨_, rfl⟩
        rw [← hq] at HO5 HM5 ⊢
        have HQ := Lib.hid hq
        have hbb : (bo != bo) = false := by simp
        have hbb2 : (bo == bo) = true := by simp
        have HBO := Lib.hid hbo
        have HMM := Lib.hid hmm
        clear hq hmm hbo hs1
        go_wp2_with fail
        refine (qplain_same w5.heap.size w5.heap.size A4 A5 q q c4 c5 mm w5 (Qs.of_own HM5.out) (Qs.of_own HO5.out) (Nat.le_refl _) (Nat.le_refl _)).mono ?_
        rintro e w6 ⟨rfl, hb6⟩
        have HB6 := Lib.hid (held_two HB5.out hb6)
        have HM6 := Lib.hid (own_keep HM5.out hb6)
        have HL6 := Lib.hid (own_keep HL5.out hb6)
        have HI6 := Lib.hid (own_keep HI5.out hb6)
        have hz6 := hb6.size
        clear hb6 HO5 HM5 HL5 HI5
        go_wp2_with fail
        refine (qkept_same w6.heap.size w6.heap.size _ A n c l ⟨9, 0, 0, 0, 0, 0, false⟩ w6 HLN.out (Row.recap (Qs.of_own HI6.out) (Nat.le_refl _) (by omega)) (Qs.of_own HL6.out) (Nat.le_refl _) (Nat.le_refl _) (by omega)).mono ?_
        rintro e w7 ⟨rfl, hb7⟩
        have HB7 := Lib.hid (held_two HB6.out hb7)
        have HM7 := Lib.hid (own_keep HM6.out hb7)
        have HL7 := Lib.hid (own_keep HL6.out hb7)
        have HI7 := Lib.hid (own_keep HI6.out hb7)
        have hz7 := hb7.size
        clear hb7 HM6 HL6 HI6
        go_wp2_with fail
        refine (Open_any w7.heap.size _ n (n + 3) l w7 (own_front HI7.out HLN.out (by omega)) (Nat.le_refl _) (by omega)).mono ?_
        rintro e w8 ⟨A8, c8, rfl, ho8, hb8⟩
        have HB8 := Lib.hid (held_two HB7.out hb8)
        have HM8 := Lib.hid (own_keep HM7.out hb8)
        have HL8 := Lib.hid (own_keep HL7.out hb8)
        have HI8 := Lib.hid (own_keep HI7.out hb8)
        have HO8 := Lib.hid ho8
        have hz8 := hb8.size
        clear ho8 hb8 HM7 HL7 HI7
        go_wp2_with fail
        refine (refopen_any w8.heap.size A n c l w8 (Qs.of_own HL8.out) (Nat.le_refl _) (by omega)).mono ?_
        rintro e w9 ⟨A9, c9, rfl, ho9, hb9⟩
        have HB9 := Lib.hid (held_two HB8.out hb9)
        have HM9 := Lib.hid (own_keep HM8.out hb9)
        have HL9 := Lib.hid (own_keep HL8.out hb9)
        have HI9 := Lib.hid (own_keep HI8.out hb9)
        have HO9 := Lib.hid ho9
        have HO9' := Lib.hid (own_keep HO8.out hb9)
        have hz9 := hb9.size
        clear ho9 hb9 HM8 HL8 HI8 HO8
        go_wp2_with fail
        refine (qplain_same w9.heap.size w9.heap.size A8 A9 _ _ c8 c9 (opens l) w9 (Qs.of_own HO9'.out) (Qs.of_own HO9.out) (Nat.le_refl _) (Nat.le_refl _)).mono ?_
        rintro e w10 ⟨rfl, hb10⟩
        have HB10 := Lib.hid (held_two HB9.out hb10)
        have HM10 := Lib.hid (own_keep HM9.out hb10)
        have HL10 := Lib.hid (own_keep HL9.out hb10)
        have HI10 := Lib.hid (own_keep HI9.out hb10)
        have hz10 := hb10.size
        clear hb10 HM9 HL9 HI9 HO9 HO9'
        cases bo with
        | false =>
          go_wp2_with fail
          refine (May_any w10.heap.size A n c l w10 (Qs.of_own HL10.out) (Nat.le_refl _) (by omega)).mono ?_
          rintro e w11 ⟨rfl, hg⟩
          rw [HMAY.out]
          have HB11 := Lib.hid (held_two HB10.out hg.below)
          have HL11 := Lib.hid (own_keep HL10.out hg.below)
          clear hg
          go_wp2
          go_roundw
          case rel => exact ⟨i + 1, A, n, c, l, by omega, by go_num, rfl, HMAY.out, HLN.out, HL11.out, HB11.out⟩
          case measure => simp [intOf]; omega
        | true =>
          have HRM : Hid (res = some mm) := by
            have h1 := HBO.out
            have h2 := HMM.out
            cases res with
            | none => cases h1
            | some x => rw [h2]; rfl
          have HMM2 : Hid (may mm = true) := (step_may (l := l) (o := ⟨o0, o1, o2, o3, o4, o5, o6⟩) (by rw [← HRES.out]; exact HRM.out)).1
          have hq64 : q ≤ 64 := by rw [HQ.out]; exact may_len HMM2.out
          obtain ⟨g, cur, hAg, hBg, hcs, hge⟩ := own_blk HI10.out
          have hgm : ∀ k, (Value.slice A4 q c4).ownBlock = some k → g ≠ k := by
            intro k hk
            have h1 := (HM10.out.lt k hk).1
            have h2 := HGI.out g hAg
            omega
          have HGM := Lib.hid hgm
          have HBG := Lib.hid hBg
          have HGE := Lib.hid hge
          have HCS := Lib.hid hcs
          clear hgm hBg hge hcs
          subst hAg
          go_wp2_with fail
          refine (qspoil_blk g n (n + 3) cur w10 HBG.out (by have := HCS.out; omega) (by omega) (by omega)).mono ?_
          rintro e w11 ⟨rfl, hgr⟩
          have hb11 : Below w.heap.size w w11 := HB10.out.grown hgr HB10.out.size (fun k hk => by injection hk with hk; rw [← hk]; exact HGE.out)
          have hm11 : w11.ownsRow _ 29 7 (.slice A4 q c4) q (qv mm) := HM10.out.kept hgr (by
            cases hk : (Value.slice A4 q c4).ownBlock with
            | none => exact .inl rfl
            | some k => exact .inr (fun h => by injection h with h; exact HGM.out k hk h.symm))
          have HB11 := Lib.hid hb11
          have HM11 := Lib.hid hm11
          clear hgr hb11 hm11
          go_wp2_with (first
            | (at_builtin
               refine wpList_append_row rfl (.tmp 95) (.tmp 96) rfl qel w.heap.size _ 0 [] rfl (own_empty _ _ _ _ rfl HB11.out.size) w11.heap.size A4 q c4 (qv mm) rfl (Row.alloc (Row.of_own HM11.out) (Nat.le_refl _) _) (qv_one _) (by omega) (by omega) (by have := HB11.out.size; simp; omega) ?_
               intro A12 c12 w12 hown12 _ hb12
               rw [Nat.zero_add, List.nil_append] at hown12
               rw [Nat.zero_add]
               have HO12 := Lib.hid hown12
               have HB12 := Lib.hid ((HB11.out.alloc HB11.out.size _).trans hb12)
               clear hown12 hb12)
            | fail)
          refine (May_any w12.heap.size A12 q c12 mm w12 (Qs.of_own HO12.out) (Nat.le_refl _) (by omega)).mono ?_
          rintro e w13 ⟨rfl, hg⟩
          rw [HMM2.out]
          have HB13 := Lib.hid (held_two HB12.out hg.below)
          have HO13 := Lib.hid (own_keep HO12.out hg.below)
          clear hg
          go_wp2
          go_roundw
          case rel => exact ⟨i + 1, A12, q, c12, mm, by omega, by go_num, rfl, HMM2.out, HQ.out.symm, HO13.out, HB13.out⟩
          case measure => simp [intOf]; omega
    · have HE : Hid (∀ wr', Below w.heap.size w wr' → Calls Try.prog 19 #[] wr' fun e w' => e = .returned (.bool true) ∧ Below w.heap.size w w') := fun wr' hb => (awake_any wr').mono fun e w' hh => ⟨hh.1, held_two hb hh.2⟩
      by_cases hin : i < n0
      · have hi60 : ¬ i < 60 := fun h => hgo ⟨hin, h⟩
        have l1 : (i : Int) < (n0 : Int) := by omega
        have l2 : ¬ (i : Int) < 60 := by omega
        clear hgo
        go_wp2_with fail
        refine (HE.out _ HB.out).mono ?_
        rintro e w2 ⟨rfl, hb2⟩
        have HB2 := Lib.hid hb2
        clear hb2
        go_wp2
        go_ret
        exact ⟨rfl, HB2.out⟩
      · have l1 : ¬ (i : Int) < (n0 : Int) := by omega
        clear hgo
        go_wp2_with fail
        refine (HE.out _ HB.out).mono ?_
        rintro e w2 ⟨rfl, hb2⟩
        have HB2 := Lib.hid hb2
        clear hb2
        go_wp2
        go_ret
        exact ⟨rfl, HB2.out⟩
end Go.Proofs.Ytohnjhifnankeaa.Req
