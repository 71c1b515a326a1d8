/-
  ReqOnce: the walk of the law.
-/
import Derived.Test.YtohnjhifnankeaaReqLaw
import Derived.BigQuiet
namespace Go.Proofs.Ytohnjhifnankeaa.Req
set_option linter.unusedVariables false
set_option maxRecDepth 100000
open Go.RowKit Base ReqMath ReqOpMath
open Go.Proofs.Ytohnjhifnankeaa.Field (modZ bigZ modZ_lt bigZ_lt mod_any playbig_any)
open Go.Sort (grow)
set_option linter.ambiguousOpen false
set_option linter.unusedSimpArgs false

theorem step_keep {l m : List Rq} {o : Ro} (h : ReqOpMath.step l o = some m) : ∀ (k : Nat) (r : Rq), l[k]? = some r → r.done = true → m[k]? = some r := by
  intro k r hr hd
  unfold ReqOpMath.step at h
  split at h
  · obtain ⟨_, _, rfl⟩ := may_accept h
    rw [List.getElem?_append_left (List.getElem?_eq_some_iff.1 hr).1]
    exact hr
  · obtain ⟨_, _, j, x, _, hx, hxd, rfl⟩ := may_chunk h
    by_cases hjk : j = k
    · subst hjk
      rw [hx] at hr
      injection hr with hr
      rw [hr, hd] at hxd
      cases hxd
    · rw [List.getElem?_set_ne hjk]
      exact hr
theorem step_len {l m : List Rq} {o : Ro} (h : ReqOpMath.step l o = some m) : l.length ≤ m.length ∧ m.length ≤ l.length + 1 := by
  unfold ReqOpMath.step at h
  split at h
  · have := len_accept h; omega
  · have := len_chunk h; omega
theorem ebl : Elem Try.prog 45 4 1 1 (.bool false) := Elem.of Try.underlying45 (by kernel_rfl) rfl (by omega)
/-- the tables that wait, in a block of eight -/
def Waits (w : World) (g : Nat) (f : Nat → Bool) : Prop := ∃ cs : Array Value, Blk w g 4 cs ∧ cs.size = 8 ∧ ∀ t : Nat, t < 8 → cs[t]? = some (.bool (f t))
theorem bools_blk {w' : World} {base g : Nat} (h : w'.ownsRow base 4 1 (.slice (some ⟨g, 0, none⟩) 8 8) 8 (madeCells (Value.bool false).cells (8 * 1)).toList) : Waits w' g (fun _ => false) ∧ base ≤ g := by
  rcases h.2 with ⟨hv, _⟩ | ⟨b, cap, cur, hv, hb, hg, h1, h2, h3, h4⟩
  · cases hv
  · simp only [Value.slice.injEq, Option.some.injEq, Addr.mk.injEq] at hv
    obtain ⟨⟨rfl, _⟩, _, rfl⟩ := hv
    refine ⟨⟨cur, hg, by omega, fun t ht => ?_⟩, hb⟩
    have h5 : (cur.toList.take 8)[t]? = some (.bool false) := by
      rw [show (8 : Nat) = 8 * 1 from rfl, h4]
      have : (madeCells (Value.bool false).cells (8 * 1)).toList = List.replicate 8 (.bool false) := toList_madeCells_one _ _
      rw [this, List.getElem?_replicate, if_pos ht]
    rw [List.getElem?_take_of_lt ht, Array.getElem?_toList] at h5
    exact h5
theorem Waits.same {w w' : World} {g : Nat} {f : Nat → Bool} (h : Waits w g f) (hk : w'.heap[g]? = w.heap[g]?) : Waits w' g f := by
  obtain ⟨cs, h1, h2⟩ := h
  exact ⟨cs, hk.trans h1, h2⟩
theorem Waits.set_ {w : World} {g t : Nat} {f f' : Nat → Bool} (h : Waits w g f) (ht : t < 8) (h1 : f' t = true) (h2 : ∀ s, s ≠ t → f' s = f s) : Waits (w.setCell ⟨g, t, none⟩ (.bool true)) g f' := by
  obtain ⟨cs, hb, hs, hc⟩ := h
  refine ⟨_, hb.set_ t _, by simp [hs], fun s hs8 => ?_⟩
  rw [Array.getElem?_setIfInBounds]
  by_cases e : t = s
  · subst e
    rw [if_pos rfl, if_pos (by omega), h1]
  · rw [if_neg e, hc s hs8, h2 s (fun h => e h.symm)]
theorem waits_lt {w : World} {g : Nat} {f : Nat → Bool} (h : Waits w g f) : g < w.heap.size := by obtain ⟨cs, h1, _⟩ := h; exact h1.lt
theorem waits_same {w : World} {g : Nat} {f f' : Nat → Bool} (h : Waits w g f) (he : ∀ s, f' s = f s) : Waits w g f' := by
  obtain ⟨cs, h1, h2, h3⟩ := h
  exact ⟨cs, h1, h2, fun t ht => by rw [he]; exact h3 t ht⟩
theorem own_off {v : Value} {G : Nat} (h : ∀ k, v.ownBlock = some k → k ≠ G) : v.ownBlock = none ∨ v.ownBlock ≠ some G := by
  cases hk : v.ownBlock with
  | none => exact .inl rfl
  | some k => exact .inr (fun e => by injection e with e; exact h k hk e)
def OnKeep (w : World) (G : Nat) (A : Option Addr) (n c : Nat) (l : List Rq) (A4 : Option Addr) (q c4 : Nat) (mm : List Rq) (k : Nat) (wz : World) : Prop :=
  Waits wz G (fun s => waits (mm.take k) (s : Int)) ∧ wz.ownsRow w.heap.size 29 7 (.slice A n c) n (qv l) ∧ wz.ownsRow w.heap.size 29 7 (.slice A4 q c4) q (qv mm) ∧ Below w.heap.size w wz
def OnRel (w : World) (G : Nat) (A : Option Addr) (n c : Nat) (l : List Rq) (A4 : Option Addr) (q c4 : Nat) (mm : List Rq) (vk : Value) (wz : World) : Prop :=
  ∃ k : Nat, k ≤ q ∧ vk = .int .i64 k ∧ OnKeep w G A n c l A4 q c4 mm k wz
def PlRel (w : World) (n0 : Nat) (vl vi : Value) (wr : World) : Prop := ∃ (i : Nat) (A : Option Addr) (n c : Nat) (l : List Rq), i ≤ n0 ∧ vi = .int .i64 i ∧ vl = .slice A n c ∧ may l = true ∧ l.length = n ∧ wr.ownsRow w.heap.size 29 7 (.slice A n c) n (qv l) ∧ Below w.heap.size w wr
set_option maxHeartbeats 12800000 in
theorem once_walk (A0 : Option Addr) (n0 c0 : Nat) (os : List Ro) (w : World) (h : Ros w w.heap.size A0 n0 c0 os) :
    Calls Try.prog 5 #[.slice A0 n0 c0] w fun e w' => e = .returned (.bool true) ∧ Below w.heap.size w w' := by
  have HOP := Lib.hid h
  have hle0 := h.le
  clear h
  go_enter Try.func5, Try.ntmps5
  go_wp2
  go_loopw [3, 4] (fun vl vi wr => PlRel w n0 vl vi wr) (fun _ vi _ => n0 - (intOf vi).toNat)
  case atStart => exact ⟨0, none, 0, 0, [], by omega, rfl, rfl, may_nil, rfl, World.ownsRow_nil _ _ _ _, Below.refl _ _⟩
  case round =>
    obtain ⟨i, A, n, c, l, hi, rfl, rfl, hmay, hln, hown, hbel⟩ := hrel
    have HL := Lib.hid hown
    have HB := Lib.hid hbel
    have HMAY := Lib.hid hmay
    have HLN := Lib.hid hln
    have hn64 : n ≤ 64 := by rw [← hln]; exact may_len hmay
    have hnc := (Row.of_own hown).le
    clear hown hbel hmay hln
    by_cases hgo : i < n0 ∧ i < 60
    · obtain ⟨hin, hi60⟩ := hgo
      have l1 : (i : Int) < (n0 : Int) := by omega
      have l2 : (i : Int) < 60 := by omega
      obtain ⟨b, off, o, rfl, hb, q0, q1, q2, q3, q4, q5, q6, hget, _⟩ := (HOP.out.below HB.out).at_ hin
      have HOG := Lib.hid hget
      obtain ⟨o0, o1, o2, o3, o4, o5, o6⟩ := o
      dsimp only at q0 q1 q2 q3 q4 q5 q6
      have hs := small_any wr.heap.size A n c l ⟨o0, o1, o2, o3, o4, o5, o6⟩ wr (Qs.of_own HL.out) (Nat.le_refl _) HMAY.out
      obtain ⟨res, hres⟩ : ∃ res, res = ReqOpMath.step l ⟨o0, o1, o2, o3, o4, o5, o6⟩ := ⟨_, rfl⟩
      have HRES := Lib.hid hres
      have hst : res = if decide (modZ o0 7 < 3) then accept l (small l ⟨o0, o1, o2, o3, o4, o5, o6⟩).tbl (small l ⟨o0, o1, o2, o3, o4, o5, o6⟩).wt (small l ⟨o0, o1, o2, o3, o4, o5, o6⟩).at_ else chunk l (small l ⟨o0, o1, o2, o3, o4, o5, o6⟩).id (small l ⟨o0, o1, o2, o3, o4, o5, o6⟩).cur (small l ⟨o0, o1, o2, o3, o4, o5, o6⟩).done := hres
      clear hres hget
      generalize small l ⟨o0, o1, o2, o3, o4, o5, o6⟩ = s at hs hst
      obtain ⟨s0, s1, s2, s3, s4, s5, s6⟩ := s
      dsimp only at hst
      unfold rval at hs
      dsimp only at hs
      have C0 := fun w => mod_any o0 7 w (by omega) (by omega)
      have b7 := modZ_lt o0 (n := 7) (by omega)
      generalize modZ o0 7 = m0 at C0 b7 hst
      have HS := Lib.hid hs
      have HST := Lib.hid hst
      have HC0 := Lib.hid C0
      clear hs hst C0
      go_wp2_with fail
      refine HS.out.mono ?_
      rintro e w2 ⟨rfl, hb2⟩
      have hx := Blk.new w2 25 #[.int .i64 s0, .int .i64 s1, .int .i64 s2, .int .i64 s3, .int .i64 s4, .int .i64 s5, .bool s6]
      have hbx : Below w2.heap.size w2 (w2.alloc (.cells #[.int .i64 s0, .int .i64 s1, .int .i64 s2, .int .i64 s3, .int .i64 s4, .int .i64 s5, .bool s6] 25)) := (Below.refl _ _).alloc (Nat.le_refl _) _
      have HL2 := Lib.hid (own_keep (own_keep HL.out hb2) hbx)
      have HB2 := Lib.hid (held_two (held_two HB.out hb2) hbx)
      have HX2 := Lib.hid hx
      clear hb2 hx hbx q0 q1 q2 q3 q4 q5 q6
      have x0 := HX2.out.cell 0
      have x1 := HX2.out.cell 1
      have x2 := HX2.out.cell 2
      have x3 := HX2.out.cell 3
      have x4 := HX2.out.cell 4
      have x5 := HX2.out.cell 5
      have x6 := HX2.out.cell 6
      go_wp2_with fail
      obtain ⟨W, hW⟩ : ∃ W, W = w2.alloc (.cells #[.int .i64 s0, .int .i64 s1, .int .i64 s2, .int .i64 s3, .int .i64 s4, .int .i64 s5, .bool s6] 25) := ⟨_, rfl⟩
      obtain ⟨X, hX⟩ : ∃ X, X = w2.heap.size := ⟨_, rfl⟩
      rw [← hW] at HL2 HB2 HX2 ⊢
      rw [← hX] at HX2 ⊢
      clear hW hX x0 x1 x2 x3 x4 x5 x6
      refine (chunk_any W.heap.size A n c l s3 s5 s6 W (Qs.of_own HL2.out) (Nat.le_refl _) (by omega)).mono ?_
      intro e w3 h3
      obtain ⟨A3, c3, rfl, ho3, hb3⟩ := h3.at_
      have HANS3 := Lib.hid h3
      have HO3 := Lib.hid (own_mono ho3 HB2.out.size)
      have HL3 := Lib.hid (own_keep HL2.out hb3)
      have HB3 := Lib.hid (held_two HB2.out hb3)
      have HX3 := Lib.hid (HX2.out.below hb3 HX2.out.lt)
      have HOP3 := Lib.hid (HOP.out.below HB3.out)
      clear h3 ho3 hb3
      obtain ⟨b', off', f', e', hb', d0, d1, d2, d3, d4, d5, d6, hg', _⟩ := HOP3.out.at_ hin
      injection e' with e'
      injection e' with e1 e2
      subst e1 e2
      obtain rfl : (⟨o0, o1, o2, o3, o4, o5, o6⟩ : Ro) = f' := by have h := HOG.out; rw [hg'] at h; injection h with h; exact h.symm
      dsimp only at d0 d1 d2 d3 d4 d5 d6
      clear hg'
      go_wp2_with fail
      refine (HC0.out _).mono ?_
      rintro e wz ⟨rfl, rfl⟩
      clear d0 d1 d2 d3 d4 d5 d6 HOP3
      by_cases h3 : m0 < 3
      · have l3 : decide ((m0 : Int) < 3) = true := by first | (simp; done) | (simp; omega)
        have l4 : (m0 : Int) < 3 := by omega
        rw [show decide (m0 < 3) = true by simpa using h3, if_pos rfl] at HST
        have x0 := HX3.out.cell 0
        have x1 := HX3.out.cell 1
        have x2 := HX3.out.cell 2
        have x3 := HX3.out.cell 3
        have x4 := HX3.out.cell 4
        have x5 := HX3.out.cell 5
        have x6 := HX3.out.cell 6
        go_wp2_with fail
        refine (accept_any w3.heap.size A n c l s1 s2 s4 w3 (Qs.of_own HL3.out) (Nat.le_refl _) (by omega)).mono ?_
        intro e w4 h4
        rw [← HST.out] at h4
        obtain ⟨A4, c4, rfl, ho4, hb4⟩ := h4.at_
        have HB4 := Lib.hid (held_two HB3.out hb4)
        have HO4 := Lib.hid (own_mono ho4 HB3.out.size)
        have HL4 := Lib.hid (own_keep HL3.out hb4)
        clear h4 ho4 hb4 x0 x1 x2 x3 x4 x5 x6 HO3 HANS3
        cases res with
        | none =>
          rw [show (none : Option (List Rq)).isSome = false from rfl]
          go_wp2
          go_roundw
          case rel => exact ⟨i + 1, A, n, c, l, by omega, by go_num, rfl, HMAY.out, HLN.out, HL4.out, HB4.out⟩
          case measure => simp [intOf]; omega
        | some mm =>
          have HRM : Hid (ReqOpMath.step l ⟨o0, o1, o2, o3, o4, o5, o6⟩ = some mm) := HRES.out.symm
          rw [show (some mm).isSome = true from rfl, show ((some mm).getD ([] : List Rq)) = mm from rfl] at *
          have HMM2 : Hid (may mm = true) := (step_may (l := l) (o := ⟨o0, o1, o2, o3, o4, o5, o6⟩) HRM.out).1
          have HKP := Lib.hid (step_keep HRM.out)
          have HLE := Lib.hid (step_len HRM.out)
          obtain ⟨q, hq⟩ : ∃ q, q = mm.length := ⟨_, rfl⟩
          rw [← hq] at HO4 ⊢
          have HQ := Lib.hid hq
          have hq64 : q ≤ 64 := by rw [hq]; exact may_len HMM2.out
          have hql : n ≤ q ∧ q ≤ n + 1 := by have := HLE.out; rw [HLN.out, ← hq] at this; exact this
          have hqc := (Row.of_own HO4.out).le
          have e1 : decide ((q : Int) < (n : Int)) = false := by first | (simp; done) | (simp; omega)
          have e2 : decide ((n : Int) + 1 < (q : Int)) = false := by first | (simp; done) | (simp; omega)
          have e1' : ¬ (q : Int) < (n : Int) := by omega
          have e2' : ¬ (n : Int) + 1 < (q : Int) := by omega
          clear hq
          go_wp2_with (first
            | (refine wpList_make_elem _ rfl (.const (.int .i64 8)) (.const (.int .i64 8)) rfl ebl w4.heap.size .i64 .i64 _ _ 8 rfl rfl rfl rfl (by omega) (by omega) (Nat.le_refl _) ?_
               intro w5 hown5 hb5
               have HG5 := Lib.hid (bools_blk hown5).1
               have HB5 := Lib.hid (held_two HB4.out hb5)
               have HM5 := Lib.hid (own_keep HO4.out hb5)
               have HL5 := Lib.hid (own_keep HL4.out hb5)
               have HGM : Hid (∀ k, (Value.slice A4 q c4).ownBlock = some k → k ≠ w4.heap.size) := fun k hk => by have := (HO4.out.lt k hk).2; omega
               have HGL : Hid (∀ k, (Value.slice A n c).ownBlock = some k → k ≠ w4.heap.size) := fun k hk => by have := (HL4.out.lt k hk).2; omega
               have HGW : Hid (w.heap.size ≤ w4.heap.size) := HB4.out.size
               clear hown5 hb5)
            | fail)
          obtain ⟨G, hG⟩ : ∃ G, G = w4.heap.size := ⟨_, rfl⟩
          rw [← hG] at HG5 HGM HGL HGW ⊢
          clear hG
          go_loopw [9] (fun vk wz => OnRel w G A n c l A4 q c4 mm vk wz) (fun vk _ => q - (intOf vk).toNat)
          case atStart => exact ⟨0, by omega, rfl, HG5.out, HL5.out, HM5.out, HB5.out⟩
          case round =>
            obtain ⟨k, hk, rfl, hgw, hlw, hmw, hbw⟩ := hrel
            have HGk := Lib.hid hgw
            have HLk := Lib.hid hlw
            have HMk := Lib.hid hmw
            have HBk := Lib.hid hbw
            clear hgw hlw hmw hbw
            by_cases hkq : k < q
            · obtain ⟨b2, off2, f, hA4, hb2, g0, g1, g2, g3, g4, g5, g6, hget, ht⟩ := (Qs.of_own HMk.out).at_ hkq
              have hin8 := inb_parts (may_in HMM2.out hget).2
              have htk := takes_parts (may_at HMM2.out hget)
              have HWT : Hid (waits (mm.take k) f.tbl = false) := htk.2.2.2.2
              have HWS : Hid (∀ t : Int, waits (mm.take (k + 1)) t = (waits (mm.take k) t || (f.tbl == t && !f.done))) := fun t => by rw [ht, waits_snoc]
              obtain ⟨f0, f1, f2, f3, f4, f5, f6⟩ := f
              dsimp only at g0 g1 g2 g3 g4 g5 g6 hin8 HWT HWS
              obtain ⟨i1, i2, _⟩ := hin8
              obtain ⟨t, rfl⟩ : ∃ t : Nat, f1 = (t : Int) := ⟨f1.toNat, by omega⟩
              have ht8 : t < 8 := by omega
              have HGET := Lib.hid hget
              obtain ⟨cs, hbl, hcs8, hct⟩ := HGk.out
              have hgt : wr.cell? ⟨G, t, none⟩ = some (.bool (waits (mm.take k) (t : Int))) := by rw [hbl.cell]; exact hct t ht8
              rw [HWT.out] at hgt
              have hgf := hbl.frozen t
              have l5 : (k : Int) < (q : Int) := by omega
              have z1 : decide ((t : Int) < 0) = false := by first | (simp; done) | (simp; omega)
              have z2 : decide ((7 : Int) < (t : Int)) = false := by first | (simp; done) | (simp; omega)
              have z3 : (t : Int) < 8 := by omega
              subst hA4
              clear hget ht htk hbl hcs8 hct
              have HKEEP : Hid (∀ wz, Below wr.heap.size wr wz → OnKeep w G A n c l (some ⟨b2, off2, none⟩) q c4 mm k wz) := fun wz hb => ⟨HGk.out.same (hb.block _ (waits_lt HGk.out)), own_keep HLk.out hb, own_keep HMk.out hb, held_two HBk.out hb⟩
              by_cases hkn : k < n
              · obtain ⟨b3, off3, r, hA, hb3, r0, r1, r2, r3, r4, r5, r6, hgl, _⟩ := (Qs.of_own HLk.out).at_ hkn
                have HSAME : Hid (r.done = true → r = ⟨f0, (t : Int), f2, f3, f4, f5, f6⟩) := fun hd => by
                  have h1 := HKP.out k r hgl hd
                  rw [HGET.out] at h1
                  injection h1 with h1
                  exact h1.symm
                have y1 : decide ((k : Int) < (n : Int)) = true := by first | (simp; done) | (simp; omega)
                have y1' : (k : Int) < (n : Int) := by omega
                subst hA
                obtain ⟨e0, e1x, e2x, e3x, e4x, e5x, e6x⟩ := r
                dsimp only at r0 r1 r2 r3 r4 r5 r6 HSAME
                clear hgl
                cases e6x with
                | true =>
                  have hs := HSAME.out rfl
                  simp only [Rq.mk.injEq] at hs
                  obtain ⟨rfl, rfl, rfl, rfl, rfl, rfl, rfl⟩ := hs
                  go_wp2_with fail
                  go_quiet (fail)
                  obtain ⟨k1, k2, k3, k4⟩ := HKEEP.out (wr.drewN nq) (below_drewN (Below.refl _ _) nq)
                  have K1 := Lib.hid k1
                  have K2 := Lib.hid k2
                  have K3 := Lib.hid k3
                  have K4 := Lib.hid k4
                  have g6' : (wr.drewN nq).cell? ⟨b2, off2 + k * 7 + 6, none⟩ = some (.bool true) := g6
                  clear k1 k2 k3 k4 g0 g1 g2 g3 g4 g5 g6 hgt hgf
                  generalize wr.drewN nq = wq at *
                  go_wp2
                  go_roundw
                  case rel => exact ⟨k + 1, by omega, by go_num, waits_same K1.out (fun s => by rw [HWS.out]; simp), K2.out, K3.out, K4.out⟩
                  case measure => simp [intOf]; omega
                | false =>
                  cases f6 with
                  | true =>
                    go_wp2_with fail
                    go_quiet (fail)
                    obtain ⟨k1, k2, k3, k4⟩ := HKEEP.out (wr.drewN nq) (below_drewN (Below.refl _ _) nq)
                    have K1 := Lib.hid k1
                    have K2 := Lib.hid k2
                    have K3 := Lib.hid k3
                    have K4 := Lib.hid k4
                    have g6' : (wr.drewN nq).cell? ⟨b2, off2 + k * 7 + 6, none⟩ = some (.bool true) := g6
                    clear k1 k2 k3 k4 g0 g1 g2 g3 g4 g5 g6 hgt hgf
                    generalize wr.drewN nq = wq at *
                    go_wp2
                    go_roundw
                    case rel => exact ⟨k + 1, by omega, by go_num, waits_same K1.out (fun s => by rw [HWS.out]; simp), K2.out, K3.out, K4.out⟩
                    case measure => simp [intOf]; omega
                  | false =>
                    go_wp2_with fail
                    go_quiet (fail)
                    obtain ⟨k1, k2, k3, k4⟩ := HKEEP.out (wr.drewN nq) (below_drewN (Below.refl _ _) nq)
                    have K1 := Lib.hid (k1.set_ (f' := fun s => waits (mm.take (k + 1)) (s : Int)) ht8 (by rw [HWS.out]; simp) (fun s hs => by rw [HWS.out, show ((t : Int) == (s : Int)) = false by rw [beq_eq_false_iff_ne]; omega]; simp))
                    have K2 := Lib.hid (k2.kept (only_setCell (World.grownBy.refl (wr.drewN nq) (some G)) (p := ⟨G, t, none⟩) (.inl rfl) (.bool true)) (own_off HGL.out))
                    have K3 := Lib.hid (k3.kept (only_setCell (World.grownBy.refl (wr.drewN nq) (some G)) (p := ⟨G, t, none⟩) (.inl rfl) (.bool true)) (own_off HGM.out))
                    have K4 := Lib.hid (k4.setCell (p := ⟨G, t, none⟩) HGW.out (.bool true))
                    have g6' : (wr.drewN nq).cell? ⟨b2, off2 + k * 7 + 6, none⟩ = some (.bool false) := g6
                    have g1' : (wr.drewN nq).cell? ⟨b2, off2 + k * 7 + 1, none⟩ = some (.int .i64 (t : Int)) := g1
                    have hgt' : (wr.drewN nq).cell? ⟨G, t, none⟩ = some (.bool false) := hgt
                    have hgf' : (wr.drewN nq).frozen? ⟨G, t, none⟩ = false := hgf
                    clear k1 k2 k3 k4 g0 g1 g2 g3 g4 g5 g6 hgt hgf
                    generalize wr.drewN nq = wq at *
                    go_wp2
                    go_roundw
                    case rel => exact ⟨k + 1, by omega, by go_num, K1.out, K2.out, K3.out, K4.out⟩
                    case measure => simp [intOf]; omega
              · have y1 : decide ((k : Int) < (n : Int)) = false := by first | (simp; done) | (simp; omega)
                have y1' : ¬ (k : Int) < (n : Int) := by omega
                cases f6 with
                | true =>
                  go_wp2_with fail
                  go_quiet (fail)
                  obtain ⟨k1, k2, k3, k4⟩ := HKEEP.out (wr.drewN nq) (below_drewN (Below.refl _ _) nq)
                  have K1 := Lib.hid k1
                  have K2 := Lib.hid k2
                  have K3 := Lib.hid k3
                  have K4 := Lib.hid k4
                  have g6' : (wr.drewN nq).cell? ⟨b2, off2 + k * 7 + 6, none⟩ = some (.bool true) := g6
                  clear k1 k2 k3 k4 g0 g1 g2 g3 g4 g5 g6 hgt hgf
                  generalize wr.drewN nq = wq at *
                  go_wp2
                  go_roundw
                  case rel => exact ⟨k + 1, by omega, by go_num, waits_same K1.out (fun s => by rw [HWS.out]; simp), K2.out, K3.out, K4.out⟩
                  case measure => simp [intOf]; omega
                | false =>
                  go_wp2_with fail
                  go_quiet (fail)
                  obtain ⟨k1, k2, k3, k4⟩ := HKEEP.out (wr.drewN nq) (below_drewN (Below.refl _ _) nq)
                  have K1 := Lib.hid (k1.set_ (f' := fun s => waits (mm.take (k + 1)) (s : Int)) ht8 (by rw [HWS.out]; simp) (fun s hs => by rw [HWS.out, show ((t : Int) == (s : Int)) = false by rw [beq_eq_false_iff_ne]; omega]; simp))
                  have K2 := Lib.hid (k2.kept (only_setCell (World.grownBy.refl (wr.drewN nq) (some G)) (p := ⟨G, t, none⟩) (.inl rfl) (.bool true)) (own_off HGL.out))
                  have K3 := Lib.hid (k3.kept (only_setCell (World.grownBy.refl (wr.drewN nq) (some G)) (p := ⟨G, t, none⟩) (.inl rfl) (.bool true)) (own_off HGM.out))
                  have K4 := Lib.hid (k4.setCell (p := ⟨G, t, none⟩) HGW.out (.bool true))
                  have g6' : (wr.drewN nq).cell? ⟨b2, off2 + k * 7 + 6, none⟩ = some (.bool false) := g6
                  have g1' : (wr.drewN nq).cell? ⟨b2, off2 + k * 7 + 1, none⟩ = some (.int .i64 (t : Int)) := g1
                  have hgt' : (wr.drewN nq).cell? ⟨G, t, none⟩ = some (.bool false) := hgt
                  have hgf' : (wr.drewN nq).frozen? ⟨G, t, none⟩ = false := hgf
                  clear k1 k2 k3 k4 g0 g1 g2 g3 g4 g5 g6 hgt hgf
                  generalize wr.drewN nq = wq at *
                  go_wp2
                  go_roundw
                  case rel => exact ⟨k + 1, by omega, by go_num, K1.out, K2.out, K3.out, K4.out⟩
                  case measure => simp [intOf]; omega
            · obtain rfl : k = q := by omega
              have l5 : ¬ (k : Int) < (k : Int) := by omega
              go_wp2
              go_roundw
              case rel => exact ⟨i + 1, A4, k, c4, mm, by omega, by go_num, rfl, HMM2.out, HQ.out.symm, HMk.out, HBk.out⟩
              case measure => simp [intOf]; omega
      · have l3 : decide ((m0 : Int) < 3) = false := by first | (simp; done) | (simp; omega)
        have l4 : ¬ (m0 : Int) < 3 := by omega
        rw [show decide (m0 < 3) = false by simpa using h3, if_neg (by simp)] at HST
        rw [← HST.out] at HO3 ⊢
        have HB4 := HB3
        have HO4 := HO3
        have HL4 := HL3
        have A4 := A3
        clear HANS3
        obtain ⟨A4, hA4⟩ : ∃ A4, A4 = A3 := ⟨_, rfl⟩
        obtain ⟨c4, hc4⟩ : ∃ c4, c4 = c3 := ⟨_, rfl⟩
        obtain ⟨w4, hw4⟩ : ∃ w4, w4 = w3 := ⟨_, rfl⟩
        rw [← hA4, ← hc4] at HO4 ⊢
        rw [← hw4] at HO4 HB4 HL4 ⊢
        clear hA4 hc4 hw4
        cases res with
        | none =>
          rw [show (none : Option (List Rq)).isSome = false from rfl]
          go_wp2
          go_roundw
          case rel => exact ⟨i + 1, A, n, c, l, by omega, by go_num, rfl, HMAY.out, HLN.out, HL4.out, HB4.out⟩
          case measure => simp [intOf]; omega
        | some mm =>
          have HRM : Hid (ReqOpMath.step l ⟨o0, o1, o2, o3, o4, o5, o6⟩ = some mm) := HRES.out.symm
          rw [show (some mm).isSome = true from rfl, show ((some mm).getD ([] : List Rq)) = mm from rfl] at *
          have HMM2 : Hid (may mm = true) := (step_may (l := l) (o := ⟨o0, o1, o2, o3, o4, o5, o6⟩) HRM.out).1
          have HKP := Lib.hid (step_keep HRM.out)
          have HLE := Lib.hid (step_len HRM.out)
          obtain ⟨q, hq⟩ : ∃ q, q = mm.length := ⟨_, rfl⟩
          rw [← hq] at HO4 ⊢
          have HQ := Lib.hid hq
          have hq64 : q ≤ 64 := by rw [hq]; exact may_len HMM2.out
          have hql : n ≤ q ∧ q ≤ n + 1 := by have := HLE.out; rw [HLN.out, ← hq] at this; exact this
          have hqc := (Row.of_own HO4.out).le
          have e1 : decide ((q : Int) < (n : Int)) = false := by first | (simp; done) | (simp; omega)
          have e2 : decide ((n : Int) + 1 < (q : Int)) = false := by first | (simp; done) | (simp; omega)
          have e1' : ¬ (q : Int) < (n : Int) := by omega
          have e2' : ¬ (n : Int) + 1 < (q : Int) := by omega
          clear hq
          go_wp2_with (first
            | (refine wpList_make_elem _ rfl (.const (.int .i64 8)) (.const (.int .i64 8)) rfl ebl w4.heap.size .i64 .i64 _ _ 8 rfl rfl rfl rfl (by omega) (by omega) (Nat.le_refl _) ?_
               intro w5 hown5 hb5
               have HG5 := Lib.hid (bools_blk hown5).1
               have HB5 := Lib.hid (held_two HB4.out hb5)
               have HM5 := Lib.hid (own_keep HO4.out hb5)
               have HL5 := Lib.hid (own_keep HL4.out hb5)
               have HGM : Hid (∀ k, (Value.slice A4 q c4).ownBlock = some k → k ≠ w4.heap.size) := fun k hk => by have := (HO4.out.lt k hk).2; omega
               have HGL : Hid (∀ k, (Value.slice A n c).ownBlock = some k → k ≠ w4.heap.size) := fun k hk => by have := (HL4.out.lt k hk).2; omega
               have HGW : Hid (w.heap.size ≤ w4.heap.size) := HB4.out.size
               clear hown5 hb5)
            | fail)
          obtain ⟨G, hG⟩ : ∃ G, G = w4.heap.size := ⟨_, rfl⟩
          rw [← hG] at HG5 HGM HGL HGW ⊢
          clear hG
          go_loopw [9] (fun vk wz => OnRel w G A n c l A4 q c4 mm vk wz) (fun vk _ => q - (intOf vk).toNat)
          case atStart => exact ⟨0, by omega, rfl, HG5.out, HL5.out, HM5.out, HB5.out⟩
          case round =>
            obtain ⟨k, hk, rfl, hgw, hlw, hmw, hbw⟩ := hrel
            have HGk := Lib.hid hgw
            have HLk := Lib.hid hlw
            have HMk := Lib.hid hmw
            have HBk := Lib.hid hbw
            clear hgw hlw hmw hbw
            by_cases hkq : k < q
            · obtain ⟨b2, off2, f, hA4, hb2, g0, g1, g2, g3, g4, g5, g6, hget, ht⟩ := (Qs.of_own HMk.out).at_ hkq
              have hin8 := inb_parts (may_in HMM2.out hget).2
              have htk := takes_parts (may_at HMM2.out hget)
              have HWT : Hid (waits (mm.take k) f.tbl = false) := htk.2.2.2.2
              have HWS : Hid (∀ t : Int, waits (mm.take (k + 1)) t = (waits (mm.take k) t || (f.tbl == t && !f.done))) := fun t => by rw [ht, waits_snoc]
              obtain ⟨f0, f1, f2, f3, f4, f5, f6⟩ := f
              dsimp only at g0 g1 g2 g3 g4 g5 g6 hin8 HWT HWS
              obtain ⟨i1, i2, _⟩ := hin8
              obtain ⟨t, rfl⟩ : ∃ t : Nat, f1 = (t : Int) := ⟨f1.toNat, by omega⟩
              have ht8 : t < 8 := by omega
              have HGET := Lib.hid hget
              obtain ⟨cs, hbl, hcs8, hct⟩ := HGk.out
              have hgt : wr.cell? ⟨G, t, none⟩ = some (.bool (waits (mm.take k) (t : Int))) := by rw [hbl.cell]; exact hct t ht8
              rw [HWT.out] at hgt
              have hgf := hbl.frozen t
              have l5 : (k : Int) < (q : Int) := by omega
              have z1 : decide ((t : Int) < 0) = false := by first | (simp; done) | (simp; omega)
              have z2 : decide ((7 : Int) < (t : Int)) = false := by first | (simp; done) | (simp; omega)
              have z3 : (t : Int) < 8 := by omega
              subst hA4
              clear hget ht htk hbl hcs8 hct
              have HKEEP : Hid (∀ wz, Below wr.heap.size wr wz → OnKeep w G A n c l (some ⟨b2, off2, none⟩) q c4 mm k wz) := fun wz hb => ⟨HGk.out.same (hb.block _ (waits_lt HGk.out)), own_keep HLk.out hb, own_keep HMk.out hb, held_two HBk.out hb⟩
              by_cases hkn : k < n
              · obtain ⟨b3, off3, r, hA, hb3, r0, r1, r2, r3, r4, r5, r6, hgl, _⟩ := (Qs.of_own HLk.out).at_ hkn
                have HSAME : Hid (r.done = true → r = ⟨f0, (t : Int), f2, f3, f4, f5, f6⟩) := fun hd => by
                  have h1 := HKP.out k r hgl hd
                  rw [HGET.out] at h1
                  injection h1 with h1
                  exact h1.symm
                have y1 : decide ((k : Int) < (n : Int)) = true := by first | (simp; done) | (simp; omega)
                have y1' : (k : Int) < (n : Int) := by omega
                subst hA
                obtain ⟨e0, e1x, e2x, e3x, e4x, e5x, e6x⟩ := r
                dsimp only at r0 r1 r2 r3 r4 r5 r6 HSAME
                clear hgl
                cases e6x with
                | true =>
                  have hs := HSAME.out rfl
                  simp only [Rq.mk.injEq] at hs
                  obtain ⟨rfl, rfl, rfl, rfl, rfl, rfl, rfl⟩ := hs
                  go_wp2_with fail
                  go_quiet (fail)
                  obtain ⟨k1, k2, k3, k4⟩ := HKEEP.out (wr.drewN nq) (below_drewN (Below.refl _ _) nq)
                  have K1 := Lib.hid k1
                  have K2 := Lib.hid k2
                  have K3 := Lib.hid k3
                  have K4 := Lib.hid k4
                  have g6' : (wr.drewN nq).cell? ⟨b2, off2 + k * 7 + 6, none⟩ = some (.bool true) := g6
                  clear k1 k2 k3 k4 g0 g1 g2 g3 g4 g5 g6 hgt hgf
                  generalize wr.drewN nq = wq at *
                  go_wp2
                  go_roundw
                  case rel => exact ⟨k + 1, by omega, by go_num, waits_same K1.out (fun s => by rw [HWS.out]; simp), K2.out, K3.out, K4.out⟩
                  case measure => simp [intOf]; omega
                | false =>
                  cases f6 with
                  | true =>
                    go_wp2_with fail
                    go_quiet (fail)
                    obtain ⟨k1, k2, k3, k4⟩ := HKEEP.out (wr.drewN nq) (below_drewN (Below.refl _ _) nq)
                    have K1 := Lib.hid k1
                    have K2 := Lib.hid k2
                    have K3 := Lib.hid k3
                    have K4 := Lib.hid k4
                    have g6' : (wr.drewN nq).cell? ⟨b2, off2 + k * 7 + 6, none⟩ = some (.bool true) := g6
                    clear k1 k2 k3 k4 g0 g1 g2 g3 g4 g5 g6 hgt hgf
                    generalize wr.drewN nq = wq at *
                    go_wp2
                    go_roundw
                    case rel => exact ⟨k + 1, by omega, by go_num, waits_same K1.out (fun s => by rw [HWS.out]; simp), K2.out, K3.out, K4.out⟩
                    case measure => simp [intOf]; omega
                  | false =>
                    go_wp2_with fail
                    go_quiet (fail)
                    obtain ⟨k1, k2, k3, k4⟩ := HKEEP.out (wr.drewN nq) (below_drewN (Below.refl _ _) nq)
                    have K1 := Lib.hid (k1.set_ (f' := fun s => waits (mm.take (k + 1)) (s : Int)) ht8 (by rw [HWS.out]; simp) (fun s hs => by rw [HWS.out, show ((t : Int) == (s : Int)) = false by rw [beq_eq_false_iff_ne]; omega]; simp))
                    have K2 := Lib.hid (k2.kept (only_setCell (World.grownBy.refl (wr.drewN nq) (some G)) (p := ⟨G, t, none⟩) (.inl rfl) (.bool true)) (own_off HGL.out))
                    have K3 := Lib.hid (k3.kept (only_setCell (World.grownBy.refl (wr.drewN nq) (some G)) (p := ⟨G, t, none⟩) (.inl rfl) (.bool true)) (own_off HGM.out))
                    have K4 := Lib.hid (k4.setCell (p := ⟨G, t, none⟩) HGW.out (.bool true))
                    have g6' : (wr.drewN nq).cell? ⟨b2, off2 + k * 7 + 6, none⟩ = some (.bool false) := g6
                    have g1' : (wr.drewN nq).cell? ⟨b2, off2 + k * 7 + 1, none⟩ = some (.int .i64 (t : Int)) := g1
                    have hgt' : (wr.drewN nq).cell? ⟨G, t, none⟩ = some (.bool false) := hgt
                    have hgf' : (wr.drewN nq).frozen? ⟨G, t, none⟩ = false := hgf
                    clear k1 k2 k3 k4 g0 g1 g2 g3 g4 g5 g6 hgt hgf
                    generalize wr.drewN nq = wq at *
                    go_wp2
                    go_roundw
                    case rel => exact ⟨k + 1, by omega, by go_num, K1.out, K2.out, K3.out, K4.out⟩
                    case measure => simp [intOf]; omega
              · have y1 : decide ((k : Int) < (n : Int)) = false := by first | (simp; done) | (simp; omega)
                have y1' : ¬ (k : Int) < (n : Int) := by omega
                cases f6 with
                | true =>
                  go_wp2_with fail
                  go_quiet (fail)
                  obtain ⟨k1, k2, k3, k4⟩ := HKEEP.out (wr.drewN nq) (below_drewN (Below.refl _ _) nq)
                  have K1 := Lib.hid k1
                  have K2 := Lib.hid k2
                  have K3 := Lib.hid k3
                  have K4 := Lib.hid k4
                  have g6' : (wr.drewN nq).cell? ⟨b2, off2 + k * 7 + 6, none⟩ = some (.bool true) := g6
                  clear k1 k2 k3 k4 g0 g1 g2 g3 g4 g5 g6 hgt hgf
                  generalize wr.drewN nq = wq at *
                  go_wp2
                  go_roundw
                  case rel => exact ⟨k + 1, by omega, by go_num, waits_same K1.out (fun s => by rw [HWS.out]; simp), K2.out, K3.out, K4.out⟩
                  case measure => simp [intOf]; omega
                | false =>
                  go_wp2_with fail
                  go_quiet (fail)
                  obtain ⟨k1, k2, k3, k4⟩ := HKEEP.out (wr.drewN nq) (below_drewN (Below.refl _ _) nq)
                  have K1 := Lib.hid (k1.set_ (f' := fun s => waits (mm.take (k + 1)) (s : Int)) ht8 (by rw [HWS.out]; simp) (fun s hs => by rw [HWS.out, show ((t : Int) == (s : Int)) = false by rw [beq_eq_false_iff_ne]; omega]; simp))
                  have K2 := Lib.hid (k2.kept (only_setCell (World.grownBy.refl (wr.drewN nq) (some G)) (p := ⟨G, t, none⟩) (.inl rfl) (.bool true)) (own_off HGL.out))
                  have K3 := Lib.hid (k3.kept (only_setCell (World.grownBy.refl (wr.drewN nq) (some G)) (p := ⟨G, t, none⟩) (.inl rfl) (.bool true)) (own_off HGM.out))
                  have K4 := Lib.hid (k4.setCell (p := ⟨G, t, none⟩) HGW.out (.bool true))
                  have g6' : (wr.drewN nq).cell? ⟨b2, off2 + k * 7 + 6, none⟩ = some (.bool false) := g6
                  have g1' : (wr.drewN nq).cell? ⟨b2, off2 + k * 7 + 1, none⟩ = some (.int .i64 (t : Int)) := g1
                  have hgt' : (wr.drewN nq).cell? ⟨G, t, none⟩ = some (.bool false) := hgt
                  have hgf' : (wr.drewN nq).frozen? ⟨G, t, none⟩ = false := hgf
                  clear k1 k2 k3 k4 g0 g1 g2 g3 g4 g5 g6 hgt hgf
                  generalize wr.drewN nq = wq at *
                  go_wp2
                  go_roundw
                  case rel => exact ⟨k + 1, by omega, by go_num, K1.out, K2.out, K3.out, K4.out⟩
                  case measure => simp [intOf]; omega
            · obtain rfl : k = q := by omega
              have l5 : ¬ (k : Int) < (k : Int) := by omega
              go_wp2
              go_roundw
              case rel => exact ⟨i + 1, A4, k, c4, mm, by omega, by go_num, rfl, HMM2.out, HQ.out.symm, HMk.out, HBk.out⟩
              case measure => simp [intOf]; omega
    · have HE : Hid (∀ wr', Below w.heap.size w wr' → Calls Try.prog 19 #[] wr' fun e w' => e = .returned (.bool true) ∧ Below w.heap.size w w') := fun wr' hb => (awake_any wr').mono fun e w' hh => ⟨hh.1, held_two hb hh.2⟩
      by_cases hin : i < n0
      · have hi60 : ¬ i < 60 := fun h => hgo ⟨hin, h⟩
        have l1 : (i : Int) < (n0 : Int) := by omega
        have l2 : ¬ (i : Int) < 60 := by omega
        clear hgo
        go_wp2_with fail
        refine (HE.out _ HB.out).mono ?_
        rintro e w2 ⟨rfl, hb2⟩
        have HB2 := Lib.hid hb2
        clear hb2
        go_wp2
        go_ret
        exact ⟨rfl, HB2.out⟩
      · have l1 : ¬ (i : Int) < (n0 : Int) := by omega
        clear hgo
        go_wp2_with fail
        refine (HE.out _ HB.out).mono ?_
        rintro e w2 ⟨rfl, hb2⟩
        have HB2 := Lib.hid hb2
        clear hb2
        go_wp2
        go_ret
        exact ⟨rfl, HB2.out⟩
end Go.Proofs.Ytohnjhifnankeaa.Req
