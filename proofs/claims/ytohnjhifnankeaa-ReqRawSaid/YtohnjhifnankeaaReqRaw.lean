/-
  ReqRaw: the walk of the law.
-/
import Derived.Test.YtohnjhifnankeaaReqLaw
import Derived.Test.YtohnjhifnankeaaReqHelp
namespace Go.Proofs.Ytohnjhifnankeaa.Req
set_option linter.unusedVariables false
set_option maxRecDepth 100000
open Go.RowKit Base ReqMath ReqOpMath
open Go.Proofs.Ytohnjhifnankeaa.Field (modZ bigZ modZ_lt bigZ_lt mod_any playbig_any)
open Go.Sort (grow)
set_option linter.ambiguousOpen false
set_option linter.unusedSimpArgs false

def MkRel (w : World) (p : Nat) (o : Ro) (A : Option Addr) (n c : Nat) (vi : Value) (wr : World) : Prop := ∃ (k : Nat) (l : List Rq), k ≤ n ∧ vi = .int .i64 k ∧ l.length = n ∧ wr.ownsRow w.heap.size 29 7 (.slice A n c) n (qv l) ∧ Blk wr p 25 #[.int .i64 o.kind, .int .i64 o.tbl, .int .i64 o.wt, .int .i64 o.id, .int .i64 o.at_, .int .i64 o.cur, .bool o.done] ∧ Below w.heap.size w wr
theorem stset_far {w : World} {p g : Nat} {t : TypeId} {cs : Array Value} (h : Blk w p t cs) (hne : p ≠ g) (k : Nat) (y : Rq) : Blk (StSet w g k y) p t cs := by
  unfold StSet
  exact ((((((h.far hne _).far hne _).far hne _).far hne _).far hne _).far hne _).far hne _
/-- two lists in a block of slices, whatever they are -/
def Pair (wr : World) (G : Nat) (k : Nat) : Prop := ∃ Ax nx cx lx, wr.cell? ⟨G, k, none⟩ = some (.slice Ax nx cx) ∧ Qs wr wr.heap.size Ax nx cx lx ∧ nx ≤ 200
theorem Pair.below {wr w' : World} {G k : Nat} (h : Pair wr G k) (hb : Below wr.heap.size wr w') : Pair w' G k := by
  obtain ⟨Ax, nx, cx, lx, h1, h2, h3⟩ := h
  exact ⟨Ax, nx, cx, lx, (hb.cell (World.block_lt_of_cell? wr _ h1)).trans h1, (h2.below hb).more hb.size, h3⟩
set_option maxHeartbeats 12800000 in
theorem raw_walk (A0 : Option Addr) (n0 c0 : Nat) (l0 : List Rq) (o : Ro) (v : Int) (w : World) (h : Qs w w.heap.size A0 n0 c0 l0) :
    Calls Try.prog 4 #[.slice A0 n0 c0, rval o, .int .i64 v] w fun e w' => e = .returned (.bool true) ∧ Below w.heap.size w w' := by
  obtain ⟨o0, o1, o2, o3, o4, o5, o6⟩ := o
  unfold rval
  dsimp only
  have HE : Hid (∀ wr', Below w.heap.size w wr' → Calls Try.prog 19 #[] wr' fun e w' => e = .returned (.bool true) ∧ Below w.heap.size w w') := fun wr' hb => (awake_any wr').mono fun e w' hh => ⟨hh.1, held_two hb hh.2⟩
  have hle0 := h.le
  have HL0 := Lib.hid h.len
  have hbx : Below w.heap.size w (w.alloc (.cells #[.int .i64 o0, .int .i64 o1, .int .i64 o2, .int .i64 o3, .int .i64 o4, .int .i64 o5, .bool o6] 25)) := (Below.refl _ _).alloc (Nat.le_refl _) _
  have HX0 := Lib.hid (Blk.new w 25 #[.int .i64 o0, .int .i64 o1, .int .i64 o2, .int .i64 o3, .int .i64 o4, .int .i64 o5, .bool o6])
  have HB0 := Lib.hid hbx
  have HR := Lib.hid h
  clear h hbx
  by_cases hbig : 200 < n0
  · have l1 : (200 : Int) < (n0 : Int) := by omega
    go_enter Try.func4, Try.ntmps4
    go_wp2_with fail
    refine (HE.out _ HB0.out).mono ?_
    rintro e w2 ⟨rfl, hb2⟩
    have HB2 := Lib.hid hb2
    clear hb2
    go_wp2
    go_ret
    exact ⟨rfl, HB2.out⟩
  have l1 : ¬ (200 : Int) < (n0 : Int) := by omega
  have C0 := fun w => mod_any v 4 w (by omega) (by omega)
  have b0 := modZ_lt v (n := 4) (by omega)
  generalize modZ v 4 = m0 at C0 b0
  have D0 := Lib.hid C0
  clear C0
  obtain ⟨p, hp⟩ : ∃ p, p = w.heap.size := ⟨_, rfl⟩
  obtain ⟨W, hW⟩ : ∃ W, W = w.alloc (.cells #[.int .i64 o0, .int .i64 o1, .int .i64 o2, .int .i64 o3, .int .i64 o4, .int .i64 o5, .bool o6] 25) := ⟨_, rfl⟩
  rw [← hW] at HX0 HB0
  rw [← hp] at HX0
  have HSZ : Hid (W.heap.size = w.heap.size + 1) := by show _ = _; rw [hW]; simp
  have HP := Lib.hid hp
  have HW := Lib.hid hW
  clear hp hW
  go_enter Try.func4, Try.ntmps4
  go_wp2_with (first
    | (at_builtin
       rw [← HW.out]
       refine wpList_append_row rfl (.tmp 23) (.tmp 24) rfl qel W.heap.size (.slice (some ⟨w.heap.size + 1, 0, none⟩) 0 0) 0 [] rfl (own_empty W _ _ 7 HSZ.out.symm (Nat.le_refl _)) w.heap.size A0 n0 c0 (qv l0) rfl (Row.alloc (HR.out.below HB0.out) HB0.out.size _) (qv_one _) (by omega) (by omega) (by simp) ?_
       intro A1 c1 w1 hown1 _ hb1
       rw [Nat.zero_add, List.nil_append] at hown1
       rw [Nat.zero_add]
       have hbw := ((Below.refl W.heap.size W).alloc (Nat.le_refl _) (.cells #[] 29)).trans hb1
       have HO1 := Lib.hid (own_mono hown1 HB0.out.size)
       have HB1 := Lib.hid (held_two HB0.out hbw)
       have HX1 := Lib.hid (HX0.out.below hbw HX0.out.lt)
       have HGE : Hid (∀ g, A1 = some ⟨g, 0, none⟩ → p < g) := fun g hg => by
         have h1 := (hown1.lt g (by rw [hg]; rfl)).1
         have h2 := HSZ.out
         have h3 := HP.out
         omega
       have hc1 := (Row.of_own hown1).le
       rw [← HP.out]
       clear hown1 hb1 hbw)
    | fail)
  go_loopw [8] (fun vi wr => MkRel w p ⟨o0, o1, o2, o3, o4, o5, o6⟩ A1 n0 c1 vi wr) (fun vi _ => n0 - (intOf vi).toNat)
  case atStart => exact ⟨0, l0, by omega, rfl, HL0.out, HO1.out, HX1.out, HB1.out⟩
  case round =>
    obtain ⟨k, l, hk, rfl, hl, hown, hx, hbel⟩ := hrel
    have HB := Lib.hid hbel
    have HX := Lib.hid hx
    have HL := Lib.hid hl
    by_cases hlt : k < n0
    · have hz := hown.2
      rcases hz with ⟨_, h0⟩ | ⟨g, cap, cur0, hv, _⟩
      · omega
      simp only [Value.slice.injEq] at hv
      obtain ⟨rfl, _, rfl⟩ := hv
      obtain ⟨cur, hBg, hin, hbase⟩ := own_cell hown hl hlt
      have hgp := HGE.out g rfl
      have hpg : p ≠ g := by omega
      obtain ⟨b', off', f, e', _, q0, q1, q2, q3, q4, q5, q6, hget, _⟩ := (Qs.of_own hown).at_ hlt
      simp only [Option.some.injEq, Addr.mk.injEq, and_true] at e'
      obtain ⟨rfl, rfl⟩ := e'
      simp only [Nat.zero_add] at q0 q1 q2 q3 q4 q5 q6
      obtain ⟨f0, f1, f2, f3, f4, f5, f6⟩ := f
      dsimp only at q0 q1 q2 q3 q4 q5 q6
      have p0 := hBg.frozen (k * 7)
      have p1 := hBg.frozen (k * 7 + 1)
      have p2 := hBg.frozen (k * 7 + 2)
      have p3 := hBg.frozen (k * 7 + 3)
      have p4 := hBg.frozen (k * 7 + 4)
      have p5 := hBg.frozen (k * 7 + 5)
      have p6 := hBg.frozen (k * 7 + 6)
      have HO := Lib.hid hown
      have hgw : w.heap.size ≤ g := hbase
      have C1 := fun w => mod_any f1 8 w (by omega) (by omega)
      have C2 := fun w => mod_any f2 8 w (by omega) (by omega)
      have C4 := fun w => playbig_any f4 50 w (by omega) (by omega)
      have C5 := fun w => mod_any f5 9 w (by omega) (by omega)
      have b1 := modZ_lt f1 (n := 8) (by omega)
      have b2 := modZ_lt f2 (n := 8) (by omega)
      have b4 := bigZ_lt f4 (n := 50) (by omega)
      have b5 := modZ_lt f5 (n := 9) (by omega)
      generalize modZ f1 8 = r1 at C1 b1
      generalize modZ f2 8 = r2 at C2 b2
      generalize bigZ f4 50 = r4 at C4 b4
      generalize modZ f5 9 = r5 at C5 b5
      have E1 := Lib.hid C1
      have E2 := Lib.hid C2
      have E4 := Lib.hid C4
      have E5 := Lib.hid C5
      have l2 : (k : Int) < (n0 : Int) := by omega
      clear hown hx hbel hl hBg hin hbase hget C1 C2 C4 C5
      go_wp2_with fail
      refine (E1.out _).mono ?_
      rintro e wz ⟨rfl, rfl⟩
      go_wp2_with fail
      refine (E2.out _).mono ?_
      rintro e wz ⟨rfl, rfl⟩
      go_wp2_with fail
      refine (E4.out _).mono ?_
      rintro e wz ⟨rfl, rfl⟩
      go_wp2_with fail
      refine (E5.out _).mono ?_
      rintro e wz ⟨rfl, rfl⟩
      cases f6 with
      | true =>
        have HOS := Lib.hid (own_set HO.out HL.out hlt ⟨(k : Int) + 1, (r1 : Int), 1 + (r2 : Int), (k : Int) + 1, (r4 : Int), (r5 : Int), true⟩)
        have HBS := Lib.hid (stset_below HB.out hgw k ⟨(k : Int) + 1, (r1 : Int), 1 + (r2 : Int), (k : Int) + 1, (r4 : Int), (r5 : Int), true⟩)
        have HXS := Lib.hid (stset_far HX.out hpg k ⟨(k : Int) + 1, (r1 : Int), 1 + (r2 : Int), (k : Int) + 1, (r4 : Int), (r5 : Int), true⟩)
        unfold StSet at HOS HBS HXS
        dsimp only at HOS HBS HXS
        go_wp2
        go_roundw
        case rel => exact ⟨k + 1, _, by omega, by go_num, by rw [List.length_set]; exact HL.out, HOS.out, HXS.out, HBS.out⟩
        case measure => simp [intOf]; omega
      | false =>
        by_cases h3 : (k : Int) % 3 = (m0 : Int)
        · have y3 : ((k : Int) % 3 != (m0 : Int)) = false := by simpa using h3
          have y3' : ((k : Int) % 3 == (m0 : Int)) = true := by simpa using h3
          have HOS := Lib.hid (own_set HO.out HL.out hlt ⟨(k : Int) + 1, (r1 : Int), 1 + (r2 : Int), (k : Int) + 1, (r4 : Int), (r5 : Int), false⟩)
          have HBS := Lib.hid (stset_below HB.out hgw k ⟨(k : Int) + 1, (r1 : Int), 1 + (r2 : Int), (k : Int) + 1, (r4 : Int), (r5 : Int), false⟩)
          have HXS := Lib.hid (stset_far HX.out hpg k ⟨(k : Int) + 1, (r1 : Int), 1 + (r2 : Int), (k : Int) + 1, (r4 : Int), (r5 : Int), false⟩)
          unfold StSet at HOS HBS HXS
          dsimp only at HOS HBS HXS
          clear h3
          go_wp2_with fail
          refine (D0.out _).mono ?_
          rintro e wz ⟨rfl, rfl⟩
          go_wp2
          go_roundw
          case rel => exact ⟨k + 1, _, by omega, by go_num, by rw [List.length_set]; exact HL.out, HOS.out, HXS.out, HBS.out⟩
          case measure => simp [intOf]; omega
        · have y3 : ((k : Int) % 3 != (m0 : Int)) = true := by simpa using h3
          have y3' : ((k : Int) % 3 == (m0 : Int)) = false := by simpa using h3
          have HOS := Lib.hid (own_set HO.out HL.out hlt ⟨(k : Int) + 1, (r1 : Int), 1 + (r2 : Int), (k : Int) + 1, (r4 : Int), (r5 : Int), true⟩)
          have HBS := Lib.hid (stset_below HB.out hgw k ⟨(k : Int) + 1, (r1 : Int), 1 + (r2 : Int), (k : Int) + 1, (r4 : Int), (r5 : Int), true⟩)
          have HXS := Lib.hid (stset_far HX.out hpg k ⟨(k : Int) + 1, (r1 : Int), 1 + (r2 : Int), (k : Int) + 1, (r4 : Int), (r5 : Int), true⟩)
          unfold StSet at HOS HBS HXS
          dsimp only at HOS HBS HXS
          clear h3
          go_wp2_with fail
          refine (D0.out _).mono ?_
          rintro e wz ⟨rfl, rfl⟩
          go_wp2
          go_roundw
          case rel => exact ⟨k + 1, _, by omega, by go_num, by rw [List.length_set]; exact HL.out, HOS.out, HXS.out, HBS.out⟩
          case measure => simp [intOf]; omega
    · obtain rfl : k = n0 := by omega
      have l2 : ¬ (k : Int) < (k : Int) := by omega
      have hG := Blk.new wr 23 #[.slice A0 k c0, .slice A1 k c1]
      have hbg : Below wr.heap.size wr (wr.alloc (.cells #[.slice A0 k c0, .slice A1 k c1] 23)) := (Below.refl _ _).alloc (Nat.le_refl _) _
      have HP0 : Hid (Pair (wr.alloc (.cells #[.slice A0 k c0, .slice A1 k c1] 23)) wr.heap.size 0) := ⟨A0, k, c0, l0, hG.cell 0, (HR.out.below (hbel.trans (hbg.mono hbel.size))).more (Nat.le_trans hbel.size hbg.size), by omega⟩
      have HP1 : Hid (Pair (wr.alloc (.cells #[.slice A0 k c0, .slice A1 k c1] 23)) wr.heap.size 1) := ⟨A1, k, c1, l, hG.cell 1, ((Qs.of_own hown).below hbg).more hbg.size, by omega⟩
      have HXG := Lib.hid (hx.below hbg hx.lt)
      have HBG := Lib.hid (held_two hbel hbg)
      obtain ⟨G, hGe⟩ : ∃ G, G = wr.heap.size := ⟨_, rfl⟩
      have HGE2 := Lib.hid hGe
      clear hown hx hbel hG hbg
      go_wp2_with fail
      rw [← hGe] at HP0 HP1
      clear hGe
      go_loopw [105] (fun vi wz => ∃ j : Nat, j ≤ 2 ∧ vi = .int .i64 j ∧ Pair wz G 0 ∧ Pair wz G 1 ∧ Blk wz p 25 #[.int .i64 o0, .int .i64 o1, .int .i64 o2, .int .i64 o3, .int .i64 o4, .int .i64 o5, .bool o6] ∧ Below w.heap.size w wz) (fun vi _ => 2 - (intOf vi).toNat)
      case atStart => exact ⟨0, by omega, rfl, HP0.out, HP1.out, HXG.out, HBG.out⟩
      case round =>
        obtain ⟨j, hj, rfl, hp0, hp1, hx, hbel⟩ := hrel
        have HP0 := Lib.hid hp0
        have HP1 := Lib.hid hp1
        have HX := Lib.hid hx
        have HB := Lib.hid hbel
        rw [← HGE2.out]
        by_cases hj2 : j < 2
        · obtain ⟨Ax, nx, cx, lx, hcell, hQ, h200⟩ : Pair wr G j := by
            obtain rfl | rfl : j = 0 ∨ j = 1 := by omega
            · exact hp0
            · exact hp1
          have HQ := Lib.hid hQ
          have x0 := hx.cell 0
          have x1 := hx.cell 1
          have x2 := hx.cell 2
          have x3 := hx.cell 3
          have x4 := hx.cell 4
          have x5 := hx.cell 5
          have x6 := hx.cell 6
          have hcx := hQ.le
          have l3 : (j : Int) < 2 := by omega
          clear hp0 hp1 hx hbel hQ
          go_wp2_with fail
          refine (accept_any wr.heap.size Ax nx cx lx o1 o2 o4 wr HQ.out (Nat.le_refl _) (by omega)).mono ?_
          intro e w1 h1
          obtain ⟨Aa, ca, rfl, hoa, hb1⟩ := h1.at_
          have HA1 := Lib.hid hoa
          have HQ1 := Lib.hid (HQ.out.below hb1)
          have HB1 := Lib.hid (held_two HB.out hb1)
          have HX1 := Lib.hid (HX.out.below hb1 HX.out.lt)
          have HP01 := Lib.hid (HP0.out.below hb1)
          have HP11 := Lib.hid (HP1.out.below hb1)
          have hz1 := hb1.size
          obtain ⟨ra, hra⟩ : ∃ ra, ra = accept lx o1 o2 o4 := ⟨_, rfl⟩
          obtain ⟨rc, hrc⟩ : ∃ rc, rc = chunk lx o3 o5 o6 := ⟨_, rfl⟩
          rw [← hra] at HA1 ⊢
          have HRA := Lib.hid hra
          have HRC := Lib.hid hrc
          clear h1 hoa hb1 x0 x1 x2 x3 x4 x5 x6 hra hrc hcell
          have x1 := HX1.out.cell 1
          have x2 := HX1.out.cell 2
          have x4 := HX1.out.cell 4
          go_wp2_with fail
          refine (refaccept_any wr.heap.size Ax nx cx lx o1 o2 o4 w1 HQ1.out hz1 (by omega)).mono ?_
          intro e w2 h2
          rw [← HRA.out] at h2
          obtain ⟨Ab, cb, rfl, hob, hb2⟩ := h2.at_
          have HA2 := Lib.hid (own_keep HA1.out hb2)
          have HBB2 := Lib.hid hob
          have HQ2 := Lib.hid (HQ1.out.below (hb2.mono hz1))
          have HB2 := Lib.hid (held_two HB1.out hb2)
          have HX2 := Lib.hid (HX1.out.below hb2 HX1.out.lt)
          have HP02 := Lib.hid (HP01.out.below hb2)
          have HP12 := Lib.hid (HP11.out.below hb2)
          have hz2 := Nat.le_trans hz1 hb2.size
          clear h2 hob hb2 x1 x2 x4 HX1 HP01 HP11 HA1 HB1 HQ1 HP0 HP1 HX
          have x3 := HX2.out.cell 3
          have x5 := HX2.out.cell 5
          have x6 := HX2.out.cell 6
          go_wp2_with fail
          refine (chunk_any wr.heap.size Ax nx cx lx o3 o5 o6 w2 HQ2.out hz2 (by omega)).mono ?_
          intro e w3 h3
          rw [← HRC.out] at h3
          obtain ⟨Ac, cc, rfl, hoc, hb3⟩ := h3.at_
          have HA3 := Lib.hid (own_keep HA2.out hb3)
          have HBB3 := Lib.hid (own_keep HBB2.out hb3)
          have HC3 := Lib.hid hoc
          have HQ3 := Lib.hid (HQ2.out.below (hb3.mono hz2))
          have HB3 := Lib.hid (held_two HB2.out hb3)
          have HX3 := Lib.hid (HX2.out.below hb3 HX2.out.lt)
          have HP03 := Lib.hid (HP02.out.below hb3)
          have HP13 := Lib.hid (HP12.out.below hb3)
          have hz3 := Nat.le_trans hz2 hb3.size
          clear h3 hoc hb3 x3 x5 x6 HX2 HP02 HP12 HA2 HBB2 HB2 HQ2
          have x3 := HX3.out.cell 3
          have x5 := HX3.out.cell 5
          have x6 := HX3.out.cell 6
          go_wp2_with fail
          refine (refchunk_any wr.heap.size Ax nx cx lx o3 o5 o6 w3 HQ3.out hz3 (by omega)).mono ?_
          intro e w4 h4
          rw [← HRC.out] at h4
          obtain ⟨Ad, cd, rfl, hod, hb4⟩ := h4.at_
          have HA4 := Lib.hid (own_keep HA3.out hb4)
          have HBB4 := Lib.hid (own_keep HBB3.out hb4)
          have HC4 := Lib.hid (own_keep HC3.out hb4)
          have HD4 := Lib.hid hod
          have HQ4 := Lib.hid (HQ3.out.below (hb4.mono hz3))
          have HB4 := Lib.hid (held_two HB3.out hb4)
          have HX4 := Lib.hid (HX3.out.below hb4 HX3.out.lt)
          have HP04 := Lib.hid (HP03.out.below hb4)
          have HP14 := Lib.hid (HP13.out.below hb4)
          have hz4 := Nat.le_trans hz3 hb4.size
          clear h4 hod hb4 x3 x5 x6 HX3 HP03 HP13 HA3 HBB3 HC3 HB3 HQ3 HRA HRC
          obtain ⟨ba, hba⟩ : ∃ ba, ba = ra.isSome := ⟨_, rfl⟩
          obtain ⟨bc, hbc⟩ : ∃ bc, bc = rc.isSome := ⟨_, rfl⟩
          obtain ⟨ma, hma⟩ : ∃ ma, ma = ra.getD [] := ⟨_, rfl⟩
          obtain ⟨mc, hmc⟩ : ∃ mc, mc = rc.getD [] := ⟨_, rfl⟩
          rw [← hma] at HA4 HBB4 ⊢
          rw [← hmc] at HC4 HD4 ⊢
          rw [← hba, ← hbc]
          clear hba hbc hma hmc
          obtain ⟨na, hna⟩ : ∃ na, na = ma.length := ⟨_, rfl⟩
          obtain ⟨nc, hnc⟩ : ∃ nc, nc = mc.length := ⟨_, rfl⟩
          rw [← hna] at HA4 HBB4 ⊢
          rw [← hnc] at HC4 HD4 ⊢
          clear hna hnc
          go_wp2_with fail
          refine (May_any wr.heap.size Ax nx cx lx w4 HQ4.out hz4 (by omega)).mono ?_
          rintro e w5 ⟨rfl, hg⟩
          have hb5 := hg.below
          have HA5 := Lib.hid (own_keep HA4.out hb5)
          have HBB5 := Lib.hid (own_keep HBB4.out hb5)
          have HC5 := Lib.hid (own_keep HC4.out hb5)
          have HD5 := Lib.hid (own_keep HD4.out hb5)
          have HQ5 := Lib.hid (HQ4.out.below (hb5.mono hz4))
          have HB5 := Lib.hid (held_two HB4.out hb5)
          have HX5 := Lib.hid (HX4.out.below hb5 HX4.out.lt)
          have HP05 := Lib.hid (HP04.out.below hb5)
          have HP15 := Lib.hid (HP14.out.below hb5)
          have hz5 := Nat.le_trans hz4 hb5.size
          clear hg hb5 HX4 HP04 HP14 HA4 HBB4 HC4 HD4 HB4 HQ4
          go_wp2_with fail
          refine (refmay_any wr.heap.size Ax nx cx lx w5 HQ5.out hz5).mono ?_
          rintro e w6 ⟨rfl, hg⟩
          have hb6 := hg.below
          have HA6 := Lib.hid (own_keep HA5.out hb6)
          have HBB6 := Lib.hid (own_keep HBB5.out hb6)
          have HC6 := Lib.hid (own_keep HC5.out hb6)
          have HD6 := Lib.hid (own_keep HD5.out hb6)
          have HQ6 := Lib.hid (HQ5.out.below (hb6.mono hz5))
          have HB6 := Lib.hid (held_two HB5.out hb6)
          have HX6 := Lib.hid (HX5.out.below hb6 HX5.out.lt)
          have HP06 := Lib.hid (HP05.out.below hb6)
          have HP16 := Lib.hid (HP15.out.below hb6)
          have hz6 := Nat.le_trans hz5 hb6.size
          clear hg hb6 HX5 HP05 HP15 HA5 HBB5 HC5 HD5 HB5 HQ5
          generalize may lx = bm
          have y1 : (bm != bm) = false := by simp
          have y2 : (ba != ba) = false := by simp
          have y3 : (bc != bc) = false := by simp
          have y1' : (bm == bm) = true := by simp
          have y2' : (ba == ba) = true := by simp
          have y3' : (bc == bc) = true := by simp
          go_wp2_with fail
          refine (qplain_same w6.heap.size w6.heap.size Aa Ab na na ca cb ma w6 (Qs.of_own HA6.out) (Qs.of_own HBB6.out) (Nat.le_refl _) (Nat.le_refl _)).mono ?_
          rintro e w7 ⟨rfl, hb7⟩
          have HC7 := Lib.hid (own_keep HC6.out hb7)
          have HD7 := Lib.hid (own_keep HD6.out hb7)
          have HQ7 := Lib.hid (HQ6.out.below (hb7.mono hz6))
          have HB7 := Lib.hid (held_two HB6.out hb7)
          have HX7 := Lib.hid (HX6.out.below hb7 HX6.out.lt)
          have HP07 := Lib.hid (HP06.out.below hb7)
          have HP17 := Lib.hid (HP16.out.below hb7)
          have hz7 := Nat.le_trans hz6 hb7.size
          clear hb7 HX6 HP06 HP16 HA6 HBB6 HC6 HD6 HB6 HQ6
          go_wp2_with fail
          refine (qplain_same w7.heap.size w7.heap.size Ac Ad nc nc cc cd mc w7 (Qs.of_own HC7.out) (Qs.of_own HD7.out) (Nat.le_refl _) (Nat.le_refl _)).mono ?_
          rintro e w8 ⟨rfl, hb8⟩
          have HQ8 := Lib.hid (HQ7.out.below (hb8.mono hz7))
          have HB8 := Lib.hid (held_two HB7.out hb8)
          have HX8 := Lib.hid (HX7.out.below hb8 HX7.out.lt)
          have HP08 := Lib.hid (HP07.out.below hb8)
          have HP18 := Lib.hid (HP17.out.below hb8)
          have hz8 := Nat.le_trans hz7 hb8.size
          clear hb8 HX7 HP07 HP17 HC7 HD7 HB7 HQ7
          go_wp2_with fail
          refine (Open_any wr.heap.size Ax nx cx lx w8 HQ8.out hz8 (by omega)).mono ?_
          rintro e w9 ⟨A9, c9, rfl, ho9, hb9⟩
          have HO9 := Lib.hid ho9
          have HQ9 := Lib.hid (HQ8.out.below (hb9.mono hz8))
          have HB9 := Lib.hid (held_two HB8.out hb9)
          have HX9 := Lib.hid (HX8.out.below hb9 HX8.out.lt)
          have HP09 := Lib.hid (HP08.out.below hb9)
          have HP19 := Lib.hid (HP18.out.below hb9)
          have hz9 := Nat.le_trans hz8 hb9.size
          clear ho9 hb9 HX8 HP08 HP18 HB8 HQ8
          go_wp2_with fail
          refine (refopen_any wr.heap.size Ax nx cx lx w9 HQ9.out hz9 (by omega)).mono ?_
          rintro e w10 ⟨A10, c10, rfl, ho10, hb10⟩
          have HO10 := Lib.hid ho10
          have HO10' := Lib.hid (own_keep HO9.out hb10)
          have HB10 := Lib.hid (held_two HB9.out hb10)
          have HX10 := Lib.hid (HX9.out.below hb10 HX9.out.lt)
          have HP010 := Lib.hid (HP09.out.below hb10)
          have HP110 := Lib.hid (HP19.out.below hb10)
          clear ho10 hb10 HX9 HP09 HP19 HB9 HQ9 HO9
          go_wp2_with fail
          refine (qplain_same w10.heap.size w10.heap.size A9 A10 _ _ c9 c10 (opens lx) w10 (Qs.of_own HO10'.out) (Qs.of_own HO10.out) (Nat.le_refl _) (Nat.le_refl _)).mono ?_
          rintro e w11 ⟨rfl, hb11⟩
          have HB11 := Lib.hid (held_two HB10.out hb11)
          have HX11 := Lib.hid (HX10.out.below hb11 HX10.out.lt)
          have HP011 := Lib.hid (HP010.out.below hb11)
          have HP111 := Lib.hid (HP110.out.below hb11)
          clear hb11 HX10 HP010 HP110 HB10 HO10 HO10'
          go_wp2
          go_roundw
          case rel => exact ⟨j + 1, by omega, by go_num, HP011.out, HP111.out, HX11.out, HB11.out⟩
          case measure => simp [intOf]; omega
        · have l3 : ¬ (j : Int) < 2 := by omega
          clear hp0 hp1 hx hbel
          go_wp2_with fail
          refine (HE.out _ HB.out).mono ?_
          rintro e w2 ⟨rfl, hb2⟩
          have HB2 := Lib.hid hb2
          clear hb2
          go_wp2
          go_ret
          exact ⟨rfl, HB2.out⟩
theorem raw_walk2 (A0 : Option Addr) (n0 c0 : Nat) (l0 : List Rq) (o : Ro) (v : Int) (vo : Value) (w : World) (h : Qs w w.heap.size A0 n0 c0 l0) (ho : vo = rval o) :
    Calls Try.prog 4 #[.slice A0 n0 c0, vo, .int .i64 v] w fun e w' => e = .returned (.bool true) ∧ Below w.heap.size w w' := by
  subst ho
  exact raw_walk A0 n0 c0 l0 o v w h
end Go.Proofs.Ytohnjhifnankeaa.Req
