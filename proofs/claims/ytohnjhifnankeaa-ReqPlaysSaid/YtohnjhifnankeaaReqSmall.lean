/-
  Contracts of the statements' own functions on requests: small, do, awake.
-/
import Derived.Test.YtohnjhifnankeaaReqRefDo
import Derived.Test.YtohnjhifnankeaaReqOpMem
import Derived.Deep.RegionHeld3
import Derived.BigRegion
import Derived.Deep.DeepCutAuto
namespace Go.Proofs.Ytohnjhifnankeaa.Req
set_option linter.unusedVariables false
set_option maxRecDepth 100000
open Go.RowKit Base ReqMath ReqOpMath
open Go.Proofs.Ytohnjhifnankeaa.Field (modZ bigZ modZ_lt bigZ_lt mod_any playbig_any)
open Go.Sort (grow)
set_option linter.ambiguousOpen false
set_option linter.unusedSimpArgs false

def modI (v m : Int) : Int := (modZ v m.toNat : Int)
theorem modI_mod (v : Int) (n : Nat) : modI v (n : Int) = (modZ v n : Int) := by unfold modI; rw [Int.toNat_natCast]
theorem modC (v m : Int) (w : World) (h0 : 0 < m) (h1 : m ≤ 1099511627776) :
    Calls Try.prog 9 #[.int .i64 v, .int .i64 m] w fun e w' => e = .returned (.int .i64 (modI v m)) ∧ w = w' := by
  obtain ⟨k, rfl⟩ := Int.eq_ofNat_of_zero_le (show 0 ≤ m by omega)
  rw [modI_mod]
  exact mod_any v k w (by omega) (by omega)

def SmallCut (w : World) (o0 a1 a2 a3 a4 : Int) (o : Ro) (v : Value) (wx : World) : Prop := ∃ C, v = .pointer (some ⟨C, 0, none⟩) ∧ Blk wx C 25 #[.int .i64 o0, .int .i64 a1, .int .i64 a2, .int .i64 a3, .int .i64 a4, .int .i64 0, .bool o.done] ∧ Blk wx w.heap.size 25 #[.int .i64 o.kind, .int .i64 o.tbl, .int .i64 o.wt, .int .i64 o.id, .int .i64 o.at_, .int .i64 o.cur, .bool o.done] ∧ Blk wx (w.heap.size + 1) 25 #[.int .i64 0, .int .i64 0, .int .i64 0, .int .i64 0, .int .i64 0, .int .i64 0, .bool false] ∧ w.heap.size + 1 < C ∧ Below w.heap.size w wx
set_option maxHeartbeats 6400000 in
theorem small_any (B : Nat) (A : Option Addr) (n c : Nat) (l : List Rq) (o : Ro) (w : World) (h : Qs w B A n c l) (hB : B ≤ w.heap.size) (hm : may l = true) :
    Calls Try.prog 7 #[.slice A n c, rval o] w fun e w' => e = .returned (rval (small l o)) ∧ Below w.heap.size w w' := by
  have hle := h.le
  have HL := Lib.hid h.len
  have HR := Lib.hid h
  have hn64 : n ≤ 64 := by have := may_len hm; rw [HL.out] at this; exact this
  have HM := Lib.hid hm
  have hba := baseAt_in hm
  have HBE : Hid (n = 0 → baseAt l = 1) := fun h0 => by unfold baseAt; rw [if_pos (by rw [HL.out]; exact h0)]
  have HBF : Hid (∀ m f, n = m + 1 → l[m]? = some f → baseAt l = f.at_) := fun m f hn hf => by unfold baseAt; rw [if_neg (by rw [HL.out]; omega)]; exact lastAt_last (by rw [HL.out, hn]) hf
  have HSM : Hid (∀ o' : Ro, small l o' = if modZ o'.kind 11 = 10 then o' else ⟨o'.kind, modZ o'.tbl 8, 1 + (modZ o'.wt 8 : Int), 1 + (modZ o'.id (n + 1) : Int), baseAt l + (bigZ o'.at_ 3 : Int), (bigZ o'.cur 9 : Int) + curOf l (1 + (modZ o'.id (n + 1) : Int)), o'.done⟩) := fun o' => by show _ = _; unfold small; rw [HL.out]
  clear h hm
  obtain ⟨o0, o1, o2, o3, o4, o5, o6⟩ := o
  have HSO := Lib.hid (HSM.out ⟨o0, o1, o2, o3, o4, o5, o6⟩)
  dsimp only at HSO
  unfold rval
  dsimp only
  have C0 := fun w => mod_any o0 11 w (by omega) (by omega)
  have E1 : modI o1 8 = (modZ o1 8 : Int) := rfl
  have E2 : modI o2 8 = (modZ o2 8 : Int) := rfl
  have E3 : modI o3 ((n : Int) + 1) = (modZ o3 (n + 1) : Int) := by rw [show (n : Int) + 1 = ((n + 1 : Nat) : Int) by omega, modI_mod]
  have C4 := fun w => playbig_any o4 3 w (by omega) (by omega)
  have C5 := fun w => playbig_any o5 9 w (by omega) (by omega)
  have b0 := modZ_lt o0 (n := 11) (by omega)
  have b1 := modZ_lt o1 (n := 8) (by omega)
  have b2 := modZ_lt o2 (n := 8) (by omega)
  have b3 := modZ_lt o3 (n := n + 1) (by omega)
  have b4 := bigZ_lt o4 (n := 3) (by omega)
  have b5 := bigZ_lt o5 (n := 9) (by omega)
  generalize modZ o0 11 = m0 at C0 b0 HSO
  generalize modZ o1 8 = m1 at E1 b1 HSO
  generalize modZ o2 8 = m2 at E2 b2 HSO
  generalize modZ o3 (n + 1) = m3 at E3 b3 HSO
  generalize bigZ o4 3 = m4 at C4 b4 HSO
  generalize bigZ o5 9 = m5 at C5 b5 HSO
  have D0 := Lib.hid C0
  have D1 := Lib.hid E1
  have D2 := Lib.hid E2
  have D3 := Lib.hid E3
  have MC : Hid (∀ v m w, 0 < m → m ≤ 1099511627776 → Calls Try.prog 9 #[.int .i64 v, .int .i64 m] w fun e w' => e = .returned (.int .i64 (modI v m)) ∧ w = w') := modC
  have D4 := Lib.hid C4
  have D5 := Lib.hid C5
  have W0 := Lib.hid (show IntKind.i64.wrap ((n : Int) + 1) = (n : Int) + 1 from IntWalk.i64_in _ (by omega))
  have W1 := Lib.hid (show IntKind.i64.wrap (1 + (m2 : Int)) = 1 + (m2 : Int) from IntWalk.i64_in _ (by omega))
  have W2 := Lib.hid (show IntKind.i64.wrap (1 + (m3 : Int)) = 1 + (m3 : Int) from IntWalk.i64_in _ (by omega))
  have W3 := Lib.hid (show IntKind.i64.wrap (baseAt l + (m4 : Int)) = baseAt l + (m4 : Int) from IntWalk.i64_in _ (by omega))
  clear C0 E1 E2 E3 C4 C5
  go_enter Try.func7, Try.ntmps7
  go_wp2_with fail
  refine (D0.out _).mono ?_
  rintro e w1 ⟨rfl, rfl⟩
  by_cases h10 : m0 = 10
  · have t1 : ((m0 : Int) == 10) = true := by simp; omega
    have HS : Hid (small l ⟨o0, o1, o2, o3, o4, o5, o6⟩ = ⟨o0, o1, o2, o3, o4, o5, o6⟩) := by show _ = _; rw [HSO.out, if_pos h10]
    go_wp2
    refine bodyPost_ret (v := .agg #[.int .i64 o0, .int .i64 o1, .int .i64 o2, .int .i64 o3, .int .i64 o4, .int .i64 o5, .bool o6]) (by simp [results, Try.results7, go_sem]) rfl ?_
    rw [HS.out]
    exact ⟨rfl, by repeat (first | exact Below.refl _ _ | refine Below.setCell ?_ (Nat.le_succ _) _ | refine Below.alloc ?_ (by simp) _)⟩
  have t1 : ((m0 : Int) == 10) = false := by simp; omega
  have HS : Hid (small l ⟨o0, o1, o2, o3, o4, o5, o6⟩ = ⟨o0, m1, 1 + (m2 : Int), 1 + (m3 : Int), baseAt l + (m4 : Int), (m5 : Int) + curOf l (1 + (m3 : Int)), o6⟩) := by show _ = _; rw [HSO.out, if_neg h10]
  have HH10 := Lib.hid h10
  clear h10 HSO
  have hx : Blk ((w.alloc (.cells #[.int .i64 o0, .int .i64 o1, .int .i64 o2, .int .i64 o3, .int .i64 o4, .int .i64 o5, .bool o6] 25)).alloc (.cells #[.int .i64 0, .int .i64 0, .int .i64 0, .int .i64 0, .int .i64 0, .int .i64 0, .bool false] 25)) w.heap.size 25 #[.int .i64 o0, .int .i64 o1, .int .i64 o2, .int .i64 o3, .int .i64 o4, .int .i64 o5, .bool o6] := (Blk.new _ _ _).alloc _
  have hy : Blk ((w.alloc (.cells #[.int .i64 o0, .int .i64 o1, .int .i64 o2, .int .i64 o3, .int .i64 o4, .int .i64 o5, .bool o6] 25)).alloc (.cells #[.int .i64 0, .int .i64 0, .int .i64 0, .int .i64 0, .int .i64 0, .int .i64 0, .bool false] 25)) (w.heap.size + 1) 25 #[.int .i64 0, .int .i64 0, .int .i64 0, .int .i64 0, .int .i64 0, .int .i64 0, .bool false] := by have := Blk.new (w.alloc (.cells #[.int .i64 o0, .int .i64 o1, .int .i64 o2, .int .i64 o3, .int .i64 o4, .int .i64 o5, .bool o6] 25)) 25 #[.int .i64 0, .int .i64 0, .int .i64 0, .int .i64 0, .int .i64 0, .int .i64 0, .bool false]; simpa using this
  have hw : Below w.heap.size w ((w.alloc (.cells #[.int .i64 o0, .int .i64 o1, .int .i64 o2, .int .i64 o3, .int .i64 o4, .int .i64 o5, .bool o6] 25)).alloc (.cells #[.int .i64 0, .int .i64 0, .int .i64 0, .int .i64 0, .int .i64 0, .int .i64 0, .bool false] 25)) := ((Below.refl _ _).alloc (Nat.le_refl _) _).alloc (by simp) _
  generalize ((w.alloc (.cells #[.int .i64 o0, .int .i64 o1, .int .i64 o2, .int .i64 o3, .int .i64 o4, .int .i64 o5, .bool o6] 25)).alloc (.cells #[.int .i64 0, .int .i64 0, .int .i64 0, .int .i64 0, .int .i64 0, .int .i64 0, .bool false] 25)) = W at hx hy hw ⊢
  have HX := Lib.hid hx
  have HY := Lib.hid hy
  have HW := Lib.hid hw
  have HRW := Lib.hid (HR.out.below (hw.mono hB))
  clear hx hy hw
  obtain ⟨ba, hba2⟩ : ∃ ba, ba = baseAt l := ⟨_, rfl⟩
  rw [← hba2] at hba HS W3
  have HBA2 := Lib.hid hba2
  clear hba2
  rcases Nat.eq_zero_or_pos n with h0 | h0
  · have l1 : ¬ (0 : Int) < (n : Int) := by omega
    have hb1 : ba = 1 := by rw [HBA2.out]; exact HBE.out h0
    subst hb1
    have HH0 := Lib.hid h0
    clear h0
    go_upto_region 6 with fail
    go_cut [6] (fun v wx => SmallCut w o0 m1 (1 + (m2 : Int)) (1 + (m3 : Int)) (1 + (m4 : Int)) ⟨o0, o1, o2, o3, o4, o5, o6⟩ v wx)
    case first =>
     go_region_held3 (fun w' => w'.cell? ⟨w.heap.size, 0, none⟩ = some (.int .i64 o0) ∧ w'.cell? ⟨w.heap.size, 1, none⟩ = some (.int .i64 o1) ∧ w'.cell? ⟨w.heap.size, 2, none⟩ = some (.int .i64 o2) ∧ w'.cell? ⟨w.heap.size, 4, none⟩ = some (.int .i64 o4) ∧ w'.cell? ⟨w.heap.size, 3, none⟩ = some (.int .i64 o3) ∧ w'.cell? ⟨w.heap.size, 6, none⟩ = some (.bool o6))
       (first
         | exact ⟨HX.out.cell 0, HX.out.cell 1, HX.out.cell 2, HX.out.cell 4, HX.out.cell 3, HX.out.cell 6⟩
         | exact ⟨(HX.out.alloc _).cell 0, (HX.out.alloc _).cell 1, (HX.out.alloc _).cell 2, (HX.out.alloc _).cell 4, (HX.out.alloc _).cell 3, (HX.out.alloc _).cell 6⟩
         | assumption)
       (first
         | (go_at_call 9; refine (MC.out _ _ _ (by first | omega | (rw [W0.out]; omega)) (by first | omega | (rw [W0.out]; omega))).mono ?_; rintro e w1 ⟨rfl, rfl⟩)
         | (go_at_call 20; refine (D4.out _).mono ?_; rintro e w1 ⟨rfl, rfl⟩)
         | fail)
     all_goals (
       simp only [W0.out, D1.out, D2.out, D3.out, W1.out, W2.out, W3.out]
       go_wp2_with fail
       go_meet
       exact ⟨W.heap.size, rfl, Blk.new W _ _, HX.out.alloc _, HY.out.alloc _, HY.out.lt, (HW.out.alloc HW.out.size _).drew⟩)
    case rest =>
     obtain ⟨C, rfl, hc, hx2, hy2, hlt, hbel⟩ := hcut
     have fc5 := hc.frozen 5
     have x5 := hx2.cell 5
     have c3 := hc.cell 3
     have c5 := hc.cell 5
     have HC5 : Hid (Blk (wc.setCell ⟨C, 5, none⟩ (.int .i64 m5)) C 25 #[.int .i64 o0, .int .i64 m1, .int .i64 (1 + (m2 : Int)), .int .i64 (1 + (m3 : Int)), .int .i64 (1 + (m4 : Int)), .int .i64 m5, .bool o6]) := hc.set_ 5 _
     have HY5 := Lib.hid (hy2.far (p := ⟨C, 5, none⟩) (show w.heap.size + 1 ≠ C by omega) (.int .i64 m5))
     have HB5 := Lib.hid (hbel.setCell (p := ⟨C, 5, none⟩) (show w.heap.size ≤ C by omega) (.int .i64 m5))
     have HR5 := Lib.hid ((HR.out.below (hbel.mono hB)).below ((Below.refl B wc).setCell (p := ⟨C, 5, none⟩) (show B ≤ C by omega) (.int .i64 m5)))
     clear hbel
     have hRC : w.heap.size + 1 ≠ C := by omega
     have hCR : C ≠ w.heap.size + 1 := by omega
     have hXC : w.heap.size ≠ C := by omega
     have hCX : C ≠ w.heap.size := by omega
     have hpR : w.heap.size ≤ w.heap.size + 1 := Nat.le_succ _
     have hpC : w.heap.size ≤ C := by omega
     clear hc hx2 hy2
     go_wp2_with fail
     refine (D5.out _).mono ?_
     rintro e w1 ⟨rfl, rfl⟩
     by_cases hm3 : m3 < n
     · exact absurd hm3 (by rw [HH0.out]; omega)
     · have HCU : Hid (curOf l (1 + (m3 : Int)) = 0) := by show _ = _; unfold curOf; rw [got_none (.inr (by rw [HL.out]; omega))]
       have z1 : decide (1 + (m3 : Int) ≤ (n : Int)) = false := by first | (simp; done) | (simp; omega)
       have HC6 := HC5
       have HY6 := HY5
       have HB6 := HB5
       go_upto_region 10 with fail
       clear c3 c5 x5 fc5
       generalize wc.setCell ⟨C, 5, none⟩ (.int .i64 m5) = W6 at *
       go_upto_region 10 with fail
       have HCZ : Hid (Blk W6 C 25 #[.int .i64 o0, .int .i64 m1, .int .i64 (1 + (m2 : Int)), .int .i64 (1 + (m3 : Int)), .int .i64 (1 + (m4 : Int)), .int .i64 (m5 : Int), .bool o6]) := HC6.out
       have HYZ := HY6.out
       have c0 := HCZ.out.cell 0
       have c1 := HCZ.out.cell 1
       have c2 := HCZ.out.cell 2
       have c3 := HCZ.out.cell 3
       have c4 := HCZ.out.cell 4
       have c5 := HCZ.out.cell 5
       have c6 := HCZ.out.cell 6
       have r0 := HYZ.cell 0
       have r1 := HYZ.cell 1
       have r2 := HYZ.cell 2
       have r3 := HYZ.cell 3
       have r4 := HYZ.cell 4
       have r5 := HYZ.cell 5
       have r6 := HYZ.cell 6
       have fr0 := HYZ.frozen 0
       have fr1 := HYZ.frozen 1
       have fr2 := HYZ.frozen 2
       have fr3 := HYZ.frozen 3
       have fr4 := HYZ.frozen 4
       have fr5 := HYZ.frozen 5
       have fr6 := HYZ.frozen 6
       clear HYZ
       go_wp2
       refine bodyPost_ret (v := .agg #[.int .i64 o0, .int .i64 m1, .int .i64 (1 + (m2 : Int)), .int .i64 (1 + (m3 : Int)), .int .i64 (1 + (m4 : Int)), .int .i64 (m5 : Int), .bool o6]) (by simp [results, Try.results7, go_sem, r0, r1, r2, r3, r4, r5, r6]) rfl ?_
       rw [HS.out, HCU.out]
       refine ⟨by rw [Int.add_zero], ?_⟩
       repeat (refine Below.setCell ?_ hpR _)
       exact HB6.out
  · obtain ⟨mm, hmm⟩ : ∃ mm, n = mm + 1 := ⟨n - 1, by omega⟩
    obtain ⟨b, off, f, rfl, hb, q0, q1, q2, q3, q4, q5, q6, hget, _⟩ := HRW.out.at_ (k := mm) (by omega)
    have hfa : f.at_ = ba := by rw [HBA2.out]; exact (HBF.out mm f hmm hget).symm
    rw [hfa] at q3
    have l1 : (0 : Int) < (n : Int) := by omega
    have l2 : (n : Int) - 1 = (mm : Int) := by omega
    have l3 : (mm : Int) < (n : Int) := by omega
    have HMM := Lib.hid hmm
    clear q0 q1 q2 q4 q5 q6 hget hmm hfa
    go_upto_region 6 with fail
    go_cut [6] (fun v wx => SmallCut w o0 m1 (1 + (m2 : Int)) (1 + (m3 : Int)) (ba + (m4 : Int)) ⟨o0, o1, o2, o3, o4, o5, o6⟩ v wx)
    case first =>
     go_region_held3 (fun w' => w'.cell? ⟨w.heap.size, 0, none⟩ = some (.int .i64 o0) ∧ w'.cell? ⟨w.heap.size, 1, none⟩ = some (.int .i64 o1) ∧ w'.cell? ⟨w.heap.size, 2, none⟩ = some (.int .i64 o2) ∧ w'.cell? ⟨w.heap.size, 4, none⟩ = some (.int .i64 o4) ∧ w'.cell? ⟨w.heap.size, 3, none⟩ = some (.int .i64 o3) ∧ w'.cell? ⟨w.heap.size, 6, none⟩ = some (.bool o6))
       (first
         | exact ⟨HX.out.cell 0, HX.out.cell 1, HX.out.cell 2, HX.out.cell 4, HX.out.cell 3, HX.out.cell 6⟩
         | exact ⟨(HX.out.alloc _).cell 0, (HX.out.alloc _).cell 1, (HX.out.alloc _).cell 2, (HX.out.alloc _).cell 4, (HX.out.alloc _).cell 3, (HX.out.alloc _).cell 6⟩
         | assumption)
       (first
         | (go_at_call 9; refine (MC.out _ _ _ (by first | omega | (rw [W0.out]; omega)) (by first | omega | (rw [W0.out]; omega))).mono ?_; rintro e w1 ⟨rfl, rfl⟩)
         | (go_at_call 20; refine (D4.out _).mono ?_; rintro e w1 ⟨rfl, rfl⟩)
         | fail)
     all_goals (
       simp only [W0.out, D1.out, D2.out, D3.out, W1.out, W2.out, W3.out]
       go_wp2_with fail
       go_meet
       exact ⟨W.heap.size, rfl, Blk.new W _ _, HX.out.alloc _, HY.out.alloc _, HY.out.lt, (HW.out.alloc HW.out.size _).drew⟩)
    case rest =>
     obtain ⟨C, rfl, hc, hx2, hy2, hlt, hbel⟩ := hcut
     have fc5 := hc.frozen 5
     have x5 := hx2.cell 5
     have c3 := hc.cell 3
     have c5 := hc.cell 5
     have HC5 : Hid (Blk (wc.setCell ⟨C, 5, none⟩ (.int .i64 m5)) C 25 #[.int .i64 o0, .int .i64 m1, .int .i64 (1 + (m2 : Int)), .int .i64 (1 + (m3 : Int)), .int .i64 (ba + (m4 : Int)), .int .i64 m5, .bool o6]) := hc.set_ 5 _
     have HY5 := Lib.hid (hy2.far (p := ⟨C, 5, none⟩) (show w.heap.size + 1 ≠ C by omega) (.int .i64 m5))
     have HB5 := Lib.hid (hbel.setCell (p := ⟨C, 5, none⟩) (show w.heap.size ≤ C by omega) (.int .i64 m5))
     have HR5 := Lib.hid ((HR.out.below (hbel.mono hB)).below ((Below.refl B wc).setCell (p := ⟨C, 5, none⟩) (show B ≤ C by omega) (.int .i64 m5)))
     clear hbel
     have hRC : w.heap.size + 1 ≠ C := by omega
     have hCR : C ≠ w.heap.size + 1 := by omega
     have hXC : w.heap.size ≠ C := by omega
     have hCX : C ≠ w.heap.size := by omega
     have hpR : w.heap.size ≤ w.heap.size + 1 := Nat.le_succ _
     have hpC : w.heap.size ≤ C := by omega
     clear hc hx2 hy2
     go_wp2_with fail
     refine (D5.out _).mono ?_
     rintro e w1 ⟨rfl, rfl⟩
     by_cases hm3 : m3 < n
     · obtain ⟨b', off', f', hA', hb', d0, d1, d2, d3, d4, d5, d6, hg', _⟩ := HR5.out.at_ hm3
       have hbC : b' ≠ C := by omega
       have hCb : C ≠ b' := by omega
       injection hA' with hA'
       injection hA' with e1 e2
       subst b' off'
       have HCU : Hid (curOf l (1 + (m3 : Int)) = f'.cur) := by show _ = _; unfold curOf; rw [got_some (show 1 + (m3 : Int) = (m3 : Int) + 1 by omega) hg']
       have hfc := inb_parts (may_in HM.out hg').2
       obtain ⟨_, _, _, _, _, _, k1, k2, _, _⟩ := hfc
       have z1 : decide (1 + (m3 : Int) ≤ (n : Int)) = true := by first | (simp; done) | (simp; omega)
       have z1' : 1 + (m3 : Int) ≤ (n : Int) := by omega
       have z2 : 1 + (m3 : Int) - 1 = (m3 : Int) := by omega
       have z3 : (m3 : Int) < (n : Int) := by omega
       have z4 : IntKind.i64.wrap (1 + (m3 : Int) - 1) = (m3 : Int) := by rw [IntKind.wrap_i64]; omega
       clear d0 d1 d2 d3 d5 d6 hg'
       go_upto_region 9 with fail
       clear c3 c5 x5 fc5
       generalize wc.setCell ⟨C, 5, none⟩ (.int .i64 m5) = W5 at *
       have c3 := HC5.out.cell 3
       have c5 := HC5.out.cell 5
       have fc5 := HC5.out.frozen 5
       have W9 := Lib.hid (show IntKind.i64.wrap ((m5 : Int) + f'.cur) = (m5 : Int) + f'.cur from IntWalk.i64_in _ (by omega))
       have HC6 : Hid (Blk ((W5.setCell ⟨C, 5, none⟩ (.int .i64 ((m5 : Int) + f'.cur))).drew) C 25 #[.int .i64 o0, .int .i64 m1, .int .i64 (1 + (m2 : Int)), .int .i64 (1 + (m3 : Int)), .int .i64 (ba + (m4 : Int)), .int .i64 ((m5 : Int) + f'.cur), .bool o6]) := Lib.hid (show Blk (W5.setCell ⟨C, 5, none⟩ (.int .i64 ((m5 : Int) + f'.cur))) C _ _ from HC5.out.set_ 5 _)
       have HY6 : Hid (Blk ((W5.setCell ⟨C, 5, none⟩ (.int .i64 ((m5 : Int) + f'.cur))).drew) (w.heap.size + 1) 25 #[.int .i64 0, .int .i64 0, .int .i64 0, .int .i64 0, .int .i64 0, .int .i64 0, .bool false]) := Lib.hid (show Blk (W5.setCell ⟨C, 5, none⟩ (.int .i64 ((m5 : Int) + f'.cur))) (w.heap.size + 1) _ _ from HY5.out.far hRC _)
       have HB6 : Hid (Below w.heap.size w ((W5.setCell ⟨C, 5, none⟩ (.int .i64 ((m5 : Int) + f'.cur))).drew)) := (HB5.out.setCell hpC _).drew
       go_region
       clear c3 c5 fc5 d4
       generalize (W5.setCell ⟨C, 5, none⟩ (.int .i64 ((m5 : Int) + f'.cur))).drew = W6 at *
       go_upto_region 10 with fail
       have HCZ : Hid (Blk W6 C 25 #[.int .i64 o0, .int .i64 m1, .int .i64 (1 + (m2 : Int)), .int .i64 (1 + (m3 : Int)), .int .i64 (ba + (m4 : Int)), .int .i64 ((m5 : Int) + f'.cur), .bool o6]) := HC6.out
       have HYZ := HY6.out
       have c0 := HCZ.out.cell 0
       have c1 := HCZ.out.cell 1
       have c2 := HCZ.out.cell 2
       have c3 := HCZ.out.cell 3
       have c4 := HCZ.out.cell 4
       have c5 := HCZ.out.cell 5
       have c6 := HCZ.out.cell 6
       have r0 := HYZ.cell 0
       have r1 := HYZ.cell 1
       have r2 := HYZ.cell 2
       have r3 := HYZ.cell 3
       have r4 := HYZ.cell 4
       have r5 := HYZ.cell 5
       have r6 := HYZ.cell 6
       have fr0 := HYZ.frozen 0
       have fr1 := HYZ.frozen 1
       have fr2 := HYZ.frozen 2
       have fr3 := HYZ.frozen 3
       have fr4 := HYZ.frozen 4
       have fr5 := HYZ.frozen 5
       have fr6 := HYZ.frozen 6
       clear HYZ
       go_wp2
       refine bodyPost_ret (v := .agg #[.int .i64 o0, .int .i64 m1, .int .i64 (1 + (m2 : Int)), .int .i64 (1 + (m3 : Int)), .int .i64 (ba + (m4 : Int)), .int .i64 ((m5 : Int) + f'.cur), .bool o6]) (by simp [results, Try.results7, go_sem, r0, r1, r2, r3, r4, r5, r6]) rfl ?_
       rw [HS.out, HCU.out]
       refine ⟨rfl, ?_⟩
       repeat (refine Below.setCell ?_ hpR _)
       exact HB6.out
     · have HCU : Hid (curOf l (1 + (m3 : Int)) = 0) := by show _ = _; unfold curOf; rw [got_none (.inr (by rw [HL.out]; omega))]
       have z1 : decide (1 + (m3 : Int) ≤ (n : Int)) = false := by first | (simp; done) | (simp; omega)
       have HC6 := HC5
       have HY6 := HY5
       have HB6 := HB5
       go_upto_region 10 with fail
       clear c3 c5 x5 fc5
       generalize wc.setCell ⟨C, 5, none⟩ (.int .i64 m5) = W6 at *
       go_upto_region 10 with fail
       have HCZ : Hid (Blk W6 C 25 #[.int .i64 o0, .int .i64 m1, .int .i64 (1 + (m2 : Int)), .int .i64 (1 + (m3 : Int)), .int .i64 (ba + (m4 : Int)), .int .i64 (m5 : Int), .bool o6]) := HC6.out
       have HYZ := HY6.out
       have c0 := HCZ.out.cell 0
       have c1 := HCZ.out.cell 1
       have c2 := HCZ.out.cell 2
       have c3 := HCZ.out.cell 3
       have c4 := HCZ.out.cell 4
       have c5 := HCZ.out.cell 5
       have c6 := HCZ.out.cell 6
       have r0 := HYZ.cell 0
       have r1 := HYZ.cell 1
       have r2 := HYZ.cell 2
       have r3 := HYZ.cell 3
       have r4 := HYZ.cell 4
       have r5 := HYZ.cell 5
       have r6 := HYZ.cell 6
       have fr0 := HYZ.frozen 0
       have fr1 := HYZ.frozen 1
       have fr2 := HYZ.frozen 2
       have fr3 := HYZ.frozen 3
       have fr4 := HYZ.frozen 4
       have fr5 := HYZ.frozen 5
       have fr6 := HYZ.frozen 6
       clear HYZ
       go_wp2
       refine bodyPost_ret (v := .agg #[.int .i64 o0, .int .i64 m1, .int .i64 (1 + (m2 : Int)), .int .i64 (1 + (m3 : Int)), .int .i64 (ba + (m4 : Int)), .int .i64 (m5 : Int), .bool o6]) (by simp [results, Try.results7, go_sem, r0, r1, r2, r3, r4, r5, r6]) rfl ?_
       rw [HS.out, HCU.out]
       refine ⟨by rw [Int.add_zero], ?_⟩
       repeat (refine Below.setCell ?_ hpR _)
       exact HB6.out

set_option maxHeartbeats 3200000 in
theorem do_any (B : Nat) (A : Option Addr) (n c : Nat) (l : List Rq) (o : Ro) (w : World) (h : Qs w B A n c l) (hB : B ≤ w.heap.size) (hm : may l = true) :
    Calls Try.prog 12 #[.slice A n c, rval o] w (Ans w (ReqOpMath.step l o)) := by
  have HSM : Hid (∀ w', Below w.heap.size w w' → Calls Try.prog 7 #[.slice A n c, rval o] w' fun e w'' => e = .returned (rval (small l o)) ∧ Below w'.heap.size w' w'') := fun w' hb => small_any B A n c l o w' (h.below (hb.mono hB)) (Nat.le_trans hB hb.size) hm
  have hn : n ≤ 64 := by have := may_len hm; rw [h.len] at this; exact this
  have HR := Lib.hid h
  have HST : Hid (ReqOpMath.step l o = if decide (modZ o.kind 7 < 3) then accept l (small l o).tbl (small l o).wt (small l o).at_ else chunk l (small l o).id (small l o).cur (small l o).done) := rfl
  have b7 := modZ_lt o.kind (n := 7) (by omega)
  clear h hm
  generalize ReqOpMath.step l o = res at *
  generalize small l o = s at *
  obtain ⟨o0, o1, o2, o3, o4, o5, o6⟩ := o
  obtain ⟨s0, s1, s2, s3, s4, s5, s6⟩ := s
  unfold rval at HSM ⊢
  dsimp only at HSM HST b7 ⊢
  have C0 := fun w => mod_any o0 7 w (by omega) (by omega)
  generalize modZ o0 7 = m0 at C0 HST b7
  have D0 := Lib.hid C0
  clear C0
  have hx : Blk (w.alloc (.cells #[.int .i64 o0, .int .i64 o1, .int .i64 o2, .int .i64 o3, .int .i64 o4, .int .i64 o5, .bool o6] 25)) w.heap.size 25 #[.int .i64 o0, .int .i64 o1, .int .i64 o2, .int .i64 o3, .int .i64 o4, .int .i64 o5, .bool o6] := Blk.new _ _ _
  have HX := Lib.hid hx
  have hbx : Below w.heap.size w (w.alloc (.cells #[.int .i64 o0, .int .i64 o1, .int .i64 o2, .int .i64 o3, .int .i64 o4, .int .i64 o5, .bool o6] 25)) := (Below.refl _ _).alloc (Nat.le_refl _) _
  have HB0 := Lib.hid hbx
  clear hx hbx
  obtain ⟨p, hp⟩ : ∃ p, p = w.heap.size := ⟨_, rfl⟩
  rw [← hp] at HX
  have HP := Lib.hid hp
  clear hp
  go_enter Try.func12, Try.ntmps12
  go_wp2_with fail
  rw [← HP.out]
  refine (HSM.out _ HB0.out).mono ?_
  rintro e w2 ⟨rfl, hb2⟩
  have HB2 := Lib.hid (held_two HB0.out hb2)
  have hx2 := HX.out.below hb2 HX.out.lt
  have HX2 := Lib.hid hx2
  have hplt := hx2.lt
  have q0 : (w2.alloc (.cells #[.int .i64 s0, .int .i64 s1, .int .i64 s2, .int .i64 s3, .int .i64 s4, .int .i64 s5, .bool s6] 25)).cell? ⟨p, 0, none⟩ = some (.int .i64 o0) := (World.cell?_alloc_lt _ _ _ (by exact hplt)).trans (hx2.cell 0)
  have HB3 := Lib.hid (HB2.out.alloc HB2.out.size (.cells #[.int .i64 s0, .int .i64 s1, .int .i64 s2, .int .i64 s3, .int .i64 s4, .int .i64 s5, .bool s6] 25))
  have hy := Blk.new w2 25 #[.int .i64 s0, .int .i64 s1, .int .i64 s2, .int .i64 s3, .int .i64 s4, .int .i64 s5, .bool s6]
  have HY := Lib.hid hy
  clear hb2 hx2 hy
  go_upto_region 2 with fail
  obtain ⟨W, hW⟩ : ∃ W, W = w2.alloc (.cells #[.int .i64 s0, .int .i64 s1, .int .i64 s2, .int .i64 s3, .int .i64 s4, .int .i64 s5, .bool s6] 25) := ⟨_, rfl⟩
  rw [← hW] at q0 HB3 HY ⊢
  obtain ⟨y, hy⟩ : ∃ y, y = w2.heap.size := ⟨_, rfl⟩
  rw [← hy] at HY ⊢
  have y0 := HY.out.cell 0
  have y1 := HY.out.cell 1
  have y2 := HY.out.cell 2
  have y3 := HY.out.cell 3
  have y4 := HY.out.cell 4
  have y5 := HY.out.cell 5
  have y6 := HY.out.cell 6
  have HRW := Lib.hid (HR.out.below (HB3.out.mono hB))
  clear hW hy HY HX2 hplt
  go_wp2_with fail
  refine (D0.out _).mono ?_
  rintro e w3 ⟨rfl, rfl⟩
  by_cases h3 : m0 < 3
  · have l1 : decide ((m0 : Int) < 3) = true := by first | (simp; done) | (simp; omega)
    have l2 : (m0 : Int) < 3 := by omega
    rw [show decide (m0 < 3) = true by simpa using h3, if_pos rfl] at HST
    go_wp2_with fail
    refine (refaccept_any B A n c l s1 s2 s4 _ HRW.out (Nat.le_trans hB HB3.out.size) (by omega)).mono ?_
    intro e w4 h4
    rw [← HST.out] at h4
    obtain ⟨A4, c4, rfl, ho, hb4⟩ := h4.at_
    have HANS := Lib.hid h4
    have HB4 := Lib.hid hb4
    have HO4 := Lib.hid ho
    clear h4 ho hb4
    cases res with
    | none =>
      have he := HANS.out.1
      injection he with he
      injection he with he
      simp at he
      obtain ⟨⟨rfl, _, rfl⟩, _⟩ := he
      go_wp2
      go_ret2
      exact ⟨rfl, held_two HB3.out HB4.out⟩
    | some mm =>
      go_wp2
      go_ret2
      exact ⟨A4, c4, rfl, own_mono HO4.out HB3.out.size, held_two HB3.out HB4.out⟩
  · have l1 : decide ((m0 : Int) < 3) = false := by first | (simp; done) | (simp; omega)
    have l2 : ¬ (m0 : Int) < 3 := by omega
    rw [show decide (m0 < 3) = false by simpa using h3, if_neg (by simp)] at HST
    go_wp2_with fail
    refine (refchunk_any B A n c l s3 s5 s6 _ HRW.out (Nat.le_trans hB HB3.out.size) (by omega)).mono ?_
    intro e w4 h4
    rw [← HST.out] at h4
    obtain ⟨A4, c4, rfl, ho, hb4⟩ := h4.at_
    have HANS := Lib.hid h4
    have HB4 := Lib.hid hb4
    have HO4 := Lib.hid ho
    clear h4 ho hb4
    cases res with
    | none =>
      have he := HANS.out.1
      injection he with he
      injection he with he
      simp at he
      obtain ⟨⟨rfl, _, rfl⟩, _⟩ := he
      go_wp2
      go_ret2
      exact ⟨rfl, held_two HB3.out HB4.out⟩
    | some mm =>
      go_wp2
      go_ret2
      exact ⟨A4, c4, rfl, own_mono HO4.out HB3.out.size, held_two HB3.out HB4.out⟩
end Go.Proofs.Ytohnjhifnankeaa.Req
