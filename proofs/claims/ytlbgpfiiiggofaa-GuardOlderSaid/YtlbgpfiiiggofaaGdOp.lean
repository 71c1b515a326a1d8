/-
  Contract of the statements' own op: one of few keys as a rule, of any one. No condition.
-/
import Derived.Test.YtlbgpfiiiggofaaOpMem
import Derived.Test.YtlbgpfiiiggofaaPlayMod
import Derived.Test.YtlbgpfiiiggofaaPlayBig
import Derived.Deep.RegionHeld3
import Derived.BigRegion
import Derived.Deep.DeepCutAuto
namespace Go.Proofs.Ytlbgpfiiiggofaa.Gd
set_option linter.unusedVariables false
set_option linter.unusedSimpArgs false
set_option maxRecDepth 100000
open Go.RowKit Base GuardMath
open Go.Proofs.Ytlbgpfiiiggofaa.Field (modZ bigZ modZ_lt bigZ_lt mod_any playbig_any)
set_option linter.ambiguousOpen false

def opZ (o : Gp) (n : Nat) : Gp := if modZ o.tbl 13 = 12 then o else ⟨bigZ o.lsn 12, modZ o.tbl n, bigZ o.key 6, o.gone, o.val⟩
def modI (v m : Int) : Int := (modZ v m.toNat : Int)
theorem modI_mod (v : Int) (n : Nat) : modI v (n : Int) = (modZ v n : Int) := by unfold modI; rw [Int.toNat_natCast]
theorem modC (v m : Int) (w : World) (h0 : 0 < m) (h1 : m ≤ 1099511627776) :
    Calls Try.prog 7 #[.int .i64 v, .int .i64 m] w fun e w' => e = .returned (.int .i64 (modI v m)) ∧ w = w' := by
  obtain ⟨k, rfl⟩ := Int.eq_ofNat_of_zero_le (show 0 ≤ m by omega)
  rw [modI_mod]
  exact mod_any v k w (by omega) (by omega)
def bigI (v m : Int) : Int := (bigZ v m.toNat : Int)
theorem bigI_big (v : Int) (n : Nat) : bigI v (n : Int) = (bigZ v n : Int) := by unfold bigI; rw [Int.toNat_natCast]
theorem bigC (v m : Int) (w : World) (h0 : 0 < m) (h1 : m ≤ 1099511627776) :
    Calls Try.prog 21 #[.int .i64 v, .int .i64 m] w fun e w' => e = .returned (.int .i64 (bigI v m)) ∧ w = w' := by
  obtain ⟨k, rfl⟩ := Int.eq_ofNat_of_zero_le (show 0 ≤ m by omega)
  rw [bigI_big]
  exact playbig_any v k w (by omega) (by omega)
def OpCut (w : World) (a0 a1 a2 : Int) (a3 : Bool) (a4 : ByteArray) (v : Value) (wx : World) : Prop := ∃ C, v = .pointer (some ⟨C, 0, none⟩) ∧ Blk wx C 32 #[.int .i64 a0, .int .i64 a1, .int .i64 a2, .bool a3, .string a4] ∧ Blk wx (w.heap.size + 1) 32 #[.int .i64 0, .int .i64 0, .int .i64 0, .bool false, .string ⟨#[]⟩] ∧ w.heap.size + 1 < C ∧ Below w.heap.size w wx
set_option maxHeartbeats 6400000 in
theorem op_any (o : Gp) (n : Nat) (w : World) (h0 : 0 < n) (hn : n ≤ 1099511627776) : Calls Try.prog 10 #[oval o, .int .i64 n] w fun e w' => e = .returned (oval (opZ o n)) ∧ Below w.heap.size w w' := by
  have HOP : Hid (∀ o' : Gp, opZ o' n = if modZ o'.tbl 13 = 12 then o' else ⟨bigZ o'.lsn 12, modZ o'.tbl n, bigZ o'.key 6, o'.gone, o'.val⟩) := fun o' => rfl
  obtain ⟨o0, o1, o2, o3, o4⟩ := o
  have HSO := Lib.hid (HOP.out ⟨o0, o1, o2, o3, o4⟩)
  dsimp only at HSO
  unfold oval
  dsimp only
  have C0 := fun w => mod_any o1 13 w (by omega) (by omega)
  have E0 : bigI o0 12 = (bigZ o0 12 : Int) := rfl
  have E1 : modI o1 (n : Int) = (modZ o1 n : Int) := modI_mod _ _
  have E2 : bigI o2 6 = (bigZ o2 6 : Int) := rfl
  generalize modZ o1 13 = m0 at C0 HSO
  generalize bigZ o0 12 = b0 at E0 HSO
  generalize modZ o1 n = b1 at E1 HSO
  generalize bigZ o2 6 = b2 at E2 HSO
  have D0 := Lib.hid C0
  have F0 := Lib.hid E0
  have F1 := Lib.hid E1
  have F2 := Lib.hid E2
  have MC : Hid (∀ v m w, 0 < m → m ≤ 1099511627776 → Calls Try.prog 7 #[.int .i64 v, .int .i64 m] w fun e w' => e = .returned (.int .i64 (modI v m)) ∧ w = w') := modC
  have BC : Hid (∀ v m w, 0 < m → m ≤ 1099511627776 → Calls Try.prog 21 #[.int .i64 v, .int .i64 m] w fun e w' => e = .returned (.int .i64 (bigI v m)) ∧ w = w') := bigC
  clear C0 E0 E1 E2
  go_enter Try.func10, Try.ntmps10
  go_wp2_with fail
  refine (D0.out _).mono ?_
  rintro e w1 ⟨rfl, rfl⟩
  by_cases h12 : m0 = 12
  · have t1 : ((m0 : Int) == 12) = true := by simp; omega
    have HS : Hid (opZ ⟨o0, o1, o2, o3, o4⟩ n = ⟨o0, o1, o2, o3, o4⟩) := by show _ = _; rw [HSO.out, if_pos h12]
    go_wp2
    refine bodyPost_ret (v := .agg #[.int .i64 o0, .int .i64 o1, .int .i64 o2, .bool o3, .string o4]) (by simp [results, Try.results10, go_sem]) rfl ?_
    rw [HS.out]
    exact ⟨rfl, by repeat (first | exact Below.refl _ _ | refine Below.setCell ?_ (Nat.le_succ _) _ | refine Below.alloc ?_ (by simp) _)⟩
  have t1 : ((m0 : Int) == 12) = false := by simp; omega
  have HS : Hid (opZ ⟨o0, o1, o2, o3, o4⟩ n = ⟨b0, b1, b2, o3, o4⟩) := by show _ = _; rw [HSO.out, if_neg h12]
  have HH12 := Lib.hid h12
  clear h12 HSO
  have hx : Blk ((w.alloc (.cells #[.int .i64 o0, .int .i64 o1, .int .i64 o2, .bool o3, .string o4] 32)).alloc (.cells #[.int .i64 0, .int .i64 0, .int .i64 0, .bool false, .string ⟨#[]⟩] 32)) w.heap.size 32 #[.int .i64 o0, .int .i64 o1, .int .i64 o2, .bool o3, .string o4] := (Blk.new _ _ _).alloc _
  have hy : Blk ((w.alloc (.cells #[.int .i64 o0, .int .i64 o1, .int .i64 o2, .bool o3, .string o4] 32)).alloc (.cells #[.int .i64 0, .int .i64 0, .int .i64 0, .bool false, .string ⟨#[]⟩] 32)) (w.heap.size + 1) 32 #[.int .i64 0, .int .i64 0, .int .i64 0, .bool false, .string ⟨#[]⟩] := by have := Blk.new (w.alloc (.cells #[.int .i64 o0, .int .i64 o1, .int .i64 o2, .bool o3, .string o4] 32)) 32 #[.int .i64 0, .int .i64 0, .int .i64 0, .bool false, .string ⟨#[]⟩]; simpa using this
  have hw : Below w.heap.size w ((w.alloc (.cells #[.int .i64 o0, .int .i64 o1, .int .i64 o2, .bool o3, .string o4] 32)).alloc (.cells #[.int .i64 0, .int .i64 0, .int .i64 0, .bool false, .string ⟨#[]⟩] 32)) := ((Below.refl _ _).alloc (Nat.le_refl _) _).alloc (by simp) _
  go_upto_region 3 with fail
  generalize ((w.alloc (.cells #[.int .i64 o0, .int .i64 o1, .int .i64 o2, .bool o3, .string o4] 32)).alloc (.cells #[.int .i64 0, .int .i64 0, .int .i64 0, .bool false, .string ⟨#[]⟩] 32)) = W at hx hy hw ⊢
  have HX := Lib.hid hx
  have HY := Lib.hid hy
  have HW := Lib.hid hw
  clear hx hy hw
  go_cut [5] (fun v wx => OpCut w b0 b1 b2 o3 o4 v wx)
  case first =>
    go_region_held3 (fun w' => w'.cell? ⟨w.heap.size, 0, none⟩ = some (.int .i64 o0) ∧ w'.cell? ⟨w.heap.size, 1, none⟩ = some (.int .i64 o1) ∧ w'.cell? ⟨w.heap.size, 2, none⟩ = some (.int .i64 o2) ∧ w'.cell? ⟨w.heap.size, 3, none⟩ = some (.bool o3) ∧ w'.cell? ⟨w.heap.size, 4, none⟩ = some (.string o4))
       (first
         | exact ⟨HX.out.cell 0, HX.out.cell 1, HX.out.cell 2, HX.out.cell 3, HX.out.cell 4⟩
         | exact ⟨(HX.out.alloc _).cell 0, (HX.out.alloc _).cell 1, (HX.out.alloc _).cell 2, (HX.out.alloc _).cell 3, (HX.out.alloc _).cell 4⟩
         | assumption)
       (first
         | (go_at_call 7; refine (MC.out _ _ _ (by omega) (by omega)).mono ?_; rintro e w1 ⟨rfl, rfl⟩)
         | (go_at_call 21; refine (BC.out _ _ _ (by omega) (by omega)).mono ?_; rintro e w1 ⟨rfl, rfl⟩)
         | fail)
    all_goals (
       simp only [F0.out, F1.out, F2.out]
       go_wp2_with fail
       go_meet
       exact ⟨W.heap.size, rfl, Blk.new W _ _, HY.out.alloc _, HY.out.lt, (HW.out.alloc HW.out.size _).drew⟩)
  case rest =>
    obtain ⟨C, rfl, hc, hy2, hlt, hbel⟩ := hcut
    have c0 := hc.cell 0
    have c1 := hc.cell 1
    have c2 := hc.cell 2
    have c3 := hc.cell 3
    have c4 := hc.cell 4
    have y0 := hy2.cell 0
    have y1 := hy2.cell 1
    have y2 := hy2.cell 2
    have y3 := hy2.cell 3
    have y4 := hy2.cell 4
    have f0 := hy2.frozen 0
    have f1 := hy2.frozen 1
    have f2 := hy2.frozen 2
    have f3 := hy2.frozen 3
    have f4 := hy2.frozen 4
    have r := ((((hy2.set_ 0 (.int .i64 b0)).set_ 1 (.int .i64 b1)).set_ 2 (.int .i64 b2)).set_ 3 (.bool o3)).set_ 4 (.string o4)
    have r0 := r.cell 0
    have r1 := r.cell 1
    have r2 := r.cell 2
    have r3 := r.cell 3
    have r4 := r.cell 4
    have HBB := Lib.hid hbel
    have hpR : w.heap.size ≤ w.heap.size + 1 := Nat.le_succ _
    clear r hbel hc hy2
    go_wp2_with fail
    refine bodyPost_ret (v := .agg #[.int .i64 b0, .int .i64 b1, .int .i64 b2, .bool o3, .string o4]) (by simp [results, Try.results10, go_sem, r0, r1, r2, r3, r4]) rfl ?_
    rw [HS.out]
    exact ⟨rfl, ((((HBB.out.setCell hpR _).setCell hpR _).setCell hpR _).setCell hpR _).setCell hpR _⟩
end Go.Proofs.Ytlbgpfiiiggofaa.Gd
