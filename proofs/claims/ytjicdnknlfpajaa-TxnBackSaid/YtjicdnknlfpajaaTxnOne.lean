/-
  Contracts of how the statements make a transaction that may be of any one: a change, changes, a signal, signals.
-/
import Derived.Test.YtjicdnknlfpajaaTxnHelp
import Derived.Test.YtjicdnknlfpajaaPlayCut
import Derived.Test.YtjicdnknlfpajaaPlayBig
import Derived.Deep.RegionHeld3
import Derived.Deep.DeepCutAuto
namespace Go.Proofs.Ytjicdnknlfpajaa.Txn
set_option linter.unusedVariables false
set_option maxRecDepth 100000
open Go.RowKit Base FieldMath TxnMath
open Go.Proofs.Ytjicdnknlfpajaa.Field (ret_bool modZ modZ_lt mod_any bigZ bigZ_lt playbig_any cut_any)
set_option linter.ambiguousOpen false
set_option linter.unusedSimpArgs false

theorem may_mk {a k : Int} {g : Bool} {v : ByteArray} (h1 : 0 ≤ a) (h2 : a < 8) (h3 : 1 ≤ k) (h4 : k ≤ 1099511627776) (h5 : g = true → v.size = 0) (h6 : v.size ≤ 32) : Ch.may 8 ⟨a, k, g, v⟩ = true := by
  unfold Ch.may
  dsimp only
  rw [decide_eq_true h1, decide_eq_true h2, decide_eq_true h3, decide_eq_true h4]
  cases g with
  | true => simp [h5 rfl]
  | false => simp [h6]
/-- a change that may be -/
def MadeCh (w : World) (e : Ending) (w' : World) : Prop := ∃ c : Ch, e = .returned (chv c) ∧ c.may 8 = true ∧ Below w.heap.size w w'

def ChCut (w : World) (f : Ch) (a k : Int) (p : Value) (wx : World) : Prop := ∃ C, p = .pointer (some ⟨C, 0, none⟩) ∧ Blk wx C 27 #[.int .i64 a, .int .i64 k, .bool f.gone, .string ⟨#[]⟩] ∧ Blk wx w.heap.size 27 #[.int .i64 f.tbl, .int .i64 f.key, .bool f.gone, .string f.val] ∧ Blk wx (w.heap.size + 1) 27 #[.int .i64 0, .int .i64 0, .bool false, .string ⟨#[]⟩] ∧ w.heap.size + 1 < C ∧ Below w.heap.size w wx
set_option maxHeartbeats 3200000 in
theorem pchange_any (f : Ch) (w : World) (hs : f.val.size ≤ 9223372036854775807) :
    Calls Try.prog 102 #[chv f, .int .i64 8] w (MadeCh w) := by
  obtain ⟨ft, fk, fg, fv⟩ := f
  unfold chv
  dsimp only at hs ⊢
  have C1 := fun w => mod_any ft 8 w (by omega) (by omega)
  have b1 := modZ_lt ft (n := 8) (by omega)
  have C2 := fun w => playbig_any fk 12 w (by omega) (by omega)
  have b2 := bigZ_lt fk (n := 12) (by omega)
  have C3 := fun w => playbig_any fk 31 w (by omega) (by omega)
  have b3 := bigZ_lt fk (n := 31) (by omega)
  have C4 := fun w => playbig_any fk 1099511627776 w (by omega) (by omega)
  have b4 := bigZ_lt fk (n := 1099511627776) (by omega)
  generalize modZ ft 8 = a at C1 b1
  generalize bigZ fk 12 = k1 at C2 b2
  generalize bigZ fk 31 = k2 at C3 b3
  generalize bigZ fk 1099511627776 = k3 at C4 b4
  have D1 := Lib.hid C1
  have D2 := Lib.hid C2
  have D3 := Lib.hid C3
  have D4 := Lib.hid C4
  have B4 := Lib.hid b4
  clear C1 C2 C3 C4 b4
  have hcv : (str (fv.data.toList.take 32)).size ≤ 32 := by rw [str_size, List.length_take]; omega
  have CV := Lib.hid (fun w => cut_any fv 32 w hs (by omega))
  have HCV := Lib.hid hcv
  clear hcv
  have hwr : IntKind.i64.wrap (1 + (k1 : Int)) = 1 + (k1 : Int) := IntWalk.i64_in _ (by omega)
  have HWR := Lib.hid hwr
  clear hwr
  go_enter Try.func102, Try.ntmps102
  go_upto_region 1 with fail
  have hx : Blk ((w.alloc (.cells #[.int .i64 ft, .int .i64 fk, .bool fg, .string fv] 27)).alloc (.cells #[.int .i64 0, .int .i64 0, .bool false, .string ⟨#[]⟩] 27)) w.heap.size 27 #[.int .i64 ft, .int .i64 fk, .bool fg, .string fv] := (Blk.new _ _ _).alloc _
  have hy : Blk ((w.alloc (.cells #[.int .i64 ft, .int .i64 fk, .bool fg, .string fv] 27)).alloc (.cells #[.int .i64 0, .int .i64 0, .bool false, .string ⟨#[]⟩] 27)) (w.heap.size + 1) 27 #[.int .i64 0, .int .i64 0, .bool false, .string ⟨#[]⟩] := by have := Blk.new (w.alloc (.cells #[.int .i64 ft, .int .i64 fk, .bool fg, .string fv] 27)) 27 #[.int .i64 0, .int .i64 0, .bool false, .string ⟨#[]⟩]; simpa using this
  have hw : Below w.heap.size w ((w.alloc (.cells #[.int .i64 ft, .int .i64 fk, .bool fg, .string fv] 27)).alloc (.cells #[.int .i64 0, .int .i64 0, .bool false, .string ⟨#[]⟩] 27)) := ((Below.refl _ _).alloc (Nat.le_refl _) _).alloc (by simp) _
  generalize ((w.alloc (.cells #[.int .i64 ft, .int .i64 fk, .bool fg, .string fv] 27)).alloc (.cells #[.int .i64 0, .int .i64 0, .bool false, .string ⟨#[]⟩] 27)) = W at hx hy hw
  have HX := Lib.hid hx
  have HY := Lib.hid hy
  have HW := Lib.hid hw
  clear hx hy hw
  go_cut [5] (fun p wx => ChCut w ⟨ft, fk, fg, fv⟩ a (1 + (k1 : Int)) p wx)
  case first =>
    go_region_held3 (fun w' => w'.cell? ⟨w.heap.size, 0, none⟩ = some (.int .i64 ft) ∧ w'.cell? ⟨w.heap.size, 1, none⟩ = some (.int .i64 fk) ∧ w'.cell? ⟨w.heap.size, 2, none⟩ = some (.bool fg))
      (first
        | exact ⟨HX.out.cell 0, HX.out.cell 1, HX.out.cell 2⟩
        | exact ⟨(HX.out.alloc _).cell 0, (HX.out.alloc _).cell 1, (HX.out.alloc _).cell 2⟩
        | assumption)
      (first
        | (go_at_call 26; refine (D1.out _).mono ?_; rintro e w1 ⟨rfl, rfl⟩)
        | (go_at_call 32; refine (D2.out _).mono ?_; rintro e w1 ⟨rfl, rfl⟩)
        | fail)
    all_goals (
      rw [HWR.out]
      go_wp2_with fail
      go_meet
      exact ⟨W.heap.size, rfl, Blk.new W _ _, HX.out.alloc _, HY.out.alloc _, HY.out.lt, (HW.out.alloc HW.out.size _).drew⟩)
  case rest =>
    obtain ⟨C, rfl, hc, hx2, hy2, hlt, hbel⟩ := hcut
    have x0 : wc.cell? ⟨w.heap.size, 0, none⟩ = some (.int .i64 ft) := hx2.cell 0
    have x1 : wc.cell? ⟨w.heap.size, 1, none⟩ = some (.int .i64 fk) := hx2.cell 1
    have x2 : wc.cell? ⟨w.heap.size, 2, none⟩ = some (.bool fg) := hx2.cell 2
    have x3 : wc.cell? ⟨w.heap.size, 3, none⟩ = some (.string fv) := hx2.cell 3
    have c0 : wc.cell? ⟨C, 0, none⟩ = some (.int .i64 a) := hc.cell 0
    have c1 : wc.cell? ⟨C, 1, none⟩ = some (.int .i64 (1 + (k1 : Int))) := hc.cell 1
    have c2 : wc.cell? ⟨C, 2, none⟩ = some (.bool fg) := hc.cell 2
    have c3 : wc.cell? ⟨C, 3, none⟩ = some (.string ⟨#[]⟩) := hc.cell 3
    have r0 : wc.cell? ⟨w.heap.size + 1, 0, none⟩ = some (.int .i64 0) := hy2.cell 0
    have r1 : wc.cell? ⟨w.heap.size + 1, 1, none⟩ = some (.int .i64 0) := hy2.cell 1
    have r2 : wc.cell? ⟨w.heap.size + 1, 2, none⟩ = some (.bool false) := hy2.cell 2
    have r3 : wc.cell? ⟨w.heap.size + 1, 3, none⟩ = some (.string ⟨#[]⟩) := hy2.cell 3
    have fc1 := hc.frozen 1
    have fc3 := hc.frozen 3
    have fr0 := hy2.frozen 0
    have fr1 := hy2.frozen 1
    have fr2 := hy2.frozen 2
    have fr3 := hy2.frozen 3
    have hRC : w.heap.size + 1 ≠ C := by omega
    have hCR : C ≠ w.heap.size + 1 := by omega
    have hXC : w.heap.size ≠ C := by omega
    have hCX : C ≠ w.heap.size := by omega
    have HB := Lib.hid hbel
    have hCw : w.heap.size ≤ C := by omega
    clear hc hx2 hy2 hbel
    by_cases h30 : k2 = 30
    · have t1 : ((k2 : Int) == 30) = true := by simp; omega
      have hk3 : k3 < 1099511627776 := B4.out
      cases fg with
      | true =>
        go_wp2_with fail
        refine (D3.out _).mono ?_
        rintro e w1 ⟨rfl, rfl⟩
        go_wp2_with fail
        refine (D4.out _).mono ?_
        rintro e w1 ⟨rfl, rfl⟩
        go_wp2
        refine bodyPost_ret (v := chv ⟨a, 1 + (k3 : Int), true, ⟨#[]⟩⟩) (by simp [chv, results, Try.results102, go_sem, hRC, hCR, r0, r1, r2, r3]) rfl ⟨⟨a, 1 + (k3 : Int), true, ⟨#[]⟩⟩, rfl, may_mk (by omega) (by omega) (by omega) (by omega) (by intro h; first | rfl | cases h) (by first | exact HCV.out | exact Nat.zero_le _), ?_⟩
        exact (((((HB.out.setCell (by exact hCw) _).setCell (by exact Nat.le_succ _) _).setCell (by exact Nat.le_succ _) _).setCell (by exact Nat.le_succ _) _).setCell (by exact Nat.le_succ _) _)
      | false =>
        go_wp2_with fail
        refine (D3.out _).mono ?_
        rintro e w1 ⟨rfl, rfl⟩
        go_wp2_with fail
        refine (D4.out _).mono ?_
        rintro e w1 ⟨rfl, rfl⟩
        go_wp2_with fail
        refine (CV.out _).mono ?_
        rintro e w1 ⟨rfl, rfl⟩
        go_wp2
        refine bodyPost_ret (v := chv ⟨a, 1 + (k3 : Int), false, str (fv.data.toList.take 32)⟩) (by simp [chv, results, Try.results102, go_sem, hRC, hCR, r0, r1, r2, r3]) rfl ⟨⟨a, 1 + (k3 : Int), false, str (fv.data.toList.take 32)⟩, rfl, may_mk (by omega) (by omega) (by omega) (by omega) (by intro h; first | rfl | cases h) (by first | exact HCV.out | exact Nat.zero_le _), ?_⟩
        exact ((((((HB.out.setCell (by exact hCw) _).setCell (by exact hCw) _).setCell (by exact Nat.le_succ _) _).setCell (by exact Nat.le_succ _) _).setCell (by exact Nat.le_succ _) _).setCell (by exact Nat.le_succ _) _)
    · have t1 : ((k2 : Int) == 30) = false := by simp; omega
      cases fg with
      | true =>
        go_wp2_with fail
        refine (D3.out _).mono ?_
        rintro e w1 ⟨rfl, rfl⟩
        go_wp2
        refine bodyPost_ret (v := chv ⟨a, 1 + (k1 : Int), true, ⟨#[]⟩⟩) (by simp [chv, results, Try.results102, go_sem, hRC, hCR, r0, r1, r2, r3]) rfl ⟨⟨a, 1 + (k1 : Int), true, ⟨#[]⟩⟩, rfl, may_mk (by omega) (by omega) (by omega) (by omega) (by intro h; first | rfl | cases h) (by first | exact HCV.out | exact Nat.zero_le _), ?_⟩
        exact ((((HB.out.setCell (by exact Nat.le_succ _) _).setCell (by exact Nat.le_succ _) _).setCell (by exact Nat.le_succ _) _).setCell (by exact Nat.le_succ _) _)
      | false =>
        go_wp2_with fail
        refine (D3.out _).mono ?_
        rintro e w1 ⟨rfl, rfl⟩
        go_wp2_with fail
        refine (CV.out _).mono ?_
        rintro e w1 ⟨rfl, rfl⟩
        go_wp2
        refine bodyPost_ret (v := chv ⟨a, 1 + (k1 : Int), false, str (fv.data.toList.take 32)⟩) (by simp [chv, results, Try.results102, go_sem, hRC, hCR, r0, r1, r2, r3]) rfl ⟨⟨a, 1 + (k1 : Int), false, str (fv.data.toList.take 32)⟩, rfl, may_mk (by omega) (by omega) (by omega) (by omega) (by intro h; first | rfl | cases h) (by first | exact HCV.out | exact Nat.zero_le _), ?_⟩
        exact (((((HB.out.setCell (by exact hCw) _).setCell (by exact Nat.le_succ _) _).setCell (by exact Nat.le_succ _) _).setCell (by exact Nat.le_succ _) _).setCell (by exact Nat.le_succ _) _)
end Go.Proofs.Ytjicdnknlfpajaa.Txn
