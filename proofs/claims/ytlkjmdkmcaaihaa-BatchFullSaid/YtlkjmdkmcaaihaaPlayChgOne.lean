/-
  Contract of how the statements make a change that may be among N tables, of any one.
-/
import Derived.Test.YtlkjmdkmcaaihaaTxnMath
import Derived.Test.YtlkjmdkmcaaihaaPlayMod
import Derived.Test.YtlkjmdkmcaaihaaPlayCut
import Derived.Test.YtlkjmdkmcaaihaaPlayBig
import Derived.Deep.RegionHeld3
import Derived.Deep.DeepCutAuto
namespace Go.Proofs.Ytlkjmdkmcaaihaa.PChg
set_option linter.unusedVariables false
set_option maxRecDepth 100000
open Go.RowKit Base FieldMath TxnMath
open Go.Proofs.Ytlkjmdkmcaaihaa.Field (modZ modZ_lt mod_any bigZ bigZ_lt playbig_any cut_any)
set_option linter.ambiguousOpen false
set_option linter.unusedSimpArgs false

def gcells (c : Ch) : List Value := [.int .i64 c.tbl, .int .i64 c.key, .bool c.gone, .string c.val]
def gval (c : Ch) : Value := .agg #[.int .i64 c.tbl, .int .i64 c.key, .bool c.gone, .string c.val]
def gv (l : List Ch) : List Value := l.flatMap gcells
theorem gv_append (l m : List Ch) : gv (l ++ m) = gv l ++ gv m := List.flatMap_append
theorem gv_one (l : List Ch) : ∀ u ∈ gv l, u.oneCell' = true := by
  intro u hu
  obtain ⟨f, _, hf⟩ := List.mem_flatMap.1 hu
  simp only [gcells, List.mem_cons, List.not_mem_nil, or_false] at hf
  rcases hf with rfl | rfl | rfl | rfl <;> rfl
theorem gv_cons (x : Ch) (l : List Ch) : gv (x :: l) = .int .i64 x.tbl :: .int .i64 x.key :: .bool x.gone :: .string x.val :: gv l := rfl
theorem gv_length (l : List Ch) : (gv l).length = l.length * 4 := by
  induction l with
  | nil => rfl
  | cons f l ih => rw [gv_cons]; simp only [List.length_cons, ih]; omega
theorem gv_get (l : List Ch) (k : Nat) (f : Ch) (h : l[k]? = some f) : (gv l)[k * 4]? = some (.int .i64 f.tbl) ∧ (gv l)[k * 4 + 1]? = some (.int .i64 f.key) ∧ (gv l)[k * 4 + 2]? = some (.bool f.gone) ∧ (gv l)[k * 4 + 3]? = some (.string f.val) := by
  induction l generalizing k with
  | nil => simp at h
  | cons g l ih =>
    rw [gv_cons]
    cases k with
    | zero =>
      simp only [List.getElem?_cons_zero, Option.some.injEq] at h
      subst h
      exact ⟨rfl, rfl, rfl, rfl⟩
    | succ k =>
      rw [List.getElem?_cons_succ] at h
      have := ih k h
      rw [show (k + 1) * 4 = k * 4 + 1 + 1 + 1 + 1 by omega]
      simpa using this
/-- a slice of changes that reads as the list l, below block B -/
def Cs (w : World) (B : Nat) (A : Option Addr) (n c : Nat) (l : List Ch) : Prop := Row w B 4 A n c (gv l)
section
variable {w w' : World} {B B' n c : Nat} {A : Option Addr} {l : List Ch}
theorem Cs.len (h : Cs w B A n c l) : l.length = n := by have := h.1; rw [gv_length] at this; omega
theorem Cs.le (h : Cs w B A n c l) : n ≤ c ∧ c ≤ 9223372036854775807 := ⟨h.2.1, h.2.2.1⟩
theorem Cs.below (h : Cs w B A n c l) (hb : Below B w w') : Cs w' B A n c l := Row.below h hb
theorem Cs.more (h : Cs w B A n c l) (hB : B ≤ B') : Cs w B' A n c l := Row.more h hB
theorem Cs.at_ (h : Cs w B A n c l) {k : Nat} (hk : k < n) :
    ∃ b off f, A = some ⟨b, off, none⟩ ∧ b < B ∧ w.cell? ⟨b, off + k * 4, none⟩ = some (.int .i64 f.tbl) ∧ w.cell? ⟨b, off + k * 4 + 1, none⟩ = some (.int .i64 f.key) ∧ w.cell? ⟨b, off + k * 4 + 2, none⟩ = some (.bool f.gone) ∧ w.cell? ⟨b, off + k * 4 + 3, none⟩ = some (.string f.val) ∧ l[k]? = some f ∧ l.take (k + 1) = l.take k ++ [f] := by
  obtain ⟨b, off, e, hb, hc⟩ := h.2.2.2 (by omega)
  have hl : k < l.length := by rw [h.len]; exact hk
  have hg : l[k]? = some l[k] := List.getElem?_eq_getElem hl
  have := gv_get l k _ hg
  exact ⟨b, off, l[k], e, hb, hc _ _ this.1, hc _ _ this.2.1, hc _ _ this.2.2.1, hc _ _ this.2.2.2, hg, List.take_succ_eq_append_getElem hl⟩
end
theorem may_mk {n a k : Int} {g : Bool} {v : ByteArray} (h1 : 0 ≤ a) (h2 : a < n) (h3 : 1 ≤ k) (h4 : k ≤ 1099511627776) (h5 : g = true → v.size = 0) (h6 : v.size ≤ 32) : Ch.may n ⟨a, k, g, v⟩ = true := by
  unfold Ch.may
  dsimp only
  rw [decide_eq_true h1, decide_eq_true h2, decide_eq_true h3, decide_eq_true h4]
  cases g with
  | true => simp [h5 rfl]
  | false => simp [h6]
theorem may_tbl {n : Int} {c : Ch} (h : c.may n = true) : 0 ≤ c.tbl ∧ c.tbl < n := by
  unfold Ch.may at h
  simp only [Bool.and_eq_true, decide_eq_true_eq] at h
  exact ⟨h.1, h.2.1⟩
/-- a change that may be among N tables -/
def MadeCh (N : Nat) (w : World) (e : Ending) (w' : World) : Prop := ∃ c : Ch, e = .returned (gval c) ∧ c.may N = true ∧ Below w.heap.size w w'

def ChCut (w : World) (f : Ch) (a k : Int) (p : Value) (wx : World) : Prop := ∃ C, p = .pointer (some ⟨C, 0, none⟩) ∧ Blk wx C 63 #[.int .i64 a, .int .i64 k, .bool f.gone, .string ⟨#[]⟩] ∧ Blk wx w.heap.size 63 #[.int .i64 f.tbl, .int .i64 f.key, .bool f.gone, .string f.val] ∧ Blk wx (w.heap.size + 1) 63 #[.int .i64 0, .int .i64 0, .bool false, .string ⟨#[]⟩] ∧ w.heap.size + 1 < C ∧ Below w.heap.size w wx
set_option maxHeartbeats 3200000 in
theorem pchange_any (N : Nat) (hN : 1 ≤ N) (hN8 : N ≤ 8) (f : Ch) (w : World) (hs : f.val.size ≤ 9223372036854775807) :
    Calls Try.prog 51 #[gval f, .int .i64 N] w (MadeCh N w) := by
  obtain ⟨ft, fk, fg, fv⟩ := f
  unfold gval
  dsimp only at hs ⊢
  have C1 := fun w => mod_any ft N w (by omega) (by omega)
  have b1 := modZ_lt ft (n := N) (by omega)
  have C2 := fun w => playbig_any fk 12 w (by omega) (by omega)
  have b2 := bigZ_lt fk (n := 12) (by omega)
  have C3 := fun w => playbig_any fk 31 w (by omega) (by omega)
  have b3 := bigZ_lt fk (n := 31) (by omega)
  have C4 := fun w => playbig_any fk 1099511627776 w (by omega) (by omega)
  have b4 := bigZ_lt fk (n := 1099511627776) (by omega)
  generalize modZ ft N = a at C1 b1
  generalize bigZ fk 12 = k1 at C2 b2
  generalize bigZ fk 31 = k2 at C3 b3
  generalize bigZ fk 1099511627776 = k3 at C4 b4
  have D1 := Lib.hid C1
  have D2 := Lib.hid C2
  have D3 := Lib.hid C3
  have D4 := Lib.hid C4
  have B4 := Lib.hid b4
  clear C1 C2 C3 C4 b4
  have hcv : (str (fv.data.toList.take 32)).size ≤ 32 := by rw [str_size, List.length_take]; omega
  have CV := Lib.hid (fun w => cut_any fv 32 w hs (by omega))
  have HCV := Lib.hid hcv
  clear hcv
  have hwr : IntKind.i64.wrap (1 + (k1 : Int)) = 1 + (k1 : Int) := IntWalk.i64_in _ (by omega)
  have HWR := Lib.hid hwr
  clear hwr
  go_enter Try.func51, Try.ntmps51
  go_upto_region 1 with fail
  have hx : Blk ((w.alloc (.cells #[.int .i64 ft, .int .i64 fk, .bool fg, .string fv] 63)).alloc (.cells #[.int .i64 0, .int .i64 0, .bool false, .string ⟨#[]⟩] 63)) w.heap.size 63 #[.int .i64 ft, .int .i64 fk, .bool fg, .string fv] := (Blk.new _ _ _).alloc _
  have hy : Blk ((w.alloc (.cells #[.int .i64 ft, .int .i64 fk, .bool fg, .string fv] 63)).alloc (.cells #[.int .i64 0, .int .i64 0, .bool false, .string ⟨#[]⟩] 63)) (w.heap.size + 1) 63 #[.int .i64 0, .int .i64 0, .bool false, .string ⟨#[]⟩] := by have := Blk.new (w.alloc (.cells #[.int .i64 ft, .int .i64 fk, .bool fg, .string fv] 63)) 63 #[.int .i64 0, .int .i64 0, .bool false, .string ⟨#[]⟩]; simpa using this
  have hw : Below w.heap.size w ((w.alloc (.cells #[.int .i64 ft, .int .i64 fk, .bool fg, .string fv] 63)).alloc (.cells #[.int .i64 0, .int .i64 0, .bool false, .string ⟨#[]⟩] 63)) := ((Below.refl _ _).alloc (Nat.le_refl _) _).alloc (by simp) _
  generalize ((w.alloc (.cells #[.int .i64 ft, .int .i64 fk, .bool fg, .string fv] 63)).alloc (.cells #[.int .i64 0, .int .i64 0, .bool false, .string ⟨#[]⟩] 63)) = W at hx hy hw
  have HX := Lib.hid hx
  have HY := Lib.hid hy
  have HW := Lib.hid hw
  clear hx hy hw
  go_cut [5] (fun p wx => ChCut w ⟨ft, fk, fg, fv⟩ a (1 + (k1 : Int)) p wx)
  case first =>
    go_region_held3 (fun w' => w'.cell? ⟨w.heap.size, 0, none⟩ = some (.int .i64 ft) ∧ w'.cell? ⟨w.heap.size, 1, none⟩ = some (.int .i64 fk) ∧ w'.cell? ⟨w.heap.size, 2, none⟩ = some (.bool fg))
      (first
        | exact ⟨HX.out.cell 0, HX.out.cell 1, HX.out.cell 2⟩
        | exact ⟨(HX.out.alloc _).cell 0, (HX.out.alloc _).cell 1, (HX.out.alloc _).cell 2⟩
        | assumption)
      (first
        | (go_at_call 12; refine (D1.out _).mono ?_; rintro e w1 ⟨rfl, rfl⟩)
        | (go_at_call 18; refine (D2.out _).mono ?_; rintro e w1 ⟨rfl, rfl⟩)
        | fail)
    all_goals (
      rw [HWR.out]
      go_wp2_with fail
      go_meet
      exact ⟨W.heap.size, rfl, Blk.new W _ _, HX.out.alloc _, HY.out.alloc _, HY.out.lt, (HW.out.alloc HW.out.size _).drew⟩)
  case rest =>
    obtain ⟨C, rfl, hc, hx2, hy2, hlt, hbel⟩ := hcut
    have x0 : wc.cell? ⟨w.heap.size, 0, none⟩ = some (.int .i64 ft) := hx2.cell 0
    have x1 : wc.cell? ⟨w.heap.size, 1, none⟩ = some (.int .i64 fk) := hx2.cell 1
    have x2 : wc.cell? ⟨w.heap.size, 2, none⟩ = some (.bool fg) := hx2.cell 2
    have x3 : wc.cell? ⟨w.heap.size, 3, none⟩ = some (.string fv) := hx2.cell 3
    have c0 : wc.cell? ⟨C, 0, none⟩ = some (.int .i64 a) := hc.cell 0
    have c1 : wc.cell? ⟨C, 1, none⟩ = some (.int .i64 (1 + (k1 : Int))) := hc.cell 1
    have c2 : wc.cell? ⟨C, 2, none⟩ = some (.bool fg) := hc.cell 2
    have c3 : wc.cell? ⟨C, 3, none⟩ = some (.string ⟨#[]⟩) := hc.cell 3
    have r0 : wc.cell? ⟨w.heap.size + 1, 0, none⟩ = some (.int .i64 0) := hy2.cell 0
    have r1 : wc.cell? ⟨w.heap.size + 1, 1, none⟩ = some (.int .i64 0) := hy2.cell 1
    have r2 : wc.cell? ⟨w.heap.size + 1, 2, none⟩ = some (.bool false) := hy2.cell 2
    have r3 : wc.cell? ⟨w.heap.size + 1, 3, none⟩ = some (.string ⟨#[]⟩) := hy2.cell 3
    have fc1 := hc.frozen 1
    have fc3 := hc.frozen 3
    have fr0 := hy2.frozen 0
    have fr1 := hy2.frozen 1
    have fr2 := hy2.frozen 2
    have fr3 := hy2.frozen 3
    have hRC : w.heap.size + 1 ≠ C := by omega
    have hCR : C ≠ w.heap.size + 1 := by omega
    have hXC : w.heap.size ≠ C := by omega
    have hCX : C ≠ w.heap.size := by omega
    have HB := Lib.hid hbel
    have hCw : w.heap.size ≤ C := by omega
    clear hc hx2 hy2 hbel
    by_cases h30 : k2 = 30
    · have t1 : ((k2 : Int) == 30) = true := by simp; omega
      have hk3 : k3 < 1099511627776 := B4.out
      cases fg with
      | true =>
        go_wp2_with fail
        refine (D3.out _).mono ?_
        rintro e w1 ⟨rfl, rfl⟩
        go_wp2_with fail
        refine (D4.out _).mono ?_
        rintro e w1 ⟨rfl, rfl⟩
        go_wp2
        refine bodyPost_ret (v := gval ⟨a, 1 + (k3 : Int), true, ⟨#[]⟩⟩) (by simp [gval, results, Try.results51, go_sem, hRC, hCR, r0, r1, r2, r3]) rfl ⟨⟨a, 1 + (k3 : Int), true, ⟨#[]⟩⟩, rfl, may_mk (by omega) (by omega) (by omega) (by omega) (by intro h; first | rfl | cases h) (by first | exact HCV.out | exact Nat.zero_le _), ?_⟩
        exact (((((HB.out.setCell (by exact hCw) _).setCell (by exact Nat.le_succ _) _).setCell (by exact Nat.le_succ _) _).setCell (by exact Nat.le_succ _) _).setCell (by exact Nat.le_succ _) _)
      | false =>
        go_wp2_with fail
        refine (D3.out _).mono ?_
        rintro e w1 ⟨rfl, rfl⟩
        go_wp2_with fail
        refine (D4.out _).mono ?_
        rintro e w1 ⟨rfl, rfl⟩
        go_wp2_with fail
        refine (CV.out _).mono ?_
        rintro e w1 ⟨rfl, rfl⟩
        go_wp2
        refine bodyPost_ret (v := gval ⟨a, 1 + (k3 : Int), false, str (fv.data.toList.take 32)⟩) (by simp [gval, results, Try.results51, go_sem, hRC, hCR, r0, r1, r2, r3]) rfl ⟨⟨a, 1 + (k3 : Int), false, str (fv.data.toList.take 32)⟩, rfl, may_mk (by omega) (by omega) (by omega) (by omega) (by intro h; first | rfl | cases h) (by first | exact HCV.out | exact Nat.zero_le _), ?_⟩
        exact ((((((HB.out.setCell (by exact hCw) _).setCell (by exact hCw) _).setCell (by exact Nat.le_succ _) _).setCell (by exact Nat.le_succ _) _).setCell (by exact Nat.le_succ _) _).setCell (by exact Nat.le_succ _) _)
    · have t1 : ((k2 : Int) == 30) = false := by simp; omega
      cases fg with
      | true =>
        go_wp2_with fail
        refine (D3.out _).mono ?_
        rintro e w1 ⟨rfl, rfl⟩
        go_wp2
        refine bodyPost_ret (v := gval ⟨a, 1 + (k1 : Int), true, ⟨#[]⟩⟩) (by simp [gval, results, Try.results51, go_sem, hRC, hCR, r0, r1, r2, r3]) rfl ⟨⟨a, 1 + (k1 : Int), true, ⟨#[]⟩⟩, rfl, may_mk (by omega) (by omega) (by omega) (by omega) (by intro h; first | rfl | cases h) (by first | exact HCV.out | exact Nat.zero_le _), ?_⟩
        exact ((((HB.out.setCell (by exact Nat.le_succ _) _).setCell (by exact Nat.le_succ _) _).setCell (by exact Nat.le_succ _) _).setCell (by exact Nat.le_succ _) _)
      | false =>
        go_wp2_with fail
        refine (D3.out _).mono ?_
        rintro e w1 ⟨rfl, rfl⟩
        go_wp2_with fail
        refine (CV.out _).mono ?_
        rintro e w1 ⟨rfl, rfl⟩
        go_wp2
        refine bodyPost_ret (v := gval ⟨a, 1 + (k1 : Int), false, str (fv.data.toList.take 32)⟩) (by simp [gval, results, Try.results51, go_sem, hRC, hCR, r0, r1, r2, r3]) rfl ⟨⟨a, 1 + (k1 : Int), false, str (fv.data.toList.take 32)⟩, rfl, may_mk (by omega) (by omega) (by omega) (by omega) (by intro h; first | rfl | cases h) (by first | exact HCV.out | exact Nat.zero_le _), ?_⟩
        exact (((((HB.out.setCell (by exact hCw) _).setCell (by exact Nat.le_succ _) _).setCell (by exact Nat.le_succ _) _).setCell (by exact Nat.le_succ _) _).setCell (by exact Nat.le_succ _) _)

theorem all_snoc {α : Type} {l : List α} {p : α → Prop} {x : α} (h : ∀ y ∈ l, p y) (hx : p x) : ∀ y ∈ l ++ [x], p y := by
  intro y hy
  rcases List.mem_append.1 hy with hy | hy
  · exact h y hy
  · rw [List.mem_singleton] at hy
    subst hy
    exact hx
end Go.Proofs.Ytlkjmdkmcaaihaa.PChg
