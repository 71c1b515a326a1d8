/-
  Contracts of package image's reader: a row, a table, the image.
-/
import Derived.Test.YtjicdnknlfpajaaImgMay
import Derived.Test.YtjicdnknlfpajaaTxnReader
namespace Go.Proofs.Ytjicdnknlfpajaa.Img
set_option linter.unusedVariables false
set_option maxRecDepth 100000
open Go.RowKit Base FieldMath TxnMath
open ImgMath
open IdxMath (Rw)
open Idx (rv rv_append rv_one er)
open Txn (Rd St cnumber2_any ctext2_any upTo_any)
set_option linter.ambiguousOpen false
set_option linter.unusedSimpArgs false

def rz : Array Value := #[.int .i64 0, .string ⟨#[]⟩]
def rowV (x : Rw) : Value := .agg #[.int .i64 x.key, .string x.val]
abbrev RwSt := St 103 97 rz
set_option maxHeartbeats 1600000 in
theorem row_any (B g : Nat) (s : Rst) (w : World) (h : Rd w B g s) :
    Calls Try.prog 114 #[.agg #[.pointer (some ⟨g, 0, none⟩)]] w fun e w' => e = .returned (rowV (rdR none s).1) ∧ Rd w' B g (rdR none s).2 ∧ w.grownBy w' (some g) := by
  obtain ⟨a, ha⟩ : ∃ a, a = rdN none s := ⟨_, rfl⟩
  obtain ⟨b, hb⟩ : ∃ b, b = rdT a.2 := ⟨_, rfl⟩
  have HE : Hid (rdR none s = (⟨a.1, b.1⟩, b.2)) := by
    show _ = _
    rw [hb, ha]
    rfl
  have HA := Lib.hid ha
  have HBB := Lib.hid hb
  have HR := Lib.hid h
  have hlt := h.lt
  clear h ha hb
  go_enter Try.func114, Try.ntmps114
  go_wp2_with fail
  have HT0 : Hid (RwSt w B g s rz (((w.alloc (.cells #[.pointer (some ⟨g, 0, none⟩)] 103)).alloc (.cells rz 97)).alloc (.cells rz 97))) := St.start HR.out
  refine (cnumber2_any B g s _ HT0.out.1).mono ?_
  rintro e w1 ⟨he1, hr1, hg1⟩
  rw [← HA.out] at he1 hr1
  subst he1
  have HT1 := Lib.hid (HT0.out.call hlt hr1 hg1)
  have k1 : w1.cell? ⟨w.heap.size + 2, 0, none⟩ = some (.int .i64 0) := HT1.out.2.1.cell 0
  have f1 := HT1.out.2.1.frozen 0
  have c1 := HT1.out.recv
  clear hr1 hg1 HT0
  go_wp2_with fail
  have HS1 := Lib.hid (HT1.out.store hlt 0 (.int .i64 a.1))
  refine (ctext2_any B g a.2 _ HS1.out.1).mono ?_
  rintro e w4 ⟨he4, hr4, hg4⟩
  rw [← HBB.out] at he4 hr4
  subst he4
  have HT4 : Hid (RwSt w B g b.2 #[.int .i64 a.1, .string ⟨#[]⟩] w4) := HS1.out.call hlt hr4 hg4
  have hx4 := HT4.out.2.1
  have hy4 : Blk w4 (w.heap.size + 1) 97 #[.int .i64 0, .string ⟨#[]⟩] := HT4.out.2.2.1
  have p0 : w4.cell? ⟨w.heap.size + 2, 0, none⟩ = some (.int .i64 a.1) := hx4.cell 0
  have p1 : w4.cell? ⟨w.heap.size + 2, 1, none⟩ = some (.string ⟨#[]⟩) := hx4.cell 1
  have q0 : w4.cell? ⟨w.heap.size + 1, 0, none⟩ = some (.int .i64 0) := hy4.cell 0
  have q1 : w4.cell? ⟨w.heap.size + 1, 1, none⟩ = some (.string ⟨#[]⟩) := hy4.cell 1
  have e1 := hx4.frozen 1
  have r0 := hy4.frozen 0
  have r1 := hy4.frozen 1
  clear hr4 hg4 k1 f1 c1 HT1 HS1 hx4 hy4
  have HR4 := Lib.hid HT4.out.1
  have HT5 := Lib.hid HT4.out.2.2.2.1
  have hlt2 : g < w.heap.size + 1 := by omega
  have hlt3 : g < w.heap.size + 2 := by omega
  clear HT4
  go_wp2
  rw [HE.out]
  refine bodyPost_ret (v := rowV ⟨a.1, b.1⟩) (by simp [rowV, results, Try.results114, go_sem, q0, q1]) rfl ⟨rfl, ?_, ?_⟩
  · exact ((HR4.out.far (by exact hlt3) _).far (by exact hlt2) _).far (by exact hlt2) _
  · exact only_setCell (only_setCell (only_setCell HT5.out (.inr (by show w.heap.size ≤ w.heap.size + 2; omega)) _) (.inr (by simp)) _) (.inr (by simp)) _

theorem rdRs_step {hk : Option Int} {N k : Nat} {pre : List Rw} {s0 s : Rst} (h : rdRs hk false N s0 = (pre ++ (rdRs hk false (N - k) s).1, (rdRs hk false (N - k) s).2)) (hlt : k < N) :
    rdRs hk false N s0 = (pre ++ [(rdR hk s).1] ++ (rdRs hk false (N - (k + 1)) (rdR hk s).2).1, (rdRs hk false (N - (k + 1)) (rdR hk s).2).2) := by
  obtain ⟨m, hm⟩ : ∃ m, N - k = m + 1 := ⟨N - k - 1, by omega⟩
  rw [h, hm, show N - (k + 1) = m by omega, rdRs, if_neg (by simp)]
  simp
theorem rdTabs_step {hk : Option Int} {N k : Nat} {pre : List (List Rw)} {s0 s : Rst} (h : rdTabs hk false N s0 = (pre ++ (rdTabs hk false (N - k) s).1, (rdTabs hk false (N - k) s).2)) (hlt : k < N) :
    rdTabs hk false N s0 = (pre ++ [(rdTab hk false s).1] ++ (rdTabs hk false (N - (k + 1)) (rdTab hk false s).2).1, (rdTabs hk false (N - (k + 1)) (rdTab hk false s).2).2) := by
  obtain ⟨m, hm⟩ : ∃ m, N - k = m + 1 := ⟨N - k - 1, by omega⟩
  rw [h, hm, show N - (k + 1) = m by omega, rdTabs, if_neg (by simp)]
  simp
theorem rdN_range {m : Int} (hm : 0 ≤ m) (s : Rst) : 0 ≤ (rdN (some m) s).1 ∧ (rdN (some m) s).1 ≤ m := by
  unfold rdN
  match s with
  | none => exact ⟨Int.le_refl _, hm⟩
  | some [] => exact ⟨Int.le_refl _, hm⟩
  | some (f :: r) =>
    dsimp only
    by_cases h : f.kind = 1 ∧ fits (some m) f.n = true
    · rw [if_pos h]
      have := h.2
      unfold fits at this
      simp only [Bool.and_eq_true, decide_eq_true_eq] at this
      exact this
    · rw [if_neg h]
      exact ⟨Int.le_refl _, hm⟩
theorem one_row (w : World) (x : Rw) {s : Nat} (hs : s = w.heap.size) : Row (w.alloc (.cells #[.int .i64 x.key, .string x.val] 97)) (w.heap.size + 1) 2 (some ⟨s, 0, none⟩) 1 1 (rv [x]) :=
  Row.lit w #[.int .i64 x.key, .string x.val] 97 (0, 0) hs rfl (by omega)
/-- a method of package image's reader that has a box of its receiver alone, on its way -/
def ImSt (w : World) (B g : Nat) (s : Rst) (wr : World) : Prop := Rd wr B g s ∧ Blk wr w.heap.size 103 #[.pointer (some ⟨g, 0, none⟩)] ∧ w.grownBy wr (some g)
section
variable {w wr w1 : World} {B g : Nat} {s s' : Rst}
theorem ImSt.start (h : Rd w B g s) : ImSt w B g s (w.alloc (.cells #[.pointer (some ⟨g, 0, none⟩)] 103)) := ⟨h.alloc _, Blk.new _ _ _, only_alloc (World.grownBy.refl w (some g)) _⟩
theorem ImSt.call (h : ImSt w B g s wr) (hlt : g < w.heap.size) (hr : Rd w1 B g s') (hg : wr.grownBy w1 (some g)) : ImSt w B g s' w1 := ⟨hr, Txn.Blk.kept h.2.1 hg (by omega), only_trans h.2.2 hg (.inl rfl)⟩
theorem ImSt.below (h : ImSt w B g s wr) (hlt : g < w.heap.size) (hb : Below (w.heap.size + 1) wr w1) : ImSt w B g s w1 := by
  obtain ⟨⟨A, n, c, l, x, h1, h2, h3, h4⟩, hp, ho⟩ := h
  exact ⟨⟨A, n, c, l, x, h1.below hb (by omega), h2.below (hb.mono (by omega)), h3, h4⟩, hp.below hb (by omega),
    ⟨hb.os.trans ho.os, hb.tape.trans ho.tape, hb.output.trans ho.output, Nat.le_trans ho.size hb.size, fun i hi hne => (hb.block i (by omega)).trans (ho.block i hi hne)⟩⟩
theorem ImSt.alloc (h : ImSt w B g s wr) (o : Obj) : ImSt w B g s (wr.alloc o) := ⟨h.1.alloc o, h.2.1.alloc o, only_alloc h.2.2 o⟩
theorem ImSt.recv (h : ImSt w B g s wr) : wr.cell? ⟨w.heap.size, 0, none⟩ = some (.pointer (some ⟨g, 0, none⟩)) := h.2.1.cell 0
end
theorem own_off {wr w1 : World} {g n base : Nat} {e : TypeId} {size : Nat} {v : Value} {xs : List Value} (h : wr.ownsRow base e size v n xs) (hlt : g < base) (hg : wr.grownBy w1 (some g)) : w1.ownsRow base e size v n xs :=
  h.kept hg (.inr fun e => by have := (h.lt g e).1; omega)
def TaRel (w : World) (B g N : Nat) (s0 : Rst) (vl vi : Value) (wr : World) : Prop :=
  ∃ (k : Nat) (pre : List Rw) (s : Rst) (A : Option Addr) (c : Nat), k ≤ N ∧ vi = .int .i64 k ∧ vl = .slice A k c ∧ rdRs none false N s0 = (pre ++ (rdRs none false (N - k) s).1, (rdRs none false (N - k) s).2) ∧
    wr.ownsRow (w.heap.size + 1) 97 2 (.slice A k c) k (rv pre) ∧ ImSt w B g s wr
/-- what the reader of a table answers -/
def ReadTab (w : World) (B g : Nat) (q : List Rw × Rst) (e : Ending) (w' : World) : Prop :=
  ∃ A n c, e = .returned (.slice A n c) ∧ w'.ownsRow w.heap.size 97 2 (.slice A n c) n (rv q.1) ∧ Rd w' B g q.2 ∧ w.grownBy w' (some g)
set_option maxHeartbeats 3200000 in
theorem table_any (B g : Nat) (s : Rst) (w : World) (h : Rd w B g s) :
    Calls Try.prog 99 #[.agg #[.pointer (some ⟨g, 0, none⟩)]] w (ReadTab w B g (rdTab none false s)) := by
  obtain ⟨n, hn⟩ : ∃ n, n = rdN (some 1000) s := ⟨_, rfl⟩
  have hn2 := rdN_range (show (0 : Int) ≤ 1000 by omega) s
  rw [← hn] at hn2
  obtain ⟨N, hN⟩ : ∃ N : Nat, n.1 = N := ⟨n.1.toNat, by omega⟩
  rw [hN] at hn2
  obtain ⟨d, hd⟩ : ∃ d, d = rdRs none false N n.2 := ⟨_, rfl⟩
  have HE : Hid (rdTab none false s = d) := by
    show _ = _
    rw [hd, ← Int.toNat_natCast N, ← hN, hn]
    rfl
  have HNN := Lib.hid hn
  have HN := Lib.hid hN
  have HD := Lib.hid hd
  have HR := Lib.hid h
  have hlt := h.lt
  clear h hn hN hd
  go_enter Try.func99, Try.ntmps99
  go_wp2_with fail
  have HT0 : Hid (ImSt w B g s (w.alloc (.cells #[.pointer (some ⟨g, 0, none⟩)] 103))) := ImSt.start HR.out
  refine (upTo_any B g s 1000 _ HT0.out.1 (by omega)).mono ?_
  rintro e w1 ⟨he1, hr1, hg1⟩
  rw [show ((1000 : Nat) : Int) = 1000 from rfl, ← HNN.out, HN.out] at he1
  rw [show ((1000 : Nat) : Int) = 1000 from rfl, ← HNN.out] at hr1
  subst he1
  have HT1 := Lib.hid (HT0.out.call hlt hr1 hg1)
  clear hr1 hg1 HT0
  go_wp2
  go_loopw [3, 7] (fun vl vi wr => TaRel w B g N n.2 vl vi wr) (fun _ vi _ => N - (intOf vi).toNat)
  case atStart => exact ⟨0, [], n.2, none, 0, by omega, rfl, rfl, rfl, World.ownsRow_nil _ _ _ _, HT1.out⟩
  case round =>
    obtain ⟨k, pre, s1, A, cp, hk, rfl, rfl, hrd, hown, hst⟩ := hrel
    have c1 := hst.recv
    have HRD := Lib.hid hrd
    have HO := Lib.hid hown
    have HT := Lib.hid hst
    clear hrd hown hst HT1
    by_cases hlk : k < N
    · have HST := Lib.hid (rdRs_step HRD.out hlk)
      have l1 : (k : Int) < (N : Int) := by omega
      go_wp2_with fail
      refine (row_any B g s1 _ HT.out.1).mono ?_
      rintro e w5 ⟨rfl, hr5, hg5⟩
      have HT5 := Lib.hid (HT.out.call hlt hr5 hg5)
      have HO5 := Lib.hid (own_off HO.out (by omega) hg5)
      obtain ⟨f, hf⟩ : ∃ f, f = (rdR none s1).1 := ⟨_, rfl⟩
      rw [← hf] at HST ⊢
      unfold rowV
      clear hf hr5 hg5
      have hz5 := HT5.out.2.1.lt
      go_wp2_with (first
        | (at_builtin
           refine wpList_append_row rfl (.tmp 9) (.tmp 12) rfl er (w.heap.size + 1) (.slice A k cp) k (rv pre) rfl (own_keep HO5.out ((Below.refl _ _).alloc (Nat.le_refl _) _)) (w5.heap.size + 1) (some ⟨w5.heap.size, 0, none⟩) 1 1 (rv [f]) rfl (one_row w5 f rfl) (rv_one _) (by omega) (by omega) (by simp; omega) ?_
           intro A6 c6 w6 hown6 _ hb6
           rw [← rv_append] at hown6
           have HO6 := Lib.hid hown6
           have HT6 := Lib.hid ((HT5.out.alloc (.cells #[.int .i64 f.key, .string f.val] 97)).below hlt hb6)
           clear hown6 hb6)
        | fail)
      go_roundw
      case rel => exact ⟨k + 1, pre ++ [f], (rdR none s1).2, A6, c6, by omega, by go_num, rfl, HST.out, HO6.out, HT6.out⟩
      case measure => simp [intOf]; omega
    · have HD1 : Hid (d = (pre, s1)) := by
        show d = _
        rw [HD.out, HRD.out, show N - k = 0 by omega]
        simp [rdRs]
      have l1 : ¬ (k : Int) < (N : Int) := by omega
      go_wp2
      go_ret
      rw [HE.out, HD1.out]
      exact ⟨A, k, cp, rfl, own_mono HO.out (by omega), HT.out.1, HT.out.2.2⟩
end Go.Proofs.Ytjicdnknlfpajaa.Img
