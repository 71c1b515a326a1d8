/-
  Contracts of package req: which requests may be.
-/
import Derived.Test.YtlkjmdkmcaaihaaReqMem
import Derived.Test.YtlkjmdkmcaaihaaGrow
import Derived.BigQuiet
import Derived.StillTailTactics
namespace Go.Proofs.Ytlkjmdkmcaaihaa.Req
set_option linter.unusedVariables false
set_option maxRecDepth 100000
open Go.RowKit Base ReqMath
open Go.Sort (grow)
set_option linter.ambiguousOpen false
set_option linter.unusedSimpArgs false

theorem nextid_any (A : Option Addr) (n c : Nat) (w : World) (hn : n ≤ 1099511627776) :
    Calls Try.prog 84 #[.slice A n c] w fun e w' => e = .returned (.int .i64 ((n : Int) + 1)) ∧ w = w' := by
  go_enter Try.func84, Try.ntmps84
  go_wp2
  go_ret
  exact ⟨rfl, rfl⟩
theorem lastat_any (B : Nat) (A : Option Addr) (n c : Nat) (l : List Rq) (w : World) (h : Qs w B A n c l) :
    Calls Try.prog 90 #[.slice A n c] w fun e w' => e = .returned (.int .i64 (lastAt l)) ∧ w = w' := by
  have hle := h.le
  have hlen := h.len
  rcases Nat.eq_zero_or_pos n with h0 | h0
  · subst h0
    obtain rfl : l = [] := List.eq_nil_of_length_eq_zero hlen
    go_enter Try.func90, Try.ntmps90
    go_wp2
    go_ret
    exact ⟨rfl, rfl⟩
  · obtain ⟨m, rfl⟩ : ∃ m, n = m + 1 := ⟨n - 1, by omega⟩
    obtain ⟨b, off, f, rfl, hb, q0, q1, q2, q3, q4, q5, q6, hget, _⟩ := h.at_ (k := m) (by omega)
    have HL := Lib.hid (lastAt_last hlen hget)
    clear hlen hget h q0 q1 q2 q4 q5 q6
    have l1 : ((m : Int) + 1 == 0) = false := by rw [beq_eq_false_iff_ne]; omega
    go_enter Try.func90, Try.ntmps90
    go_wp2
    go_ret
    exact ⟨by rw [HL.out]; rfl, rfl⟩
set_option maxHeartbeats 1600000 in
theorem inb_any (r : Rq) (w : World) :
    Calls Try.prog 89 #[qval r] w fun e w' => e = .returned (.bool (inb r)) ∧ Gr w w' := by
  obtain ⟨r0, r1, r2, r3, r4, r5, r6⟩ := r
  unfold qval
  dsimp only
  have HE := Lib.hid (show inb ⟨r0, r1, r2, r3, r4, r5, r6⟩ = (decide (0 ≤ r1) && decide (r1 < 8) && decide (1 ≤ r2) && decide (r2 ≤ 8) && decide (1 ≤ r3) && decide (r3 ≤ 1099511627776) && decide (0 ≤ r4) && decide (r4 ≤ 1099511627776) && decide (0 ≤ r5) && decide (r5 ≤ 1099511627776)) from rfl)
  go_enter Try.func89, Try.ntmps89
  go_wp2
  all_goals (
    go_ret
    refine ⟨?_, (Gr.refl w).alloc _⟩
    rw [HE.out]
    congr 2
    first
      | (simp [*]; done)
      | (simp [*]; omega))
set_option maxHeartbeats 400000 in
theorem waits1_any (r : Rq) (t : Int) (p : Nat) (w : World) (hp : w.cell? ⟨p, 0, none⟩ = some (.int .i64 t)) :
    Calls Try.prog 94 #[qval r, .pointer (some ⟨p, 0, none⟩)] w fun e w' => e = .returned (.bool (r.tbl == t && !r.done)) ∧ Gr w w' := by
  obtain ⟨r0, r1, r2, r3, r4, r5, r6⟩ := r
  unfold qval
  dsimp only
  have hp2 : ∀ o, (w.alloc o).cell? ⟨p, 0, none⟩ = some (.int .i64 t) := fun o => (World.cell?_alloc_lt w o _ (World.block_lt_of_cell? w _ hp)).trans hp
  go_enter Try.func94, Try.ntmps94
  go_wp2
  all_goals (
    go_ret
    refine ⟨?_, (Gr.refl w).alloc _⟩
    congr 2
    simp [*])
set_option maxHeartbeats 800000 in
theorem indexfunc_any (B : Nat) (A : Option Addr) (n c : Nat) (l : List Rq) (t : Int) (p : Nat) (w : World) (h : Qs w B A n c l) (hB : B ≤ w.heap.size) (hp : w.cell? ⟨p, 0, none⟩ = some (.int .i64 t)) :
    Calls Try.prog 96 #[.slice A n c, .func (.func 94) #[] #[.pointer (some ⟨p, 0, none⟩)]] w fun e w' => ∃ i : Int, e = .returned (.int .i64 i) ∧ waits l t = decide (0 ≤ i) ∧ Gr w w' := by
  have hle := h.le
  have HL := Lib.hid h.len
  have HR := Lib.hid h
  have HP : Hid (∀ wr, Gr w wr → wr.cell? ⟨p, 0, none⟩ = some (.int .i64 t)) := fun wr hg => (hg.below.cell (World.block_lt_of_cell? w _ hp)).trans hp
  clear h hp
  go_enter Try.func96, Try.ntmps96
  go_wp2
  go_loopw [8] (fun i wr => ∃ k : Nat, k ≤ n ∧ i = .int .i64 k ∧ waits (l.take k) t = false ∧ Gr w wr) (fun i _ => n - (intOf i).toNat)
  case atStart => exact ⟨0, by omega, rfl, rfl, Gr.refl _⟩
  case round =>
    obtain ⟨k, hk, rfl, hno, hg⟩ := hrel
    have HG := Lib.hid hg
    have HN := Lib.hid hno
    clear hg hno
    by_cases hlt : k < n
    · obtain ⟨b, off, f, rfl, hb, q0, q1, q2, q3, q4, q5, q6, hget, ht⟩ := (HR.out.below (HG.out.below.mono hB)).at_ hlt
      have HW : Hid (waits (l.take (k + 1)) t = (f.tbl == t && !f.done)) := by show _ = _; rw [ht, waits_snoc, HN.out, Bool.false_or]
      have HY : Hid ((f.tbl == t && !f.done) = true → waits l t = true) := waits_yes hget
      have hc := waits1_any f t p wr (HP.out wr HG.out)
      have HC := Lib.hid hc
      clear hc hget ht
      obtain ⟨bb, hbb⟩ : ∃ bb, bb = (f.tbl == t && !f.done) := ⟨_, rfl⟩
      rw [← hbb] at HW HY HC
      clear hbb
      have l1 : (k : Int) < (n : Int) := by omega
      unfold qval at HC
      go_wp2_with fail
      refine HC.out.mono ?_
      rintro e w2 ⟨rfl, hg2⟩
      have HG2 := Lib.hid (HG.out.trans hg2)
      clear hg2
      cases bb with
      | true =>
        go_wp2
        go_ret
        exact ⟨k, rfl, by rw [show waits l t = true by first | exact HY.out trivial | exact HY.out rfl]; simp, HG2.out⟩
      | false =>
        go_wp2
        go_roundw
        case rel => exact ⟨k + 1, by omega, by go_num, HW.out, HG2.out⟩
        case measure => simp [intOf]; omega
    · have hkn : k = n := by omega
      go_wp2
      go_ret
      exact ⟨-1, rfl, by have := HN.out; rw [hkn, List.take_of_length_le (by rw [HL.out]; omega)] at this; rw [this]; rfl, HG.out⟩
theorem containsfunc_any (B : Nat) (A : Option Addr) (n c : Nat) (l : List Rq) (t : Int) (p : Nat) (w : World) (h : Qs w B A n c l) (hB : B ≤ w.heap.size) (hp : w.cell? ⟨p, 0, none⟩ = some (.int .i64 t)) :
    Calls Try.prog 93 #[.slice A n c, .func (.func 94) #[] #[.pointer (some ⟨p, 0, none⟩)]] w fun e w' => e = .returned (.bool (waits l t)) ∧ Gr w w' := by
  have HC := Lib.hid (indexfunc_any B A n c l t p w h hB hp)
  clear h hp
  go_enter Try.func93, Try.ntmps93
  go_wp2_with fail
  refine HC.out.mono ?_
  rintro e w2 ⟨i, rfl, hi, hg2⟩
  have HI := Lib.hid hi
  have HG2 := Lib.hid hg2
  clear hi hg2
  go_wp2
  all_goals (
    go_ret
    refine ⟨?_, HG2.out⟩
    rw [HI.out]
    try simp [*])
set_option maxHeartbeats 400000 in
theorem waits_any (B : Nat) (A : Option Addr) (n c : Nat) (l : List Rq) (t : Int) (w : World) (h : Qs w B A n c l) (hB : B ≤ w.heap.size) :
    Calls Try.prog 91 #[.slice A n c, .int .i64 t] w fun e w' => e = .returned (.bool (waits l t)) ∧ Gr w w' := by
  have hb : Below w.heap.size w (w.alloc (.cells #[.int .i64 t] 3)) := (Below.refl _ _).alloc (Nat.le_refl _) _
  have HC := Lib.hid (containsfunc_any B A n c l t w.heap.size (w.alloc (.cells #[.int .i64 t] 3)) (h.below (hb.mono hB)) (Nat.le_trans hB hb.size) ((Blk.new w _ _).cell 0))
  clear h hb
  go_enter Try.func91, Try.ntmps91
  go_wp2_with fail
  refine HC.out.mono ?_
  rintro e w2 ⟨rfl, hg2⟩
  have HG2 := Lib.hid (((Gr.refl w).alloc _).trans hg2)
  clear hg2
  go_wp2
  go_ret
  exact ⟨rfl, HG2.out⟩
end Go.Proofs.Ytlkjmdkmcaaihaa.Req
