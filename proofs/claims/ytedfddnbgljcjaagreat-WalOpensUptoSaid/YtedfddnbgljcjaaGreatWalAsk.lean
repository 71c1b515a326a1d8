/-
  Contracts of what reads a log (package wal): the number of a segment's last entry, Head, Low, Segments, Read.
-/
import Derived.Test.YtedfddnbgljcjaaGreatWalMem
import Derived.Test.YtedfddnbgljcjaaGreatDiskAsk
import Derived.StillTailTactics
import Derived.BigQuiet
import Derived.RegionTactic
import Derived.Deep.RegionHeld3
namespace Go.Proofs.YtedfddnbgljcjaaGreat.Wal
set_option maxRecDepth 100000
open Go.RowKit Base WalMath
open Go.Proofs.YtedfddnbgljcjaaGreat.Disk (Turn Out DiskAt I64 Fits)
open DiskMath (Fl Dk)
set_option linter.ambiguousOpen false

set_option maxHeartbeats 400000 in
theorem last_any (f x : Int) (A : Option Addr) (n c : Nat) (z : Int) (w : World) (h1 : 0 ≤ x) (h2 : x + n ≤ 9223372036854775807) :
    Calls Tryz.prog 46 #[.agg #[.int .i64 f, .int .i64 x, .slice A n c, .int .i64 z]] w fun e w' => e = .returned (.int .i64 (x + n - 1)) ∧ Below w.heap.size w w' := by
  go_enter Tryz.func46, Tryz.ntmps46
  go_wp2
  go_ret
  exact ⟨rfl, (Below.refl _ _).alloc (Nat.le_refl _) _⟩

set_option maxHeartbeats 800000 in
theorem head_any (G : Nat → Prop) (g gd : Nat) (l : Lg) (w : World) (h : LogAt G w g gd l) (ho : ∀ s ∈ l.segs, SgOk s) :
    Calls Tryz.prog 17 #[.pointer (some ⟨g, 0, none⟩)] w fun e w' => e = .returned (.int .i64 (hd l.segs)) ∧ Below w.heap.size w w' := by
  obtain ⟨A, n, c, qs, lp, h⟩ := h
  have c0 := h.cells.1
  have hlen := h.len
  rcases List.eq_nil_or_concat l.segs with e | ⟨pre, s, e⟩
  · rw [e] at hlen ⊢
    obtain rfl : 0 = n := hlen
    clear h ho e
    go_enter Tryz.func17, Tryz.ntmps17
    go_wp2
    go_ret
    exact ⟨rfl, Below.refl _ _⟩
  · rw [List.concat_eq_append] at e
    rw [e, List.length_append, List.length_singleton] at hlen
    obtain ⟨b, q, rfl, _, _, hb, hpn, ⟨hnc, hcm⟩, _, k0, k1, k2, k3⟩ := h.at_ (k := pre.length) (s := s) (by rw [e]; simp)
    have hs := ho s (by rw [e]; simp)
    rw [e, hd_snoc]
    have HL := Lib.hid (show last s = s.first + s.rows.length - 1 from rfl)
    obtain ⟨_, _, h1, h2, _⟩ := hs
    rw [HL.out] at h2
    clear h ho e
    obtain ⟨f, x, rows, z⟩ := s
    dsimp only at *
    generalize rows.length = r at *
    generalize pre.length = p at *
    go_enter Tryz.func17, Tryz.ntmps17
    have hwp : IntKind.i64.wrap ((n : Int) - 1) = p := by rw [IntWalk.i64_in _ (by omega)]; omega
    have hn0 : ((n : Int) == 0) = false := by simp; omega
    clear hlen
    go_wp2
    go_still_tail 12, (by kernel_rfl)
    go_wp2_with fail
    refine (last_any f x q.A r q.c z _ (by omega) (by omega)).mono ?_
    rintro e w1 ⟨rfl, hb1⟩
    have HB := Lib.hid (below_of_drew hb1)
    clear hb1
    go_wp2
    go_ret
    exact ⟨by rw [HL.out]; rfl, HB.out⟩

theorem low_any (G : Nat → Prop) (g gd : Nat) (l : Lg) (w : World) (h : LogAt G w g gd l) :
    Calls Tryz.prog 16 #[.pointer (some ⟨g, 0, none⟩)] w fun e w' => e = .returned (.int .i64 (low l.segs)) ∧ w = w' := by
  obtain ⟨A, n, c, qs, lp, h⟩ := h
  have c0 := h.cells.1
  have hlen := h.len
  cases e : l.segs with
  | nil =>
    rw [e] at hlen
    obtain rfl : 0 = n := hlen
    clear h e
    go_enter Tryz.func16, Tryz.ntmps16
    go_wp2
    go_ret
    exact ⟨rfl, rfl⟩
  | cons s r =>
    obtain ⟨b, q, rfl, _, _, hb, hpn, ⟨hnc, hcm⟩, _, k0, k1, k2, k3⟩ := h.at_ (k := 0) (s := s) (by rw [e]; rfl)
    have hn0 : ((n : Int) == 0) = false := by simp; omega
    rw [Nat.zero_mul, Nat.zero_add] at k1
    clear h e hlen k0 k2 k3
    go_enter Tryz.func16, Tryz.ntmps16
    go_wp2
    go_ret
    exact ⟨rfl, rfl⟩
theorem segments_any (G : Nat → Prop) (g gd : Nat) (l : Lg) (w : World) (h : LogAt G w g gd l) :
    Calls Tryz.prog 20 #[.pointer (some ⟨g, 0, none⟩)] w fun e w' => e = .returned (.int .i64 l.segs.length) ∧ w = w' := by
  obtain ⟨A, n, c, qs, lp, h⟩ := h
  have c0 := h.cells.1
  rw [h.len]
  clear h
  go_enter Tryz.func20, Tryz.ntmps20
  go_wp2
  go_ret
  exact ⟨rfl, rfl⟩

theorem quiet {f : FuncId} {args : Array Value} {w : World} {n : Nat} {v : Value} (h : Calls Tryz.prog f args (w.drewN n) fun e w' => e = .returned v ∧ w.drewN n = w') : Calls Tryz.prog f args (w.drewN n) fun e w'' => e = .returned v ∧ ∃ m, w'' = w.drewN m :=
  h.mono fun _ _ h => ⟨h.1, n, h.2.symm⟩
/-- what Read answers -/
def ReadS (w : World) (r : Option (List UInt8)) (e : Ending) (w' : World) : Prop := match r with
  | none => e = .returned (.tuple #[.slice none 0 0, .int .i64 5]) ∧ Below w.heap.size w w'
  | some p => ∃ A c, e = .returned (.tuple #[.slice A p.length c, .int .i64 0]) ∧ w'.ownsRow w.heap.size 5 1 (.slice A p.length c) p.length (bv p) ∧ Below w.heap.size w w'
def entry (l : List Sg) (n : Int) : Option (List UInt8) := if low l ≤ n ∧ n ≤ hd l then (rowsOf l)[(n - low l).toNat]? else none

set_option maxHeartbeats 1600000 in
theorem readno_any (G : Nat → Prop) (g gd : Nat) (l : Lg) (lsn : Int) (w : World) (h : LogAt G w g gd l) (ho : ∀ s ∈ l.segs, SgOk s) (hn : ¬ (low l.segs ≤ lsn ∧ lsn ≤ hd l.segs)) :
    Calls Tryz.prog 19 #[.pointer (some ⟨g, 0, none⟩), .int .i64 lsn] w (ReadS w none) := by
  have HL := Lib.hid h
  have HO := Lib.hid ho
  clear h ho
  have HW : Hid (Below w.heap.size w ((w.alloc (.cells #[.pointer (some ⟨g, 0, none⟩)] 97)).alloc (.cells #[.int .i64 lsn] 2))) := ((Below.refl _ _).alloc (Nat.le_refl _) _).alloc (by simp) _
  have hc0 : ((w.alloc (.cells #[.pointer (some ⟨g, 0, none⟩)] 97)).alloc (.cells #[.int .i64 lsn] 2)).cell? ⟨w.heap.size, 0, none⟩ = some (.pointer (some ⟨g, 0, none⟩)) := by simp
  have hc1 : ((w.alloc (.cells #[.pointer (some ⟨g, 0, none⟩)] 97)).alloc (.cells #[.int .i64 lsn] 2)).cell? ⟨w.heap.size + 1, 0, none⟩ = some (.int .i64 lsn) := by simp
  by_cases h1 : lsn < low l.segs
  · clear hn
    generalize hlo : low l.segs = lo at h1
    have HLO := Lib.hid hlo
    have hd1 : decide (lsn < lo) = true := by simpa using h1
    clear hlo h1
    go_enter Tryz.func19, Tryz.ntmps19
    go_wp2_with fail
    generalize (w.alloc (.cells #[.pointer (some ⟨g, 0, none⟩)] 97)).alloc (.cells #[.int .i64 lsn] 2) = W at hc0 hc1 HW ⊢
    generalize w.heap.size = s0 at hc0 hc1
    have HLW := Lib.hid (HL.out.new HW.out)
    have QL := Lib.hid (fun n => quiet (w := W) (n := n) (low_any G g gd l (W.drewN n) HLW.out))
    rw [HLO.out] at QL
    go_quiet (first | (go_at_call 16; exact QL.out _))
    go_wp2
    go_ret2
    exact ⟨rfl, below_drewN HW.out nq⟩
  · have h2 : hd l.segs < lsn := by omega
    clear hn
    generalize hlo : low l.segs = lo at h1
    generalize hhi : hd l.segs = hi at h2
    have HLO := Lib.hid hlo
    have HHI := Lib.hid hhi
    have hd1 : decide (lsn < lo) = false := by simpa using h1
    have hd2 : decide (hi < lsn) = true := by simpa using h2
    clear hlo hhi h1 h2
    go_enter Tryz.func19, Tryz.ntmps19
    go_wp2_with fail
    generalize (w.alloc (.cells #[.pointer (some ⟨g, 0, none⟩)] 97)).alloc (.cells #[.int .i64 lsn] 2) = W at hc0 hc1 HW ⊢
    generalize w.heap.size = s0 at hc0 hc1
    have HLW := Lib.hid (HL.out.new HW.out)
    go_region_held3 (fun w' => w'.cell? ⟨s0, 0, none⟩ = some (.pointer (some ⟨g, 0, none⟩)) ∧ w'.cell? ⟨s0 + 1, 0, none⟩ = some (.int .i64 lsn) ∧ Below W.heap.size W w')
      (first
        | exact held2 (held_start W) hc0 hc1
        | assumption
        | (go_split_ands; exact held2 (held_call (by assumption) hbc) hc0 hc1)
        | fail)
      (first
        | (go_at_call 16; go_split_ands; refine (low_any G g gd l _ (HLW.out.new (by assumption))).mono ?_; rintro e wc ⟨rfl, rfl⟩; rw [HLO.out])
        | (go_at_call 17; go_split_ands; refine (head_any G g gd l _ (HLW.out.new (by assumption)) HO.out).mono ?_; rintro e wc ⟨rfl, hbc⟩; rw [HHI.out])
        | fail)
    go_wp2
    go_ret2
    exact ⟨rfl, held_two HW.out (held_call (held_start W) hbc)⟩
end Go.Proofs.YtedfddnbgljcjaaGreat.Wal
