/-
  Contracts of package wal's small functions that open a log: whether a segment is torn, whole, goes on; what a file is read as.
-/
import Derived.Test.YtedfddnbgljcjaaGreatWalWrite
import Derived.Test.YtedfddnbgljcjaaGreatSegRead
namespace Go.Proofs.YtedfddnbgljcjaaGreat.Wal
set_option maxRecDepth 100000
open Go.RowKit Base WalMath
open Go.Proofs.YtedfddnbgljcjaaGreat.Disk (Turn Out DiskAt I64 Fits own_same own_type)
open DiskMath (Fl Dk)
set_option linter.ambiguousOpen false

set_option maxHeartbeats 800000 in
theorem istorn_any (F G : Nat → Prop) (g gd : Nat) (l : Lg) (d : Dk) (f x : Int) (A : Option Addr) (r c z : Nat) (w : World) (h : LogAt G w g gd l) (hdk : DiskAt F w gd d) (hI : I64 f) :
    Calls Tryz.prog 63 #[.pointer (some ⟨g, 0, none⟩), .agg #[.int .i64 f, .int .i64 x, .slice A r c, .int .i64 z]] w fun e w' => e = .returned (.bool (decide ((z : Int) < DiskMath.size d f))) ∧ Below w.heap.size w w' := by
  obtain ⟨A', n', c', qs, lp, h⟩ := h
  have hbW : Below w.heap.size w (w.alloc (.cells #[.int .i64 f, .int .i64 x, .slice A r c, .int .i64 z] 99)) := (Below.refl _ _).alloc (Nat.le_refl _) _
  have c1 : (w.alloc (.cells #[.int .i64 f, .int .i64 x, .slice A r c, .int .i64 z] 99)).cell? ⟨g, 1, none⟩ = some (.pointer (some ⟨gd, 0, none⟩)) := held_cell hbW h.cells.2.1
  have hbk := Blk.new w 99 #[.int .i64 f, .int .i64 x, .slice A r c, .int .i64 z]
  have b0 : (w.alloc (.cells #[.int .i64 f, .int .i64 x, .slice A r c, .int .i64 z] 99)).cell? ⟨w.heap.size, 0, none⟩ = some (.int .i64 f) := hbk.cell 0
  have b3 : (w.alloc (.cells #[.int .i64 f, .int .i64 x, .slice A r c, .int .i64 z] 99)).cell? ⟨w.heap.size, 3, none⟩ = some (.int .i64 z) := hbk.cell 3
  have HBW := Lib.hid hbW
  have hdW := hdk.new hbW
  have QL := Lib.hid (fun n => quiet (w := w.alloc (.cells #[.int .i64 f, .int .i64 x, .slice A r c, .int .i64 z] 99)) (n := n) (Disk.len_any F gd d f _ (hdW.drewN n) hI))
  clear h hdk hdW hbk hbW
  generalize hW : w.alloc (.cells #[.int .i64 f, .int .i64 x, .slice A r c, .int .i64 z] 99) = W at *
  generalize DiskMath.size d f = sz at *
  go_enter Tryz.func63, Tryz.ntmps63
  go_wp2_with fail
  go_quiet (first | (go_at_call 80; exact QL.out _))
  go_wp2
  go_ret
  exact ⟨rfl, below_drewN HBW.out nq⟩

set_option maxHeartbeats 800000 in
theorem iswhole_any (F G : Nat → Prop) (g gd : Nat) (l : Lg) (d : Dk) (f x : Int) (A : Option Addr) (r c z n : Nat) (w : World) (h : LogAt G w g gd l) (hdk : DiskAt F w gd d) (hI : I64 f) (hn : DiskMath.size d f = n) :
    Calls Tryz.prog 61 #[.pointer (some ⟨g, 0, none⟩), .agg #[.int .i64 f, .int .i64 x, .slice A r c, .int .i64 z]] w fun e w' => e = .returned (.bool (decide (0 < r) && !decide (z < n))) ∧ Below w.heap.size w w' := by
  have HBW : Hid (Below w.heap.size w (w.alloc (.cells #[.int .i64 f, .int .i64 x, .slice A r c, .int .i64 z] 99))) := (Below.refl _ _).alloc (Nat.le_refl _) _
  have HQ := Lib.hid (istorn_any F G g gd l d f x A r c z _ (h.new HBW.out) (hdk.new HBW.out) hI)
  generalize hres : (decide (0 < r) && !decide (z < n)) = res
  have HRES := Lib.hid hres
  clear hres
  have hE : decide ((z : Int) < DiskMath.size d f) = decide (z < n) := by rw [hn]; simp
  generalize ht : decide (z < n) = t at hE HRES
  have HE := Lib.hid hE
  clear h hdk hn ht hE
  by_cases h0 : 0 < r
  · have HR := Lib.hid (show res = !t by rw [← HRES.out, decide_eq_true h0]; rfl)
    clear HRES
    cases t
    all_goals
      go_enter Tryz.func61, Tryz.ntmps61
      go_wp2_with fail
      refine HQ.out.mono ?_
      rintro e w1 ⟨rfl, hb1⟩
      rw [HE.out]
      have HB1 := Lib.hid (held_two HBW.out hb1)
      clear hb1
      go_wp2
      go_ret
      exact ⟨by rw [HR.out]; rfl, HB1.out⟩
  · obtain rfl : r = 0 := by omega
    have HR := Lib.hid (show res = false by rw [← HRES.out]; rfl)
    clear h0 HRES
    go_enter Tryz.func61, Tryz.ntmps61
    go_wp2
    go_ret
    exact ⟨by rw [HR.out]; rfl, HBW.out⟩

set_option maxHeartbeats 1600000 in
theorem goeson_any (G : Nat → Prop) (g gd : Nat) (l : Lg) (f x : Int) (A : Option Addr) (r c z : Nat) (s : Sg) (w : World) (h : LogAt G w g gd l) (ho : ∀ s ∈ l.segs, SgOk s) (hx : 0 ≤ x) (hxr : x + r ≤ 9223372036854775807) (hsx : s.first = x) (hsr : s.rows.length = r) :
    Calls Tryz.prog 60 #[.pointer (some ⟨g, 0, none⟩), .agg #[.int .i64 f, .int .i64 x, .slice A r c, .int .i64 z]] w fun e w' => e = .returned (.bool (goesOn l.segs s)) ∧ Below w.heap.size w w' := by
  generalize hres : goesOn l.segs s = res
  have HG : Hid (res = ((decide (l.segs.length = 0) || decide (x = hd l.segs + 1)) && decide (x + r - 1 ≤ 1099511627776))) := by
    rw [← hres]
    unfold goesOn last
    rw [hsx, hsr]
    exact rfl
  clear hres hsx hsr
  generalize hls : decide (x + (r : Int) - 1 ≤ 1099511627776) = lb at HG
  have hhb := hd_bd ho
  obtain ⟨A', n', c', qs, lp, hL⟩ := h
  have hlen := hL.len
  have hbW : Below w.heap.size w (w.alloc (.cells #[.int .i64 f, .int .i64 x, .slice A r c, .int .i64 z] 99)) := (Below.refl _ _).alloc (Nat.le_refl _) _
  have c0 : (w.alloc (.cells #[.int .i64 f, .int .i64 x, .slice A r c, .int .i64 z] 99)).cell? ⟨g, 0, none⟩ = some (.slice A' n' c') := held_cell hbW hL.cells.1
  have HBK := Lib.hid (Blk.new w 99 #[.int .i64 f, .int .i64 x, .slice A r c, .int .i64 z])
  have b0 : (w.alloc (.cells #[.int .i64 f, .int .i64 x, .slice A r c, .int .i64 z] 99)).cell? ⟨w.heap.size, 0, none⟩ = some (.int .i64 f) := HBK.out.cell 0
  have b1 : (w.alloc (.cells #[.int .i64 f, .int .i64 x, .slice A r c, .int .i64 z] 99)).cell? ⟨w.heap.size, 1, none⟩ = some (.int .i64 x) := HBK.out.cell 1
  have b2 : (w.alloc (.cells #[.int .i64 f, .int .i64 x, .slice A r c, .int .i64 z] 99)).cell? ⟨w.heap.size, 2, none⟩ = some (.slice A r c) := HBK.out.cell 2
  have b3 : (w.alloc (.cells #[.int .i64 f, .int .i64 x, .slice A r c, .int .i64 z] 99)).cell? ⟨w.heap.size, 3, none⟩ = some (.int .i64 z) := HBK.out.cell 3
  have HBW := Lib.hid hbW
  have HLW : Hid (LogAt G (w.alloc (.cells #[.int .i64 f, .int .i64 x, .slice A r c, .int .i64 z] 99)) g gd l) := LogAt.new ⟨_, _, _, _, _, hL⟩ hbW
  have HO := Lib.hid ho
  clear hL hbW ho
  generalize hW : w.alloc (.cells #[.int .i64 f, .int .i64 x, .slice A r c, .int .i64 z] 99) = W at *
  generalize hs0 : w.heap.size = s0 at b0 b1 b2 b3
  have HS0 := Lib.hid hs0
  by_cases hn : n' = 0
  · subst hn
    have HN := Lib.hid (show res = lb by rw [HG.out, decide_eq_true hlen]; rfl)
    clear hlen HG
    go_enter Tryz.func60, Tryz.ntmps60
    go_wp2_with fail
    go_quiet (fail)
    generalize hW3 : W.drewN nq = W3
    have B3 : Hid (Below w.heap.size w W3) := by rw [← hW3]; exact below_drewN HBW.out nq
    have d0 : W3.cell? ⟨s0, 0, none⟩ = some (.int .i64 f) := by rw [← hW3]; exact b0
    have d1 : W3.cell? ⟨s0, 1, none⟩ = some (.int .i64 x) := by rw [← hW3]; exact b1
    have d2 : W3.cell? ⟨s0, 2, none⟩ = some (.slice A r c) := by rw [← hW3]; exact b2
    have d3 : W3.cell? ⟨s0, 3, none⟩ = some (.int .i64 z) := by rw [← hW3]; exact b3
    clear hW hW3 hs0 b0 b1 b2 b3 c0
    go_wp2_with fail
    refine (last_any f x A r c z _ hx hxr).mono ?_
    rintro e w4 ⟨rfl, hb4⟩
    have HB4 := Lib.hid (held_two B3.out hb4)
    clear hb4
    go_wp2
    go_ret
    rw [HN.out]
    exact ⟨rfl, HS0.out ▸ HB4.out⟩
  · have hn1 : ((n' : Int) == 0) = false := by simp; omega
    have HN := Lib.hid (show res = (decide (x = hd l.segs + 1) && lb) by rw [HG.out, decide_eq_false (show ¬ l.segs.length = 0 by omega)]; rfl)
    clear HG
    have hwh : IntKind.i64.wrap (hd l.segs + 1) = hd l.segs + 1 := IntWalk.i64_in _ (by omega)
    clear hn
    generalize hhd : hd l.segs = hh at *
    have HHD := Lib.hid hhd
    clear hhd hlen
    go_enter Tryz.func60, Tryz.ntmps60
    go_wp2_with fail
    clear hW hs0
    go_region_held3 (fun w' => w'.cell? ⟨g, 0, none⟩ = some (.slice A' n' c') ∧ w'.cell? ⟨s0, 1, none⟩ = some (.int .i64 x) ∧ Below W.heap.size W w')
      (first
        | exact held2 (held_start W) c0 b1
        | assumption
        | (go_split_ands; exact held2 (held_call (by assumption) hbc) c0 b1)
        | fail)
      (first
        | (go_at_call 17; go_split_ands; refine (head_any G g gd l _ (HLW.out.new (by assumption)) HO.out).mono ?_; rintro e wc ⟨rfl, hbc⟩; rw [HHD.out])
        | fail)
    have hb4 := held_call (held_start W) hbc
    have d0 := held_cell hb4 b0
    have d1 := held_cell hb4 b1
    have d2 := held_cell hb4 b2
    have d3 := held_cell hb4 b3
    have HB4 := Lib.hid (held_two HBW.out hb4)
    clear hbc hb4 b0 b1 b2 b3 c0 HBK
    by_cases hxe : x = hh + 1
    · have hx2 : (x == hh + 1) = true := by simpa using hxe
      have HXE := Lib.hid (show res = lb by rw [HN.out, decide_eq_true hxe]; rfl)
      rw [hx2]
      clear hxe hx2
      go_wp2_with fail
      refine (last_any f x A r c z _ hx hxr).mono ?_
      rintro e w5 ⟨rfl, hb5⟩
      have HB5 := Lib.hid (held_two HB4.out hb5)
      clear hb5
      go_wp2
      go_ret
      rw [HXE.out]
      exact ⟨rfl, HS0.out ▸ HB5.out⟩
    · have hx2 : (x == hh + 1) = false := by simpa using hxe
      have HXE := Lib.hid (show res = false by rw [HN.out, decide_eq_false hxe]; rfl)
      rw [hx2]
      clear hxe hx2
      go_wp2
      go_ret
      rw [HXE.out]
      exact ⟨rfl, HS0.out ▸ HB4.out⟩
end Go.Proofs.YtedfddnbgljcjaaGreat.Wal
