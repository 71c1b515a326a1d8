/-
  The statements' own 'alike': both disks tell the same.
-/
import Derived.Test.YthjdankeopfkaaaPlayTwo
import Derived.Test.YthjdankeopfkaaaHelpBytes
import Derived.Deep.QuietTactic
import Derived.BigQuiet
namespace Go.Proofs.Ythjdankeopfkaaa.Play
set_option linter.ambiguousOpen false
open Go.RowKit Base DiskMath Disk Ref Field

theorem quiet {f : FuncId} {args : Array Value} {w : World} {n : Nat} {v : Value} (h : Calls Try.prog f args (w.drewN n) fun e w' => e = .returned v ∧ w.drewN n = w') : Calls Try.prog f args (w.drewN n) fun e w'' => e = .returned v ∧ ∃ m, w'' = w.drewN m :=
  Calls.quiet_of_same (h.mono fun _ _ k => ⟨k.1, k.2.symm⟩)

set_option maxRecDepth 100000 in
set_option maxHeartbeats 1600000 in
theorem alike_any (K : Nat → Prop) (g h : Nat) (d : Dk) (w : World) (t : Two K w g h d d) (hsz : ∀ x ∈ d.files, x.b.length ≤ 140737488355328) :
    Calls Try.prog 10 #[.pointer (some ⟨g, 0, none⟩), .pointer (some ⟨h, 0, none⟩)] w fun e w' => e = .returned (.bool true) ∧ Below w.heap.size w w' := by
  have hup := t.up
  obtain ⟨FD, FX, a, b, _, _, _⟩ := t
  have hlen := hup.le
  have HS := Lib.hid hsz
  have HU := Lib.hid hup
  have HD := Lib.hid a
  have HX := Lib.hid b
  clear a b hsz hup
  go_enter Try.func10, Try.ntmps10
  go_wp2_with fail
  refine (files_any FD g d w HD.out).mono ?_
  rintro e w1 ⟨A1, c1, rfl, hown1, hb1⟩
  rw [List.length_map] at *
  have HB1 := Lib.hid hb1
  have HR1 : Hid (Row w1 w1.heap.size 1 A1 d.files.length c1 (iv (d.files.map (·.id)))) := Row.of_own hown1
  have hle1 := HR1.out.le
  have HD1 := Lib.hid (HD.out.new hb1)
  have HX1 := Lib.hid (HX.out.new hb1)
  clear hown1 hb1 HD HX
  have QD := Lib.hid (fun n => quiet (w := w1) (n := n) (down_any FD g d (w1.drewN n) HD1.out))
  have QO := Lib.hid (fun n => quiet (w := w1) (n := n) (ops_any FD g d (w1.drewN n) HD1.out))
  obtain ⟨A, c, bl, hh, _, hb⟩ := HX1.out
  have d0 := hh.cells.1
  have d2 := hh.cells.2.2.1
  have d3 := hh.cells.2.2.2
  clear hh hb
  generalize hN : d.files.length = N at *
  have HN := Lib.hid hN
  clear hN
  go_wp2_with fail
  go_quiet (first | (go_at_call 18; exact QD.out _) | (go_at_call 21; exact QO.out _))
  clear d0 d2 d3 QD QO
  have hst : Below w1.heap.size w1 (w1.drewN nq) := below_drewN (Below.refl _ _) nq
  go_wp2
  go_loopw [6] (fun i wr => ∃ k : Nat, k ≤ N ∧ i = .int .i64 k ∧ Below w1.heap.size w1 wr) (fun i _ => N - (RowKit.intOf i).toNat)
  case atStart => exact ⟨0, by omega, rfl, hst⟩
  case round =>
    obtain ⟨k, hk, rfl, hbr⟩ := hrel
    clear hst
    by_cases hlt : k < N
    · have hkl : k < d.files.length := by rw [HN.out]; exact hlt
      obtain ⟨x, hx⟩ : ∃ x, d.files[k]? = some x := ⟨_, List.getElem?_eq_getElem hkl⟩
      have hxm := List.mem_of_getElem? hx
      have hub := HU.out.mem x hxm
      have hI : I64 x.id := ⟨by omega, by omega⟩
      have hsk := seek_of HU.out hxm
      have hn := HS.out x hxm
      obtain ⟨b1, o1, rfl, hlt1, hc1⟩ := Row.num HR1.out hlt
      have hcell1 : ∀ w', Below w1.heap.size w1 w' → w'.cell? ⟨b1, o1 + k, none⟩ = some (.int .i64 x.id) := fun w' hb => by
        rw [hb.cell (p := ⟨b1, o1 + k, none⟩) hlt1, hc1, List.getD_eq_getElem?_getD, List.getElem?_map, hx]
        rfl
      have e1 := hcell1 wr hbr
      have HDr := Lib.hid (HD1.out.new hbr)
      have HC1 := Lib.hid hcell1
      have HXk := Lib.hid hx
      have HSK := Lib.hid hsk
      have HBr := Lib.hid hbr
      clear hc1 hcell1 hx hsk hbr hxm hub hkl
      go_wp2_with fail
      refine (read_yes FD g d x.id x wr HDr.out hI HSK.out hn).mono ?_
      rintro e w2 ⟨A2, c2, rfl, hown2, hb2⟩
      have hB2 : Below w1.heap.size w1 w2 := HBr.out.trans (hb2.mono HBr.out.size)
      have e2 := HC1.out w2 hB2
      have hX2 := HX1.out.new hB2
      have hD2 := HD1.out.new hB2
      obtain ⟨A, c, bl, hh, _, hb⟩ := hX2
      have d0 := hh.cells.1
      rw [HN.out] at d0
      obtain ⟨g2, cur, rfl, _, hbk, _, j0, j1, j2⟩ := hb.at_ HXk.out
      have hBx : BAt w2 FX x (bl x.id) := hb.2.2.1 x (List.mem_of_getElem? HXk.out)
      have HYx := Lib.hid (BAt.bytes hBx)
      have HY2 := Lib.hid (Bytes.of_own hown2)
      have HB2 := Lib.hid hB2
      have HD2 := Lib.hid hD2
      have HSZ := Lib.hid (size_seen HSK.out)
      have HSF := Lib.hid (show safe d x.id = x.safe by unfold safe; rw [HSK.out])
      clear hh hb hbk hBx hown2 hb2 hB2 hD2
      generalize (bl x.id).A = A3 at j2 HYx
      generalize (bl x.id).c = c3 at j2 HYx
      go_wp2_with fail
      have hbx : Below w2.heap.size w2 (w2.alloc (.cells #[.int .i64 x.id, .int .i64 x.safe, .slice A3 x.b.length c3] 64)) := (Below.refl _ _).alloc (Nat.le_refl _) _
      have p0 : (w2.alloc (.cells #[.int .i64 x.id, .int .i64 x.safe, .slice A3 x.b.length c3] 64)).cell? ⟨w2.heap.size, 0, none⟩ = some (.int .i64 x.id) := by simp
      have p1 : (w2.alloc (.cells #[.int .i64 x.id, .int .i64 x.safe, .slice A3 x.b.length c3] 64)).cell? ⟨w2.heap.size, 1, none⟩ = some (.int .i64 x.safe) := by simp
      have p2 : (w2.alloc (.cells #[.int .i64 x.id, .int .i64 x.safe, .slice A3 x.b.length c3] 64)).cell? ⟨w2.heap.size, 2, none⟩ = some (.slice A3 x.b.length c3) := by simp
      generalize w2.alloc (.cells #[.int .i64 x.id, .int .i64 x.safe, .slice A3 x.b.length c3] 64) = W at hbx p0 p1 p2 ⊢
      have HBW := Lib.hid (HB2.out.trans (hbx.mono HB2.out.size))
      have e3 := HC1.out W HBW.out
      have hDW := HD1.out.new HBW.out
      have QB := Lib.hid (fun n => quiet (w := W) (n := n) (Help.bytes_same w2.heap.size w2.heap.size A2 A3 x.b.length c2 x.b.length c3 x.b (W.drewN n) (HY2.out.below (below_drewN hbx n)) (HYx.out.below (below_drewN hbx n))))
      have QL := Lib.hid (fun n => quiet (w := W) (n := n) (len_val FD g d x.id (W.drewN n) x.b.length hDW hI HSZ.out))
      have QS := Lib.hid (fun n => quiet (w := W) (n := n) (synced_val FD g d x.id (W.drewN n) x.safe hDW hI HSF.out))
      generalize w2.heap.size = p at p0 p1 p2
      clear hbx hDW HYx HY2 HB2 HD2 HSZ HSF d0 j0 j1 j2 e2 e1 HSK HXk
      generalize x.id = f at *
      generalize x.safe = s at *
      generalize x.b.length = m at *
      go_quiet (first | (go_at_call 27; exact QB.out _) | (go_at_call 13; exact QL.out _) | (go_at_call 14; exact QS.out _))
      have HE : Hid (Below w1.heap.size w1 (W.drewN nq)) := below_drewN HBW.out nq
      go_wp2
      go_roundw
      case rel => exact ⟨k + 1, by omega, by go_num, HE.out⟩
      case measure => simp [RowKit.intOf]; omega
    · obtain rfl : k = N := by omega
      have HE := Lib.hid (HB1.out.trans (hbr.mono HB1.out.size))
      go_wp2
      go_ret
      exact ⟨rfl, HE.out⟩
end Go.Proofs.Ythjdankeopfkaaa.Play
