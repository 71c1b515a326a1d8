/-
  WalOpens: the statements' own 'disks' and 'logs' (the code's disk and the document's have the same files, both logs tell the same), 'record' and 'segment'.
-/
import Derived.Test.YtedfddnbgljcjaaGreatSegHead
import Derived.Test.YtedfddnbgljcjaaGreatRecTake
import Derived.Test.YtedfddnbgljcjaaGreatEb
import Derived.Test.YtedfddnbgljcjaaGreatLists
import Derived.Test.YtedfddnbgljcjaaGreatRefLog
import Derived.Test.YtedfddnbgljcjaaGreatHelpBytes
import Derived.Deep.QuietTactic
import Derived.BigQuiet
import Derived.Deep.DeepCutAuto
namespace Go.Proofs.YtedfddnbgljcjaaGreat.Opens
set_option linter.unusedVariables false
set_option maxRecDepth 100000
open Go.RowKit Base
open Go.Proofs.YtedfddnbgljcjaaGreat.Field (eb)
set_option linter.ambiguousOpen false

theorem got_put_len (p : List UInt8) : (FieldMath.got (RecMath.put p)).length ≤ 1048584 := by
  unfold RecMath.put
  split
  · show ([] : List UInt8).length ≤ _
    simp
  · show (RecMath.recB p).length ≤ _
    rw [RecMath.recB_length]
    omega
def Recorded (w : World) (e : Ending) (w' : World) : Prop := ∃ A n c l, e = .returned (.slice A n c) ∧ w'.ownsRow w.heap.size 5 1 (.slice A n c) n (bv l) ∧ n ≤ 1048584 ∧ Below w.heap.size w w'
theorem record_any (B : Nat) (A : Option Addr) (n c : Nat) (l : List UInt8) (w : World) (hr : Bytes w B A n c l) (hB : B ≤ w.heap.size) :
    Calls Tryz.prog 23 #[.slice A n c] w (Recorded w) := by
  have HR := Lib.hid (Rec.refput_any B A n c l w hr hB)
  clear hr
  go_enter Tryz.func23, Tryz.ntmps23
  go_wp2_with fail
  refine HR.out.mono ?_
  rintro e w1 ⟨A1, n1, c1, rfl, ho, hb⟩
  have hn := ho.1
  have hg := got_put_len l
  have HO := Lib.hid ho
  have HB := Lib.hid hb
  have hn1 : n1 ≤ 1048584 := by
    have : (bv (FieldMath.got (RecMath.put l))).length = n1 * 1 := hn
    rw [bv, List.length_map] at this
    omega
  clear ho hb hn hg
  go_wp2
  go_ret
  exact ⟨A1, n1, c1, _, rfl, HO.out, hn1, HB.out⟩
def Segmented (w : World) (B nb : Nat) (e : Ending) (w' : World) : Prop := ∃ A n c l, e = .returned (.slice A n c) ∧ Bytes w' w'.heap.size A n c l ∧ n ≤ nb + 7000000 ∧ (0 < n → ∀ b off, A = some ⟨b, off, none⟩ → b < B ∨ w.heap.size ≤ b) ∧ Below w.heap.size w w'
theorem seg_own {w w' : World} {B nb n c : Nat} {A : Option Addr} {l : List UInt8} (ho : w'.ownsRow w.heap.size 5 1 (.slice A n c) n (bv l)) (hn : n ≤ nb + 7000000) (hb : Below w.heap.size w w') : Segmented w B nb (.returned (.slice A n c)) w' :=
  ⟨A, n, c, l, rfl, Bytes.of_own ho, hn, fun _ b off e => .inr (ho.lt b (by rw [e]; rfl)).1, hb⟩

set_option maxHeartbeats 3200000 in
theorem segment_any (x : Int) (B : Nat) (A0 : Option Addr) (n0 c0 : Nat) (L : List (List UInt8)) (torn : Bool) (A1 : Option Addr) (n1 c1 : Nat) (b : List UInt8) (w : World) (hl : Lists w B A0 n0 c0 L) (hb : Bytes w B A1 n1 c1 b) (hB : B ≤ w.heap.size) (hn1 : n1 ≤ 1048576) :
    Calls Tryz.prog 8 #[.int .i64 x, .slice A0 n0 c0, .bool torn, .slice A1 n1 c1] w (Segmented w B n1) := by
  have HL := Lib.hid hl
  have HY := Lib.hid hb
  have hle := hl.le
  have hle1 : n1 ≤ c1 ∧ c1 ≤ 9223372036854775807 := ⟨hb.2.1, hb.2.2.1⟩
  clear hl hb
  go_enter Tryz.func8, Tryz.ntmps8
  go_wp2_with fail
  refine (Seg.refhead_any x w).mono ?_
  rintro e w2 ⟨A2, n2, c2, rfl, ho2, hb2⟩
  have HB2 := Lib.hid hb2
  by_cases hx : 1 ≤ x ∧ x ≤ 1099511627776
  · have hh : SegMath.head x = .ok (SegMath.headB x) := if_pos hx
    rw [hh] at ho2 ⊢
    have hn2 : n2 = 19 := by
      have : (bv (SegMath.headB x)).length = n2 * 1 := ho2.1
      rw [bv, List.length_map, SegMath.headB_length] at this
      omega
    have HO2 := Lib.hid (show w2.ownsRow w.heap.size 5 1 (.slice A2 n2 c2) n2 (bv (SegMath.headB x)) from ho2)
    rw [show FieldMath.err (Except.ok (SegMath.headB x)) = 0 from rfl]
    clear ho2 hb2 hh hx
    subst hn2
    go_wp2
    go_loopw [11, 9] (fun vi vo wr => ∃ (j : Nat) (A' : Option Addr) (n' c' : Nat) (xs : List UInt8), vi = .int .i64 j ∧ j ≤ n0 ∧ j ≤ 6 ∧ vo = .slice A' n' c' ∧ wr.ownsRow w.heap.size 5 1 (.slice A' n' c') n' (bv xs) ∧ n' ≤ 19 + j * 1048584 ∧ Below w.heap.size w wr) (fun vi _ _ => n0 - (intOf vi).toNat)
    case atStart => exact ⟨0, A2, 19, c2, _, rfl, Nat.zero_le _, Nat.zero_le _, rfl, HO2.out, by omega, HB2.out⟩
    case round =>
      obtain ⟨j, A', n', c', xs, rfl, hj, hj6, rfl, hown, hn', hbw⟩ := hrel
      have HO := Lib.hid hown
      have HBW := Lib.hid hbw
      clear hown hbw HO2 HB2
      by_cases hlt : j < n0 ∧ j < 6
      · obtain ⟨h0, h6⟩ := hlt
        have q1 : (j : Int) < (n0 : Int) := by omega
        have q2 : (j : Int) < 6 := by omega
        obtain ⟨bb, off, A3, n3, c3, p, rfl, hbb, e0, hy, _, _⟩ := (HL.out.below (HBW.out.mono hB)).at_ h0
        have HP := Lib.hid hy
        have hB3 : B ≤ wr.heap.size := Nat.le_trans hB HBW.out.size
        clear hy
        go_wp2_with fail
        refine (record_any B A3 n3 c3 p wr HP.out hB3).mono ?_
        rintro e w4 ⟨A4, n4, c4, l4, rfl, ho4, hn4, hb4⟩
        have HO4 := Lib.hid (own_keep HO.out hb4)
        have HR4 := Lib.hid ((show Row w4 w4.heap.size 1 A4 n4 c4 (bv l4) from Row.of_own ho4))
        have HB4 := Lib.hid (held_two HBW.out hb4)
        clear ho4 hb4
        go_wp2_with (first
          | (at_builtin
             (refine wpList_append_row rfl (.tmp 30) (.tmp 35) rfl eb w.heap.size _ n' (bv xs) rfl HO4.out w4.heap.size A4 n4 c4 (bv l4) rfl HR4.out (bv_one _) (by omega) (by omega) HB4.out.size ?_)
             intro A5 c5 w5 ho5 _ hb5
             rw [← bv_append] at ho5
             have HO5 := Lib.hid ho5
             have HB5 := Lib.hid (HB4.out.trans hb5)
             clear ho5 hb5)
          | fail)
        go_roundw
        case rel => exact ⟨j + 1, A5, _, c5, _, by go_num, by omega, by omega, rfl, HO5.out, by omega, HB5.out⟩
        case measure => simp [intOf]; omega
      · have hor : (¬ (j : Int) < (n0 : Int)) ∨ ((j : Int) < (n0 : Int) ∧ ¬ (j : Int) < 6) := by omega
        have hle' : n' ≤ c' ∧ c' ≤ 9223372036854775807 := (show Row wr wr.heap.size 1 A' n' c' (bv xs) from Row.of_own HO.out).le
        clear hlt
        rcases hor with q1 | ⟨q1, q2⟩
        all_goals cases torn
        all_goals first
          | (go_wp2_with (first
              | (at_builtin
                 (refine wpList_append_row rfl (.tmp 38) (.tmp 39) rfl eb w.heap.size _ n' (bv xs) rfl HO.out B A1 n1 c1 (bv b) rfl (HY.out.below (HBW.out.mono hB)) (bv_one _) (by omega) (by omega) HBW.out.size ?_)
                 intro A5 c5 w5 ho5 _ hb5
                 rw [← bv_append] at ho5
                 have HO5 := Lib.hid ho5
                 have HB5 := Lib.hid (HBW.out.trans hb5)
                 clear ho5 hb5)
              | fail)
             go_ret
             exact seg_own HO5.out (by omega) HB5.out)
          | (go_wp2
             go_ret
             exact seg_own HO.out (by omega) HBW.out)
  · have hh : SegMath.head x = .error 1 := if_neg hx
    rw [hh]
    rw [show FieldMath.err (Except.error 1 : Except Nat (List UInt8)) = 1 from rfl]
    clear ho2 hb2 hh hx
    go_wp2
    go_ret
    exact ⟨A1, n1, c1, b, rfl, (HY.out.below (HB2.out.mono hB)).more (Nat.le_trans hB HB2.out.size), by omega, fun h0 bb off e => by
      obtain ⟨b', off', e', hlt, _⟩ := HY.out.2.2.2 h0
      rw [e] at e'
      injection e' with e'
      injection e' with e1 _
      exact .inl (by omega), HB2.out⟩
end Go.Proofs.YtedfddnbgljcjaaGreat.Opens

namespace Go.Proofs.YtedfddnbgljcjaaGreat.Opens
set_option linter.unusedVariables false
set_option maxRecDepth 100000
open Go.RowKit Base WalMath
open Go.Proofs.YtedfddnbgljcjaaGreat.Wal (SgOk entry ReadS LogAt quiet)
open Go.Proofs.YtedfddnbgljcjaaGreat.RLog (RLogAt RLaid rlow_any rhead_any rread_any)
open Go.Proofs.YtedfddnbgljcjaaGreat.Disk (DiskAt I64 files_any read_yes down_any ops_any synced_any)
open Go.Proofs.YtedfddnbgljcjaaGreat.Ref (RefAt BAt BAt.bytes RHead.cells)
open DiskMath (Fl Dk seek_of seek safe)
set_option linter.ambiguousOpen false

theorem synced_val (F : Nat → Prop) (g : Nat) (d : Dk) (f : Int) (w : World) (k : Int) (h : DiskAt F w g d) (hI : I64 f) (hv : safe d f = k) :
    Calls Tryz.prog 42 #[.pointer (some ⟨g, 0, none⟩), .int .i64 f] w fun e w' => e = .returned (.int .i64 k) ∧ w = w' := by
  subst hv
  exact synced_any F g d f w h hI
set_option maxHeartbeats 3200000 in
theorem disks_any (FD FX : Nat → Prop) (g h : Nat) (d : Dk) (w : World) (a : DiskAt FD w g d) (b : RefAt FX w h d) (hsz : ∀ x ∈ d.files, x.b.length ≤ 140737488355328) :
    Calls Tryz.prog 14 #[.pointer (some ⟨g, 0, none⟩), .pointer (some ⟨h, 0, none⟩)] w fun e w' => e = .returned (.bool true) ∧ Below w.heap.size w w' := by
  have hup := b.up
  have hlen := hup.le
  have HS := Lib.hid hsz
  have HU := Lib.hid hup
  have HD := Lib.hid a
  have HX := Lib.hid b
  clear a b hsz hup
  go_enter Tryz.func14, Tryz.ntmps14
  go_wp2_with fail
  refine (files_any FD g d w HD.out).mono ?_
  rintro e w1 ⟨A1, c1, rfl, hown1, hb1⟩
  rw [List.length_map] at *
  have HB1 := Lib.hid hb1
  have HR1 : Hid (Row w1 w1.heap.size 1 A1 d.files.length c1 (iv (d.files.map (·.id)))) := Row.of_own hown1
  have hle1 := HR1.out.le
  have HD1 := Lib.hid (HD.out.new hb1)
  have HX1 := Lib.hid (HX.out.new hb1)
  clear hown1 hb1 HD HX
  have QD := Lib.hid (fun n => quiet (w := w1) (n := n) (down_any FD g d (w1.drewN n) HD1.out))
  have QO := Lib.hid (fun n => quiet (w := w1) (n := n) (ops_any FD g d (w1.drewN n) HD1.out))
  obtain ⟨A, c, bl, hh, _, hb⟩ := HX1.out
  have d0 := hh.cells.1
  have d2 := hh.cells.2.2.1
  have d3 := hh.cells.2.2.2
  clear hh hb
  generalize hN : d.files.length = N at *
  have HN := Lib.hid hN
  clear hN
  go_wp2_with fail
  go_quiet (first | (go_at_call 30; exact QD.out _) | (go_at_call 21; exact QO.out _))
  clear d0 d2 d3 QD QO
  have hst : Below w1.heap.size w1 (w1.drewN nq) := below_drewN (Below.refl _ _) nq
  go_wp2
  go_loopw [6, 7, 8] (fun i _ _ wr => ∃ k : Nat, k ≤ N ∧ i = .int .i64 k ∧ Below w1.heap.size w1 wr) (fun i _ _ _ => N - (RowKit.intOf i).toNat)
  case atStart => exact ⟨0, by omega, rfl, hst⟩
  case round =>
    obtain ⟨k, hk, rfl, hbr⟩ := hrel
    clear hst
    by_cases hlt : k < N
    · have hkl : k < d.files.length := by rw [HN.out]; exact hlt
      obtain ⟨x, hx⟩ : ∃ x, d.files[k]? = some x := ⟨_, List.getElem?_eq_getElem hkl⟩
      have hxm := List.mem_of_getElem? hx
      have hub := HU.out.mem x hxm
      have hI : I64 x.id := ⟨by omega, by omega⟩
      have hsk := seek_of HU.out hxm
      have hn := HS.out x hxm
      obtain ⟨b1, o1, rfl, hlt1, hc1⟩ := Row.num HR1.out hlt
      have hcell1 : ∀ w', Below w1.heap.size w1 w' → w'.cell? ⟨b1, o1 + k, none⟩ = some (.int .i64 x.id) := fun w' hb => by
        rw [hb.cell (p := ⟨b1, o1 + k, none⟩) hlt1, hc1, List.getD_eq_getElem?_getD, List.getElem?_map, hx]
        rfl
      have e1 := hcell1 wr hbr
      have HDr := Lib.hid (HD1.out.new hbr)
      have HC1 := Lib.hid hcell1
      have HXk := Lib.hid hx
      have HSK := Lib.hid hsk
      have HBr := Lib.hid hbr
      clear hc1 hcell1 hx hsk hbr hxm hub hkl
      go_wp2_with fail
      refine (read_yes FD g d x.id x wr HDr.out hI HSK.out hn).mono ?_
      rintro e w2 ⟨A2, c2, rfl, hown2, hb2⟩
      have hB2 : Below w1.heap.size w1 w2 := HBr.out.trans (hb2.mono HBr.out.size)
      have e2 := HC1.out w2 hB2
      have hX2 := HX1.out.new hB2
      have hD2 := HD1.out.new hB2
      obtain ⟨A, c, bl, hh, _, hb⟩ := hX2
      have d0 := hh.cells.1
      rw [HN.out] at d0
      obtain ⟨g2, cur, rfl, _, hbk, _, j0, j1, j2⟩ := hb.at_ HXk.out
      have hBx : BAt w2 FX x (bl x.id) := hb.2.2.1 x (List.mem_of_getElem? HXk.out)
      have HYx := Lib.hid (BAt.bytes hBx)
      have HY2 := Lib.hid (Bytes.of_own hown2)
      have HB2 := Lib.hid hB2
      have QS := Lib.hid (fun n => quiet (w := w2) (n := n) (synced_val FD g d x.id (w2.drewN n) x.safe hD2 hI (show safe d x.id = x.safe by unfold safe; rw [HSK.out])))
      clear hh hb hbk hBx hown2 hb2 hB2 hD2
      generalize (bl x.id).A = A3 at j2 HYx
      generalize (bl x.id).c = c3 at j2 HYx
      have QB := Lib.hid (fun n => quiet (w := w2) (n := n) (Help.bytes_same w2.heap.size w2.heap.size A2 A3 x.b.length c2 x.b.length c3 x.b (w2.drewN n) (HY2.out.below (below_drewN (Below.refl _ _) n)) (HYx.out.below (below_drewN (Below.refl _ _) n))))
      have hid : (x.id != x.id) = false := by simp
      have hsf : ((x.safe : Int) != (x.safe : Int)) = false := by simp
      clear HYx HY2 e1 HSK HXk
      generalize x.id = f at *
      generalize x.safe = s at *
      generalize x.b.length = m at *
      go_wp2_with fail
      go_quiet (first | (go_at_call 41; exact QB.out _) | (go_at_call 42; exact QS.out _))
      have HE : Hid (Below w1.heap.size w1 (w2.drewN nq)) := below_drewN HB2.out nq
      go_wp2
      go_roundw
      case rel => exact ⟨k + 1, by omega, by go_num, HE.out⟩
      case measure => simp [RowKit.intOf]; omega
    · obtain rfl : k = N := by omega
      have HE := Lib.hid (HB1.out.trans (hbr.mono HB1.out.size))
      go_wp2
      go_ret
      exact ⟨rfl, HE.out⟩

/-- both logs told the same entry, or both none -/
theorem readS_two {w w' w2 : World} {r : Option (List UInt8)} {e e2 : Ending} (h : ReadS w r e w') (h2 : ReadS w' r e2 w2) :
    ∃ A n c A' c' k, e = .returned (.tuple #[.slice A n c, .int .i64 k]) ∧ e2 = .returned (.tuple #[.slice A' n c', .int .i64 k]) ∧ (∃ l, Bytes w2 w2.heap.size A n c l ∧ Bytes w2 w2.heap.size A' n c' l) ∧ Below w.heap.size w w' ∧ Below w'.heap.size w' w2 := by
  cases r with
  | none =>
    obtain ⟨rfl, hb⟩ := h
    obtain ⟨rfl, hb2⟩ := h2
    exact ⟨none, 0, 0, none, 0, 5, rfl, rfl, ⟨[], Bytes.nil_ _ _, Bytes.nil_ _ _⟩, hb, hb2⟩
  | some p =>
    obtain ⟨A, c, rfl, ho, hb⟩ := h
    obtain ⟨A2, c2, rfl, ho2, hb2⟩ := h2
    exact ⟨A, p.length, c, A2, c2, 0, rfl, rfl, ⟨p, ((Bytes.of_own ho).below hb2).more hb2.size, Bytes.of_own ho2⟩, hb, hb2⟩
theorem readS_at {w w' : World} {r : Option (List UInt8)} {e : Ending} (h : ReadS w r e w') : ∃ A n c k, e = .returned (.tuple #[.slice A n c, .int .i64 k]) ∧ Below w.heap.size w w' ∧ ReadS w r (.returned (.tuple #[.slice A n c, .int .i64 k])) w' := by
  cases r with
  | none =>
    have h' := h
    obtain ⟨rfl, hb⟩ := h
    exact ⟨none, 0, 0, 5, rfl, hb, h'⟩
  | some p =>
    have h' := h
    obtain ⟨A, c, rfl, ho, hb⟩ := h
    exact ⟨A, p.length, c, 0, rfl, hb, h'⟩

set_option maxHeartbeats 6400000 in
theorem logs_any (G G' : Nat → Prop) (g gd y h : Nat) (l : Lg) (ba sz : Int) (w : World) (a : LogAt G w g gd l) (b : RLogAt G' w y h l.segs ba sz) (ho : ∀ s ∈ l.segs, SgOk s) (hN : l.segs.length ≤ 16384) (hr : Runs (low l.segs) l.segs) :
    Calls Tryz.prog 15 #[.pointer (some ⟨g, 0, none⟩), .pointer (some ⟨y, 0, none⟩)] w fun e w' => e = .returned (.bool true) ∧ Below w.heap.size w w' := by
  have HA := Lib.hid a
  have HB := Lib.hid b
  obtain ⟨A, n, c, qs, hX⟩ := b
  have c3 : w.cell? ⟨y, 3, none⟩ = some (.slice A n c) := hX.2.1.cell 3
  have hn : l.segs.length = n := hX.len
  have CL := Lib.hid (fun wx (hx : Below w.heap.size w wx) => Wal.low_any G g gd l wx (HA.out.new hx))
  have CH := Lib.hid (fun wx (hx : Below w.heap.size w wx) => Wal.head_any G g gd l wx (HA.out.new hx) ho)
  have CS := Lib.hid (fun wx (hx : Below w.heap.size w wx) => Wal.segments_any G g gd l wx (HA.out.new hx))
  have CR := Lib.hid (fun lsn wx (hx : Below w.heap.size w wx) => Wal.read_any G g gd l lsn wx (HA.out.new hx) ho hN hr)
  have DL := Lib.hid (fun wx (hx : Below w.heap.size w wx) => rlow_any G' y h l.segs ba sz wx (HB.out.new hx))
  have DH := Lib.hid (fun wx (hx : Below w.heap.size w wx) => rhead_any G' y h l.segs ba sz wx (HB.out.new hx) ho hN)
  have DR := Lib.hid (fun lsn wx (hx : Below w.heap.size w wx) => rread_any G' y h l.segs ba sz lsn wx (HB.out.new hx) ho hN hr)
  have hbd := Wal.hd_bd ho
  have hlo : 0 ≤ low l.segs ∧ low l.segs ≤ 1099511627777 ∧ low l.segs ≤ hd l.segs + 1 := by
    cases hs : l.segs with
    | nil => exact ⟨by show (0 : Int) ≤ 1; omega, by show (1 : Int) ≤ _; omega, by show (1 : Int) ≤ 0 + 1; omega⟩
    | cons s r =>
      have h1 := runs_hd hr (by rw [hs]; simp)
      have h2 := ho s (by rw [hs]; simp)
      rw [hs] at h1
      have h3 : low (s :: r) = s.first := rfl
      have h4 := h2.bd
      have h5 := h2.2.2.1
      exact ⟨by omega, by omega, by omega⟩
  rw [hn] at CS
  clear a hX ho hN hr hn HA HB
  generalize low l.segs = lo at *
  generalize hd l.segs = hi at *
  have hl1 : (lo != lo) = false := by simp
  have hl2 : (hi != hi) = false := by simp
  have hl3 : ((n : Int) != (n : Int)) = false := by simp
  go_enter Tryz.func15, Tryz.ntmps15
  go_upto_region 1 with fail
  go_cut [37] (fun v wx => v = .bool false ∧ Below w.heap.size w wx)
  case first =>
    have HH : Hid (∀ wx, Below w.heap.size w wx → wx.cell? ⟨y, 3, none⟩ = some (.slice A n c) ∧ Below w.heap.size w wx) := fun wx hx => ⟨held_cell hx c3, hx⟩
    go_region_held3 (fun wx => wx.cell? ⟨y, 3, none⟩ = some (.slice A n c) ∧ Below w.heap.size w wx)
      (first | exact HH.out _ (held_start w) | assumption | exact HH.out _ (held_call (by assumption) hbc) | (go_split_ands; exact HH.out _ (held_call (by assumption) hbc)) | fail)
      (first
        | (go_at_call 16; go_split_ands; refine (CL.out _ (by assumption)).mono ?_; rintro e wc ⟨rfl, rfl⟩)
        | (go_at_call 17; go_split_ands; refine (CH.out _ (by assumption)).mono ?_; rintro e wc ⟨rfl, hbc⟩)
        | (go_at_call 20; go_split_ands; refine (CS.out _ (by assumption)).mono ?_; rintro e wc ⟨rfl, rfl⟩)
        | (go_at_call 43; go_split_ands; refine (DL.out _ (by assumption)).mono ?_; rintro e wc ⟨rfl, rfl⟩)
        | (go_at_call 44; go_split_ands; refine (DH.out _ (by assumption)).mono ?_; rintro e wc ⟨rfl, hbc⟩)
        | fail)
    all_goals (
      go_wp2_with fail
      go_meet
      exact ⟨rfl, by assumption⟩)
  case rest =>
  obtain ⟨rfl, hbc⟩ := hcut
  have HBC := Lib.hid hbc
  have w1 : IntKind.i64.wrap (lo - 1) = lo - 1 := IntWalk.i64_in _ (by omega)
  have w2 : IntKind.i64.wrap (hi + 1) = hi + 1 := IntWalk.i64_in _ (by omega)
  clear hbc c3 CL CS CH
  go_wp2_with fail
  refine (DL.out _ HBC.out).mono ?_
  rintro e w3 ⟨rfl, rfl⟩
  go_wp2
  go_loopw [5, 6, 7, 8, 9] (fun vi _ _ _ _ wr => ∃ i : Int, vi = .int .i64 i ∧ lo - 1 ≤ i ∧ i ≤ hi + 2 ∧ Below w.heap.size w wr) (fun vi _ _ _ _ _ => (hi + 2 - intOf vi).toNat)
  case atStart => exact ⟨lo - 1, rfl, Int.le_refl _, by omega, HBC.out⟩
  case round =>
    obtain ⟨i, rfl, hi0, hi1, hbr⟩ := hrel
    have HBR := Lib.hid hbr
    clear hbr
    go_wp2_with fail
    refine (DH.out _ HBR.out).mono ?_
    rintro e w4 ⟨rfl, hb4⟩
    have HB4 := Lib.hid (held_two HBR.out hb4)
    clear hb4
    by_cases hle : i ≤ hi + 1
    · have q1 : decide (i ≤ hi + 1) = true := decide_eq_true hle
      have w5 : IntKind.i64.wrap (i + 1) = i + 1 := IntWalk.i64_in _ (by omega)
      go_wp2_with fail
      refine (CR.out i _ HB4.out).mono ?_
      intro e w6 hr6
      obtain ⟨A6, n6, c6, k6, rfl, hb6, hr6'⟩ := readS_at hr6
      have HR6 := Lib.hid hr6'
      have HB6 := Lib.hid (held_two HB4.out hb6)
      clear hr6 hr6' hb6
      go_wp2_with fail
      refine (DR.out i _ HB6.out).mono ?_
      intro e w7 hr7
      obtain ⟨A, n', c, A', c', k, he, rfl, ⟨lb, hy, hy'⟩, _, hb7⟩ := readS_two HR6.out hr7
      simp only [Ending.returned.injEq, Value.tuple.injEq, Array.mk.injEq, List.cons.injEq, Value.slice.injEq, Value.int.injEq, true_and, and_true] at he
      obtain ⟨⟨rfl, rfl, rfl⟩, rfl⟩ := he
      have HB7 := Lib.hid (held_two HB6.out hb7)
      have QB := Lib.hid (Help.bytes_same w7.heap.size w7.heap.size A6 A' n6 c6 n6 c' lb w7 hy hy')
      have hkk : (k6 != k6) = false := by simp
      clear hr7 hy hy' hb7 HR6
      go_wp2_with fail
      refine QB.out.mono ?_
      rintro e w8 ⟨rfl, rfl⟩
      go_wp2
      go_roundw
      case rel => exact ⟨i + 1, rfl, by omega, by omega, HB7.out⟩
      case measure => simp [intOf]; omega
    · have q1 : decide (i ≤ hi + 1) = false := decide_eq_false hle
      go_wp2
      go_ret
      exact ⟨rfl, HB4.out⟩
end Go.Proofs.YtedfddnbgljcjaaGreat.Opens
