/-
  Contracts of the document's own operations on a disk: Len, Arm, Sync.
-/
import Derived.Test.YthjdankeopfkaaaRefTurn
import Derived.Deep.RegionHeld3
import Derived.StillTailTactics
namespace Go.Proofs.Ythjdankeopfkaaa.Ref
open Go.RowKit Base DiskMath Disk
set_option linter.ambiguousOpen false

def RDone (F : Nat → Prop) (w : World) (h : Nat) (r : Int × Dk) (e : Ending) (w' : World) : Prop := e = .returned (.int .i64 r.1) ∧ RefAt (Out F w w') w' h r.2 ∧ Turn F w w'
theorem RDone.no {F : Nat → Prop} {w : World} {h : Nat} {d : Dk} (hr : RefAt F w h d) {k : Int} (q : Nat) : RDone F w h (k, d) (.returned (.int .i64 k)) (w.drewN q) :=
  ⟨rfl, RefAt.mono (w := w.drewN q) hr fun _ hi => .inl hi, (Turn.refl _ _).drewN q⟩
def RArmed (F : Nat → Prop) (w : World) (h : Nat) (d : Dk) (e : Ending) (w' : World) : Prop := e = .returned (.tuple #[]) ∧ RefAt (Out F w w') w' h d ∧ Turn F w w'

set_option maxHeartbeats 400000 in
theorem reflen_any (F : Nat → Prop) (h : Nat) (d : Dk) (f : Int) (w : World) (hr : RefAt F w h d) :
    Calls Try.prog 34 #[.pointer (some ⟨h, 0, none⟩), .int .i64 f] w fun e w' => e = .returned (.int .i64 (size d f)) ∧ ∃ q, w.drewN q = w' := by
  have HR := Lib.hid hr
  have hup := hr.up
  obtain ⟨A, c, bl, hh, hf, hb⟩ := hr
  obtain ⟨c0, _, _, _⟩ := hh.cells
  cases hx : seek d.files f with
  | none =>
    have HZ := Lib.hid (show size d f = -1 by rw [size, hx])
    have HI := Lib.hid (show isIn d.files f = false by rw [isIn, hx]; rfl)
    clear hh hb hx hup
    go_enter Try.func34, Try.ntmps34
    go_wp2_with fail
    refine (at_any F h d f w HR.out).mono ?_
    rintro e w1 ⟨rfl, q, rfl⟩
    rw [HI.out]
    go_wp2
    go_ret
    rw [HZ.out]
    exact ⟨rfl, q, rfl⟩
  | some x =>
    have HZ := Lib.hid (show size d f = x.b.length by rw [size, hx])
    have HI := Lib.hid (show isIn d.files f = true by rw [isIn, hx]; rfl)
    have hp := place_seek hup hx
    have hlt := len_of hp
    have hlen := hup.le
    obtain ⟨g, cur, rfl, _, _, _, _, _, k2⟩ := hb.at_ hp
    clear hh hb hx hup hp
    generalize (bl x.id).A = A2 at k2
    generalize (bl x.id).c = c2 at k2
    generalize x.b.length = m at k2 HZ
    go_enter Try.func34, Try.ntmps34
    go_wp2_with fail
    refine (at_any F h d f w HR.out).mono ?_
    rintro e w1 ⟨rfl, q, rfl⟩
    rw [HI.out]
    generalize place f d.files = p at *
    generalize d.files.length = N at *
    go_wp2
    go_ret
    rw [HZ.out]
    exact ⟨rfl, q, rfl⟩

set_option maxHeartbeats 400000 in
theorem refarm_any (F : Nat → Prop) (h : Nat) (d : Dk) (n : Int) (w : World) (hr : RefAt F w h d) :
    Calls Try.prog 37 #[.pointer (some ⟨h, 0, none⟩), .int .i64 n] w (RArmed F w h (arm d n)) := by
  obtain ⟨A, c, bl, hh, hg, hb⟩ := hr
  have c1 := hh.cells.2.1
  have z1 := Blk.frozen hh 1
  have HD : Hid (∀ k : Nat, RefAt (Out F w (w.setCell ⟨h, 1, none⟩ (.int .i64 k))) (w.setCell ⟨h, 1, none⟩ (.int .i64 k)) h { d with left := k } ∧ Turn F w (w.setCell ⟨h, 1, none⟩ (.int .i64 k))) := fun k =>
    have hw : w.grownBy (w.setCell ⟨h, 1, none⟩ (.int .i64 k)) (some h) := only_set (World.grownBy.refl _ _) _ _
    ⟨⟨A, c, bl, Blk.set_ hh 1 _, .inl hg, (hb.head hh hw).mono fun _ hi => .inl hi⟩, Turn.grown hw fun j e => by injection e with e; rw [← e]; exact hg⟩
  clear hh hb
  by_cases hn : 0 ≤ n
  · obtain ⟨k, rfl⟩ := Int.eq_ofNat_of_zero_le hn
    have HA := Lib.hid (show arm d k = { d with left := k } by rw [arm, Int.toNat_natCast])
    clear hn
    go_enter Try.func37, Try.ntmps37
    go_wp2
    go_end0
    rw [HA.out]
    exact ⟨rfl, HD.out k⟩
  · have HA := Lib.hid (show arm d n = { d with left := 0 } by rw [arm, show n.toNat = 0 by omega])
    have h1 : n < 0 := by omega
    clear hn
    go_enter Try.func37, Try.ntmps37
    go_wp2
    go_end0
    rw [HA.out]
    exact ⟨rfl, HD.out 0⟩

/-- an operation was counted: nothing else has turned -/
theorem rticked {F : Nat → Prop} {w w1 : World} {h c : Nat} {A : Option Addr} {bl : Int → Bl} {d : Dk} (hh : RHead w1 h (tick d) A d.files.length c) (hg : F h) (hb : RBody w1 F d.files A c bl) (hw : w.grownBy w1 (some h)) : RefAt (Out F w w1) w1 h (tick d) ∧ Turn F w w1 :=
  ⟨⟨A, c, bl, hh, .inl hg, hb.mono fun _ hi => .inl hi⟩, Turn.grown hw fun k e => by injection e with e; rw [← e]; exact hg⟩
theorem put_sure {l : List Fl} {f : Int} {x : Fl} (hu : Up 0 l) (hx : seek l f = some x) : put l f sure = l.set (place f l) { x with safe := x.b.length } := place_put sure hu hx

/-- how much of one file is safe is written -/
theorem rwrote_safe {F : Nat → Prop} {w W : World} {h c g k : Nat} {bl : Int → Bl} {d : Dk} {x : Fl} {cur : Array Value} {l' : List Fl} (hh : RHead W h d (some ⟨g, 0, none⟩) d.files.length c) (hg : F h) (hb : RBody W F d.files (some ⟨g, 0, none⟩) c bl) (ht : Turn F w W)
    (hx : d.files[k]? = some x) (hFg : F g) (hbk : Blk W g 64 cur) {s : Nat} (_ : s ≤ x.b.length) (hl : l' = d.files.set k { x with safe := s }) (hu : Up 0 l') :
    RefAt (Out F w (W.setCell ⟨g, k * 3 + 1, none⟩ (.int .i64 s))) (W.setCell ⟨g, k * 3 + 1, none⟩ (.int .i64 s)) h { d with files := l' } ∧ Turn F w (W.setCell ⟨g, k * 3 + 1, none⟩ (.int .i64 s)) := by
  have hrow := hb.rrow.safe_ hx hbk s
  rw [← hl] at hrow
  have hgh : h ≠ g := fun e => by
    unfold RHead Blk at hh
    unfold Blk at hbk
    rw [e, hbk] at hh
    cases hh
  refine ⟨⟨_, c, bl, ?_, .inl hg, (hrow.body hu).mono fun _ hi => .inl hi⟩, ht.setCell (.inl hFg) _⟩
  show RHead _ h { d with files := l' } _ l'.length c
  rw [hl, List.length_set]
  exact Blk.far hh hgh _

set_option maxRecDepth 100000 in
set_option maxHeartbeats 800000 in
theorem refsync_any (F : Nat → Prop) (h : Nat) (d : Dk) (f : Int) (w : World) (hr : RefAt F w h d) (hf : Fits d) :
    Calls Try.prog 33 #[.pointer (some ⟨h, 0, none⟩), .int .i64 f] w (RDone F w h (sync d f)) := by
  have HR := Lib.hid hr
  have hup := hr.up
  obtain ⟨A, c, bl, hh, hg, hb⟩ := hr
  by_cases hrf : refuse d f true = 0
  · obtain ⟨hoff, _, _, x, hx⟩ := refuse_zero hrf
    have hp := place_seek hup hx
    have hlt := len_of hp
    have hlen := hup.le
    have HH := Lib.hid hh
    have HB := Lib.hid hb
    have HO := Lib.hid hoff
    have HRF := Lib.hid hrf
    have HX := Lib.hid hx
    have HP := Lib.hid hp
    have HU := Lib.hid hup
    have HI := Lib.hid (show isIn d.files f = true by rw [isIn, hx]; rfl)
    clear hh hb hoff hx hp hup
    by_cases hl : d.left = 1
    · have HT := Lib.hid (decide_eq_true hl)
      have HS := Lib.hid (show sync d f = (8, tick d) by rw [sync, if_pos hrf, (told_one hl _).2])
      clear hl hrf
      go_enter Try.func33, Try.ntmps33
      go_wp2_with fail
      refine (refused_any F h d f true w HR.out).mono ?_
      rintro e w1 ⟨rfl, q, rfl⟩
      rw [HRF.out]
      go_wp2_with fail
      refine (goes_any h d.files.length c A d (w.drewN q) HH.out HO.out hf).mono ?_
      rintro e w2 ⟨rfl, hh2, hw2⟩
      have HD := Lib.hid (rticked (F := F) hh2 hg (RBody.head (w := w.drewN q) HB.out HH.out hw2) hw2)
      clear hh2 hw2
      rw [HT.out]
      go_wp2_with fail
      refine (told_any true w2).mono ?_
      rintro e w3 ⟨rfl, rfl⟩
      go_wp2
      go_ret
      rw [HS.out]
      exact ⟨rfl, HD.out.1, ⟨HD.out.2.os, HD.out.2.tape, HD.out.2.output, HD.out.2.size, HD.out.2.block⟩⟩
    · have HT := Lib.hid (decide_eq_false hl)
      have HS := Lib.hid (show sync d f = (0, { tick d with files := put d.files f sure }) by rw [sync, if_pos hrf, (told_more hl _).2])
      clear hl hrf
      go_enter Try.func33, Try.ntmps33
      go_wp2_with fail
      refine (refused_any F h d f true w HR.out).mono ?_
      rintro e w1 ⟨rfl, q, rfl⟩
      rw [HRF.out]
      go_wp2_with fail
      refine (goes_any h d.files.length c A d (w.drewN q) HH.out HO.out hf).mono ?_
      rintro e w2 ⟨rfl, hh2, hw2⟩
      have hb2 := RBody.head (w := w.drewN q) HB.out HH.out hw2
      have HD2 := Lib.hid (rticked (F := F) hh2 hg hb2 hw2)
      have HB2 := Lib.hid hb2
      have HH2 := Lib.hid hh2
      clear hh2 hw2 hb2
      rw [HT.out]
      go_wp2_with fail
      refine (at_any _ h (tick d) f w2 HD2.out.1).mono ?_
      rintro e W ⟨rfl, q2, hW⟩
      rw [show (tick d).files = d.files from rfl, HI.out]
      have hbW : RBody W F d.files A c bl := by rw [← hW]; exact HB2.out
      have hhW : RHead W h (tick d) A d.files.length c := by rw [← hW]; exact HH2.out
      have htW : Turn F w W := by rw [← hW]; exact ⟨HD2.out.2.os, HD2.out.2.tape, HD2.out.2.output, HD2.out.2.size, HD2.out.2.block⟩
      clear HB2 HH2 HD2 hW HB HH
      obtain ⟨g, cur, rfl, hFg, hbk, _, _, k1, k2⟩ := hbW.at_ HP.out
      have c0 := hhW.cells.1
      have zf := Blk.frozen hbk (place f d.files * 3 + 1)
      have HE := Lib.hid (rwrote_safe (w := w) hhW hg hbW htW HP.out hFg hbk (show x.b.length ≤ x.b.length from Nat.le_refl _) (put_sure HU.out HX.out) (put_up (g := sure) (fun _ => rfl) sure_ok HU.out))
      clear hbk hhW hbW htW
      generalize x.b.length = m at k2 HE
      generalize (bl x.id).A = A2 at k2
      generalize (bl x.id).c = c2 at k2
      generalize x.safe = s0 at k1
      clear HP HU HX HR
      generalize place f d.files = p at *
      generalize d.files.length = N at *
      go_wp2
      go_still_tail 16, (by kernel_rfl)
      go_wp2_with fail
      refine (told_any false _).mono ?_
      rintro e w3 ⟨rfl, rfl⟩
      go_wp2
      go_ret
      rw [HS.out]
      exact ⟨rfl, HE.out.1, ⟨HE.out.2.os, HE.out.2.tape, HE.out.2.output, HE.out.2.size, HE.out.2.block⟩⟩
  · have HS := Lib.hid (sync_no rfl hrf)
    generalize hk : refuse d f true = k at hrf HS
    have HK := Lib.hid hk
    have hne : (k != 0) = true := by simpa using hrf
    clear hh hb hk hup
    go_enter Try.func33, Try.ntmps33
    go_wp2_with fail
    refine (refused_any F h d f true w HR.out).mono ?_
    rintro e w1 ⟨rfl, q, rfl⟩
    rw [HK.out]
    go_wp2
    go_ret
    rw [HS.out]
    exact RDone.no HR.out q
end Go.Proofs.Ythjdankeopfkaaa.Ref
