/-
  The contract of the document's own Crash.
-/
import Derived.Test.YthjdankeopfkaaaRefAppend
import Derived.Test.YthjdankeopfkaaaInts
namespace Go.Proofs.Ythjdankeopfkaaa.Ref
open Go.RowKit Base DiskMath Disk Last
set_option linter.ambiguousOpen false
set_option linter.unusedSimpArgs false

theorem crashTo_set (l : List Fl) (ks : List Int) {k : Nat} {x : Fl} (hx : l[k]? = some x) : crashTo l ks (k + 1) = (crashTo l ks k).set k (setl (ks.getD k 0) x) := by
  have hk := (List.getElem?_eq_some_iff.1 hx).1
  have hc : (crashL l ks)[k]? = some (setl (ks.getD k 0) x) := by rw [crashL_get, hx]; rfl
  have hl : ((crashL l ks).take k).length = k := by rw [List.length_take, crashL_length]; omega
  have hd : l.drop k = x :: l.drop (k + 1) := by
    rw [List.drop_eq_getElem_cons hk]
    rw [List.getElem?_eq_getElem hk] at hx
    rw [Option.some.inj hx]
  rw [crashTo, crashTo, List.take_add_one, hc, List.set_append_right _ _ (by omega), hl, Nat.sub_self, hd, List.set_cons_zero]
  simp

/-- k files are done -/
def CrashRel (F : Nat → Prop) (w : World) (h : Nat) (d : Dk) (ks : List Int) (A : Option Addr) (c : Nat) (i : Value) (wr : World) : Prop :=
  ∃ (k : Nat) (bl : Int → Bl), k ≤ d.files.length ∧ i = .int .i64 k ∧ RHead wr h d A d.files.length c ∧ RBody wr (Out F w wr) (crashTo d.files ks k) A c bl ∧ Turn F w wr

set_option maxRecDepth 100000 in
set_option maxHeartbeats 3200000 in
theorem refcrash_any (F : Nat → Prop) (h : Nat) (d : Dk) (B : Nat) (Ak : Option Addr) (nk ck : Nat) (ks : List Int) (w : World) (hr : RefAt F w h d) (hk : Row w B 1 Ak nk ck (iv ks)) (hB : B ≤ w.heap.size) (hA : 0 < nk → ∀ a, Ak = some a → ¬ F a.block)
    (hi64 : ∀ k, I64 (ks.getD k 0)) (hsz : ∀ x ∈ d.files, x.b.length ≤ 140737488355328) :
    Calls Try.prog 38 #[.pointer (some ⟨h, 0, none⟩), .slice Ak nk ck] w (RArmed F w h (crash d ks)) := by
  have hup := hr.up
  have hlen := hup.le
  obtain ⟨A, c, bl, hh, hg, hb⟩ := hr
  have hkle := hk.le
  have HK := Lib.hid hk
  have HA := Lib.hid hA
  have HI := Lib.hid hi64
  have HS := Lib.hid hsz
  have HU := Lib.hid hup
  have HH := Lib.hid hh
  have HB := Lib.hid hb
  clear hk hA hi64 hsz hup hh hb
  go_enter Try.func38, Try.ntmps38
  go_wp2
  go_loopw [4] (fun i wr => CrashRel F w h d ks A c i wr) (fun i _ => d.files.length - (RowKit.intOf i).toNat)
  case atStart =>
    refine ⟨0, bl, by omega, rfl, HH.out, ?_, Turn.refl _ _⟩
    rw [crashTo_zero]
    exact HB.out.mono fun _ hi => .inl hi
  case round =>
    obtain ⟨k, bl, hkl, rfl, hh, hb, ht⟩ := hrel
    clear HB HH
    have d0 := hh.cells.1
    by_cases hlt : k < d.files.length
    · obtain ⟨x, hx⟩ : ∃ x, d.files[k]? = some x := ⟨_, List.getElem?_eq_getElem hlt⟩
      have hx2 : (crashTo d.files ks k)[k]? = some x := (crashTo_get d.files ks hlt).trans hx
      have hxm := List.mem_of_getElem? hx
      have hsf := (HU.out.mem x hxm).2.2
      have hxl := HS.out x hxm
      obtain ⟨g, cur, rfl, hFg, hbk, _, _, j1, j2⟩ := hb.at_ hx2
      have hkey : ∀ hlt2 : k < nk, ∃ bb off, Ak = some ⟨bb, off, none⟩ ∧ wr.cell? ⟨bb, off + k, none⟩ = some (.int .i64 (ks.getD k 0)) := fun hlt2 => by
        obtain ⟨bb, off, e, hbb, hcc⟩ := Row.num HK.out hlt2
        refine ⟨bb, off, e, ?_⟩
        rw [ht.cell (p := ⟨bb, off + k, none⟩) (by dsimp only; omega) (HA.out (by omega) ⟨bb, off, none⟩ e)]
        exact hcc
      have HKEY := Lib.hid hkey
      have HX := Lib.hid hx
      have HX2 := Lib.hid hx2
      have HHr := Lib.hid hh
      have HBr := Lib.hid hb
      have HTr := Lib.hid ht
      have HKr := Lib.hid hbk
      clear hkey hx hx2 hh hb ht hbk
      have hkk := keeps_le (ks.getD k 0) x hsf
      obtain ⟨r, hrr⟩ : ∃ r : Nat, r = (ks.getD k 0).toNat % (x.b.length - x.safe + 1) := ⟨_, rfl⟩
      have hrl : r < x.b.length - x.safe + 1 := by rw [hrr]; exact Nat.mod_lt _ (by omega)
      have HKP := Lib.hid (show keeps (ks.getD k 0) x = x.safe + r by rw [keeps, hrr])
      have HRR := Lib.hid hrr
      clear hkk hrr
      generalize hm : x.b.length = m at j2 hsf hxl hrl HRR
      generalize hs : x.safe = s at j1 hsf hrl HRR HKP
      have HM := Lib.hid hm
      have HSS := Lib.hid hs
      clear hm hs
      generalize hA3 : (bl x.id).A = A3 at j2
      generalize hC3 : (bl x.id).c = c3 at j2
      have HA3 := Lib.hid hA3
      have HC3 := Lib.hid hC3
      clear hA3 hC3
      generalize hNN : d.files.length = N at *
      have HNN := Lib.hid hNN
      clear hNN
      go_wp2
      go_quiet (fail)
      generalize hW : wr.drewN nq = W
      have hhW : RHead W h d (some ⟨g, 0, none⟩) N c := by rw [← hW]; exact HHr.out
      have hbW : RBody W (Out F w W) (crashTo d.files ks k) (some ⟨g, 0, none⟩) c bl := by rw [← hW]; exact HBr.out
      have htW : Turn F w W := by rw [← hW]; exact HTr.out.drewN nq
      have hkW : Blk W g 64 cur := by rw [← hW]; exact HKr.out
      have d0W := hhW.cells.1
      have j1W : W.cell? ⟨g, k * 3 + 1, none⟩ = some (.int .i64 s) := by rw [← hW]; exact j1
      have j2W : W.cell? ⟨g, k * 3 + 2, none⟩ = some (.slice A3 m c3) := by rw [← hW]; exact j2
      have HKW : Hid (∀ hlt2 : k < nk, ∃ bb off, Ak = some ⟨bb, off, none⟩ ∧ W.cell? ⟨bb, off + k, none⟩ = some (.int .i64 (ks.getD k 0))) := by rw [← hW]; exact HKEY.out
      have HHW := Lib.hid hhW
      have HBW := Lib.hid hbW
      have HTW := Lib.hid htW
      have HKB := Lib.hid hkW
      clear hhW hbW htW hkW d0 j1 j2 HHr HBr HTr HKr HKEY hW
      obtain ⟨bt, hbt⟩ : ∃ bt : Bool, bt = decide (k < nk ∧ 0 < ks.getD k 0) := ⟨_, rfl⟩
      have HBT := Lib.hid hbt
      clear hbt
      go_upto_region 5 with fail
      go_cut [44] (fun v wx => v = .bool bt ∧ W = wx)
      case first =>
        by_cases hkn : k < nk
        · obtain ⟨bb, off, rfl, hcc⟩ := HKW.out hkn
          have hb2 : bt = decide (0 < ks.getD k 0) := by rw [HBT.out]; simp [hkn]
          generalize ks.getD k 0 = κ at *
          go_wp2_with fail
          go_meet
          exact ⟨congrArg Value.bool hb2.symm, rfl⟩
        · have hb2 : bt = false := by rw [HBT.out]; simp [hkn]
          go_wp2_with fail
          go_meet
          exact ⟨congrArg Value.bool hb2.symm, rfl⟩
      case rest =>
      obtain ⟨rfl, rfl⟩ := hcut
      go_upto_if 44 with fail
      go_cut [6] (fun v wx => v = .int .i64 r ∧ W = wx)
      case first =>
        cases bt with
        | true =>
          have hq := of_decide_eq_true HBT.out.symm
          obtain ⟨hkn, h0⟩ := hq
          obtain ⟨bb, off, rfl, hcc⟩ := HKW.out hkn
          have hI := HI.out k
          generalize ks.getD k 0 = κ at *
          obtain ⟨kn, rfl⟩ := Int.eq_ofNat_of_zero_le (show 0 ≤ κ by omega)
          have hr2 : r = kn % (m - s + 1) := by rw [HRR.out, Int.toNat_natCast]
          obtain ⟨v, hv⟩ : ∃ v : Int, v = (m : Int) - s + 1 := ⟨_, rfl⟩
          have hwr : IntKind.i64.wrap ((m : Int) - s + 1) = v := by rw [← hv]; exact IntWalk.i64_in _ (by omega)
          have htm : (kn : Int).tmod v = (r : Int) := by
            rw [hv, show (m : Int) - s + 1 = ((m - s + 1 : Nat) : Int) by omega, hr2]
            exact (Int.tmod_eq_emod_of_nonneg (by omega)).trans (Int.natCast_emod kn (m - s + 1)).symm
          have hw1 : IntKind.i64.wrap (r : Int) = (r : Int) := IntWalk.i64_in _ (by omega)
          have hv0 : ¬ v = 0 := by omega
          have hv1 : (v == 0) = false := by simp; omega
          clear hr2 hv
          go_wp2_with fail
          go_meet
          exact ⟨rfl, rfl⟩
        | false =>
          have hr0 : r = 0 := by
            have hq := of_decide_eq_false HBT.out.symm
            have h1 := HK.out.1
            rw [iv, List.length_map] at h1
            rw [HRR.out, show (ks.getD k 0).toNat = 0 from ?_, Nat.zero_mod]
            rcases Nat.lt_or_ge k nk with h2 | h2
            · have : ¬ 0 < ks.getD k 0 := fun h3 => hq ⟨h2, h3⟩
              omega
            · rw [List.getD_eq_getElem?_getD, List.getElem?_eq_none (by omega)]
              rfl
          go_wp2_with fail
          go_meet
          exact ⟨by rw [hr0]; rfl, rfl⟩
      case rest =>
        obtain ⟨rfl, rfl⟩ := hcut
        obtain ⟨j, hj⟩ : ∃ j : Nat, j = s + r := ⟨_, rfl⟩
        have hjm : j ≤ m := by omega
        have hBx : BAt W (Out F w W) x (bl x.id) := HBW.out.2.2.1 x (List.mem_of_getElem? HX2.out)
        have hY := (BAt.bytes hBx).front (k := j) (by rw [HM.out]; exact hjm)
        have hYl := (BAt.bytes hBx).le
        rw [HM.out] at hYl
        rw [HA3.out, HC3.out] at hY
        rw [HC3.out] at hYl
        have hjc : (j : Int) ≤ (c3 : Int) := by omega
        have hw2 : IntKind.i64.wrap ((s : Int) + r) = (j : Int) := by rw [hj]; rw [IntWalk.i64_in _ (by omega)]; simp
        have HJ := Lib.hid hj
        have HY := Lib.hid hY
        clear hj hBx hY
        go_wp2_with fail
        refine wp_region_last_at (S := fun w' => w'.cell? ⟨h, 0, none⟩ = some (.slice (some ⟨g, 0, none⟩) N c) ∧ w'.cell? ⟨g, k * 3 + 2, none⟩ = some (.slice A3 m c3) ∧ w'.cell? ⟨g, k * 3 + 1, none⟩ = some (.int .i64 s) ∧ Below W.heap.size W w') 28 _ rfl rfl (by kernel_rfl) (by kernel_rfl) (by kernel_rfl) (held3 (held_start W) d0W j2W j1W) (fun hHeld => ?_)
        simp only [List.take_succ_cons, List.take_zero]
        refine wpAnyH_take (i := 0) (v := ?av0) rfl (by kernel_rfl) (by kernel_rfl) (by kernel_rfl) (fun _ _ _ h => h) (Or.inl ⟨by rfl, ?ay0⟩) (by assumption) ?ar0
        case ay0 => (intro w hSw; (try dsimp only at hSw); go_simp; try with_reducible rfl)
        try simp only [Act.put, List.getElem_toArray, List.getElem_cons_succ, List.getElem_cons_zero, List.setIfInBounds_toArray, List.set_cons_zero, List.set_cons_succ]
        refine wpAnyH_take (i := 1) (v := ?av1) rfl (by kernel_rfl) (by kernel_rfl) (by kernel_rfl) (fun _ _ _ h => h) (Or.inl ⟨by rfl, ?ay1⟩) (by assumption) ?ar1
        case ay1 => (intro w hSw; (try dsimp only at hSw); go_simp; try with_reducible rfl)
        try simp only [Act.put, List.getElem_toArray, List.getElem_cons_succ, List.getElem_cons_zero, List.setIfInBounds_toArray, List.set_cons_zero, List.set_cons_succ]
        refine wpAnyH_take (i := 2) (v := ?av2) rfl (by kernel_rfl) (by kernel_rfl) (by kernel_rfl) (fun _ _ _ h => h) (Or.inl ⟨by rfl, ?ay2⟩) (by assumption) ?ar2
        case ay2 => (intro w hSw; (try dsimp only at hSw); go_simp; try with_reducible rfl)
        try simp only [Act.put, List.getElem_toArray, List.getElem_cons_succ, List.getElem_cons_zero, List.setIfInBounds_toArray, List.set_cons_zero, List.set_cons_succ]
        refine wpAnyH_take (i := 3) (v := ?av3) rfl (by kernel_rfl) (by kernel_rfl) (by kernel_rfl) (fun _ _ _ h => h) (Or.inl ⟨by rfl, ?ay3⟩) (by assumption) ?ar3
        case ay3 => (intro w hSw; (try dsimp only at hSw); go_simp; try with_reducible rfl)
        try simp only [Act.put, List.getElem_toArray, List.getElem_cons_succ, List.getElem_cons_zero, List.setIfInBounds_toArray, List.set_cons_zero, List.set_cons_succ]
        refine wpAnyH_take (i := 4) (v := ?av4) rfl (by kernel_rfl) (by kernel_rfl) (by kernel_rfl) (fun _ _ _ h => h) (Or.inl ⟨by rfl, ?ay4⟩) (by assumption) ?ar4
        case ay4 => (intro w hSw; (try dsimp only at hSw); go_simp; try with_reducible rfl)
        try simp only [Act.put, List.getElem_toArray, List.getElem_cons_succ, List.getElem_cons_zero, List.setIfInBounds_toArray, List.set_cons_zero, List.set_cons_succ]
        refine wpAnyH_take (i := 6) (v := ?av6) rfl (by kernel_rfl) (by kernel_rfl) (by kernel_rfl) (fun _ _ _ h => h) (Or.inl ⟨by rfl, ?ay6⟩) (by assumption) ?ar6
        case ay6 => (intro w hSw; (try dsimp only at hSw); go_simp; try with_reducible rfl)
        try simp only [Act.put, List.getElem_toArray, List.getElem_cons_succ, List.getElem_cons_zero, List.setIfInBounds_toArray, List.set_cons_zero, List.set_cons_succ]
        refine wpAnyH_take (i := 7) (v := ?av7) rfl (by kernel_rfl) (by kernel_rfl) (by kernel_rfl) (fun _ _ _ h => h) (Or.inl ⟨by rfl, ?ay7⟩) (by assumption) ?ar7
        case ay7 => (intro w hSw; (try dsimp only at hSw); go_simp; try with_reducible rfl)
        try simp only [Act.put, List.getElem_toArray, List.getElem_cons_succ, List.getElem_cons_zero, List.setIfInBounds_toArray, List.set_cons_zero, List.set_cons_succ]
        refine wpAnyH_take (i := 8) (v := ?av8) rfl (by kernel_rfl) (by kernel_rfl) (by kernel_rfl) (fun _ _ _ h => h) (Or.inl ⟨by rfl, ?ay8⟩) (by assumption) ?ar8
        case ay8 => (intro w hSw; (try dsimp only at hSw); go_simp; try with_reducible rfl)
        try simp only [Act.put, List.getElem_toArray, List.getElem_cons_succ, List.getElem_cons_zero, List.setIfInBounds_toArray, List.set_cons_zero, List.set_cons_succ]
        refine wpAnyH_take (i := 9) (v := ?av9) rfl (by kernel_rfl) (by kernel_rfl) (by kernel_rfl) (fun _ _ _ h => h) (Or.inl ⟨by rfl, ?ay9⟩) (by assumption) ?ar9
        case ay9 => (intro w hSw; (try dsimp only at hSw); go_simp; try with_reducible rfl)
        try simp only [Act.put, List.getElem_toArray, List.getElem_cons_succ, List.getElem_cons_zero, List.setIfInBounds_toArray, List.set_cons_zero, List.set_cons_succ]
        refine wpAnyH_take (i := 10) (v := ?av10) rfl (by kernel_rfl) (by kernel_rfl) (by kernel_rfl) (fun _ _ _ h => h) (Or.inl ⟨by rfl, ?ay10⟩) (by assumption) ?ar10
        case ay10 => (intro w hSw; (try dsimp only at hSw); go_simp; try with_reducible rfl)
        try simp only [Act.put, List.getElem_toArray, List.getElem_cons_succ, List.getElem_cons_zero, List.setIfInBounds_toArray, List.set_cons_zero, List.set_cons_succ]
        refine wpAnyH_take (i := 11) (v := ?av11) rfl (by kernel_rfl) (by kernel_rfl) (by kernel_rfl) (fun _ _ _ h => h) (Or.inl ⟨by rfl, ?ay11⟩) (by assumption) ?ar11
        case ay11 => (intro w hSw; (try dsimp only at hSw); go_simp; try with_reducible rfl)
        try simp only [Act.put, List.getElem_toArray, List.getElem_cons_succ, List.getElem_cons_zero, List.setIfInBounds_toArray, List.set_cons_zero, List.set_cons_succ]
        refine wpAnyH_take (i := 12) (v := ?av12) rfl (by kernel_rfl) (by kernel_rfl) (by kernel_rfl) (fun _ _ _ h => h) (Or.inl ⟨by rfl, ?ay12⟩) (by assumption) ?ar12
        case ay12 => (intro w hSw; (try dsimp only at hSw); go_simp; try with_reducible rfl)
        try simp only [Act.put, List.getElem_toArray, List.getElem_cons_succ, List.getElem_cons_zero, List.setIfInBounds_toArray, List.set_cons_zero, List.set_cons_succ]
        refine wpAnyH_take (i := 13) (v := ?av13) rfl (by kernel_rfl) (by kernel_rfl) (by kernel_rfl) (fun _ _ _ h => h) (Or.inl ⟨by rfl, ?ay13⟩) (by assumption) ?ar13
        case ay13 => (intro w hSw; (try dsimp only at hSw); go_simp; try with_reducible rfl)
        try simp only [Act.put, List.getElem_toArray, List.getElem_cons_succ, List.getElem_cons_zero, List.setIfInBounds_toArray, List.set_cons_zero, List.set_cons_succ]
        refine wpAnyH_take (i := 14) (v := ?av14) rfl (by kernel_rfl) (by kernel_rfl) (by kernel_rfl) (fun _ _ _ h => h) (Or.inl ⟨by rfl, ?ay14⟩) (by assumption) ?ar14
        case ay14 => (intro w hSw; (try dsimp only at hSw); go_simp; try with_reducible rfl)
        try simp only [Act.put, List.getElem_toArray, List.getElem_cons_succ, List.getElem_cons_zero, List.setIfInBounds_toArray, List.set_cons_zero, List.set_cons_succ]
        refine wpAnyH_take (i := 15) (v := ?av15) rfl (by kernel_rfl) (by kernel_rfl) (by kernel_rfl) (fun _ _ _ h => h) (Or.inl ⟨by rfl, ?ay15⟩) (by assumption) ?ar15
        case ay15 => (intro w hSw; (try dsimp only at hSw); go_simp; try with_reducible rfl)
        try simp only [Act.put, List.getElem_toArray, List.getElem_cons_succ, List.getElem_cons_zero, List.setIfInBounds_toArray, List.set_cons_zero, List.set_cons_succ]
        refine wpAnyH_take (i := 16) (v := ?av16) rfl (by kernel_rfl) (by kernel_rfl) (by kernel_rfl) (fun _ _ _ h => h) (Or.inl ⟨by rfl, ?ay16⟩) (by assumption) ?ar16
        case ay16 => (intro w hSw; (try dsimp only at hSw); go_simp; try with_reducible rfl)
        try simp only [Act.put, List.getElem_toArray, List.getElem_cons_succ, List.getElem_cons_zero, List.setIfInBounds_toArray, List.set_cons_zero, List.set_cons_succ]
        refine wpAnyH_take (i := 17) (v := ?av17) rfl (by kernel_rfl) (by kernel_rfl) (by kernel_rfl) (fun _ _ _ h => h) (Or.inl ⟨by rfl, ?ay17⟩) (by assumption) ?ar17
        case ay17 => (intro w hSw; (try dsimp only at hSw); go_simp; try with_reducible rfl)
        try simp only [Act.put, List.getElem_toArray, List.getElem_cons_succ, List.getElem_cons_zero, List.setIfInBounds_toArray, List.set_cons_zero, List.set_cons_succ]
        refine wpAnyH_take (i := 18) (v := ?av18) rfl (by kernel_rfl) (by kernel_rfl) (by kernel_rfl) (fun _ _ _ h => h) (Or.inl ⟨by rfl, ?ay18⟩) (by assumption) ?ar18
        case ay18 => (intro w hSw; (try dsimp only at hSw); go_simp; try with_reducible rfl)
        try simp only [Act.put, List.getElem_toArray, List.getElem_cons_succ, List.getElem_cons_zero, List.setIfInBounds_toArray, List.set_cons_zero, List.set_cons_succ]
        refine wpAnyH_take (i := 19) (v := ?av19) rfl (by kernel_rfl) (by kernel_rfl) (by kernel_rfl) (fun _ _ _ h => h) (Or.inl ⟨by rfl, ?ay19⟩) (by assumption) ?ar19
        case ay19 => (intro w hSw; (try dsimp only at hSw); go_simp; try with_reducible rfl)
        try simp only [Act.put, List.getElem_toArray, List.getElem_cons_succ, List.getElem_cons_zero, List.setIfInBounds_toArray, List.set_cons_zero, List.set_cons_succ]
        refine wpAnyH_take (i := 20) (v := ?av20) rfl (by kernel_rfl) (by kernel_rfl) (by kernel_rfl) (fun _ _ _ h => h) (Or.inl ⟨by rfl, ?ay20⟩) (by assumption) ?ar20
        case ay20 => (intro w hSw; (try dsimp only at hSw); go_simp; try with_reducible rfl)
        try simp only [Act.put, List.getElem_toArray, List.getElem_cons_succ, List.getElem_cons_zero, List.setIfInBounds_toArray, List.set_cons_zero, List.set_cons_succ]
        refine wpAnyH_take (i := 21) (v := ?av21) rfl (by kernel_rfl) (by kernel_rfl) (by kernel_rfl) (fun _ _ _ h => h) (Or.inl ⟨by rfl, ?ay21⟩) (by assumption) ?ar21
        case ay21 => (intro w hSw; (try dsimp only at hSw); go_simp; try with_reducible rfl)
        try simp only [Act.put, List.getElem_toArray, List.getElem_cons_succ, List.getElem_cons_zero, List.setIfInBounds_toArray, List.set_cons_zero, List.set_cons_succ]
        refine wpAnyH_take (i := 22) (v := ?av22) rfl (by kernel_rfl) (by kernel_rfl) (by kernel_rfl) (fun _ _ _ h => h) (Or.inl ⟨by rfl, ?ay22⟩) (by assumption) ?ar22
        case ay22 => (intro w hSw; (try dsimp only at hSw); go_simp; try with_reducible rfl)
        try simp only [Act.put, List.getElem_toArray, List.getElem_cons_succ, List.getElem_cons_zero, List.setIfInBounds_toArray, List.set_cons_zero, List.set_cons_succ]
        refine wpAnyH_take (i := 23) (v := ?av23) rfl (by kernel_rfl) (by kernel_rfl) (by kernel_rfl) (fun _ _ _ h => h) (Or.inl ⟨by rfl, ?ay23⟩) (by assumption) ?ar23
        case ay23 => (intro w hSw; (try dsimp only at hSw); go_simp; try with_reducible rfl)
        try simp only [Act.put, List.getElem_toArray, List.getElem_cons_succ, List.getElem_cons_zero, List.setIfInBounds_toArray, List.set_cons_zero, List.set_cons_succ]
        refine wpAnyH_take (i := 24) (v := ?av24) rfl (by kernel_rfl) (by kernel_rfl) (by kernel_rfl) (fun _ _ _ h => h) (Or.inl ⟨by rfl, ?ay24⟩) (by assumption) ?ar24
        case ay24 => (intro w hSw; (try dsimp only at hSw); go_simp; try with_reducible rfl)
        try simp only [Act.put, List.getElem_toArray, List.getElem_cons_succ, List.getElem_cons_zero, List.setIfInBounds_toArray, List.set_cons_zero, List.set_cons_succ]
        refine wpAnyH_ready (rs := [5]) (by kernel_rfl) (by simp) ?_
        refine AllReadyH.cons rfl (fun K hK => ?_) AllReadyH.nil
        go_simp
        refine hK.out _ _ (held3 (held_alloc_drew (held_start W) _) d0W j2W j1W) (fun hHeld => ?_)
        clear hK K
        try simp only [Act.put, List.setIfInBounds_toArray, List.set_cons_zero, List.set_cons_succ]
        refine wpAnyH_ready (rs := [25]) (by kernel_rfl) (by simp) ?_
        refine AllReadyH.cons rfl (fun K hK => ?_) AllReadyH.nil
        refine step_append_row (by rfl) (.tmp 57) (.tmp 76) (by rfl) eb W.heap.size (.slice (some ⟨W.heap.size, 0, none⟩) 0 0) 0 [] (by rfl) (own_empty W W.heap.size _ 1 rfl (Nat.le_refl _)) W.heap.size A3 j c3 (bv (x.b.take j)) (by rfl) (HY.out.alloc (Nat.le_refl _) _) (bv_one _) (by omega) (by omega) (by simp [World.drew]) ?_
        intro A1 c1 w1 hown1 _ hb1
        rw [Nat.zero_add, List.nil_append] at hown1
        rw [Nat.zero_add]
        have hB1 : Below W.heap.size W w1 := (held_alloc_drew (held_start W) (.cells #[] 5)).trans hb1
        refine hK.out _ _ (held3 hB1 d0W j2W j1W) (fun hHeld => ?_)
        clear hK K
        simp only [Act.put, List.getElem_toArray, List.getElem_cons_succ, List.getElem_cons_zero, List.setIfInBounds_toArray, List.set_cons_zero, List.set_cons_succ]
        refine wpAnyH_take (i := 26) (v := ?bv26) rfl (by kernel_rfl) (by kernel_rfl) (by kernel_rfl) (fun _ _ _ h => h) (Or.inl ⟨by rfl, ?by26⟩) (by assumption) ?br26
        case by26 => (intro w hSw; (try dsimp only at hSw); go_simp; try with_reducible rfl)
        try simp only [Act.put, List.getElem_toArray, List.getElem_cons_succ, List.getElem_cons_zero, List.setIfInBounds_toArray, List.set_cons_zero, List.set_cons_succ]
        refine wpAnyH_take (i := 27) (v := ?bv27) rfl (by kernel_rfl) (by kernel_rfl) (by kernel_rfl) (fun _ _ _ h => h) (Or.inl ⟨by rfl, ?by27⟩) (by assumption) ?br27
        case by27 => (intro w hSw; (try dsimp only at hSw); go_simp; try with_reducible rfl)
        try simp only [Act.put, List.getElem_toArray, List.getElem_cons_succ, List.getElem_cons_zero, List.setIfInBounds_toArray, List.set_cons_zero, List.set_cons_succ]
        refine wpAnyH_done (by kernel_rfl) ?_ _
        refine then_normal rfl ?_
        have hln : (x.b.take j).length = j := Disk.take_len (by rw [HM.out]; exact hjm)
        have hrow : RRow w1 (Out F w w1) (crashTo d.files ks k) (some ⟨g, 0, none⟩) c bl := (HBW.out.rrow.new hB1).mono fun i hi => Out.mono hB1.size hi
        have hbk1 : Blk w1 g 64 cur := Blk.below HKB.out hB1 (Blk.lt HKB.out)
        obtain ⟨g5, _, hgg5, hFgW, _⟩ := HBW.out.at_ HX2.out
        obtain rfl : g = g5 := by injection hgg5 with hgg5; injection hgg5
        have hFg2 : F g ∨ w.heap.size ≤ g := hFgW.imp id fun h => h.1
        have hUk := crashTo_up ks k HU.out
        have hq : BAt w1 (Out F w w1) { x with b := x.b.take j } ⟨A1, c1⟩ := by
          refine ⟨?_, fun k hk => ?_⟩
          · show w1.ownsRow 0 5 1 (.slice A1 (x.b.take j).length c1) (x.b.take j).length (bv (x.b.take j))
            rw [hln]
            exact own_mono hown1 (Nat.zero_le _)
          · have := hown1.lt k (by rw [own_map]; exact hk)
            exact .inr ⟨Nat.le_trans HTW.out.size this.1, this.2⟩
        have hrow2 := hrow.bytes_ (Up.once hUk) HX2.out hbk1 hq
        rw [show (Bl.mk A1 c1).A = A1 from rfl, show (Bl.mk A1 c1).c = c1 from rfl, hln] at hrow2
        have e2 : w1.cell? ⟨g, k * 3 + 2, none⟩ = some (.slice A3 m c3) := held_cell hB1 j2W
        have z2 := Blk.frozen hbk1 (k * 3 + 2)
        have hgh : h ≠ g := fun e => by
          have a := HHW.out
          have b := HKB.out
          unfold RHead Blk at a
          unfold Blk at b
          rw [e, b] at a
          cases a
        have hh4 : RHead (w1.setCell ⟨g, k * 3 + 2, none⟩ (.slice A1 j c1)) h d (some ⟨g, 0, none⟩) N c := Blk.far (Blk.below HHW.out hB1 (Blk.lt HHW.out)) hgh _
        have ht4 : Turn F w (w1.setCell ⟨g, k * 3 + 2, none⟩ (.slice A1 j c1)) := (HTW.out.trans (F' := F) (Turn.new hB1) fun _ hi => .inl hi).setCell hFg2 _
        have hrow4 := hrow2.mono (F' := Out F w (w1.setCell ⟨g, k * 3 + 2, none⟩ (.slice A1 j c1))) fun i hi => Out.mono (by simp [World.setCell]) hi
        have hlk : k < (crashTo d.files ks k).length := len_of HX2.out
        have hx4 : ((crashTo d.files ks k).set k { x with b := x.b.take j })[k]? = some { x with b := x.b.take j } := List.getElem?_set_self hlk
        obtain ⟨g4, cur4, hgg, _, hbk4, _, _, f1, f2⟩ := hrow4.at_ hx4
        obtain rfl : g = g4 := by injection hgg with hgg; injection hgg
        have f0 := hh4.cells.1
        have z4 := Blk.frozen hbk4 (k * 3 + 1)
        have f2' : (w1.setCell ⟨g, k * 3 + 2, none⟩ (.slice A1 j c1)).cell? ⟨g, k * 3 + 2, none⟩ = some (.slice A1 j c1) := by
          rw [f2]
          simp only [updB_same]
          rw [hln]
        have HE : Hid (∃ bl5, RHead ((w1.setCell ⟨g, k * 3 + 2, none⟩ (.slice A1 j c1)).setCell ⟨g, k * 3 + 1, none⟩ (.int .i64 j)) h d (some ⟨g, 0, none⟩) N c ∧
            RBody ((w1.setCell ⟨g, k * 3 + 2, none⟩ (.slice A1 j c1)).setCell ⟨g, k * 3 + 1, none⟩ (.int .i64 j)) (Out F w ((w1.setCell ⟨g, k * 3 + 2, none⟩ (.slice A1 j c1)).setCell ⟨g, k * 3 + 1, none⟩ (.int .i64 j))) (crashTo d.files ks (k + 1)) (some ⟨g, 0, none⟩) c bl5 ∧
            Turn F w ((w1.setCell ⟨g, k * 3 + 2, none⟩ (.slice A1 j c1)).setCell ⟨g, k * 3 + 1, none⟩ (.int .i64 j))) := by
          have hl : crashTo d.files ks (k + 1) = ((crashTo d.files ks k).set k { x with b := x.b.take j }).set k { x with b := x.b.take j, safe := j } := by
            rw [crashTo_set _ _ HX.out, List.set_set]
            congr 1
            unfold setl
            rw [HKP.out, ← HJ.out]
          have hrow5 := hrow4.safe_ hx4 hbk4 j
          rw [← hl] at hrow5
          exact ⟨_, Blk.far hh4 hgh _, (hrow5.body (crashTo_up ks (k + 1) HU.out)).mono fun i hi => Out.mono (by simp [World.setCell]) hi, ht4.setCell hFg2 _⟩
        clear hrow hq hrow2 hh4 ht4 hrow4 hx4 hbk4 hgg hb1 hB1 hown1 hHeld hbk1 HKB HBW HHW HTW HY d0W f2 hln
        go_wp2_with fail
        generalize w1.setCell ⟨g, k * 3 + 2, none⟩ (.slice A1 j c1) = W4 at f0 f1 f2' z4 HE ⊢
        clear e2 z2 j1W j2W
        go_still_tail 16, (by kernel_rfl)
        go_wp2
        go_roundw
        case rel =>
          obtain ⟨bl5, a1, a2, a3⟩ := HE.out
          exact ⟨k + 1, bl5, by rw [HNN.out]; omega, by go_num, by rw [HNN.out]; exact a1, a2, ⟨a3.os, a3.tape, a3.output, a3.size, a3.block⟩⟩
        case measure => simp [RowKit.intOf]; omega
    · obtain rfl : k = d.files.length := by omega
      rw [crashTo_all _ _ (Nat.le_refl _)] at hb
      have d1 := hh.cells.2.1
      have d2 := hh.cells.2.2.1
      have z1 := Blk.frozen hh 1
      have z2 := Blk.frozen hh 2
      have HHr := Lib.hid hh
      have HBr := Lib.hid hb
      have HTr := Lib.hid ht
      clear hh hb ht
      generalize hNN : d.files.length = N at *
      have HNN := Lib.hid hNN
      clear hNN
      go_wp2
      go_end0
      have hh3 : RHead _ h (crash d ks) A N c := Blk.set_ (Blk.set_ HHr.out 2 (.bool false)) 1 (.int .i64 0)
      have hw : wr.grownBy ((wr.setCell ⟨h, 2, none⟩ (.bool false)).setCell ⟨h, 1, none⟩ (.int .i64 0)) (some h) := only_set (only_set (World.grownBy.refl _ _) _ _) _ _
      refine ⟨rfl, ⟨A, c, bl, ?_, .inl hg, ?_⟩, (HTr.out.trans (Turn.grown (F := F) hw fun k e => by injection e with e; rw [← e]; exact hg) fun _ hi => .inl hi)⟩
      · show RHead _ h (crash d ks) A (crashL d.files ks).length c
        rw [crashL_length, HNN.out]
        exact hh3
      · exact (HBr.out.head HHr.out hw).mono fun i hi => Out.mono hw.size hi
end Go.Proofs.Ythjdankeopfkaaa.Ref
