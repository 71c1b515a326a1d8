/-
  Contracts of package wal's mend and Open: a log is opened over a disk.
-/
import Derived.Test.YtjiicmkafidldaaGreatWalLoad
namespace Go.Proofs.YtjiicmkafidldaaGreat.Wal
set_option linter.unusedVariables false
set_option maxRecDepth 100000
open Go.RowKit Base WalMath
open Go.Proofs.YtjiicmkafidldaaGreat.Disk (Turn Out DiskAt I64 Fits own_same own_type)
open DiskMath (Fl Dk)
set_option linter.ambiguousOpen false

/-- the segments are those of the first files -/
theorem load_files {f0 : Int} : ∀ {fs : List Fl} {j : Nat} {acc segs : List Sg}, WalMath.load f0 j acc fs = some segs → ∃ k, k ≤ fs.length ∧ segs = acc ++ (fs.take k).map segOf
  | [], j, acc, segs, h => by
    unfold WalMath.load at h
    injection h with h
    exact ⟨0, Nat.le_refl _, by simp [h]⟩
  | x :: r, j, acc, segs, h => by
    unfold WalMath.load at h
    split at h
    · cases h
    · split at h
      · injection h with h
        exact ⟨0, Nat.zero_le _, by simp [h]⟩
      · split at h
        · cases h
        · obtain ⟨k, hk, e⟩ := load_files h
          exact ⟨k + 1, by simpa using hk, by rw [e, List.take_succ_cons, List.map_cons, List.append_assoc]; rfl⟩
theorem loads_files {fs : List Fl} {segs : List Sg} (h : loads fs = some segs) : ∃ k, k ≤ fs.length ∧ segs = (fs.take k).map segOf := by
  rw [loads_eq] at h
  obtain ⟨k, hk, e⟩ := load_files h
  exact ⟨k, hk, by simpa using e⟩

set_option maxHeartbeats 3200000 in
theorem mend_any (T : Nat → Prop) (g gd : Nat) (l : Lg) (d : Dk) (fs : List Fl) (m k M : Nat) (A : Option Addr) (n c : Nat) (w : World) (h : Both T w g gd l d) (hT : New T w) (hc : Cap k M d) (hk : k ≤ 10000000) (ho : ∀ s ∈ l.segs, SgOk s) (hm : m ≤ fs.length) (hsg : l.segs = (fs.take m).map segOf) (hN : fs.length ≤ 16384) (hfs : ∀ x ∈ fs, 0 ≤ x.id ∧ x.id < 16384)
    (hr : Row w w.heap.size 1 A n c (iv (fs.map (·.id)))) :
    Calls Tryz.prog 36 #[.pointer (some ⟨g, 0, none⟩), .slice A n c] w (Did T w g gd (.int .i64 (mend d fs l.segs).1) l (mend d fs l.segs).2) := by
  have hfn : fs.length = n := by have := hr.len; rw [iv_length, List.length_map, Nat.mul_one] at this; exact this
  have hsl : l.segs.length = m := by rw [hsg, List.length_map, List.length_take]; omega
  have hrle := hr.le
  obtain ⟨F, hdk, hF, HK⟩ := h.disk hT
  have HD := Lib.hid hdk
  have HNT := Lib.hid hT
  have HFt := Lib.hid (cap_fits hc (by omega))
  have HB := Lib.hid h
  obtain ⟨_, G, _, hlog, _⟩ := h
  have HLOG := Lib.hid hlog
  obtain ⟨Al, nl, cl, qs, lp, hL⟩ := hlog
  have c0 := hL.cells.1
  have c1 := hL.cells.2.1
  have hnl := hL.len
  rw [hsl] at hnl
  subst hnl
  generalize hmd : mend d fs l.segs = r
  have HMD := Lib.hid hmd
  clear hmd hdk hF hT hc
  by_cases hlt : m < n
  · have hx := List.getElem?_eq_getElem (l := fs) (i := m) (by omega)
    obtain ⟨x, hxe⟩ : ∃ x, x = fs[m]'(by omega) := ⟨_, rfl⟩
    rw [← hxe] at hx
    have HE := Lib.hid (show r = DiskMath.remove d x.id by rw [← HMD.out, mend, hsl, hx])
    obtain ⟨b1, o1, rfl, hb1, hc1⟩ := Row.num hr hlt
    have y1 : w.cell? ⟨b1, o1 + m, none⟩ = some (.int .i64 x.id) := by
      rw [hc1, List.getD_eq_getElem?_getD, List.getElem?_map, hx]
      rfl
    clear hL hr hc1 hx hxe hsg hsl ho hfs HMD hfn
    have hd1 : decide ((m : Int) < (n : Int)) = true := by simp; omega
    go_enter Tryz.func36, Tryz.ntmps36
    go_wp2
    go_still_tail 8, (by kernel_rfl)
    go_wp2_with fail
    refine (Disk.remove_any F gd d x.id _ (HD.out.drewN 1) HFt.out).mono ?_
    rintro e w1 ⟨rfl, hd1, ht1⟩
    have HR := Lib.hid (HK.out w1 _ hd1 ⟨ht1.os, ht1.tape, ht1.output, ht1.size, ht1.block⟩)
    clear hd1 ht1
    go_wp2
    go_ret
    rw [HE.out]
    exact ⟨rfl, HR.out.1, HR.out.2⟩
  · obtain rfl : m = n := by omega
    have hnone : fs[m]? = none := List.getElem?_eq_none (by omega)
    rcases List.eq_nil_or_concat l.segs with hnil | ⟨pre, s, hcon⟩
    · have HE := Lib.hid (show r = (0, d) by rw [← HMD.out, mend, hsl, hnone]; simp [hnil])
      rw [hnil] at hsl
      obtain rfl : 0 = m := hsl
      clear hL hr hsg ho hfs HMD hnone hnil
      go_enter Tryz.func36, Tryz.ntmps36
      go_wp2
      go_ret
      rw [HE.out]
      exact ⟨rfl, HB.out, Turn.refl _ _⟩
    · rw [List.concat_eq_append] at hcon
      have hgl : l.segs.getLast? = some s := by rw [hcon]; simp
      have hpl : pre.length + 1 = m := by rw [← hsl, hcon]; simp
      have hsk := ho s (by rw [hcon]; simp)
      have hEq : r = if (s.size : Int) < DiskMath.size d s.file then DiskMath.cut d s.file s.size else (0, d) := by rw [← HMD.out, mend, hsl, hnone, hgl]
      have HEq := Lib.hid hEq
      obtain ⟨b2, q, rfl, _, _, _, hpn, ⟨hnc, hcm⟩, _, k0, k1, k2, k3⟩ := hL.at_ (k := pre.length) (s := s) (by rw [hcon]; simp)
      -- the last file's number
      have hfl : (fs.map (·.id)).getD pre.length 0 = s.file := by
        have h1 : l.segs[pre.length]? = some s := by rw [hcon]; simp
        rw [hsg, List.getElem?_map, List.getElem?_take, if_pos (by omega)] at h1
        rw [List.getD_eq_getElem?_getD, List.getElem?_map]
        cases hq : fs[pre.length]? with
        | none => rw [hq] at h1; cases h1
        | some x =>
          rw [hq] at h1
          injection h1 with h1
          rw [← h1]
          rfl
      obtain ⟨b1, o1, rfl, hb1, hc1⟩ := Row.num hr (k := pre.length) (by omega)
      have y1 : w.cell? ⟨b1, o1 + pre.length, none⟩ = some (.int .i64 s.file) := by rw [hc1, hfl]
      have HTN := Lib.hid (istorn_any F G g gd l d s.file s.first q.A s.rows.length q.c s.size w HLOG.out HD.out ⟨by have := hsk.1; omega, by have := hsk.2.1; omega⟩)
      have hz := hsk.2.2.2.2.1
      clear hL hr hc1 hsg hsl ho hfs HMD hnone hgl hcon hsk hEq hfl
      generalize hpp : pre.length = pp at *
      have hwp : IntKind.i64.wrap ((m : Int) - 1) = pp := by rw [IntWalk.i64_in _ (by omega)]; omega
      have hd1 : decide (0 < (m : Int)) = true := by simp; omega
      have hm0 : 0 < m := by omega
      clear hpl hpp hlt
      by_cases htn : (s.size : Int) < DiskMath.size d s.file
      · have HE := Lib.hid (show r = DiskMath.cut d s.file s.size by rw [HEq.out, if_pos htn])
        have hdt : decide ((s.size : Int) < DiskMath.size d s.file) = true := by simpa using htn
        rw [hdt] at HTN
        clear htn hdt HEq
        generalize s.file = f at *
        generalize s.first = x at *
        generalize s.rows.length = rr at *
        generalize s.size = z at *
        go_enter Tryz.func36, Tryz.ntmps36
        go_wp2_with fail
        refine HTN.out.mono ?_
        rintro e w1 ⟨rfl, hb1'⟩
        replace c0 := held_cell hb1' c0
        replace c1 := held_cell hb1' c1
        replace k3 := held_cell hb1' k3
        replace y1 := held_cell hb1' y1
        have HD1 := Lib.hid (HD.out.new hb1')
        have HBw := Lib.hid hb1'
        have HB1 := Lib.hid (HB.out.new hb1')
        clear hb1' k0 k1 k2
        go_wp2
        obtain ⟨F2, hdk2, hF2, HK2⟩ := HB1.out.disk (HNT.out.le HBw.out.size)
        have HD2 := Lib.hid hdk2
        clear hdk2 hF2
        go_still_tail 19, (by kernel_rfl)
        go_wp2_with fail
        refine (Disk.cut_any F2 gd d f z _ (HD2.out.drewN 1) HFt.out).mono ?_
        rintro e w2 ⟨rfl, hd2, ht2⟩
        have HR := Lib.hid (HK2.out w2 _ hd2 ⟨ht2.os, ht2.tape, ht2.output, ht2.size, ht2.block⟩)
        clear hd2 ht2
        go_wp2
        go_ret
        rw [HE.out]
        exact ⟨rfl, HR.out.1, (Turn.new HBw.out).trans (F' := T) HR.out.2 fun _ hi => .inl hi⟩
      · have HE := Lib.hid (show r = (0, d) by rw [HEq.out, if_neg htn])
        have hdt : decide ((s.size : Int) < DiskMath.size d s.file) = false := by simpa using htn
        rw [hdt] at HTN
        clear htn hdt HEq
        generalize s.file = f at *
        generalize s.first = x at *
        generalize s.rows.length = rr at *
        generalize s.size = z at *
        go_enter Tryz.func36, Tryz.ntmps36
        go_wp2_with fail
        refine HTN.out.mono ?_
        rintro e w1 ⟨rfl, hb1'⟩
        have HBw := Lib.hid hb1'
        clear hb1'
        go_wp2
        go_ret
        rw [HE.out]
        exact ⟨rfl, HB.out.new HBw.out, Turn.new HBw.out⟩
end Go.Proofs.YtjiicmkafidldaaGreat.Wal
