/-
  Contract of how the statements make tables that may be an image, of any ones.
-/
import Derived.Test.YtjicdnknlfpajaaImgHelp
import Derived.Test.YtjicdnknlfpajaaImgOpen
import Derived.Test.YtjicdnknlfpajaaPlayBig
import Derived.Test.YtjicdnknlfpajaaPlayCut
import Derived.Deep.RegionHeld3
namespace Go.Proofs.Ytjicdnknlfpajaa.Img
set_option linter.unusedVariables false
set_option maxRecDepth 100000
open Go.RowKit Base FieldMath
open ImgMath
open IdxMath (Rw put put_length_le)
open Idx (rv PutR refput_any Rz)
open Go.Proofs.Ytjicdnknlfpajaa.Field (ret_bool bigZ bigZ_lt playbig_any cut_any)
set_option linter.ambiguousOpen false
set_option linter.unusedSimpArgs false

theorem rises_put {l : List Rw} {m k : Int} {v : ByteArray} (h : risesFrom m l = true) (h1 : m < k) (h2 : k ≤ 1099511627776) (h3 : v.size ≤ 32) : risesFrom m (put l k v) = true := by
  induction l generalizing m with
  | nil =>
    show risesFrom m [⟨k, v⟩] = true
    rw [rises_cons]
    simp [risesFrom, h1, h2, h3]
  | cons x r ih =>
    rw [rises_cons] at h
    simp only [Bool.and_eq_true, decide_eq_true_eq] at h
    unfold IdxMath.put
    by_cases hx : x.key < k
    · rw [if_pos hx, rises_cons]
      simp only [Bool.and_eq_true, decide_eq_true_eq]
      exact ⟨h.1, h.2.1, h.2.2.1, ih h.2.2.2 hx⟩
    · rw [if_neg hx]
      by_cases he : x.key = k
      · rw [if_pos he, rises_cons]
        simp only [Bool.and_eq_true, decide_eq_true_eq]
        exact ⟨h1, h2, h3, by rw [← he]; exact h.2.2.2⟩
      · rw [if_neg he, rises_cons]
        simp only [Bool.and_eq_true, decide_eq_true_eq]
        refine ⟨h1, h2, h3, ?_⟩
        rw [rises_cons]
        simp only [Bool.and_eq_true, decide_eq_true_eq]
        exact ⟨by omega, h.2.1, h.2.2.1, h.2.2.2⟩
theorem cut_size (s : ByteArray) : (str (s.data.toList.take 32)).size ≤ 32 := by
  show (str (s.data.toList.take 32)).data.size ≤ 32
  simp [str]
  omega
/-- tables that may be, of the call's own -/
def Rt (w wr : World) (k : Nat) (vl : Value) : Prop := ∃ A c T, vl = .slice A k c ∧ OwnTabs wr w.heap.size A k c T ∧ T.all mayTab = true ∧ Below w.heap.size w wr
def RtRel (w : World) (n : Nat) (vl vi : Value) (wr : World) : Prop := ∃ k : Nat, k ≤ n ∧ k ≤ 8 ∧ vi = .int .i64 k ∧ Rt w wr k vl
def RrRel (w0 : World) (base m : Nat) (vt vi : Value) (wr : World) : Prop := ∃ (j : Nat) (l : List Rw) (A : Option Addr) (c : Nat), j ≤ m ∧ j ≤ 40 ∧ vi = .int .i64 j ∧ vt = .slice A l.length c ∧ l.length ≤ j ∧ risesFrom 0 l = true ∧ wr.ownsRow base 97 2 (.slice A l.length c) l.length (rv l) ∧ Below w0.heap.size w0 wr
/-- what right answers -/
def RightT (w : World) (e : Ending) (w' : World) : Prop := ∃ A n c T, e = .returned (.slice A n c) ∧ OwnTabs w' w.heap.size A n c T ∧ 1 ≤ n ∧ n ≤ 8 ∧ T.all mayTab = true ∧ Below w.heap.size w w'
theorem own_nilT (w : World) {base s : Nat} (hs : s = w.heap.size) (hb : base ≤ w.heap.size) : OwnTabs (w.alloc (.cells #[.slice none 0 0] 95)) base (some ⟨s, 0, none⟩) 1 1 [[]] := by
  subst hs
  refine ⟨_, World.ownsRow_lit w #[.slice none 0 0] 1 hb (by unfold maxLen; omega) rfl, rfl, fun i v l hv hl => ?_⟩
  match i with
  | 0 =>
    simp only [List.getElem?_cons_zero, Option.some.injEq] at hv hl
    subst hv hl
    exact ⟨none, 0, 0, rfl, World.ownsRow_nil _ _ _ _⟩
  | i + 1 => simp at hl
theorem right_may {k : Int} {n : Nat} {T : List (List Rw)} (h0 : 0 ≤ k) (h1 : k ≤ 1099511627776) (hn : T.length = n) (h2 : 1 ≤ n) (h3 : n ≤ 8) (h : T.all mayTab = true) : (Im.mk k T).may = true := by rw [may_mk k T h0 h1 (by omega) (by omega), h]
theorem all_snoc {T : List (List Rw)} {l : List Rw} (h : T.all mayTab = true) (hl : l.length ≤ 40) (hr : risesFrom 0 l = true) : (T ++ [l]).all mayTab = true := by
  rw [List.all_append, h]
  simp [mayTab, hr]
  omega

set_option maxHeartbeats 12800000 in
theorem right_any (B : Nat) (A : Option Addr) (n c : Nat) (T : List (List Rw)) (w : World) (h : Tabs w B A n c T) (hB : B ≤ w.heap.size) (hs : ∀ l ∈ T, Short l) :
    Calls Try.prog 31 #[.slice A n c] w (RightT w) := by
  have hle := h.le
  have HT := Lib.hid h
  have HSH := Lib.hid hs
  clear h hs
  go_enter Try.func31, Try.ntmps31
  go_wp2
  go_loopw [3, 4, 5, 6] (fun vl vi _ _ wr => RtRel w n vl vi wr) (fun _ vi _ _ _ => n - (intOf vi).toNat)
  case atStart => exact ⟨0, by omega, by omega, rfl, none, 0, [], rfl, OwnTabs.nil_ _ _, rfl, Below.refl _ _⟩
  case round =>
    obtain ⟨k, hk, hk8, rfl, A1, c1, pre, rfl, hown, hall, hbel⟩ := hrel
    have HO := Lib.hid hown
    have HA := Lib.hid hall
    have HB := Lib.hid hbel
    have hz := hbel.size
    clear hown hall hbel
    by_cases hlt : k < n ∧ k < 8
    · obtain ⟨hkn, hk8'⟩ := hlt
      obtain ⟨b, off, A2, n2, c2, lr, rfl, hb, c0, hrs, hget, _⟩ := (HT.out.below (HB.out.mono hB)).at_ hkn
      have HRS := Lib.hid hrs
      have HSL := Lib.hid (HSH.out lr (List.mem_of_getElem? hget))
      have hle2 := hrs.le
      have l1 : (k : Int) < (n : Int) := by omega
      have l2 : (k : Int) < 8 := by omega
      clear hget hrs
      rename World => w1
      go_upto_region 7 with fail
      go_loopw [5, 6] (fun vt vi wr' => RrRel w1 w.heap.size n2 vt vi wr') (fun _ vi _ => n2 - (intOf vi).toNat)
      case atStart => exact ⟨0, [], none, 0, by omega, by omega, rfl, rfl, by simp, rfl, World.ownsRow_nil _ _ _ _, Below.refl _ _⟩
      case round =>
        obtain ⟨j, l, A5, c5, hj, hj40, rfl, rfl, hlj, hris, hown5, hbel5⟩ := hrel
        have HO5 := Lib.hid hown5
        have HB5 := Lib.hid hbel5
        have HRI := Lib.hid hris
        have e0 : wr.cell? ⟨b, off + k, none⟩ = some (.slice A2 n2 c2) := (HB5.out.cell (p := ⟨b, off + k, none⟩) (by show b < _; omega)).trans c0
        clear hown5 hbel5 hris
        by_cases hj2 : j < n2
        · by_cases hj4 : j < 40
          · obtain ⟨b2, off2, x, rfl, hb2, d0, d1, hget2, _⟩ := (HRS.out.below (HB5.out.mono (by omega))).at_ hj2
            obtain ⟨xk, xv⟩ := x
            dsimp only at d0 d1
            have hsv : xv.size ≤ 9223372036854775807 := HSL.out ⟨xk, xv⟩ (List.mem_of_getElem? hget2)
            have l3 : (j : Int) < (n2 : Int) := by omega
            have l4 : (j : Int) < 40 := by omega
            have hz5 := HB5.out.size
            have C1 : Hid (∀ wc, Calls Try.prog 32 #[.int .i64 xk, .int .i64 1099511627776] wc fun e w' => e = .returned (.int .i64 ((bigZ xk 1099511627776 : Nat) : Int)) ∧ wc = w') := fun wc => playbig_any xk 1099511627776 wc (by omega) (by omega)
            have C2 : Hid (∀ wc, Calls Try.prog 64 #[.string xv, .int .i64 32] wc fun e w' => e = .returned (.string (str (xv.data.toList.take 32))) ∧ wc = w') := fun wc => cut_any xv 32 wc hsv (by omega)
            have hz1 := bigZ_lt xk (n := 1099511627776) (by omega)
            have hz2 := cut_size xv
            generalize bigZ xk 1099511627776 = z at C1 hz1
            generalize str (xv.data.toList.take 32) = s2 at C2 hz2
            have HRZ := Lib.hid (Rz.of_own HO5.out)
            have hwr : IntKind.i64.wrap (1 + (z : Int)) = 1 + (z : Int) := IntWalk.i64_in _ (by omega)
            have C3 : Hid (∀ wc, Below wr.heap.size wr wc → Calls Try.prog 63 #[.slice A5 l.length c5, .int .i64 (IntKind.i64.wrap (1 + (z : Int))), .string s2] wc (PutR wc l (1 + (z : Int)) s2)) := fun wc hb => by rw [hwr]; exact refput_any wr.heap.size A5 l.length c5 l (1 + (z : Int)) s2 wc (HRZ.out.below hb) hb.size (by omega)
            clear hwr
            have HS : Hid (∀ wc, Below wr.heap.size wr wc → wc.cell? ⟨b, off + k, none⟩ = some (.slice (some ⟨b2, off2, none⟩) n2 c2) ∧ wc.cell? ⟨b2, off2 + j * 2, none⟩ = some (.int .i64 xk) ∧ wc.cell? ⟨b2, off2 + j * 2 + 1, none⟩ = some (.string xv) ∧ Below wr.heap.size wr wc) :=
              fun wc hbx => ⟨(hbx.cell (p := ⟨b, off + k, none⟩) (by show b < _; omega)).trans e0, (hbx.cell (p := ⟨b2, off2 + j * 2, none⟩) (by show b2 < _; omega)).trans d0, (hbx.cell (p := ⟨b2, off2 + j * 2 + 1, none⟩) (by show b2 < _; omega)).trans d1, hbx⟩
            have HPL := Lib.hid (put_length_le l (1 + (z : Int)) s2)
            have HPR := Lib.hid (rises_put (k := 1 + (z : Int)) HRI.out (by omega) (by omega) hz2)
            clear hget2
            obtain ⟨zi, hzi⟩ : ∃ zi : Int, zi = 1 + (z : Int) := ⟨_, rfl⟩
            go_upto_region 9 with fail
            go_region_held3 (fun w' => w'.cell? ⟨b, off + k, none⟩ = some (.slice (some ⟨b2, off2, none⟩) n2 c2) ∧ w'.cell? ⟨b2, off2 + j * 2, none⟩ = some (.int .i64 xk) ∧ w'.cell? ⟨b2, off2 + j * 2 + 1, none⟩ = some (.string xv) ∧ Below wr.heap.size wr w')
              (first
                | exact HS.out _ ((Below.refl _ _).drew)
                | (go_split_ands; exact HS.out _ (held_call (by assumption) hb9))
                | (go_split_ands; exact HS.out _ (by assumption)))
              (first
                | (go_at_call 32; refine (C1.out _).mono ?_; rintro e wb ⟨rfl, rfl⟩)
                | (go_at_call 64; refine (C2.out _).mono ?_; rintro e wb ⟨rfl, rfl⟩)
                | (go_at_call 63; go_split_ands; refine (C3.out _ (by assumption)).mono ?_; rintro e w9 ⟨A9, c9, rfl, ho9, hb9⟩)
                | fail)
            all_goals (
              have HZ : Hid (RrRel w1 w.heap.size n2 (.slice A9 (put l (1 + (z : Int)) s2).length c9) (.int .i64 ((j + 1 : Nat) : Int)) w9) := by
                go_split_ands
                have hb := (by assumption : Below wr.heap.size wr w9)
                refine ⟨j + 1, _, A9, c9, by omega, by omega, rfl, rfl, by have := HPL.out; omega, HPR.out, own_mono ho9 (by show _ ≤ wr.heap.size; omega), held_two HB5.out hb⟩
              clear ho9 hb9
              go_wp2
              go_roundw
              case rel => exact HZ.out
              case measure => simp [intOf]; omega)
          · have l4 : ¬ (j : Int) < 40 := by omega
            have l3 : (j : Int) < (n2 : Int) := by omega
            have hz5 := HB5.out.size
            have HOk := Lib.hid (HO.out.keep HB5.out)
            have HO6 := Lib.hid (HOk.out.keep ((Below.refl _ _).alloc (Nat.le_refl _) (.cells #[.slice A5 l.length c5] 95)))
            have HL6 := Lib.hid (own_keep HO5.out ((Below.refl _ _).alloc (Nat.le_refl _) (.cells #[.slice A5 l.length c5] 95)))
            have HBq := Lib.hid (held_two HB.out HB5.out)
            obtain ⟨vs, hv1, hv2, hv3⟩ := HO6.out
            have HV1 := Lib.hid hv1
            have HV2 := Lib.hid hv2
            have HV3 := Lib.hid hv3
            clear hv1 hv2 hv3
            have hl40 : l.length ≤ 40 := by omega
            have HALL := Lib.hid (all_snoc HA.out hl40 HRI.out)
            generalize l.length = N5 at *
            go_wp2_with (first
              | (at_builtin
                 refine wpList_append_row rfl (.tmp 54) (.tmp 56) rfl etab w.heap.size (.slice A1 k c1) k vs rfl HV1.out (wr.heap.size + 1) (some ⟨wr.heap.size, 0, none⟩) 1 1 [.slice A5 N5 c5] rfl (one_slice wr A5 N5 c5 rfl) (fun u hu => by rw [List.mem_singleton] at hu; subst hu; rfl) (by omega) (by omega) (by simp; omega) ?_
                 intro A6 c6 w6 hown6 hg6 hb6
                 have HO7 := Lib.hid (OwnTabs.snoc HV1.out HV2.out HV3.out HL6.out hown6 hg6.1)
                 have HB6 : Hid (Below w.heap.size w w6) := (HBq.out.alloc HBq.out.size _).trans hb6
                 clear hown6 hg6 hb6)
              | fail)
            go_roundw
            case rel => exact ⟨k + 1, by omega, by omega, by go_num, A6, c6, pre ++ [l], rfl, HO7.out, HALL.out, HB6.out⟩
            case measure => simp [intOf]; omega
        · have l3 : ¬ (j : Int) < (n2 : Int) := by omega
          have hz5 := HB5.out.size
          have HOk := Lib.hid (HO.out.keep HB5.out)
          have HO6 := Lib.hid (HOk.out.keep ((Below.refl _ _).alloc (Nat.le_refl _) (.cells #[.slice A5 l.length c5] 95)))
          have HL6 := Lib.hid (own_keep HO5.out ((Below.refl _ _).alloc (Nat.le_refl _) (.cells #[.slice A5 l.length c5] 95)))
          have HBq := Lib.hid (held_two HB.out HB5.out)
          obtain ⟨vs, hv1, hv2, hv3⟩ := HO6.out
          have HV1 := Lib.hid hv1
          have HV2 := Lib.hid hv2
          have HV3 := Lib.hid hv3
          clear hv1 hv2 hv3
          have hl40 : l.length ≤ 40 := by omega
          have HALL := Lib.hid (all_snoc HA.out hl40 HRI.out)
          generalize l.length = N5 at *
          go_wp2_with (first
            | (at_builtin
               refine wpList_append_row rfl (.tmp 54) (.tmp 56) rfl etab w.heap.size (.slice A1 k c1) k vs rfl HV1.out (wr.heap.size + 1) (some ⟨wr.heap.size, 0, none⟩) 1 1 [.slice A5 N5 c5] rfl (one_slice wr A5 N5 c5 rfl) (fun u hu => by rw [List.mem_singleton] at hu; subst hu; rfl) (by omega) (by omega) (by simp; omega) ?_
               intro A6 c6 w6 hown6 hg6 hb6
               have HO7 := Lib.hid (OwnTabs.snoc HV1.out HV2.out HV3.out HL6.out hown6 hg6.1)
               have HB6 : Hid (Below w.heap.size w w6) := (HBq.out.alloc HBq.out.size _).trans hb6
               clear hown6 hg6 hb6)
            | fail)
          go_roundw
          case rel => exact ⟨k + 1, by omega, by omega, by go_num, A6, c6, pre ++ [l], rfl, HO7.out, HALL.out, HB6.out⟩
          case measure => simp [intOf]; omega
    · by_cases hk0 : k = 0
      · subst hk0
        have HBB : Hid (Below w.heap.size w (wr.alloc (.cells #[.slice none 0 0] 95))) := HB.out.alloc HB.out.size _
        have HOO := Lib.hid (own_nilT wr (s := wr.heap.size) rfl hz)
        have hn0 : n = 0 := by omega
        subst hn0
        go_wp2
        go_ret
        exact ⟨_, 1, 1, [[]], rfl, HOO.out, by omega, by omega, rfl, HBB.out⟩
      · have hk1 : ((k : Int) == 0) = false := by simp; omega
        have hk2 : ¬ (k : Int) = 0 := by omega
        by_cases hkn : k < n
        · have l1 : (k : Int) < (n : Int) := by omega
          have l2 : ¬ (k : Int) < 8 := by omega
          go_wp2
          go_ret
          exact ⟨A1, k, c1, pre, rfl, HO.out, by omega, hk8, HA.out, HB.out⟩
        · have l1 : ¬ (k : Int) < (n : Int) := by omega
          go_wp2
          go_ret
          exact ⟨A1, k, c1, pre, rfl, HO.out, by omega, hk8, HA.out, HB.out⟩
end Go.Proofs.Ytjicdnknlfpajaa.Img
