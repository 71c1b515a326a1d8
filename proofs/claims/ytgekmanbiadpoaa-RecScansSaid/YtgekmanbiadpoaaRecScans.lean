/-
  The walk of the law on records one behind the other: all are there; cut off anywhere those are there that are whole.
-/
import Derived.Test.YtgekmanbiadpoaaRecAwake
import Derived.Test.YtgekmanbiadpoaaRecScan
import Derived.Test.YtgekmanbiadpoaaHelpMany
import Derived.Test.YtgekmanbiadpoaaPlayMod
import Derived.Deep.DeepCutAuto
namespace Go.Proofs.Ytgekmanbiadpoaa.Rec
open Go.RowKit Base FieldMath RecMath
open Go.Proofs.Ytgekmanbiadpoaa.Field Help
set_option linter.ambiguousOpen false

theorem ei : Elem Try.prog 43 3 1 8 (.int .i64 0) := Elem.of Try.underlying43 (by kernel_rfl) rfl (by omega)

theorem scan_val (B : Nat) (A : Option Addr) (n c : Nat) (l : List UInt8) (ls : List (List UInt8)) (k x : Nat) (w : World) (hr : Bytes w B A n c l) (hB : B ≤ w.heap.size) (hn : n ≤ 35184372088832) (h : scan l = (ls, x)) (hk : ls.length = k) :
    Calls Try.prog 17 #[.slice A n c] w fun e w' => ∃ A' c', e = .returned (.tuple #[.slice A' k c', .int .i64 x]) ∧ Lists w' w'.heap.size A' k c' ls ∧ Below w.heap.size w w' := by
  subst hk
  refine (scan_any B A n c l w hr hB hn).mono ?_
  rintro e w' ⟨A', c', he, hl, hb⟩
  rw [h] at he hl
  exact ⟨A', c', he, hl, hb⟩

def CutRel (w : World) (A : Option Addr) (c : Nat) (v : Value) (wx : World) : Prop := ∃ m ms, m ≤ 40 ∧ v = .slice A m c ∧ Lists w w.heap.size A m c ms ∧ w = wx

def iv (l : List Nat) : List Value := l.map fun x : Nat => Value.int .i64 (x : Int)
theorem iv_one (l : List Nat) : ∀ u ∈ iv l, u.oneCell' = true := by
  intro u hu
  obtain ⟨x, _, rfl⟩ := List.mem_map.1 hu
  rfl
/-- where each record ends -/
def ends (ms : List (List UInt8)) (k : Nat) : List Nat := (List.range k).map fun j => (recs (ms.take (j + 1))).length
theorem ends_succ (ms : List (List UInt8)) (k : Nat) : ends ms (k + 1) = ends ms k ++ [(recs (ms.take (k + 1))).length] := by
  unfold ends
  rw [List.range_succ, List.map_append]
  rfl
theorem ends_get (ms : List (List UInt8)) {k j : Nat} (h : j < k) : (iv (ends ms k))[j]? = some (.int .i64 ((recs (ms.take (j + 1))).length : Nat)) := by
  unfold ends iv
  rw [List.getElem?_map, List.getElem?_map, List.getElem?_range h]
  rfl

/-- on the way: k records are laid -/
def LayRel (w : World) (m : Nat) (ms : List (List UInt8)) (v1 v2 i : Value) (wr : World) : Prop :=
  ∃ (k t : Nat) (A1 : Option Addr) (c1 : Nat) (A2 : Option Addr) (c2 : Nat), k ≤ m ∧ i = .int .i64 k ∧ v1 = .slice A1 t c1 ∧ v2 = .slice A2 k c2 ∧ t ≤ 5008 * k ∧ t = (recs (ms.take k)).length ∧ (∀ p ∈ ms.take k, p.length ≤ 5000) ∧
    wr.ownsRow w.heap.size 5 1 (.slice A1 t c1) t (bv (recs (ms.take k))) ∧ wr.ownsRow w.heap.size 3 1 (.slice A2 k c2) k (iv (ends ms k)) ∧ Below w.heap.size w wr

set_option maxRecDepth 100000 in
set_option maxHeartbeats 1600000 in
theorem scans_walk (A : Option Addr) (n c : Nat) (ls : List (List UInt8)) (cut : Int) (w : World) (hr : Lists w w.heap.size A n c ls) :
    Calls Try.prog 7 #[.slice A n c, .int .i64 cut] w fun e w' => e = .returned (.bool true) ∧ Below w.heap.size w w' := by
  have hle := hr.le
  have HR := Lib.hid hr
  clear hr
  go_enter Try.func7, Try.ntmps7
  go_upto_region 3 with fail
  go_cut [0] (fun v wx => CutRel w A c v wx)
  case first =>
    by_cases h40 : n ≤ 40
    · go_wp2_with fail
      go_meet
      exact ⟨n, ls, h40, rfl, HR.out, rfl⟩
    · go_wp2_with fail
      go_meet
      exact ⟨40, ls.take 40, by omega, rfl, HR.out.front (by omega), rfl⟩
  case rest =>
    obtain ⟨m, ms, hm, rfl, hl, rfl⟩ := hcut
    have hlm := hl.le
    have HML := Lib.hid hl.len
    have HL := Lib.hid hl
    clear hl HR
    go_wp2
    go_loopw [5, 6, 7] (fun v1 v2 i wr => LayRel w m ms v1 v2 i wr) (fun _ _ i _ => m - (intOf i).toNat)
    case atStart =>
      exact ⟨0, 0, none, 0, none, 0, by omega, rfl, rfl, rfl, by omega, rfl, fun p hp => by simp at hp, World.ownsRow_nil _ _ _ _, World.ownsRow_nil _ _ _ _, Below.refl _ _⟩
    case round =>
      obtain ⟨k, t, A1, c1, A2, c2, hk, rfl, rfl, rfl, ht, htl, hps, ho1, ho2, hbel⟩ := hrel
      have HTL := Lib.hid htl
      have HPS := Lib.hid hps
      have HO1 := Lib.hid ho1
      have HO2 := Lib.hid ho2
      have HB := Lib.hid hbel
      clear htl hps ho1 ho2 hbel
      by_cases hlt : k < m
      · obtain ⟨b, off, Ap, np, cp, p, rfl, hb, hcell, hy, hget, htake⟩ := (HL.out.below HB.out).at_ hlt
        have HY := Lib.hid hy
        have HT := Lib.hid htake
        have hpl := hy.len
        have HPL := Lib.hid hpl
        clear hy htake hget hpl
        by_cases hbig : 5000 < np
        · go_wp2_with (go_at_call 12; refine (awake_any _).mono ?_; rintro e w1 ⟨rfl, hb1⟩; have HB1 := Lib.hid hb1; clear hb1)
          go_ret
          exact ⟨rfl, held_two HB.out HB1.out⟩
        · have hnp : np ≤ 5000 := by omega
          have HPUT := Lib.hid (show put p = .ok (recB p) by unfold put; rw [if_neg (by rw [HPL.out]; omega)])
          have HRL := Lib.hid (show (recB p).length = 8 + np by rw [recB_length, HPL.out])
          go_wp2_with fail
          refine (put_val w.heap.size _ _ _ p _ (8 + np) _ HY.out HB.out.size HPUT.out HRL.out).mono ?_
          rintro e w1 ⟨A3, c3, rfl, ho3, hb3⟩
          have HB3 := Lib.hid (held_two HB.out hb3)
          have HY3 := Lib.hid (Bytes.of_own ho3)
          have HO13 := Lib.hid (own_keep HO1.out hb3)
          have HO23 := Lib.hid (own_keep HO2.out hb3)
          clear ho3 hb3
          go_wp2_with fail
          refine (awake_any _).mono ?_
          rintro e w2 ⟨rfl, hb4⟩
          have HB4 := Lib.hid (held_two HB3.out hb4)
          have HY4 := Lib.hid (HY3.out.below hb4)
          have HO14 := Lib.hid (own_keep HO13.out hb4)
          have HO24 := Lib.hid (own_keep HO23.out hb4)
          clear hb4 HO13 HO23 HO1 HO2
          go_wp2_with (first
            | (at_builtin
               refine wpList_append_row rfl (.tmp 47) (.tmp 48) rfl eb w.heap.size _ t (bv (recs (ms.take k))) rfl HO14.out _ A3 (8 + np) c3 (bv (recB p)) rfl HY4.out (bv_one _) (by omega) (by omega) HB4.out.size ?_
               intro A5 c5 w5 hown5 hg5 hb5
               rw [← bv_append, ← recs_snoc, ← HT.out] at hown5
               have HO25 := Lib.hid (HO24.out.kept hg5.1 (own_types HO24.out HO14.out (by decide)))
               have HO15 := Lib.hid hown5
               have HB5 := Lib.hid (HB4.out.trans hb5)
               clear hown5 hg5 hb5)
            | (at_builtin
               refine wpList_append_row rfl (.tmp 50) (.tmp 53) rfl ei w.heap.size _ k (iv (ends ms k)) rfl (HO25.out.alloc _) _ _ 1 1 [.int .i64 ((t : Int) + (8 + (np : Int)))] rfl (Row.lit w5 #[.int .i64 ((t : Int) + (8 + (np : Int)))] _ (0, 0) rfl rfl (by omega)) (fun u hu => by simp at hu; subst hu; rfl) (by omega) (by omega) (by have := HB5.out.size; simp; omega) ?_
               intro A6 c6 w6 hown6 hg6 hb6
               have HO16 := Lib.hid ((HO15.out.alloc _).kept hg6.1 (own_types HO15.out HO25.out (by decide)))
               have HO26 := Lib.hid hown6
               have HB6 := Lib.hid ((HB5.out.alloc HB5.out.size _).trans hb6)
               clear hown6 hg6 hb6)
            | fail)
          go_roundw
          case rel =>
            have hlen1 : (recs (ms.take (k + 1))).length = t + (8 + np) := by rw [HT.out, recs_snoc, List.length_append, HRL.out, ← HTL.out]
            refine ⟨k + 1, t + (8 + np), A5, c5, A6, c6, by omega, by go_num, rfl, rfl, by omega, hlen1.symm, ?_, HO16.out, ?_, HB6.out⟩
            · intro q hq
              rw [HT.out, List.mem_append] at hq
              rcases hq with hq | hq
              · exact HPS.out q hq
              · simp at hq
                subst hq
                rw [HPL.out]
                exact hnp
            · have h6 := HO26.out
              rw [ends_succ, hlen1, iv, List.map_append]
              simpa [iv] using h6
          case measure => simp [intOf]; omega
      · have hkm : k = m := by omega
        subst hkm
        have HMT := Lib.hid (show ms.take k = ms from List.take_of_length_le (by rw [HML.out]; omega))
        rw [HMT.out] at HTL HPS HO1
        clear hlt
        go_wp2_with fail
        refine (mod_any cut (t + 1) _ (by omega) (by omega)).mono ?_
        rintro e w1 ⟨rfl, rfl⟩
        have hcut := modZ_lt cut (n := t + 1) (by omega)
        generalize modZ cut (t + 1) = ct at hcut
        have HY := Lib.hid (Bytes.of_own HO1.out)
        have hyc := HY.out.le
        have hcc : (ct : Int) ≤ (c1 : Int) := by omega
        go_wp2
        go_loop [11] (fun i => ∃ j : Nat, j ≤ k ∧ i = .int .i64 j ∧ (recs (ms.take j)).length ≤ ct) (fun i => k - (intOf i).toNat)
        case atStart => exact ⟨0, by omega, rfl, by simp [recs]⟩
        case round =>
          obtain ⟨j, hj, rfl, hjc⟩ := hrel
          by_cases hjk : j < k
          · have hcell : ∃ b, A2 = some ⟨b, 0, none⟩ ∧ wr.cell? ⟨b, j, none⟩ = some (.int .i64 ((recs (ms.take (j + 1))).length : Nat)) := by
              rcases HO2.out.2 with ⟨_, h⟩ | ⟨g, cap, cur, h, _⟩
              · omega
              · simp only [Value.slice.injEq] at h
                obtain ⟨rfl, _⟩ := h
                refine ⟨g, rfl, ?_⟩
                have h1 := HO2.out.cellAt j (by omega)
                rw [h1]
                exact ends_get ms hjk
            obtain ⟨b, rfl, hcell⟩ := hcell
            generalize hx : (recs (ms.take (j + 1))).length = x at hcell
            have HX := Lib.hid hx
            clear hx
            by_cases hxc : x ≤ ct
            · go_wp2
              go_round
              case rel => exact ⟨j + 1, by omega, by go_num, by rw [HX.out]; exact hxc⟩
              case measure => simp [intOf]; omega
            · have HSC := Lib.hid (scan_recs ms (fun p hp => by have := HPS.out p hp; omega) ct j (by rw [HML.out]; exact hj) hjc (fun _ => by rw [HX.out]; omega) (by rw [← HTL.out]; omega))
              have HSZ := Lib.hid (show (recs (ms.take j)).length ≤ 5008 * k by
                have h1 := HTL.out
                have h2 : (recs ms).length = (recs (ms.take j)).length + (recs (ms.drop j)).length := by rw [← List.length_append, ← recs_append, List.take_append_drop]
                omega)
              have HJL := Lib.hid (show (ms.take j).length = j by rw [List.length_take, HML.out]; omega)
              generalize hsz : (recs (ms.take j)).length = sz at HSC HSZ hjc
              have HZ := Lib.hid hsz
              clear hsz
              by_cases hj0 : j = 0
              · subst hj0
                obtain rfl : sz = 0 := by rw [← HZ.out]; simp [recs]
                go_wp2_with fail
                refine (scan_val _ A1 ct c1 _ _ 0 0 _ (HY.out.front (by omega)) (Nat.le_refl _) (by omega) HSC.out HJL.out).mono ?_
                rintro e w2 ⟨A4, c4, rfl, hl4, hb4⟩
                have HB4 := Lib.hid (held_two HB.out hb4)
                have HL4 := Lib.hid hl4
                clear hl4 hb4
                go_wp2_with fail
                refine (awake_any _).mono ?_
                rintro e w5 ⟨rfl, hb5⟩
                have HB5 := Lib.hid (held_two HB4.out hb5)
                have HL5 := Lib.hid (HL4.out.below hb5)
                have hz5 := hb5.size
                clear hb5
                go_wp2_with fail
                refine (many_same _ _ _ _ _ _ _ _ _ HL5.out ((HL.out.below HB5.out).front (by omega)) hz5 HB5.out.size).mono ?_
                rintro e w6 ⟨rfl, hb6⟩
                have HB6 := Lib.hid (held_two HB5.out hb6)
                clear hb6
                go_wp2
                go_ret
                exact ⟨rfl, HB6.out⟩
              · obtain ⟨i, rfl⟩ : ∃ i, j = i + 1 := ⟨j - 1, by omega⟩
                have hcell2 : wr.cell? ⟨b, i, none⟩ = some (.int .i64 (sz : Nat)) := by
                  have h1 := HO2.out.cellAt i (by omega)
                  rw [h1, ends_get ms (by omega : i < k), HZ.out]
                go_wp2_with fail
                refine (scan_val _ A1 ct c1 _ _ (i + 1) sz _ (HY.out.front (by omega)) (Nat.le_refl _) (by omega) HSC.out HJL.out).mono ?_
                rintro e w2 ⟨A4, c4, rfl, hl4, hb4⟩
                have HB4 := Lib.hid (held_two HB.out hb4)
                have HL4 := Lib.hid hl4
                clear hl4 hb4
                go_wp2_with fail
                refine (awake_any _).mono ?_
                rintro e w5 ⟨rfl, hb5⟩
                have HB5 := Lib.hid (held_two HB4.out hb5)
                have HL5 := Lib.hid (HL4.out.below hb5)
                have hz5 := hb5.size
                clear hb5
                go_wp2_with fail
                refine (many_same _ _ _ _ _ _ _ _ _ HL5.out ((HL.out.below HB5.out).front (by omega)) hz5 HB5.out.size).mono ?_
                rintro e w6 ⟨rfl, hb6⟩
                have HB6 := Lib.hid (held_two HB5.out hb6)
                clear hb6
                go_wp2
                go_ret
                exact ⟨rfl, HB6.out⟩
          · have HSC := Lib.hid (scan_recs ms (fun p hp => by have := HPS.out p hp; omega) ct j (by rw [HML.out]; exact hj) hjc (fun h => by rw [HML.out] at h; omega) (by rw [← HTL.out]; omega))
            have HSZ := Lib.hid (show (recs (ms.take j)).length ≤ 5008 * k by
              have h1 := HTL.out
              have h2 : (recs ms).length = (recs (ms.take j)).length + (recs (ms.drop j)).length := by rw [← List.length_append, ← recs_append, List.take_append_drop]
              omega)
            have HJL := Lib.hid (show (ms.take j).length = j by rw [List.length_take, HML.out]; omega)
            generalize hsz : (recs (ms.take j)).length = sz at HSC HSZ hjc
            have HZ := Lib.hid hsz
            clear hsz
            by_cases hj0 : j = 0
            · subst hj0
              obtain rfl : sz = 0 := by rw [← HZ.out]; simp [recs]
              go_wp2_with fail
              refine (scan_val _ A1 ct c1 _ _ 0 0 _ (HY.out.front (by omega)) (Nat.le_refl _) (by omega) HSC.out HJL.out).mono ?_
              rintro e w2 ⟨A4, c4, rfl, hl4, hb4⟩
              have HB4 := Lib.hid (held_two HB.out hb4)
              have HL4 := Lib.hid hl4
              clear hl4 hb4
              go_wp2_with fail
              refine (awake_any _).mono ?_
              rintro e w5 ⟨rfl, hb5⟩
              have HB5 := Lib.hid (held_two HB4.out hb5)
              have HL5 := Lib.hid (HL4.out.below hb5)
              have hz5 := hb5.size
              clear hb5
              go_wp2_with fail
              refine (many_same _ _ _ _ _ _ _ _ _ HL5.out ((HL.out.below HB5.out).front (by omega)) hz5 HB5.out.size).mono ?_
              rintro e w6 ⟨rfl, hb6⟩
              have HB6 := Lib.hid (held_two HB5.out hb6)
              clear hb6
              go_wp2
              go_ret
              exact ⟨rfl, HB6.out⟩
            · obtain ⟨i, rfl⟩ : ∃ i, j = i + 1 := ⟨j - 1, by omega⟩
              have hcell2 : ∃ b, A2 = some ⟨b, 0, none⟩ ∧ wr.cell? ⟨b, i, none⟩ = some (.int .i64 (sz : Nat)) := by
                rcases HO2.out.2 with ⟨_, h⟩ | ⟨g, cap, cur, h, _⟩
                · omega
                · simp only [Value.slice.injEq] at h
                  obtain ⟨rfl, _⟩ := h
                  refine ⟨g, rfl, ?_⟩
                  have h1 := HO2.out.cellAt i (by omega)
                  rw [h1, ends_get ms (by omega : i < k), HZ.out]
              obtain ⟨b2, hA2, hcell2⟩ := hcell2
              subst hA2
              go_wp2_with fail
              refine (scan_val _ A1 ct c1 _ _ (i + 1) sz _ (HY.out.front (by omega)) (Nat.le_refl _) (by omega) HSC.out HJL.out).mono ?_
              rintro e w2 ⟨A4, c4, rfl, hl4, hb4⟩
              have HB4 := Lib.hid (held_two HB.out hb4)
              have HL4 := Lib.hid hl4
              clear hl4 hb4
              go_wp2_with fail
              refine (awake_any _).mono ?_
              rintro e w5 ⟨rfl, hb5⟩
              have HB5 := Lib.hid (held_two HB4.out hb5)
              have HL5 := Lib.hid (HL4.out.below hb5)
              have hz5 := hb5.size
              clear hb5
              go_wp2_with fail
              refine (many_same _ _ _ _ _ _ _ _ _ HL5.out ((HL.out.below HB5.out).front (by omega)) hz5 HB5.out.size).mono ?_
              rintro e w6 ⟨rfl, hb6⟩
              have HB6 := Lib.hid (held_two HB5.out hb6)
              clear hb6
              go_wp2
              go_ret
              exact ⟨rfl, HB6.out⟩
end Go.Proofs.Ytgekmanbiadpoaa.Rec
