/-
  Contracts of slices.CompactFunc at rows in order in a block of the call's own, and of slices.Clone at rows.
-/
import Derived.Test.YtngncalbglbjdaaIdxFind
namespace Go.Proofs.Ytngncalbglbjdaa.Idx
set_option linter.unusedVariables false
set_option maxRecDepth 100000
open Go.RowKit Base IdxMath
open Go.Sort (grow)
set_option linter.ambiguousOpen false
set_option linter.unusedSimpArgs false

theorem same_grown (x y : Rw) (wr : World) (n : Nat) (os : Array Obj) : Calls Try.prog 50 #[.agg #[.int .i64 x.key, .string x.val], .agg #[.int .i64 y.key, .string y.val]] (grow (wr.drewN n) os) fun e w'' => e = .returned (.bool (decide (x.key = y.key))) ∧ ∃ p : GrownBy, w'' = grow (wr.drewN p.n) p.os :=
  Calls.grown_of (samekey_any x y _)
theorem cpt_take {l : List Rw} {p : Nat} {x y : Rw} (hp : 0 < p) (hx : l[p - 1]? = some x) (hy : l[p]? = some y) : cpt (l.take (p + 1)) = cpt (l.take p) ++ if x.key = y.key then [] else [y] := by
  obtain ⟨hpl, rfl⟩ := List.getElem?_eq_some_iff.1 hy
  rw [List.take_succ_eq_append_getElem hpl, cpt, dd_snoc]
  have : last none (l.take p) = some x.key := by
    unfold last
    have e : (l.take p).getLast? = some x := by
      rw [List.getLast?_eq_getElem?, List.length_take, List.getElem?_take_of_lt (by omega), show min p l.length - 1 = p - 1 by omega]
      exact hx
    rw [e]
  rw [this]
  by_cases h : x.key = l[p].key
  · simp [h, cpt]
  · simp [h, cpt]
theorem cpt_one (l : List Rw) (h : 0 < l.length) : (cpt (l.take 1)).length = 1 ∧ cpt (l.take 1) = l.take 1 := by
  cases l with
  | nil => simp at h
  | cons x r => simp [cpt, dd]
theorem cpt_short {l : List Rw} (h : l.length < 2) : cpt l = l := by
  match l, h with
  | [], _ => rfl
  | [x], _ => rfl

theorem Arr.cleared {w : World} {b c : Nat} {C Z : List Rw} (h : Arr w b c (C ++ Z)) : Arr (w.setCells b (C.length * 2) (rv (List.replicate Z.length noRw))) b c C := by
  obtain ⟨cur, h1, h2, h3, h4, h5⟩ := h
  rw [List.length_append] at h2 h5
  obtain ⟨cs', k1, k2, k3⟩ := lay_cells (o := C.length * 2) (vs := rv (List.replicate Z.length noRw)) h1 (by rw [rv_length, List.length_replicate]; omega)
  refine ⟨cs', k1, by omega, h3, by omega, ?_⟩
  have e : cur.toList.take (C.length * 2) = rv C := by
    have := congrArg (List.take (C.length * 2)) h5
    rw [List.take_take, Nat.min_eq_left (by omega), rv_take, List.take_left' rfl] at this
    exact this
  rw [k3, e, List.append_assoc]
  exact List.take_left' (rv_length C)
def DupRel (w : World) (b c : Nat) (l : List Rw) (v : Value) (wr : World) : Prop :=
  ∃ i : Nat, v = .int .i64 i ∧ 1 ≤ i ∧ i ≤ l.length ∧ cpt (l.take i) = l.take i ∧ Arr wr b c l ∧ w.grownBy wr (some b)
def PackRel (w : World) (b c i0 : Nat) (l : List Rw) (vi v2 : Value) (wr : World) : Prop :=
  ∃ (i k : Nat) (J : List Rw), vi = .int .i64 i ∧ v2 = .int .i64 k ∧ 1 ≤ k ∧ i0 + k ≤ l.length ∧ (cpt (l.take (i0 + k))).length = i ∧ 1 ≤ i ∧ i + J.length = i0 + k - 1 ∧ Arr wr b c (cpt (l.take (i0 + k)) ++ J ++ l.drop (i0 + k - 1)) ∧ w.grownBy wr (some b)
set_option maxHeartbeats 6400000 in
theorem compact_any (b c n : Nat) (l : List Rw) (w : World) (h : Arr w b c l) (hn : n = l.length) (hsz : n ≤ 1099511627776) :
    Calls Try.prog 49 #[.slice (some ⟨b, 0, none⟩) n c, .func (.func 50) #[] #[]] w fun e w' => e = .returned (.slice (some ⟨b, 0, none⟩) (cpt l).length c) ∧ Arr w' b c (cpt l) ∧ w.grownBy w' (some b) := by
  have hle := h.le
  rw [← hn] at hle
  have HA := Lib.hid h
  have HN := Lib.hid hn
  clear h
  by_cases h2 : n < 2
  · have HE := Lib.hid (cpt_short (l := l) (by omega))
    clear hn
    go_enter Try.func49, Try.ntmps49
    go_wp2
    go_ret
    exact ⟨by rw [HE.out, ← HN.out]; rfl, by rw [HE.out]; exact HA.out, World.grownBy.refl _ _⟩
  · have S0 : Hid (DupRel w b c l (.int .i64 1) w) := ⟨1, rfl, Nat.le_refl _, by omega, (cpt_one l (by omega)).2, HA.out, World.grownBy.refl _ _⟩
    have h2' : 2 ≤ n := by omega
    have h2d : decide ((n : Int) < 2) = false := decide_eq_false (by omega)
    clear hn
    go_enter Try.func49, Try.ntmps49
    go_wp2
    go_loopw [5] (fun v wr => DupRel w b c l v wr) (fun v _ => n - (intOf v).toNat)
    case atStart => exact S0.out
    case round =>
      obtain ⟨i, rfl, h1, hil, hct, harr, hg⟩ := hrel
      rw [← HN.out] at hil
      have HG := Lib.hid hg
      have HCT := Lib.hid hct
      have mixed : Try.prog.follows .mixedOrders = true := by kernel_rfl
      clear hg hct
      by_cases hlt : i < n
      · obtain ⟨ip, rfl⟩ : ∃ ip, i = ip + 1 := ⟨i - 1, by omega⟩
        obtain ⟨x, hx⟩ : ∃ x, l[ip]? = some x := ⟨_, List.getElem?_eq_getElem (by rw [← HN.out]; omega)⟩
        obtain ⟨y, hy⟩ : ∃ y, l[ip + 1]? = some y := ⟨_, List.getElem?_eq_getElem (by rw [← HN.out]; omega)⟩
        obtain ⟨c0, c1⟩ := harr.got hx
        obtain ⟨c2, c3⟩ := harr.got hy
        have hc := same_grown y x wr
        have HT := Lib.hid (cpt_take (p := ip + 1) (by omega) hx hy)
        have HXY := Lib.hid (And.intro hx hy)
        have HAR := Lib.hid harr
        have l1 : (ip : Int) + 1 < (n : Int) := by omega
        have l2 : (ip : Int) < (n : Int) := by omega
        have l3 : (0 : Int) ≤ (ip : Int) + 1 := by omega
        have l4 : ((ip : Int) + 1).toNat = ip + 1 := by omega
        have l5 : IntKind.i64.wrap (ip : Int) = (ip : Int) := by rw [IntKind.wrap_i64]; omega
        clear hx hy harr
        by_cases hxy : x.key = y.key
        · have hd : decide (y.key = x.key) = true := decide_eq_true hxy.symm
          rw [hd] at hc
          have HC1 := Lib.hid (show cpt (l.take (ip + 1 + 1)) = l.take (ip + 1) by rw [HT.out, if_pos hxy, List.append_nil, HCT.out])
          have S1 : Hid (∀ nq osq, PackRel w b c (ip + 1) l (.int .i64 ((ip : Int) + 1)) (.int .i64 1) (grow (wr.drewN nq) osq)) := fun nq osq =>
            ⟨ip + 1, 1, [], rfl, rfl, Nat.le_refl _, by rw [← HN.out]; omega, by rw [HC1.out, List.length_take, ← HN.out]; omega, by omega, by simp, by
              rw [HC1.out, List.append_nil, show ip + 1 + 1 - 1 = ip + 1 by omega, List.take_append_drop]
              exact HAR.out.grown _ _, only_grow HG.out _ _⟩
          have l6 : ip + 1 ≤ c := by omega
          have l7 : ¬ c = ip + 1 := by omega
          have l8 : (ip : Int) + 1 ≤ (n : Int) := by omega
          obtain ⟨m, em⟩ : ∃ m, n - (ip + 1) = m := ⟨_, rfl⟩
          have HM := Lib.hid (show n = ip + 1 + m by omega)
          have l9 : m ≤ n := by omega
          clear hd hxy
          go_wp2_with fail
          go_quiet_grown (first | (go_at_call 50; exact hc _ _))
          have S2 := Lib.hid (S1.out nq osq)
          clear c0 c1 c2 c3 hc S1
          generalize grow (wr.drewN nq) osq = wq at *
          go_wp2
          go_loopw [5, 7] (fun vi vk wr => PackRel w b c (ip + 1) l vi vk wr) (fun _ vk _ => n - (intOf vk).toNat)
          case atStart => exact S2.out
          case round =>
            obtain ⟨i, k, J, rfl, rfl, hk1, hkl, hci, hi1, hJ, harr, hg⟩ := hrel
            rw [← HN.out] at hkl
            have HG2 := Lib.hid hg
            have HCI := Lib.hid hci
            have HJ := Lib.hid hJ
            clear hg hci hJ
            by_cases hkm : k < m
            · obtain ⟨kp, rfl⟩ : ∃ kp, k = kp + 1 := ⟨k - 1, by omega⟩
              have hm := HM.out
              have eP : ip + 1 + (kp + 1) - 1 = ip + 1 + kp := by omega
              obtain ⟨x, hx⟩ : ∃ x, l[ip + 1 + kp]? = some x := ⟨_, List.getElem?_eq_getElem (by rw [← HN.out]; omega)⟩
              obtain ⟨y, hy⟩ : ∃ y, l[ip + 1 + kp + 1]? = some y := ⟨_, List.getElem?_eq_getElem (by rw [← HN.out]; omega)⟩
              have hd : l.drop (ip + 1 + kp) = x :: y :: l.drop (ip + 1 + kp + 1 + 1) := by
                obtain ⟨hp1, e1⟩ := List.getElem?_eq_some_iff.1 hx
                obtain ⟨hp2, e2⟩ := List.getElem?_eq_some_iff.1 hy
                rw [List.drop_eq_getElem_cons hp1, List.drop_eq_getElem_cons hp2, e1, e2]
              have hd2 : l.drop (ip + 1 + kp + 1) = y :: l.drop (ip + 1 + kp + 1 + 1) := by
                obtain ⟨hp2, e2⟩ := List.getElem?_eq_some_iff.1 hy
                rw [List.drop_eq_getElem_cons hp2, e2]
              have HT2 := Lib.hid (cpt_take (p := ip + 1 + kp + 1) (by omega) hx hy)
              rw [eP, hd] at harr
              have hCl : (cpt (l.take (ip + 1 + (kp + 1)))).length = i := HCI.out
              have hJl := HJ.out
              rw [eP] at hJl
              have HCL := Lib.hid hCl
              have HJL := Lib.hid hJl
              have HD2 := Lib.hid hd2
              rw [show ip + 1 + (kp + 1) = ip + 1 + kp + 1 by omega] at harr hCl HCL
              generalize hC : cpt (l.take (ip + 1 + kp + 1)) = C at harr hCl HCL HT2
              have HC := Lib.hid hC
              have gx : (C ++ J ++ x :: y :: l.drop (ip + 1 + kp + 1 + 1))[ip + 1 + kp]? = some x := get_app (by rw [List.length_append]; omega)
              have gy : (C ++ J ++ x :: y :: l.drop (ip + 1 + kp + 1 + 1))[ip + 1 + kp + 1]? = some y := by
                have := get_app (p := C ++ J ++ [x]) (r := l.drop (ip + 1 + kp + 1 + 1)) (x := y) (i := ip + 1 + kp + 1) (by rw [List.length_append, List.length_append, List.length_singleton]; omega)
                simpa using this
              have q1 : (ip + 1) * 2 + kp * 2 = (ip + 1 + kp) * 2 := by omega
              have q2 : (ip + 1) * 2 + (kp + 1) * 2 = (ip + 1 + kp + 1) * 2 := by omega
              obtain ⟨c0, c1⟩ := harr.got gx
              obtain ⟨c2, c3⟩ := harr.got gy
              have hc := same_grown y x wr
              obtain ⟨z, J', hzJ⟩ : ∃ z J', J ++ [x] = z :: J' := by
                cases J with
                | nil => exact ⟨x, [], rfl⟩
                | cons a r => exact ⟨a, r ++ [x], rfl⟩
              have hzl : J'.length = J.length := by have := congrArg List.length hzJ; simpa using this.symm
              have gz : (C ++ J ++ x :: y :: l.drop (ip + 1 + kp + 1 + 1)) = C ++ z :: (J' ++ y :: l.drop (ip + 1 + kp + 1 + 1)) := by
                have := congrArg (fun t => C ++ (t ++ y :: l.drop (ip + 1 + kp + 1 + 1))) hzJ
                simpa using this
              have HGY := Lib.hid gy
              have HGZ := Lib.hid (And.intro hzJ (And.intro hzl gz))
              have HAR2 := Lib.hid harr
              have r1 : (kp : Int) + 1 < (m : Int) := by omega
              have r2 : (kp : Int) < (m : Int) := by omega
              have r3 : (0 : Int) ≤ (kp : Int) + 1 := by omega
              have r4 : ((kp : Int) + 1).toNat = kp + 1 := by omega
              have r5 : IntKind.i64.wrap (kp : Int) = (kp : Int) := by rw [IntKind.wrap_i64]; omega
              have r6 : (i : Int) < (n : Int) := by omega
              have HFIN := Lib.hid (show ip + 1 + (kp + 1) + 1 ≤ l.length by rw [← HN.out]; omega)
              clear harr hx hy hd hd2 hC hCl hJl gx gy gz hzJ hzl eP hm
              by_cases hxy : x.key = y.key
              · have hdd : decide (y.key = x.key) = true := decide_eq_true hxy.symm
                rw [hdd] at hc
                have HXY2 := Lib.hid hxy
                clear hxy hdd
                go_wp2_with fail
                go_quiet_grown (first | (go_at_call 50; exact hc _ _))
                go_wp2
                go_roundw
                case rel =>
                  have ec : cpt (l.take (ip + 1 + (kp + 1 + 1))) = C := by
                    rw [show ip + 1 + (kp + 1 + 1) = ip + 1 + kp + 1 + 1 by omega, HT2.out, if_pos HXY2.out, List.append_nil]
                  refine ⟨i, kp + 1 + 1, J ++ [x], rfl, by go_num, by omega, by have := HFIN.out; omega, by rw [ec]; exact HCL.out, hi1, by rw [List.length_append, List.length_singleton]; have := HJL.out; omega, ?_, only_grow HG2.out _ _⟩
                  rw [ec, show ip + 1 + (kp + 1 + 1) - 1 = ip + 1 + kp + 1 by omega, HD2.out]
                  have := HAR2.out.grown nq osq
                  simpa using this
                case measure => simp [intOf]; omega
              · have hdd : decide (y.key = x.key) = false := decide_eq_false fun h => hxy h.symm
                rw [hdd] at hc
                have HXY2 := Lib.hid hxy
                clear hxy hdd
                go_wp2_with fail
                go_quiet_grown (first | (go_at_call 50; exact hc _ _))
                have hA3 := HAR2.out.grown nq osq
                have HG3 := Lib.hid (only_grow HG2.out nq osq)
                clear c0 c1 c2 c3 hc
                generalize grow (wr.drewN nq) osq = wq2 at *
                obtain ⟨c2, c3⟩ := hA3.get HGY.out
                rw [HGZ.out.2.2] at hA3
                obtain ⟨c4, c5⟩ := hA3.get (get_app HCL.out)
                have f1 := hA3.frozen (i * 2)
                have f2 := hA3.frozen (i * 2 + 1)
                have HSET := Lib.hid (hA3.set i y)
                clear hA3
                go_wp2
                go_roundw
                case rel =>
                  have ec : cpt (l.take (ip + 1 + (kp + 1 + 1))) = C ++ [y] := by
                    rw [show ip + 1 + (kp + 1 + 1) = ip + 1 + kp + 1 + 1 by omega, HT2.out, if_neg HXY2.out]
                  refine ⟨i + 1, kp + 1 + 1, J', by go_num, by go_num, by omega, by have := HFIN.out; omega, by rw [ec, List.length_append, HCL.out]; rfl, by omega, by have := HJL.out; have := HGZ.out.2.1; omega, ?_, only_setCell (only_setCell HG3.out (.inl rfl) _) (.inl rfl) _⟩
                  rw [ec, show ip + 1 + (kp + 1 + 1) - 1 = ip + 1 + kp + 1 by omega, HD2.out]
                  have := HSET.out
                  rw [List.set_append_right _ _ (by rw [HCL.out]; exact Nat.le_refl _), HCL.out, Nat.sub_self, List.set_cons_zero] at this
                  simpa using this
                case measure => simp [intOf]; omega
            · obtain rfl : k = m := by have := HM.out; omega
              have hm := HM.out
              rw [← hm] at harr
              have ht : l.take n = l := by rw [HN.out]; exact List.take_length
              have hci := HCI.out
              have hj := HJ.out
              rw [← hm, ht] at hci
              rw [ht, List.append_assoc] at harr
              rw [← hm] at hj
              have hzl : (J ++ l.drop (n - 1)).length = n - i := by rw [List.length_append, List.length_drop, ← HN.out]; omega
              have hclr := harr.cleared
              rw [hzl, hci] at hclr
              have hcell : ∀ j, j < c * 2 → (wr.cell? ⟨b, j, none⟩).isSome = true ∧ wr.frozen? ⟨b, j, none⟩ = false := fun j hj => by
                obtain ⟨cur, k1, k2, k3, k4, k5⟩ := harr
                exact ⟨by rw [k1.cell, Array.getElem?_eq_getElem (by omega)]; rfl, k1.frozen _⟩
              have hcl2 := fun ty => run_clear_rows wr ty b (i * 2) (n - i) (c - i) (fun j hj => (hcell _ (by omega)).1) (fun j hj => (hcell _ (by omega)).2)
              have HG3 := Lib.hid (show w.grownBy (wr.setCells b (i * 2) (rv (List.replicate (n - i) noRw))) (some b) from only_trans HG2.out (setMany_grown b (rv (List.replicate (n - i) noRw)) (i * 2) wr) (.inl rfl))
              have HCLR := Lib.hid hclr
              have HCI2 := Lib.hid hci
              have r1 : ¬ c = i := by omega
              have r2 : (i : Int) ≤ (n : Int) := by omega
              have r3 : i ≤ n := by omega
              have r4 : i ≤ c := by omega
              have r5 : (i : Int) ≤ (c : Int) := by omega
              clear harr hclr hci hj hm ht hzl hcell
              generalize wr.setCells b (i * 2) (rv (List.replicate (n - i) noRw)) = W9 at *
              go_wp2
              go_ret
              exact ⟨by rw [HCI2.out]; rfl, HCLR.out, HG3.out⟩
        · have hd : decide (y.key = x.key) = false := decide_eq_false fun h => hxy h.symm
          rw [hd] at hc
          have HXY2 := Lib.hid hxy
          clear hd hxy
          go_wp2_with fail
          go_quiet_grown (first | (go_at_call 50; exact hc _ _))
          go_wp2
          go_roundw
          case rel =>
            refine ⟨ip + 1 + 1, by go_num, by omega, by rw [← HN.out]; omega, ?_, HAR.out.grown _ _, only_grow HG.out _ _⟩
            obtain ⟨hp2, e2⟩ := List.getElem?_eq_some_iff.1 HXY.out.2
            rw [HT.out, if_neg HXY2.out, HCT.out, List.take_succ_eq_append_getElem hp2, e2]
          case measure => simp [intOf]; omega
      · have ht : cpt l = l := by
          have := HCT.out
          rw [show i = l.length by rw [← HN.out]; omega, List.take_length] at this
          exact this
        have HT := Lib.hid ht
        have HAR := Lib.hid harr
        clear ht harr
        go_wp2
        go_ret
        exact ⟨by rw [HT.out, ← HN.out]; rfl, by rw [HT.out]; exact HAR.out, HG.out⟩
end Go.Proofs.Ytngncalbglbjdaa.Idx
