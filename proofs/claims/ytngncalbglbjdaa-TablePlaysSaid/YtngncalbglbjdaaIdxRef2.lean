/-
  Contracts of the document's own rows (qanatref07): Del, After, Make.
-/
import Derived.Test.YtngncalbglbjdaaIdxRef
import Derived.Test.YtngncalbglbjdaaPlayBig
import Derived.Deep.RegionHeld3
namespace Go.Proofs.Ytngncalbglbjdaa.Idx
set_option linter.unusedVariables false
set_option maxRecDepth 100000
open Go.RowKit Base IdxMath Foot
open Go.Sort (grow)
open Go.Proofs.Ytngncalbglbjdaa.Field (bigZ bigZ_lt playbig_any)
set_option linter.ambiguousOpen false
set_option linter.unusedSimpArgs false

/-- what the document's Del answers: rows in new memory, or the same -/
def DelR (w : World) (A : Option Addr) (n c : Nat) (l : List Rw) (k : Int) (e : Ending) (w' : World) : Prop :=
  (there l k = true ∧ ∃ A' c', e = .returned (.tuple #[.slice A' (del l k).length c', .bool true]) ∧ w'.ownsRow w.heap.size 37 2 (.slice A' (del l k).length c') (del l k).length (rv (del l k)) ∧ Below w.heap.size w w') ∨
  (there l k = false ∧ e = .returned (.tuple #[.slice A n c, .bool false]) ∧ w = w')
theorem found_pos {l : List Rw} (h : Rise l) {k : Int} {i : Nat} {x : Rw} (hx : l[i]? = some x) (hk : x.key = k) : pos l k = i ∧ there l k = true := by
  have hp : i < l.length := (List.getElem?_eq_some_iff.1 hx).1
  have e : pos l k = i := pos_of (by omega) (fun q y hq hy => by have := h.get hq hy hx; omega) (fun q y hq hy => by
    rcases Nat.lt_or_ge i q with h1 | h1
    · have := h.get h1 hx hy; omega
    · obtain rfl : i = q := by omega
      rw [hx] at hy
      injection hy with hy
      rw [← hy]; omega)
  exact ⟨e, there_yes (by rw [e]; exact hx) hk⟩
set_option maxHeartbeats 3200000 in
theorem refdel_any (B : Nat) (A : Option Addr) (n c : Nat) (l : List Rw) (k : Int) (w : World) (h : Rs w B A n c l) (hB : B ≤ w.heap.size) (hrise : Rise l) (hsz : n ≤ 1099511627774) :
    Calls Try.prog 38 #[.slice A n c, .int .i64 k] w (DelR w A n c l k) := by
  have hle := h.le
  have HR := Lib.hid h
  have HL := Lib.hid h.len
  have HRI := Lib.hid hrise
  clear h hrise
  go_enter Try.func38, Try.ntmps38
  go_wp2
  go_loop [6] (fun vi => ∃ i : Nat, vi = .int .i64 i ∧ i ≤ n ∧ ∀ y ∈ l.take i, y.key ≠ k) (fun vi => n - (intOf vi).toNat)
  case atStart => exact ⟨0, rfl, Nat.zero_le _, fun y hy => by simp at hy⟩
  case round =>
    obtain ⟨i, rfl, hi, hne⟩ := hrel
    have HNE := Lib.hid hne
    clear hne
    by_cases hin : i < n
    · obtain ⟨b, off, x, rfl, hbB, c0, c1, hx, ht⟩ := HR.out.at_ hin
      have HX := Lib.hid (And.intro hx ht)
      have l1 : (i : Int) < (n : Int) := by omega
      clear hx ht
      by_cases hxk : x.key = k
      · have hfp := found_pos HRI.out HX.out.1 hxk
        have HT := Lib.hid hfp.2
        have HDL : Hid (l.take i ++ l.drop (i + 1) = del l k) := by show _ = _; rw [del, if_pos hfp.2, hfp.1, List.eraseIdx_eq_take_drop_succ]
        have HLN : Hid (i + (n - (i + 1)) = (del l k).length) := by show _ = _; rw [← HDL.out, List.length_append, List.length_take, List.length_drop, HL.out]; omega
        have hb : (x.key == k) = true := by simpa using hxk
        have HF : Hid (Rs w B (some ⟨b, off, none⟩) i c (l.take i)) := HR.out.front (by omega)
        have HC1 := Lib.hid (HR.out.cut (k := i + 1) (by omega))
        have l2 : i ≤ c := by omega
        have l3 : (i : Int) + 1 ≤ (n : Int) := by omega
        have l4 : (0 : Int) ≤ (i : Int) + 1 := by omega
        have l5 : ((i : Int) + 1).toNat = i + 1 := by omega
        have l6 : IntKind.i64.wrap ((i : Int) + 1) = (i : Int) + 1 := by rw [IntKind.wrap_i64]; omega
        have l7 : (i : Int) ≤ (c : Int) := by omega
        have l8 : (i : Int) ≤ (i : Int) + 1 := by omega
        clear hxk hfp
        obtain ⟨W, hW⟩ : ∃ W, W = w := ⟨_, rfl⟩
        by_cases hci : c = i + 1
        · have hn1 : n = i + 1 := by omega
          subst hci
          subst hn1
          have HD : Hid (Rs w B (some ⟨b, off, none⟩) 0 0 (l.drop (i + 1))) := by show Rs _ _ _ _ _ _; rw [← HL.out, List.drop_length]; exact Row.none_ _ _ _ _ (by omega)
          rw [Nat.sub_self] at HLN
          go_wp2_with fail
          go_region_law (first
            | (refine step_append_row (by rfl) (.tmp 20) (.tmp 23) (by rfl) er w.heap.size (.slice (some ⟨w.heap.size, 0, none⟩) 0 0) 0 [] (by rfl) (own_empty w.drew w.heap.size _ 2 rfl (Nat.le_refl _)) B _ i _ (rv (l.take i)) (by rfl) (Row.alloc (Row.drew HF.out) hB _) (rv_one _) (by omega) (by omega) (by simp) ?_
               intro A1 c1 w1 hown1 _ hb1
               rw [Nat.zero_add, List.nil_append] at hown1
               rw [Nat.zero_add]
               have HY1 := Lib.hid hown1
               have HB1 := Lib.hid ((((Below.refl w.heap.size w).drew).alloc (Nat.le_refl _) _).trans hb1)
               clear hown1 hb1)
            | (refine step_append_row (by rfl) (.tmp 24) (.tmp 28) (by rfl) er w.heap.size (.slice A1 i c1) i (rv (l.take i)) (by rfl) HY1.out B _ 0 _ (rv (l.drop (i + 1))) (by rfl) (Row.below HD.out (HB1.out.mono hB)) (rv_one _) (by omega) (by omega) HB1.out.size ?_
               intro A3 c3 w3 hown3 _ hb3
               rw [← rv_append, HDL.out, HLN.out] at hown3
               rw [HLN.out]
               have HY3 := Lib.hid hown3
               have HB3 := Lib.hid (HB1.out.trans hb3)
               clear hown3 hb3))
          go_wp2
          go_ret2
          exact .inl ⟨HT.out, A3, c3, rfl, HY3.out, HB3.out⟩
        · have HD : Hid (Rs w B (some ⟨b, off + (i + 1) * 2, none⟩) (n - (i + 1)) (c - (i + 1)) (l.drop (i + 1))) := by have := HC1.out; rw [if_neg hci, Option.map_some, add_none] at this; exact this
          go_wp2_with fail
          go_region_law (first
            | (refine step_append_row (by rfl) (.tmp 20) (.tmp 23) (by rfl) er w.heap.size (.slice (some ⟨w.heap.size, 0, none⟩) 0 0) 0 [] (by rfl) (own_empty w.drew w.heap.size _ 2 rfl (Nat.le_refl _)) B _ i _ (rv (l.take i)) (by rfl) (Row.alloc (Row.drew HF.out) hB _) (rv_one _) (by omega) (by omega) (by simp) ?_
               intro A1 c1 w1 hown1 _ hb1
               rw [Nat.zero_add, List.nil_append] at hown1
               rw [Nat.zero_add]
               have HY1 := Lib.hid hown1
               have HB1 := Lib.hid ((((Below.refl w.heap.size w).drew).alloc (Nat.le_refl _) _).trans hb1)
               clear hown1 hb1)
            | (refine step_append_row (by rfl) (.tmp 24) (.tmp 28) (by rfl) er w.heap.size (.slice A1 i c1) i (rv (l.take i)) (by rfl) HY1.out B _ (n - (i + 1)) _ (rv (l.drop (i + 1))) (by rfl) (Row.below HD.out (HB1.out.mono hB)) (rv_one _) (by omega) (by omega) HB1.out.size ?_
               intro A3 c3 w3 hown3 _ hb3
               rw [← rv_append, HDL.out, HLN.out] at hown3
               rw [HLN.out]
               have HY3 := Lib.hid hown3
               have HB3 := Lib.hid (HB1.out.trans hb3)
               clear hown3 hb3))
          go_wp2
          go_ret2
          exact .inl ⟨HT.out, A3, c3, rfl, HY3.out, HB3.out⟩
      · have HNX := Lib.hid (take_ne HNE.out HX.out.2 hxk)
        have hb : (x.key == k) = false := by rw [beq_eq_false_iff_ne]; exact hxk
        clear hxk
        go_wp2
        go_round
        case rel => exact ⟨i + 1, by go_num, hin, HNX.out⟩
        case measure => simp [intOf]; omega
    · have HT : Hid (there l k = false) := by
        show _ = _
        rw [Bool.eq_false_iff]
        intro ht
        obtain ⟨x, hx, hxk⟩ := pos_split l k ht
        refine HNE.out x ?_ hxk
        rw [show i = l.length by have := HL.out; omega, List.take_length]
        exact List.mem_of_getElem? hx
      go_wp2
      go_ret2
      exact .inr ⟨HT.out, rfl, rfl⟩

theorem after_snoc (l : List Rw) (x : Rw) (k n : Int) : after (l ++ [x]) k n = if k < x.key ∧ ((after l k n).length : Int) < n then after l k n ++ [x] else after l k n := by
  unfold after
  rw [List.filter_append, List.length_take]
  by_cases h1 : k < x.key
  · have e : [x].filter (fun x => decide (k < x.key)) = [x] := by simp [h1]
    rw [e, List.take_append]
    by_cases h2 : ((min n.toNat (l.filter fun x => decide (k < x.key)).length : Nat) : Int) < n
    · rw [if_pos ⟨h1, h2⟩]
      have h3 : (l.filter fun x => decide (k < x.key)).length < n.toNat := by omega
      obtain ⟨q, hq⟩ : ∃ q, n.toNat - (l.filter fun x => decide (k < x.key)).length = q + 1 := ⟨_, (Nat.succ_pred_eq_of_pos (by omega)).symm⟩
      rw [hq, List.take_of_length_le (l := [x]) (by simp)]
    · rw [if_neg (fun h => h2 h.2)]
      have h3 : n.toNat ≤ (l.filter fun x => decide (k < x.key)).length := by omega
      rw [show n.toNat - (l.filter fun x => decide (k < x.key)).length = 0 by omega]
      simp
  · rw [if_neg (fun h => h1 h.1)]
    have e : [x].filter (fun x => decide (k < x.key)) = [] := by simp [h1]
    rw [e, List.append_nil]
theorem after_full (l : List Rw) (k n : Int) (i : Nat) (h : n ≤ ((after (l.take i) k n).length : Int)) : after l k n = after (l.take i) k n := by
  have e : l = l.take i ++ l.drop i := (List.take_append_drop _ _).symm
  conv => lhs; rw [e]
  unfold after at h ⊢
  rw [List.length_take] at h
  rw [List.filter_append, List.take_append]
  rw [show n.toNat - ((l.take i).filter fun x => decide (k < x.key)).length = 0 by omega]
  simp
set_option maxHeartbeats 3200000 in
theorem refafter_any (B : Nat) (A : Option Addr) (n c : Nat) (l : List Rw) (k m : Int) (w : World) (h : Rs w B A n c l) (hB : B ≤ w.heap.size) (hsz : n ≤ 1099511627774) :
    Calls Try.prog 18 #[.slice A n c, .int .i64 k, .int .i64 m] w (NewRows w (after l k m)) := by
  have hle := h.le
  have HR := Lib.hid h
  have HL := Lib.hid h.len
  clear h
  go_enter Try.func18, Try.ntmps18
  go_wp2
  go_loopw [8, 7] (fun vi vo wr => ∃ (i : Nat) (A' : Option Addr) (c' q : Nat), vi = .int .i64 i ∧ i ≤ n ∧ q = (after (l.take i) k m).length ∧ vo = .slice A' q c' ∧ wr.ownsRow w.heap.size 37 2 (.slice A' q c') q (rv (after (l.take i) k m)) ∧ Below w.heap.size w wr) (fun vi _ _ => n - (intOf vi).toNat)
  case atStart => exact ⟨0, none, 0, 0, rfl, Nat.zero_le _, by simp [after], rfl, by simpa [after, rv] using World.ownsRow_nil _ _ _ _, Below.refl _ _⟩
  case round =>
    obtain ⟨i, A', c', q, rfl, hi, hq, rfl, hown, hbel⟩ := hrel
    have HO := Lib.hid hown
    have HB := Lib.hid hbel
    have HQ := Lib.hid hq
    have hqn : q ≤ n := by
      rw [hq]
      unfold after
      rw [List.length_take]
      have h1 : ((l.take i).filter fun x => decide (k < x.key)).length ≤ (l.take i).length := List.length_filter_le _ _
      rw [List.length_take, HL.out] at h1
      omega
    clear hown hbel hq
    by_cases hin : i < n
    · have l1 : (i : Int) < (n : Int) := by omega
      by_cases hqm : (q : Int) < m
      · obtain ⟨b, off, x, rfl, hbB, c0, c1, hx, ht⟩ := (HR.out.below (HB.out.mono hB)).at_ hin
        have HA : Hid (after (l.take (i + 1)) k m = if k < x.key then after (l.take i) k m ++ [x] else after (l.take i) k m) := by
          show _ = _
          rw [ht, after_snoc, ← HQ.out]
          by_cases h1 : k < x.key
          · rw [if_pos ⟨h1, hqm⟩, if_pos h1]
          · rw [if_neg (fun h => h1 h.1), if_neg h1]
        clear hx ht
        by_cases hkx : k < x.key
        · have HK := Lib.hid hkx
          go_wp2_with (first
            | (at_builtin
               refine wpList_append_row rfl (.tmp 28) (.tmp 33) rfl er w.heap.size (.slice A' q c') q (rv (after (l.take i) k m)) rfl (own_keep HO.out ((Below.refl _ _).alloc (Nat.le_refl _) _)) (wr.heap.size + 1) (some ⟨wr.heap.size, 0, none⟩) 1 1 (rv [x]) rfl (one_row wr x.key x.val rfl) (rv_one _) (by omega) (by omega) (by have := HB.out.size; simp; omega) ?_
               intro A2 c2 w2 hown2 _ hb2
               rw [← rv_append] at hown2
               have HO2 := Lib.hid hown2
               have HB2 := Lib.hid ((HB.out.alloc HB.out.size _).trans hb2)
               clear hown2 hb2)
            | fail)
          go_roundw
          case rel => exact ⟨i + 1, A2, c2, q + 1, by go_num, hin, by rw [HA.out, if_pos HK.out, List.length_append, ← HQ.out]; rfl, rfl, by rw [HA.out, if_pos HK.out]; exact HO2.out, HB2.out⟩
          case measure => simp [intOf]; omega
        · have HK := Lib.hid hkx
          go_wp2
          go_roundw
          case rel => exact ⟨i + 1, A', c', q, by go_num, hin, by rw [HA.out, if_neg HK.out]; exact HQ.out, rfl, by rw [HA.out, if_neg HK.out]; exact HO.out, HB.out⟩
          case measure => simp [intOf]; omega
      · have HF := Lib.hid (after_full l k m i (by rw [← HQ.out]; omega))
        go_wp2
        go_ret
        exact ⟨A', c', by rw [HF.out, ← HQ.out]; rfl, by rw [HF.out, ← HQ.out]; exact HO.out, HB.out⟩
    · have HT : Hid (l.take i = l) := by show _ = _; rw [show i = l.length by have := HL.out; omega, List.take_length]
      rw [HT.out] at HO HQ
      have l1 : decide ((i : Int) < (n : Int)) = false := decide_eq_false (by omega)
      go_wp2
      go_ret
      exact ⟨A', c', by rw [← HQ.out]; rfl, by rw [← HQ.out]; exact HO.out, HB.out⟩
set_option maxHeartbeats 3200000 in
theorem refmake_any (B : Nat) (A : Option Addr) (n c : Nat) (l : List Rw) (w : World) (h : Rs w B A n c l) (hB : B ≤ w.heap.size) (hsz : n ≤ 1099511627770) :
    Calls Try.prog 28 #[.slice A n c] w (NewRows w (make l)) := by
  have hle := h.le
  have HR := Lib.hid h
  have HL := Lib.hid h.len
  clear h
  go_enter Try.func28, Try.ntmps28
  go_wp2
  go_loopw [4, 3] (fun vi vo wr => ∃ (i : Nat) (A' : Option Addr) (c' q : Nat), vi = .int .i64 i ∧ i ≤ n ∧ q = (make (l.take i)).length ∧ vo = .slice A' q c' ∧ wr.ownsRow w.heap.size 37 2 (.slice A' q c') q (rv (make (l.take i))) ∧ Below w.heap.size w wr) (fun vi _ _ => n - (intOf vi).toNat)
  case atStart => exact ⟨0, none, 0, 0, rfl, Nat.zero_le _, by simp [make], rfl, by simpa [make, rv] using World.ownsRow_nil _ _ _ _, Below.refl _ _⟩
  case round =>
    obtain ⟨i, A', c', q, rfl, hi, hq, rfl, hown, hbel⟩ := hrel
    have HO := Lib.hid hown
    have HB := Lib.hid hbel
    have HQ := Lib.hid hq
    have hqn : q ≤ n := by
      have h1 := make_length (l.take i)
      rw [List.length_take, HL.out] at h1
      omega
    clear hown hbel hq
    by_cases hin : i < n
    · have l1 : (i : Int) < (n : Int) := by omega
      obtain ⟨b, off, x, rfl, hbB, c0, c1, hx, ht⟩ := (HR.out.below (HB.out.mono hB)).at_ hin
      have HM : Hid (make (l.take (i + 1)) = put (make (l.take i)) x.key x.val) := by show _ = _; rw [ht, make_snoc]
      clear hx ht
      go_wp2_with fail
      go_region_held3 (fun w' => w'.cell? ⟨b, off + i * 2, none⟩ = some (.int .i64 x.key) ∧ w'.cell? ⟨b, off + i * 2 + 1, none⟩ = some (.string x.val) ∧ Below wr.heap.size wr w')
        (first
          | exact held2 (held_start wr) c0 c1
          | (go_split_ands; exact held2 (held_call (by assumption) hb2) c0 c1)
          | assumption)
        (first
          | (go_at_call 39; go_split_ands; refine (refput_any wr.heap.size A' q c' (make (l.take i)) x.key x.val _ ((Rz.of_own HO.out).below (by assumption)) (by assumption : Below wr.heap.size wr _).size (by omega)).mono ?_; rintro e w2 ⟨A2, c2, rfl, ho2, hb2⟩)
          | fail)
      rw [← HM.out] at ho2 ⊢
      have HO2 := Lib.hid (own_mono ho2 (show w.heap.size ≤ wr.drew.heap.size from HB.out.size))
      have HB2 := Lib.hid (HB.out.trans (below_of_drew (hb2.mono HB.out.size)))
      clear ho2 hb2
      generalize hN : (make (l.take (i + 1))).length = N at *
      have HN := Lib.hid hN
      clear hN
      generalize there (make (l.take i)) x.key = bt
      go_wp2
      go_roundw
      case rel => exact ⟨i + 1, A2, c2, N, by go_num, hin, HN.out.symm, rfl, HO2.out, HB2.out⟩
      case measure => simp [intOf]; omega
    · have HT : Hid (l.take i = l) := by show _ = _; rw [show i = l.length by have := HL.out; omega, List.take_length]
      rw [HT.out] at HO HQ
      go_wp2
      go_ret
      exact ⟨A', c', by rw [← HQ.out]; rfl, by rw [← HQ.out]; exact HO.out, HB.out⟩

end Go.Proofs.Ytngncalbglbjdaa.Idx
