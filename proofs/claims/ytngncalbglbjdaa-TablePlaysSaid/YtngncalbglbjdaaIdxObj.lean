/-
  An index in memory: its own block and its rows' block; contracts of package index.
-/
import Derived.Test.YtngncalbglbjdaaIdxCompact
import Derived.Test.YtngncalbglbjdaaIdxStable
import Derived.Test.YtngncalbglbjdaaIdxInsertAt
import Derived.Test.YtngncalbglbjdaaTurn
import Derived.Lib.SliceRun
namespace Go.Proofs.Ytngncalbglbjdaa.Idx
set_option linter.unusedVariables false
set_option maxRecDepth 100000
open Go.RowKit Base IdxMath Foot
open Go.Sort (grow)
set_option linter.ambiguousOpen false
set_option linter.unusedSimpArgs false

set_option maxHeartbeats 800000 in
theorem clone_any (B : Nat) (A : Option Addr) (n c : Nat) (l : List Rw) (w : World) (hr : Rs w B A n c l) (hB : B ≤ w.heap.size) (hsz : n ≤ 1099511627776) :
    Calls Try.prog 45 #[.slice A n c] w (NewRows w l) := by
  have hnil : ∀ w, (binOp .eql 38 (.slice A n c) (.slice none 0 0)).run Try.prog w = .ok (.bool A.isNone) w := fun w => Lib.run_eql_slice_nil (P := Try.prog) w 38 37 A n c 0 0 Try.underlying38
  have hlen := hr.len
  have HL := Lib.hid hlen
  clear hlen
  cases A with
  | none =>
    have h0 : n = 0 := by
      rcases Nat.eq_zero_or_pos n with h0 | h0
      · exact h0
      · obtain ⟨b, off, h, _⟩ := hr.2.2.2 h0
        cases h
    subst h0
    obtain rfl : l = [] := List.eq_nil_of_length_eq_zero hr.len
    clear hr
    go_enter Try.func45, Try.ntmps45
    go_wp2
    go_ret
    exact ⟨none, 0, rfl, World.ownsRow_nil _ _ _ _, Below.refl _ _⟩
  | some a =>
    have HR := Lib.hid hr
    clear hr
    go_enter Try.func45, Try.ntmps45
    go_wp2_with (first
      | (at_builtin
         refine wpList_append_row rfl (.tmp 5) (.tmp 6) rfl er w.heap.size _ 0 [] rfl (own_empty _ _ _ _ rfl (Nat.le_refl _)) B (some a) n c (rv l) rfl (Row.alloc HR.out hB _) (rv_one _) (by omega) (by omega) (by simp) ?_
         intro A1 c1 w1 hown1 _ hb1
         rw [Nat.zero_add, List.nil_append] at hown1
         rw [Nat.zero_add]
         have HY1 := Lib.hid hown1
         have HB1 := Lib.hid (((Below.refl w.heap.size w).alloc (Nat.le_refl _) _).trans hb1)
         clear hown1 hb1)
      | fail)
    go_ret
    exact ⟨A1, c1, by rw [HL.out]; rfl, by rw [HL.out]; exact HY1.out, HB1.out⟩

/-! ### Insert, at whatever place of whatever rows of one's own -/
theorem own_arr {w : World} {A : Option Addr} {n c : Nat} {l : List Rw} (h : w.ownsRow 0 37 2 (.slice A n c) n (rv l)) (hl : l.length = n) (h0 : 0 < n) : ∃ b, A = some ⟨b, 0, none⟩ ∧ Arr w b c l := by
  rcases h.2 with ⟨hv, h1⟩ | ⟨g, cap, cur, hv, hb, hg, h1, h2, h3, h4⟩
  · omega
  · simp only [Value.slice.injEq] at hv
    obtain ⟨rfl, _, rfl⟩ := hv
    exact ⟨g, rfl, cur, hg, by omega, h2, h3, by rw [hl]; exact h4⟩
set_option maxHeartbeats 1600000 in
theorem insert_any (A : Option Addr) (n c : Nat) (l : List Rw) (i : Nat) (x : Rw) (vb : Nat) (w : World) (h : w.ownsRow 0 37 2 (.slice A n c) n (rv l)) (hl : l.length = n) (hi : i ≤ n) (hv : Blk w vb 37 #[.int .i64 x.key, .string x.val]) (hne : (Value.slice A n c).ownBlock ≠ some vb) (hsz : n ≤ 1099511627775) :
    Calls Try.prog 59 #[.slice A n c, .int .i64 i, .slice (some ⟨vb, 0, none⟩) 1 1] w fun e w' => ∃ A' c', e = .returned (.slice A' (n + 1) c') ∧ w'.ownsRow 0 37 2 (.slice A' (n + 1) c') (n + 1) (rv (l.take i ++ x :: l.drop i)) ∧ Grew w (Value.slice A n c).ownBlock w' (.slice A' (n + 1) c') := by
  rcases Nat.lt_or_ge i n with hlt | hge
  · obtain ⟨b, rfl, ha⟩ := own_arr h hl (by omega)
    have hlen : (l.take i ++ x :: l.drop i).length = n + 1 := by rw [List.length_append, List.length_cons, List.length_take, List.length_drop]; omega
    have fin : ∀ e w', Inserted w b l i x e w' → ∃ A' c', e = .returned (.slice A' (n + 1) c') ∧ w'.ownsRow 0 37 2 (.slice A' (n + 1) c') (n + 1) (rv (l.take i ++ x :: l.drop i)) ∧ Grew w (some b) w' (.slice A' (n + 1) c') := by
      rintro e w' ⟨b', c', rfl, h1, h2, h3⟩
      refine ⟨some ⟨b', 0, none⟩, c', by rw [hl], ?_, h2, ?_⟩
      · have := h1.own (base := 0) (Nat.zero_le _)
        rw [hlen] at this
        exact this
      · rcases h3 with rfl | h3
        · exact .inl rfl
        · exact .inr fun g hg => by injection hg with hg; subst hg; exact h3
    rcases Nat.lt_or_ge c (n + 1) with hc | hc
    · exact (insert_grow b c l i n x vb w ha hl hlt hc hv (by omega)).mono fin
    · exact (insert_room b c l i n x vb w ha hl hlt hc hv (fun e => hne (by rw [e]; rfl)) (by omega)).mono fin
  · obtain rfl : i = n := by omega
    have HO := Lib.hid h
    have HV : Hid (Row w (vb + 1) 2 (some ⟨vb, 0, none⟩) 1 1 (rv [x])) := ⟨rfl, Nat.le_refl _, by omega, fun _ => ⟨vb, 0, rfl, by omega, fun j u hu => by
      rw [hv.cell, Nat.zero_add, ← Array.getElem?_toList]
      exact hu⟩⟩
    have HE := Lib.hid (show l.take i ++ x :: l.drop i = l ++ [x] by rw [← hl, List.take_length, List.drop_length])
    have hle : i ≤ c := by
      rcases h.2 with ⟨hv, h1⟩ | ⟨g, cap, cur, hv, hb, hg, h1, h2, h3, h4⟩
      · omega
      · simp only [Value.slice.injEq] at hv
        omega
    have hcm : c ≤ 9223372036854775807 := by
      rcases h.2 with ⟨hv, h1⟩ | ⟨g, cap, cur, hv, hb, hg, h1, h2, h3, h4⟩
      · simp only [Value.slice.injEq] at hv; omega
      · simp only [Value.slice.injEq] at hv
        unfold maxLen at h2
        omega
    clear h hv hne
    by_cases hci : c = i
    · subst hci
      go_enter Try.func59, Try.ntmps59
      go_wp2_with (first
        | (at_builtin
           refine wpList_append_row rfl (.tmp 23) (.tmp 24) rfl er 0 _ c (rv l) rfl HO.out (vb + 1) (some ⟨vb, 0, none⟩) 1 1 (rv [x]) rfl HV.out (rv_one _) (by omega) (by omega) (Nat.zero_le _) ?_
           intro A1 c1 w1 hown1 hgr1 _
           rw [← rv_append, ← HE.out] at hown1
           have HY1 := Lib.hid hown1
           have HG1 := Lib.hid hgr1
           clear hown1 hgr1)
        | fail)
      go_ret
      exact ⟨A1, c1, rfl, HY1.out, HG1.out⟩
    · go_enter Try.func59, Try.ntmps59
      go_wp2_with (first
        | (at_builtin
           refine wpList_append_row rfl (.tmp 23) (.tmp 24) rfl er 0 _ i (rv l) rfl HO.out (vb + 1) (some ⟨vb, 0, none⟩) 1 1 (rv [x]) rfl HV.out (rv_one _) (by omega) (by omega) (Nat.zero_le _) ?_
           intro A1 c1 w1 hown1 hgr1 _
           rw [← rv_append, ← HE.out] at hown1
           have HY1 := Lib.hid hown1
           have HG1 := Lib.hid hgr1
           clear hown1 hgr1)
        | fail)
      go_ret
      exact ⟨A1, c1, rfl, HY1.out, HG1.out⟩
end Go.Proofs.Ytngncalbglbjdaa.Idx
