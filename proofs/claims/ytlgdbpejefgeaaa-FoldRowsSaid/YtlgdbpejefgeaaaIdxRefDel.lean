/-
  Contracts of the document's own rows (qanatref07): Del.
-/
import Derived.Test.YtlgdbpejefgeaaaIdxRef
import Derived.Deep.RegionHeld3
namespace Go.Proofs.Ytlgdbpejefgeaaa.Idx
set_option linter.unusedVariables false
set_option maxRecDepth 100000
open Go.RowKit Base IdxMath Foot
open Go.Sort (grow)
set_option linter.ambiguousOpen false
set_option linter.unusedSimpArgs false

/-- what the document's Del answers: rows in new memory, or the same -/
def DelR (w : World) (A : Option Addr) (n c : Nat) (l : List Rw) (k : Int) (e : Ending) (w' : World) : Prop :=
  (there l k = true ∧ ∃ A' c', e = .returned (.tuple #[.slice A' (del l k).length c', .bool true]) ∧ w'.ownsRow w.heap.size 36 2 (.slice A' (del l k).length c') (del l k).length (rv (del l k)) ∧ Below w.heap.size w w') ∨
  (there l k = false ∧ e = .returned (.tuple #[.slice A n c, .bool false]) ∧ w = w')
theorem found_pos {l : List Rw} (h : Rise l) {k : Int} {i : Nat} {x : Rw} (hx : l[i]? = some x) (hk : x.key = k) : pos l k = i ∧ there l k = true := by
  have hp : i < l.length := (List.getElem?_eq_some_iff.1 hx).1
  have e : pos l k = i := pos_of (by omega) (fun q y hq hy => by have := h.get hq hy hx; omega) (fun q y hq hy => by
    rcases Nat.lt_or_ge i q with h1 | h1
    · have := h.get h1 hx hy; omega
    · obtain rfl : i = q := by omega
      rw [hx] at hy
      injection hy with hy
      rw [← hy]; omega)
  exact ⟨e, there_yes (by rw [e]; exact hx) hk⟩
set_option maxHeartbeats 3200000 in
theorem refdel_any (B : Nat) (A : Option Addr) (n c : Nat) (l : List Rw) (k : Int) (w : World) (h : Rs w B A n c l) (hB : B ≤ w.heap.size) (hrise : Rise l) (hsz : n ≤ 1099511627774) :
    Calls Try.prog 19 #[.slice A n c, .int .i64 k] w (DelR w A n c l k) := by
  have hle := h.le
  have HR := Lib.hid h
  have HL := Lib.hid h.len
  have HRI := Lib.hid hrise
  clear h hrise
  go_enter Try.func19, Try.ntmps19
  go_wp2
  go_loop [6] (fun vi => ∃ i : Nat, vi = .int .i64 i ∧ i ≤ n ∧ ∀ y ∈ l.take i, y.key ≠ k) (fun vi => n - (intOf vi).toNat)
  case atStart => exact ⟨0, rfl, Nat.zero_le _, fun y hy => by simp at hy⟩
  case round =>
    obtain ⟨i, rfl, hi, hne⟩ := hrel
    have HNE := Lib.hid hne
    clear hne
    by_cases hin : i < n
    · obtain ⟨b, off, x, rfl, hbB, c0, c1, hx, ht⟩ := HR.out.at_ hin
      have HX := Lib.hid (And.intro hx ht)
      have l1 : (i : Int) < (n : Int) := by omega
      clear hx ht
      by_cases hxk : x.key = k
      · have hfp := found_pos HRI.out HX.out.1 hxk
        have HT := Lib.hid hfp.2
        have HDL : Hid (l.take i ++ l.drop (i + 1) = del l k) := by show _ = _; rw [del, if_pos hfp.2, hfp.1, List.eraseIdx_eq_take_drop_succ]
        have HLN : Hid (i + (n - (i + 1)) = (del l k).length) := by show _ = _; rw [← HDL.out, List.length_append, List.length_take, List.length_drop, HL.out]; omega
        have hb : (x.key == k) = true := by simpa using hxk
        have HF : Hid (Rs w B (some ⟨b, off, none⟩) i c (l.take i)) := HR.out.front (by omega)
        have HC1 := Lib.hid (HR.out.cut (k := i + 1) (by omega))
        have l2 : i ≤ c := by omega
        have l3 : (i : Int) + 1 ≤ (n : Int) := by omega
        have l4 : (0 : Int) ≤ (i : Int) + 1 := by omega
        have l5 : ((i : Int) + 1).toNat = i + 1 := by omega
        have l6 : IntKind.i64.wrap ((i : Int) + 1) = (i : Int) + 1 := by rw [IntKind.wrap_i64]; omega
        have l7 : (i : Int) ≤ (c : Int) := by omega
        have l8 : (i : Int) ≤ (i : Int) + 1 := by omega
        clear hxk hfp
        obtain ⟨W, hW⟩ : ∃ W, W = w := ⟨_, rfl⟩
        by_cases hci : c = i + 1
        · have hn1 : n = i + 1 := by omega
          subst hci
          subst hn1
          have HD : Hid (Rs w B (some ⟨b, off, none⟩) 0 0 (l.drop (i + 1))) := by show Rs _ _ _ _ _ _; rw [← HL.out, List.drop_length]; exact Row.none_ _ _ _ _ (by omega)
          rw [Nat.sub_self] at HLN
          go_wp2_with fail
          go_region_law (first
            | (refine step_append_row (by rfl) (.tmp 20) (.tmp 23) (by rfl) er w.heap.size (.slice (some ⟨w.heap.size, 0, none⟩) 0 0) 0 [] (by rfl) (own_empty w.drew w.heap.size _ 2 rfl (Nat.le_refl _)) B _ i _ (rv (l.take i)) (by rfl) (Row.alloc (Row.drew HF.out) hB _) (rv_one _) (by omega) (by omega) (by simp) ?_
               intro A1 c1 w1 hown1 _ hb1
               rw [Nat.zero_add, List.nil_append] at hown1
               rw [Nat.zero_add]
               have HY1 := Lib.hid hown1
               have HB1 := Lib.hid ((((Below.refl w.heap.size w).drew).alloc (Nat.le_refl _) _).trans hb1)
               clear hown1 hb1)
            | (refine step_append_row (by rfl) (.tmp 24) (.tmp 28) (by rfl) er w.heap.size (.slice A1 i c1) i (rv (l.take i)) (by rfl) HY1.out B _ 0 _ (rv (l.drop (i + 1))) (by rfl) (Row.below HD.out (HB1.out.mono hB)) (rv_one _) (by omega) (by omega) HB1.out.size ?_
               intro A3 c3 w3 hown3 _ hb3
               rw [← rv_append, HDL.out, HLN.out] at hown3
               rw [HLN.out]
               have HY3 := Lib.hid hown3
               have HB3 := Lib.hid (HB1.out.trans hb3)
               clear hown3 hb3))
          go_wp2
          go_ret2
          exact .inl ⟨HT.out, A3, c3, rfl, HY3.out, HB3.out⟩
        · have HD : Hid (Rs w B (some ⟨b, off + (i + 1) * 2, none⟩) (n - (i + 1)) (c - (i + 1)) (l.drop (i + 1))) := by have := HC1.out; rw [if_neg hci, Option.map_some, add_none] at this; exact this
          go_wp2_with fail
          go_region_law (first
            | (refine step_append_row (by rfl) (.tmp 20) (.tmp 23) (by rfl) er w.heap.size (.slice (some ⟨w.heap.size, 0, none⟩) 0 0) 0 [] (by rfl) (own_empty w.drew w.heap.size _ 2 rfl (Nat.le_refl _)) B _ i _ (rv (l.take i)) (by rfl) (Row.alloc (Row.drew HF.out) hB _) (rv_one _) (by omega) (by omega) (by simp) ?_
               intro A1 c1 w1 hown1 _ hb1
               rw [Nat.zero_add, List.nil_append] at hown1
               rw [Nat.zero_add]
               have HY1 := Lib.hid hown1
               have HB1 := Lib.hid ((((Below.refl w.heap.size w).drew).alloc (Nat.le_refl _) _).trans hb1)
               clear hown1 hb1)
            | (refine step_append_row (by rfl) (.tmp 24) (.tmp 28) (by rfl) er w.heap.size (.slice A1 i c1) i (rv (l.take i)) (by rfl) HY1.out B _ (n - (i + 1)) _ (rv (l.drop (i + 1))) (by rfl) (Row.below HD.out (HB1.out.mono hB)) (rv_one _) (by omega) (by omega) HB1.out.size ?_
               intro A3 c3 w3 hown3 _ hb3
               rw [← rv_append, HDL.out, HLN.out] at hown3
               rw [HLN.out]
               have HY3 := Lib.hid hown3
               have HB3 := Lib.hid (HB1.out.trans hb3)
               clear hown3 hb3))
          go_wp2
          go_ret2
          exact .inl ⟨HT.out, A3, c3, rfl, HY3.out, HB3.out⟩
      · have HNX := Lib.hid (take_ne HNE.out HX.out.2 hxk)
        have hb : (x.key == k) = false := by rw [beq_eq_false_iff_ne]; exact hxk
        clear hxk
        go_wp2
        go_round
        case rel => exact ⟨i + 1, by go_num, hin, HNX.out⟩
        case measure => simp [intOf]; omega
    · have HT : Hid (there l k = false) := by
        show _ = _
        rw [Bool.eq_false_iff]
        intro ht
        obtain ⟨x, hx, hxk⟩ := pos_split l k ht
        refine HNE.out x ?_ hxk
        rw [show i = l.length by have := HL.out; omega, List.take_length]
        exact List.mem_of_getElem? hx
      go_wp2
      go_ret2
      exact .inr ⟨HT.out, rfl, rfl⟩
end Go.Proofs.Ytlgdbpejefgeaaa.Idx
