/-
  Contracts of the document's own rows (qanatref07): Put, Del, Get, After, Make.
-/
import Derived.Test.YtlgdbpejefgeaaaRowMem
import Derived.Test.YtlgdbpejefgeaaaTurn
namespace Go.Proofs.Ytlgdbpejefgeaaa.Idx
set_option linter.unusedVariables false
set_option maxRecDepth 100000
open Go.RowKit Base IdxMath Foot
open Go.Sort (grow)
set_option linter.ambiguousOpen false
set_option linter.unusedSimpArgs false

/-- a slice of rows that is nil where it has no address -/
def Rz (w : World) (B : Nat) (A : Option Addr) (n c : Nat) (l : List Rw) : Prop := Rs w B A n c l ∧ (A = none → c = 0)
theorem Rz.below {w w' : World} {B n c : Nat} {A : Option Addr} {l : List Rw} (h : Rz w B A n c l) (hb : Below B w w') : Rz w' B A n c l := ⟨h.1.below hb, h.2⟩
theorem Rz.more {w : World} {B B' n c : Nat} {A : Option Addr} {l : List Rw} (h : Rz w B A n c l) (hB : B ≤ B') : Rz w B' A n c l := ⟨h.1.more hB, h.2⟩
theorem Rz.of_own {w : World} {A : Option Addr} {n c base : Nat} {l : List Rw} (h : w.ownsRow base 36 2 (.slice A n c) n (rv l)) : Rz w w.heap.size A n c l := by
  refine ⟨Rs.of_own h, fun hA => ?_⟩
  subst hA
  rcases h.2 with ⟨hv, h1⟩ | ⟨g, cap, cur, hv, _⟩
  · simp only [Value.slice.injEq] at hv; exact hv.2.2
  · simp only [Value.slice.injEq] at hv
    obtain ⟨h1, _⟩ := hv
    cases h1
theorem one_row (w : World) (k : Int) (v : ByteArray) {s : Nat} (hs : s = w.heap.size) : Row (w.alloc (.cells #[.int .i64 k, .string v] 36)) (w.heap.size + 1) 2 (some ⟨s, 0, none⟩) 1 1 (rv [⟨k, v⟩]) :=
  Row.lit w #[.int .i64 k, .string v] 36 (0, 0) hs rfl (by omega)
theorem take_ne {l : List Rw} {k : Int} {i : Nat} {x : Rw} (h : ∀ y ∈ l.take i, y.key ≠ k) (ht : l.take (i + 1) = l.take i ++ [x]) (hk : x.key ≠ k) : ∀ y ∈ l.take (i + 1), y.key ≠ k := fun y hy => by
  rw [ht] at hy
  rcases List.mem_append.1 hy with hy | hy
  · exact h y hy
  · rw [List.mem_singleton] at hy
    subst hy
    exact hk
theorem pos_step {l : List Rw} {k : Int} {i : Nat} {x : Rw} (hi : i ≤ pos l k) (hx : l[i]? = some x) (h : x.key < k) : i + 1 ≤ pos l k := by
  induction l generalizing i with
  | nil => simp at hx
  | cons y r ih =>
    unfold pos at hi ⊢
    by_cases hy : y.key < k
    · rw [if_pos hy] at hi ⊢
      cases i with
      | zero => omega
      | succ i => have := ih (i := i) (by omega) (by simpa using hx); omega
    · rw [if_neg hy] at hi
      obtain rfl : i = 0 := by omega
      simp at hx
      subst hx
      exact absurd h hy
theorem pos_stop {l : List Rw} {k : Int} {i : Nat} {x : Rw} (hi : i ≤ pos l k) (hx : l[i]? = some x) (h : ¬ x.key < k) : i = pos l k := by
  induction l generalizing i with
  | nil => simp at hx
  | cons y r ih =>
    unfold pos at hi ⊢
    by_cases hy : y.key < k
    · rw [if_pos hy] at hi ⊢
      cases i with
      | zero =>
        simp at hx
        subst hx
        exact absurd hy h
      | succ i => have := ih (i := i) (by omega) (by simpa using hx); omega
    · rw [if_neg hy] at hi ⊢
      omega

/-- what the document's Put and Del answer: rows in new memory, and a Bool -/
def PutR (w : World) (l : List Rw) (k : Int) (v : ByteArray) (e : Ending) (w' : World) : Prop :=
  ∃ A c, e = .returned (.tuple #[.slice A (put l k v).length c, .bool (!there l k)]) ∧ w'.ownsRow w.heap.size 36 2 (.slice A (put l k v).length c) (put l k v).length (rv (put l k v)) ∧ Below w.heap.size w w'
set_option maxHeartbeats 3200000 in
theorem refput_any (B : Nat) (A : Option Addr) (n c : Nat) (l : List Rw) (k : Int) (v : ByteArray) (w : World) (h : Rz w B A n c l) (hB : B ≤ w.heap.size) (hsz : n ≤ 1099511627774) :
    Calls Try.prog 20 #[.slice A n c, .int .i64 k, .string v] w (PutR w l k v) := by
  have hlen := h.1.len
  have hle := h.1.le
  have HR := Lib.hid h
  have hple := pos_le l k
  rw [hlen] at hple
  have HL := Lib.hid hlen
  clear h hlen
  go_enter Try.func20, Try.ntmps20
  go_wp2
  go_loop [8] (fun vi => ∃ i : Nat, vi = .int .i64 i ∧ i ≤ pos l k) (fun vi => n - (intOf vi).toNat)
  case atStart => exact ⟨0, rfl, Nat.zero_le _⟩
  case round =>
    obtain ⟨i, rfl, hi⟩ := hrel
    by_cases hin : i < n
    · obtain ⟨b, off, x, rfl, hbB, c0, c1, hx, _⟩ := HR.out.1.at_ hin
      have HX := Lib.hid hx
      have l1 : (i : Int) < (n : Int) := by omega
      clear hx
      by_cases hxk : x.key < k
      · have HXK := Lib.hid hxk
        have HI := Lib.hid hi
        clear hi
        go_wp2
        go_round
        case rel => exact ⟨i + 1, by go_num, pos_step HI.out HX.out HXK.out⟩
        case measure => simp [intOf]; omega
      · have hip := pos_stop hi HX.out hxk
        have HIP := Lib.hid hip
        have HF : Hid (Rs w B (some ⟨b, off, none⟩) i c (l.take i)) := HR.out.1.front (by omega)
        have HC := Lib.hid (HR.out.1.cut (k := i) (by omega))
        have HC1 := Lib.hid (HR.out.1.cut (k := i + 1) (by omega))
        have HTL := Lib.hid (show (rv (l.take i)) = (rv (l.take i)) from rfl)
        clear hip hi hple
        have l2 : i ≤ c := by omega
        have l3 : (i : Int) + 1 ≤ (n : Int) := by omega
        have l4 : (0 : Int) ≤ (i : Int) + 1 := by omega
        have l5 : ((i : Int) + 1).toNat = i + 1 := by omega
        have l6 : ¬ c = i := by omega
        by_cases hxe : x.key = k
        · have HT := Lib.hid (there_yes (l := l) (k := k) (by rw [← HIP.out]; exact HX.out) hxe)
          have HAFT : Hid (put l k v = l.take i ++ [⟨k, v⟩] ++ l.drop (i + 1)) := by show _ = _; rw [put_eq, aft, if_pos HT.out, ← HIP.out]; simp
          have HLN : Hid ((put l k v).length = i + 1 + (n - (i + 1))) := by show _ = _; rw [put_length, if_pos HT.out, HL.out]; omega
          by_cases hci : c = i + 1
          · have hn1 : n = i + 1 := by omega
            subst hci
            subst hn1
            have HD : Hid (Rs w B (some ⟨b, off, none⟩) 0 0 (l.drop (i + 1))) := by show Rs _ _ _ _ _ _; rw [← HL.out, List.drop_length]; exact Row.none_ _ _ _ _ (by omega)
            rw [Nat.sub_self] at HLN
            have hxe2 : (x.key == k) = true := by simpa using hxe
            clear hxe
            go_wp2_with (first
              | (at_builtin
                 refine wpList_append_row rfl (.tmp 25) (.tmp 28) rfl er w.heap.size _ 0 [] rfl (own_empty _ _ _ _ rfl (Nat.le_refl _)) B _ i _ (rv (l.take i)) rfl (Row.alloc HF.out hB _) (rv_one _) (by omega) (by omega) (by simp) ?_
                 intro A1 c1 w1 hown1 _ hb1
                 rw [Nat.zero_add, List.nil_append] at hown1
                 rw [Nat.zero_add]
                 have HY1 := Lib.hid hown1
                 have HB1 := Lib.hid (((Below.refl w.heap.size w).alloc (Nat.le_refl _) _).trans hb1)
                 clear hown1 hb1)
              | (at_builtin
                 refine wpList_append_row rfl (.tmp 30) (.tmp 34) rfl er w.heap.size (.slice A1 i c1) i (rv (l.take i)) rfl (own_keep HY1.out ((Below.refl _ _).alloc (Nat.le_refl _) _)) (w1.heap.size + 1) (some ⟨w1.heap.size, 0, none⟩) 1 1 (rv [(⟨k, v⟩ : Rw)]) rfl (one_row w1 k v rfl) (rv_one _) (by omega) (by omega) (by have := HB1.out.size; simp; omega) ?_
                 intro A2 c2 w2 hown2 _ hb2
                 rw [← rv_append] at hown2
                 have HY2 := Lib.hid hown2
                 have HB2 := Lib.hid ((HB1.out.alloc HB1.out.size _).trans hb2)
                 have d0 := (HB2.out.cell (p := ⟨b, off + i * 2, none⟩) (by show b < _; omega)).trans c0
                 clear hown2 hb2)
              | (at_builtin
                 refine wpList_append_row rfl (.tmp 49) (.tmp 53) rfl er w.heap.size (.slice A2 (i + 1) c2) (i + 1) (rv (l.take i ++ [(⟨k, v⟩ : Rw)])) rfl HY2.out B _ 0 _ (rv (l.drop (i + 1))) rfl (Row.below HD.out (HB2.out.mono hB)) (rv_one _) (by omega) (by omega) HB2.out.size ?_
                 intro A3 c3 w3 hown3 _ hb3
                 rw [← rv_append, ← HAFT.out, ← HLN.out] at hown3
                 rw [← HLN.out]
                 have HY3 := Lib.hid hown3
                 have HB3 := Lib.hid (HB2.out.trans hb3)
                 clear hown3 hb3)
              | fail)
            go_ret2
            exact ⟨A3, c3, by rw [HT.out]; rfl, HY3.out, HB3.out⟩
          · have HD : Hid (Rs w B (some ⟨b, off + (i + 1) * 2, none⟩) (n - (i + 1)) (c - (i + 1)) (l.drop (i + 1))) := by have := HC1.out; rw [if_neg hci, Option.map_some, add_none] at this; exact this
            have hxe2 : (x.key == k) = true := by simpa using hxe
            clear hxe
            go_wp2_with (first
              | (at_builtin
                 refine wpList_append_row rfl (.tmp 25) (.tmp 28) rfl er w.heap.size _ 0 [] rfl (own_empty _ _ _ _ rfl (Nat.le_refl _)) B _ i _ (rv (l.take i)) rfl (Row.alloc HF.out hB _) (rv_one _) (by omega) (by omega) (by simp) ?_
                 intro A1 c1 w1 hown1 _ hb1
                 rw [Nat.zero_add, List.nil_append] at hown1
                 rw [Nat.zero_add]
                 have HY1 := Lib.hid hown1
                 have HB1 := Lib.hid (((Below.refl w.heap.size w).alloc (Nat.le_refl _) _).trans hb1)
                 clear hown1 hb1)
              | (at_builtin
                 refine wpList_append_row rfl (.tmp 30) (.tmp 34) rfl er w.heap.size (.slice A1 i c1) i (rv (l.take i)) rfl (own_keep HY1.out ((Below.refl _ _).alloc (Nat.le_refl _) _)) (w1.heap.size + 1) (some ⟨w1.heap.size, 0, none⟩) 1 1 (rv [(⟨k, v⟩ : Rw)]) rfl (one_row w1 k v rfl) (rv_one _) (by omega) (by omega) (by have := HB1.out.size; simp; omega) ?_
                 intro A2 c2 w2 hown2 _ hb2
                 rw [← rv_append] at hown2
                 have HY2 := Lib.hid hown2
                 have HB2 := Lib.hid ((HB1.out.alloc HB1.out.size _).trans hb2)
                 have d0 := (HB2.out.cell (p := ⟨b, off + i * 2, none⟩) (by show b < _; omega)).trans c0
                 clear hown2 hb2)
              | (at_builtin
                 refine wpList_append_row rfl (.tmp 49) (.tmp 53) rfl er w.heap.size (.slice A2 (i + 1) c2) (i + 1) (rv (l.take i ++ [(⟨k, v⟩ : Rw)])) rfl HY2.out B _ (n - (i + 1)) _ (rv (l.drop (i + 1))) rfl (Row.below HD.out (HB2.out.mono hB)) (rv_one _) (by omega) (by omega) HB2.out.size ?_
                 intro A3 c3 w3 hown3 _ hb3
                 rw [← rv_append, ← HAFT.out, ← HLN.out] at hown3
                 rw [← HLN.out]
                 have HY3 := Lib.hid hown3
                 have HB3 := Lib.hid (HB2.out.trans hb3)
                 clear hown3 hb3)
              | fail)
            go_ret2
            exact ⟨A3, c3, by rw [HT.out]; rfl, HY3.out, HB3.out⟩
        · have HT := Lib.hid (there_no (l := l) (k := k) (by rw [← HIP.out]; exact HX.out) hxe)
          have HAFT : Hid (put l k v = l.take i ++ [⟨k, v⟩] ++ l.drop i) := by show _ = _; rw [put_eq, aft, if_neg (by rw [HT.out]; simp), ← HIP.out]; simp
          have HLN : Hid ((put l k v).length = i + 1 + (n - i)) := by show _ = _; rw [put_length, if_neg (by rw [HT.out]; simp), HL.out]; omega
          have HD : Hid (Rs w B (some ⟨b, off + i * 2, none⟩) (n - i) (c - i) (l.drop i)) := by have := HC.out; rw [if_neg l6, Option.map_some, add_none] at this; exact this
          have hxe2 : (x.key == k) = false := by rw [beq_eq_false_iff_ne]; exact hxe
          clear hxe
          go_wp2_with (first
            | (at_builtin
               refine wpList_append_row rfl (.tmp 25) (.tmp 28) rfl er w.heap.size _ 0 [] rfl (own_empty _ _ _ _ rfl (Nat.le_refl _)) B _ i _ (rv (l.take i)) rfl (Row.alloc HF.out hB _) (rv_one _) (by omega) (by omega) (by simp) ?_
               intro A1 c1 w1 hown1 _ hb1
               rw [Nat.zero_add, List.nil_append] at hown1
               rw [Nat.zero_add]
               have HY1 := Lib.hid hown1
               have HB1 := Lib.hid (((Below.refl w.heap.size w).alloc (Nat.le_refl _) _).trans hb1)
               clear hown1 hb1)
            | (at_builtin
               refine wpList_append_row rfl (.tmp 30) (.tmp 34) rfl er w.heap.size (.slice A1 i c1) i (rv (l.take i)) rfl (own_keep HY1.out ((Below.refl _ _).alloc (Nat.le_refl _) _)) (w1.heap.size + 1) (some ⟨w1.heap.size, 0, none⟩) 1 1 (rv [(⟨k, v⟩ : Rw)]) rfl (one_row w1 k v rfl) (rv_one _) (by omega) (by omega) (by have := HB1.out.size; simp; omega) ?_
               intro A2 c2 w2 hown2 _ hb2
               rw [← rv_append] at hown2
               have HY2 := Lib.hid hown2
               have HB2 := Lib.hid ((HB1.out.alloc HB1.out.size _).trans hb2)
               have d0 := (HB2.out.cell (p := ⟨b, off + i * 2, none⟩) (by show b < _; omega)).trans c0
               clear hown2 hb2)
            | (at_builtin
               refine wpList_append_row rfl (.tmp 55) (.tmp 58) rfl er w.heap.size (.slice A2 (i + 1) c2) (i + 1) (rv (l.take i ++ [(⟨k, v⟩ : Rw)])) rfl HY2.out B _ (n - i) _ (rv (l.drop i)) rfl (Row.below HD.out (HB2.out.mono hB)) (rv_one _) (by omega) (by omega) HB2.out.size ?_
               intro A3 c3 w3 hown3 _ hb3
               rw [← rv_append, ← HAFT.out, ← HLN.out] at hown3
               rw [← HLN.out]
               have HY3 := Lib.hid hown3
               have HB3 := Lib.hid (HB2.out.trans hb3)
               clear hown3 hb3)
            | fail)
          go_ret2
          exact ⟨A3, c3, by rw [HT.out]; rfl, HY3.out, HB3.out⟩
    · have hip : i = pos l k := by omega
      have hin2 : n = i := by omega
      subst hin2
      have HIP := Lib.hid hip
      have HT := Lib.hid (show there l k = false from there_end (by rw [HL.out, ← HIP.out]; exact Nat.le_refl _))
      have HAFT : Hid (put l k v = l.take n ++ [⟨k, v⟩] ++ l.drop n) := by show _ = _; rw [put_eq, aft, if_neg (by rw [HT.out]; simp), ← HIP.out]; simp
      have HLN : Hid ((put l k v).length = n + 1 + 0) := by show _ = _; rw [put_length, if_neg (by rw [HT.out]; simp), HL.out]
      have HF : Hid (Rs w B A n c (l.take n)) := HR.out.1.front (Nat.le_refl _)
      have hdn : l.drop n = [] := by rw [← HL.out]; exact List.drop_length
      have HDN := Lib.hid hdn
      have l2 : n ≤ c := hle.1
      have l3 : decide ((n : Int) < (n : Int)) = false := by simp
      clear hip hi hin hple hdn
      cases A with
      | none =>
        have hc0 := HR.out.2 rfl
        subst hc0
        have hn0 : n = 0 := by omega
        subst hn0
        have HD : Hid (Rs w B none 0 0 (l.drop 0)) := by show Rs _ _ _ _ _ _; rw [HDN.out]; exact Rs.nil_ _ _
        go_wp2_with (first
          | (at_builtin
             refine wpList_append_row rfl (.tmp 25) (.tmp 28) rfl er w.heap.size _ 0 [] rfl (own_empty _ _ _ _ rfl (Nat.le_refl _)) B _ 0 _ (rv (l.take 0)) rfl (Row.alloc HF.out hB _) (rv_one _) (by omega) (by omega) (by simp) ?_
             intro A1 c1 w1 hown1 _ hb1
             rw [Nat.zero_add, List.nil_append] at hown1
             rw [Nat.zero_add]
             have HY1 := Lib.hid hown1
             have HB1 := Lib.hid (((Below.refl w.heap.size w).alloc (Nat.le_refl _) _).trans hb1)
             clear hown1 hb1)
          | (at_builtin
             refine wpList_append_row rfl (.tmp 30) (.tmp 34) rfl er w.heap.size (.slice A1 0 c1) 0 (rv (l.take 0)) rfl (own_keep HY1.out ((Below.refl _ _).alloc (Nat.le_refl _) _)) (w1.heap.size + 1) (some ⟨w1.heap.size, 0, none⟩) 1 1 (rv [(⟨k, v⟩ : Rw)]) rfl (one_row w1 k v rfl) (rv_one _) (by omega) (by omega) (by have := HB1.out.size; simp; omega) ?_
             intro A2 c2 w2 hown2 _ hb2
             rw [← rv_append] at hown2
             have HY2 := Lib.hid hown2
             have HB2 := Lib.hid ((HB1.out.alloc HB1.out.size _).trans hb2)
             clear hown2 hb2)
          | (at_builtin
             refine wpList_append_row rfl (.tmp 55) (.tmp 58) rfl er w.heap.size (.slice A2 (0 + 1) c2) (0 + 1) (rv (l.take 0 ++ [(⟨k, v⟩ : Rw)])) rfl HY2.out B _ 0 _ (rv (l.drop 0)) rfl (Row.below HD.out (HB2.out.mono hB)) (rv_one _) (by omega) (by omega) HB2.out.size ?_
             intro A3 c3 w3 hown3 _ hb3
             rw [← rv_append, ← HAFT.out, ← HLN.out] at hown3
             rw [← HLN.out]
             have HY3 := Lib.hid hown3
             have HB3 := Lib.hid (HB2.out.trans hb3)
             clear hown3 hb3)
          | fail)
        go_ret2
        exact ⟨A3, c3, by rw [HT.out]; rfl, HY3.out, HB3.out⟩
      | some a =>
        by_cases hci : c = n
        · have HD : Hid (Rs w B (some a) 0 0 (l.drop n)) := by show Rs _ _ _ _ _ _; rw [HDN.out]; exact Row.none_ _ _ _ _ (by omega)
          subst hci
          go_wp2_with (first
            | (at_builtin
               refine wpList_append_row rfl (.tmp 25) (.tmp 28) rfl er w.heap.size _ 0 [] rfl (own_empty _ _ _ _ rfl (Nat.le_refl _)) B _ c _ (rv (l.take c)) rfl (Row.alloc HF.out hB _) (rv_one _) (by omega) (by omega) (by simp) ?_
               intro A1 c1 w1 hown1 _ hb1
               rw [Nat.zero_add, List.nil_append] at hown1
               rw [Nat.zero_add]
               have HY1 := Lib.hid hown1
               have HB1 := Lib.hid (((Below.refl w.heap.size w).alloc (Nat.le_refl _) _).trans hb1)
               clear hown1 hb1)
            | (at_builtin
               refine wpList_append_row rfl (.tmp 30) (.tmp 34) rfl er w.heap.size (.slice A1 c c1) c (rv (l.take c)) rfl (own_keep HY1.out ((Below.refl _ _).alloc (Nat.le_refl _) _)) (w1.heap.size + 1) (some ⟨w1.heap.size, 0, none⟩) 1 1 (rv [(⟨k, v⟩ : Rw)]) rfl (one_row w1 k v rfl) (rv_one _) (by omega) (by omega) (by have := HB1.out.size; simp; omega) ?_
               intro A2 c2 w2 hown2 _ hb2
               rw [← rv_append] at hown2
               have HY2 := Lib.hid hown2
               have HB2 := Lib.hid ((HB1.out.alloc HB1.out.size _).trans hb2)
               clear hown2 hb2)
            | (at_builtin
               refine wpList_append_row rfl (.tmp 55) (.tmp 58) rfl er w.heap.size (.slice A2 (c + 1) c2) (c + 1) (rv (l.take c ++ [(⟨k, v⟩ : Rw)])) rfl HY2.out B _ 0 _ (rv (l.drop c)) rfl (Row.below HD.out (HB2.out.mono hB)) (rv_one _) (by omega) (by omega) HB2.out.size ?_
               intro A3 c3 w3 hown3 _ hb3
               rw [← rv_append, ← HAFT.out, ← HLN.out] at hown3
               rw [← HLN.out]
               have HY3 := Lib.hid hown3
               have HB3 := Lib.hid (HB2.out.trans hb3)
               clear hown3 hb3)
            | fail)
          go_ret2
          exact ⟨A3, c3, by rw [HT.out]; rfl, HY3.out, HB3.out⟩
        · have HD : Hid (∀ a', Rs w B (some a') 0 (c - n) (l.drop n)) := fun a' => by rw [HDN.out]; exact Row.none_ _ _ _ _ (by omega)
          go_wp2_with (first
            | (at_builtin
               refine wpList_append_row rfl (.tmp 25) (.tmp 28) rfl er w.heap.size _ 0 [] rfl (own_empty _ _ _ _ rfl (Nat.le_refl _)) B _ n _ (rv (l.take n)) rfl (Row.alloc HF.out hB _) (rv_one _) (by omega) (by omega) (by simp) ?_
               intro A1 c1 w1 hown1 _ hb1
               rw [Nat.zero_add, List.nil_append] at hown1
               rw [Nat.zero_add]
               have HY1 := Lib.hid hown1
               have HB1 := Lib.hid (((Below.refl w.heap.size w).alloc (Nat.le_refl _) _).trans hb1)
               clear hown1 hb1)
            | (at_builtin
               refine wpList_append_row rfl (.tmp 30) (.tmp 34) rfl er w.heap.size (.slice A1 n c1) n (rv (l.take n)) rfl (own_keep HY1.out ((Below.refl _ _).alloc (Nat.le_refl _) _)) (w1.heap.size + 1) (some ⟨w1.heap.size, 0, none⟩) 1 1 (rv [(⟨k, v⟩ : Rw)]) rfl (one_row w1 k v rfl) (rv_one _) (by omega) (by omega) (by have := HB1.out.size; simp; omega) ?_
               intro A2 c2 w2 hown2 _ hb2
               rw [← rv_append] at hown2
               have HY2 := Lib.hid hown2
               have HB2 := Lib.hid ((HB1.out.alloc HB1.out.size _).trans hb2)
               clear hown2 hb2)
            | (at_builtin
               refine wpList_append_row rfl (.tmp 55) (.tmp 58) rfl er w.heap.size (.slice A2 (n + 1) c2) (n + 1) (rv (l.take n ++ [(⟨k, v⟩ : Rw)])) rfl HY2.out B _ 0 _ (rv (l.drop n)) rfl (Row.below (HD.out _) (HB2.out.mono hB)) (rv_one _) (by omega) (by omega) HB2.out.size ?_
               intro A3 c3 w3 hown3 _ hb3
               rw [← rv_append, ← HAFT.out, ← HLN.out] at hown3
               rw [← HLN.out]
               have HY3 := Lib.hid hown3
               have HB3 := Lib.hid (HB2.out.trans hb3)
               clear hown3 hb3)
            | fail)
          go_ret2
          exact ⟨A3, c3, by rw [HT.out]; rfl, HY3.out, HB3.out⟩
end Go.Proofs.Ytlgdbpejefgeaaa.Idx
