/-
  Contracts of the document's own answers for requests (qanatref13): Accept, Chunk, Open.
-/
import Derived.Test.YtohnjhifnankeaaReqRef
namespace Go.Proofs.Ytohnjhifnankeaa.Req
set_option linter.unusedVariables false
set_option maxRecDepth 100000
open Go.RowKit Base ReqMath
open Go.Sort (grow)
set_option linter.ambiguousOpen false
set_option linter.unusedSimpArgs false

set_option maxHeartbeats 1600000 in
theorem refopen_any (B : Nat) (A : Option Addr) (n c : Nat) (l : List Rq) (w : World) (hr : Qs w B A n c l) (hB : B ≤ w.heap.size) (hsz : n ≤ 1099511627770) :
    Calls Try.prog 16 #[.slice A n c] w (QsNew w (opens l)) := by
  have HL := Lib.hid hr.len
  have HR := Lib.hid hr
  have hle := hr.le
  clear hr
  go_enter Try.func16, Try.ntmps16
  go_wp2
  go_loopw [3, 4] (fun s i wr => ∃ (k m : Nat) (A2 : Option Addr) (c2 : Nat), k ≤ n ∧ m = (opens (l.take k)).length ∧ i = .int .i64 k ∧ s = .slice A2 m c2 ∧ wr.ownsRow w.heap.size 29 7 (.slice A2 m c2) m (qv (opens (l.take k))) ∧ Below w.heap.size w wr) (fun s i _ => n - (intOf i).toNat)
  case atStart => exact ⟨0, 0, none, 0, by omega, rfl, rfl, rfl, World.ownsRow_nil _ _ _ _, Below.refl _ _⟩
  case round =>
    obtain ⟨k, m, A2, c2, hk, hm, rfl, rfl, hown, hbel⟩ := hrel
    have HB2 := Lib.hid hbel
    have HO2 := Lib.hid hown
    have HM := Lib.hid hm
    have hmk : m ≤ n := by rw [hm]; exact Nat.le_trans (opens_len _) (by rw [List.length_take]; omega)
    clear hbel hown hm
    by_cases hlt : k < n
    · obtain ⟨b, off, f, rfl, hb, q0, q1, q2, q3, q4, q5, q6, hget, ht⟩ := (HR.out.below (HB2.out.mono hB)).at_ hlt
      have HS : Hid (opens (l.take (k + 1)) = opens (l.take k) ++ (if f.done then [] else [f])) := by show _ = _; rw [ht, opens_snoc]
      obtain ⟨f0, f1, f2, f3, f4, f5, f6⟩ := f
      dsimp only at q0 q1 q2 q3 q4 q5 q6 HS
      have l1 : (k : Int) < (n : Int) := by omega
      clear hget ht
      cases f6 with
      | true =>
        rw [if_pos rfl, List.append_nil] at HS
        go_wp2
        go_roundw
        case rel => exact ⟨k + 1, m, A2, c2, by omega, by rw [HS.out]; exact HM.out, by go_num, rfl, by rw [HS.out]; exact HO2.out, HB2.out⟩
        case measure => simp [intOf]; omega
      | false =>
        rw [if_neg (by simp)] at HS
        have hz := HB2.out.size
        go_wp2_with (first
          | (at_builtin
             refine wpList_append_row rfl (.tmp 17) (.tmp 22) rfl qel w.heap.size _ m (qv (opens (l.take k))) rfl (own_keep HO2.out ((Below.refl _ _).alloc (Nat.le_refl _) _)) (wr.heap.size + 1) _ 1 1 (qv [⟨f0, f1, f2, f3, f4, f5, false⟩]) rfl (qone wr ⟨f0, f1, f2, f3, f4, f5, false⟩ rfl) (qv_one _) (by omega) (by omega) (by simp; omega) ?_
             intro A3 c3 w3 hown3 _ hb3
             rw [← qv_append] at hown3
             have HO3 := Lib.hid hown3
             have HB3 := Lib.hid ((HB2.out.alloc hz _).trans hb3)
             clear hown3 hb3)
          | fail)
        go_roundw
        case rel => exact ⟨k + 1, m + 1, A3, c3, by omega, by rw [HS.out, List.length_append, ← HM.out]; rfl, by go_num, rfl, by rw [HS.out]; exact HO3.out, HB3.out⟩
        case measure => simp [intOf]; omega
    · obtain rfl : k = n := by omega
      have HT : Hid (l.take k = l) := List.take_of_length_le (by rw [HL.out]; omega)
      rw [HT.out] at HO2 HM
      go_wp2
      go_ret
      exact ⟨A2, c2, by rw [← HM.out]; rfl, by rw [← HM.out]; exact HO2.out, HB2.out⟩

set_option maxHeartbeats 1600000 in
theorem refaccept_any (B : Nat) (A : Option Addr) (n c : Nat) (l : List Rq) (t k a : Int) (w : World) (h : Qs w B A n c l) (hB : B ≤ w.heap.size) (hn : n ≤ 1099511627770) :
    Calls Try.prog 21 #[.slice A n c, .int .i64 t, .int .i64 k, .int .i64 a] w (Ans w (accept l t k a)) := by
  have hlen := h.len
  have HFR : Hid (fresh l t k a = ⟨(n : Int) + 1, t, k, a, 0, 0, false⟩) := by show _ = _; unfold fresh; rw [hlen]
  have HAC : Hid (accept l t k a = if may l && may (l ++ [fresh l t k a]) then some (l ++ [fresh l t k a]) else none) := by show _ = _; rw [← accept_may]; rfl
  have HR := Lib.hid h
  have HL := Lib.hid hlen
  rw [HFR.out] at HAC
  clear hlen h
  go_enter Try.func21, Try.ntmps21
  go_wp2_with (first
    | (at_builtin
       refine wpList_append_row rfl (.tmp 11) (.tmp 12) rfl qel w.heap.size _ 0 [] rfl (own_empty _ _ _ _ rfl (Nat.le_refl _)) B A n c (qv l) rfl (Row.alloc HR.out hB _) (qv_one _) (by omega) (by omega) (by simp) ?_
       intro A1 c1 w1 hown1 _ hb1
       rw [Nat.zero_add, List.nil_append] at hown1
       rw [Nat.zero_add]
       have HY1 := Lib.hid hown1
       have HB1 := Lib.hid (((Below.refl w.heap.size w).alloc (Nat.le_refl _) _).trans hb1)
       clear hown1 hb1)
    | (at_builtin
       refine wpList_append_row rfl (.tmp 14) (.tmp 22) rfl qel w.heap.size (.slice A1 n c1) n (qv l) rfl (own_keep HY1.out ((Below.refl _ _).alloc (Nat.le_refl _) _)) (w1.heap.size + 1) (some ⟨w1.heap.size, 0, none⟩) 1 1 (qv [⟨(n : Int) + 1, t, k, a, 0, 0, false⟩]) rfl (qone w1 ⟨(n : Int) + 1, t, k, a, 0, 0, false⟩ rfl) (qv_one _) (by omega) (by omega) (by have := HB1.out.size; simp; omega) ?_
       intro A2 c2 w2 hown2 _ hb2
       rw [← qv_append] at hown2
       have HY2 := Lib.hid hown2
       have HB2 := Lib.hid ((HB1.out.alloc HB1.out.size _).trans hb2)
       clear hown2 hb2)
    | fail)
  refine (refmay_any B A n c l w2 (HR.out.below (HB2.out.mono hB)) (Nat.le_trans hB HB2.out.size)).mono ?_
  rintro e w3 ⟨rfl, hg3⟩
  have HB3 := Lib.hid (held_two HB2.out hg3.below)
  have HY3 := Lib.hid (own_keep HY2.out hg3.below)
  clear hg3
  generalize may l = b1 at *
  cases b1 with
  | false =>
    rw [Bool.false_and, if_neg (by simp)] at HAC
    go_wp2
    go_ret2
    unfold Ans
    rw [HAC.out]
    exact ⟨rfl, HB3.out⟩
  | true =>
    rw [Bool.true_and] at HAC
    go_wp2_with fail
    refine (refmay_any w3.heap.size A2 (n + 1) c2 (l ++ [⟨(n : Int) + 1, t, k, a, 0, 0, false⟩]) w3 (Qs.of_own HY3.out) (Nat.le_refl _)).mono ?_
    rintro e w4 ⟨rfl, hg4⟩
    have HB4 := Lib.hid (held_two HB3.out hg4.below)
    have HY4 := Lib.hid (own_keep HY3.out hg4.below)
    have HLM : Hid ((l ++ [(⟨(n : Int) + 1, t, k, a, 0, 0, false⟩ : Rq)]).length = n + 1) := by show _ = _; rw [List.length_append, HL.out]; rfl
    clear hg4
    generalize l ++ [(⟨(n : Int) + 1, t, k, a, 0, 0, false⟩ : Rq)] = m at *
    generalize may m = b2 at *
    cases b2 with
    | false =>
      rw [if_neg (by simp)] at HAC
      go_wp2
      go_ret2
      unfold Ans
      rw [HAC.out]
      exact ⟨rfl, HB4.out⟩
    | true =>
      rw [if_pos rfl] at HAC
      go_wp2
      go_ret2
      unfold Ans
      rw [HAC.out]
      exact ⟨A2, c2, by rw [HLM.out]; rfl, by rw [HLM.out]; exact HY4.out, HB4.out⟩

set_option maxHeartbeats 6400000 in
theorem refchunk_any (B : Nat) (A : Option Addr) (n c : Nat) (l : List Rq) (i x : Int) (d : Bool) (w : World) (h : Qs w B A n c l) (hB : B ≤ w.heap.size) (hn : n ≤ 1099511627770) :
    Calls Try.prog 22 #[.slice A n c, .int .i64 i, .int .i64 x, .bool d] w (Ans w (chunk l i x d)) := by
  have HL := Lib.hid h.len
  have HR := Lib.hid h
  have hle := h.le
  have HNM := Lib.hid (chunk_nomay (l := l) (i := i) (c := x) (d := d))
  clear h
  go_enter Try.func22, Try.ntmps22
  go_wp2_with fail
  refine (refmay_any B A n c l w HR.out hB).mono ?_
  rintro e w1 ⟨rfl, hg1⟩
  have HB1 := Lib.hid hg1.below
  have HR1 : Hid (Qs w1 B A n c l) := HR.out.below (hg1.below.mono hB)
  have HBW1 : Hid (B ≤ w1.heap.size) := Nat.le_trans hB hg1.below.size
  have HIN : Hid (may l = true → ∀ (k : Nat) (r : Rq), l[k]? = some r → inb r = true) := fun hm k r hr => (may_in hm hr).2
  have HCS : Hid (∀ r, got l i = some r → chunk l i x d = if may l && goesOn r x then some (l.set (i - 1).toNat (more r x d)) else none) := fun r hr => chunk_some hr
  clear hg1
  generalize may l = b1 at *
  cases b1 with
  | false =>
    go_wp2
    go_ret2
    unfold Ans
    rw [HNM.out (by first | rfl | trivial)]
    exact ⟨rfl, HB1.out⟩
  | true =>
    by_cases h1 : i < 1
    · have HN := Lib.hid (chunk_none (c := x) (d := d) (got_none (l := l) (i := i) (.inl h1)))
      have l1 : decide (i < 1) = true := by rw [decide_eq_true_eq]; exact h1
      go_wp2
      go_ret2
      unfold Ans
      rw [HN.out]
      exact ⟨rfl, HB1.out⟩
    have l1 : decide (i < 1) = false := by rw [decide_eq_false_iff_not]; exact h1
    by_cases h2 : (n : Int) < i
    · have HN := Lib.hid (chunk_none (c := x) (d := d) (got_none (l := l) (i := i) (.inr (by rw [HL.out]; exact h2))))
      have l2 : decide ((n : Int) < i) = true := by rw [decide_eq_true_eq]; exact h2
      go_wp2
      go_ret2
      unfold Ans
      rw [HN.out]
      exact ⟨rfl, HB1.out⟩
    obtain ⟨k, rfl⟩ : ∃ k : Nat, i = (k : Int) + 1 := ⟨(i - 1).toNat, by omega⟩
    have hkn : k < n := by omega
    obtain ⟨b, off, f, rfl, hb, c0, c1, c2, c3, c4, c5, c6, hget, _⟩ := HR1.out.at_ hkn
    have hinb := inb_parts (HIN.out (by first | rfl | trivial) k f hget)
    have HS := Lib.hid (HCS.out f (got_some rfl hget))
    rw [show ((k : Int) + 1 - 1).toNat = k by omega, Bool.true_and] at HS
    obtain ⟨f0, f1, f2, f3, f4, f5, f6⟩ := f
    dsimp only at c0 c1 c2 c3 c4 c5 c6 hinb
    obtain ⟨_, _, _, _, _, _, _, _, i1, i2⟩ := hinb
    have l2 : decide ((n : Int) < (k : Int) + 1) = false := by rw [decide_eq_false_iff_not]; omega
    have l3 : (k : Int) < (n : Int) := by omega
    have l1' : decide ((k : Int) + 1 < 1) = false := l1
    clear h1 h2 l1 hget HCS HIN
    obtain ⟨X, hX⟩ : ∃ X, X = w1.alloc (.cells #[.int .i64 f0, .int .i64 f1, .int .i64 f2, .int .i64 f3, .int .i64 f4, .int .i64 f5, .bool f6] 29) := ⟨_, rfl⟩
    have hx : Blk X w1.heap.size 29 #[.int .i64 f0, .int .i64 f1, .int .i64 f2, .int .i64 f3, .int .i64 f4, .int .i64 f5, .bool f6] := by rw [hX]; exact Blk.new _ _ _
    have HBX : Hid (Below w.heap.size w X) := by show Below _ _ _; rw [hX]; exact HB1.out.alloc HB1.out.size _
    obtain ⟨p, hp⟩ : ∃ p, p = w1.heap.size := ⟨_, rfl⟩
    rw [← hp] at hx
    have HPB : Hid (w.heap.size ≤ p) := by show _ ≤ _; rw [hp]; exact HB1.out.size
    have HX := Lib.hid hx
    have HXE := Lib.hid hX
    have HP := Lib.hid hp
    have q0 := hx.cell 0
    have q1 := hx.cell 1
    have q2 := hx.cell 2
    have q3 := hx.cell 3
    have q4 := hx.cell 4
    have q5 := hx.cell 5
    have q6 := hx.cell 6
    have f4' := hx.frozen 4
    have f5' := hx.frozen 5
    have f6' := hx.frozen 6
    clear hx hX hp
    go_upto_region 4 with fail
    rw [← HXE.out, ← HP.out]
    clear c0 c1 c2 c3 c4 c5 c6
    cases f6 with
    | true =>
      go_wp2
      go_ret2
      unfold Ans
      rw [HS.out, goesOn_no (Or.inl rfl), if_neg (by simp)]
      exact ⟨rfl, HBX.out⟩
    | false =>
      by_cases u1 : f4 ≤ x
      rotate_left
      · have y1 : decide (x < f4) = true := by simp; omega
        go_wp2
        go_ret2
        unfold Ans
        rw [HS.out, goesOn_no (.inr (.inl (by dsimp only; omega))), if_neg (by simp)]
        exact ⟨rfl, HBX.out⟩
      have y1 : decide (x < f4) = false := by simp; omega
      by_cases u2 : x ≤ 1099511627776
      rotate_left
      · have y2 : decide (1099511627776 < x) = true := by simp; omega
        go_wp2
        go_ret2
        unfold Ans
        rw [HS.out, goesOn_no (.inr (.inr (.inl (by omega)))), if_neg (by simp)]
        exact ⟨rfl, HBX.out⟩
      have y2 : decide (1099511627776 < x) = false := by simp; omega
      by_cases u3 : f5 = 1099511627776
      · have y3 : (f5 == 1099511627776) = true := by simpa using u3
        go_wp2
        go_ret2
        unfold Ans
        rw [HS.out, goesOn_no (.inr (.inr (.inr (by dsimp only; omega)))), if_neg (by simp)]
        exact ⟨rfl, HBX.out⟩
      have y3 : (f5 == 1099511627776) = false := by simpa using u3
      have hr5 : f5 < 1099511627776 := by omega
      have HGO := Lib.hid (goesOn_yes (r := ⟨f0, f1, f2, f3, f4, f5, false⟩) (c := x) rfl u1 u2 hr5)
      rw [HGO.out, if_pos rfl] at HS
      have hpX := HX.out.lt
      have HRX : Hid (Qs X w.heap.size (some ⟨b, off, none⟩) n c l) := (HR.out.more hB).below HBX.out
      go_wp2_with (first
        | (at_builtin
           refine wpList_append_row rfl (.tmp 47) (.tmp 48) rfl qel X.heap.size _ 0 [] rfl (own_empty _ _ _ _ rfl (Nat.le_refl _)) w.heap.size _ n c (qv l) rfl (Row.alloc HRX.out HBX.out.size _) (qv_one _) (by omega) (by omega) (by simp) ?_
           intro A1 c1 w2 hown1 _ hb1
           rw [Nat.zero_add, List.nil_append] at hown1
           rw [Nat.zero_add]
           have hbb := ((Below.refl X.heap.size X).alloc (Nat.le_refl _) (.cells #[] 29)).trans hb1
           have hx2 := HX.out.below hbb hpX
           have hz := hown1.2
           rcases hz with ⟨_, h0⟩ | ⟨g, cap, cur, hv, _⟩
           · omega
           simp only [Value.slice.injEq] at hv
           obtain ⟨rfl, _, rfl⟩ := hv
           obtain ⟨cur2, hB2, hin, hbase⟩ := own_cell hown1 HL.out hkn
           have q0 := hx2.cell 0
           have q1 := hx2.cell 1
           have q2 := hx2.cell 2
           have q3 := hx2.cell 3
           have q4 := hx2.cell 4
           have q5 := hx2.cell 5
           have q6 := hx2.cell 6
           have p4 := hx2.frozen 4
           have p5 := hx2.frozen 5
           have p6 := hx2.frozen 6
           obtain ⟨v0, d0⟩ : ∃ u, w2.cell? ⟨g, k * 7, none⟩ = some u := ⟨_, by rw [hB2.cell]; exact Array.getElem?_eq_getElem (by omega)⟩
           obtain ⟨v1, d1⟩ : ∃ u, w2.cell? ⟨g, k * 7 + 1, none⟩ = some u := ⟨_, by rw [hB2.cell]; exact Array.getElem?_eq_getElem (by omega)⟩
           obtain ⟨v2, d2⟩ : ∃ u, w2.cell? ⟨g, k * 7 + 2, none⟩ = some u := ⟨_, by rw [hB2.cell]; exact Array.getElem?_eq_getElem (by omega)⟩
           obtain ⟨v3, d3⟩ : ∃ u, w2.cell? ⟨g, k * 7 + 3, none⟩ = some u := ⟨_, by rw [hB2.cell]; exact Array.getElem?_eq_getElem (by omega)⟩
           obtain ⟨v4, d4⟩ : ∃ u, w2.cell? ⟨g, k * 7 + 4, none⟩ = some u := ⟨_, by rw [hB2.cell]; exact Array.getElem?_eq_getElem (by omega)⟩
           obtain ⟨v5, d5⟩ : ∃ u, w2.cell? ⟨g, k * 7 + 5, none⟩ = some u := ⟨_, by rw [hB2.cell]; exact Array.getElem?_eq_getElem (by omega)⟩
           obtain ⟨v6, d6⟩ : ∃ u, w2.cell? ⟨g, k * 7 + 6, none⟩ = some u := ⟨_, by rw [hB2.cell]; exact Array.getElem?_eq_getElem (by omega)⟩
           have e0 := hB2.frozen (k * 7)
           have e1 := hB2.frozen (k * 7 + 1)
           have e2 := hB2.frozen (k * 7 + 2)
           have e3 := hB2.frozen (k * 7 + 3)
           have e4 := hB2.frozen (k * 7 + 4)
           have e5 := hB2.frozen (k * 7 + 5)
           have e6 := hB2.frozen (k * 7 + 6)
           have hpg : p ≠ g := by omega
           have hgp : g ≠ p := by omega
           have HOW := Lib.hid hown1
           have HB3 := Lib.hid (HBX.out.trans (hbb.mono HBX.out.size))
           have hgw : w.heap.size ≤ g := by have := HBX.out.size; omega
           clear hown1 hb1 hbb hx2 hB2 hin hbase)
        | fail)
      go_ret2
      unfold Ans
      rw [HS.out]
      have hown4 : ((((w2.setCell ⟨p, 4, none⟩ (.int .i64 x)).setCell ⟨p, 5, none⟩ (.int .i64 (f5 + 1))).setCell ⟨p, 6, none⟩ (.bool d))).ownsRow X.heap.size 29 7 (.slice (some ⟨g, 0, none⟩) n c1) n (qv l) :=
        HOW.out.kept (only_setCell (only_setCell (only_setCell (World.grownBy.refl w2 (some p)) (.inl rfl) _) (.inl rfl) _) (.inl rfl) _) (.inr (by simpa [Value.ownBlock] using hgp))
      have hb4 : Below w.heap.size w (((w2.setCell ⟨p, 4, none⟩ (.int .i64 x)).setCell ⟨p, 5, none⟩ (.int .i64 (f5 + 1))).setCell ⟨p, 6, none⟩ (.bool d)) := ((HB3.out.setCell HPB.out _).setCell HPB.out _).setCell HPB.out _
      refine ⟨some ⟨g, 0, none⟩, c1, by rw [List.length_set, HL.out]; rfl, ?_, ?_⟩
      · rw [List.length_set, HL.out]
        exact own_mono (own_set hown4 HL.out hkn (more ⟨f0, f1, f2, f3, f4, f5, false⟩ x d)) HBX.out.size
      · exact stset_below hb4 hgw k (more ⟨f0, f1, f2, f3, f4, f5, false⟩ x d)
end Go.Proofs.Ytohnjhifnankeaa.Req
