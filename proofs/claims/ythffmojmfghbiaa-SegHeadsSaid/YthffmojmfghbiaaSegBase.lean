/-
  The first line of each statement on segments (awake), and contracts of the statements' own helpers: a segment's bytes, both readers held against each other.
-/
import Derived.Test.YthffmojmfghbiaaSegRead
import Derived.Test.YthffmojmfghbiaaPlayBig
import Derived.Test.YthffmojmfghbiaaPlayMod
import Derived.Test.YthffmojmfghbiaaHelpMany
namespace Go.Proofs.Ythffmojmfghbiaa.Seg
open Go.RowKit Base FieldMath RecMath SegMath
open Go.Proofs.Ythffmojmfghbiaa.Field Go.Proofs.Ythffmojmfghbiaa.Rec Help
set_option linter.ambiguousOpen false

theorem own_len {w : World} {base n c : Nat} {A : Option Addr} {l : List UInt8} {e : TypeId} (h : w.ownsRow base e 1 (.slice A n c) n (bv l)) : l.length = n := by
  have := h.1
  rw [bv_length, Nat.mul_one] at this
  exact this

/-- Head at a number that may be -/
def Headed (w : World) (l : List UInt8) (n : Nat) (e : Ending) (w' : World) : Prop :=
  ∃ A c, e = .returned (.tuple #[.slice A n c, .int .i64 0]) ∧ w'.ownsRow w.heap.size 5 1 (.slice A n c) n (bv l) ∧ Below w.heap.size w w'
theorem headed {w w' : World} {x : Int} {e : Ending} (h0 : 1 ≤ x) (h1 : x ≤ 1099511627776) (h : Putted w (head x) e w') : Headed w (headB x) 19 e w' := by
  obtain ⟨A, n, c, he, ho, hb⟩ := h
  rw [head, if_pos ⟨h0, h1⟩] at he ho
  have hn : 19 = n := by rw [← own_len ho]; exact (headB_length x).symm
  subst hn
  exact ⟨A, c, he, ho, hb⟩
/-- Read where the answer is known -/
theorem segread_val {w : World} {r : Sr} {e : Ending} {w' : World} (h : SegRead w r e w') {x : Int} {ls : List (List UInt8)} {n k : Nat} (hr : r = ⟨x, ls, n, k⟩) :
    ∃ A m c, m = ls.length ∧ e = .returned (.tuple #[.int .i64 x, .slice A m c, .int .i64 n, .int .i64 k]) ∧ Lists w' w'.heap.size A m c ls ∧ Below w.heap.size w w' := by
  subst hr
  obtain ⟨A, c, h1, h2, h3⟩ := h
  exact ⟨A, _, c, rfl, h1, h2.lists, h3⟩
theorem sread_seven : sread (headB 7) = ⟨7, [], 19, 0⟩ := by
  have := sread_head (x := 7) (by omega) (by omega) []
  rw [List.append_nil, scan_nil] at this
  exact this

set_option maxHeartbeats 800000 in
theorem awake_any (w : World) :
    Calls Try.prog 10 #[] w fun e w' => e = .returned (.bool true) ∧ Below w.heap.size w w' := by
  go_enter Try.func10, Try.ntmps10
  go_wp2_with fail
  refine (head_any 7 w).mono ?_
  rintro e w1 h1
  obtain ⟨A1, c1, rfl, ho1, hb1⟩ := headed (by omega) (by omega) h1
  have HY1 := Lib.hid (Bytes.of_own ho1)
  have HB1 := Lib.hid hb1
  clear h1 ho1 hb1
  go_wp2_with fail
  refine (segread_any _ _ _ _ _ _ HY1.out (Nat.le_refl _) (by omega)).mono ?_
  rintro e w2 h2
  obtain ⟨A2, m2, c2, hm2, rfl, _, hb2⟩ := segread_val h2 sread_seven
  simp at hm2
  subst hm2
  have HB2 := Lib.hid (held_two HB1.out hb2)
  clear h2 hb2
  go_wp2
  go_ret
  exact ⟨rfl, HB2.out⟩

/-! ### a segment's bytes -/
def putB (p : List UInt8) : List UInt8 := got (put p)
theorem putB_le (p : List UInt8) : (putB p).length ≤ 1048584 := by
  unfold putB put
  split
  · simp [got]
  · simp only [got, recB_length]; omega
theorem putB_recs (ls : List (List UInt8)) (h : ∀ p ∈ ls, p.length ≤ 1048576) : ls.flatMap putB = recs ls := by
  induction ls with
  | nil => rfl
  | cons p ls ih =>
    rw [List.flatMap_cons, recs_cons, ih fun q hq => h q (List.mem_cons_of_mem _ hq)]
    congr 1
    unfold putB put
    rw [if_neg (by have := h p (List.mem_cons_self ..); omega)]
    rfl
def bytesB (x : Int) (ls : List (List UInt8)) : List UInt8 := headB x ++ (ls.take 30).flatMap putB
theorem bytesB_len (x : Int) (ls : List (List UInt8)) : 19 ≤ (bytesB x ls).length ∧ (bytesB x ls).length ≤ 31457539 := by
  have h : ∀ ms : List (List UInt8), (ms.flatMap putB).length ≤ ms.length * 1048584 := by
    intro ms
    induction ms with
    | nil => simp
    | cons p ms ih =>
      have := putB_le p
      rw [List.flatMap_cons, List.length_append, List.length_cons]
      omega
  have h1 := h (ls.take 30)
  rw [List.length_take] at h1
  rw [bytesB, List.length_append, headB_length]
  have : min 30 ls.length * 1048584 ≤ 30 * 1048584 := Nat.mul_le_mul_right _ (Nat.min_le_left _ _)
  omega

/-- a slice of bytes of the call's own, handed back -/
def NewBytes (w : World) (l : List UInt8) (e : Ending) (w' : World) : Prop :=
  ∃ A n c, e = .returned (.slice A n c) ∧ w'.ownsRow w.heap.size 5 1 (.slice A n c) n (bv l) ∧ Below w.heap.size w w'
def BytesRel (w : World) (x : Int) (ls : List (List UInt8)) (v i : Value) (wr : World) : Prop :=
  ∃ (k m : Nat) (A : Option Addr) (c : Nat), k ≤ ls.length ∧ k ≤ 30 ∧ i = .int .i64 k ∧ v = .slice A m c ∧ m ≤ 19 + k * 1048584 ∧ wr.ownsRow w.heap.size 5 1 (.slice A m c) m (bv (headB x ++ (ls.take k).flatMap putB)) ∧ Below w.heap.size w wr

set_option maxHeartbeats 800000 in
theorem bytes_any (B : Nat) (x : Int) (A : Option Addr) (n c : Nat) (ls : List (List UInt8)) (w : World) (hr : Lists w B A n c ls) (hB : B ≤ w.heap.size) (h0 : 1 ≤ x) (h1 : x ≤ 1099511627776) :
    Calls Try.prog 12 #[.int .i64 x, .slice A n c] w (NewBytes w (bytesB x ls)) := by
  have HL := Lib.hid hr.len
  have HR := Lib.hid hr
  have hle := hr.le
  clear hr
  go_enter Try.func12, Try.ntmps12
  go_wp2_with fail
  refine (refhead_any x w).mono ?_
  rintro e w1 hh
  obtain ⟨A1, c1, rfl, ho1, hb1⟩ := headed h0 h1 hh
  have HO1 := Lib.hid ho1
  have HB1 := Lib.hid hb1
  clear hh ho1 hb1
  go_wp2
  go_loopw [5, 7] (fun v i wr => BytesRel w x ls v i wr) (fun _ i _ => 30 - (intOf i).toNat)
  case atStart =>
    exact ⟨0, 19, A1, c1, by omega, by omega, rfl, rfl, by omega, by simpa using HO1.out, HB1.out⟩
  case round =>
    obtain ⟨k, m, A2, c2, hk, hk30, rfl, rfl, hm, hown, hbel⟩ := hrel
    have HO := Lib.hid hown
    have HB := Lib.hid hbel
    clear hown hbel
    rw [HL.out] at hk
    by_cases hlt : k < n
    · by_cases hlt30 : k < 30
      · obtain ⟨b, off, A3, n3, c3, p, rfl, hb, hcell, hy, hget, htake⟩ := (HR.out.below (HB.out.mono hB)).at_ hlt
        have HY := Lib.hid hy
        have HT := Lib.hid htake
        clear hget hy htake
        go_wp2_with fail
        refine (refput_any B A3 n3 c3 p _ HY.out (Nat.le_trans hB HB.out.size)).mono ?_
        rintro e w2 ⟨A4, n4, c4, rfl, ho4, hb4⟩
        have hn4 : n4 ≤ 1048584 := by rw [← own_len ho4]; exact putB_le p
        have HB4 := Lib.hid (held_two HB.out hb4)
        have HO4 := Lib.hid (own_keep HO.out hb4)
        have HY4 : Hid (Bytes w2 w2.heap.size A4 n4 c4 (putB p)) := Bytes.of_own ho4
        clear ho4 hb4
        generalize err (put p) = q
        go_wp2_with (first
          | (at_builtin
             refine wpList_append_row rfl (.tmp 33) (.tmp 34) rfl eb w.heap.size _ m _ rfl HO4.out _ A4 n4 c4 (bv (putB p)) rfl HY4.out (bv_one _) (by omega) (by omega) HB4.out.size ?_
             intro A5 c5 w5 hown5 hg5 hb5
             have HO5 := Lib.hid hown5
             have HB5 := Lib.hid (HB4.out.trans hb5)
             clear hown5 hg5 hb5)
          | fail)
        go_roundw
        case rel =>
          refine ⟨k + 1, m + n4, A5, c5, by rw [HL.out]; omega, by omega, by go_num, rfl, by omega, ?_, HB5.out⟩
          have h5 := HO5.out
          rw [← bv_append, List.append_assoc] at h5
          rw [HT.out, List.flatMap_append, List.flatMap_cons, List.flatMap_nil, List.append_nil]
          exact h5
        case measure => simp [intOf]; omega
      · obtain rfl : k = 30 := by omega
        go_wp2
        go_ret
        exact ⟨A2, m, c2, rfl, HO.out, HB.out⟩
    · obtain rfl : k = n := by omega
      have HX : Hid (bytesB x ls = headB x ++ (ls.take k).flatMap putB) := by
        show bytesB x ls = _
        rw [bytesB, List.take_of_length_le (by rw [HL.out]; omega), List.take_of_length_le (by rw [HL.out]; omega)]
      go_wp2
      go_ret
      rw [HX.out]
      exact ⟨A2, m, c2, rfl, HO.out, HB.out⟩

/-! ### both readers -/
set_option maxHeartbeats 800000 in
theorem alike_any (B : Nat) (A : Option Addr) (n c : Nat) (l : List UInt8) (w : World) (hr : Bytes w B A n c l) (hB : B ≤ w.heap.size) (hn : n ≤ 35184372088832) :
    Calls Try.prog 14 #[.slice A n c] w fun e w' => e = .returned (.bool true) ∧ Below w.heap.size w w' := by
  have HR := Lib.hid hr
  clear hr
  go_enter Try.func14, Try.ntmps14
  go_wp2_with (first
    | (at_builtin
       refine wpList_append_row rfl (.tmp 12) (.tmp 13) rfl eb w.heap.size _ 0 [] rfl (own_empty _ _ _ _ rfl (Nat.le_refl _)) B A n c (bv l) rfl (HR.out.alloc hB _) (bv_one _) (by omega) (by omega) (by simp) ?_
       intro A1 c1 w1 hown1 _ hb1
       rw [Nat.zero_add, List.nil_append] at hown1
       rw [Nat.zero_add]
       have HY1 := Lib.hid (Bytes.of_own hown1)
       have HB1 := Lib.hid (((Below.refl w.heap.size w).alloc (Nat.le_refl _) _).trans hb1)
       clear hown1 hb1)
    | fail)
  refine (segread_any _ _ _ _ l _ HY1.out (Nat.le_refl _) hn).mono ?_
  rintro e w2 ⟨A2, c2, rfl, hl2, hb2⟩
  have HB2 := Lib.hid (held_two HB1.out hb2)
  have HL2 := Lib.hid hl2.lists
  clear hl2 hb2
  generalize hs : sread l = s at *
  obtain ⟨x, rows, m, k⟩ := s
  dsimp only at *
  have HS := Lib.hid hs
  clear hs
  generalize hrl : rows.length = r at *
  have HN := Lib.hid hrl
  clear hrl
  go_wp2_with fail
  refine (refsegread_any B _ _ _ l _ (HR.out.below (HB2.out.mono hB)) (Nat.le_trans hB HB2.out.size) hn).mono ?_
  rintro e w3 h3
  obtain ⟨A3, n3, c3, hn3, rfl, hl3, hb3⟩ := segread_val h3 HS.out
  rw [HN.out] at hn3
  subst hn3
  have HB3 := Lib.hid (held_two HB2.out hb3)
  have HL2' := Lib.hid (HL2.out.below hb3)
  have HL3 := Lib.hid hl3
  have hz3 := hb3.size
  clear h3 hl3 hb3
  go_wp2_with fail
  refine (many_same _ _ _ _ _ _ _ _ _ HL2'.out HL3.out hz3 (Nat.le_refl _)).mono ?_
  rintro e w4 ⟨rfl, hb4⟩
  have HB4 := Lib.hid (held_two HB3.out hb4)
  clear hb4
  go_wp2
  go_ret
  exact ⟨rfl, HB4.out⟩

set_option maxHeartbeats 400000 in
theorem one_any (B : Nat) (A : Option Addr) (n c : Nat) (l : List UInt8) (w : World) (hr : Bytes w B A n c l) (hB : B ≤ w.heap.size) (hn : n ≤ 35184372088832) (hs : sread l = bad) :
    Calls Try.prog 20 #[.slice A n c] w fun e w' => e = .returned (.bool true) ∧ Below w.heap.size w w' := by
  have HR := Lib.hid hr
  have HS := Lib.hid hs
  clear hr hs
  go_enter Try.func20, Try.ntmps20
  go_wp2_with fail
  refine (segread_any B _ _ _ l _ HR.out hB hn).mono ?_
  rintro e w2 h2
  obtain ⟨A2, m2, c2, hm2, rfl, _, hb2⟩ := segread_val h2 HS.out
  simp at hm2
  subst hm2
  have HB2 := Lib.hid hb2
  clear h2 hb2
  go_wp2
  go_ret
  exact ⟨rfl, HB2.out⟩
end Go.Proofs.Ythffmojmfghbiaa.Seg
