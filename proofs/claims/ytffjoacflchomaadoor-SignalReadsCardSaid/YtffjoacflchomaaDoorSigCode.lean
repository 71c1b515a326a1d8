/-
  The signals' calls, Parse and Text, and the document's: what they answer, of any text, of any numbers; nothing that was there turns. No condition but a text's length.
-/
import Derived.Test.YtffjoacflchomaaDoorSigMath
import Derived.Below
import Derived.BigRegion
namespace Go.Proofs.YtffjoacflchomaaDoor.Sig
set_option linter.unusedVariables false
set_option maxRecDepth 100000
open Go.RowKit Base

theorem dig_yes {d : UInt8} (h : 48 ≤ (d.toNat : Int) ∧ (d.toNat : Int) ≤ 57) : digN [d] = d.toNat - 48 ∧ digB [d] = true := by
  have e : dig [d] = some (d.toNat - 48) := by
    show (if 48 ≤ d.toNat ∧ d.toNat ≤ 57 then some (d.toNat - 48) else none) = _
    rw [if_pos (by omega)]
  unfold digN digB
  rw [e]
  exact ⟨rfl, rfl⟩
theorem dig_no {d : UInt8} (h : (d.toNat : Int) < 48 ∨ 57 < (d.toNat : Int)) : digN [d] = 0 ∧ digB [d] = false := by
  have e : dig [d] = none := by
    show (if 48 ≤ d.toNat ∧ d.toNat ≤ 57 then some (d.toNat - 48) else none) = _
    rw [if_neg (by omega)]
  unfold digN digB
  rw [e]
  exact ⟨rfl, rfl⟩

set_option maxHeartbeats 1000000 in
theorem digit_any (s : ByteArray) (w : World) :
    Calls Tryd.prog 14 #[.string s] w fun e w' => e = .returned (.tuple #[.int .i64 (digN s.data.toList), .bool (digB s.data.toList)]) ∧ w' = w := by
  obtain ⟨⟨l⟩⟩ := s
  match l with
  | [] =>
    go_enter Tryd.func14, Tryd.ntmps14
    go_wp2
    go_ret2
    exact ⟨rfl, rfl⟩
  | [d] =>
    show Calls _ _ _ _ fun e w' => e = .returned (.tuple #[.int .i64 (digN [d]), .bool (digB [d])]) ∧ w' = w
    go_enter Tryd.func14, Tryd.ntmps14
    go_wp2
    · rename_i h1 h2
      have := dig_no (d := d) h2
      go_ret2
      rw [this.1, this.2]
      exact ⟨rfl, rfl⟩
    · rename_i h1
      have := dig_yes (d := d) h1
      have e : ((d.toNat : Int) - 48) = ((d.toNat - 48 : Nat) : Int) := by
        have := h1.1
        change (48 : Int) ≤ d.toNat at this
        omega
      go_ret2
      rw [this.1, this.2, ← e]
      exact ⟨rfl, rfl⟩
    · rename_i h1
      have := dig_no (d := d) (.inl h1)
      go_ret2
      rw [this.1, this.2]
      exact ⟨rfl, rfl⟩
  | a :: b :: r =>
    have hl : ¬ ((r.length : Int) + 1 + 1 = 1) := by omega
    go_enter Tryd.func14, Tryd.ntmps14
    go_wp2
    go_ret2
    exact ⟨rfl, rfl⟩

set_option maxHeartbeats 1000000 in
theorem may_any (t k : Int) (w : World) :
    Calls Tryd.prog 15 #[.agg #[.int .i64 t, .int .i64 k]] w fun e w' => e = .returned (.bool (mayB t k)) ∧ Below w.heap.size w w' := by
  go_enter Tryd.func15, Tryd.ntmps15
  go_wp2
  all_goals
    go_ret
    refine ⟨congrArg Ending.returned (congrArg Value.bool ?_), (Below.refl _ _).alloc (Nat.le_refl _) _⟩
    unfold mayB
    first
    | (symm; apply decide_eq_false; omega)
    | (apply decide_eq_decide.2; omega)

set_option maxHeartbeats 4000000 in
theorem small_any (n : Int) (h : 0 ≤ n ∧ n ≤ 9) (w : World) :
    Calls Tryd.prog 27 #[.int .i64 n] w fun e w' => e = .returned (.string ⟨#[one n]⟩) ∧ w' = w := by
  obtain rfl | rfl | rfl | rfl | rfl | rfl | rfl | rfl | rfl | rfl : n = 0 ∨ n = 1 ∨ n = 2 ∨ n = 3 ∨ n = 4 ∨ n = 5 ∨ n = 6 ∨ n = 7 ∨ n = 8 ∨ n = 9 := by omega
  all_goals
    clear h
    go_enter Tryd.func27, Tryd.ntmps27
    go_wp2
    go_ret
    exact ⟨rfl, rfl⟩

set_option maxHeartbeats 1000000 in
theorem format_any (n : Int) (h : 0 ≤ n ∧ n ≤ 9) (w : World) :
    Calls Tryd.prog 22 #[.int .i64 n, .int .i64 10] w fun e w' => e = .returned (.string ⟨#[one n]⟩) ∧ w' = w := by
  go_enter Tryd.func22, Tryd.ntmps22
  go_wp2_with fail
  refine (small_any n h w).mono ?_
  rintro e w' ⟨rfl, rfl⟩
  go_wp2
  go_ret
  exact ⟨rfl, rfl⟩
set_option maxHeartbeats 1000000 in
theorem itoain_any (n : Int) (h : 0 ≤ n ∧ n ≤ 9) (w : World) :
    Calls Tryd.prog 19 #[.int .i64 n] w fun e w' => e = .returned (.string ⟨#[one n]⟩) ∧ w' = w := by
  go_enter Tryd.func19, Tryd.ntmps19
  go_wp2_with fail
  refine (format_any n h w).mono ?_
  rintro e w' ⟨rfl, rfl⟩
  go_wp2
  go_ret
  exact ⟨rfl, rfl⟩
set_option maxHeartbeats 1000000 in
theorem itoa_any (n : Int) (h : 0 ≤ n ∧ n ≤ 9) (w : World) :
    Calls Tryd.prog 16 #[.int .i64 n] w fun e w' => e = .returned (.string ⟨#[one n]⟩) ∧ w' = w := by
  go_enter Tryd.func16, Tryd.ntmps16
  go_wp2_with fail
  refine (itoain_any n h w).mono ?_
  rintro e w' ⟨rfl, rfl⟩
  go_wp2
  go_ret
  exact ⟨rfl, rfl⟩

/-- the text of a signal, or none -/
def TextAns (t k : Int) : Value := .tuple #[.string (if mayB t k then ⟨(textL t k).toArray⟩ else ⟨#[]⟩), .bool (mayB t k)]

set_option maxHeartbeats 1600000 in
theorem text_any (t k : Int) (w : World) :
    Calls Tryd.prog 10 #[.agg #[.int .i64 t, .int .i64 k]] w fun e w' => e = .returned (TextAns t k) ∧ Below w.heap.size w w' := by
  unfold TextAns
  cases hm : mayB t k
  · go_enter Tryd.func10, Tryd.ntmps10
    go_wp2_with fail
    refine (may_any t k _).mono ?_
    rintro e w1 ⟨rfl, hb⟩
    have HB := Lib.hid (((Below.refl w.heap.size w).alloc (Nat.le_refl _) _).trans (hb.mono (by simp)))
    rw [hm]
    clear hb
    go_wp2
    go_ret2
    exact ⟨rfl, HB.out⟩
  · have hh := of_decide_eq_true hm
    have h1 : 0 ≤ t ∧ t ≤ 9 := by omega
    have h2 : 0 ≤ k ∧ k ≤ 9 := by omega
    clear hh
    go_enter Tryd.func10, Tryd.ntmps10
    go_wp2_with fail
    refine (may_any t k _).mono ?_
    rintro e w1 ⟨rfl, hb⟩
    have c0 : w1.cell? ⟨w.heap.size, 0, none⟩ = some (.int .i64 t) := (hb.cell (by simp)).trans (by simp)
    have c1 : w1.cell? ⟨w.heap.size, 1, none⟩ = some (.int .i64 k) := (hb.cell (by simp)).trans (by simp)
    have HB := Lib.hid (((Below.refl w.heap.size w).alloc (Nat.le_refl _) _).trans (hb.mono (by simp)))
    rw [hm]
    clear hb
    have Q1 : Hid (∀ n, Calls Tryd.prog 16 #[.int .i64 t] (w1.drewN n) fun e w' => e = .returned (.string ⟨#[one t]⟩) ∧ ∃ m, w' = w1.drewN m) := fun n => (itoa_any t h1 _).mono fun e w' he => ⟨he.1, n, he.2⟩
    have Q2 : Hid (∀ n, Calls Tryd.prog 16 #[.int .i64 k] (w1.drewN n) fun e w' => e = .returned (.string ⟨#[one k]⟩) ∧ ∃ m, w' = w1.drewN m) := fun n => (itoa_any k h2 _).mono fun e w' he => ⟨he.1, n, he.2⟩
    clear h1 h2
    go_wp2_with fail
    go_quiet (first | (go_at_call 16; exact Q1.out _) | (go_at_call 16; exact Q2.out _))
    go_wp2
    go_ret2
    exact ⟨rfl, below_drewN HB.out nq⟩

/-- what a text says -/
def Says (o : Option (Nat × Nat)) : Value := .tuple #[.agg #[.int .i64 (tableOf o), .int .i64 (weightOf o)], .bool o.isSome]

theorem says_none (o : Option (Nat × Nat)) (h : o = none) : Says o = .tuple #[.agg #[.int .i64 0, .int .i64 0], .bool false] := by subst h; rfl
theorem says_some {o : Option (Nat × Nat)} {b : Bool} {t k : Nat} (h : o = if b then some (t, k) else none) (hb : b = true) : Says o = .tuple #[.agg #[.int .i64 t, .int .i64 k], .bool true] := by subst hb; subst h; rfl

set_option maxHeartbeats 1600000 in
theorem parse_any (s : ByteArray) (w : World) (hs : s.size ≤ 9223372036854775806) :
    Calls Tryd.prog 7 #[.string s] w fun e w' => e = .returned (Says (sg s.data.toList)) ∧ Below w.heap.size w w' := by
  have HS := Lib.hid (show (s.data.toList.drop 9).length ≤ 9223372036854775806 by rw [List.length_drop, ← Lib.size_eq]; omega)
  clear hs
  cases hp : Lib.hasPrefix s.data.toList word
  · rw [says_none _ (sg_miss hp)]
    go_enter Tryd.func7, Tryd.ntmps7
    go_wp2_with fail
    refine (cutPrefix_any s ⟨word.toArray⟩ _).mono ?_
    rintro e w' ⟨rfl, rfl⟩
    rw [show Lib.hasPrefix s.data.toList (⟨word.toArray⟩ : ByteArray).data.toList = false from hp]
    clear hp
    go_wp2
    exact bodyPost_ret (v := .tuple #[.agg #[.int .i64 0, .int .i64 0], .bool false]) (by simp [results, Tryd.results7, go_sem]) rfl ⟨rfl, (Below.refl w.heap.size w).alloc (Nat.le_refl _) _⟩
  · have hg := sg_hit hp
    generalize hsg : sg s.data.toList = o at hg
    have HG := Lib.hid hg
    clear hg hsg
    generalize hr : s.data.toList.drop 9 = r at HS HG
    have HR := Lib.hid hr
    clear hr
    have HP := Lib.hid hp
    clear hp
    rcases hc : cutb r with ⟨a, b, h⟩
    have HC := Lib.hid hc
    clear hc
    have hma := digN_le a
    have hmb := digN_le b
    generalize hm : digN a = m at hma
    generalize hk : digN b = k at hmb
    have HM := Lib.hid hm
    have HK := Lib.hid hk
    clear hm hk
    cases hda : digB a
    · rw [says_none o (HG.out.trans (ctail_no (by rw [HC.out]; exact hda)))]
      have HD := Lib.hid hda
      clear hda
      go_enter Tryd.func7, Tryd.ntmps7
      go_wp2_with fail
      refine (cutPrefix_any s ⟨word.toArray⟩ _).mono ?_
      rintro e w1 ⟨rfl, rfl⟩
      rw [show Lib.hasPrefix s.data.toList (⟨word.toArray⟩ : ByteArray).data.toList = true from HP.out, if_pos rfl, show List.drop (⟨word.toArray⟩ : ByteArray).size s.data.toList = r from HR.out]
      go_wp2_with fail
      refine (cut_any ⟨r.toArray⟩ _ HS.out).mono ?_
      rintro e w1 ⟨rfl, n, rfl⟩
      rw [show cutb (⟨r.toArray⟩ : ByteArray).data.toList = _ from HC.out]
      go_wp2_with fail
      refine (digit_any ⟨a.toArray⟩ _).mono ?_
      rintro e w1 ⟨rfl, rfl⟩
      rw [show digN (⟨a.toArray⟩ : ByteArray).data.toList = m from HM.out, show digB (⟨a.toArray⟩ : ByteArray).data.toList = false from HD.out]
      go_wp2
      exact bodyPost_ret (v := .tuple #[.agg #[.int .i64 0, .int .i64 0], .bool false]) (by simp [results, Tryd.results7, go_sem]) rfl ⟨rfl, by repeat (first | exact Below.refl _ _ | refine below_drewN ?_ _ | refine Below.alloc ?_ (by simp) _ | refine Below.setCell ?_ (by simp) _)⟩
    · have HD := Lib.hid hda
      cases h
      · have hq := HG.out.trans (ctail_one (r := r) (by rw [HC.out]; exact hda) (by rw [HC.out]))
        rw [HC.out] at hq
        simp only [HM.out] at hq
        clear hda
        cases hy : mayB m 1
        · rw [hy] at hq
          rw [says_none o hq]
          have HY := Lib.hid hy
          clear hy hq
          go_enter Tryd.func7, Tryd.ntmps7
          go_wp2_with fail
          refine (cutPrefix_any s ⟨word.toArray⟩ _).mono ?_
          rintro e w1 ⟨rfl, rfl⟩
          rw [show Lib.hasPrefix s.data.toList (⟨word.toArray⟩ : ByteArray).data.toList = true from HP.out, if_pos rfl, show List.drop (⟨word.toArray⟩ : ByteArray).size s.data.toList = r from HR.out]
          go_wp2_with fail
          refine (cut_any ⟨r.toArray⟩ _ HS.out).mono ?_
          rintro e w1 ⟨rfl, n, rfl⟩
          rw [show cutb (⟨r.toArray⟩ : ByteArray).data.toList = _ from HC.out]
          go_wp2_with fail
          refine (digit_any ⟨a.toArray⟩ _).mono ?_
          rintro e w1 ⟨rfl, rfl⟩
          rw [show digN (⟨a.toArray⟩ : ByteArray).data.toList = m from HM.out, show digB (⟨a.toArray⟩ : ByteArray).data.toList = true from HD.out]
          go_wp2_with fail
          generalize hW : World.alloc _ _ = W
          have HW : Hid (Below w.heap.size w W) := by subst hW; repeat (first | exact Below.refl _ _ | refine below_drewN ?_ _ | refine Below.alloc ?_ (by simp) _ | refine Below.setCell ?_ (by simp) _)
          have B1 : Hid (Blk W w.heap.size 25 #[.int .i64 0, .int .i64 0]) := by subst hW; exact (Blk.drewN (Blk.new w _ _) _).alloc _
          have B2 : Hid (Blk W (w.heap.size + 1) 25 #[.int .i64 m, .int .i64 1]) := by subst hW; have := Blk.new ((w.alloc (Obj.cells #[.int .i64 0, .int .i64 0] 25)).drewN n) 25 #[.int .i64 m, .int .i64 1]; exact Lib.hid (by simpa using this)
          clear hW
          refine (may_any m 1 _).mono ?_
          rintro e w1 ⟨rfl, hb⟩
          rw [HY.out]
          have C1 : Blk w1 w.heap.size 25 #[.int .i64 0, .int .i64 0] := B1.out.below hb B1.out.lt
          have C2 : Blk w1 (w.heap.size + 1) 25 #[.int .i64 m, .int .i64 1] := B2.out.below hb B2.out.lt
          have HB := Lib.hid (HW.out.trans (hb.mono HW.out.size))
          have p0 : w1.cell? ⟨w.heap.size, 0, none⟩ = some (.int .i64 0) := C1.cell 0
          have p1 : w1.cell? ⟨w.heap.size, 1, none⟩ = some (.int .i64 0) := C1.cell 1
          have p2 : w1.frozen? ⟨w.heap.size, 0, none⟩ = false := C1.frozen 0
          have p3 : w1.frozen? ⟨w.heap.size, 1, none⟩ = false := C1.frozen 1
          have q0 : w1.cell? ⟨w.heap.size + 1, 0, none⟩ = some (.int .i64 m) := C2.cell 0
          have q1 : w1.cell? ⟨w.heap.size + 1, 1, none⟩ = some (.int .i64 1) := C2.cell 1
          clear hb C1 C2
          go_wp2
          exact bodyPost_ret (v := .tuple #[.agg #[.int .i64 0, .int .i64 0], .bool false]) (by simp [results, Tryd.results7, go_sem, p0, p1]) rfl ⟨rfl, ((HB.out.setCell (by simp) _).setCell (by simp) _)⟩

        · rw [hy] at hq
          rw [says_some hq rfl]
          have HY := Lib.hid hy
          clear hy hq
          go_enter Tryd.func7, Tryd.ntmps7
          go_wp2_with fail
          refine (cutPrefix_any s ⟨word.toArray⟩ _).mono ?_
          rintro e w1 ⟨rfl, rfl⟩
          rw [show Lib.hasPrefix s.data.toList (⟨word.toArray⟩ : ByteArray).data.toList = true from HP.out, if_pos rfl, show List.drop (⟨word.toArray⟩ : ByteArray).size s.data.toList = r from HR.out]
          go_wp2_with fail
          refine (cut_any ⟨r.toArray⟩ _ HS.out).mono ?_
          rintro e w1 ⟨rfl, n, rfl⟩
          rw [show cutb (⟨r.toArray⟩ : ByteArray).data.toList = _ from HC.out]
          go_wp2_with fail
          refine (digit_any ⟨a.toArray⟩ _).mono ?_
          rintro e w1 ⟨rfl, rfl⟩
          rw [show digN (⟨a.toArray⟩ : ByteArray).data.toList = m from HM.out, show digB (⟨a.toArray⟩ : ByteArray).data.toList = true from HD.out]
          go_wp2_with fail
          generalize hW : World.alloc _ _ = W
          have HW : Hid (Below w.heap.size w W) := by subst hW; repeat (first | exact Below.refl _ _ | refine below_drewN ?_ _ | refine Below.alloc ?_ (by simp) _ | refine Below.setCell ?_ (by simp) _)
          have B1 : Hid (Blk W w.heap.size 25 #[.int .i64 0, .int .i64 0]) := by subst hW; exact (Blk.drewN (Blk.new w _ _) _).alloc _
          have B2 : Hid (Blk W (w.heap.size + 1) 25 #[.int .i64 m, .int .i64 1]) := by subst hW; have := Blk.new ((w.alloc (Obj.cells #[.int .i64 0, .int .i64 0] 25)).drewN n) 25 #[.int .i64 m, .int .i64 1]; exact Lib.hid (by simpa using this)
          clear hW
          refine (may_any m 1 _).mono ?_
          rintro e w1 ⟨rfl, hb⟩
          rw [HY.out]
          have C1 : Blk w1 w.heap.size 25 #[.int .i64 0, .int .i64 0] := B1.out.below hb B1.out.lt
          have C2 : Blk w1 (w.heap.size + 1) 25 #[.int .i64 m, .int .i64 1] := B2.out.below hb B2.out.lt
          have HB := Lib.hid (HW.out.trans (hb.mono HW.out.size))
          have p0 : w1.cell? ⟨w.heap.size, 0, none⟩ = some (.int .i64 0) := C1.cell 0
          have p1 : w1.cell? ⟨w.heap.size, 1, none⟩ = some (.int .i64 0) := C1.cell 1
          have p2 : w1.frozen? ⟨w.heap.size, 0, none⟩ = false := C1.frozen 0
          have p3 : w1.frozen? ⟨w.heap.size, 1, none⟩ = false := C1.frozen 1
          have q0 : w1.cell? ⟨w.heap.size + 1, 0, none⟩ = some (.int .i64 m) := C2.cell 0
          have q1 : w1.cell? ⟨w.heap.size + 1, 1, none⟩ = some (.int .i64 1) := C2.cell 1
          clear hb C1 C2
          go_wp2
          exact bodyPost_ret (v := .tuple #[.agg #[.int .i64 m, .int .i64 1], .bool true]) (by simp [results, Tryd.results7, go_sem, p0, p1]) rfl ⟨rfl, ((HB.out.setCell (by simp) _).setCell (by simp) _)⟩

      · cases hdb : digB b
        · rw [says_none o (HG.out.trans (ctail_bad (by rw [HC.out]; exact hda) (by rw [HC.out]) (by rw [HC.out]; exact hdb)))]
          have HE := Lib.hid hdb
          clear hda hdb
          go_enter Tryd.func7, Tryd.ntmps7
          go_wp2_with fail
          refine (cutPrefix_any s ⟨word.toArray⟩ _).mono ?_
          rintro e w1 ⟨rfl, rfl⟩
          rw [show Lib.hasPrefix s.data.toList (⟨word.toArray⟩ : ByteArray).data.toList = true from HP.out, if_pos rfl, show List.drop (⟨word.toArray⟩ : ByteArray).size s.data.toList = r from HR.out]
          go_wp2_with fail
          refine (cut_any ⟨r.toArray⟩ _ HS.out).mono ?_
          rintro e w1 ⟨rfl, n, rfl⟩
          rw [show cutb (⟨r.toArray⟩ : ByteArray).data.toList = _ from HC.out]
          go_wp2_with fail
          refine (digit_any ⟨a.toArray⟩ _).mono ?_
          rintro e w1 ⟨rfl, rfl⟩
          rw [show digN (⟨a.toArray⟩ : ByteArray).data.toList = m from HM.out, show digB (⟨a.toArray⟩ : ByteArray).data.toList = true from HD.out]
          go_wp2_with fail
          refine (digit_any ⟨b.toArray⟩ _).mono ?_
          rintro e w1 ⟨rfl, rfl⟩
          rw [show digN (⟨b.toArray⟩ : ByteArray).data.toList = k from HK.out, show digB (⟨b.toArray⟩ : ByteArray).data.toList = false from HE.out]
          go_wp2
          exact bodyPost_ret (v := .tuple #[.agg #[.int .i64 0, .int .i64 0], .bool false]) (by simp [results, Tryd.results7, go_sem]) rfl ⟨rfl, by repeat (first | exact Below.refl _ _ | refine below_drewN ?_ _ | refine Below.alloc ?_ (by simp) _ | refine Below.setCell ?_ (by simp) _)⟩

        · have hq := HG.out.trans (ctail_two (r := r) (by rw [HC.out]; exact hda) (by rw [HC.out]) (by rw [HC.out]; exact hdb))
          rw [HC.out] at hq
          simp only [HM.out, HK.out] at hq
          have HE := Lib.hid hdb
          clear hda hdb
          cases hy : mayB m k
          · rw [hy] at hq
            rw [says_none o hq]
            have HY := Lib.hid hy
            clear hy hq
            go_enter Tryd.func7, Tryd.ntmps7
            go_wp2_with fail
            refine (cutPrefix_any s ⟨word.toArray⟩ _).mono ?_
            rintro e w1 ⟨rfl, rfl⟩
            rw [show Lib.hasPrefix s.data.toList (⟨word.toArray⟩ : ByteArray).data.toList = true from HP.out, if_pos rfl, show List.drop (⟨word.toArray⟩ : ByteArray).size s.data.toList = r from HR.out]
            go_wp2_with fail
            refine (cut_any ⟨r.toArray⟩ _ HS.out).mono ?_
            rintro e w1 ⟨rfl, n, rfl⟩
            rw [show cutb (⟨r.toArray⟩ : ByteArray).data.toList = _ from HC.out]
            go_wp2_with fail
            refine (digit_any ⟨a.toArray⟩ _).mono ?_
            rintro e w1 ⟨rfl, rfl⟩
            rw [show digN (⟨a.toArray⟩ : ByteArray).data.toList = m from HM.out, show digB (⟨a.toArray⟩ : ByteArray).data.toList = true from HD.out]
            go_wp2_with fail
            refine (digit_any ⟨b.toArray⟩ _).mono ?_
            rintro e w1 ⟨rfl, rfl⟩
            rw [show digN (⟨b.toArray⟩ : ByteArray).data.toList = k from HK.out, show digB (⟨b.toArray⟩ : ByteArray).data.toList = true from HE.out]
            go_wp2_with fail
            generalize hW : World.alloc _ _ = W
            have HW : Hid (Below w.heap.size w W) := by subst hW; repeat (first | exact Below.refl _ _ | refine below_drewN ?_ _ | refine Below.alloc ?_ (by simp) _ | refine Below.setCell ?_ (by simp) _)
            have B1 : Hid (Blk W w.heap.size 25 #[.int .i64 0, .int .i64 0]) := by subst hW; exact (Blk.drewN (Blk.new w _ _) _).alloc _
            have B2 : Hid (Blk W (w.heap.size + 1) 25 #[.int .i64 m, .int .i64 k]) := by subst hW; have := Blk.new ((w.alloc (Obj.cells #[.int .i64 0, .int .i64 0] 25)).drewN n) 25 #[.int .i64 m, .int .i64 k]; exact Lib.hid (by simpa using this)
            clear hW
            refine (may_any m k _).mono ?_
            rintro e w1 ⟨rfl, hb⟩
            rw [HY.out]
            have C1 : Blk w1 w.heap.size 25 #[.int .i64 0, .int .i64 0] := B1.out.below hb B1.out.lt
            have C2 : Blk w1 (w.heap.size + 1) 25 #[.int .i64 m, .int .i64 k] := B2.out.below hb B2.out.lt
            have HB := Lib.hid (HW.out.trans (hb.mono HW.out.size))
            have p0 : w1.cell? ⟨w.heap.size, 0, none⟩ = some (.int .i64 0) := C1.cell 0
            have p1 : w1.cell? ⟨w.heap.size, 1, none⟩ = some (.int .i64 0) := C1.cell 1
            have p2 : w1.frozen? ⟨w.heap.size, 0, none⟩ = false := C1.frozen 0
            have p3 : w1.frozen? ⟨w.heap.size, 1, none⟩ = false := C1.frozen 1
            have q0 : w1.cell? ⟨w.heap.size + 1, 0, none⟩ = some (.int .i64 m) := C2.cell 0
            have q1 : w1.cell? ⟨w.heap.size + 1, 1, none⟩ = some (.int .i64 k) := C2.cell 1
            clear hb C1 C2
            go_wp2
            exact bodyPost_ret (v := .tuple #[.agg #[.int .i64 0, .int .i64 0], .bool false]) (by simp [results, Tryd.results7, go_sem, p0, p1]) rfl ⟨rfl, ((HB.out.setCell (by simp) _).setCell (by simp) _)⟩

          · rw [hy] at hq
            rw [says_some hq rfl]
            have HY := Lib.hid hy
            clear hy hq
            go_enter Tryd.func7, Tryd.ntmps7
            go_wp2_with fail
            refine (cutPrefix_any s ⟨word.toArray⟩ _).mono ?_
            rintro e w1 ⟨rfl, rfl⟩
            rw [show Lib.hasPrefix s.data.toList (⟨word.toArray⟩ : ByteArray).data.toList = true from HP.out, if_pos rfl, show List.drop (⟨word.toArray⟩ : ByteArray).size s.data.toList = r from HR.out]
            go_wp2_with fail
            refine (cut_any ⟨r.toArray⟩ _ HS.out).mono ?_
            rintro e w1 ⟨rfl, n, rfl⟩
            rw [show cutb (⟨r.toArray⟩ : ByteArray).data.toList = _ from HC.out]
            go_wp2_with fail
            refine (digit_any ⟨a.toArray⟩ _).mono ?_
            rintro e w1 ⟨rfl, rfl⟩
            rw [show digN (⟨a.toArray⟩ : ByteArray).data.toList = m from HM.out, show digB (⟨a.toArray⟩ : ByteArray).data.toList = true from HD.out]
            go_wp2_with fail
            refine (digit_any ⟨b.toArray⟩ _).mono ?_
            rintro e w1 ⟨rfl, rfl⟩
            rw [show digN (⟨b.toArray⟩ : ByteArray).data.toList = k from HK.out, show digB (⟨b.toArray⟩ : ByteArray).data.toList = true from HE.out]
            go_wp2_with fail
            generalize hW : World.alloc _ _ = W
            have HW : Hid (Below w.heap.size w W) := by subst hW; repeat (first | exact Below.refl _ _ | refine below_drewN ?_ _ | refine Below.alloc ?_ (by simp) _ | refine Below.setCell ?_ (by simp) _)
            have B1 : Hid (Blk W w.heap.size 25 #[.int .i64 0, .int .i64 0]) := by subst hW; exact (Blk.drewN (Blk.new w _ _) _).alloc _
            have B2 : Hid (Blk W (w.heap.size + 1) 25 #[.int .i64 m, .int .i64 k]) := by subst hW; have := Blk.new ((w.alloc (Obj.cells #[.int .i64 0, .int .i64 0] 25)).drewN n) 25 #[.int .i64 m, .int .i64 k]; exact Lib.hid (by simpa using this)
            clear hW
            refine (may_any m k _).mono ?_
            rintro e w1 ⟨rfl, hb⟩
            rw [HY.out]
            have C1 : Blk w1 w.heap.size 25 #[.int .i64 0, .int .i64 0] := B1.out.below hb B1.out.lt
            have C2 : Blk w1 (w.heap.size + 1) 25 #[.int .i64 m, .int .i64 k] := B2.out.below hb B2.out.lt
            have HB := Lib.hid (HW.out.trans (hb.mono HW.out.size))
            have p0 : w1.cell? ⟨w.heap.size, 0, none⟩ = some (.int .i64 0) := C1.cell 0
            have p1 : w1.cell? ⟨w.heap.size, 1, none⟩ = some (.int .i64 0) := C1.cell 1
            have p2 : w1.frozen? ⟨w.heap.size, 0, none⟩ = false := C1.frozen 0
            have p3 : w1.frozen? ⟨w.heap.size, 1, none⟩ = false := C1.frozen 1
            have q0 : w1.cell? ⟨w.heap.size + 1, 0, none⟩ = some (.int .i64 m) := C2.cell 0
            have q1 : w1.cell? ⟨w.heap.size + 1, 1, none⟩ = some (.int .i64 k) := C2.cell 1
            clear hb C1 C2
            go_wp2
            exact bodyPost_ret (v := .tuple #[.agg #[.int .i64 m, .int .i64 k], .bool true]) (by simp [results, Tryd.results7, go_sem, p0, p1]) rfl ⟨rfl, ((HB.out.setCell (by simp) _).setCell (by simp) _)⟩

end Go.Proofs.YtffjoacflchomaaDoor.Sig
