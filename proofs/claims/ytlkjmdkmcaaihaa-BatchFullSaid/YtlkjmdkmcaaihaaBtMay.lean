/-
  Contracts of which items may be: package batch's mayOp, mayOps, mayRequest, mayNote, mayNotes, May.
-/
import Derived.Test.YtlkjmdkmcaaihaaItMem
import Derived.Test.YtlkjmdkmcaaihaaTxnChs
import Derived.Test.YtlkjmdkmcaaihaaReqAcc
namespace Go.Proofs.Ytlkjmdkmcaaihaa.Bt
set_option linter.unusedVariables false
set_option maxRecDepth 100000
open Go.RowKit Base FieldMath TxnMath BatchMath
open GuardMath (Gp noGp)
open Gd (Gps ov ov_append ov_one ov_length ocells oval oel)
open Txn (all_take all_not take_all)
open Go.Proofs.Ytlkjmdkmcaaihaa.Field (ret_bool empty_iff)
set_option linter.ambiguousOpen false
set_option linter.unusedSimpArgs false

/-- what a request's bounds are -/
def reqMay (t wt a : Int) : Bool := decide (0 ≤ t) && (decide (t < 8) && (decide (1 ≤ wt) && (decide (wt ≤ 8) && (decide (1 ≤ a) && decide (a ≤ 1099511627776)))))
theorem accept_nil (t wt a : Int) : (ReqMath.accept [] t wt a).isSome = reqMay t wt a := by
  have h : (ReqMath.accept [] t wt a).isSome = (ReqMath.may [] && ReqMath.takes [] (ReqMath.fresh [] t wt a)) := by
    unfold ReqMath.accept
    cases (ReqMath.may [] && ReqMath.takes [] (ReqMath.fresh [] t wt a)) <;> rfl
  rw [h, ReqMath.may_nil, Bool.true_and, Bool.eq_iff_iff]
  constructor
  · intro h2
    have h3 := ReqMath.inb_parts (ReqMath.takes_parts h2).2.2.1
    simp only [ReqMath.fresh] at h3
    unfold reqMay
    simp only [Bool.and_eq_true, decide_eq_true_eq]
    omega
  · intro h2
    unfold reqMay at h2
    simp only [Bool.and_eq_true, decide_eq_true_eq] at h2
    refine ReqMath.takes_mk (by simp) rfl (ReqMath.inb_mk ?_) ?_ rfl
    · simp only [ReqMath.fresh]
      omega
    · rw [ReqMath.lastAt_nil]
      simp only [ReqMath.fresh]
      omega
theorem nt_accept {L i t wt a c : Int} {d : Bool} (hL : L ≤ 1099511627776) (h1 : 1 ≤ i) (h2 : i ≤ 64) : ntMay L ⟨1, i, t, wt, a, c, d⟩ = (reqMay t wt a && (decide (a ≤ L) && (c == 0 && !d))) := by
  unfold ntMay reqMay
  dsimp only
  rw [if_pos rfl, Bool.eq_iff_iff]
  simp only [Bool.and_eq_true, decide_eq_true_eq]
  constructor
  · rintro ⟨_, _, k1, k2, k3, k4, k5, k6, k7⟩
    exact ⟨⟨k1, k2, k3, k4, k5, by omega⟩, k6, k7⟩
  · rintro ⟨⟨k1, k2, k3, k4, k5, _⟩, k6, k7⟩
    exact ⟨h1, h2, k1, k2, k3, k4, k5, k6, k7⟩
theorem nt_chunk {L i t wt a c : Int} {d : Bool} (h1 : 1 ≤ i) (h2 : i ≤ 64) : ntMay L ⟨2, i, t, wt, a, c, d⟩ = (t == 0 && (wt == 0 && (a == 0 && (decide (0 ≤ c) && decide (c ≤ 1099511627776))))) := by
  unfold ntMay
  dsimp only
  rw [if_neg (by omega), if_pos rfl, decide_eq_true h1, decide_eq_true h2, Bool.true_and, Bool.true_and]
theorem nt_id {L : Int} {n : Nt} (h : n.id < 1 ∨ 64 < n.id) : ntMay L n = false := by
  unfold ntMay
  rcases h with h | h
  · rw [decide_eq_false (by omega), Bool.false_and]
  · rw [decide_eq_false (p := n.id ≤ 64) (by omega), Bool.false_and, Bool.and_false]
theorem nt_kind {L : Int} {n : Nt} (h1 : n.kind ≠ 1) (h2 : n.kind ≠ 2) : ntMay L n = false := by
  unfold ntMay
  rw [if_neg h1, if_neg h2, Bool.and_false, Bool.and_false]

set_option maxHeartbeats 3200000 in
theorem mayop_any (o : Gp) (L : Int) (w : World) :
    Calls Try.prog 60 #[oval o, .int .i64 L] w fun e w' => e = .returned (.bool (opMay L o)) ∧ Below w.heap.size w w' := by
  obtain ⟨r0, r1, r2, r3, r4⟩ := o
  unfold oval
  dsimp only
  have HE := Lib.hid (show opMay L ⟨r0, r1, r2, r3, r4⟩ = (decide (1 ≤ r0) && (decide (r0 ≤ L) && (decide (0 ≤ r1) && (decide (r1 < 8) && (decide (1 ≤ r2) && (decide (r2 ≤ 1099511627776) && (if r3 then r4.size == 0 else decide (r4.size ≤ 32)))))))) from rfl)
  cases r3
  all_goals (
    go_enter Try.func60, Try.ntmps60
    go_wp2
    all_goals (
      go_ret
      refine ⟨ret_bool ?_, (Below.refl _ _).alloc (Nat.le_refl _) _⟩
      rw [HE.out]
      first
        | (simp [*, empty_iff]; done)
        | (simp [*, empty_iff]; omega)))
/-- how far a loop over a list has come -/
def AllRel {α : Type} (w : World) (p : α → Bool) (l : List α) (n : Nat) (i : Value) (wr : World) : Prop := ∃ k : Nat, k ≤ n ∧ i = .int .i64 k ∧ (∀ f ∈ l.take k, p f = true) ∧ Below w.heap.size w wr
set_option maxHeartbeats 1600000 in
theorem mayops_any (B : Nat) (L : Int) (A : Option Addr) (n c : Nat) (l : List Gp) (w : World) (h : Gps w B A n c l) (hB : B ≤ w.heap.size) :
    Calls Try.prog 31 #[.slice A n c, .int .i64 L] w fun e w' => e = .returned (.bool (decide (l.length ≤ 4096) && mayOps L l)) ∧ Below w.heap.size w w' := by
  have hlen := h.len
  have hle := h.le
  have HL := Lib.hid hlen
  have HR := Lib.hid h
  clear h
  by_cases h16 : 4096 < n
  · have HE := Lib.hid (show (decide (l.length ≤ 4096) && mayOps L l) = false by rw [hlen, decide_eq_false (by omega), Bool.false_and])
    clear hlen
    go_enter Try.func31, Try.ntmps31
    go_wp2
    go_ret
    exact ⟨ret_bool (a := false) HE.out.symm, Below.refl _ _⟩
  · have HE := Lib.hid (show (decide (l.length ≤ 4096) && mayOps L l) = l.all (opMay L) by rw [hlen, decide_eq_true (by omega), Bool.true_and]; rfl)
    clear hlen
    go_enter Try.func31, Try.ntmps31
    go_wp2
    go_loopw [12] (fun i wr => AllRel w (opMay L) l n i wr) (fun i _ => n - (intOf i).toNat)
    case atStart => exact ⟨0, Nat.zero_le _, rfl, (fun f hf => by simp at hf), Below.refl _ _⟩
    case round =>
      obtain ⟨k, hk, rfl, hall, hbel⟩ := hrel
      have HA := Lib.hid hall
      have HB := Lib.hid hbel
      clear hall hbel
      by_cases hlt : k < n
      · obtain ⟨b, off, f, rfl, hb, c0, c1, c2, c3, c4, hget, htake⟩ := (HR.out.below (HB.out.mono hB)).at_ hlt
        have HG := Lib.hid hget
        have HT := Lib.hid htake
        clear hget htake
        have HBl := Lib.hid (show Below w.heap.size w (wr.alloc (.cells #[.int .i64 f.lsn, .int .i64 f.tbl, .int .i64 f.key, .bool f.gone, .string f.val] 29)) from HB.out.alloc HB.out.size _)
        cases hm : opMay L f with
        | true =>
          have HM := Lib.hid hm
          go_wp2_with fail
          refine (mayop_any f L _).mono ?_
          rintro e w1 ⟨rfl, hb1⟩
          rw [HM.out]
          have HB1 := Lib.hid (held_two HBl.out hb1)
          clear hb1 hm
          go_wp2
          go_roundw
          case rel => exact ⟨k + 1, by omega, by go_num, take_all HA.out HT.out HM.out, HB1.out⟩
          case measure => simp [intOf]; omega
        | false =>
          have HM := Lib.hid hm
          go_wp2_with fail
          refine (mayop_any f L _).mono ?_
          rintro e w1 ⟨rfl, hb1⟩
          rw [HM.out]
          have HB1 := Lib.hid (held_two HBl.out hb1)
          clear hb1 hm
          go_wp2
          go_ret
          exact ⟨ret_bool (a := false) (by rw [HE.out, all_not HG.out HM.out]), HB1.out⟩
      · go_wp2
        go_ret
        exact ⟨ret_bool (a := true) (by rw [HE.out, all_take (n := k) (by rw [HL.out]; omega) HA.out]), HB.out⟩
theorem mayreq_any (i t wt a c : Int) (k : Int) (d : Bool) (w : World) :
    Calls Try.prog 74 #[.agg #[.int .i64 k, .int .i64 i, .int .i64 t, .int .i64 wt, .int .i64 a, .int .i64 c, .bool d]] w fun e w' => e = .returned (.bool (reqMay t wt a)) ∧ Below w.heap.size w w' := by
  have hq := accept_nil t wt a
  generalize reqMay t wt a = q at hq ⊢
  have HQ := Lib.hid hq
  clear hq
  have HW : Hid (Below w.heap.size w (w.alloc (.cells #[.int .i64 k, .int .i64 i, .int .i64 t, .int .i64 wt, .int .i64 a, .int .i64 c, .bool d] 27))) := (Below.refl _ _).alloc (Nat.le_refl _) _
  go_enter Try.func74, Try.ntmps74
  go_wp2_with fail
  refine (Req.accept_any 0 none 0 0 [] t wt a _ (Row.nil_ _ _ _) (Nat.zero_le _) (by omega)).mono ?_
  intro e w1 h1
  obtain ⟨A1, c1, rfl, _, hb1⟩ := h1.at_
  rw [HQ.out]
  have HB := Lib.hid (held_two HW.out hb1)
  clear hb1 h1
  generalize ((ReqMath.accept [] t wt a).getD []).length = n1
  go_wp2
  go_ret
  exact ⟨rfl, HB.out⟩
set_option maxHeartbeats 3200000 in
theorem maynote_any (x : Nt) (L : Int) (hL : L ≤ 1099511627776) (w : World) :
    Calls Try.prog 61 #[ntval x, .int .i64 L] w fun e w' => e = .returned (.bool (ntMay L x)) ∧ Below w.heap.size w w' := by
  obtain ⟨k, i, t, wt, a, c, d⟩ := x
  unfold ntval
  dsimp only
  have HW : Hid (Below w.heap.size w (w.alloc (.cells #[.int .i64 k, .int .i64 i, .int .i64 t, .int .i64 wt, .int .i64 a, .int .i64 c, .bool d] 27))) := (Below.refl _ _).alloc (Nat.le_refl _) _
  by_cases h1 : i < 1
  · have HE := Lib.hid (nt_id (L := L) (n := ⟨k, i, t, wt, a, c, d⟩) (.inl h1))
    go_enter Try.func61, Try.ntmps61
    go_wp2
    go_ret
    exact ⟨ret_bool (a := false) HE.out.symm, HW.out⟩
  by_cases h2 : 64 < i
  · have HE := Lib.hid (nt_id (L := L) (n := ⟨k, i, t, wt, a, c, d⟩) (.inr h2))
    go_enter Try.func61, Try.ntmps61
    go_wp2
    go_ret
    exact ⟨ret_bool (a := false) HE.out.symm, HW.out⟩
  by_cases k1 : k = 1
  · subst k1
    have HE := Lib.hid (nt_accept (L := L) (t := t) (wt := wt) (a := a) (c := c) (d := d) hL (show 1 ≤ i by omega) (show i ≤ 64 by omega))
    have HC := Lib.hid (fun w => mayreq_any i t wt a c 1 d w)
    have HX : Hid (Blk (w.alloc (.cells #[.int .i64 1, .int .i64 i, .int .i64 t, .int .i64 wt, .int .i64 a, .int .i64 c, .bool d] 27)) w.heap.size 27 #[.int .i64 1, .int .i64 i, .int .i64 t, .int .i64 wt, .int .i64 a, .int .i64 c, .bool d]) := Blk.new _ _ _
    generalize reqMay t wt a = q at HE HC
    go_enter Try.func61, Try.ntmps61
    go_wp2_with fail
    refine (HC.out _).mono ?_
    rintro e w1 ⟨rfl, hb1⟩
    have hx1 := HX.out.below hb1 HX.out.lt
    have q4 : w1.cell? ⟨w.heap.size, 4, none⟩ = some (.int .i64 a) := hx1.cell 4
    have q5 : w1.cell? ⟨w.heap.size, 5, none⟩ = some (.int .i64 c) := hx1.cell 5
    have q6 : w1.cell? ⟨w.heap.size, 6, none⟩ = some (.bool d) := hx1.cell 6
    have HB1 := Lib.hid (held_two HW.out hb1)
    clear hb1 hx1 HC HX HW
    cases q
    all_goals cases d
    all_goals (
      go_wp2
      all_goals (
        go_ret
        refine ⟨ret_bool ?_, HB1.out⟩
        rw [HE.out]
        first
          | (simp [*]; done)
          | (simp [*]; omega)))
  by_cases k2 : k = 2
  · subst k2
    clear k1
    go_enter Try.func61, Try.ntmps61
    go_wp2
    all_goals (
      go_ret
      refine ⟨ret_bool ?_, (Below.refl _ _).alloc (Nat.le_refl _) _⟩
      rw [nt_chunk (by omega) (by omega)]
      first
        | (simp [*]; done)
        | (simp [*]; omega))
  · have HE := Lib.hid (nt_kind (L := L) (n := ⟨k, i, t, wt, a, c, d⟩) k1 k2)
    have k1' : (k == 1) = false := by simpa using k1
    have k2' : (k == 2) = false := by simpa using k2
    clear k1 k2
    go_enter Try.func61, Try.ntmps61
    go_wp2
    go_ret
    exact ⟨ret_bool (a := false) HE.out.symm, HW.out⟩
set_option maxHeartbeats 1600000 in
theorem maynotes_any (B : Nat) (L : Int) (hL : L ≤ 1099511627776) (A : Option Addr) (n c : Nat) (l : List Nt) (w : World) (h : Nts w B A n c l) (hB : B ≤ w.heap.size) :
    Calls Try.prog 32 #[.slice A n c, .int .i64 L] w fun e w' => e = .returned (.bool (decide (l.length ≤ 256) && mayNotes L l)) ∧ Below w.heap.size w w' := by
  have hlen := h.len
  have hle := h.le
  have HL := Lib.hid hlen
  have HR := Lib.hid h
  clear h
  by_cases h16 : 256 < n
  · have HE := Lib.hid (show (decide (l.length ≤ 256) && mayNotes L l) = false by rw [hlen, decide_eq_false (by omega), Bool.false_and])
    clear hlen
    go_enter Try.func32, Try.ntmps32
    go_wp2
    go_ret
    exact ⟨ret_bool (a := false) HE.out.symm, Below.refl _ _⟩
  · have HE := Lib.hid (show (decide (l.length ≤ 256) && mayNotes L l) = l.all (ntMay L) by rw [hlen, decide_eq_true (by omega), Bool.true_and]; rfl)
    clear hlen
    go_enter Try.func32, Try.ntmps32
    go_wp2
    go_loopw [12] (fun i wr => AllRel w (ntMay L) l n i wr) (fun i _ => n - (intOf i).toNat)
    case atStart => exact ⟨0, Nat.zero_le _, rfl, (fun f hf => by simp at hf), Below.refl _ _⟩
    case round =>
      obtain ⟨k, hk, rfl, hall, hbel⟩ := hrel
      have HA := Lib.hid hall
      have HB := Lib.hid hbel
      clear hall hbel
      by_cases hlt : k < n
      · obtain ⟨b, off, f, rfl, hb, c0, c1, c2, c3, c4, c5, c6, hget, htake⟩ := (HR.out.below (HB.out.mono hB)).at_ hlt
        have HG := Lib.hid hget
        have HT := Lib.hid htake
        clear hget htake
        have HBl := Lib.hid (show Below w.heap.size w (wr.alloc (.cells #[.int .i64 f.kind, .int .i64 f.id, .int .i64 f.tbl, .int .i64 f.wt, .int .i64 f.at_, .int .i64 f.cur, .bool f.done] 27)) from HB.out.alloc HB.out.size _)
        cases hm : ntMay L f with
        | true =>
          have HM := Lib.hid hm
          go_wp2_with fail
          refine (maynote_any f L hL _).mono ?_
          rintro e w1 ⟨rfl, hb1⟩
          rw [HM.out]
          have HB1 := Lib.hid (held_two HBl.out hb1)
          clear hb1 hm
          go_wp2
          go_roundw
          case rel => exact ⟨k + 1, by omega, by go_num, take_all HA.out HT.out HM.out, HB1.out⟩
          case measure => simp [intOf]; omega
        | false =>
          have HM := Lib.hid hm
          go_wp2_with fail
          refine (maynote_any f L hL _).mono ?_
          rintro e w1 ⟨rfl, hb1⟩
          rw [HM.out]
          have HB1 := Lib.hid (held_two HBl.out hb1)
          clear hb1 hm
          go_wp2
          go_ret
          exact ⟨ret_bool (a := false) (by rw [HE.out, all_not HG.out HM.out]), HB1.out⟩
      · go_wp2
        go_ret
        exact ⟨ret_bool (a := true) (by rw [HE.out, all_take (n := k) (by rw [HL.out]; omega) HA.out]), HB.out⟩
theorem may_low {L : Int} {l : List Gp} {m : List Nt} (h : L < 1 ∨ 1099511627776 < L) : may ⟨L, l, m⟩ = false := by
  unfold may
  dsimp only
  rcases h with h | h
  · rw [decide_eq_false (by omega), Bool.false_and]
  · rw [decide_eq_false (p := L ≤ 1099511627776) (by omega), Bool.false_and, Bool.and_false]
theorem may_two {L : Int} {l : List Gp} {m : List Nt} (h1 : 1 ≤ L) (h2 : L ≤ 1099511627776) : may ⟨L, l, m⟩ = ((decide (l.length ≤ 4096) && mayOps L l) && (decide (m.length ≤ 256) && mayNotes L m)) := by
  unfold may
  dsimp only
  rw [decide_eq_true h1, decide_eq_true h2, Bool.true_and, Bool.true_and]
  generalize decide (l.length ≤ 4096) = a
  generalize decide (m.length ≤ 256) = b
  generalize mayOps L l = c
  generalize mayNotes L m = d
  revert a b c d
  decide
set_option maxHeartbeats 1600000 in
theorem may_any (B : Nat) (L : Int) (A : Option Addr) (n c : Nat) (l : List Gp) (A' : Option Addr) (n' c' : Nat) (m : List Nt) (w : World) (h1 : Gps w B A n c l) (h2 : Nts w B A' n' c' m) (hB : B ≤ w.heap.size) :
    Calls Try.prog 15 #[.agg #[.int .i64 L, .slice A n c, .slice A' n' c']] w fun e w' => e = .returned (.bool (may ⟨L, l, m⟩)) ∧ Below w.heap.size w w' := by
  have HW : Hid (Below w.heap.size w (w.alloc (.cells #[.int .i64 L, .slice A n c, .slice A' n' c'] 25))) := (Below.refl _ _).alloc (Nat.le_refl _) _
  have HX : Hid (Blk (w.alloc (.cells #[.int .i64 L, .slice A n c, .slice A' n' c'] 25)) w.heap.size 25 #[.int .i64 L, .slice A n c, .slice A' n' c']) := Blk.new _ _ _
  have HC := Lib.hid (h1.below (HW.out.mono hB))
  have HS := Lib.hid (h2.below (HW.out.mono hB))
  have HBW := Lib.hid (Nat.le_trans hB HW.out.size)
  clear h1 h2
  by_cases l1 : L < 1
  · have HE := Lib.hid (may_low (l := l) (m := m) (.inl l1))
    go_enter Try.func15, Try.ntmps15
    go_wp2
    go_ret
    exact ⟨ret_bool (a := false) HE.out.symm, HW.out⟩
  by_cases l2 : 1099511627776 < L
  · have HE := Lib.hid (may_low (l := l) (m := m) (.inr l2))
    go_enter Try.func15, Try.ntmps15
    go_wp2
    go_ret
    exact ⟨ret_bool (a := false) HE.out.symm, HW.out⟩
  have HE := Lib.hid (may_two (L := L) (l := l) (m := m) (by omega) (by omega))
  have hL : L ≤ 1099511627776 := by omega
  have m1 : decide (1 ≤ L) = true := by simp; omega
  have m2 : decide (L ≤ 1099511627776) = true := by simp; omega
  clear l1 l2
  have C1 := Lib.hid (mayops_any B L A n c l _ HC.out HBW.out)
  have C2 := Lib.hid (fun w h hB => maynotes_any B L hL A' n' c' m w h hB)
  generalize (decide (l.length ≤ 4096) && mayOps L l) = q1 at HE C1
  generalize (decide (m.length ≤ 256) && mayNotes L m) = q2 at HE C2
  go_enter Try.func15, Try.ntmps15
  go_wp2_with fail
  refine C1.out.mono ?_
  rintro e w1 ⟨rfl, hb1⟩
  have HX1 := Lib.hid (HX.out.below hb1 HX.out.lt)
  have q0 : w1.cell? ⟨w.heap.size, 0, none⟩ = some (.int .i64 L) := HX1.out.cell 0
  have q2 : w1.cell? ⟨w.heap.size, 2, none⟩ = some (.slice A' n' c') := HX1.out.cell 2
  have HB1 := Lib.hid (held_two HW.out hb1)
  have HS1 := Lib.hid (HS.out.below (hb1.mono HBW.out))
  have hB1 : B ≤ w1.heap.size := Nat.le_trans HBW.out hb1.size
  clear hb1 C1 HX HS HC
  cases q1 with
  | false =>
    go_wp2
    go_ret
    exact ⟨ret_bool (a := false) (by rw [HE.out]; rfl), HB1.out⟩
  | true =>
    go_wp2_with fail
    refine (C2.out _ HS1.out hB1).mono ?_
    rintro e w2 ⟨rfl, hb2⟩
    have HB2 := Lib.hid (held_two HB1.out hb2)
    clear hb2
    go_wp2
    go_ret
    exact ⟨ret_bool (by rw [HE.out, Bool.true_and]), HB2.out⟩
end Go.Proofs.Ytlkjmdkmcaaihaa.Bt
