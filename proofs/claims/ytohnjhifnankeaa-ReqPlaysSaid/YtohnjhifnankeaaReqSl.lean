/-
  Contracts of slices.Grow, slices.Concat (of two) and slices.Clone at requests, and of what package req makes of them: one more behind a list, one in another's place, those that are not done.
-/
import Derived.Test.YtohnjhifnankeaaReqMay
import Derived.Lib.AppendZeros
import Derived.Lib.SliceRun
namespace Go.Proofs.Ytohnjhifnankeaa.Req
set_option linter.unusedVariables false
set_option maxRecDepth 100000
open Go.RowKit Base ReqMath
open Go.Sort (grow)
set_option linter.ambiguousOpen false
set_option linter.unusedSimpArgs false

theorem qel2 : Elem Try.prog 48 29 7 56 (.agg #[.int .i64 0, .int .i64 0, .int .i64 0, .int .i64 0, .int .i64 0, .int .i64 0, .bool false]) := Elem.of Try.underlying48 (by kernel_rfl) rfl (by omega)
def zreq : Value := .agg #[.int .i64 0, .int .i64 0, .int .i64 0, .int .i64 0, .int .i64 0, .int .i64 0, .bool false]
theorem zeros_size (n : Nat) : (Builtin.zeroCells zreq.cells n).size = n * 7 := by
  first
    | (rw [Builtin.zeroCells_size]; rfl)
    | (simp [Builtin.zeroCells, zreq, Value.cells])
theorem append_run {P : Program} (w : World) {ops : Array Oper} {rest : List Oper} {o : Oper} {a : Act} {Q : Exit → Act → World → Prop} (hgd : o.guard = none) (d s : Operand) (t t' : TypeId)
    (ho : o.op = .call { callee := .builtin .append, args := #[d, s], argTypes := #[t, t'] }) (v u : Value) (hd : a.eval d = v) (hs : a.eval s = u) {v' : Value} {w' : World}
    (hr : (Builtin.append_ #[t, t'] o.type #[v, u]).run P w = .ok v' w') (h : wpList P ops Q rest (a.put o.dst v') w') : wpList P ops Q (o :: rest) a w := by
  refine wpList_plain hgd fun K hK => ?_
  unfold Oper.wp
  simp only [ho, execOp, resolve, invoke, builtin, Sem.run_bind, Sem.run_pure, Result.andThen_ok, List.map_toArray, List.map_cons, List.map_nil, hd, hs, hr]
  exact hK _ _ h

set_option maxHeartbeats 1600000 in
/-- slices.Grow of nil: room for m, in new memory -/
theorem grow_any (m : Nat) (w : World) (hm : 1 ≤ m) (hm2 : m ≤ 1099511627776) :
    Calls Try.prog 41 #[.slice none 0 0, .int .i64 m] w fun e w' => ∃ A c, e = .returned (.slice A 0 c) ∧ w'.ownsRow w.heap.size 29 7 (.slice A 0 c) 0 [] ∧ Below w.heap.size w w' := by
  obtain ⟨i0, t22, hi0, hz, hs4, hby, _, _⟩ := qel2
  obtain ⟨G, hG⟩ : ∃ G, G = grownCap w m 0 29 := ⟨_, rfl⟩
  have hGn : m ≤ G := by rw [hG]; exact grownCap_ge w _ _ _
  have hGm : G ≤ maxLen := by rw [hG]; exact grownCap_le_maxLen w m 0 _ (by unfold maxLen; omega)
  have hG63 : G ≤ 9223372036854775807 := by unfold maxLen at hGm; omega
  obtain ⟨ROW, hROW⟩ : ∃ ROW : Array Value, ROW = Builtin.zeroCells zreq.cells m ++ Builtin.zeroCells zreq.cells (G - m) := ⟨_, rfl⟩
  have hrz : ∀ ty, (Builtin.append_ #[48, 3] ty #[.slice none 0 0, .int .i64 m]).run Try.prog w = .ok (.slice (some ⟨w.heap.size, 0, none⟩) m G) (w.drew.alloc (.cells ROW 29)) := fun ty => by
    have h := Lib.run_append_nil_zeros w 48 3 ty 29 i0 zreq .i64 .i64 t22 Try.underlying3 hi0 hz m (by omega) (by omega) (by omega) (by rw [hby]; omega)
    rw [← hG, ← hROW] at h
    exact h
  have hsz : ROW.size = G * 7 := by rw [hROW, Array.size_append, zeros_size, zeros_size]; omega
  have HRZ := Lib.hid hrz
  have hown : (w.drew.alloc (.cells ROW 29)).ownsRow w.heap.size 29 7 (.slice (some ⟨w.heap.size, 0, none⟩) 0 G) 0 [] :=
    ⟨rfl, .inr ⟨w.heap.size, G, ROW, rfl, Nat.le_refl _, heap_alloc_new w.drew _, Nat.zero_le _, hGm, hsz, by simp⟩⟩
  have HO := Lib.hid hown
  have HB : Hid (Below w.heap.size w (w.drew.alloc (.cells ROW 29))) := (Below.refl _ _).drew.alloc (Nat.le_refl _) _
  clear hown hrz hsz hROW hG hi0 hz hs4 hby t22
  generalize w.drew.alloc (.cells ROW 29) = W at *
  have l1 : ¬ (m : Int) < 0 := by omega
  have l2 : (0 : Int) < (m : Int) := by omega
  go_enter Try.func41, Try.ntmps41
  go_wp2_with (at_builtin; refine append_run _ rfl _ _ 48 3 rfl _ _ rfl rfl (HRZ.out _) ?_)
  go_ret
  exact ⟨_, _, rfl, HO.out, HB.out⟩

set_option maxHeartbeats 800000 in
theorem clone_any (B : Nat) (A : Option Addr) (n c : Nat) (l : List Rq) (w : World) (hr : Qs w B A n c l) (hB : B ≤ w.heap.size) (hsz : n ≤ 1099511627776) :
    Calls Try.prog 38 #[.slice A n c] w (QsNew w l) := by
  have hnil : ∀ w, (binOp .eql 48 (.slice A n c) (.slice none 0 0)).run Try.prog w = .ok (.bool A.isNone) w := fun w => Lib.run_eql_slice_nil (P := Try.prog) w 48 29 A n c 0 0 Try.underlying48
  have hlen := hr.len
  have HL := Lib.hid hlen
  clear hlen
  cases A with
  | none =>
    have h0 : n = 0 := by
      rcases Nat.eq_zero_or_pos n with h0 | h0
      · exact h0
      · obtain ⟨b, off, h, _⟩ := hr.2.2.2 h0
        cases h
    subst h0
    obtain rfl : l = [] := List.eq_nil_of_length_eq_zero hr.len
    clear hr
    go_enter Try.func38, Try.ntmps38
    go_wp2
    go_ret
    exact ⟨none, 0, rfl, World.ownsRow_nil _ _ _ _, Below.refl _ _⟩
  | some a =>
    have HR := Lib.hid hr
    clear hr
    go_enter Try.func38, Try.ntmps38
    go_wp2_with (first
      | (at_builtin
         refine wpList_append_row rfl (.tmp 5) (.tmp 6) rfl qel2 w.heap.size _ 0 [] rfl (own_empty _ _ _ _ rfl (Nat.le_refl _)) B (some a) n c (qv l) rfl (Row.alloc HR.out hB _) (qv_one _) (by omega) (by omega) (by simp) ?_
         intro A1 c1 w1 hown1 _ hb1
         rw [Nat.zero_add, List.nil_append] at hown1
         rw [Nat.zero_add]
         have HY1 := Lib.hid hown1
         have HB1 := Lib.hid (((Below.refl w.heap.size w).alloc (Nat.le_refl _) _).trans hb1)
         clear hown1 hb1)
      | fail)
    go_ret
    exact ⟨A1, c1, by rw [HL.out]; rfl, by rw [HL.out]; exact HY1.out, HB1.out⟩

/-- two lists in one row of slices, in a block g -/
def Two (w : World) (g : Nat) (v1 v2 : Value) : Prop := w.cell? ⟨g, 0, none⟩ = some v1 ∧ w.cell? ⟨g, 1, none⟩ = some v2
set_option maxHeartbeats 1600000 in
theorem concat_any (B : Nat) (A : Option Addr) (n c : Nat) (l : List Rq) (A' : Option Addr) (c' : Nat) (r : Rq) (g : Nat) (w : World) (hr : Qs w B A n c l) (hr' : Qs w B A' 1 c' [r]) (hB : B ≤ w.heap.size) (hg : Two w g (.slice A n c) (.slice A' 1 c')) (hsz : n ≤ 1099511627770) :
    Calls Try.prog 37 #[.slice (some ⟨g, 0, none⟩) 2 2] w (QsNew w (l ++ [r])) := by
  have HL := Lib.hid hr.len
  have HR := Lib.hid hr
  have HR' := Lib.hid hr'
  obtain ⟨g0, g1⟩ := hg
  have hglt := World.block_lt_of_cell? w _ g0
  have hc1 := hr.le
  have hc2 := hr'.le
  clear hr hr'
  go_enter Try.func37, Try.ntmps37
  go_wp2
  go_loop [3, 11] (fun s i => (i = .int .i64 0 ∧ s = .int .i64 0) ∨ (i = .int .i64 1 ∧ s = .int .i64 n) ∨ (i = .int .i64 2 ∧ s = .int .i64 ((n : Int) + 1))) (fun s i => 2 - (intOf i).toNat)
  case atStart => exact .inl ⟨rfl, rfl⟩
  case round =>
    rcases hrel with ⟨rfl, rfl⟩ | ⟨rfl, rfl⟩ | ⟨rfl, rfl⟩
    · go_wp2
      go_round
      case rel => exact .inr (.inl ⟨by go_num, by go_num⟩)
      case measure => simp [intOf]
    · go_wp2
      go_round
      case rel => exact .inr (.inr ⟨by go_num, by go_num⟩)
      case measure => simp [intOf]
    · have hgr := grow_any (n + 1) w (by omega) (by omega)
      rw [show ((n + 1 : Nat) : Int) = (n : Int) + 1 by omega] at hgr
      have HGR := Lib.hid hgr
      clear hgr
      go_wp2_with fail
      refine HGR.out.mono ?_
      rintro e w1 ⟨A1, c1, rfl, hown1, hb1⟩
      have HO1 := Lib.hid hown1
      have HB1 := Lib.hid hb1
      have hca := (Row.of_own hown1).le
      clear hown1 hb1
      go_wp2
      go_loopw [6, 27] (fun s i wr => ∃ k A2 c2, k ≤ 2 ∧ i = .int .i64 (k : Nat) ∧ s = .slice A2 (if k = 0 then 0 else if k = 1 then n else n + 1) c2 ∧ wr.ownsRow w.heap.size 29 7 s (if k = 0 then 0 else if k = 1 then n else n + 1) (qv (if k = 0 then [] else if k = 1 then l else l ++ [r])) ∧ Below w.heap.size w wr) (fun s i _ => 2 - (intOf i).toNat)
      case atStart => exact ⟨0, A1, c1, by omega, rfl, rfl, HO1.out, HB1.out⟩
      case round =>
        obtain ⟨k, A2, c2, hk, rfl, rfl, hown, hbel⟩ := hrel
        have HB2 := Lib.hid hbel
        have k0 := (hbel.cell (p := ⟨g, 0, none⟩) hglt).trans g0
        have k1 := (hbel.cell (p := ⟨g, 1, none⟩) hglt).trans g1
        clear hbel
        obtain rfl | rfl | rfl : k = 0 ∨ k = 1 ∨ k = 2 := by omega
        · simp only [if_true] at hown ⊢
          have HO2 := Lib.hid hown
          clear hown
          go_wp2_with (first
            | (at_builtin
               refine wpList_append_row rfl (.tmp 31) (.tmp 32) rfl qel2 w.heap.size _ 0 (qv []) rfl HO2.out B A n c (qv l) rfl (HR.out.below (HB2.out.mono hB)) (qv_one _) (by omega) (by omega) HB2.out.size ?_
               intro A3 c3 w3 hown3 _ hb3
               rw [Nat.zero_add, show qv [] ++ qv l = qv l from rfl] at hown3
               rw [Nat.zero_add]
               have HO3 := Lib.hid hown3
               have HB3 := Lib.hid (HB2.out.trans hb3)
               clear hown3 hb3)
            | fail)
          go_roundw
          case rel => exact ⟨1, A3, c3, by omega, by go_num, by simp, by simpa using HO3.out, HB3.out⟩
          case measure => simp [intOf]
        · simp only [if_true, if_neg (show ¬ (1 : Nat) = 0 by omega)] at hown ⊢
          have HO2 := Lib.hid hown
          clear hown
          go_wp2_with (first
            | (at_builtin
               refine wpList_append_row rfl (.tmp 31) (.tmp 32) rfl qel2 w.heap.size _ n (qv l) rfl HO2.out B A' 1 c' (qv [r]) rfl (HR'.out.below (HB2.out.mono hB)) (qv_one _) (by omega) (by omega) HB2.out.size ?_
               intro A3 c3 w3 hown3 _ hb3
               rw [← qv_append] at hown3
               have HO3 := Lib.hid hown3
               have HB3 := Lib.hid (HB2.out.trans hb3)
               clear hown3 hb3)
            | fail)
          go_roundw
          case rel => exact ⟨2, A3, c3, by omega, by go_num, by simp, by simpa using HO3.out, HB3.out⟩
          case measure => simp [intOf]
        · simp only [if_neg (show ¬ (2 : Nat) = 0 by omega), if_neg (show ¬ (2 : Nat) = 1 by omega)] at hown ⊢
          have HO2 := Lib.hid hown
          clear hown
          go_wp2
          go_ret
          exact ⟨A2, c2, by rw [List.length_append, HL.out]; rfl, by rw [List.length_append, HL.out]; exact HO2.out, HB2.out⟩

set_option maxHeartbeats 800000 in
theorem with_any (B : Nat) (A : Option Addr) (n c : Nat) (l : List Rq) (r : Rq) (w : World) (hr : Qs w B A n c l) (hB : B ≤ w.heap.size) (hsz : n ≤ 1099511627770) :
    Calls Try.prog 27 #[.slice A n c, qval r] w (QsNew w (l ++ [r])) := by
  obtain ⟨r0, r1, r2, r3, r4, r5, r6⟩ := r
  unfold qval
  dsimp only
  obtain ⟨O1, hO1⟩ : ∃ o : Obj, o = .cells #[.int .i64 r0, .int .i64 r1, .int .i64 r2, .int .i64 r3, .int .i64 r4, .int .i64 r5, .bool r6] 29 := ⟨_, rfl⟩
  have hb : Below w.heap.size w ((w.alloc O1).alloc O1) := ((Below.refl _ _).alloc (Nat.le_refl _) _).alloc (by simp) _
  have hone : Qs ((w.alloc O1).alloc O1) (w.heap.size + 2) (some ⟨w.heap.size + 1, 0, none⟩) 1 1 [⟨r0, r1, r2, r3, r4, r5, r6⟩] := by
    have := qone (w.alloc O1) ⟨r0, r1, r2, r3, r4, r5, r6⟩ (s := w.heap.size + 1) (by simp)
    rw [← hO1] at this
    simpa [Qs] using this
  have HC := Lib.hid (concat_any (w.heap.size + 2) A n c l (some ⟨w.heap.size + 1, 0, none⟩) 1 ⟨r0, r1, r2, r3, r4, r5, r6⟩ (w.heap.size + 2) (((w.alloc O1).alloc O1).alloc (.cells #[.slice A n c, .slice (some ⟨w.heap.size + 1, 0, none⟩) 1 1] 48))
    (((hr.below (hb.mono hB)).more (by omega)).below ((Below.refl _ _).alloc (by simp) _)) (hone.below ((Below.refl _ _).alloc (by simp) _)) (by simp) ⟨by have := (Blk.new ((w.alloc O1).alloc O1) 48 #[.slice A n c, .slice (some ⟨w.heap.size + 1, 0, none⟩) 1 1]).cell 0; simpa using this, by have := (Blk.new ((w.alloc O1).alloc O1) 48 #[.slice A n c, .slice (some ⟨w.heap.size + 1, 0, none⟩) 1 1]).cell 1; simpa using this⟩ hsz)
  have HB : Hid (Below w.heap.size w (((w.alloc O1).alloc O1).alloc (.cells #[.slice A n c, .slice (some ⟨w.heap.size + 1, 0, none⟩) 1 1] 48))) := hb.alloc hb.size _
  rw [hO1] at HC HB
  clear hone hr hb hO1
  go_enter Try.func27, Try.ntmps27
  go_wp2_with fail
  refine HC.out.mono ?_
  rintro e w2 ⟨A2, c2, rfl, ho, hb2⟩
  have HO := Lib.hid (own_mono ho HB.out.size)
  have HB2 := Lib.hid (held_two HB.out hb2)
  clear ho hb2
  go_wp2
  go_ret
  exact ⟨A2, c2, by rw [List.length_append]; rfl, HO.out, HB2.out⟩

set_option maxHeartbeats 1600000 in
theorem open_any (B : Nat) (A : Option Addr) (n c : Nat) (l : List Rq) (w : World) (hr : Qs w B A n c l) (hB : B ≤ w.heap.size) (hsz : n ≤ 1099511627770) :
    Calls Try.prog 33 #[.slice A n c] w (QsNew w (opens l)) := by
  have HL := Lib.hid hr.len
  have HR := Lib.hid hr
  have hle := hr.le
  clear hr
  go_enter Try.func33, Try.ntmps33
  go_wp2
  go_loopw [3, 8] (fun s i wr => ∃ (k m : Nat) (A2 : Option Addr) (c2 : Nat), k ≤ n ∧ m = (opens (l.take k)).length ∧ i = .int .i64 k ∧ s = .slice A2 m c2 ∧ wr.ownsRow w.heap.size 29 7 (.slice A2 m c2) m (qv (opens (l.take k))) ∧ Below w.heap.size w wr) (fun s i _ => n - (intOf i).toNat)
  case atStart => exact ⟨0, 0, none, 0, by omega, rfl, rfl, rfl, World.ownsRow_nil _ _ _ _, Below.refl _ _⟩
  case round =>
    obtain ⟨k, m, A2, c2, hk, hm, rfl, rfl, hown, hbel⟩ := hrel
    have HB2 := Lib.hid hbel
    have HO2 := Lib.hid hown
    have HM := Lib.hid hm
    have hmk : m ≤ n := by rw [hm]; exact Nat.le_trans (opens_len _) (by rw [List.length_take]; omega)
    clear hbel hown hm
    by_cases hlt : k < n
    · obtain ⟨b, off, f, rfl, hb, q0, q1, q2, q3, q4, q5, q6, hget, ht⟩ := (HR.out.below (HB2.out.mono hB)).at_ hlt
      have HS : Hid (opens (l.take (k + 1)) = opens (l.take k) ++ (if f.done then [] else [f])) := by show _ = _; rw [ht, opens_snoc]
      obtain ⟨f0, f1, f2, f3, f4, f5, f6⟩ := f
      dsimp only at q0 q1 q2 q3 q4 q5 q6 HS
      have l1 : (k : Int) < (n : Int) := by omega
      clear hget ht
      cases f6 with
      | true =>
        rw [if_pos rfl, List.append_nil] at HS
        go_wp2
        go_roundw
        case rel => exact ⟨k + 1, m, A2, c2, by omega, by rw [HS.out]; exact HM.out, by go_num, rfl, by rw [HS.out]; exact own_keep HO2.out ((Below.refl _ _).alloc (Nat.le_refl _) _), HB2.out.alloc HB2.out.size _⟩
        case measure => simp [intOf]; omega
      | false =>
        rw [if_neg (by simp)] at HS
        have hz := HB2.out.size
        go_wp2_with (first
          | (at_builtin
             refine wpList_append_row rfl (.tmp 15) (.tmp 17) rfl qel2 w.heap.size _ m (qv (opens (l.take k))) rfl (own_keep HO2.out (((Below.refl _ _).alloc (Nat.le_refl _) _).alloc (by simp) _)) (wr.heap.size + 2) _ 1 1 (qv [⟨f0, f1, f2, f3, f4, f5, false⟩]) rfl (by have := qone (wr.alloc (.cells #[.int .i64 f0, .int .i64 f1, .int .i64 f2, .int .i64 f3, .int .i64 f4, .int .i64 f5, .bool false] 29)) ⟨f0, f1, f2, f3, f4, f5, false⟩ rfl; simpa using this) (qv_one _) (by omega) (by omega) (by simp; omega) ?_
             intro A3 c3 w3 hown3 _ hb3
             rw [← qv_append] at hown3
             have HO3 := Lib.hid hown3
             have HB3 := Lib.hid (((HB2.out.alloc hz _).alloc (by simp; omega) _).trans hb3)
             clear hown3 hb3)
          | fail)
        go_roundw
        case rel => exact ⟨k + 1, m + 1, A3, c3, by omega, by rw [HS.out, List.length_append, ← HM.out]; rfl, by go_num, rfl, by rw [HS.out]; exact HO3.out, HB3.out⟩
        case measure => simp [intOf]; omega
    · obtain rfl : k = n := by omega
      have HT : Hid (l.take k = l) := List.take_of_length_le (by rw [HL.out]; omega)
      rw [HT.out] at HO2 HM
      go_wp2
      go_ret
      exact ⟨A2, c2, by rw [← HM.out]; rfl, by rw [← HM.out]; exact HO2.out, HB2.out⟩
theorem Open_any (B : Nat) (A : Option Addr) (n c : Nat) (l : List Rq) (w : World) (hr : Qs w B A n c l) (hB : B ≤ w.heap.size) (hsz : n ≤ 1099511627770) :
    Calls Try.prog 15 #[.slice A n c] w (QsNew w (opens l)) := by
  have HC := Lib.hid (open_any B A n c l w hr hB hsz)
  clear hr
  go_enter Try.func15, Try.ntmps15
  go_wp2_with fail
  refine HC.out.mono ?_
  rintro e w2 ⟨A2, c2, rfl, ho, hb2⟩
  have HO := Lib.hid ho
  have HB2 := Lib.hid hb2
  clear ho hb2
  go_wp2
  go_ret
  exact ⟨A2, c2, rfl, HO.out, HB2.out⟩
end Go.Proofs.Ytohnjhifnankeaa.Req
