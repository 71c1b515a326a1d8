/-
  Contracts of the statements' own helpers at slices of qanat/api.Req: a copy with something behind it, whether it is as it was, and all of it written over.
-/
import Derived.Test.YtohnjhifnankeaaReqHelp
namespace Go.Proofs.Ytohnjhifnankeaa.Req
set_option linter.unusedVariables false
set_option maxRecDepth 100000
open Go.RowKit Base ReqMath
set_option linter.ambiguousOpen false
set_option linter.unusedSimpArgs false

theorem qthree (w : World) (f : Rq) {s : Nat} (hs : s = w.heap.size) :
    Row (w.alloc (.cells #[.int .i64 f.id, .int .i64 f.tbl, .int .i64 f.wt, .int .i64 f.at_, .int .i64 f.cur, .int .i64 f.chs, .bool f.done, .int .i64 f.id, .int .i64 f.tbl, .int .i64 f.wt, .int .i64 f.at_, .int .i64 f.cur, .int .i64 f.chs, .bool f.done, .int .i64 f.id, .int .i64 f.tbl, .int .i64 f.wt, .int .i64 f.at_, .int .i64 f.cur, .int .i64 f.chs, .bool f.done] 29)) (w.heap.size + 1) 7 (some ⟨s, 0, none⟩) 3 3 (qv [f, f, f]) :=
  Row.lit w #[.int .i64 f.id, .int .i64 f.tbl, .int .i64 f.wt, .int .i64 f.at_, .int .i64 f.cur, .int .i64 f.chs, .bool f.done, .int .i64 f.id, .int .i64 f.tbl, .int .i64 f.wt, .int .i64 f.at_, .int .i64 f.cur, .int .i64 f.chs, .bool f.done, .int .i64 f.id, .int .i64 f.tbl, .int .i64 f.wt, .int .i64 f.at_, .int .i64 f.cur, .int .i64 f.chs, .bool f.done] 29 (0, 0) hs rfl (by omega)
set_option maxHeartbeats 1600000 in
theorem qown_any (B : Nat) (A : Option Addr) (n c : Nat) (l : List Rq) (f : Rq) (w : World) (h : Qs w B A n c l) (hB : B ≤ w.heap.size) (hn : n ≤ 1099511627770) :
    Calls Try.prog 8 #[.slice A n c, .agg #[.int .i64 f.id, .int .i64 f.tbl, .int .i64 f.wt, .int .i64 f.at_, .int .i64 f.cur, .int .i64 f.chs, .bool f.done]] w fun e w' => ∃ A c, e = .returned (.slice A n (n + 3)) ∧ w'.ownsRow w.heap.size 29 7 (.slice A (n + 3) c) (n + 3) (qv (l ++ [f, f, f])) ∧ Below w.heap.size w w' := by
  have hbx : Below w.heap.size w (w.alloc (.cells #[.int .i64 f.id, .int .i64 f.tbl, .int .i64 f.wt, .int .i64 f.at_, .int .i64 f.cur, .int .i64 f.chs, .bool f.done] 29)) := (Below.refl _ _).alloc (Nat.le_refl _) _
  have HBX := Lib.hid (Blk.new w 29 #[.int .i64 f.id, .int .i64 f.tbl, .int .i64 f.wt, .int .i64 f.at_, .int .i64 f.cur, .int .i64 f.chs, .bool f.done])
  have HR : Hid (Qs (w.alloc (.cells #[.int .i64 f.id, .int .i64 f.tbl, .int .i64 f.wt, .int .i64 f.at_, .int .i64 f.cur, .int .i64 f.chs, .bool f.done] 29)) B A n c l) := h.below (hbx.mono hB)
  have HB0 := Lib.hid hbx
  obtain ⟨wb, hwb⟩ : ∃ wb, wb = w.alloc (.cells #[.int .i64 f.id, .int .i64 f.tbl, .int .i64 f.wt, .int .i64 f.at_, .int .i64 f.cur, .int .i64 f.chs, .bool f.done] 29) := ⟨_, rfl⟩
  have hszb : wb.heap.size = w.heap.size + 1 := by rw [hwb]; simp
  rw [← hwb] at HBX HR HB0
  have HW := Lib.hid hwb
  have HSZ := Lib.hid hszb
  clear h hbx hwb hszb
  go_enter Try.func8, Try.ntmps8
  go_wp2_with (first
    | (at_builtin
       rw [← HW.out]
       refine wpList_append_row rfl (.tmp 6) (.tmp 7) rfl qel wb.heap.size (.slice (some ⟨w.heap.size + 1, 0, none⟩) 0 0) 0 [] rfl (own_empty wb _ _ 7 HSZ.out.symm (Nat.le_refl _)) B A n c (qv l) rfl (Row.alloc HR.out (Nat.le_trans hB HB0.out.size) _) (qv_one _) (by omega) (by omega) (by simp) ?_
       intro A2 c2 w2 hown2 _ hb2
       rw [Nat.zero_add, List.nil_append] at hown2
       rw [Nat.zero_add]
       have HO2 := Lib.hid hown2
       have hbw2 := ((Below.refl wb.heap.size wb).alloc (Nat.le_refl _) (.cells #[] 29)).trans hb2
       have HB2 := Lib.hid hbw2
       have hbx2 := HBX.out.below hbw2 (by rw [HSZ.out]; omega)
       have d0 := hbx2.cell 0
       have d1 := hbx2.cell 1
       have d2 := hbx2.cell 2
       have d3 := hbx2.cell 3
       have d4 := hbx2.cell 4
       have d5 := hbx2.cell 5
       have d6 := hbx2.cell 6
       clear hown2 hb2 hbw2 hbx2)
    | (at_builtin
       refine wpList_append_row rfl (.tmp 9) (.tmp 13) rfl qel wb.heap.size (.slice A2 n c2) n (qv l) rfl (own_keep HO2.out ((Below.refl _ _).alloc (Nat.le_refl _) _)) (w2.heap.size + 1) (some ⟨w2.heap.size, 0, none⟩) 3 3 (qv [f, f, f]) rfl (qthree w2 f rfl) (qv_one _) (by omega) (by omega) (by have := HB2.out.size; simp; omega) ?_
       intro A3 c3 w3 hown3 _ hb3
       rw [← qv_append] at hown3
       have hc3 := (Row.of_own hown3).le
       have HO3 := Lib.hid hown3
       have HB3 := Lib.hid ((HB2.out.alloc HB2.out.size _).trans hb3)
       clear hown3 hb3)
    | fail)
  go_ret
  exact ⟨A3, c3, rfl, own_mono HO3.out HB0.out.size, HB0.out.trans (HB3.out.mono HB0.out.size)⟩

theorem qfill_get (l : List Rq) (f : Rq) {k : Nat} (h1 : l.length ≤ k) (h2 : k < l.length + 3) : (l ++ [f, f, f])[k]? = some f := by
  rw [List.getElem?_append_right h1]
  generalize hq : k - l.length = q
  have : q < 3 := by omega
  match q, this with
  | 0, _ => rfl
  | 1, _ => rfl
  | 2, _ => rfl
set_option maxHeartbeats 1600000 in
theorem qkept_same (B B' : Nat) (A A' : Option Addr) (n c' : Nat) (l : List Rq) (f : Rq) (w : World) (hl : l.length = n) (h : Qs w B A (n + 3) (n + 3) (l ++ [f, f, f])) (h' : Qs w B' A' n c' l) (hB : B ≤ w.heap.size) (hB' : B' ≤ w.heap.size) (hn : n ≤ 1099511627770) :
    Calls Try.prog 14 #[.slice A n (n + 3), .slice A' n c', .agg #[.int .i64 f.id, .int .i64 f.tbl, .int .i64 f.wt, .int .i64 f.at_, .int .i64 f.cur, .int .i64 f.chs, .bool f.done]] w fun e w' => e = .returned (.bool true) ∧ Below w.heap.size w w' := by
  have hbx : Below w.heap.size w (w.alloc (.cells #[.int .i64 f.id, .int .i64 f.tbl, .int .i64 f.wt, .int .i64 f.at_, .int .i64 f.cur, .int .i64 f.chs, .bool f.done] 29)) := (Below.refl _ _).alloc (Nat.le_refl _) _
  have HBX := Lib.hid (Blk.new w 29 #[.int .i64 f.id, .int .i64 f.tbl, .int .i64 f.wt, .int .i64 f.at_, .int .i64 f.cur, .int .i64 f.chs, .bool f.done])
  have HL := Lib.hid hl
  have HR : Hid (Qs (w.alloc (.cells #[.int .i64 f.id, .int .i64 f.tbl, .int .i64 f.wt, .int .i64 f.at_, .int .i64 f.cur, .int .i64 f.chs, .bool f.done] 29)) B A (n + 3) (n + 3) (l ++ [f, f, f])) := h.below (hbx.mono hB)
  have HR' : Hid (Qs (w.alloc (.cells #[.int .i64 f.id, .int .i64 f.tbl, .int .i64 f.wt, .int .i64 f.at_, .int .i64 f.cur, .int .i64 f.chs, .bool f.done] 29)) B' A' n c' l) := h'.below (hbx.mono hB')
  have HF : Hid (Qs (w.alloc (.cells #[.int .i64 f.id, .int .i64 f.tbl, .int .i64 f.wt, .int .i64 f.at_, .int .i64 f.cur, .int .i64 f.chs, .bool f.done] 29)) B A n (n + 3) l) := by
    have := HR.out.front (k := n) (by omega)
    rw [List.take_left' hl] at this
    exact this
  have HW := Lib.hid hbx
  clear h h' hl hbx
  go_enter Try.func14, Try.ntmps14
  go_wp2_with fail
  refine (qplain_same B B' A A' n n (n + 3) c' l _ HF.out HR'.out (Nat.le_trans hB HW.out.size) (Nat.le_trans hB' HW.out.size)).mono ?_
  rintro e w2 ⟨rfl, hb2⟩
  have HR2 := Lib.hid (HR.out.below (hb2.mono (Nat.le_trans hB HW.out.size)))
  have HB2 := Lib.hid (held_two HW.out hb2)
  have hbx2 := HBX.out.below hb2 HBX.out.lt
  have d0 := hbx2.cell 0
  have d1 := hbx2.cell 1
  have d2 := hbx2.cell 2
  have d3 := hbx2.cell 3
  have d4 := hbx2.cell 4
  have d5 := hbx2.cell 5
  have d6 := hbx2.cell 6
  clear hb2 hbx2
  obtain ⟨xb, hxb⟩ : ∃ xb, xb = w.heap.size := ⟨_, rfl⟩
  rw [← hxb] at d0 d1 d2 d3 d4 d5 d6
  go_wp2
  rw [← hxb]
  have HXB := Lib.hid hxb
  clear hxb
  go_loopw [8] (fun i wr => ∃ k : Nat, n ≤ k ∧ k ≤ n + 3 ∧ i = .int .i64 k ∧ ∃ q, wr = w2.drewN q) (fun i _ => n + 3 - (RowKit.intOf i).toNat)
  case atStart => exact ⟨n, by omega, by omega, rfl, 0, rfl⟩
  case round =>
    obtain ⟨k, hk0, hk, rfl, q, rfl⟩ := hrel
    by_cases hlt : k < n + 3
    · obtain ⟨b, off, g, rfl, hb, c0, c1, c2, c3, c4, c5, c6, hget, _⟩ := HR2.out.at_ hlt
      obtain rfl : f = g := by rw [qfill_get l f (by rw [HL.out]; exact hk0) (by rw [HL.out]; exact hlt)] at hget; injection hget
      clear hget
      have l1 : (k : Int) < (n : Int) + 3 := by omega
      go_wp2_with fail
      go_quiet (fail)
      go_wp2
      go_roundw
      case rel => exact ⟨k + 1, by omega, by omega, by go_num, q + nq, by first | rfl | rw [World.drewN_drewN]⟩
      case measure => simp [RowKit.intOf]; omega
    · go_wp2
      go_ret
      exact ⟨rfl, below_drewN HB2.out _⟩

/-! ### written over -/
def QsSpoil (g n : Nat) (w1 : World) (i : Value) (wr : World) : Prop := ∃ (k : Nat) (cs : Array Value), k ≤ n ∧ i = .int .i64 k ∧ Blk wr g 29 cs ∧ n * 7 ≤ cs.size ∧ w1.grownBy wr (some g)
set_option maxHeartbeats 1600000 in
theorem qspoil_blk (g n c : Nat) (cs : Array Value) (w : World) (h : Blk w g 29 cs) (hn : n * 7 ≤ cs.size) (hc : n ≤ c) (hm : c ≤ 9223372036854775807) :
    Calls Try.prog 17 #[.slice (some ⟨g, 0, none⟩) n c] w fun e w' => e = .returned (.tuple #[]) ∧ w.grownBy w' (some g) := by
  have hglt := h.lt
  obtain ⟨w1, hw1⟩ : ∃ w1, w1 = w.alloc (.cells #[.int .i64 0, .int .i64 0, .int .i64 0, .int .i64 0, .int .i64 0, .int .i64 0, .bool false] 29) := ⟨_, rfl⟩
  have hz : Blk w1 w.heap.size 29 #[.int .i64 0, .int .i64 0, .int .i64 0, .int .i64 0, .int .i64 0, .int .i64 0, .bool false] := by rw [hw1]; exact Blk.new _ _ _
  have hb1 : Blk w1 g 29 cs := by rw [hw1]; exact h.alloc _
  have hg1 : w.grownBy w1 (some g) := by rw [hw1]; exact only_alloc (World.grownBy.refl _ _) _
  obtain ⟨zb, hzb⟩ : ∃ zb, zb = w.heap.size := ⟨_, rfl⟩
  rw [← hzb] at hz hglt
  have HB := Lib.hid hb1
  have HZ := Lib.hid hz
  have HG := Lib.hid hg1
  have HW := Lib.hid hw1
  have HZB := Lib.hid hzb
  clear h hz hb1 hg1 hw1 hzb
  go_enter Try.func17, Try.ntmps17
  go_wp2
  rw [← HZB.out, ← HW.out]
  go_loopw [3] (fun i wr => QsSpoil g n w1 i wr) (fun i _ => n - (RowKit.intOf i).toNat)
  case atStart => exact ⟨0, cs, by omega, rfl, HB.out, hn, World.grownBy.refl _ _⟩
  case round =>
    obtain ⟨k, cs', hk, rfl, hb, hs, hw⟩ := hrel
    have HW2 := Lib.hid hw
    have hz2 := HZ.out.grown hw (by intro e; injection e; omega)
    have d0 := hz2.cell 0
    have d1 := hz2.cell 1
    have d2 := hz2.cell 2
    have d3 := hz2.cell 3
    have d4 := hz2.cell 4
    have d5 := hz2.cell 5
    have d6 := hz2.cell 6
    by_cases hlt : k < n
    · have c0 : wr.cell? ⟨g, k * 7, none⟩ = some cs'[k * 7] := by rw [hb.cell]; exact Array.getElem?_eq_getElem (by omega)
      have c1 : wr.cell? ⟨g, k * 7 + 1, none⟩ = some cs'[k * 7 + 1] := by rw [hb.cell]; exact Array.getElem?_eq_getElem (by omega)
      have c2 : wr.cell? ⟨g, k * 7 + 2, none⟩ = some cs'[k * 7 + 2] := by rw [hb.cell]; exact Array.getElem?_eq_getElem (by omega)
      have c3 : wr.cell? ⟨g, k * 7 + 3, none⟩ = some cs'[k * 7 + 3] := by rw [hb.cell]; exact Array.getElem?_eq_getElem (by omega)
      have c4 : wr.cell? ⟨g, k * 7 + 4, none⟩ = some cs'[k * 7 + 4] := by rw [hb.cell]; exact Array.getElem?_eq_getElem (by omega)
      have c5 : wr.cell? ⟨g, k * 7 + 5, none⟩ = some cs'[k * 7 + 5] := by rw [hb.cell]; exact Array.getElem?_eq_getElem (by omega)
      have c6 : wr.cell? ⟨g, k * 7 + 6, none⟩ = some cs'[k * 7 + 6] := by rw [hb.cell]; exact Array.getElem?_eq_getElem (by omega)
      have f0 := hb.frozen (k * 7)
      have f1 := hb.frozen (k * 7 + 1)
      have f2 := hb.frozen (k * 7 + 2)
      have f3 := hb.frozen (k * 7 + 3)
      have f4 := hb.frozen (k * 7 + 4)
      have f5 := hb.frozen (k * 7 + 5)
      have f6 := hb.frozen (k * 7 + 6)
      have HB2 := Lib.hid (((((((hb.set_ (k * 7) (.int .i64 0)).set_ (k * 7 + 1) (.int .i64 0)).set_ (k * 7 + 2) (.int .i64 0)).set_ (k * 7 + 3) (.int .i64 0)).set_ (k * 7 + 4) (.int .i64 0)).set_ (k * 7 + 5) (.int .i64 0)).set_ (k * 7 + 6) (.bool false))
      clear hb hw hz2
      generalize cs'[k * 7] = z0 at c0
      generalize cs'[k * 7 + 1] = z1 at c1
      generalize cs'[k * 7 + 2] = z2 at c2
      generalize cs'[k * 7 + 3] = z3 at c3
      generalize cs'[k * 7 + 4] = z4 at c4
      generalize cs'[k * 7 + 5] = z5 at c5
      generalize cs'[k * 7 + 6] = z6 at c6
      go_wp2
      go_roundw
      case rel => exact ⟨k + 1, _, by omega, by go_num, HB2.out, by simpa using hs, only_setCell (only_setCell (only_setCell (only_setCell (only_setCell (only_setCell (only_setCell (HW2.out) (.inl rfl) _) (.inl rfl) _) (.inl rfl) _) (.inl rfl) _) (.inl rfl) _) (.inl rfl) _) (.inl rfl) _⟩
      case measure => simp [RowKit.intOf]; omega
    · clear hb hw hz2
      go_wp2
      go_end0
      exact ⟨rfl, only_trans HG.out HW2.out (.inl rfl)⟩
set_option maxHeartbeats 400000 in
theorem qspoil_none (c : Nat) (w : World) : Calls Try.prog 17 #[.slice none 0 c] w fun e w' => e = .returned (.tuple #[]) ∧ w.grownBy w' none := by
  have HG := Lib.hid (only_alloc (World.grownBy.refl w none) (.cells #[.int .i64 0, .int .i64 0, .int .i64 0, .int .i64 0, .int .i64 0, .int .i64 0, .bool false] 29))
  go_enter Try.func17, Try.ntmps17
  go_wp2
  refine wp_loop_rounds 1 ?_
  rw [rounds_succ]
  go_wp2
  go_end0
  exact ⟨rfl, HG.out⟩
theorem qspoil_any (base : Nat) (A : Option Addr) (n c : Nat) (xs : List Value) (w : World) (h : w.ownsRow base 29 7 (.slice A n c) n xs) :
    Calls Try.prog 17 #[.slice A n c] w fun e w' => e = .returned (.tuple #[]) ∧ w.grownBy w' (Value.slice A n c).ownBlock := by
  rcases h.2 with ⟨hv, h0⟩ | ⟨g, cap, cur, hv, hb, hg, h1, h2, h3, h4⟩
  · simp only [Value.slice.injEq] at hv
    obtain ⟨rfl, rfl, rfl⟩ := hv
    exact qspoil_none 0 w
  · simp only [Value.slice.injEq] at hv
    obtain ⟨rfl, _, rfl⟩ := hv
    exact qspoil_blk g n c cur w hg (by omega) h1 (by unfold maxLen at h2; omega)
end Go.Proofs.Ytohnjhifnankeaa.Req
