/-
  Contracts of the statements' own helpers over rows: a copy with something behind it, whether it is as it was, and all of it written over.
-/
import Derived.Test.YtngncalbglbjdaaIdxHelp
namespace Go.Proofs.Ytngncalbglbjdaa.Idx
set_option linter.unusedVariables false
set_option maxRecDepth 100000
open Go.RowKit Base IdxMath Foot
open Go.Sort (grow)
set_option linter.ambiguousOpen false
set_option linter.unusedSimpArgs false

theorem three_rows (w : World) (f : Rw) {s : Nat} (hs : s = w.heap.size) :
    Row (w.alloc (.cells #[.int .i64 f.key, .string f.val, .int .i64 f.key, .string f.val, .int .i64 f.key, .string f.val] 37)) (w.heap.size + 1) 2 (some ⟨s, 0, none⟩) 3 3 (rv [f, f, f]) :=
  Row.lit w #[.int .i64 f.key, .string f.val, .int .i64 f.key, .string f.val, .int .i64 f.key, .string f.val] 37 (0, 0) hs rfl (by omega)
set_option maxHeartbeats 800000 in
theorem own_row (B : Nat) (A : Option Addr) (n c : Nat) (l : List Rw) (f : Rw) (w : World) (h : Rs w B A n c l) (hB : B ≤ w.heap.size) (hn : n ≤ 1099511627770) :
    Calls Try.prog 25 #[.slice A n c, .agg #[.int .i64 f.key, .string f.val]] w fun e w' => ∃ A c, e = .returned (.slice A n (n + 3)) ∧ w'.ownsRow w.heap.size 37 2 (.slice A (n + 3) c) (n + 3) (rv (l ++ [f, f, f])) ∧ Below w.heap.size w w' := by
  have hbx : Below w.heap.size w (w.alloc (.cells #[.int .i64 f.key, .string f.val] 37)) := (Below.refl _ _).alloc (Nat.le_refl _) _
  have HBX := Lib.hid (Blk.new w 37 #[.int .i64 f.key, .string f.val])
  have HR : Hid (Rs (w.alloc (.cells #[.int .i64 f.key, .string f.val] 37)) B A n c l) := h.below (hbx.mono hB)
  have HB0 := Lib.hid hbx
  obtain ⟨wb, hwb⟩ : ∃ wb, wb = w.alloc (.cells #[.int .i64 f.key, .string f.val] 37) := ⟨_, rfl⟩
  have hszb : wb.heap.size = w.heap.size + 1 := by rw [hwb]; simp
  rw [← hwb] at HBX HR HB0
  have HW := Lib.hid hwb
  have HSZ := Lib.hid hszb
  clear h hbx hwb hszb
  go_enter Try.func25, Try.ntmps25
  go_wp2_with (first
    | (at_builtin
       rw [← HW.out]
       refine wpList_append_row rfl (.tmp 6) (.tmp 7) rfl er wb.heap.size (.slice (some ⟨w.heap.size + 1, 0, none⟩) 0 0) 0 [] rfl (own_empty wb _ _ 2 HSZ.out.symm (Nat.le_refl _)) B A n c (rv l) rfl (Row.alloc HR.out (Nat.le_trans hB HB0.out.size) _) (rv_one _) (by omega) (by omega) (by simp) ?_
       intro A2 c2 w2 hown2 _ hb2
       rw [Nat.zero_add, List.nil_append] at hown2
       rw [Nat.zero_add]
       have HO2 := Lib.hid hown2
       have hbw2 := ((Below.refl wb.heap.size wb).alloc (Nat.le_refl _) (.cells #[] 37)).trans hb2
       have HB2 := Lib.hid hbw2
       have hbx2 := HBX.out.below hbw2 (by rw [HSZ.out]; omega)
       have d0 := hbx2.cell 0
       have d1 := hbx2.cell 1
       clear hown2 hb2 hbw2 hbx2)
    | (at_builtin
       refine wpList_append_row rfl (.tmp 9) (.tmp 13) rfl er wb.heap.size (.slice A2 n c2) n (rv l) rfl (own_keep HO2.out ((Below.refl _ _).alloc (Nat.le_refl _) _)) (w2.heap.size + 1) (some ⟨w2.heap.size, 0, none⟩) 3 3 (rv [f, f, f]) rfl (three_rows w2 f rfl) (rv_one _) (by omega) (by omega) (by have := HB2.out.size; simp; omega) ?_
       intro A3 c3 w3 hown3 _ hb3
       rw [← rv_append] at hown3
       have hc3 := (Row.of_own hown3).le
       have HO3 := Lib.hid hown3
       have HB3 := Lib.hid ((HB2.out.alloc HB2.out.size _).trans hb3)
       clear hown3 hb3)
    | fail)
  go_ret
  exact ⟨A3, c3, rfl, own_mono HO3.out HB0.out.size, HB0.out.trans (HB3.out.mono HB0.out.size)⟩

theorem fill_get (l : List Rw) (f : Rw) {k : Nat} (h1 : l.length ≤ k) (h2 : k < l.length + 3) : (l ++ [f, f, f])[k]? = some f := by
  rw [List.getElem?_append_right h1]
  generalize hq : k - l.length = q
  have : q < 3 := by omega
  match q, this with
  | 0, _ => rfl
  | 1, _ => rfl
  | 2, _ => rfl
set_option maxHeartbeats 1600000 in
theorem kept_same (B B' : Nat) (A A' : Option Addr) (n c' : Nat) (l : List Rw) (f : Rw) (w : World) (hl : l.length = n) (h : Rs w B A (n + 3) (n + 3) (l ++ [f, f, f])) (h' : Rs w B' A' n c' l) (hB : B ≤ w.heap.size) (hB' : B' ≤ w.heap.size) (hn : n ≤ 1099511627770) :
    Calls Try.prog 26 #[.slice A n (n + 3), .slice A' n c', .agg #[.int .i64 f.key, .string f.val]] w fun e w' => e = .returned (.bool true) ∧ Below w.heap.size w w' := by
  have hbx : Below w.heap.size w (w.alloc (.cells #[.int .i64 f.key, .string f.val] 37)) := (Below.refl _ _).alloc (Nat.le_refl _) _
  have HBX := Lib.hid (Blk.new w 37 #[.int .i64 f.key, .string f.val])
  have HL := Lib.hid hl
  have HR : Hid (Rs (w.alloc (.cells #[.int .i64 f.key, .string f.val] 37)) B A (n + 3) (n + 3) (l ++ [f, f, f])) := h.below (hbx.mono hB)
  have HR' : Hid (Rs (w.alloc (.cells #[.int .i64 f.key, .string f.val] 37)) B' A' n c' l) := h'.below (hbx.mono hB')
  have HF : Hid (Rs (w.alloc (.cells #[.int .i64 f.key, .string f.val] 37)) B A n (n + 3) l) := by
    have := HR.out.front (k := n) (by omega)
    rw [List.take_left' hl] at this
    exact this
  have HW := Lib.hid hbx
  clear h h' hl hbx
  go_enter Try.func26, Try.ntmps26
  go_wp2_with fail
  refine (rplain_same B B' A A' n n (n + 3) c' l _ HF.out HR'.out (Nat.le_trans hB HW.out.size) (Nat.le_trans hB' HW.out.size)).mono ?_
  rintro e w2 ⟨rfl, hb2⟩
  have HR2 := Lib.hid (HR.out.below (hb2.mono (Nat.le_trans hB HW.out.size)))
  have HB2 := Lib.hid (held_two HW.out hb2)
  have hbx2 := HBX.out.below hb2 HBX.out.lt
  have d0 := hbx2.cell 0
  have d1 := hbx2.cell 1
  clear hb2 hbx2
  obtain ⟨xb, hxb⟩ : ∃ xb, xb = w.heap.size := ⟨_, rfl⟩
  rw [← hxb] at d0 d1
  go_wp2
  rw [← hxb]
  have HXB := Lib.hid hxb
  clear hxb
  go_loopw [8] (fun i wr => ∃ k : Nat, n ≤ k ∧ k ≤ n + 3 ∧ i = .int .i64 k ∧ ∃ q, wr = w2.drewN q) (fun i _ => n + 3 - (RowKit.intOf i).toNat)
  case atStart => exact ⟨n, by omega, by omega, rfl, 0, rfl⟩
  case round =>
    obtain ⟨k, hk0, hk, rfl, q, rfl⟩ := hrel
    by_cases hlt : k < n + 3
    · obtain ⟨b, off, g, rfl, hb, c0, c1, hget, _⟩ := HR2.out.at_ hlt
      obtain rfl : f = g := by rw [fill_get l f (by rw [HL.out]; exact hk0) (by rw [HL.out]; exact hlt)] at hget; injection hget
      clear hget
      have l1 : (k : Int) < (n : Int) + 3 := by omega
      go_wp2_with fail
      go_quiet (fail)
      go_wp2
      go_roundw
      case rel => exact ⟨k + 1, by omega, by omega, by go_num, q + nq, by first | rfl | rw [World.drewN_drewN]⟩
      case measure => simp [RowKit.intOf]; omega
    · go_wp2
      go_ret
      exact ⟨rfl, below_drewN HB2.out _⟩

/-! ### written over -/
def SpoilRel (g n : Nat) (w1 : World) (i : Value) (wr : World) : Prop := ∃ (k : Nat) (cs : Array Value), k ≤ n ∧ i = .int .i64 k ∧ Blk wr g 37 cs ∧ n * 2 ≤ cs.size ∧ w1.grownBy wr (some g)
set_option maxHeartbeats 1600000 in
theorem spoil_blk (g n c : Nat) (cs : Array Value) (w : World) (h : Blk w g 37 cs) (hn : n * 2 ≤ cs.size) (hc : n ≤ c) (hm : c ≤ 9223372036854775807) :
    Calls Try.prog 27 #[.slice (some ⟨g, 0, none⟩) n c] w fun e w' => e = .returned (.tuple #[]) ∧ w.grownBy w' (some g) := by
  have hglt := h.lt
  obtain ⟨w1, hw1⟩ : ∃ w1, w1 = w.alloc (.cells #[.int .i64 0, .string ⟨#[]⟩] 37) := ⟨_, rfl⟩
  have hz : Blk w1 w.heap.size 37 #[.int .i64 0, .string ⟨#[]⟩] := by rw [hw1]; exact Blk.new _ _ _
  have hb1 : Blk w1 g 37 cs := by rw [hw1]; exact h.alloc _
  have hg1 : w.grownBy w1 (some g) := by rw [hw1]; exact only_alloc (World.grownBy.refl _ _) _
  obtain ⟨zb, hzb⟩ : ∃ zb, zb = w.heap.size := ⟨_, rfl⟩
  rw [← hzb] at hz hglt
  have HB := Lib.hid hb1
  have HZ := Lib.hid hz
  have HG := Lib.hid hg1
  have HW := Lib.hid hw1
  have HZB := Lib.hid hzb
  clear h hz hb1 hg1 hw1 hzb
  go_enter Try.func27, Try.ntmps27
  go_wp2
  rw [← HZB.out, ← HW.out]
  go_loopw [3] (fun i wr => SpoilRel g n w1 i wr) (fun i _ => n - (RowKit.intOf i).toNat)
  case atStart => exact ⟨0, cs, by omega, rfl, HB.out, hn, World.grownBy.refl _ _⟩
  case round =>
    obtain ⟨k, cs', hk, rfl, hb, hs, hw⟩ := hrel
    have HW2 := Lib.hid hw
    have hz2 := HZ.out.grown hw (by intro e; injection e; omega)
    have d0 := hz2.cell 0
    have d1 := hz2.cell 1
    by_cases hlt : k < n
    · have c0 : wr.cell? ⟨g, k * 2, none⟩ = some cs'[k * 2] := by rw [hb.cell]; exact Array.getElem?_eq_getElem (by omega)
      have c1 : wr.cell? ⟨g, k * 2 + 1, none⟩ = some cs'[k * 2 + 1] := by rw [hb.cell]; exact Array.getElem?_eq_getElem (by omega)
      have f0 := hb.frozen (k * 2)
      have f1 := hb.frozen (k * 2 + 1)
      have HB2 := Lib.hid ((hb.set_ (k * 2) (.int .i64 0)).set_ (k * 2 + 1) (.string ⟨#[]⟩))
      clear hb hw hz2
      generalize cs'[k * 2] = u0 at c0
      generalize cs'[k * 2 + 1] = u1 at c1
      go_wp2
      go_roundw
      case rel => exact ⟨k + 1, _, by omega, by go_num, HB2.out, by simpa using hs, only_setCell (only_setCell HW2.out (.inl rfl) _) (.inl rfl) _⟩
      case measure => simp [RowKit.intOf]; omega
    · clear hb hw hz2
      go_wp2
      go_end0
      exact ⟨rfl, only_trans HG.out HW2.out (.inl rfl)⟩
set_option maxHeartbeats 400000 in
theorem spoil_none (c : Nat) (w : World) : Calls Try.prog 27 #[.slice none 0 c] w fun e w' => e = .returned (.tuple #[]) ∧ w.grownBy w' none := by
  have HG := Lib.hid (only_alloc (World.grownBy.refl w none) (.cells #[.int .i64 0, .string ⟨#[]⟩] 37))
  go_enter Try.func27, Try.ntmps27
  go_wp2
  refine wp_loop_rounds 1 ?_
  rw [rounds_succ]
  go_wp2
  go_end0
  exact ⟨rfl, HG.out⟩
theorem spoil_any (base : Nat) (A : Option Addr) (n c : Nat) (xs : List Value) (w : World) (h : w.ownsRow base 37 2 (.slice A n c) n xs) :
    Calls Try.prog 27 #[.slice A n c] w fun e w' => e = .returned (.tuple #[]) ∧ w.grownBy w' (Value.slice A n c).ownBlock := by
  rcases h.2 with ⟨hv, h0⟩ | ⟨g, cap, cur, hv, hb, hg, h1, h2, h3, h4⟩
  · simp only [Value.slice.injEq] at hv
    obtain ⟨rfl, rfl, rfl⟩ := hv
    exact spoil_none 0 w
  · simp only [Value.slice.injEq] at hv
    obtain ⟨rfl, _, rfl⟩ := hv
    exact spoil_blk g n c cur w hg (by omega) h1 (by unfold maxLen at h2; omega)
end Go.Proofs.Ytngncalbglbjdaa.Idx
