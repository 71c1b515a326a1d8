/-
  The document's set of tables: contract of Copy.
-/
import Derived.Test.YtngncalbglbjdaaTblRefSet
import Derived.Test.YtngncalbglbjdaaRegionLast
namespace Go.Proofs.Ytngncalbglbjdaa.Tbl
set_option linter.unusedVariables false
set_option maxRecDepth 100000
open Go.RowKit Base IdxMath Foot Idx
open Last (wp_region_last_at then_normal)
set_option linter.ambiguousOpen false
set_option linter.unusedSimpArgs false

/-- a copy on its way: the first k tables are copied -/
def Part2 (w : World) (q d : Nat) (T : List (List Rw)) (k : Nat) (wr : World) : Prop := (∃ cs, RLie wr (fun i => w.heap.size ≤ i ∧ i < wr.heap.size) q d cs (T.take k ++ List.replicate (T.length - k) [])) ∧ Below w.heap.size w wr
theorem part_length {T : List (List Rw)} {k : Nat} (hk : k ≤ T.length) : (T.take k ++ List.replicate (T.length - k) []).length = T.length := by
  rw [List.length_append, List.length_take, List.length_replicate]
  omega
theorem part_set {T : List (List Rw)} {k : Nat} {l : List Rw} (hl : T[k]? = some l) : (T.take k ++ List.replicate (T.length - k) []).set k l = T.take (k + 1) ++ List.replicate (T.length - (k + 1)) [] := by
  have hk : k < T.length := (List.getElem?_eq_some_iff.1 hl).1
  have h1 : (T.take k).length = k := by rw [List.length_take]; omega
  rw [List.set_append_right _ _ (by omega), h1, Nat.sub_self, show T.length - k = T.length - (k + 1) + 1 by omega, List.replicate_succ, List.set_cons_zero]
  rw [List.take_add_one, hl, Option.toList_some, List.append_assoc]
  rfl
theorem Part2.lay {w wr w4 : World} {q d k : Nat} {T : List (List Rw)} {A : Option Addr} {n c : Nat} {l : List Rw} (h : Part2 w q d T k wr) (hl : T[k]? = some l) (hr : Rise l) (hb : Below wr.heap.size wr w4) (ho : w4.ownsRow wr.heap.size 37 2 (.slice A n c) n (rv l)) : Part2 w q d T (k + 1) (w4.setCell ⟨d, k, none⟩ (.slice A n c)) := by
  have hk : k < T.length := (List.getElem?_eq_some_iff.1 hl).1
  obtain ⟨⟨cs, hX⟩, hbw⟩ := h
  have hsz := size_setCell w4 ⟨d, k, none⟩ (.slice A n c)
  have hle := hb.size
  have hz := hbw.size
  have h1 := hX.lay (i := k) (by rw [part_length (by omega)]; exact hk) hb (own_mono ho (Nat.zero_le _)) (fun g hg => .inr (by have := ho.lt g hg; exact this)) hr
  rw [part_set hl] at h1
  refine ⟨⟨_, h1.mono fun i _ hi => ?_⟩, (hbw.trans (hb.mono hz)).setCell hX.inb.1 _⟩
  rw [hsz]
  rcases hi with hi | hi
  · exact ⟨hi.1, by omega⟩
  · exact ⟨by omega, hi.2⟩
/-- what Copy answers -/
def Copied (w : World) (T : List (List Rw)) (e : Ending) (w' : World) : Prop := ∃ q, e = .returned (.pointer (some ⟨q, 0, none⟩)) ∧ RAt w' (fun i => w.heap.size ≤ i ∧ i < w'.heap.size) q T ∧ Below w.heap.size w w'
theorem Part2.start {w w1 : World} {n : Nat} {T : List (List Rw)} (hn : T.length = n) (ho : w1.ownsRow w.heap.size 38 1 (.slice (some ⟨w.heap.size, 0, none⟩) n n) n (List.replicate n (.slice none 0 0))) (hb : Below w.heap.size w w1) (h1 : 1 ≤ n) (h8 : n ≤ 8) :
    ∃ d, Part2 w w1.heap.size d T 0 (w1.alloc (.cells #[.slice (some ⟨w.heap.size, 0, none⟩) n n] 66)) := by
  obtain ⟨d, cs, h⟩ := RAt.begun ho hb h1 h8
  refine ⟨d, ⟨cs, ?_⟩, hb.alloc hb.size _⟩
  rw [List.take_zero, List.nil_append, Nat.sub_zero, hn]
  simpa using h

set_option maxHeartbeats 12800000 in
theorem refcopy_any (R : Nat → Prop) (p : Nat) (T : List (List Rw)) (M : Nat) (w : World) (h : RAt w R p T) (hM : Most T M) (hsz : M ≤ 1099511627774) :
    Calls Try.prog 34 #[.pointer (some ⟨p, 0, none⟩)] w (Copied w T) := by
  obtain ⟨b, cs, hX⟩ := h
  have c0 : w.cell? ⟨p, 0, none⟩ = some (.slice (some ⟨b, 0, none⟩) T.length T.length) := hX.box.cell 0
  have hm8 := hX.most
  have hm1 := hX.some_
  have HX := Lib.hid hX
  clear hX
  go_enter Try.func34, Try.ntmps34
  go_wp2_with (first
    | (refine wpList_make_elem _ rfl (.tmp 9) (.tmp 9) rfl er2 w.heap.size .i64 .i64 _ _ T.length rfl rfl rfl rfl (by omega) (by omega) (Nat.le_refl _) ?_
       intro w1 ho1 hb1
       replace ho1 : w1.ownsRow w.heap.size 38 1 (.slice (some ⟨w.heap.size, 0, none⟩) T.length T.length) T.length (madeCells #[.slice none 0 0] (T.length * 1)).toList := ho1
       rw [Nat.mul_one, toList_madeCells_one] at ho1
       have HP := Lib.hid (Part2.start rfl ho1 hb1 hm1 hm8)
       clear ho1 hb1))
  obtain ⟨d, hd⟩ := HP.out
  have HPP := Lib.hid hd
  clear hd HP
  generalize w1.alloc (.cells #[.slice (some ⟨w.heap.size, 0, none⟩) T.length T.length] 66) = w2 at HPP ⊢
  generalize w1.heap.size = q at HPP ⊢
  clear w1
  go_loopw [4] (fun vi wr => ∃ k : Nat, vi = .int .i64 k ∧ k ≤ T.length ∧ Part2 w q d T k wr) (fun vi _ => T.length - (intOf vi).toNat)
  case atStart => exact ⟨0, rfl, Nat.zero_le _, HPP.out⟩
  case round =>
    obtain ⟨k, rfl, hk, hpart⟩ := hrel
    have HK := Lib.hid hpart
    obtain ⟨⟨cs2, hY⟩, hbw⟩ := hpart
    have HXw := HX.out.keep (w' := wr) fun i hi _ => hbw.block i hi
    have x0 : wr.cell? ⟨p, 0, none⟩ = some (.slice (some ⟨b, 0, none⟩) T.length T.length) := HXw.box.cell 0
    by_cases hkn : k < T.length
    · obtain ⟨A3, m, c3, l, e2, x1, ho, hr, _⟩ := HXw.get hkn
      have y0 : wr.cell? ⟨q, 0, none⟩ = some (.slice (some ⟨d, 0, none⟩) T.length T.length) := by have := hY.box.cell 0; rw [part_length hk] at this; exact this
      obtain ⟨A6, n6, c6, l6, _, y1, _⟩ := hY.get (i := k) (by rw [part_length hk]; exact hkn)
      have hrs := Rs.of_own ho
      have hle := hrs.le
      have hs1 := hM (k : Int)
      rw [tab_get hkn e2] at hs1
      have hs2 : m ≤ 1099511627774 := by have := hrs.len; omega
      have HRS := Lib.hid hrs
      have HRI := Lib.hid hr
      have HE2 := Lib.hid e2
      have HROW := Lib.hid hY.row
      have l1 : (k : Int) < (T.length : Int) := by omega
      clear HXw hY hbw ho hr hrs e2 HPP
      go_upto_region 5 with fail
      refine wp_region_last_at (S := fun w' => w'.cell? ⟨q, 0, none⟩ = some (.slice (some ⟨d, 0, none⟩) T.length T.length) ∧ w'.cell? ⟨p, 0, none⟩ = some (.slice (some ⟨b, 0, none⟩) T.length T.length) ∧ w'.cell? ⟨b, k, none⟩ = some (.slice A3 m c3) ∧ Below wr.heap.size wr w') 15 _ rfl rfl (by kernel_rfl) (by kernel_rfl) (by kernel_rfl) (held3 (held_start wr) y0 x0 x1) (fun hHeld => ?_)
      simp only [List.take_succ_cons, List.take_zero]
      refine wpAnyH_take (i := 0) (v := ?av0) rfl (by kernel_rfl) (by kernel_rfl) (by kernel_rfl) (fun _ _ _ h => h) (Or.inl ⟨by rfl, ?ay0⟩) (by assumption) ?ar0
      case ay0 => (intro w hSw; (try dsimp only at hSw); go_simp; try with_reducible rfl)
      try simp only [Act.put, List.getElem_toArray, List.getElem_cons_succ, List.getElem_cons_zero, List.setIfInBounds_toArray, List.set_cons_zero, List.set_cons_succ]
      refine wpAnyH_take (i := 1) (v := ?av1) rfl (by kernel_rfl) (by kernel_rfl) (by kernel_rfl) (fun _ _ _ h => h) (Or.inl ⟨by rfl, ?ay1⟩) (by assumption) ?ar1
      case ay1 => (intro w hSw; (try dsimp only at hSw); go_simp; try with_reducible rfl)
      try simp only [Act.put, List.getElem_toArray, List.getElem_cons_succ, List.getElem_cons_zero, List.setIfInBounds_toArray, List.set_cons_zero, List.set_cons_succ]
      refine wpAnyH_take (i := 2) (v := ?av2) rfl (by kernel_rfl) (by kernel_rfl) (by kernel_rfl) (fun _ _ _ h => h) (Or.inl ⟨by rfl, ?ay2⟩) (by assumption) ?ar2
      case ay2 => (intro w hSw; (try dsimp only at hSw); go_simp; try with_reducible rfl)
      try simp only [Act.put, List.getElem_toArray, List.getElem_cons_succ, List.getElem_cons_zero, List.setIfInBounds_toArray, List.set_cons_zero, List.set_cons_succ]
      refine wpAnyH_take (i := 3) (v := ?av3) rfl (by kernel_rfl) (by kernel_rfl) (by kernel_rfl) (fun _ _ _ h => h) (Or.inl ⟨by rfl, ?ay3⟩) (by assumption) ?ar3
      case ay3 => (intro w hSw; (try dsimp only at hSw); go_simp; try with_reducible rfl)
      try simp only [Act.put, List.getElem_toArray, List.getElem_cons_succ, List.getElem_cons_zero, List.setIfInBounds_toArray, List.set_cons_zero, List.set_cons_succ]
      refine wpAnyH_take (i := 4) (v := ?av4) rfl (by kernel_rfl) (by kernel_rfl) (by kernel_rfl) (fun _ _ _ h => h) (Or.inl ⟨by rfl, ?ay4⟩) (by assumption) ?ar4
      case ay4 => (intro w hSw; (try dsimp only at hSw); go_simp; try with_reducible rfl)
      try simp only [Act.put, List.getElem_toArray, List.getElem_cons_succ, List.getElem_cons_zero, List.setIfInBounds_toArray, List.set_cons_zero, List.set_cons_succ]
      refine wpAnyH_take (i := 6) (v := ?av6) rfl (by kernel_rfl) (by kernel_rfl) (by kernel_rfl) (fun _ _ _ h => h) (Or.inl ⟨by rfl, ?ay6⟩) (by assumption) ?ar6
      case ay6 => (intro w hSw; (try dsimp only at hSw); go_simp; try with_reducible rfl)
      try simp only [Act.put, List.getElem_toArray, List.getElem_cons_succ, List.getElem_cons_zero, List.setIfInBounds_toArray, List.set_cons_zero, List.set_cons_succ]
      refine wpAnyH_take (i := 7) (v := ?av7) rfl (by kernel_rfl) (by kernel_rfl) (by kernel_rfl) (fun _ _ _ h => h) (Or.inl ⟨by rfl, ?ay7⟩) (by assumption) ?ar7
      case ay7 => (intro w hSw; (try dsimp only at hSw); go_simp; try with_reducible rfl)
      try simp only [Act.put, List.getElem_toArray, List.getElem_cons_succ, List.getElem_cons_zero, List.setIfInBounds_toArray, List.set_cons_zero, List.set_cons_succ]
      refine wpAnyH_take (i := 8) (v := ?av8) rfl (by kernel_rfl) (by kernel_rfl) (by kernel_rfl) (fun _ _ _ h => h) (Or.inl ⟨by rfl, ?ay8⟩) (by assumption) ?ar8
      case ay8 => (intro w hSw; (try dsimp only at hSw); go_simp; try with_reducible rfl)
      try simp only [Act.put, List.getElem_toArray, List.getElem_cons_succ, List.getElem_cons_zero, List.setIfInBounds_toArray, List.set_cons_zero, List.set_cons_succ]
      refine wpAnyH_take (i := 9) (v := ?av9) rfl (by kernel_rfl) (by kernel_rfl) (by kernel_rfl) (fun _ _ _ h => h) (Or.inl ⟨by rfl, ?ay9⟩) (by assumption) ?ar9
      case ay9 => (intro w hSw; (try dsimp only at hSw); go_simp; try with_reducible rfl)
      try simp only [Act.put, List.getElem_toArray, List.getElem_cons_succ, List.getElem_cons_zero, List.setIfInBounds_toArray, List.set_cons_zero, List.set_cons_succ]
      refine wpAnyH_take (i := 10) (v := ?av10) rfl (by kernel_rfl) (by kernel_rfl) (by kernel_rfl) (fun _ _ _ h => h) (Or.inl ⟨by rfl, ?ay10⟩) (by assumption) ?ar10
      case ay10 => (intro w hSw; (try dsimp only at hSw); go_simp; try with_reducible rfl)
      try simp only [Act.put, List.getElem_toArray, List.getElem_cons_succ, List.getElem_cons_zero, List.setIfInBounds_toArray, List.set_cons_zero, List.set_cons_succ]
      refine wpAnyH_take (i := 11) (v := ?av11) rfl (by kernel_rfl) (by kernel_rfl) (by kernel_rfl) (fun _ _ _ h => h) (Or.inl ⟨by rfl, ?ay11⟩) (by assumption) ?ar11
      case ay11 => (intro w hSw; (try dsimp only at hSw); go_simp; try with_reducible rfl)
      try simp only [Act.put, List.getElem_toArray, List.getElem_cons_succ, List.getElem_cons_zero, List.setIfInBounds_toArray, List.set_cons_zero, List.set_cons_succ]
      refine wpAnyH_take (i := 12) (v := ?av12) rfl (by kernel_rfl) (by kernel_rfl) (by kernel_rfl) (fun _ _ _ h => h) (Or.inl ⟨by rfl, ?ay12⟩) (by assumption) ?ar12
      case ay12 => (intro w hSw; (try dsimp only at hSw); go_simp; try with_reducible rfl)
      try simp only [Act.put, List.getElem_toArray, List.getElem_cons_succ, List.getElem_cons_zero, List.setIfInBounds_toArray, List.set_cons_zero, List.set_cons_succ]
      refine wpAnyH_ready (rs := [5]) (by kernel_rfl) (by simp) ?_
      refine AllReadyH.cons rfl (fun K hK => ?_) AllReadyH.nil
      go_simp
      refine hK.out _ _ (held3 (held_alloc_drew (held_start wr) _) y0 x0 x1) (fun hHeld => ?_)
      clear hK K
      try simp only [Act.put, List.getElem_toArray, List.getElem_cons_succ, List.getElem_cons_zero, List.setIfInBounds_toArray, List.set_cons_zero, List.set_cons_succ]
      refine wpAnyH_ready (rs := [13]) (by kernel_rfl) (by simp) ?_
      refine AllReadyH.cons rfl (fun K hK => ?_) AllReadyH.nil
      refine step_append_row (by rfl) (.tmp 27) (.tmp 34) (by rfl) er wr.heap.size (.slice (some ⟨wr.heap.size, 0, none⟩) 0 0) 0 [] (by rfl) (own_empty wr wr.heap.size _ 2 rfl (Nat.le_refl _)) wr.heap.size A3 m c3 (rv l) (by rfl) (HRS.out.below (held_alloc_drew (held_start wr) _)) (rv_one _) (by omega) (by omega) (by simp [World.drew]) ?_
      intro A4 c4 w4 hown4 _ hb4
      rw [Nat.zero_add, List.nil_append] at hown4
      rw [Nat.zero_add]
      have hB4 : Below wr.heap.size wr w4 := (held_alloc_drew (held_start wr) (.cells #[] 37)).trans hb4
      refine hK.out _ _ (held3 hB4 y0 x0 x1) (fun hHeld => ?_)
      clear hK K
      try simp only [Act.put, List.getElem_toArray, List.getElem_cons_succ, List.getElem_cons_zero, List.setIfInBounds_toArray, List.set_cons_zero, List.set_cons_succ]
      refine wpAnyH_take (i := 14) (v := ?bv14) rfl (by kernel_rfl) (by kernel_rfl) (by kernel_rfl) (fun _ _ _ h => h) (Or.inl ⟨by rfl, ?by14⟩) (by assumption) ?br14
      case by14 => (intro w hSw; (try dsimp only at hSw); go_simp; try with_reducible rfl)
      try simp only [Act.put, List.getElem_toArray, List.getElem_cons_succ, List.getElem_cons_zero, List.setIfInBounds_toArray, List.set_cons_zero, List.set_cons_succ]
      refine wpAnyH_done (by kernel_rfl) ?_ _
      refine then_normal rfl ?_
      have e4 : w4.cell? ⟨d, k, none⟩ = some (.slice A6 n6 c6) := held_cell hB4 y1
      have f4 := (HROW.out.below hB4 HROW.out.lt).frozen k
      have HZ := Lib.hid (HK.out.lay HE2.out HRI.out hB4 hown4)
      clear hown4 hb4 hB4
      go_wp2
      go_roundw
      case rel => exact ⟨k + 1, by go_num, by omega, HZ.out⟩
      case measure => simp [intOf]; omega
    · have l1 : ¬ (k : Int) < (T.length : Int) := by omega
      obtain rfl : k = T.length := by omega
      have HYY : Hid (RAt wr (fun i => w.heap.size ≤ i ∧ i < wr.heap.size) q T ∧ Below w.heap.size w wr) := by
        refine ⟨⟨d, cs2, ?_⟩, hbw⟩
        rw [Nat.sub_self, List.replicate_zero, List.append_nil, List.take_length] at hY
        exact hY
      clear HXw hY hbw HK HPP
      go_wp2
      go_ret
      exact ⟨q, rfl, HYY.out.1, HYY.out.2⟩
end Go.Proofs.Ytngncalbglbjdaa.Tbl
