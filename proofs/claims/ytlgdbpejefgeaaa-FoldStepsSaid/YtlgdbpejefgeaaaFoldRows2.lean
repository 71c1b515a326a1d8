/-
  Package fold: contract of rows: the walk.
-/
import Derived.Test.YtlgdbpejefgeaaaFoldRows
namespace Go.Proofs.Ytlgdbpejefgeaaa.Fold
set_option linter.unusedVariables false
set_option linter.unusedSimpArgs false
set_option maxRecDepth 100000
open Go.RowKit Base IdxMath FoldMath Foot Idx
open TxnMath (Ch)
open Lsts (Lsts)
open Last (wp_region_last_at then_normal)
set_option linter.ambiguousOpen false

theorem key_in {t : Int} {cs : List Ch} (h : ∀ c ∈ cs, In64 c.key) {x : Rw} (hx : x ∈ rows t cs) : In64 x.key := by
  obtain ⟨c, hc, _, e, _⟩ := rows_mem hx
  rw [← e]
  exact h c hc
theorem get_in {l : List Rw} (h : Rise l) {x : Rw} (hx : x ∈ l) : IdxMath.get l x.key = some x.val := by
  induction l with
  | nil => cases hx
  | cons y r ih =>
    have hr : Rise r := List.Pairwise.of_cons h
    rw [get_cons]
    rcases List.mem_cons.1 hx with rfl | hx
    · rw [if_pos rfl]
    · have := List.rel_of_pairwise_cons h hx
      rw [if_neg (by omega)]
      exact ih hr hx
theorem set_same {arr : Array Value} {k : Nat} {u : Value} (h : arr[k]? = some u) : arr.setIfInBounds k u = arr := by
  apply Array.ext_getElem?
  intro i
  by_cases hi : k = i
  · subst hi
    rw [Array.getElem?_setIfInBounds_self_of_lt (Array.getElem?_eq_some_iff.1 h).1, h]
  · rw [Array.getElem?_setIfInBounds_ne hi]
set_option maxHeartbeats 6400000 in
theorem rows_any (g s n : Nat) (cs : List Ch) (w : World) (h : TabsAt w g s n cs) (h1 : 1 ≤ n) (h8 : n ≤ 8) (hK : ∀ c ∈ cs, In64 c.key) (hsz : cs.length ≤ 1099511627774) :
    Calls Try.prog 29 #[.slice (some ⟨g, 0, none⟩) n n] w (RowsR w n cs) := by
  have HT := Lib.hid h
  have HK := Lib.hid hK
  clear h hK
  go_enter Try.func29, Try.ntmps29
  go_wp2_with (first
    | (refine wpList_make_elem _ rfl (.tmp 9) (.tmp 9) rfl erow2 w.heap.size .i64 .i64 _ _ n rfl rfl rfl rfl (by omega) (by omega) (Nat.le_refl _) ?_
       intro w1 ho1 hb1
       replace ho1 : w1.ownsRow w.heap.size 39 1 (.slice (some ⟨w.heap.size, 0, none⟩) n n) n (madeCells #[.slice none 0 0] (n * 1)).toList := ho1
       rw [Nat.mul_one, toList_madeCells_one] at ho1
       have HP := Lib.hid (OutK.start (cs := cs) ho1 hb1 h1)
       clear ho1 hb1))
  go_loopw [13] (fun vi wr => ∃ k : Nat, vi = .int .i64 k ∧ k ≤ n ∧ OutK w w.heap.size n k cs wr) (fun vi _ => n - (Go.RowKit.intOf vi).toNat)
  case atStart => exact ⟨0, rfl, Nat.zero_le _, HP.out⟩
  case round =>
    clear HP
    obtain ⟨k, rfl, hk, ho⟩ := hrel
    have HO := Lib.hid ho
    clear ho
    by_cases hkn : k < n
    · have HT1 : Hid (TabsAt wr g s n cs) := HT.out.keep fun i hi _ => HO.out.new.block i hi
      have x0 : wr.cell? ⟨g, k, none⟩ = some (.map (some (s + k))) := HT1.out.cell hkn
      have l1 : (k : Int) < (n : Int) := by omega
      go_wp2_with fail
      refine (mkeys_any (some (s + k)) wr).mono ?_
      rintro e w2 ⟨rfl, rfl⟩
      have HT2 : Hid (TabsAt (wr.alloc (.cells #[.map (some (s + k))] 81)) g s n cs) := HT1.out.keep fun i hi _ => Below.heap_alloc _ _ i hi
      have HB2 : Hid (Below wr.heap.size wr (wr.alloc (.cells #[.map (some (s + k))] 81))) := (Below.refl _ _).alloc (Nat.le_refl _) _
      have hsl := rows_length (k : Int) cs
      go_wp2_with fail
      refine (sorted_any wr.heap.size (s + k) cs.length (rows (k : Int) cs) _ (by simp) (HT2.out.each k hkn) (rows_rise _ _) (by omega)).mono ?_
      rintro e w3 ⟨KA, kc, rfl, hko, hb3⟩
      have HB3 := Lib.hid (held_two HB2.out hb3)
      have HT3 : Hid (TabsAt w3 g s n cs) := HT2.out.keep fun i hi _ => hb3.block i hi
      have HKO := Lib.hid hko
      have hkl := (Row.of_own hko).le
      obtain ⟨arr, hbk, haz, _⟩ := HO.out.row
      have HA := Lib.hid (hbk.below HB3.out hbk.lt)
      have hgw : w.heap.size < w3.heap.size := HA.out.lt
      have HS : Hid (∀ (i : Nat) (x : Rw), (rows (k : Int) cs)[i]? = some x → IdxMath.get (rows (k : Int) cs) x.key = some x.val ∧ In64 x.key) := fun i x hx => ⟨get_in (rows_rise _ _) (List.mem_of_getElem? hx), key_in HK.out (List.mem_of_getElem? hx)⟩
      have HL : Hid ((rows (k : Int) cs).length ≤ 1099511627774) := Nat.le_trans hsl hsz
      have HM := Lib.hid (HT3.out.each k hkn)
      have hak := HO.out.row
      have HA0 : Hid (arr[k]? = some (.slice none 0 0)) := by
        obtain ⟨arr', hbk', _, hr', _⟩ := hak
        unfold Blk at hbk hbk'
        rw [hbk] at hbk'
        injection hbk' with e
        injection e with e
        subst e
        exact hr' k (Nat.le_refl _) hkn
      clear hko hb3 x0 hsl hbk hak
      have HNEXT : Hid (∀ wx, CurK w3 w.heap.size k arr (rows (k : Int) cs) (rows (k : Int) cs).length wx → OutK w w.heap.size n (k + 1) cs wx) := fun wx hc => HO.out.next hkn HB3.out HA.out hc
      generalize hRR : rows (k : Int) cs = l at *
      clear hRR
      go_wp2_with fail
      go_loopw [22] (fun vi wx => ∃ m : Nat, vi = .int .i64 m ∧ m ≤ l.length ∧ CurK w3 w.heap.size k arr l m wx) (fun vi _ => l.length - (Go.RowKit.intOf vi).toNat)
      case atStart => exact ⟨0, rfl, Nat.zero_le _, World.grownBy.refl _ _, none, 0, by rw [set_same HA0.out]; exact HA.out, World.ownsRow_nil _ _ _ _⟩
      case round =>
        obtain ⟨m, rfl, hm, hc⟩ := hrel
        have HC := Lib.hid hc
        by_cases hml : m < l.length
        · obtain ⟨hg, A, c, hbk, ho⟩ := hc
          have hx : l[m]? = some l[m] := List.getElem?_eq_getElem hml
          generalize l[m] = x at hx
          obtain ⟨b, off, rfl, hb, hcells⟩ := (Row.of_own (own_far HKO.out HA.out int64_ne hg)).2.2.2 (by omega)
          have y0 : wr.cell? ⟨b, off + m, none⟩ = some (.int .i64 x.key) := hcells m _ (by rw [List.getElem?_map, List.getElem?_map, hx]; rfl)
          have y1 : wr.cell? ⟨w.heap.size, k, none⟩ = some (.slice A m c) := by rw [hbk.cell, Array.getElem?_setIfInBounds_self_of_lt (by omega)]
          have hgo : some w.heap.size ≠ (Value.slice A m c).ownBlock := fun e => by have := ho.lt _ e.symm; omega
          have HMX : Hid (MapAt wr (s + k) cs.length l) := World.ownsMap.kept HM.out hg (fun e => by
            injection e with e
            have h1 := HM.out
            obtain ⟨es, clock, hb1, _⟩ := h1
            have h2 := HA.out
            unfold Blk at h2
            rw [e, h2] at hb1
            cases hb1)
          have hmo : some (s + k) ≠ (Value.slice A m c).ownBlock := fun e => by have := (ho.lt _ e.symm).1; have := HM.out.lt; omega
          have HSF : Hid (∀ w', wr.grownBy w' (Value.slice A m c).ownBlock → w'.cell? ⟨w.heap.size, k, none⟩ = some (.slice A m c) ∧ (Instr.lookup 81 (.map (some (s + k))) (.int .i64 x.key) false).run Try.prog w' = .ok (.string x.val) w' ∧ wr.grownBy w' (Value.slice A m c).ownBlock) := fun w' hw' =>
            ⟨by rw [(hbk.grown hw' hgo).cell, Array.getElem?_setIfInBounds_self_of_lt (by omega)], MapAt.look (World.ownsMap.kept HMX.out hw' hmo) (HS.out m x hx).2 (HS.out m x hx).1, hw'⟩
          have HHO := Lib.hid ho
          have HHG := Lib.hid hg
          have HBK := Lib.hid hbk
          have HX := Lib.hid hx
          have l2 : (m : Int) < (l.length : Int) := by omega
          have hle := HL.out
          clear hcells hg ho hbk hx hgo hmo
          go_upto_region 8 with fail
          refine wp_region_last_at (S := fun w' => w'.cell? ⟨w.heap.size, k, none⟩ = some (.slice A m c) ∧ (Instr.lookup 81 (.map (some (s + k))) (.int .i64 x.key) false).run Try.prog w' = .ok (.string x.val) w' ∧ wr.grownBy w' (Value.slice A m c).ownBlock) 14 _ rfl rfl (by kernel_rfl) (by kernel_rfl) (by kernel_rfl) (HSF.out wr.drew (only_of_drew (World.grownBy.refl _ _))) (fun hHeld => ?_)
          simp only [List.take_succ_cons, List.take_zero]
          refine wpAnyH_take (i := 0) (v := ?cv0) rfl (by kernel_rfl) (by kernel_rfl) (by kernel_rfl) (fun _ _ _ h => h) (Or.inl ⟨by rfl, ?cy0⟩) (by assumption) ?cr0
          case cy0 => (intro w hSw; (try dsimp only at hSw); go_simp; try with_reducible rfl)
          try simp only [Act.put, List.getElem_toArray, List.getElem_cons_succ, List.getElem_cons_zero, List.setIfInBounds_toArray, List.set_cons_zero, List.set_cons_succ]
          refine wpAnyH_take (i := 1) (v := ?cv1) rfl (by kernel_rfl) (by kernel_rfl) (by kernel_rfl) (fun _ _ _ h => h) (Or.inl ⟨by rfl, ?cy1⟩) (by assumption) ?cr1
          case cy1 => (intro w hSw; (try dsimp only at hSw); go_simp; try with_reducible rfl)
          try simp only [Act.put, List.getElem_toArray, List.getElem_cons_succ, List.getElem_cons_zero, List.setIfInBounds_toArray, List.set_cons_zero, List.set_cons_succ]
          refine wpAnyH_take (i := 2) (v := ?cv2) rfl (by kernel_rfl) (by kernel_rfl) (by kernel_rfl) (fun _ _ _ h => h) (Or.inl ⟨by rfl, ?cy2⟩) (by assumption) ?cr2
          case cy2 => (intro w hSw; (try dsimp only at hSw); go_simp; try with_reducible rfl)
          try simp only [Act.put, List.getElem_toArray, List.getElem_cons_succ, List.getElem_cons_zero, List.setIfInBounds_toArray, List.set_cons_zero, List.set_cons_succ]
          refine wpAnyH_take (i := 3) (v := ?cv3) rfl (by kernel_rfl) (by kernel_rfl) (by kernel_rfl) (fun _ _ _ h => h) (Or.inl ⟨by rfl, ?cy3⟩) (by assumption) ?cr3
          case cy3 => (intro w hSw; (try dsimp only at hSw); go_simp; try with_reducible rfl)
          try simp only [Act.put, List.getElem_toArray, List.getElem_cons_succ, List.getElem_cons_zero, List.setIfInBounds_toArray, List.set_cons_zero, List.set_cons_succ]
          refine wpAnyH_take (i := 4) (v := ?cv4) rfl (by kernel_rfl) (by kernel_rfl) (by kernel_rfl) (fun _ _ _ h => h) (Or.inl ⟨by rfl, ?cy4⟩) (by assumption) ?cr4
          case cy4 => (intro w hSw; (try dsimp only at hSw); go_simp; try with_reducible rfl)
          try simp only [Act.put, List.getElem_toArray, List.getElem_cons_succ, List.getElem_cons_zero, List.setIfInBounds_toArray, List.set_cons_zero, List.set_cons_succ]
          refine wpAnyH_take (i := 5) (v := ?cv5) rfl (by kernel_rfl) (by kernel_rfl) (by kernel_rfl) (fun _ _ _ h => h) (Or.inl ⟨by rfl, ?cy5⟩) (by assumption) ?cr5
          case cy5 => (intro w hSw; (try dsimp only at hSw); go_simp; try with_reducible rfl)
          try simp only [Act.put, List.getElem_toArray, List.getElem_cons_succ, List.getElem_cons_zero, List.setIfInBounds_toArray, List.set_cons_zero, List.set_cons_succ]
          refine wpAnyH_take (i := 6) (v := ?cv6) rfl (by kernel_rfl) (by kernel_rfl) (by kernel_rfl) (fun _ _ _ h => h) (Or.inl ⟨by rfl, ?cy6⟩) (by assumption) ?cr6
          case cy6 => (intro w hSw; (try dsimp only at hSw); go_simp; try with_reducible rfl)
          try simp only [Act.put, List.getElem_toArray, List.getElem_cons_succ, List.getElem_cons_zero, List.setIfInBounds_toArray, List.set_cons_zero, List.set_cons_succ]
          refine wpAnyH_take (i := 7) (v := ?cv7) rfl (by kernel_rfl) (by kernel_rfl) (by kernel_rfl) (fun _ _ _ h => h) (Or.inl ⟨by rfl, ?cy7⟩) (by assumption) ?cr7
          case cy7 => (intro w hSw; (try dsimp only at hSw); go_simp; try with_reducible rfl)
          try simp only [Act.put, List.getElem_toArray, List.getElem_cons_succ, List.getElem_cons_zero, List.setIfInBounds_toArray, List.set_cons_zero, List.set_cons_succ]
          refine wpAnyH_take (i := 8) (v := ?cv8) rfl (by kernel_rfl) (by kernel_rfl) (by kernel_rfl) (fun _ _ _ h => h) (Or.inl ⟨by rfl, ?cy8⟩) (by assumption) ?cr8
          case cy8 => (intro w hSw; (try dsimp only at hSw); go_simp; try with_reducible rfl)
          try simp only [Act.put, List.getElem_toArray, List.getElem_cons_succ, List.getElem_cons_zero, List.setIfInBounds_toArray, List.set_cons_zero, List.set_cons_succ]
          refine wpAnyH_take (i := 9) (v := ?cv9) rfl (by kernel_rfl) (by kernel_rfl) (by kernel_rfl) (fun _ _ _ h => h) (Or.inl ⟨by rfl, ?cy9⟩) (by assumption) ?cr9
          case cy9 => (intro w hSw; (try dsimp only at hSw); go_simp; try with_reducible rfl)
          try simp only [Act.put, List.getElem_toArray, List.getElem_cons_succ, List.getElem_cons_zero, List.setIfInBounds_toArray, List.set_cons_zero, List.set_cons_succ]
          refine wpAnyH_take (i := 10) (v := ?cv10) rfl (by kernel_rfl) (by kernel_rfl) (by kernel_rfl) (fun _ _ _ h => h) (Or.inl ⟨by rfl, ?cy10⟩) (by assumption) ?cr10
          case cy10 => (intro w hSw; (try dsimp only at hSw); go_simp; try with_reducible rfl)
          try simp only [Act.put, List.getElem_toArray, List.getElem_cons_succ, List.getElem_cons_zero, List.setIfInBounds_toArray, List.set_cons_zero, List.set_cons_succ]
          refine wpAnyH_ready (rs := [11]) (by kernel_rfl) (by simp) ?_
          refine AllReadyH.cons rfl (fun K hK => ?_) AllReadyH.nil
          go_simp
          refine hK.out _ _ (HSF.out _ (only_of_drew (only_alloc (World.grownBy.refl _ _) _))) (fun hHeld => ?_)
          clear hK K
          try simp only [Act.put, List.getElem_toArray, List.getElem_cons_succ, List.getElem_cons_zero, List.setIfInBounds_toArray, List.set_cons_zero, List.set_cons_succ]
          refine wpAnyH_ready (rs := [12]) (by kernel_rfl) (by simp) ?_
          refine AllReadyH.cons rfl (fun K hK => ?_) AllReadyH.nil
          refine step_append_row (by rfl) (.tmp 31) (.tmp 37) (by rfl) er w3.heap.size (.slice A m c) m (rv (l.take m)) (by rfl) (own_keep HHO.out (held_alloc_drew (held_start wr) _)) (wr.heap.size + 1) (some ⟨wr.heap.size, 0, none⟩) 1 1 (rv [x]) (by rfl) (one_row wr x.key x.val rfl) (rv_one _) (by omega) (by omega) (by have := HHG.out.size; simp [World.drew]; omega) ?_
          intro A4 c4 w4 hown4 hg4 hb4
          rw [← rv_append] at hown4
          have hg5 : wr.grownBy w4 (Value.slice A m c).ownBlock := only_trans (only_alloc (World.grownBy.refl wr _) (.cells #[.int .i64 x.key, .string x.val] 36)) (only_of_drew hg4.1) (.inl rfl)
          refine hK.out _ _ (HSF.out _ hg5) (fun hHeld => ?_)
          clear hK K
          try simp only [Act.put, List.getElem_toArray, List.getElem_cons_succ, List.getElem_cons_zero, List.setIfInBounds_toArray, List.set_cons_zero, List.set_cons_succ]
          refine wpAnyH_take (i := 13) (v := ?cv13) rfl (by kernel_rfl) (by kernel_rfl) (by kernel_rfl) (fun _ _ _ h => h) (Or.inl ⟨by rfl, ?cy13⟩) (by assumption) ?cr13
          case cy13 => (intro w hSw; (try dsimp only at hSw); go_simp; try with_reducible rfl)
          try simp only [Act.put, List.getElem_toArray, List.getElem_cons_succ, List.getElem_cons_zero, List.setIfInBounds_toArray, List.set_cons_zero, List.set_cons_succ]
          refine wpAnyH_done (by kernel_rfl) ?_ _
          refine then_normal rfl ?_
          have HPU := Lib.hid (CurK.push HHG.out HBK.out HHO.out hgw HX.out hown4 hg5)
          have hb5 := HBK.out.grown hg5 (fun e => by have := HHO.out.lt _ e.symm; omega)
          have e4 : w4.cell? ⟨w.heap.size, k, none⟩ = some (.slice A m c) := hHeld.1
          have f4 := hb5.frozen k
          clear hown4 hg4 hb4 hg5 hb5
          go_wp2
          go_roundw
          case rel => exact ⟨m + 1, by go_num, by omega, HPU.out⟩
          case measure => simp [Go.RowKit.intOf]; omega
        · obtain rfl : m = l.length := by omega
          have l2 : ¬ (l.length : Int) < (l.length : Int) := by omega
          have HN := Lib.hid (HNEXT.out wr HC.out)
          clear hc HC
          go_wp2
          go_roundw
          case rel => exact ⟨k + 1, by go_num, by omega, HN.out⟩
          case measure => simp [Go.RowKit.intOf]; omega
    · obtain rfl : k = n := by omega
      have l1 : ¬ (k : Int) < (k : Int) := by omega
      have HD := Lib.hid (HO.out.done h8)
      have HN := Lib.hid HO.out.new
      clear HO
      go_wp2
      go_ret
      exact ⟨_, rfl, HD.out, HN.out⟩
end Go.Proofs.Ytlgdbpejefgeaaa.Fold
