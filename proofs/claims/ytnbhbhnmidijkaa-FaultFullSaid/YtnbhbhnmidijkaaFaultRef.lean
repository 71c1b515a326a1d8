/-
  Contract of the document's Push. No condition but the list's length.
-/
import Derived.Test.YtnbhbhnmidijkaaFaultCode
import Derived.Deep.RegionHeld3
import Derived.Deep.RegionHeld
import Derived.OrdersHeld
namespace Go.Proofs.Ytnbhbhnmidijkaa.Flt
set_option linter.unusedVariables false
set_option maxRecDepth 100000
open Go.RowKit Base FaultMath
set_option linter.ambiguousOpen false
set_option linter.unusedSimpArgs false

theorem held_alloc_drew2 (V : World) (o o2 : Obj) : Below V.heap.size V ((V.alloc o).alloc o2).drew := (((Below.refl V.heap.size V).alloc (Nat.le_refl _) o).alloc (by simp) o2).drew
theorem fone_blk {w : World} {g : Nat} {f : Ft} (h : Blk w g 23 #[.int .i64 f.kind, .int .i64 f.keep]) : Row w w.heap.size 2 (some ⟨g, 0, none⟩) 1 1 (fv [f]) :=
  ⟨rfl, Nat.le_refl _, by omega, fun _ => ⟨g, 0, rfl, h.lt, fun j u hu => by rw [Nat.zero_add, h.cell]; simpa [fv, fcells] using hu⟩⟩
theorem Qs.of_own' {w : World} {base n c : Nat} {A : Option Addr} {l : List Ft} {e : TypeId} (h : w.ownsRow base e 2 (.slice A n c) n (fv l)) : Fts w w.heap.size A n c l := Fts.of_own h
def RpRel (w : World) (n : Nat) (A : Option Addr) (p fs : List Ft) (vp vi : Value) (wr : World) : Prop := ∃ (k : Nat) (A1 : Option Addr) (m c1 : Nat), k ≤ n ∧ vi = .int .i64 k ∧ vp = .slice A1 m c1 ∧ Fts wr wr.heap.size A1 m c1 (push p (fs.take k)) ∧ Below w.heap.size w wr ∧ ∀ b, A1.map (·.block) = some b → A.map (·.block) = some b ∨ (w.heap.size ≤ b ∧ b < wr.heap.size)
/-- what the document's Push answers: the same slice, or one in new memory -/
def RPushed (w : World) (A : Option Addr) (p fs : List Ft) (e : Ending) (w' : World) : Prop := ∃ A1 c1, e = .returned (.slice A1 (push p fs).length c1) ∧ Fts w' w'.heap.size A1 (push p fs).length c1 (push p fs) ∧ Below w.heap.size w w' ∧ ∀ b, A1.map (·.block) = some b → A.map (·.block) = some b ∨ (w.heap.size ≤ b ∧ b < w'.heap.size)
set_option maxHeartbeats 6400000 in
theorem refpush_any (B0 B : Nat) (A0 A : Option Addr) (n0 c0 n c : Nat) (p fs : List Ft) (w : World) (h : Fts w B0 A0 n0 c0 p) (hr : Fts w B A n c fs) (hB0 : B0 ≤ w.heap.size) (hB : B ≤ w.heap.size) (hp : p.length ≤ 1024) : Calls Try.prog 12 #[.slice A0 n0 c0, .slice A n c] w (RPushed w A0 p fs) := by
  have hle := hr.le
  have HP := Lib.hid (h.more hB0)
  have HR := Lib.hid (hr.more hB)
  have HL := Lib.hid hr.len
  clear h hr hB hB0
  go_enter Try.func12, Try.ntmps12
  go_wp2
  go_loopw [0, 5] (fun vp vi wr => RpRel w n A0 p fs vp vi wr) (fun _ vi _ => n - (Go.RowKit.intOf vi).toNat)
  case atStart => exact ⟨0, A0, n0, c0, Nat.zero_le _, rfl, rfl, HP.out, Below.refl _ _, fun b hb => .inl hb⟩
  case round =>
    obtain ⟨k, A1, m, c1, hk, rfl, rfl, hq, hb, hpl⟩ := hrel
    have hm24 : m ≤ 1024 := by rw [← hq.len]; exact push_le hp _
    have hmc := hq.le
    have HM := Lib.hid hq.len
    obtain ⟨q, hqe⟩ : ∃ q, q = push p (fs.take k) := ⟨_, rfl⟩
    rw [← hqe] at hq HM
    have HQE := Lib.hid hqe
    have HQQ := Lib.hid hq
    have HB := Lib.hid hb
    have HPL := Lib.hid hpl
    have hz := hb.size
    clear hq hb hpl hqe
    by_cases hkn : k < n
    · obtain ⟨b, off, f, rfl, hbb, q0, q1, hget, htake⟩ := (HR.out.below HB.out).at_ hkn
      obtain ⟨k0, k1⟩ := f
      dsimp only at q0 q1
      have HTK := Lib.hid htake
      have hbw : b < wr.heap.size := by omega
      have l1 : (k : Int) < (n : Int) := by omega
      clear hget htake
      go_wp2_with fail
      refine (refmay_any k0 k1 wr).mono ?_
      rintro e w1 ⟨rfl, hg1⟩
      have HB1 := Lib.hid (held_two HB.out hg1.below)
      have HPL1 : Hid (∀ b, A1.map (·.block) = some b → A0.map (·.block) = some b ∨ (w.heap.size ≤ b ∧ b < w1.heap.size)) := Lib.hid fun b hb => (HPL.out b hb).imp id fun h => ⟨h.1, Nat.lt_of_lt_of_le h.2 hg1.below.size⟩
      clear HPL
      have HPL := HPL1
      clear HPL1
      have HQ1 := Lib.hid ((HQQ.out.below hg1.below).more hg1.below.size)
      have r0 := (hg1.below.cell (p := ⟨b, off + k * 2, none⟩) hbw).trans q0
      have r1 := (hg1.below.cell (p := ⟨b, off + k * 2 + 1, none⟩) hbw).trans q1
      have hbw1 : b < w1.heap.size := Nat.lt_of_lt_of_le hbw hg1.below.size
      clear q0 q1 hg1 HQQ hz hbw
      replace HB := HB1
      clear HB1
      have HSX : Hid (∀ wx, Below w1.heap.size w1 wx → wx.cell? ⟨b, off + k * 2, none⟩ = some (.int .i64 k0) ∧ wx.cell? ⟨b, off + k * 2 + 1, none⟩ = some (.int .i64 k1)) := fun wx hb => ⟨(hb.cell (p := ⟨b, off + k * 2, none⟩) hbw1).trans r0, (hb.cell (p := ⟨b, off + k * 2 + 1, none⟩) hbw1).trans r1⟩
      have HQQ := HQ1
      clear HQ1
      cases hmay : may ⟨k0, k1⟩ with
      | false =>
        have hn : push p (fs.take (k + 1)) = q := by rw [HTK.out, push_snoc, ← HQE.out]; exact put_no hmay
        have HN := Lib.hid hn
        clear hn
        go_wp2
        go_roundw
        case rel => exact ⟨k + 1, A1, m, c1, by omega, by go_num, rfl, by rw [HN.out]; exact HQQ.out, HB.out, HPL.out⟩
        case measure => simp [intOf]; omega
      | true =>
        by_cases hfull : m < 1024
        · have hn : push p (fs.take (k + 1)) = q ++ [⟨k0, k1⟩] := by rw [HTK.out, push_snoc, ← HQE.out]; exact put_yes hmay (by rw [HM.out]; exact hfull)
          have HN := Lib.hid hn
          have l2 : decide ((m : Int) < 1024) = true := by first | (simp; done) | (simp; omega)
          have l3 : (m : Int) < 1024 := by omega
          clear hn hmay
          go_wp2_with fail
          refine Go.wp_region_held_drew (S := fun w' => w'.cell? ⟨b, off + k * 2, none⟩ = some (.int .i64 k0) ∧ w'.cell? ⟨b, off + k * 2 + 1, none⟩ = some (.int .i64 k1)) (by kernel_rfl) (HSX.out _ (held_start w1)) (fun hHeld => ?_)
          refine wpAnyH_take (i := 1) (v := ?mv1) rfl (by kernel_rfl) (by kernel_rfl) (by kernel_rfl) (fun _ _ _ h => h) (Or.inl ⟨by rfl, ?my1⟩) (by assumption) ?mr1
          case my1 => (intro w hSw; (try dsimp only at hSw); go_simp; try with_reducible rfl)
          try simp only [Act.put, List.getElem_toArray, List.getElem_cons_succ, List.getElem_cons_zero, List.setIfInBounds_toArray, List.set_cons_zero, List.set_cons_succ]
          refine wpAnyH_take (i := 3) (v := ?mv3) rfl (by kernel_rfl) (by kernel_rfl) (by kernel_rfl) (fun _ _ _ h => h) (Or.inl ⟨by rfl, ?my3⟩) (by assumption) ?mr3
          case my3 => (intro w hSw; (try dsimp only at hSw); go_simp; try with_reducible rfl)
          try simp only [Act.put, List.getElem_toArray, List.getElem_cons_succ, List.getElem_cons_zero, List.setIfInBounds_toArray, List.set_cons_zero, List.set_cons_succ]
          refine wpAnyH_take (i := 4) (v := ?mv4) rfl (by kernel_rfl) (by kernel_rfl) (by kernel_rfl) (fun _ _ _ h => h) (Or.inl ⟨by rfl, ?my4⟩) (by assumption) ?mr4
          case my4 => (intro w hSw; (try dsimp only at hSw); go_simp; try with_reducible rfl)
          try simp only [Act.put, List.getElem_toArray, List.getElem_cons_succ, List.getElem_cons_zero, List.setIfInBounds_toArray, List.set_cons_zero, List.set_cons_succ]
          refine wpAnyH_take (i := 5) (v := ?mv5) rfl (by kernel_rfl) (by kernel_rfl) (by kernel_rfl) (fun _ _ _ h => h) (Or.inl ⟨by rfl, ?my5⟩) (by assumption) ?mr5
          case my5 => (intro w hSw; (try dsimp only at hSw); go_simp; try with_reducible rfl)
          try simp only [Act.put, List.getElem_toArray, List.getElem_cons_succ, List.getElem_cons_zero, List.setIfInBounds_toArray, List.set_cons_zero, List.set_cons_succ]
          refine wpAnyH_take (i := 6) (v := ?mv6) rfl (by kernel_rfl) (by kernel_rfl) (by kernel_rfl) (fun _ _ _ h => h) (Or.inl ⟨by rfl, ?my6⟩) (by assumption) ?mr6
          case my6 => (intro w hSw; (try dsimp only at hSw); go_simp; try with_reducible rfl)
          try simp only [Act.put, List.getElem_toArray, List.getElem_cons_succ, List.getElem_cons_zero, List.setIfInBounds_toArray, List.set_cons_zero, List.set_cons_succ]
          refine wpAnyH_ready (rs := [0, 7]) (by kernel_rfl) (by simp) ?_
          refine AllReadyH.cons rfl (fun K hK => ?_) (AllReadyH.cons rfl (fun K hK => ?_) AllReadyH.nil)
          · go_simp
            refine hK.out _ _ (HSX.out _ (held_alloc_drew (held_start w1) _)) (fun hHeld => ?_)
            clear hK K
            try simp only [Act.put, List.getElem_toArray, List.getElem_cons_succ, List.getElem_cons_zero, List.setIfInBounds_toArray, List.set_cons_zero, List.set_cons_succ]
            refine wpAnyH_ready (rs := [2, 7]) (by kernel_rfl) (by simp) ?_
            refine AllReadyH.cons rfl (fun K hK => ?_) (AllReadyH.cons rfl (fun K hK => ?_) AllReadyH.nil)
            · refine step_append_row (by rfl) (.tmp 22) (.tmp 23) (by rfl) fel w1.heap.size _ 0 [] (by rfl) (own_empty w1 w1.heap.size _ 2 rfl (Nat.le_refl _)) w1.heap.size A1 m c1 (fv q) (by rfl) (Row.alloc HQQ.out (Nat.le_refl _) _) (fv_one _) (by omega) (by omega) (by first | (simp [World.drew]; done) | (simp [World.drew]; omega)) ?_
              intro A2 c2 w2 hown2 hg2 hb2
              rw [Nat.zero_add, List.nil_append] at hown2
              rw [Nat.zero_add] at hg2 ⊢
              have hB1 : Below w1.heap.size w1 w2 := (held_alloc_drew (held_start w1) (.cells #[] 23)).trans hb2
              refine hK.out _ _ (HSX.out _ hB1) (fun hHeld => ?_)
              clear hK K
              try simp only [Act.put, List.getElem_toArray, List.getElem_cons_succ, List.getElem_cons_zero, List.setIfInBounds_toArray, List.set_cons_zero, List.set_cons_succ]
              refine wpAnyH_ready (rs := [7]) (by kernel_rfl) (by simp) ?_
              refine AllReadyH.cons rfl (fun K hK => ?_) AllReadyH.nil
              go_simp
              have hB1x : Below w1.heap.size w1 (w2.alloc (.cells #[.int .i64 k0, .int .i64 k1] 23)) := hB1.alloc hB1.size _
              refine hK.out _ _ (HSX.out _ hB1x) (fun hHeld => ?_)
              clear hK K
              try simp only [Act.put, List.getElem_toArray, List.getElem_cons_succ, List.getElem_cons_zero, List.setIfInBounds_toArray, List.set_cons_zero, List.set_cons_succ]
              refine wpAnyH_ready (rs := [8]) (by kernel_rfl) (by simp) ?_
              refine AllReadyH.cons rfl (fun K hK => ?_) AllReadyH.nil
              refine step_append_row (by rfl) (.tmp 24) (.tmp 29) (by rfl) fel w1.heap.size _ m (fv q) (by rfl) (own_keep hown2 ((Below.refl _ _).alloc (Nat.le_refl _) _)) _ _ 1 1 (fv [⟨k0, k1⟩]) (by rfl) (fone_blk (f := ⟨k0, k1⟩) (Blk.new w2 _ _)) (fv_one _) (by omega) (by omega) hB1x.size ?_
              intro A3 c3 w3 hown3 _ hb3
              rw [← fv_append] at hown3
              have hB3 : Below w1.heap.size w1 w3 := hB1x.trans hb3
              refine hK.out _ _ (HSX.out _ hB3) (fun hHeld => ?_)
              clear hK K
              try simp only [Act.put, List.getElem_toArray, List.getElem_cons_succ, List.getElem_cons_zero, List.setIfInBounds_toArray, List.set_cons_zero, List.set_cons_succ]
              refine wpAnyH_take (i := 9) (v := ?oav9) rfl (by kernel_rfl) (by kernel_rfl) (by kernel_rfl) (fun _ _ _ h => h) (Or.inl ⟨by rfl, ?oay9⟩) (by assumption) ?oar9
              case oay9 => (intro w hSw; (try dsimp only at hSw); go_simp; try with_reducible rfl)
              try simp only [Act.put, List.getElem_toArray, List.getElem_cons_succ, List.getElem_cons_zero, List.setIfInBounds_toArray, List.set_cons_zero, List.set_cons_succ]
              refine wpAnyH_done (by kernel_rfl) ?_ _
              have HO3 := Lib.hid hown3
              have HB3 := Lib.hid hB3
              clear hown3 hB3 hb3 hown2 hb2 hHeld
              go_wp2
              go_roundw
              case rel => exact ⟨k + 1, _, _, _, by omega, by go_num, rfl, by rw [HN.out]; exact Qs.of_own' HO3.out, held_two HB.out HB3.out, fun b hb => .inr (by have := HO3.out.lt b (by cases A3 with | none => cases hb | some a => exact hb); have h2 := HB.out.size; exact ⟨by omega, this.2⟩)⟩
              case measure => simp [intOf]; omega
            · go_simp
              refine hK.out _ _ (HSX.out _ (held_alloc_drew2 w1 _ _)) (fun hHeld => ?_)
              clear hK K
              try simp only [Act.put, List.getElem_toArray, List.getElem_cons_succ, List.getElem_cons_zero, List.setIfInBounds_toArray, List.set_cons_zero, List.set_cons_succ]
              refine wpAnyH_ready (rs := [2]) (by kernel_rfl) (by simp) ?_
              refine AllReadyH.cons rfl (fun K hK => ?_) AllReadyH.nil
              refine step_append_row (by rfl) (.tmp 22) (.tmp 23) (by rfl) fel w1.heap.size _ 0 [] (by rfl) ((own_empty w1 w1.heap.size _ 2 rfl (Nat.le_refl _)).alloc _) w1.heap.size A1 m c1 (fv q) (by rfl) (Row.alloc (Row.alloc HQQ.out (Nat.le_refl _) _) (by simp) _) (fv_one _) (by omega) (by omega) (by first | (simp [World.drew]; done) | (simp [World.drew]; omega)) ?_
              intro A2 c2 w2 hown2 hg2 hb2
              rw [Nat.zero_add, List.nil_append] at hown2
              rw [Nat.zero_add] at hg2 ⊢
              have hB1x : Below w1.heap.size w1 w2 := (held_alloc_drew2 w1 _ _).trans hb2
              have hyw : Blk w2 (w1.heap.size + 1) 23 #[.int .i64 k0, .int .i64 k1] := Blk.grown (w := ((w1.alloc (.cells #[] 23)).alloc (.cells #[.int .i64 k0, .int .i64 k1] 23)).drew) (show Blk ((w1.alloc (.cells #[] 23)).alloc (.cells #[.int .i64 k0, .int .i64 k1] 23)) (w1.heap.size + 1) 23 #[.int .i64 k0, .int .i64 k1] from by have := Blk.new (w1.alloc (.cells #[] 23)) 23 #[.int .i64 k0, .int .i64 k1]; simpa using this) hg2.1 (by simp [Value.ownBlock])
              refine hK.out _ _ (HSX.out _ hB1x) (fun hHeld => ?_)
              clear hK K
              try simp only [Act.put, List.getElem_toArray, List.getElem_cons_succ, List.getElem_cons_zero, List.setIfInBounds_toArray, List.set_cons_zero, List.set_cons_succ]
              refine wpAnyH_ready (rs := [8]) (by kernel_rfl) (by simp) ?_
              refine AllReadyH.cons rfl (fun K hK => ?_) AllReadyH.nil
              refine step_append_row (by rfl) (.tmp 24) (.tmp 29) (by rfl) fel w1.heap.size _ m (fv q) (by rfl) hown2 _ _ 1 1 (fv [⟨k0, k1⟩]) (by rfl) (fone_blk (f := ⟨k0, k1⟩) hyw) (fv_one _) (by omega) (by omega) hB1x.size ?_
              intro A3 c3 w3 hown3 _ hb3
              rw [← fv_append] at hown3
              have hB3 : Below w1.heap.size w1 w3 := hB1x.trans hb3
              refine hK.out _ _ (HSX.out _ hB3) (fun hHeld => ?_)
              clear hK K
              try simp only [Act.put, List.getElem_toArray, List.getElem_cons_succ, List.getElem_cons_zero, List.setIfInBounds_toArray, List.set_cons_zero, List.set_cons_succ]
              refine wpAnyH_take (i := 9) (v := ?obv9) rfl (by kernel_rfl) (by kernel_rfl) (by kernel_rfl) (fun _ _ _ h => h) (Or.inl ⟨by rfl, ?oby9⟩) (by assumption) ?obr9
              case oby9 => (intro w hSw; (try dsimp only at hSw); go_simp; try with_reducible rfl)
              try simp only [Act.put, List.getElem_toArray, List.getElem_cons_succ, List.getElem_cons_zero, List.setIfInBounds_toArray, List.set_cons_zero, List.set_cons_succ]
              refine wpAnyH_done (by kernel_rfl) ?_ _
              have HO3 := Lib.hid hown3
              have HB3 := Lib.hid hB3
              clear hown3 hB3 hb3 hown2 hb2 hHeld
              go_wp2
              go_roundw
              case rel => exact ⟨k + 1, _, _, _, by omega, by go_num, rfl, by rw [HN.out]; exact Qs.of_own' HO3.out, held_two HB.out HB3.out, fun b hb => .inr (by have := HO3.out.lt b (by cases A3 with | none => cases hb | some a => exact hb); have h2 := HB.out.size; exact ⟨by omega, this.2⟩)⟩
              case measure => simp [intOf]; omega
          · go_simp
            refine hK.out _ _ (HSX.out _ (held_alloc_drew (held_start w1) _)) (fun hHeld => ?_)
            clear hK K
            try simp only [Act.put, List.getElem_toArray, List.getElem_cons_succ, List.getElem_cons_zero, List.setIfInBounds_toArray, List.set_cons_zero, List.set_cons_succ]
            refine wpAnyH_ready (rs := [0]) (by kernel_rfl) (by simp) ?_
            refine AllReadyH.cons rfl (fun K hK => ?_) AllReadyH.nil
            go_simp
            refine hK.out _ _ (HSX.out _ (held_alloc_drew2 w1 _ _)) (fun hHeld => ?_)
            clear hK K
            try simp only [Act.put, List.getElem_toArray, List.getElem_cons_succ, List.getElem_cons_zero, List.setIfInBounds_toArray, List.set_cons_zero, List.set_cons_succ]
            refine wpAnyH_ready (rs := [2]) (by kernel_rfl) (by simp) ?_
            refine AllReadyH.cons rfl (fun K hK => ?_) AllReadyH.nil
            refine step_append_row (by rfl) (.tmp 22) (.tmp 23) (by rfl) fel w1.heap.size _ 0 [] (by rfl) (own_empty (w1.alloc (.cells #[.int .i64 k0, .int .i64 k1] 23)) w1.heap.size _ 2 (by simp) (by simp)) w1.heap.size A1 m c1 (fv q) (by rfl) (Row.alloc (Row.alloc HQQ.out (Nat.le_refl _) _) (by simp) _) (fv_one _) (by omega) (by omega) (by first | (simp [World.drew]; done) | (simp [World.drew]; omega)) ?_
            intro A2 c2 w2 hown2 hg2 hb2
            rw [Nat.zero_add, List.nil_append] at hown2
            rw [Nat.zero_add] at hg2 ⊢
            have hB1x : Below w1.heap.size w1 w2 := (held_alloc_drew2 w1 _ _).trans hb2
            have hyw : Blk w2 w1.heap.size 23 #[.int .i64 k0, .int .i64 k1] := Blk.grown (w := ((w1.alloc (.cells #[.int .i64 k0, .int .i64 k1] 23)).alloc (.cells #[] 23)).drew) ((Blk.new w1 _ _).alloc _) hg2.1 (by simp [Value.ownBlock])
            refine hK.out _ _ (HSX.out _ hB1x) (fun hHeld => ?_)
            clear hK K
            try simp only [Act.put, List.getElem_toArray, List.getElem_cons_succ, List.getElem_cons_zero, List.setIfInBounds_toArray, List.set_cons_zero, List.set_cons_succ]
            refine wpAnyH_ready (rs := [8]) (by kernel_rfl) (by simp) ?_
            refine AllReadyH.cons rfl (fun K hK => ?_) AllReadyH.nil
            refine step_append_row (by rfl) (.tmp 24) (.tmp 29) (by rfl) fel w1.heap.size _ m (fv q) (by rfl) hown2 _ _ 1 1 (fv [⟨k0, k1⟩]) (by rfl) (fone_blk (f := ⟨k0, k1⟩) hyw) (fv_one _) (by omega) (by omega) hB1x.size ?_
            intro A3 c3 w3 hown3 _ hb3
            rw [← fv_append] at hown3
            have hB3 : Below w1.heap.size w1 w3 := hB1x.trans hb3
            refine hK.out _ _ (HSX.out _ hB3) (fun hHeld => ?_)
            clear hK K
            try simp only [Act.put, List.getElem_toArray, List.getElem_cons_succ, List.getElem_cons_zero, List.setIfInBounds_toArray, List.set_cons_zero, List.set_cons_succ]
            refine wpAnyH_take (i := 9) (v := ?ocv9) rfl (by kernel_rfl) (by kernel_rfl) (by kernel_rfl) (fun _ _ _ h => h) (Or.inl ⟨by rfl, ?ocy9⟩) (by assumption) ?ocr9
            case ocy9 => (intro w hSw; (try dsimp only at hSw); go_simp; try with_reducible rfl)
            try simp only [Act.put, List.getElem_toArray, List.getElem_cons_succ, List.getElem_cons_zero, List.setIfInBounds_toArray, List.set_cons_zero, List.set_cons_succ]
            refine wpAnyH_done (by kernel_rfl) ?_ _
            have HO3 := Lib.hid hown3
            have HB3 := Lib.hid hB3
            clear hown3 hB3 hb3 hown2 hb2 hHeld
            go_wp2
            go_roundw
            case rel => exact ⟨k + 1, _, _, _, by omega, by go_num, rfl, by rw [HN.out]; exact Qs.of_own' HO3.out, held_two HB.out HB3.out, fun b hb => .inr (by have := HO3.out.lt b (by cases A3 with | none => cases hb | some a => exact hb); have h2 := HB.out.size; exact ⟨by omega, this.2⟩)⟩
            case measure => simp [intOf]; omega
        · have hn : push p (fs.take (k + 1)) = q := by rw [HTK.out, push_snoc, ← HQE.out]; exact put_full (by rw [HM.out]; omega) _
          have HN := Lib.hid hn
          have l2 : decide ((m : Int) < 1024) = false := by first | (simp; done) | (simp; omega)
          have l3 : ¬ (m : Int) < 1024 := by omega
          clear hn hmay
          go_wp2
          go_roundw
          case rel => exact ⟨k + 1, A1, m, c1, by omega, by go_num, rfl, by rw [HN.out]; exact HQQ.out, HB.out, HPL.out⟩
          case measure => simp [intOf]; omega
    · obtain rfl : k = n := by omega
      have l1 : ¬ (k : Int) < (k : Int) := by omega
      have he : push p fs = q := by rw [HQE.out, List.take_of_length_le (by rw [HL.out]; omega)]
      have HE := Lib.hid he
      clear he
      go_wp2
      go_ret
      unfold RPushed
      rw [HE.out]
      obtain rfl := HM.out
      exact ⟨A1, c1, rfl, HQQ.out, HB.out, HPL.out⟩
end Go.Proofs.Ytnbhbhnmidijkaa.Flt
