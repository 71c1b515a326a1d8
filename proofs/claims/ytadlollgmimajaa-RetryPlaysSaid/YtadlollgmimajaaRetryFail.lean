/-
  Contracts of Fail, of package retry and of the document's Retry. No condition.
-/
import Derived.Test.YtadlollgmimajaaRetryCode
import Derived.Test.YtadlollgmimajaaRegionLast
import Derived.Deep.DeepCutAuto
namespace Go.Proofs.Ytadlollgmimajaa.Rt
set_option linter.unusedVariables false
set_option maxRecDepth 100000
open Go.RowKit Base BackMath RetryMath Back Last
set_option linter.ambiguousOpen false
set_option linter.unusedSimpArgs false

theorem fail_all {w wx : World} {g : Nat} {t : TypeId} {b m j f u f' u' : Int} (h : Blk w g t #[.int .i64 b, .int .i64 m, .int .i64 j, .int .i64 f, .int .i64 u]) (hb : Below w.heap.size (w.setCell ⟨g, 3, none⟩ (.int .i64 f')) wx) :
    Blk (wx.setCell ⟨g, 4, none⟩ (.int .i64 u')) g t #[.int .i64 b, .int .i64 m, .int .i64 j, .int .i64 f', .int .i64 u'] ∧ w.grownBy (wx.setCell ⟨g, 4, none⟩ (.int .i64 u')) (some g) := by
  have h1 := Blk.set_ h 3 (.int .i64 f')
  have h2 := h1.below hb h.lt
  refine ⟨Blk.set_ h2 4 (.int .i64 u'), only_set ?_ 4 _⟩
  have h3 : w.grownBy (w.setCell ⟨g, 3, none⟩ (.int .i64 f')) (some g) := only_set (World.grownBy.refl _ _) 3 _
  exact only_trans h3 (only_of_below (hb.mono (by simp)) (some g)) (.inl rfl)
set_option maxHeartbeats 3200000 in
theorem fail_any (g : Nat) (b m j f u n d : Int) (w : World) (h : RetAt w g b m j f u) (hf : 0 ≤ f ∧ f < 9223372036854775807) : Calls Try.prog 14 #[.pointer (some ⟨g, 0, none⟩), .int .i64 n, .int .i64 d] w fun e w' => e = .returned (.int .i64 (clk n + wt (f + 1) b m j d)) ∧ RetAt w' g b m j (f + 1) (clk n + wt (f + 1) b m j d) ∧ w.grownBy w' (some g) := by
  have HH := Lib.hid h
  have hlt := Blk.lt h
  have c3 : w.cell? ⟨g, 3, none⟩ = some (.int .i64 f) := Blk.cell h 3
  have f3 := Blk.frozen h 3
  have e1 : wrap64 (f + 1) = f + 1 := IntWalk.wrap64_in _ (by omega)
  have hk := clk_in n
  have hw := wt_in (f + 1) b m j d
  have e2 : IntKind.i64.wrap (clk n + wt (f + 1) b m j d) = clk n + wt (f + 1) b m j d := IntWalk.i64_in _ (by omega)
  obtain ⟨W, hW⟩ : ∃ W, W = wt (f + 1) b m j d := ⟨_, rfl⟩
  obtain ⟨K, hK⟩ : ∃ K, K = clk n := ⟨_, rfl⟩
  have HC := Lib.hid (fun w => hK ▸ clock_any n w)
  have HP := Lib.hid (fun w => hW ▸ pwait_any b m j (f + 1) d w)
  rw [← hW, ← hK] at e2 ⊢
  clear hk hw hW hK hf
  obtain ⟨F, hF⟩ : ∃ F, F = f + 1 := ⟨_, rfl⟩
  rw [← hF] at HP ⊢
  replace e1 : wrap64 (f + 1) = F := by rw [e1, hF]
  clear hF
  have h1 := Blk.set_ h 3 (.int .i64 F)
  have d0 : (w.setCell ⟨g, 3, none⟩ (.int .i64 F)).cell? ⟨g, 0, none⟩ = some (.int .i64 b) := Blk.cell h1 0
  have d1 : (w.setCell ⟨g, 3, none⟩ (.int .i64 F)).cell? ⟨g, 1, none⟩ = some (.int .i64 m) := Blk.cell h1 1
  have d2 : (w.setCell ⟨g, 3, none⟩ (.int .i64 F)).cell? ⟨g, 2, none⟩ = some (.int .i64 j) := Blk.cell h1 2
  have d3 : (w.setCell ⟨g, 3, none⟩ (.int .i64 F)).cell? ⟨g, 3, none⟩ = some (.int .i64 F) := Blk.cell h1 3
  have HV : Hid (∀ wx, Below w.heap.size (w.setCell ⟨g, 3, none⟩ (.int .i64 F)) wx → wx.frozen? ⟨g, 4, none⟩ = false ∧ wx.cell? ⟨g, 4, none⟩ = some (.int .i64 u)) := Lib.hid fun wx hx => ⟨Blk.frozen (h1.below hx hlt) 4, Blk.cell (h1.below hx hlt) 4⟩
  clear h h1
  go_enter Try.func14, Try.ntmps14
  go_upto_region 2 with fail
  have hz : w.heap.size = (w.setCell ⟨g, 3, none⟩ (.int .i64 F)).heap.size := by simp
  obtain ⟨V, hV⟩ : ∃ V, V = w.setCell ⟨g, 3, none⟩ (.int .i64 F) := ⟨_, rfl⟩
  rw [← hV] at d0 d1 d2 d3 HV hz ⊢
  have HVV := Lib.hid hV
  clear hV c3 f3 e1
  rw [hz] at HV
  refine wp_region_last_at (S := fun w' => w'.cell? ⟨g, 0, none⟩ = some (.int .i64 b) ∧ w'.cell? ⟨g, 1, none⟩ = some (.int .i64 m) ∧ w'.cell? ⟨g, 2, none⟩ = some (.int .i64 j) ∧ w'.cell? ⟨g, 3, none⟩ = some (.int .i64 F)) 18 _ rfl rfl (by kernel_rfl) (by kernel_rfl) (by kernel_rfl) ⟨d0, d1, d2, d3⟩ (fun hHeld => ?_)
  simp only [List.take_succ_cons, List.take_zero]
  held_take 0 1 3 4 5 6 7 8 9 10 11 12
  held_ready 2 K hK
  refine (HC.out _).mono ?_
  rintro e wz ⟨rfl, rfl⟩
  refine hK.out _ _ ⟨d0, d1, d2, d3⟩ (fun hHeld => ?_)
  clear hK K
  held_put
  held_ready 13 K hK
  refine (HP.out _).mono ?_
  rintro e w2 ⟨rfl, hg⟩
  have hb2 := held_two (held_start V) hg.below
  refine hK.out _ _ ⟨held_cell hb2 d0, held_cell hb2 d1, held_cell hb2 d2, held_cell hb2 d3⟩ (fun hHeld => ?_)
  clear hK K
  held_put
  held_take 14 15 16 17
  refine wpAnyH_done (by kernel_rfl) ?_ _
  refine then_normal rfl ?_
  obtain ⟨d5, d6⟩ := HV.out w2 hb2
  have HB2 := Lib.hid hb2
  clear hb2 hg d0 d1 d2 d3 hHeld
  go_wp2
  go_ret
  have hb := HB2.out
  rw [← hz, HVV.out] at hb
  have hx := fail_all (u' := K + W) HH.out hb
  exact ⟨rfl, hx.1, hx.2⟩
set_option maxHeartbeats 3200000 in
theorem reffail_any (g : Nat) (b m j f u n d : Int) (w : World) (h : RefAt w g b m j f u) (hf : 0 ≤ f ∧ f < 9223372036854775807) : Calls Try.prog 15 #[.pointer (some ⟨g, 0, none⟩), .int .i64 n, .int .i64 d] w fun e w' => e = .returned (.int .i64 (clk n + wt (f + 1) b m j d)) ∧ RefAt w' g b m j (f + 1) (clk n + wt (f + 1) b m j d) ∧ w.grownBy w' (some g) := by
  have HH := Lib.hid h
  have hlt := Blk.lt h
  have c3 : w.cell? ⟨g, 3, none⟩ = some (.int .i64 f) := Blk.cell h 3
  have f3 := Blk.frozen h 3
  have e1 : wrap64 (f + 1) = f + 1 := IntWalk.wrap64_in _ (by omega)
  have hk := clk_in n
  have hw := wt_in (f + 1) b m j d
  have e2 : IntKind.i64.wrap (clk n + wt (f + 1) b m j d) = clk n + wt (f + 1) b m j d := IntWalk.i64_in _ (by omega)
  obtain ⟨W, hW⟩ : ∃ W, W = wt (f + 1) b m j d := ⟨_, rfl⟩
  obtain ⟨K, hK⟩ : ∃ K, K = clk n := ⟨_, rfl⟩
  have HC := Lib.hid (fun w => hK ▸ refclock_any n w)
  have HP := Lib.hid (fun w => hW ▸ refwait_any (f + 1) b m j d w (by omega))
  rw [← hW, ← hK] at e2 ⊢
  clear hk hw hW hK hf
  obtain ⟨F, hF⟩ : ∃ F, F = f + 1 := ⟨_, rfl⟩
  rw [← hF] at HP ⊢
  replace e1 : wrap64 (f + 1) = F := by rw [e1, hF]
  clear hF
  have h1 := Blk.set_ h 3 (.int .i64 F)
  have d0 : (w.setCell ⟨g, 3, none⟩ (.int .i64 F)).cell? ⟨g, 0, none⟩ = some (.int .i64 b) := Blk.cell h1 0
  have d1 : (w.setCell ⟨g, 3, none⟩ (.int .i64 F)).cell? ⟨g, 1, none⟩ = some (.int .i64 m) := Blk.cell h1 1
  have d2 : (w.setCell ⟨g, 3, none⟩ (.int .i64 F)).cell? ⟨g, 2, none⟩ = some (.int .i64 j) := Blk.cell h1 2
  have d3 : (w.setCell ⟨g, 3, none⟩ (.int .i64 F)).cell? ⟨g, 3, none⟩ = some (.int .i64 F) := Blk.cell h1 3
  have HV : Hid (∀ wx, Below w.heap.size (w.setCell ⟨g, 3, none⟩ (.int .i64 F)) wx → wx.frozen? ⟨g, 4, none⟩ = false ∧ wx.cell? ⟨g, 4, none⟩ = some (.int .i64 u)) := Lib.hid fun wx hx => ⟨Blk.frozen (h1.below hx hlt) 4, Blk.cell (h1.below hx hlt) 4⟩
  clear h h1
  go_enter Try.func15, Try.ntmps15
  go_upto_region 2 with fail
  have hz : w.heap.size = (w.setCell ⟨g, 3, none⟩ (.int .i64 F)).heap.size := by simp
  obtain ⟨V, hV⟩ : ∃ V, V = w.setCell ⟨g, 3, none⟩ (.int .i64 F) := ⟨_, rfl⟩
  rw [← hV] at d0 d1 d2 d3 HV hz ⊢
  have HVV := Lib.hid hV
  clear hV c3 f3 e1
  rw [hz] at HV
  refine wp_region_last_at (S := fun w' => w'.cell? ⟨g, 0, none⟩ = some (.int .i64 b) ∧ w'.cell? ⟨g, 1, none⟩ = some (.int .i64 m) ∧ w'.cell? ⟨g, 2, none⟩ = some (.int .i64 j) ∧ w'.cell? ⟨g, 3, none⟩ = some (.int .i64 F)) 24 _ rfl rfl (by kernel_rfl) (by kernel_rfl) (by kernel_rfl) ⟨d0, d1, d2, d3⟩ (fun hHeld => ?_)
  simp only [List.take_succ_cons, List.take_zero]
  held_take 0 1 3 4 5 6 7 8 9 10 11 12 13 14 15 16 17 18 19
  held_ready 2 K hK
  refine (HC.out _).mono ?_
  rintro e wz ⟨rfl, rfl⟩
  refine hK.out _ _ ⟨d0, d1, d2, d3⟩ (fun hHeld => ?_)
  clear hK K
  held_put
  held_ready 20 K hK
  refine (HP.out _).mono ?_
  rintro e w2 ⟨rfl, hg⟩
  have hb2 := held_two (held_start V) hg.below
  refine hK.out _ _ ⟨held_cell hb2 d0, held_cell hb2 d1, held_cell hb2 d2, held_cell hb2 d3⟩ (fun hHeld => ?_)
  clear hK K
  held_put
  held_take 21 22 23
  refine wpAnyH_done (by kernel_rfl) ?_ _
  refine then_normal rfl ?_
  obtain ⟨d5, d6⟩ := HV.out w2 hb2
  have HB2 := Lib.hid hb2
  clear hb2 hg d0 d1 d2 d3 hHeld
  go_wp2
  go_ret
  have hb := HB2.out
  rw [← hz, HVV.out] at hb
  have hx := fail_all (u' := K + W) HH.out hb
  exact ⟨rfl, hx.1, hx.2⟩
end Go.Proofs.Ytadlollgmimajaa.Rt
