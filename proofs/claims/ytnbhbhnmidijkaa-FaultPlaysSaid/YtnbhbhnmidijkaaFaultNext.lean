/-
  Contract of package fault's Next. No condition.
-/
import Derived.Test.YtnbhbhnmidijkaaFaultCode
namespace Go.Proofs.Ytnbhbhnmidijkaa.Flt
set_option linter.unusedVariables false
set_option maxRecDepth 100000
open Go.RowKit Base FaultMath Foot
set_option linter.ambiguousOpen false
set_option linter.unusedSimpArgs false

set_option maxHeartbeats 1600000 in
theorem next_some (F : Nat → Prop) (g : Nat) (f : Ft) (l : List Ft) (w : World) (h : PlanAt F w g (f :: l)) : Calls Try.prog 15 #[.pointer (some ⟨g, 0, none⟩)] w fun e w' => e = .returned (firstV (f :: l)) ∧ PlanAt F w' g l ∧ Turn F w w' := by
  have hFg := h.1
  have hle := h.2.1
  obtain ⟨A, c, h1, h2, hb, hq⟩ := h.at_
  obtain ⟨k0, k1⟩ := f
  have hl1 : (⟨k0, k1⟩ :: l : List Ft).length = l.length + 1 := rfl
  rw [hl1] at h1 hb hq hle
  have hr : Fts w w.heap.size A (l.length + 1) c (⟨k0, k1⟩ :: l) := hq.row
  obtain ⟨b, off, f', rfl, hbb, q0, q1, hget, _⟩ := hr.at_ (k := 0) (by omega)
  simp at hget
  subst hget
  simp only [Nat.zero_mul, Nat.add_zero] at q0 q1
  have c0 : w.cell? ⟨g, 0, none⟩ = some (.slice (some ⟨b, off, none⟩) (l.length + 1) c) := hb.cell 0
  have fr := hb.frozen 0
  have hg := hb.lt
  have HQ := Lib.hid hq
  have HBK := Lib.hid hb
  obtain ⟨n, hn⟩ : ∃ n, n = l.length := ⟨_, rfl⟩
  rw [← hn] at h1 hle c0 HQ HBK
  have HN := Lib.hid hn
  clear h hb hq hr hl1 hn
  go_enter Try.func15, Try.ntmps15
  by_cases hc : c = 1
  · subst hc
    have HN0 : Hid (n = 0) := Lib.hid (by omega)
    go_wp2
    refine bodyPost_ret (v := firstV (⟨k0, k1⟩ :: l)) (by simp [firstV, results, Try.results15, go_sem]) rfl ?_
    have hcut := HQ.out.cut (k := 1) (by omega)
    rw [if_pos rfl, fv_drop, Nat.add_sub_cancel, HN0.out] at hcut
    exact ⟨rfl, ⟨hFg, by rw [← HN.out]; omega, _, _, _, ((HBK.out.set_ 0 _).alloc _).alloc _, ((hcut.set_ HBK.out (by decide) _).alloc _).alloc _⟩, (((Turn.refl F w).setCell (.inl hFg) _).alloc _).alloc _⟩
  · go_wp2
    refine bodyPost_ret (v := firstV (⟨k0, k1⟩ :: l)) (by simp [firstV, results, Try.results15, go_sem]) rfl ?_
    have hcut := HQ.out.cut (k := 1) (by omega)
    rw [if_neg hc, fv_drop, Nat.add_sub_cancel, Option.map_some, add_none] at hcut
    exact ⟨rfl, ⟨hFg, by rw [← HN.out]; omega, _, _, _, ((HBK.out.set_ 0 _).alloc _).alloc _, ((hcut.set_ HBK.out (by decide) _).alloc _).alloc _⟩, (((Turn.refl F w).setCell (.inl hFg) _).alloc _).alloc _⟩
end Go.Proofs.Ytnbhbhnmidijkaa.Flt
