/-
  Package guard: contract of Put of a replica. No condition but the sizes said, and that the ops lie off the replica.
-/
import Derived.Test.YtlbgpfiiiggofaaGdApi
namespace Go.Proofs.Ytlbgpfiiiggofaa.Gd
set_option linter.unusedVariables false
set_option linter.unusedSimpArgs false
set_option maxRecDepth 100000
open Go.RowKit Base GuardMath Foot
set_option linter.ambiguousOpen false

/-- what a slice reads off an object's own blocks it reads behind a step of that object -/
theorem Row.apart {w w' : World} {B size n c : Nat} {A : Option Addr} {vs : List Value} {F : Nat → Prop} (h : Row w B size A n c vs) (hB : B ≤ w.heap.size) (hoff : ∀ b off, A = some ⟨b, off, none⟩ → ¬ F b) (ht : Turn F w w') : Row w' B size A n c vs := by
  obtain ⟨h1, h2, h3, h4⟩ := h
  refine ⟨h1, h2, h3, fun hn => ?_⟩
  obtain ⟨b, off, e, hb, hc⟩ := h4 hn
  exact ⟨b, off, e, hb, fun j u hj => (ht.cell (p := ⟨b, off + j, none⟩) (show b < w.heap.size by omega) (hoff b off e)).trans (hc j u hj)⟩
theorem Gps.apart {w w' : World} {B n c : Nat} {A : Option Addr} {l : List Gp} {F : Nat → Prop} (h : Gps w B A n c l) (hB : B ≤ w.heap.size) (hoff : ∀ b off, A = some ⟨b, off, none⟩ → ¬ F b) (ht : Turn F w w') : Gps w' B A n c l := Row.apart h hB hoff ht
theorem own_addr {w : World} {base : Nat} {e : TypeId} {size n c : Nat} {A : Option Addr} {vs : List Value} (h : w.ownsRow base e size (.slice A n c) n vs) : (A = none ∧ n = 0 ∧ c = 0) ∨ ∃ g, A = some ⟨g, 0, none⟩ := by
  rcases h.2 with ⟨hv, h0⟩ | ⟨g, cap, cur, hv, _⟩
  · injection hv with ha _ hc
    exact .inl ⟨ha, h0, hc⟩
  · injection hv with ha _ _
    exact .inr ⟨g, ha⟩
def PutR (w : World) (g n M : Nat) (T : List (List Ce)) (l : List Gp) (e : Ending) (w' : World) : Prop := e = .returned (.int .i64 (cnt T l)) ∧ GAt w' g n (M + l.length) (doAll T l) ∧ Turn (Own g n) w w'
set_option maxHeartbeats 3200000 in
theorem put_any (g n M : Nat) (T : List (List Ce)) (B : Nat) (A : Option Addr) (m c : Nat) (l : List Gp) (w : World) (h : GAt w g n M T) (hl : Gps w B A m c l) (hB : B ≤ w.heap.size) (hoff : ∀ b off, A = some ⟨b, off, none⟩ → ¬ Own g n b) (hk : ∀ o ∈ l, In64 o.key) (hM : M + l.length ≤ 1099511627774) (hn : n ≤ 8) :
    Calls Try.prog 11 #[.pointer (some ⟨g + 1, 0, none⟩), .slice A m c] w (PutR w g n M T l) := by
  have HG := Lib.hid h
  have HR := Lib.hid hl
  have HF := Lib.hid hoff
  have HK := Lib.hid hk
  have HLN := Lib.hid hl.len
  have hle := hl.le
  have hmm : m ≤ 1099511627774 := by have := hl.len; omega
  clear h hl hoff hk
  go_enter Try.func11, Try.ntmps11
  go_wp2
  go_loopw [5, 10] (fun v vi wr => ∃ k : Nat, vi = .int .i64 k ∧ k ≤ m ∧ v = .int .i64 (cnt T (l.take k)) ∧ GAt wr g n (M + k) (doAll T (l.take k)) ∧ Turn (Own g n) w wr) (fun _ vi _ => m - (intOf vi).toNat)
  case atStart => exact ⟨0, rfl, Nat.zero_le _, rfl, HG.out, Turn.refl _ _⟩
  case round =>
    obtain ⟨k, rfl, hk, rfl, hg, ht⟩ := hrel
    have HG2 := Lib.hid hg
    have HT := Lib.hid ht
    clear hg ht
    by_cases hlt : k < m
    · obtain ⟨b, off, f, rfl, hbB, q0, q1, q2, q3, q4, hf, htk⟩ := (HR.out.apart hB HF.out HT.out).at_ hlt
      have hfk : In64 f.key := HK.out f (List.mem_of_getElem? hf)
      obtain ⟨f0, f1, f2, f3, f4⟩ := f
      dsimp only at q0 q1 q2 q3 q4 hfk
      have l1 : (k : Int) < (m : Int) := by omega
      have HFK := Lib.hid hfk
      have HDA : Hid (doAll T (l.take (k + 1)) = do1 (doAll T (l.take k)) ⟨f0, f1, f2, f3, f4⟩) := by show _ = _; rw [htk, doAll_snoc]
      have HCN : Hid (cnt T (l.take (k + 1)) = cnt T (l.take k) + if plays (doAll T (l.take k)) ⟨f0, f1, f2, f3, f4⟩ then 1 else 0) := by show _ = _; rw [htk, cnt_snoc]
      have hcl : cnt T (l.take k) ≤ k := Nat.le_trans (cnt_le _ _) (by rw [List.length_take]; omega)
      clear hf htk hfk
      have hb : Below wr.heap.size wr (wr.alloc (.cells #[.int .i64 f0, .int .i64 f1, .int .i64 f2, .bool f3, .string f4] 32)) := (Below.refl _ _).alloc (Nat.le_refl _) _
      have hx : Blk (wr.alloc (.cells #[.int .i64 f0, .int .i64 f1, .int .i64 f2, .bool f3, .string f4] 32)) wr.heap.size 32 #[.int .i64 f0, .int .i64 f1, .int .i64 f2, .bool f3, .string f4] := Blk.new _ _ _
      go_upto_region 5 with fail
      generalize (wr.alloc (.cells #[.int .i64 f0, .int .i64 f1, .int .i64 f2, .bool f3, .string f4] 32)) = W at hb hx ⊢
      have HGW := Lib.hid (HG2.out.new hb)
      have HTW : Hid (Turn (Own g n) w W) := HT.out.trans (Turn.new (F := Own g n) hb) (fun _ h => .inl h)
      have HX := Lib.hid hx
      clear hb hx q0 q1 q2 q3 q4
      have HSX : Hid (∀ wx, Below W.heap.size W wx → wx.cell? ⟨g + 1, 0, none⟩ = some (.slice (some ⟨g, 0, none⟩) n n) ∧ wx.cell? ⟨wr.heap.size, 0, none⟩ = some (.int .i64 f0) ∧ wx.cell? ⟨wr.heap.size, 1, none⟩ = some (.int .i64 f1) ∧ wx.cell? ⟨wr.heap.size, 2, none⟩ = some (.int .i64 f2) ∧ wx.cell? ⟨wr.heap.size, 3, none⟩ = some (.bool f3) ∧ wx.cell? ⟨wr.heap.size, 4, none⟩ = some (.string f4)) := fun wx hb => ⟨held_cell hb (HGW.out.box.cell 0), held_cell hb (HX.out.cell 0), held_cell hb (HX.out.cell 1), held_cell hb (HX.out.cell 2), held_cell hb (HX.out.cell 3), held_cell hb (HX.out.cell 4)⟩
      refine Last.wp_region_last_at (S := fun w' => w'.cell? ⟨g + 1, 0, none⟩ = some (.slice (some ⟨g, 0, none⟩) n n) ∧ w'.cell? ⟨wr.heap.size, 0, none⟩ = some (.int .i64 f0) ∧ w'.cell? ⟨wr.heap.size, 1, none⟩ = some (.int .i64 f1) ∧ w'.cell? ⟨wr.heap.size, 2, none⟩ = some (.int .i64 f2) ∧ w'.cell? ⟨wr.heap.size, 3, none⟩ = some (.bool f3) ∧ w'.cell? ⟨wr.heap.size, 4, none⟩ = some (.string f4)) 5 _ rfl rfl (by kernel_rfl) (by kernel_rfl) (by kernel_rfl) (HSX.out _ (held_start W)) (fun hHeld => ?_)
      simp only [List.take_succ_cons, List.take_zero]
      refine wpAnyH_take (i := 0) (v := ?av0) rfl (by kernel_rfl) (by kernel_rfl) (by kernel_rfl) (fun _ _ _ h => h) (Or.inl ⟨by rfl, ?ay0⟩) (by assumption) ?ar0
      case ay0 => (intro w hSw; (try dsimp only at hSw); go_simp; try with_reducible rfl)
      try simp only [Act.put, List.getElem_toArray, List.getElem_cons_succ, List.getElem_cons_zero, List.setIfInBounds_toArray, List.set_cons_zero, List.set_cons_succ]
      refine wpAnyH_take (i := 1) (v := ?av1) rfl (by kernel_rfl) (by kernel_rfl) (by kernel_rfl) (fun _ _ _ h => h) (Or.inl ⟨by rfl, ?ay1⟩) (by assumption) ?ar1
      case ay1 => (intro w hSw; (try dsimp only at hSw); go_simp; try with_reducible rfl)
      try simp only [Act.put, List.getElem_toArray, List.getElem_cons_succ, List.getElem_cons_zero, List.setIfInBounds_toArray, List.set_cons_zero, List.set_cons_succ]
      refine wpAnyH_take (i := 2) (v := ?av2) rfl (by kernel_rfl) (by kernel_rfl) (by kernel_rfl) (fun _ _ _ h => h) (Or.inl ⟨by rfl, ?ay2⟩) (by assumption) ?ar2
      case ay2 => (intro w hSw; (try dsimp only at hSw); go_simp; try with_reducible rfl)
      try simp only [Act.put, List.getElem_toArray, List.getElem_cons_succ, List.getElem_cons_zero, List.setIfInBounds_toArray, List.set_cons_zero, List.set_cons_succ]
      refine wpAnyH_take (i := 3) (v := ?av3) rfl (by kernel_rfl) (by kernel_rfl) (by kernel_rfl) (fun _ _ _ h => h) (Or.inl ⟨by rfl, ?ay3⟩) (by assumption) ?ar3
      case ay3 => (intro w hSw; (try dsimp only at hSw); go_simp; try with_reducible rfl)
      try simp only [Act.put, List.getElem_toArray, List.getElem_cons_succ, List.getElem_cons_zero, List.setIfInBounds_toArray, List.set_cons_zero, List.set_cons_succ]
      refine wpAnyH_take (i := 4) (v := ?av4) rfl (by kernel_rfl) (by kernel_rfl) (by kernel_rfl) (fun _ _ _ h => h) (Or.inl ⟨by rfl, ?ay4⟩) (by assumption) ?ar4
      case ay4 => (intro w hSw; (try dsimp only at hSw); go_simp; try with_reducible rfl)
      try simp only [Act.put, List.getElem_toArray, List.getElem_cons_succ, List.getElem_cons_zero, List.setIfInBounds_toArray, List.set_cons_zero, List.set_cons_succ]
      refine wpAnyH_done (by kernel_rfl) ?_ _
      refine Last.then_normal rfl ?_
      clear hHeld
      go_wp2_with fail
      refine (gput_any g n (M + k) (doAll T (l.take k)) ⟨f0, f1, f2, f3, f4⟩ _ (HGW.out.new (held_start W)) HFK.out (by have := HLN.out; omega) hn).mono ?_
      rintro e wy ⟨rfl, hgy, hty⟩
      have HGY : Hid (GAt wy g n (M + (k + 1)) (doAll T (l.take (k + 1)))) := by show GAt _ _ _ _ _; rw [HDA.out]; exact hgy
      have HTY : Hid (Turn (Own g n) w wy) := (HTW.out.drewN 1).trans hty (fun _ h => .inl h)
      clear hgy hty
      generalize hpl : plays (doAll T (l.take k)) ⟨f0, f1, f2, f3, f4⟩ = pl at *
      cases pl with
      | true =>
        rw [if_pos rfl] at HCN
        clear hpl
        go_wp2
        go_roundw
        case rel => exact ⟨k + 1, by go_num, by omega, by rw [HCN.out]; go_num, HGY.out, HTY.out⟩
        case measure => simp [intOf]; omega
      | false =>
        rw [if_neg (by simp)] at HCN
        clear hpl
        go_wp2
        go_roundw
        case rel => exact ⟨k + 1, by go_num, by omega, by rw [HCN.out]; rfl, HGY.out, HTY.out⟩
        case measure => simp [intOf]; omega
    · have l1 : ¬ ((k : Int) < (m : Int)) := by omega
      obtain rfl : k = m := by omega
      have hlm : l.take k = l := List.take_of_length_le (by rw [HLN.out]; exact Nat.le_refl _)
      have HGE : Hid (GAt wr g n (M + l.length) (doAll T l)) := by show GAt _ _ _ _ _; rw [HLN.out]; rw [← hlm]; exact HG2.out
      rw [hlm]
      go_wp2
      go_ret
      exact ⟨rfl, HGE.out, HT.out⟩
end Go.Proofs.Ytlbgpfiiiggofaa.Gd
