/-
  Package guard: contracts of Put, Cells, Rows, Tables of a replica. No condition but the sizes said.
-/
import Derived.Test.YtlbgpfiiiggofaaGdPut
import Derived.Test.YtlbgpfiiiggofaaGdNew
import Derived.Test.YtlbgpfiiiggofaaGdSort
import Derived.Test.YtlbgpfiiiggofaaRowMem
namespace Go.Proofs.Ytlbgpfiiiggofaa.Gd
set_option linter.unusedVariables false
set_option linter.unusedSimpArgs false
set_option maxRecDepth 100000
open Go.RowKit Base GuardMath Foot
open Idx (rv rv_append er Rs)
set_option linter.ambiguousOpen false

section
variable {w w' : World} {g n M : Nat} {T : List (List Ce)}
theorem tab_len (h : GAt w g n M T) (t : Int) : (tab T t).length ≤ M := by
  by_cases hit : GuardMath.isT T t = true
  · obtain ⟨i, rfl, hi⟩ := isT_nat hit
    exact (h.each i (by rw [← h.len]; exact hi)).length
  · rw [tab_none (by simpa using hit)]; exact Nat.zero_le _
end
theorem gcells_any (g n M : Nat) (T : List (List Ce)) (t : Int) (w : World) (h : GAt w g n M T) (hM : M ≤ 1099511627774) (hn : n ≤ 8) :
    Calls Try.prog 25 #[.slice (some ⟨g, 0, none⟩) n n, .int .i64 t] w (CesNew w (tab T t)) := by
  have HIT := Lib.hid (h.isT t)
  by_cases hit : isT T t = true
  · obtain ⟨i, rfl, hi⟩ := isT_nat hit
    have hin : i < n := by rw [← h.len]; exact hi
    have HTB : Hid (decide (0 ≤ (i : Int) ∧ (i : Int) < (n : Int)) = true) := by show _ = _; rw [← HIT.out]; exact hit
    have hlt : (i : Int) < (n : Int) := by omega
    have hc := h.cell hin
    have HT := Lib.hid (tcells_any (g + 2 + i) M (tab T (i : Int)) (h.rise _) (Nat.le_trans (tab_len h _) hM) w (h.each i hin))
    clear h hit
    go_enter Try.func25, Try.ntmps25
    go_wp2_with (go_at_call 28; refine (has_any _ _ _ _ _).mono ?_; rintro e w1 ⟨rfl, rfl⟩; rw [HTB.out])
    refine HT.out.mono ?_
    rintro e w2 ⟨A, c, rfl, h1, h2⟩
    have H := Lib.hid (And.intro h1 h2)
    clear h1 h2
    go_wp2
    go_ret
    exact ⟨A, c, rfl, H.out⟩
  · have hit : isT T t = false := by simpa using hit
    have HTB : Hid (decide (0 ≤ t ∧ t < (n : Int)) = false) := by show _ = _; rw [← HIT.out]; exact hit
    have HN := Lib.hid (tab_none hit)
    clear h hit
    go_enter Try.func25, Try.ntmps25
    go_wp2_with (go_at_call 28; refine (has_any _ _ _ _ _).mono ?_; rintro e w1 ⟨rfl, rfl⟩; rw [HTB.out])
    go_ret
    rw [HN.out]
    exact ⟨none, 0, rfl, World.ownsRow_nil _ _ _ _, Below.refl _ _⟩
theorem cells_any (g n M : Nat) (T : List (List Ce)) (t : Int) (w : World) (h : GAt w g n M T) (hM : M ≤ 1099511627774) (hn : n ≤ 8) :
    Calls Try.prog 14 #[.pointer (some ⟨g + 1, 0, none⟩), .int .i64 t] w (CesNew w (tab T t)) := by
  have c0 : w.cell? ⟨g + 1, 0, none⟩ = some (.slice (some ⟨g, 0, none⟩) n n) := h.box.cell 0
  have HG := Lib.hid h
  clear h
  go_enter Try.func14, Try.ntmps14
  go_wp2_with fail
  refine (gcells_any g n M T t _ HG.out hM hn).mono ?_
  rintro e w2 ⟨A, c, rfl, h1, h2⟩
  have H := Lib.hid (And.intro h1 h2)
  clear h1 h2
  go_wp2
  go_ret
  exact ⟨A, c, rfl, H.out⟩
theorem tables_any (g n M : Nat) (T : List (List Ce)) (w : World) (h : GAt w g n M T) :
    Calls Try.prog 20 #[.pointer (some ⟨g + 1, 0, none⟩)] w fun e w' => e = .returned (.int .i64 n) ∧ w = w' := by
  have c0 : w.cell? ⟨g + 1, 0, none⟩ = some (.slice (some ⟨g, 0, none⟩) n n) := h.box.cell 0
  clear h
  go_enter Try.func20, Try.ntmps20
  go_wp2
  go_ret
  exact ⟨rfl, rfl⟩
/-! ### Rows -/
theorem rows_snoc (l : List Ce) (x : Ce) : rows (l ++ [x]) = rows l ++ (if x.gone then [] else [⟨x.key, x.val⟩]) := by
  unfold rows
  rw [List.filter_append, List.map_append]
  cases h : x.gone with
  | true => simp [h]
  | false => simp [h]
theorem rows_le (l : List Ce) : (rows l).length ≤ l.length := by unfold rows; rw [List.length_map]; exact List.length_filter_le _ _
theorem row_one (w : World) (k : Int) (v : ByteArray) {s : Nat} (hs : s = w.heap.size) : Row (w.alloc (.cells #[.int .i64 k, .string v] 43)) (w.heap.size + 1) 2 (some ⟨s, 0, none⟩) 1 1 (rv [⟨k, v⟩]) :=
  Row.lit w #[.int .i64 k, .string v] _ (0, 0) hs rfl (by omega)
def RwsNew (w : World) (l : List IdxMath.Rw) (e : Ending) (w' : World) : Prop :=
  ∃ A c, e = .returned (.slice A l.length c) ∧ w'.ownsRow w.heap.size 43 2 (.slice A l.length c) l.length (rv l) ∧ Below w.heap.size w w'
set_option maxHeartbeats 1600000 in
theorem rows_any (g n M : Nat) (T : List (List Ce)) (t : Int) (w : World) (h : GAt w g n M T) (hM : M ≤ 1099511627774) (hn : n ≤ 8) :
    Calls Try.prog 17 #[.pointer (some ⟨g + 1, 0, none⟩), .int .i64 t] w (RwsNew w (rows (tab T t))) := by
  have c0 : w.cell? ⟨g + 1, 0, none⟩ = some (.slice (some ⟨g, 0, none⟩) n n) := h.box.cell 0
  have HG := Lib.hid h
  have HL := Lib.hid (Nat.le_trans (tab_len h t) hM)
  clear h
  go_enter Try.func17, Try.ntmps17
  go_wp2_with (go_at_call 25; refine (gcells_any g n M T t _ HG.out hM hn).mono ?_; rintro e w1 ⟨A, c, rfl, h1, h2⟩; have HR := Lib.hid (Ces.of_own h1); have HB := Lib.hid h2; clear h1 h2)
  generalize hl : tab T t = l at *
  have hle := HR.out.le
  have hll : l.length ≤ 1099511627774 := HL.out
  clear hl HL
  go_loopw [5, 15] (fun v vi wr => ∃ (k : Nat) (A' : Option Addr) (c' : Nat), vi = .int .i64 k ∧ k ≤ l.length ∧ v = .slice A' (rows (l.take k)).length c' ∧ wr.ownsRow w1.heap.size 43 2 v (rows (l.take k)).length (rv (rows (l.take k))) ∧ Below w1.heap.size w1 wr) (fun _ vi _ => l.length - (intOf vi).toNat)
  case atStart => exact ⟨0, none, 0, rfl, Nat.zero_le _, rfl, World.ownsRow_nil _ _ _ _, Below.refl _ _⟩
  case round =>
    obtain ⟨k, A', c', rfl, hk, rfl, ho, hb⟩ := hrel
    have HO := Lib.hid ho
    have HB2 := Lib.hid hb
    clear ho hb
    by_cases hlt : k < l.length
    · obtain ⟨b, off, f, rfl, hbB, q0, q1, q2, q3, hf, ht⟩ := (HR.out.below HB2.out).at_ hlt
      obtain ⟨f0, f1, f2, f3⟩ := f
      dsimp only at q0 q1 q2 q3
      have l1 : (k : Int) < (l.length : Int) := by omega
      have HTK := Lib.hid (show rows (l.take (k + 1)) = rows (l.take k) ++ (if f2 then [] else [⟨f0, f3⟩]) by rw [ht, rows_snoc])
      have hrl : (rows (l.take k)).length ≤ k := Nat.le_trans (rows_le _) (by rw [List.length_take]; omega)
      clear hf ht
      have HW1 : Hid (Below w1.heap.size w1 (wr.alloc (.cells #[.int .i64 f0, .int .i64 f1, .bool f2, .string f3] 38))) := HB2.out.alloc HB2.out.size _
      have HO1 := Lib.hid (HO.out.alloc (.cells #[.int .i64 f0, .int .i64 f1, .bool f2, .string f3] 38))
      have hws : w.heap.size ≤ wr.heap.size := Nat.le_trans HB.out.size HB2.out.size
      cases f2 with
      | true =>
        have HX : Hid (rows (l.take (k + 1)) = rows (l.take k)) := by show _ = _; rw [HTK.out]; simp
        go_wp2
        go_roundw
        case rel => exact ⟨k + 1, A', c', by go_num, by omega, by rw [HX.out], by rw [HX.out]; exact HO1.out, HW1.out⟩
        case measure => simp [intOf]; omega
      | false =>
        have HX : Hid (rows (l.take (k + 1)) = rows (l.take k) ++ [⟨f0, f3⟩]) := by show _ = _; rw [HTK.out]; simp
        have hlen : (rows (l.take (k + 1))).length = (rows (l.take k)).length + 1 := by rw [HX.out, List.length_append]; rfl
        have HLN := Lib.hid hlen
        clear hlen
        have hx : Blk (wr.alloc (.cells #[.int .i64 f0, .int .i64 f1, .bool false, .string f3] 38)) wr.heap.size 38 #[.int .i64 f0, .int .i64 f1, .bool false, .string f3] := Blk.new _ _ _
        have hWs : w.heap.size ≤ (wr.alloc (.cells #[.int .i64 f0, .int .i64 f1, .bool false, .string f3] 38)).heap.size := by simp; omega
        go_upto_region 5 with fail
        generalize (wr.alloc (.cells #[.int .i64 f0, .int .i64 f1, .bool false, .string f3] 38)) = W at *
        have x0 := hx.cell 0
        have x2 := hx.cell 2
        have x3 := hx.cell 3
        clear hx
        go_wp2_with (first
          | (at_builtin
             refine wpList_append_row rfl (.tmp 22) (.tmp 28) rfl er w1.heap.size _ (rows (l.take k)).length (rv (rows (l.take k))) rfl (own_keep HO1.out ((Below.refl _ _).alloc (Nat.le_refl _) _)) (W.heap.size + 1) _ 1 1 (rv [(⟨f0, f3⟩ : IdxMath.Rw)]) rfl (row_one W f0 f3 rfl) (Idx.rv_one _) (by omega) (by omega) (by have := HW1.out.size; simp; omega) ?_
             intro A4 c4 w4 ho4 _ hb4
             rw [← rv_append] at ho4
             have HO4 := Lib.hid ho4
             have HB4 := Lib.hid ((HW1.out.alloc HW1.out.size _).trans hb4)
             clear ho4 hb4)
          | fail)
        go_roundw
        case rel => exact ⟨k + 1, A4, c4, by go_num, by omega, by rw [HLN.out], by rw [HLN.out, HX.out]; exact HO4.out, HB4.out⟩
        case measure => simp [intOf]; omega
    · have l1 : ¬ ((k : Int) < (l.length : Int)) := by omega
      obtain rfl : k = l.length := by omega
      rw [List.take_length] at HO
      rw [List.take_length]
      go_wp2
      go_ret
      exact ⟨A', c', rfl, own_mono HO.out HB.out.size, HB.out.trans (HB2.out.mono HB.out.size)⟩
end Go.Proofs.Ytlbgpfiiiggofaa.Gd
