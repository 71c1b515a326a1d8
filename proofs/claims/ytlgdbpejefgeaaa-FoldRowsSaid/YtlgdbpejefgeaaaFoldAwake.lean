/-
  The first line of each statement on folding (awake): contract.
-/
import Derived.Test.YtlgdbpejefgeaaaFoldHelp
namespace Go.Proofs.Ytlgdbpejefgeaaa.Fold
set_option linter.unusedVariables false
set_option linter.unusedSimpArgs false
set_option maxRecDepth 100000
open Go.RowKit Base IdxMath FoldMath Foot
open TxnMath (Ch Tx)
open PChg (gval Cs)
open PTx
open Lsts (Lsts)
open Idx (Rs)
set_option linter.ambiguousOpen false

def aA : ByteArray := ⟨#[97]⟩
def aL : List Tx := [⟨1, 1, [⟨0, 5, false, ⟨#[97]⟩⟩], [], 0⟩, ⟨2, 1, [⟨0, 5, true, ⟨#[]⟩⟩], [], 0⟩]
theorem aL_one : foldT 1 aL 1 = [[⟨5, ⟨#[97]⟩⟩]] := by rfl
theorem aL_two : foldT 1 aL 2 = [[]] := by rfl
theorem aL_val : value 0 5 (chs aL (held 1 2)) = some ⟨#[97]⟩ := by rfl
theorem aL_chs : (chs aL 2).length = 2 := by rfl
theorem aL_bet : between aL 0 2 0 5 ⟨#[97]⟩ = true := between_yes (k := 1) (by decide) (by decide) (by rfl)
theorem aL_ok : ∀ x ∈ chs aL 2, In64 x.key := by
  intro x hx
  have : chs aL 2 = [⟨0, 5, false, ⟨#[97]⟩⟩, ⟨0, 5, true, ⟨#[]⟩⟩] := by rfl
  rw [this] at hx
  simp only [List.mem_cons, List.not_mem_nil, or_false] at hx
  rcases hx with rfl | rfl <;> exact ⟨by decide, by decide⟩
def aC1 : Obj := .cells #[.int .i64 0, .int .i64 5, .bool false, .string ⟨#[97]⟩] 44
def aC2 : Obj := .cells #[.int .i64 0, .int .i64 5, .bool true, .string ⟨#[]⟩] 44
def aTX (s : Nat) : Obj := .cells #[.int .i64 1, .int .i64 1, .slice (some ⟨s, 0, none⟩) 1 1, .slice none 0 0, .int .i64 0, .int .i64 2, .int .i64 1, .slice (some ⟨s + 1, 0, none⟩) 1 1, .slice none 0 0, .int .i64 0] 42
theorem lit_txs (w : World) : Txs (((w.alloc aC1).alloc aC2).alloc (aTX w.heap.size)) (((w.alloc aC1).alloc aC2).alloc (aTX w.heap.size)).heap.size (some ⟨w.heap.size + 1 + 1, 0, none⟩) 2 2 aL := by
  have h1 : Blk (((w.alloc aC1).alloc aC2).alloc (aTX w.heap.size)) w.heap.size 44 #[.int .i64 0, .int .i64 5, .bool false, .string ⟨#[97]⟩] := Blk.alloc (Blk.alloc (Blk.new _ _ _) _) _
  have h2 : Blk (((w.alloc aC1).alloc aC2).alloc (aTX w.heap.size)) (w.heap.size + 1) 44 #[.int .i64 0, .int .i64 5, .bool true, .string ⟨#[]⟩] := by
    have := Blk.alloc (Blk.new (w.alloc aC1) 44 #[.int .i64 0, .int .i64 5, .bool true, .string ⟨#[]⟩]) (aTX w.heap.size)
    simpa [aC2] using this
  have h3 : Blk (((w.alloc aC1).alloc aC2).alloc (aTX w.heap.size)) (w.heap.size + 1 + 1) 42 #[.int .i64 1, .int .i64 1, .slice (some ⟨w.heap.size, 0, none⟩) 1 1, .slice none 0 0, .int .i64 0, .int .i64 2, .int .i64 1, .slice (some ⟨w.heap.size + 1, 0, none⟩) 1 1, .slice none 0 0, .int .i64 0] := by
    have := Blk.new ((w.alloc aC1).alloc aC2) 42 #[.int .i64 1, .int .i64 1, .slice (some ⟨w.heap.size, 0, none⟩) 1 1, .slice none 0 0, .int .i64 0, .int .i64 2, .int .i64 1, .slice (some ⟨w.heap.size + 1, 0, none⟩) 1 1, .slice none 0 0, .int .i64 0]
    simpa [aTX] using this
  refine ⟨rfl, by omega, by omega, fun i x hx => ⟨w.heap.size + 1 + 1, 0, rfl, h3.lt, ?_⟩⟩
  match i, hx with
  | 0, hx =>
    obtain rfl := Option.some.inj hx
    exact ⟨some ⟨w.heap.size, 0, none⟩, 1, 1, none, 0, 0, h3.cell 0, h3.cell 1, h3.cell 2, h3.cell 3, h3.cell 4, lit_one (x := ⟨0, 5, false, ⟨#[97]⟩⟩) h1, Row.nil_ _ _ _⟩
  | 1, hx =>
    obtain rfl := Option.some.inj hx
    exact ⟨some ⟨w.heap.size + 1, 0, none⟩, 1, 1, none, 0, 0, h3.cell 5, h3.cell 6, h3.cell 7, h3.cell 8, h3.cell 9, lit_one (x := ⟨0, 5, true, ⟨#[]⟩⟩) h2, Row.nil_ _ _ _⟩
  | i + 2, hx => cases hx
set_option maxHeartbeats 6400000 in
theorem awake_any (w : World) : Calls Try.prog 8 #[] w fun e w' => e = .returned (.bool true) ∧ Below w.heap.size w w' := by
  have HB0 : Hid (Below w.heap.size w (((w.alloc aC1).alloc aC2).alloc (aTX w.heap.size))) := (((Below.refl _ _).alloc (Nat.le_refl _) _).alloc (by simp) _).alloc (by simp; omega) _
  have HL0 := Lib.hid (lit_txs w)
  unfold aC1 aC2 aTX at HB0 HL0
  go_enter Try.func8, Try.ntmps8
  go_wp2_with fail
  generalize (((w.alloc (.cells #[.int .i64 0, .int .i64 5, .bool false, .string ⟨#[97]⟩] 44)).alloc (.cells #[.int .i64 0, .int .i64 5, .bool true, .string ⟨#[]⟩] 44)).alloc (.cells #[.int .i64 1, .int .i64 1, .slice (some ⟨w.heap.size, 0, none⟩) 1 1, .slice none 0 0, .int .i64 0, .int .i64 2, .int .i64 1, .slice (some ⟨w.heap.size + 1, 0, none⟩) 1 1, .slice none 0 0, .int .i64 0] 42)) = w0 at HB0 HL0 ⊢
  generalize w.heap.size + 1 + 1 = q at HL0 ⊢
  refine (fold_any 1 w0.heap.size _ 2 2 aL 1 w0 HL0.out (Nat.le_refl _) aL_ok (by rw [aL_chs]; omega)).mono ?_
  rintro e w1 ⟨A1, n1, c1, rfl, hls1, hb1⟩
  rw [aL_one] at hls1
  obtain rfl : 1 = n1 := hls1.len
  have HS1 := Lib.hid (rz_rs hls1)
  have HL1 := Lib.hid ((HL0.out.below hb1).more hb1.size)
  have HB1 : Hid (Below w.heap.size w w1) := held_two HB0.out hb1
  clear hls1 hb1
  go_wp2_with fail
  refine (fold_any 1 w1.heap.size _ 2 2 aL 2 w1 HL1.out (Nat.le_refl _) aL_ok (by rw [aL_chs]; omega)).mono ?_
  rintro e w2 ⟨A2, n2, c2, rfl, hls2, hb2⟩
  rw [aL_two] at hls2
  obtain rfl : 1 = n2 := hls2.len
  have HS1b : Hid (Lsts Rs w2 w1.heap.size A1 1 c1 [[⟨5, ⟨#[97]⟩⟩]]) := HS1.out.below hb2 fun _ _ _ _ hh => Row.below hh hb2
  have HS2 := Lib.hid (rz_rs hls2)
  have HL2 := Lib.hid ((HL1.out.below hb2).more hb2.size)
  have HB2 : Hid (Below w.heap.size w w2) := held_two HB1.out hb2
  have hz2 := hb2.size
  clear hls2 hb2
  go_wp2_with fail
  refine (value_any w2.heap.size _ 2 2 aL 1 0 5 w2 HL2.out (Nat.le_refl _) (by rw [aL_chs]; omega)).mono ?_
  rintro e w3 ⟨rfl, hb3⟩
  rw [show value 0 5 (chs aL (held 1 aL.length)) = some ⟨#[97]⟩ from aL_val]
  have HL3 := Lib.hid ((HL2.out.below hb3).more hb3.size)
  have HB3 : Hid (Below w.heap.size w w3) := held_two HB2.out hb3
  have hw13 : Below w1.heap.size w2 w3 := hb3.mono hz2
  obtain ⟨b, off, A3, n3, c3, l3, rfl, _, x0, hr3, hg3, _⟩ := (HS1b.out.below hw13 fun _ _ _ _ hh => Row.below hh hw13).at_ (k := 0) (by omega)
  obtain rfl := Option.some.inj hg3
  obtain rfl : 1 = n3 := hr3.len
  obtain ⟨b', off', y, rfl, _, y0, y1, hg4, _⟩ := hr3.at_ (k := 0) (by omega)
  obtain rfl := Option.some.inj hg4
  obtain ⟨b5, off5, A5, n5, c5, l5, rfl, _, z0, hr5, hg5, _⟩ := (HS2.out.below hb3 fun _ _ _ _ hh => Row.below hh hb3).at_ (k := 0) (by omega)
  obtain rfl := Option.some.inj hg5
  obtain rfl : 0 = n5 := hr5.len
  simp only [Nat.zero_mul, Nat.add_zero] at x0 y0 y1 z0
  have CB := Lib.hid (between_any w3.heap.size _ 2 2 aL 0 2 0 5 ⟨#[97]⟩ w3 HL3.out (Nat.le_refl _) (by rw [aL_chs]; omega) (by omega))
  rw [aL_bet] at CB
  clear hr3 hg3 hg4 hr5 hg5 hb3 hw13
  go_wp2_with fail
  refine CB.out.mono ?_
  rintro e w4 ⟨rfl, hb4⟩
  have HB4 : Hid (Below w.heap.size w w4) := held_two HB3.out hb4
  clear hb4
  go_wp2
  go_ret
  exact ⟨rfl, HB4.out⟩
end Go.Proofs.Ytlgdbpejefgeaaa.Fold
