/-
  Contracts of the document's own small functions on numbers' bytes (qanatref01's big and number).
-/
import Derived.Test.YtlkjmdkmcaaihaaRows
import Derived.Test.YtlkjmdkmcaaihaaBase
import Derived.Test.YtlkjmdkmcaaihaaEb
import Derived.Test.YtlkjmdkmcaaihaaMaths
import Derived.Outline
import Derived.IntWalk
import Derived.WalkLawsBesides
namespace Go.Proofs.Ytlkjmdkmcaaihaa.Field
set_option maxRecDepth 100000
open Go.RowKit Base FieldMath

theorem byte_shr {x : Int} (hx0 : 0 ≤ x) (k : Nat) : x / 2 ^ (8 * k) % 256 = ((UInt8.ofNat (x.toNat / 256 ^ k)).toNat : Int) := by
  obtain ⟨y, rfl⟩ := Int.eq_ofNat_of_zero_le hx0
  have e : (2 : Nat) ^ (8 * k) = 256 ^ k := by rw [Nat.pow_mul]
  rw [UInt8.toNat_ofNat', Int.toNat_natCast]
  show (y : Int) / 2 ^ (8 * k) % 256 = ((y / 256 ^ k % 256 : Nat) : Int)
  rw [← e]
  simp
/-- one byte, laid by 'append(b, x)' -/
theorem one_byte (w : World) (e : TypeId) (z : UInt8) {s : Nat} (hs : s = w.heap.size) {y : Int} (hy : y = z.toNat) : Row (w.alloc (.cells #[.int .u8 y] e)) (w.heap.size + 1) 1 (some ⟨s, 0, none⟩) 1 1 (bv [z]) := by
  subst hy
  exact Row.lit w #[.int .u8 z.toNat] e (0, 0) hs rfl (by omega)

/-- a slice of bytes of the call's own, handed back -/
def OwnBytes (base : Nat) (w : World) (row : Option Nat) (l : List UInt8) (e : Ending) (w' : World) : Prop :=
  ∃ A c, e = .returned (.slice A l.length c) ∧ w'.ownsRow base 5 1 (.slice A l.length c) l.length (bv l) ∧ Grew w row w' (.slice A l.length c)

theorem own_bytes {base n c : Nat} {w w' : World} {row : Option Nat} {A : Option Addr} {l l' : List UInt8} {e : Ending} (he : e = .returned (.slice A n c)) (h : w'.ownsRow base 5 1 (.slice A n c) n (bv l')) (hl : l' = l) (hb : Grew w row w' (.slice A n c)) : OwnBytes base w row l e w' := by
  subst hl
  have hn : l'.length = n := by have := h.1; rw [bv_length, Nat.mul_one] at this; exact this
  subst hn
  exact ⟨A, c, he, h, hb⟩

/-! ### what 'make', 'b[k:]' and 'b[a:h]' are, as equations -/
theorem run_mk (w : World) (n : Nat) (hn : n ≤ 140737488355328) : (Instr.makeSlice 35 (.int .i64 0) (.int .i64 n)).run Try.prog w = .ok (.slice (some ⟨w.heap.size, 0, none⟩) 0 n) (w.alloc (.cells (madeCells #[.int .u8 0] n) 5)) := by
  obtain ⟨i, ht, hi, hz, hs, hb, _, _⟩ := eb
  have := run_make (P := Try.prog) w 35 5 i _ ht hi hz .i64 .i64 0 n (by omega) (by omega) (by rw [hb]; omega) (by omega)
  rw [hs, Nat.mul_one, Int.toNat_natCast] at this
  exact this

theorem made_own (w : World) (base n : Nat) {s : Nat} (hs : s = w.heap.size) (hb : base ≤ w.heap.size) (hn : n ≤ 140737488355328) : (w.alloc (.cells (madeCells #[.int .u8 0] n) 5)).ownsRow base 5 1 (.slice (some ⟨s, 0, none⟩) 0 n) 0 (bv []) := by
  subst hs
  exact World.ownsRow_made w _ n hb (by unfold maxLen; omega) (by rw [size_madeCells, Nat.mul_one])
set_option maxRecDepth 100000 in
theorem run_cut (w : World) (A : Option Addr) (n c k : Nat) (hk : k ≤ n) : (Instr.sliceAt 35 (.slice A n c) (some (.int .i64 k)) none none).run Try.prog w = .ok (.slice (cutAt A c k) (n - k) (c - k)) w := by
  rw [run_sliceAt_slice _ _ _ _ _ _ Try.underlying35, run_slice_l _ _ _ _ _ Try.underlying35 .i64 k (by omega) (by omega)]
  have : (sizeOf (Try.prog.elem 35)).run Try.prog w = .ok 1 w := by kernel_rfl
  rw [this]
  simp [Result.andThen, sliced, cutAt]
set_option maxRecDepth 100000 in
theorem run_mid (w : World) (A : Option Addr) (n c a m : Nat) (hk : a + m ≤ c) {h : Int} (hh : h = a + m) : (Instr.sliceAt 35 (.slice A n c) (some (.int .i64 a)) (some (.int .i64 h)) none).run Try.prog w = .ok (.slice (cutAt A c a) m (c - a)) w := by
  subst hh
  rw [run_sliceAt_slice _ _ _ _ _ _ Try.underlying35, run_slice_lh _ _ _ _ _ Try.underlying35 .i64 .i64 a (a + m) (by omega) (by omega) (by omega)]
  have : (sizeOf (Try.prog.elem 35)).run Try.prog w = .ok 1 w := by kernel_rfl
  rw [this]
  have e : ((a : Int) + (m : Int)).toNat - a = m := by omega
  simp [Result.andThen, sliced, cutAt, e]

def BigRel (w : World) (x n : Nat) (v i : Value) (wr : World) : Prop :=
  ∃ (j : Nat) (pre : List UInt8) (A : Option Addr) (c : Nat), pre.length + j = n ∧ pre ++ big x j = big x n ∧ v = .slice A pre.length c ∧ wr.ownsRow w.heap.size 5 1 (.slice A pre.length c) pre.length (bv pre) ∧
    Grew w none wr (.slice A pre.length c) ∧ ((j = 0 ∧ i = .int .i64 (-1)) ∨ ∃ k : Nat, j = k + 1 ∧ i = .int .i64 k)
set_option maxHeartbeats 400000 in
theorem big_any (x : Int) (n : Nat) (w : World) (hx0 : 0 ≤ x) (_hx1 : x < 18446744073709551616) (hn0 : 0 < n) (hn : n ≤ 8) :
    Calls Try.prog 40 #[.int .u64 x, .int .i64 n] w (OwnBytes w.heap.size w none (big x.toNat n)) := by
  go_enter Try.func40, Try.ntmps40
  go_wp2
  go_loopw [5, 6] (fun v i wr => BigRel w x.toNat n v i wr) (fun _ i _ => (intOf i + 1).toNat)
  case atStart =>
    exact ⟨n, [], none, 0, by simp, rfl, rfl, World.ownsRow_nil _ _ _ _, Grew.refl _ (.slice none 0 0), .inr ⟨n - 1, by omega, by congr 1; omega⟩⟩
  case round =>
    obtain ⟨j, pre, A1, c1, hj, hpre, rfl, hown, hbel, hi⟩ := hrel
    have HP := Lib.hid hpre
    have HO1 := Lib.hid hown
    have HB := Lib.hid hbel
    clear hpre hown hbel
    rcases hi with ⟨rfl, rfl⟩ | ⟨k, rfl, rfl⟩
    · go_wp2
      go_ret
      exact own_bytes rfl HO1.out (by have := HP.out; rw [big, List.append_nil] at this; rw [this]) HB.out
    · have hk : k < 8 := by omega
      go_wp2_with (first
        | (at_builtin
           refine wpList_append_row rfl (.tmp 13) (.tmp 20) rfl eb w.heap.size _ pre.length (bv pre) rfl (HO1.out.alloc _) (wr.heap.size + 1) _ 1 1 (bv [UInt8.ofNat (x.toNat / 256 ^ k)]) rfl (one_byte wr _ _ rfl (byte_shr hx0 k)) (bv_one _) (by omega) (by omega) (by have := HB.out.1.size; simp; omega) ?_
           intro A2 c2 w2 hown2 hg2 _
           have HO2 := Lib.hid hown2
           have HB2 := Lib.hid ((HB.out.alloc _).step hg2)
           clear hown2 hg2))
      go_roundw
      case rel =>
        refine ⟨k, pre ++ [UInt8.ofNat (x.toNat / 256 ^ k)], A2, c2, by rw [List.length_append, List.length_singleton]; omega, ?_, ?_, ?_, ?_, ?_⟩
        · rw [List.append_assoc, ← HP.out]; rfl
        · simp
        · have h := HO2.out
          rw [← bv_append] at h
          simpa using h
        · have h := HB2.out
          simpa using h
        · rcases Nat.eq_zero_or_pos k with h0 | h0
          · subst h0; exact .inl ⟨rfl, rfl⟩
          · exact .inr ⟨k - 1, by omega, by congr 1; omega⟩
      case measure => simp [intOf]

theorem or_byte {y : Nat} (hy : y < 72057594037927936) (z : UInt8) : bits .or .u64 ((y : Int) * 256) (z.toNat : Int) = ((y * 256 + z.toNat : Nat) : Int) := by
  have hz := z.toNat_lt
  rw [show (y : Int) * 256 = ((y * 256 : Nat) : Int) by simp, u64_or_nat _ _ (by omega) (by omega), nat_join 8 (y * 256) z.toNat (by omega) (by omega)]

theorem take_num_lt {l : List UInt8} {n k : Nat} (hl : l.length = n) (hk : k < n) (hn : n ≤ 8) : num (l.take k) < 72057594037927936 := by
  have h := num_lt (l.take k)
  rw [List.length_take, hl, Nat.min_eq_left (by omega)] at h
  have h2 : 256 ^ k ≤ 256 ^ 7 := Nat.pow_le_pow_right (by omega) (by omega)
  have h3 : 256 ^ 7 = 72057594037927936 := by decide
  omega

set_option maxHeartbeats 400000 in
theorem number_any (B : Nat) (A : Option Addr) (n c : Nat) (l : List UInt8) (w : World) (hr : Bytes w B A n c l) (hn : n ≤ 8) :
    Calls Try.prog 71 #[.slice A n c] w fun e w' => e = .returned (.int .u64 (num l)) ∧ w = w' := by
  have HR := Lib.hid hr
  clear hr
  go_enter Try.func71, Try.ntmps71
  go_wp2
  go_loop [3, 4] (fun x i => ∃ (k y : Nat), k ≤ n ∧ i = .int .i64 k ∧ x = .int .u64 y ∧ y = num (l.take k)) (fun _ i => n - (intOf i).toNat)
  case atStart => exact ⟨0, 0, by omega, rfl, rfl, rfl⟩
  case round =>
    obtain ⟨k, y, hk, rfl, rfl, hy⟩ := hrel
    by_cases hlt : k < n
    · have hyb := take_num_lt HR.out.len hlt hn
      rw [← hy] at hyb
      obtain ⟨b, off, z, rfl, _, hcell, _, ht⟩ := HR.out.at_ hlt
      have HY := Lib.hid hy
      have HT := Lib.hid ht
      have hz : z.toNat < 256 := z.toNat_lt
      clear hy ht
      go_wp2
      go_round
      case rel => exact ⟨k + 1, y * 256 + z.toNat, by omega, by go_num, by rw [← or_byte hyb z], by rw [HT.out, num_snoc, HY.out]⟩
      case measure => simp [intOf]; omega
    · have this : l.take k = l := List.take_of_length_le (by rw [HR.out.len]; omega)
      rw [this] at hy
      have HY := Lib.hid hy
      clear hy this
      go_wp2
      go_ret
      exact ⟨ret_int (by rw [HY.out]), rfl⟩
end Go.Proofs.Ytlkjmdkmcaaihaa.Field
