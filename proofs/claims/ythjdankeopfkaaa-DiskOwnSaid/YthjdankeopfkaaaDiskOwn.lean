/-
  The walk of DiskOwn: what was handed in, and what was handed out, are not the file's own bytes.
-/
import Derived.Test.YthjdankeopfkaaaDiskBase
import Derived.Test.YthjdankeopfkaaaHelpOwn8
import Derived.Test.YthjdankeopfkaaaHelpInts
namespace Go.Proofs.Ythjdankeopfkaaa.Disk
open Go.RowKit Base DiskMath
open Go.Proofs.Ythjdankeopfkaaa.Help
set_option linter.ambiguousOpen false

def own1 (b : List UInt8) : Dk := ⟨[⟨0, b, 0⟩], 0, false, 1⟩
theorem val_o1 (b : List UInt8) : append none_ 0 b = (0, own1 b) := rfl

theorem spoil8_own (A : Option Addr) (n m c c' : Nat) (base : Nat) (xs : List Value) (w : World) (h : w.ownsRow base 5 1 (.slice A m c') m xs) (hn : n ≤ m) (hc : n ≤ c) (hm : c ≤ 9223372036854775807) :
    Calls Try.prog 24 #[.slice A n c] w fun e w' => e = .returned (.tuple #[]) ∧ w.grownBy w' (Value.slice A m c').ownBlock := by
  rcases own_blk h with ⟨rfl, rfl⟩ | ⟨g, cs, rfl, hb, hs, _⟩
  · obtain rfl : n = 0 := by omega
    refine (spoil8_none c w).mono ?_
    rintro e w' ⟨rfl, rfl⟩
    exact ⟨rfl, World.grownBy.refl _ _⟩
  · refine (spoil8_any g n c cs w hb (by omega) hc hm).mono ?_
    rintro e w' ⟨rfl, hw⟩
    exact ⟨rfl, hw⟩
theorem spoilI_own (A : Option Addr) (n c : Nat) (base : Nat) (xs : List Value) (w : World) (h : w.ownsRow base 3 1 (.slice A n c) n xs) (hc : n ≤ c) (hm : c ≤ 9223372036854775807) :
    Calls Try.prog 26 #[.slice A n c] w fun e w' => e = .returned (.tuple #[]) ∧ w.grownBy w' (Value.slice A n c).ownBlock := by
  rcases own_blk h with ⟨rfl, rfl⟩ | ⟨g, cs, rfl, hb, hs, _⟩
  · refine (spoilI_none c w).mono ?_
    rintro e w' ⟨rfl, rfl⟩
    exact ⟨rfl, World.grownBy.refl _ _⟩
  · refine (spoilI_any g n c cs w hb (by omega) hc hm).mono ?_
    rintro e w' ⟨rfl, hw⟩
    exact ⟨rfl, hw⟩
/-- a row of the caller's own is written: the disk is as it was -/
theorem DiskAt.spoilt {F : Nat → Prop} {w w' : World} {g : Nat} {d : Dk} {row : Option Nat} (h : DiskAt F w g d) (hw : w.grownBy w' row) (hn : ∀ i, row = some i → ¬ F i) : DiskAt F w' g d :=
  h.keep fun i hi hf => hw.block i hi fun e => hn i e.symm hf

set_option maxRecDepth 100000 in
set_option maxHeartbeats 1600000 in
theorem own_walk (B : Nat) (A : Option Addr) (n c : Nat) (b : List UInt8) (w : World) (hb : Bytes w B A n c b) (hB : B ≤ w.heap.size) (hn : n ≤ 140737488351232) :
    Calls Try.prog 6 #[.slice A n c] w fun e w' => e = .returned (.bool true) ∧ Below w.heap.size w w' := by
  have HL := Lib.hid hb.len
  have HR := Lib.hid hb
  clear hb
  go_enter Try.func6, Try.ntmps6
  go_wp2_with fail
  refine (new_any w).mono ?_
  rintro e w1 ⟨g, rfl, hd, hb⟩
  have HD1 := Lib.hid hd
  have HB1 := Lib.hid hb
  have hz1 := hb.size
  clear hd hb
  go_wp2_with fail
  refine (own8_row B A n c b 9 w1 (HR.out.below (HB1.out.mono hB)) (Nat.le_trans hB HB1.out.size) hn).mono ?_
  rintro e w2 ⟨A2, c2, rfl, ho, hb⟩
  have hz2 := hb.size
  have HO2 := Lib.hid ho
  have HY2 : Hid (Bytes w2 w2.heap.size A2 (n + 3) (n + 3) (b ++ [9, 9, 9])) := Row.recap (Bytes.of_own ho) (by omega) (by omega)
  have HD2 := Lib.hid (HD1.out.new hb)
  have HB2 := Lib.hid (held_two HB1.out hb)
  -- where the copy lies
  have HN2 : Hid (∀ i, (Value.slice A2 (n + 3) c2).ownBlock = some i → w1.heap.size ≤ i ∧ i < w2.heap.size) := fun i hi => ho.lt i hi
  clear ho hb HD1 HB1
  go_wp2_with fail
  have HI2 : Hid (Bytes w2 w2.heap.size A2 n (n + 3) b) := by
    have := HY2.out.front (k := n) (by omega)
    rw [List.take_left' HL.out] at this
    exact this
  refine (append_any _ g none_ 0 w2.heap.size A2 n (n + 3) b w2 HD2.out ⟨by decide, by decide⟩ HI2.out (Nat.le_refl _) (by omega) (fun x hx => by cases hx)).mono ?_
  rintro e w3 ⟨rfl, hd, ht⟩
  rw [val_o1] at hd ⊢
  dsimp only at hd ⊢
  have hz3 := ht.size
  have hG1 : ∀ i, Out (Out (fun _ => False) w w1) w2 w3 i → w.heap.size ≤ i ∧ i < w3.heap.size := fun i hi => by
    rcases hi with (hi | hi) | hi
    · exact hi.elim
    · omega
    · omega
  have hG2 : ∀ i, (Value.slice A2 (n + 3) c2).ownBlock = some i → ¬ Out (Out (fun _ => False) w w1) w2 w3 i := fun i hi hf => by
    have := HN2.out i hi
    rcases hf with (hf | hf) | hf
    · exact hf.elim
    · omega
    · omega
  have HO3 : Hid (w3.ownsRow w1.heap.size 5 1 (.slice A2 (n + 3) c2) (n + 3) (bv (b ++ [9, 9, 9]))) := own_same HO2.out fun i hi => ht.block i (HN2.out i hi).2 fun hf => by
    have := HN2.out i hi
    rcases hf with hf | hf
    · exact hf.elim
    · omega
  have HB3 : Hid (Below w.heap.size w w3) := HB2.out.trans (ht.below (fun i hi => by rcases hi with hi | hi; exact hi.elim; exact hi.1) HB2.out.size)
  have HY3 : Hid (Bytes w3 w3.heap.size A2 (n + 3) (n + 3) (b ++ [9, 9, 9])) := Row.recap (Bytes.of_own HO3.out) (by omega) (by omega)
  have HD3 := Lib.hid hd
  have HG1 := Lib.hid hG1
  have HG2 := Lib.hid hG2
  clear hd ht hG1 hG2 HO2 HY2 HD2 HB2 HI2
  generalize Out (Out (fun _ => False) w w1) w2 w3 = G at HD3 HG1 HG2
  go_wp2_with fail
  refine (kept8_same _ _ _ _ n c b 9 _ HL.out HY3.out (HR.out.below (HB3.out.mono hB)) (Nat.le_refl _) (Nat.le_trans hB HB3.out.size) hn).mono ?_
  rintro e w4 ⟨rfl, hb⟩
  have hz4 := hb.size
  have HO4 := Lib.hid (own_keep HO3.out hb)
  have HD4 := Lib.hid (HD3.out.new hb)
  have HB4 := Lib.hid (held_two HB3.out hb)
  clear hb HO3 HY3 HD3 HB3
  go_wp2_with fail
  refine (spoil8_own A2 n (n + 3) (n + 3) c2 _ _ w4 HO4.out (by omega) (by omega) (by omega)).mono ?_
  rintro e w5 ⟨rfl, hw⟩
  have hz5 := hw.size
  have HD5 := Lib.hid (HD4.out.spoilt hw HG2.out)
  have HB5 := Lib.hid (HB4.out.trans ((Below.refl _ _).grown hw HB4.out.size fun i hi => by have := HN2.out i hi; omega))
  clear hw HO4 HD4 HB4
  go_wp2_with fail
  refine (read_yes _ g (own1 b) 0 ⟨0, b, 0⟩ _ HD5.out ⟨by omega, by omega⟩ rfl (by dsimp only; rw [HL.out]; omega)).mono ?_
  rintro e w6 ⟨A6, c6, rfl, ho, hb⟩
  dsimp only at ho ⊢
  rw [HL.out] at ho ⊢
  have hz6 := hb.size
  have hc6 := (Row.of_own ho).le
  have HO6 := Lib.hid ho
  have HN6 : Hid (∀ i, (Value.slice A6 n c6).ownBlock = some i → w5.heap.size ≤ i ∧ i < w6.heap.size) := fun i hi => ho.lt i hi
  have HD6 := Lib.hid (HD5.out.new hb)
  have HB6 := Lib.hid (held_two HB5.out hb)
  clear ho hb HD5 HB5
  go_wp2_with fail
  refine (spoil8_own A6 n n c6 c6 _ _ w6 HO6.out (by omega) hc6.1 hc6.2).mono ?_
  rintro e w7 ⟨rfl, hw⟩
  have hz7 := hw.size
  have HD7 := Lib.hid (HD6.out.spoilt hw fun i hi hf => by
    have a := HN6.out i hi
    have b := HG1.out i hf
    omega)
  have HB7 := Lib.hid (HB6.out.trans ((Below.refl _ _).grown hw HB6.out.size fun i hi => by have := HN6.out i hi; omega))
  clear hw HO6 HD6 HB6
  go_wp2_with fail
  refine (read_yes _ g (own1 b) 0 ⟨0, b, 0⟩ _ HD7.out ⟨by omega, by omega⟩ rfl (by dsimp only; rw [HL.out]; omega)).mono ?_
  rintro e w8 ⟨A8, c8, rfl, ho, hb⟩
  dsimp only at ho ⊢
  rw [HL.out] at ho ⊢
  have hz8 := hb.size
  have HY8 : Hid (Bytes w8 w8.heap.size A8 n c8 b) := Bytes.of_own ho
  have HD8 := Lib.hid (HD7.out.new hb)
  have HB8 := Lib.hid (held_two HB7.out hb)
  clear ho hb HD7 HB7
  go_wp2_with fail
  refine (files_any _ g (own1 b) _ HD8.out).mono ?_
  rintro e w9 ⟨A9, c9, rfl, ho, hb⟩
  change w9.ownsRow w8.heap.size 3 1 (.slice A9 1 c9) 1 _ at ho
  rw [show ((own1 b).files.map (·.id)).length = 1 from rfl]
  have hz9 := hb.size
  have hc9 := (Row.of_own ho).le
  have HO9 := Lib.hid ho
  have HN9 : Hid (∀ i, (Value.slice A9 1 c9).ownBlock = some i → w8.heap.size ≤ i ∧ i < w9.heap.size) := fun i hi => ho.lt i hi
  have HY9 := Lib.hid (HY8.out.below hb)
  have HD9 := Lib.hid (HD8.out.new hb)
  have HB9 := Lib.hid (held_two HB8.out hb)
  clear ho hb HD8 HB8 HY8
  go_wp2_with fail
  refine (spoilI_own A9 1 c9 _ _ w9 HO9.out hc9.1 hc9.2).mono ?_
  rintro e w10 ⟨rfl, hw⟩
  have hz10 := hw.size
  have HD10 := Lib.hid (HD9.out.spoilt hw fun i hi hf => by
    have a := HN9.out i hi
    have b := HG1.out i hf
    omega)
  have HY10 := Lib.hid (HY9.out.grown hw hz9 fun i hi => (HN9.out i hi).1)
  have HB10 := Lib.hid (HB9.out.trans ((Below.refl _ _).grown hw HB9.out.size fun i hi => by have := HN9.out i hi; omega))
  clear hw HO9 HD9 HB9 HY9
  go_wp2_with fail
  refine (awake_any _).mono ?_
  rintro e w11 ⟨rfl, hb⟩
  have hz11 := hb.size
  have HD11 := Lib.hid (HD10.out.new hb)
  have HB11 := Lib.hid (held_two HB10.out hb)
  have HY11 := Lib.hid (HY10.out.below (hb.mono (by omega)))
  clear hb HD10 HB10 HY10
  go_wp2_with fail
  refine (bytes_same _ _ _ _ n c8 n c b _ HY11.out (HR.out.below (HB11.out.mono hB))).mono ?_
  rintro e w12 ⟨rfl, rfl⟩
  go_wp2_with fail
  refine (files_any _ g (own1 b) _ HD11.out).mono ?_
  rintro e w12 ⟨A12, c12, rfl, ho, hb⟩
  change w12.ownsRow w11.heap.size 3 1 (.slice A12 1 c12) 1 _ at ho
  rw [show ((own1 b).files.map (·.id)).length = 1 from rfl]
  have HO12 : Hid (Row w12 w12.heap.size 1 A12 1 c12 (iv [0])) := Row.of_own ho
  have HB12 := Lib.hid (held_two HB11.out hb)
  clear ho hb HD11 HB11
  go_wp2_with fail
  refine (plainI_same w12.heap.size (w12.heap.size + 1) A12 _ 1 c12 1 [0] _ (HO12.out.alloc (Nat.le_refl _) _) (Row.lit w12 #[.int .i64 0] _ (0, 0) rfl rfl (by omega)) (by simp) (by simp)).mono ?_
  rintro e w13 ⟨rfl, hb⟩
  have HB13 := Lib.hid (held_two (HB12.out.alloc HB12.out.size _) hb)
  clear hb
  go_wp2
  go_ret
  exact ⟨rfl, HB13.out⟩
end Go.Proofs.Ythjdankeopfkaaa.Disk
