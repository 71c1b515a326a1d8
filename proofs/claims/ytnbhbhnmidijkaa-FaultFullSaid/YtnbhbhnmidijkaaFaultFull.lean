/-
  The walk of the statement FaultFull.
-/
import Derived.Test.YtnbhbhnmidijkaaFaultLaw
namespace Go.Proofs.Ytnbhbhnmidijkaa.Flt
set_option linter.unusedVariables false
set_option maxRecDepth 100000
open Go.RowKit Base FaultMath Foot
open Go.Proofs.Ytnbhbhnmidijkaa.Field (modZ modZ_lt mod_any)
set_option linter.ambiguousOpen false
set_option linter.unusedSimpArgs false

def lo : Ft := ⟨3, 0⟩
def mixF (k n : Nat) : List Ft := List.replicate k lo ++ List.replicate (n - k) noFt
theorem mixF_length {k n : Nat} (h : k ≤ n) : (mixF k n).length = n := by unfold mixF; rw [List.length_append, List.length_replicate, List.length_replicate]; omega
theorem mixF_set {k n : Nat} (h : k < n) : (mixF k n).set k lo = mixF (k + 1) n := by
  unfold mixF
  rw [List.set_append_right _ _ (by rw [List.length_replicate]; omega), List.length_replicate, Nat.sub_self]
  obtain ⟨q, hq⟩ : ∃ q, n - k = q + 1 := ⟨n - k - 1, by omega⟩
  rw [hq, List.replicate_succ, List.set_cons_zero, List.replicate_succ', List.append_assoc, show n - (k + 1) = q by omega]
  rfl
theorem mixF_all (n : Nat) : mixF n n = lost n := by unfold mixF lost; rw [Nat.sub_self]; simp [lo]
theorem mixF_none (n : Nat) : mixF 0 n = List.replicate n noFt := by unfold mixF; simp
theorem made_fts (k : Nat) : (madeCells #[.int .i64 0, .int .i64 0] (k * 2)).toList = fv (List.replicate k noFt) := by
  apply List.ext_getElem?
  intro j
  by_cases hj : j < k * 2
  · have h1 : (List.replicate k noFt)[j / 2]? = some noFt := by rw [List.getElem?_replicate, if_pos (by omega)]
    obtain ⟨h2, h3⟩ := fv_get _ _ _ h1
    have h4 : j % 2 < 2 := by omega
    rcases (show j % 2 = 0 ∨ j % 2 = 1 by omega) with e | e
    · rw [show j / 2 * 2 = j by omega] at h2
      rw [h2]
      simp [madeCells, hj, e]
      rfl
    · rw [show j / 2 * 2 + 1 = j by omega] at h3
      rw [h3]
      simp [madeCells, hj, e]
      rfl
  · rw [List.getElem?_eq_none (by rw [Array.length_toList, size_madeCells]; omega), List.getElem?_eq_none (by rw [fv_length, List.length_replicate]; omega)]
theorem own_blk {w : World} {base g n : Nat} {xs : List Value} (h : w.ownsRow base 23 2 (.slice (some ⟨g, 0, none⟩) n n) n xs) : Blk w g 23 xs.toArray := by
  rcases h.2 with ⟨hv, _⟩ | ⟨g', cap, cur, hv, hb, hg, h1, h2, h3, h4⟩
  · cases hv
  · simp only [Value.slice.injEq, Option.some.injEq, Addr.mk.injEq] at hv
    obtain ⟨⟨rfl, _⟩, _, rfl⟩ := hv
    have e : cur = xs.toArray := by
      rw [← h4, List.take_of_length_le (by rw [Array.length_toList, h3]; exact Nat.le_refl _)]
    unfold Blk
    rw [hg, e]
theorem Fts.of_blk {w : World} {g n : Nat} {l : List Ft} (h : Blk w g 23 (fv l).toArray) (hl : l.length = n) (hn : n ≤ 9223372036854775807) : Fts w w.heap.size (some ⟨g, 0, none⟩) n n l :=
  ⟨by rw [fv_length, hl], Nat.le_refl _, hn, fun _ => ⟨g, 0, rfl, h.lt, fun j u hu => by rw [Nat.zero_add, h.cell]; simpa using hu⟩⟩
def MkRel (w : World) (g n : Nat) (vi : Value) (wr : World) : Prop := ∃ k : Nat, k ≤ n ∧ vi = .int .i64 k ∧ Blk wr g 23 (fv (mixF k n)).toArray ∧ Below g w wr
set_option maxHeartbeats 3200000 in
theorem make1_any (n : Nat) (w : World) (hn : n ≤ 1099511627776) : Calls Try.prog 16 #[.int .i64 n] w fun e w' => e = .returned (.slice (some ⟨w.heap.size, 0, none⟩) n n) ∧ Fts w' w'.heap.size (some ⟨w.heap.size, 0, none⟩) n n (lost n) ∧ Below w.heap.size w w' := by
  go_enter Try.func16, Try.ntmps16
  go_wp2_with (first
    | (refine wpList_make_elem _ rfl (.tmp 5) (.tmp 5) rfl fel w.heap.size .i64 .i64 _ _ n rfl rfl rfl rfl (by omega) (by omega) (Nat.le_refl _) ?_
       intro w1 ho1 hb1
       replace ho1 : w1.ownsRow w.heap.size 23 2 (.slice (some ⟨w.heap.size, 0, none⟩) n n) n (madeCells #[.int .i64 0, .int .i64 0] (n * 2)).toList := ho1
       rw [made_fts, ← mixF_none] at ho1
       have HO := Lib.hid (own_blk ho1)
       have HB := Lib.hid hb1
       clear ho1 hb1)
    | fail)
  obtain ⟨g, hg⟩ : ∃ g, g = w.heap.size := ⟨_, rfl⟩
  rw [← hg] at HO HB ⊢
  have HG := Lib.hid hg
  clear hg
  go_loopw [4] (fun vi wr => MkRel w g n vi wr) (fun vi _ => n - (intOf vi).toNat)
  case atStart => exact ⟨0, Nat.zero_le _, rfl, HO.out, HB.out⟩
  case round =>
    obtain ⟨k, hk, rfl, hb, hbel⟩ := hrel
    have HBK := Lib.hid hb
    have HBL := Lib.hid hbel
    have hgl := hb.lt
    by_cases hkn : k < n
    · have l1 : (k : Int) < (n : Int) := by omega
      have hlen : (fv (mixF k n)).length = n * 2 := by rw [fv_length, mixF_length hk]
      have c0 : wr.cell? ⟨g, k * 2, none⟩ = some (fv (mixF k n))[k * 2] := by rw [hb.cell]; simp
      have c1 : wr.cell? ⟨g, k * 2 + 1, none⟩ = some (fv (mixF k n))[k * 2 + 1] := by rw [hb.cell]; simp
      have f0 := hb.frozen (k * 2)
      have f1 := hb.frozen (k * 2 + 1)
      have hb2 := (hb.set_ (k * 2) (.int .i64 3)).set_ (k * 2 + 1) (.int .i64 0)
      rw [List.setIfInBounds_toArray, List.setIfInBounds_toArray, show ((fv (mixF k n)).set (k * 2) (.int .i64 3)).set (k * 2 + 1) (.int .i64 0) = fv (mixF (k + 1) n) by rw [← mixF_set hkn, fv_set]; rfl] at hb2
      have HB2 := Lib.hid hb2
      generalize (fv (mixF k n))[k * 2] = z0 at c0
      generalize (fv (mixF k n))[k * 2 + 1] = z1 at c1
      clear hb hbel hb2 hlen
      go_wp2
      go_roundw
      case rel => exact ⟨k + 1, by omega, by go_num, HB2.out, (HBL.out.setCell (by exact Nat.le_refl _) _).setCell (by exact Nat.le_refl _) _⟩
      case measure => simp [intOf]; omega
    · obtain rfl : k = n := by omega
      have l1 : ¬ (k : Int) < (k : Int) := by omega
      clear hb hbel
      go_wp2
      go_ret
      rw [← HG.out]
      exact ⟨rfl, by have := HBK.out; rw [mixF_all] at this; exact Fts.of_blk this (by unfold lost; simp) (by omega), HBL.out⟩
theorem lost_one {k : Nat} (h : k ≤ 1024) : (push [] (lost k)).length = k := by
  rw [push_lost [] k (by simp)]
  simp
  omega
set_option maxHeartbeats 6400000 in
theorem full_walk (n m : Int) (w : World) : Calls Try.prog 5 #[.int .i64 n, .int .i64 m] w fun e w' => e = .returned (.bool true) ∧ Below w.heap.size w w' := by
  have HM := Lib.hid (fun w => mod_any n 1025 w (by omega) (by omega))
  have HJ := Lib.hid (fun w => mod_any m 1200 w (by omega) (by omega))
  have hk := modZ_lt n (n := 1025) (by omega)
  have hj := modZ_lt m (n := 1200) (by omega)
  generalize modZ n 1025 = k at HM hk
  generalize modZ m 1200 = j at HJ hj
  go_enter Try.func5, Try.ntmps5
  go_wp2_with fail
  refine (new_any w).mono ?_
  rintro e w1 ⟨rfl, hw1⟩
  have hp := plan_new w
  rw [← hw1] at hp
  have hb1 : Below w.heap.size w w1 := by rw [hw1]; exact (Below.refl _ _).alloc (Nat.le_refl _) _
  have hz1 : w.heap.size < w1.heap.size := by rw [hw1]; simp
  obtain ⟨F, hF⟩ : ∃ F, F = Out (fun _ => False) w w1 := ⟨_, rfl⟩
  have hFi : ∀ i, F i → w.heap.size ≤ i ∧ i < w1.heap.size := fun i hi => out_none (by rw [← hF]; exact hi)
  rw [← hF] at hp
  have HP := Lib.hid hp
  have HB1 := Lib.hid hb1
  have HF := Lib.hid hFi
  obtain ⟨g, hg⟩ : ∃ g, g = w.heap.size := ⟨_, rfl⟩
  rw [← hg] at HP hz1 ⊢
  have HG := Lib.hid hg
  clear hp hb1 hFi hF hw1 hg
  go_wp2_with fail
  refine (HM.out _).mono ?_
  rintro e wz ⟨rfl, rfl⟩
  go_wp2_with fail
  refine (HJ.out _).mono ?_
  rintro e wz ⟨rfl, rfl⟩
  go_wp2_with fail
  refine (make1_any k w1 (by omega)).mono ?_
  rintro e w2 ⟨rfl, hl2, hb2⟩
  have HL2 := Lib.hid hl2
  have HP2 := Lib.hid (HP.out.below hb2)
  have hz2 := hb2.size
  have HB2 := Lib.hid (held_two HB1.out hb2)
  clear hl2 hb2
  go_wp2_with fail
  refine (push_any F g _ _ k k [] _ w2 HP2.out HL2.out (Nat.le_refl _) (off_new (fun i hi => (HF.out i hi).2) (Nat.le_refl _))).mono ?_
  rintro e w3 ⟨rfl, hp3, ht3⟩
  have hl1 := lost_one (k := k) (by omega)
  obtain ⟨l1, hl1e⟩ : ∃ l1, l1 = push [] (lost k) := ⟨_, rfl⟩
  rw [← hl1e] at hl1 hp3 ⊢
  rw [show l1.length - ([] : List Ft).length = k from by rw [hl1]; rfl]
  have HL1 := Lib.hid hl1
  have HB3 : Hid (Below w.heap.size w w3) := Lib.hid (HB2.out.trans (ht3.below (fun i hi => (HF.out i hi).1) HB2.out.size))
  have HP3 := Lib.hid hp3
  have hz3 := ht3.size
  have HF3 : Hid (∀ i, Out F w2 w3 i → w.heap.size ≤ i ∧ i < w3.heap.size) := fun i hi => by
    rcases hi with hi | hi
    · have := HF.out i hi; omega
    · have := HB2.out.size; omega
  generalize Out F w2 w3 = F3 at HP3 HF3
  clear hp3 ht3 hl1 hl1e
  go_wp2_with fail
  refine (make1_any j w3 (by omega)).mono ?_
  rintro e w4 ⟨rfl, hl4, hb4⟩
  have HL4 := Lib.hid hl4
  have HP4 := Lib.hid (HP3.out.below hb4)
  have hz4 := hb4.size
  have HB4 := Lib.hid (held_two HB3.out hb4)
  clear hl4 hb4
  go_wp2_with fail
  refine (push_any F3 g _ _ j j l1 _ w4 HP4.out HL4.out (Nat.le_refl _) (off_new (fun i hi => (HF3.out i hi).2) (Nat.le_refl _))).mono ?_
  rintro e w5 ⟨rfl, hp5, ht5⟩
  have hl2 := push_lost l1 j (by rw [HL1.out]; omega)
  obtain ⟨l2, hl2e⟩ : ∃ l2, l2 = push l1 (lost j) := ⟨_, rfl⟩
  rw [← hl2e] at hl2 hp5 ⊢
  rw [HL1.out] at hl2 ⊢
  have HB5 : Hid (Below w.heap.size w w5) := Lib.hid (HB4.out.trans (ht5.below (fun i hi => (HF3.out i hi).1) HB4.out.size))
  have HP5 := Lib.hid hp5
  by_cases hjk : j ≤ 1024 - k
  · have e2 : l2.length = k + j := by rw [hl2]; omega
    rw [e2, show k + j - k = j by omega]
    have HL5 := Lib.hid e2
    have l1' : ¬ (1024 - (k : Int)) < (j : Int) := by omega
    clear hp5 ht5 hl2 hl2e e2
    go_wp2_with fail
    refine (awake_any w5).mono ?_
    rintro e w6 ⟨rfl, hb6⟩
    have HB6 := Lib.hid (held_two HB5.out hb6)
    have HP6 := Lib.hid (HP5.out.below hb6)
    clear hb6
    go_wp2_with fail
    refine (len_any _ g l2 w6 HP6.out).mono ?_
    rintro e w7 ⟨rfl, rfl⟩
    rw [HL5.out]
    go_wp2
    go_ret
    exact ⟨rfl, HB6.out⟩
  · obtain ⟨d, hd⟩ : ∃ d, d = 1024 - k := ⟨_, rfl⟩
    have e2 : l2.length = 1024 := by rw [hl2]; omega
    rw [e2, ← hd]
    have HL5 := Lib.hid e2
    have d1 : 1024 - (k : Int) = (d : Int) := by omega
    have d2 : (k : Int) + (d : Int) = 1024 := by omega
    have l1' : (d : Int) < (j : Int) := by omega
    have hdk : d ≤ 1024 := by omega
    have hw1 : IntKind.i64.wrap (1024 - (k : Int)) = (d : Int) := by rw [IntWalk.i64_in _ (by omega)]; exact d1
    have hw2 : IntKind.i64.wrap ((k : Int) + (d : Int)) = 1024 := by rw [IntWalk.i64_in _ (by omega)]; exact d2
    clear hp5 ht5 hl2 hl2e e2 hd
    go_wp2_with fail
    refine (awake_any w5).mono ?_
    rintro e w6 ⟨rfl, hb6⟩
    have HB6 := Lib.hid (held_two HB5.out hb6)
    have HP6 := Lib.hid (HP5.out.below hb6)
    clear hb6
    go_wp2_with fail
    refine (len_any _ g l2 w6 HP6.out).mono ?_
    rintro e w7 ⟨rfl, rfl⟩
    rw [HL5.out]
    go_wp2
    go_ret
    exact ⟨rfl, HB6.out⟩
end Go.Proofs.Ytnbhbhnmidijkaa.Flt
