/-
  Contracts of package batch's joined and Join: it answers what the plain mathematics says of the items.
-/
import Derived.Test.YtlkjmdkmcaaihaaBtJoin
import Derived.Test.YtlkjmdkmcaaihaaBtGather
import Derived.Test.YtlkjmdkmcaaihaaBtItem
namespace Go.Proofs.Ytlkjmdkmcaaihaa.Bt
set_option linter.unusedVariables false
set_option maxRecDepth 100000
open Go.RowKit Base FieldMath TxnMath BatchMath
open GuardMath (Gp noGp)
open Gd (Gps ov ov_append ov_one ov_length ocells oval oel)
open Go.Proofs.Ytlkjmdkmcaaihaa.Field (ret_bool empty_iff)
set_option linter.ambiguousOpen false
set_option linter.unusedSimpArgs false

/-- items on their way to one: the joined one's block p, its rows behind block base -/
def JSt (w : World) (base p : Nat) (L : Int) (l : List It) (wr : World) : Prop := ∃ A N c A' N' c', Blk wr p 25 #[.int .i64 L, .slice A N c, .slice A' N' c'] ∧
  (allOps l).length = N ∧ (allNotes l).length = N' ∧ wr.ownsRow base 29 5 (.slice A N c) N (ov (allOps l)) ∧ wr.ownsRow base 27 7 (.slice A' N' c') N' (ntv (allNotes l)) ∧ Blk wr w.heap.size 25 itz ∧ Below w.heap.size w wr
def JRel (w : World) (base p : Nat) (L : Int) (l : List It) (n : Nat) (i : Value) (wr : World) : Prop := ∃ k : Nat, k ≤ n ∧ i = .int .i64 k ∧ JSt w base p L (l.take k) wr
theorem take_len {α : Type} {f : It → List α} (l : List It) (k : Nat) : ((l.take k).flatMap f).length ≤ (l.flatMap f).length := by
  have : l.flatMap f = (l.take k).flatMap f ++ (l.drop k).flatMap f := by rw [← List.flatMap_append, List.take_append_drop]
  rw [this, List.length_append]
  omega
set_option maxHeartbeats 6400000 in
theorem joined_any (B : Nat) (A : Option Addr) (n c : Nat) (l : List It) (w : World) (h : Its w B A n c l) (hB : B ≤ w.heap.size) (hn1 : 1 ≤ n) (h1 : (allOps l).length ≤ 4096) (h2 : (allNotes l).length ≤ 256) :
    Calls Try.prog 50 #[.slice A n c] w fun e w' => ∃ A1 n1 c1 A2 n2 c2, e = .returned (itv (lastLsn 0 l) A1 n1 c1 A2 n2 c2) ∧ ItOwn w' w.heap.size ⟨lastLsn 0 l, allOps l, allNotes l⟩ A1 n1 c1 A2 n2 c2 ∧ Below w.heap.size w w' := by
  have hle := h.le
  have HL := Lib.hid h.len
  have HR := Lib.hid h
  have HS1 := Lib.hid h1
  have HS2 := Lib.hid h2
  obtain ⟨m, rfl⟩ : ∃ m, n = m + 1 := ⟨n - 1, by omega⟩
  obtain ⟨b, off, x, rfl, hb, hget, htake, A1, n1, c1, A2, n2, c2, x0, x1, x2, hos, hns⟩ := h.at_ (k := m) (by omega)
  have hbw : b < w.heap.size := by omega
  have hbs : b ≠ w.heap.size := by omega
  have hsb : w.heap.size ≠ b := by omega
  have HLA : Hid (lastLsn 0 l = x.lsn) := by
    show _ = _
    have hl : l = l.take m ++ [x] := by rw [← htake, List.take_of_length_le (by rw [HL.out]; omega)]
    rw [hl, lastLsn_snoc]
  clear h h1 h2 hget htake hos hns x1 x2
  rw [HLA.out]
  generalize x.lsn = L at *
  have w1 : IntKind.i64.wrap (((m + 1 : Nat) : Int) - 1) = (m : Int) := by rw [IntWalk.i64_in _ (by omega)]; omega
  have w2 : ((m + 1 : Nat) : Int) - 1 = (m : Int) := by omega
  have w3 : IntKind.i64.wrap ((m : Int) + 1 - 1) = (m : Int) := by rw [IntWalk.i64_in _ (by omega)]; omega
  have l3 : (m : Int) < (m : Int) + 1 := by omega
  have l1 : (m : Int) < ((m + 1 : Nat) : Int) := by omega
  go_enter Try.func50, Try.ntmps50
  have HX0 : Hid (Blk (w.alloc (.cells itz 25)) w.heap.size 25 itz) := Blk.new _ _ _
  have HB0 : Hid (Below w.heap.size w (w.alloc (.cells itz 25))) := (Below.refl _ _).alloc (Nat.le_refl _) _
  have HJ0 : Hid (JSt w (w.heap.size + 2) (w.heap.size + 1) L [] ((w.alloc (.cells itz 25)).alloc (.cells #[.int .i64 L, .slice none 0 0, .slice none 0 0] 25))) :=
    ⟨none, 0, 0, none, 0, 0, by have := Blk.new (w.alloc (.cells itz 25)) 25 #[.int .i64 L, .slice none 0 0, .slice none 0 0]; simpa using this, rfl, rfl, World.ownsRow_nil _ _ _ _, World.ownsRow_nil _ _ _ _, HX0.out.alloc _, HB0.out.alloc HB0.out.size _⟩
  go_wp2
  go_loopw [16] (fun i wr => JRel w (w.heap.size + 2) (w.heap.size + 1) L l (m + 1) i wr) (fun i _ => m + 1 - (intOf i).toNat)
  case atStart => exact ⟨0, Nat.zero_le _, rfl, HJ0.out⟩
  case round =>
    obtain ⟨k, hk, rfl, A3, N3, c3, A4, N4, c4, hbx, hN3, hN4, ho3, ho4, hres, hbel⟩ := hrel
    have HX := Lib.hid hbx
    have HO3 := Lib.hid ho3
    have HO4 := Lib.hid ho4
    have HRS := Lib.hid hres
    have HB := Lib.hid hbel
    have HN3 := Lib.hid hN3
    have HN4 := Lib.hid hN4
    have hz2 : w.heap.size + 2 ≤ wr.heap.size := hbx.lt
    clear hbx hN3 hN4 ho3 ho4 hres hbel HJ0 x0
    by_cases hlt : k < m + 1
    · obtain ⟨b', off', x, he, hb', hget, htake, A5, n5, c5, A6, n6, c6, x0, x1, x2, hos, hns⟩ := (HR.out.below (HB.out.mono hB)).at_ hlt
      obtain ⟨rfl, rfl, _⟩ : b = b' ∧ off = off' ∧ True := by injection he with he; injection he with e1 e2; exact ⟨e1, e2, trivial⟩
      have h5 := hos.len
      have h6 := hns.len
      have HT1 := Lib.hid (show allOps (l.take (k + 1)) = allOps (l.take k) ++ x.ops by rw [htake, allOps_snoc])
      have HT2 := Lib.hid (show allNotes (l.take (k + 1)) = allNotes (l.take k) ++ x.notes by rw [htake, allNotes_snoc])
      have hb5 : N3 + n5 ≤ 4096 := by
        have h9 := take_len (f := (·.ops)) l (k + 1)
        have h8 : (allOps (l.take (k + 1))).length ≤ (allOps l).length := h9
        rw [HT1.out, List.length_append, HN3.out, h5] at h8
        exact Nat.le_trans h8 HS1.out
      have hb6 : N4 + n6 ≤ 256 := by
        have h9 := take_len (f := (·.notes)) l (k + 1)
        have h8 : (allNotes (l.take (k + 1))).length ≤ (allNotes l).length := h9
        rw [HT2.out, List.length_append, HN4.out, h6] at h8
        exact Nat.le_trans h8 HS2.out
      have HG1 := Lib.hid hos
      have HG2 := Lib.hid hns
      have H5 := Lib.hid h5
      have H6 := Lib.hid h6
      have hBr : B ≤ wr.heap.size := Nat.le_trans hB HB.out.size
      have k1 : wr.cell? ⟨w.heap.size + 1, 1, none⟩ = some (.slice A3 N3 c3) := HX.out.cell 1
      have k2 : wr.cell? ⟨w.heap.size + 1, 2, none⟩ = some (.slice A4 N4 c4) := HX.out.cell 2
      have fz1 := HX.out.frozen 1
      have lk : (k : Int) < ((m + 1 : Nat) : Int) := by omega
      have HY : Hid (Blk (wr.alloc (.cells #[.int .i64 x.lsn, .slice A5 n5 c5, .slice A6 n6 c6] 25)) wr.heap.size 25 #[.int .i64 x.lsn, .slice A5 n5 c5, .slice A6 n6 c6]) := Blk.new _ _ _
      have hz3 : w.heap.size + 1 < wr.heap.size := by omega
      have hz4 : w.heap.size + 1 ≠ wr.heap.size := by omega
      have hz5 : wr.heap.size ≠ w.heap.size + 1 := by omega
      have hne3 : (Value.slice A3 N3 c3).ownBlock ≠ some wr.heap.size := fun e => by have := (HO3.out.lt _ e).2; omega
      clear he hget htake h5 h6 hos hns
      go_wp2_with (first
        | (at_builtin
           refine wpList_append_row rfl (.tmp 21) (.tmp 23) rfl oel (w.heap.size + 2) _ N3 (ov (allOps (l.take k))) rfl (own_keep HO3.out ((Below.refl _ _).alloc (Nat.le_refl _) _)) B A5 n5 c5 (ov x.ops) rfl (HG1.out.alloc hBr _) (ov_one _) (by omega) (by omega) (by simp; omega) ?_
           intro A7 c7 w7 hown7 hg7 hb7
           rw [← ov_append, ← HT1.out] at hown7
           have HO7 := Lib.hid hown7
           have HP7 := Lib.hid ((own_keep HO4.out ((Below.refl _ _).alloc (Nat.le_refl _) (.cells #[.int .i64 x.lsn, .slice A5 n5 c5, .slice A6 n6 c6] 25))).kept hg7.1 (own_types HO4.out HO3.out (by decide)))
           have HX7 := Lib.hid ((HX.out.alloc (.cells #[.int .i64 x.lsn, .slice A5 n5 c5, .slice A6 n6 c6] 25)).below hb7 (by omega))
           have HR7 := Lib.hid ((HRS.out.alloc (.cells #[.int .i64 x.lsn, .slice A5 n5 c5, .slice A6 n6 c6] 25)).below hb7 (by omega))
           have HB7 := Lib.hid ((held_alloc HB.out (.cells #[.int .i64 x.lsn, .slice A5 n5 c5, .slice A6 n6 c6] 25)).trans (hb7.mono (by omega)))
           have HY7 := Lib.hid (bx_grew (W := wr) (base := w.heap.size + 2) hb7 hg7 hne3 HY.out ((Below.refl _ _).alloc hz2 _)).1
           have hz7 : wr.heap.size < w7.heap.size := HY7.out.lt
           have e1 : w7.cell? ⟨w.heap.size + 1, 1, none⟩ = some (.slice A3 N3 c3) := HX7.out.cell 1
           have e2 : w7.cell? ⟨w.heap.size + 1, 2, none⟩ = some (.slice A4 N4 c4) := HX7.out.cell 2
           have e3 : w7.cell? ⟨wr.heap.size, 2, none⟩ = some (.slice A6 n6 c6) := HY7.out.cell 2
           have fe1 := HX7.out.frozen 1
           have fe2 := HX7.out.frozen 2
           have hne1 : w.heap.size + 1 ≠ wr.heap.size := by omega
           have hne2 : wr.heap.size ≠ w.heap.size + 1 := by omega
           have HG7 := Lib.hid ((HG2.out.alloc hBr (.cells #[.int .i64 x.lsn, .slice A5 n5 c5, .slice A6 n6 c6] 25)).below (hb7.mono (by omega)))
           clear hown7 hg7 hb7 x0 x1 x2 k1 k2)
        | (at_builtin
           refine wpList_append_row rfl (.tmp 27) (.tmp 29) rfl ntel (w.heap.size + 2) _ N4 (ntv (allNotes (l.take k))) rfl (HP7.out.kept (only_setCell (World.grownBy.refl _ (some (w.heap.size + 1))) (.inl rfl) _) (.inr fun e => by have := (HP7.out.lt _ e).1; omega)) B A6 n6 c6 (ntv x.notes) rfl (HG7.out.setCell (by show B ≤ w.heap.size + 1; omega) _) (ntv_one _) (by omega) (by omega) (by simp; omega) ?_
           intro A8 c8 w8 hown8 hg8 hb8
           rw [← ntv_append, ← HT2.out] at hown8
           have HO8 := Lib.hid hown8
           have HP8 := Lib.hid ((HO7.out.kept (only_setCell (World.grownBy.refl _ (some (w.heap.size + 1))) (.inl rfl) (.slice A7 (N3 + n5) c7)) (.inr fun e => by have := (HO7.out.lt _ e).1; omega)).kept hg8.1 (own_types HO7.out HP7.out (by decide)))
           have HX8 : Hid (Blk w8 (w.heap.size + 1) 25 #[.int .i64 L, .slice A7 (N3 + n5) c7, .slice A4 N4 c4]) := (HX7.out.set_ 1 (.slice A7 (N3 + n5) c7)).below hb8 (by omega)
           have HR8 := Lib.hid ((HR7.out.far (p := ⟨w.heap.size + 1, 1, none⟩) (by simp) (.slice A7 (N3 + n5) c7)).below hb8 (by omega))
           have HB8 := Lib.hid ((HB7.out.setCell (p := ⟨w.heap.size + 1, 1, none⟩) (by simp) (.slice A7 (N3 + n5) c7)).trans (hb8.mono (by omega)))
           have e8 : w8.cell? ⟨w.heap.size + 1, 2, none⟩ = some (.slice A4 N4 c4) := HX8.out.cell 2
           have fe8 := HX8.out.frozen 2
           clear hown8 hg8 hb8)
        | fail)
      go_roundw
      case rel =>
        refine ⟨k + 1, by omega, by go_num, A7, N3 + n5, c7, A8, N4 + n6, c8, HX8.out.set_ 2 _, by rw [HT1.out, List.length_append, HN3.out, H5.out], by rw [HT2.out, List.length_append, HN4.out, H6.out], ?_, ?_, HR8.out.far (by simp) _, HB8.out.setCell (by simp) _⟩
        · exact HP8.out.kept (only_setCell (World.grownBy.refl _ (some (w.heap.size + 1))) (.inl rfl) _) (.inr fun e => by have := (HP8.out.lt _ e).1; omega)
        · exact HO8.out.kept (only_setCell (World.grownBy.refl _ (some (w.heap.size + 1))) (.inl rfl) _) (.inr fun e => by have := (HO8.out.lt _ e).1; omega)
      case measure => simp [intOf]; omega
    · have hlk : l.take k = l := List.take_of_length_le (by rw [HL.out]; omega)
      rw [hlk] at HO3 HO4
      have p0 : wr.cell? ⟨w.heap.size + 1, 0, none⟩ = some (.int .i64 L) := HX.out.cell 0
      have p1 : wr.cell? ⟨w.heap.size + 1, 1, none⟩ = some (.slice A3 N3 c3) := HX.out.cell 1
      have p2 : wr.cell? ⟨w.heap.size + 1, 2, none⟩ = some (.slice A4 N4 c4) := HX.out.cell 2
      have q0 : wr.cell? ⟨w.heap.size, 0, none⟩ = some (.int .i64 0) := HRS.out.cell 0
      have q1 : wr.cell? ⟨w.heap.size, 1, none⟩ = some (.slice none 0 0) := HRS.out.cell 1
      have q2 : wr.cell? ⟨w.heap.size, 2, none⟩ = some (.slice none 0 0) := HRS.out.cell 2
      have r0 := HRS.out.frozen 0
      have r1 := HRS.out.frozen 1
      have r2 := HRS.out.frozen 2
      have lk : ¬ (k : Int) < ((m + 1 : Nat) : Int) := by omega
      go_wp2
      have hon := three_on wr w.heap.size (.int .i64 L) (.slice A3 N3 c3) (.slice A4 N4 c4)
      refine bodyPost_ret (v := itv L A3 N3 c3 A4 N4 c4) (by simp [itv, results, Try.results50, go_sem, q0, q1, q2]) rfl ⟨A3, N3, c3, A4, N4, c4, rfl, ⟨?_, ?_⟩, ?_⟩
      · exact own_mono (HO3.out.kept hon (.inr fun e => by have := (HO3.out.lt _ e).1; omega)) (by omega)
      · exact own_mono (HO4.out.kept hon (.inr fun e => by have := (HO4.out.lt _ e).1; omega)) (by omega)
      · exact ((HB.out.setCell (by exact Nat.le_refl _) _).setCell (by exact Nat.le_refl _) _).setCell (by exact Nat.le_refl _) _
end Go.Proofs.Ytlkjmdkmcaaihaa.Bt
