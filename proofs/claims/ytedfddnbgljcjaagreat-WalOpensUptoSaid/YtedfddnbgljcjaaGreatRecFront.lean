/-
  Contract of package rec's front: the record at the front of bytes, or what is wrong with them first.
-/
import Derived.Test.YtedfddnbgljcjaaGreatRecNums
namespace Go.Proofs.YtedfddnbgljcjaaGreat.Rec
set_option maxRecDepth 100000
open Go.RowKit Base FieldMath RecMath
open Go.Proofs.YtedfddnbgljcjaaGreat.Field
set_option linter.ambiguousOpen false

/-- what front answers -/
def Front (w : World) (B : Nat) (r : Except Nat (List UInt8)) (e : Ending) (w' : World) : Prop :=
  (∃ k, r = .error k ∧ e = .returned (.tuple #[.agg #[.slice none 0 0, .int .u32 0], .int .i64 (k : Nat)]) ∧ Below w.heap.size w w') ∨
  (∃ p A c x, r = .ok p ∧ e = .returned (.tuple #[.agg #[.slice A p.length c, .int .u32 x], .int .i64 0]) ∧ Bytes w' B A p.length c p ∧ Below w.heap.size w w')

set_option maxHeartbeats 800000 in
theorem front_any (B : Nat) (A : Option Addr) (n c : Nat) (l : List UInt8) (w : World) (hr : Bytes w B A n c l) (hB : B ≤ w.heap.size) :
    Calls Tryz.prog 131 #[.slice A n c] w (Front w B (tk l)) := by
  have hlen := hr.len
  have hle := hr.le
  by_cases h8 : n < 8
  · have HE := Lib.hid (tk_short (b := l) (by omega))
    clear hr hlen
    go_enter Tryz.func131, Tryz.ntmps131
    go_wp2
    refine bodyPost_ret (v := .tuple #[.agg #[.slice none 0 0, .int .u32 0], .int .i64 2]) (by simp [results, Tryz.results131, go_sem]) rfl (.inl ⟨2, HE.out, rfl, ?_⟩)
    exact (Below.refl w.heap.size w).alloc (Nat.le_refl _) _
  · obtain ⟨b, off, rfl, hb, _⟩ := hr.2.2.2 (by omega)
    have HL := Lib.hid hlen
    have hx := num4_lt (r := l) (by omega)
    have H4 := Lib.hid (hr.front (k := 4) (by omega))
    have HR := Lib.hid hr
    clear hr hlen
    generalize hy : num (l.take 4) = y at hx
    have HY := Lib.hid hy
    clear hy
    by_cases hbig : 1048576 < y
    · have HE := Lib.hid (tk_long (b := l) (by rw [HL.out]; omega) (by rw [HY.out]; exact hbig))
      go_enter Tryz.func131, Tryz.ntmps131
      go_wp2_with fail
      refine (recnum_any B _ 4 c (l.take 4) _ (H4.out.alloc hB _) (by omega)).mono ?_
      rintro e w1 ⟨rfl, rfl⟩
      rw [HY.out]
      go_wp2
      refine bodyPost_ret (v := .tuple #[.agg #[.slice none 0 0, .int .u32 0], .int .i64 3]) (by simp [results, Tryz.results131, go_sem]) rfl (.inl ⟨3, HE.out, rfl, ?_⟩)
      exact (Below.refl w.heap.size w).alloc (Nat.le_refl _) _
    · have hsm : y ≤ 1048576 := by omega
      clear hbig
      have hc4 : ¬ c = 4 := by omega
      have hsl : ∀ w, (Instr.sliceAt 31 (.slice (some ⟨b, off, none⟩) n c) (some (.int .i64 8)) none none).run Tryz.prog w = .ok (.slice (cutAt (some ⟨b, off, none⟩) c 8) (n - 8) (c - 8)) w := fun w => run_cut w _ n c 8 (by omega)
      have HD := Lib.hid (HR.out.cut (k := 8) (by omega))
      generalize cutAt (some ⟨b, off, none⟩) c 8 = Ar at hsl HD
      by_cases hlk : n - 8 < y
      · have hlk2 : ((n - 8 : Nat) : Int) < y := by omega
        have HE := Lib.hid (tk_lacks (b := l) (by rw [HL.out]; omega) (by rw [HY.out]; exact hsm) (by rw [HY.out, HL.out]; exact hlk))
        clear hlk
        go_enter Tryz.func131, Tryz.ntmps131
        go_wp2_with fail
        refine (recnum_any B _ 4 c (l.take 4) _ (H4.out.alloc hB _) (by omega)).mono ?_
        rintro e w1 ⟨rfl, rfl⟩
        rw [HY.out]
        go_wp2
        refine bodyPost_ret (v := .tuple #[.agg #[.slice none 0 0, .int .u32 0], .int .i64 2]) (by simp [results, Tryz.results131, go_sem]) rfl (.inl ⟨2, HE.out, rfl, ?_⟩)
        exact (Below.refl w.heap.size w).alloc (Nat.le_refl _) _
      · have hy8 : y ≤ n - 8 := by omega
        have hlk2 : ¬ ((n - 8 : Nat) : Int) < y := by omega
        have hyc : (y : Int) ≤ ((c - 8 : Nat) : Int) := by omega
        have hy0 : (0 : Int) ≤ (y : Int) := by omega
        have h8c : (8 : Int) ≤ (c : Int) := by omega
        have HP := Lib.hid (HD.out.front (k := y) (by omega))
        have HM := Lib.hid (HR.out.mid (a := 4) (m := 4) (by omega) hc4)
        clear hlk
        go_enter Tryz.func131, Tryz.ntmps131
        go_wp2_with fail
        refine (recnum_any B _ 4 c (l.take 4) _ (H4.out.alloc hB _) (by omega)).mono ?_
        rintro e w1 ⟨rfl, rfl⟩
        rw [HY.out]
        go_wp2_with fail
        have HW := Lib.hid ((Below.refl w.heap.size w).alloc (Nat.le_refl _) (.cells #[.slice none 0 0, .int .u32 0] 144))
        have HG := Lib.hid (Blk.new w 144 #[.slice none 0 0, .int .u32 0])
        generalize w.alloc (.cells #[.slice none 0 0, .int .u32 0] 144) = W at HW HG
        obtain ⟨g, HGW⟩ : ∃ g, Hid (g = w.heap.size) := ⟨_, rfl⟩
        rw [← HGW.out] at HG ⊢
        go_region_held3 (fun w' => Below W.heap.size W w')
          (first
            | exact held_start W
            | assumption
            | exact held_alloc (by assumption) _
            | exact held_alloc_drew (by assumption) _
            | exact held_alloc_drew (held_start W) _)
          (first
            | (go_at_call 135; refine (recnum_any B _ 4 _ ((l.drop 4).take 4) _ (HM.out.below ((held_two HW.out (by assumption)).mono hB)) (by omega)).mono ?_; rintro e w1 ⟨rfl, rfl⟩)
            | fail)
        all_goals
          generalize hq : num ((l.drop 4).take 4) = q
          have HQ := Lib.hid hq
          clear hq
          have hd0 : (W.alloc (.cells #[.slice Ar y (c - 8), .int .u32 q] 144)).drew.cell? ⟨W.heap.size, 0, none⟩ = some (.slice Ar y (c - 8)) := by simp
          have hd1 : (W.alloc (.cells #[.slice Ar y (c - 8), .int .u32 q] 144)).drew.cell? ⟨W.heap.size, 1, none⟩ = some (.int .u32 q) := by simp
          have HU : Hid (Below w.heap.size w (W.alloc (.cells #[.slice Ar y (c - 8), .int .u32 q] 144)).drew) := held_two HW.out (held_alloc_drew (held_start W) _)
          have HGU : Hid (Blk (W.alloc (.cells #[.slice Ar y (c - 8), .int .u32 q] 144)).drew g 144 #[.slice none 0 0, .int .u32 0]) := HG.out.alloc _
          have hgW : g < W.heap.size := HG.out.lt
          generalize (W.alloc (.cells #[.slice Ar y (c - 8), .int .u32 q] 144)).drew = U at hd0 hd1 HU HGU
          clear HW HG
          generalize W.heap.size = h at hd0 hd1 hgW
          go_wp2_with fail
          go_region_held3 (fun w' => w'.cell? ⟨h, 0, none⟩ = some (.slice Ar y (c - 8)) ∧ w'.cell? ⟨h, 1, none⟩ = some (.int .u32 q) ∧ Below U.heap.size U w')
            (first
              | exact held2 (held_start U) hd0 hd1
              | (go_split_ands; exact held2 (held_call (by assumption) hb2) hd0 hd1))
            (first
              | (go_at_call 88; refine (rightsum_any B Ar y (c - 8) _ _ (HP.out.below ((held_two HU.out (held_start U)).mono hB)) (Nat.le_trans hB HU.out.size) hsm).mono ?_; rintro e w2 ⟨rfl, hb2⟩)
              | fail)
          have HB2 := Lib.hid (held_call (held_start U) hb2)
          have e0 := held_cell HB2.out hd0
          have e1 := held_cell HB2.out hd1
          have hG2 : Blk w2 g 144 #[.slice none 0 0, .int .u32 0] := HGU.out.below HB2.out HGU.out.lt
          have e2 : w2.cell? ⟨g, 0, none⟩ = some (.slice none 0 0) := hG2.cell 0
          have e3 : w2.cell? ⟨g, 1, none⟩ = some (.int .u32 0) := hG2.cell 1
          have e4 : w2.frozen? ⟨g, 0, none⟩ = false := hG2.frozen 0
          have e5 : w2.frozen? ⟨g, 1, none⟩ = false := hG2.frozen 1
          have HZ : Hid (Below w.heap.size w w2) := held_two HU.out HB2.out
          have hgw : w.heap.size ≤ g := Nat.le_of_eq HGW.out.symm
          clear hb2 hd0 hd1 hG2
          go_split_ands
          generalize hv : sum (big y 4 ++ (l.drop 8).take y) = v
          have HV : Hid (sum (l.take 4 ++ (l.drop 8).take (num (l.take 4))) = v) := by
            have h4 : (l.take 4).length = 4 := by rw [List.length_take, HL.out]; omega
            have := big_num (l.take 4)
            rw [h4, HY.out] at this
            rw [HY.out, ← this]
            exact hv
          have HPL : Hid (((l.drop 8).take (num (l.take 4))).length = y) := by
            rw [HY.out]
            exact HP.out.len
          clear hv
          by_cases heq : q = v
          · have HE := Lib.hid (tk_ok (b := l) (by rw [HL.out]; omega) (by rw [HY.out]; exact hsm) (by rw [HY.out, HL.out]; exact hy8) (by rw [HQ.out, HV.out]; exact heq))
            subst heq
            go_wp2
            refine bodyPost_ret (v := .tuple #[.agg #[.slice Ar y (c - 8), .int .u32 q], .int .i64 0]) (by simp [results, Tryz.results131, go_sem, e2, e3]) rfl (.inr ⟨_, Ar, c - 8, q, HE.out, by rw [HPL.out], ?_, ?_⟩)
            · rw [HPL.out, HY.out]
              exact ((HP.out.below (HZ.out.mono hB)).setCell (by show _ ≤ g; omega) _).setCell (by show _ ≤ g; omega) _
            · exact (HZ.out.setCell (by show _ ≤ g; omega) _).setCell (by show _ ≤ g; omega) _
          · have hne : ((q : Int) != (v : Int)) = true := by simp; omega
            have HE := Lib.hid (tk_bad (b := l) (by rw [HL.out]; omega) (by rw [HY.out]; exact hsm) (by rw [HY.out, HL.out]; exact hy8) (by rw [HQ.out, HV.out]; exact heq))
            clear heq
            go_wp2
            refine bodyPost_ret (v := .tuple #[.agg #[.slice none 0 0, .int .u32 0], .int .i64 4]) (by simp [results, Tryz.results131, go_sem, e2, e3]) rfl (.inl ⟨4, HE.out, rfl, ?_⟩)
            exact (HZ.out.setCell (by show _ ≤ g; omega) _).setCell (by show _ ≤ g; omega) _
end Go.Proofs.YtedfddnbgljcjaaGreat.Rec
