/-
  Contracts of package rec's Scan and of the document's own (qanatref01): what the records hold that stand at the front of bytes.
-/
import Derived.Test.YtedfddnbgljcjaaGreatRecTake
import Derived.Test.YtedfddnbgljcjaaGreatLists
namespace Go.Proofs.YtedfddnbgljcjaaGreat.Rec
set_option maxRecDepth 100000
open Go.RowKit Base FieldMath RecMath
open Go.Proofs.YtedfddnbgljcjaaGreat.Field
set_option linter.ambiguousOpen false

theorem es : Elem Tryz.prog 32 31 1 24 (.slice none 0 0) := Elem.of Tryz.underlying32 (by kernel_rfl) rfl (by omega)

/-- what Scan answers -/
def Scanned (w : World) (r : List (List UInt8) × Nat) (e : Ending) (w' : World) : Prop :=
  ∃ A c, e = .returned (.tuple #[.slice A r.1.length c, .int .i64 r.2]) ∧ Lists w' w'.heap.size A r.1.length c r.1 ∧ Below w.heap.size w w'

/-- what Scan answers, all of it in new blocks -/
def ScannedNew (w : World) (r : List (List UInt8) × Nat) (e : Ending) (w' : World) : Prop :=
  ∃ A c, e = .returned (.tuple #[.slice A r.1.length c, .int .i64 r.2]) ∧ ListsIn w' (w.heap.size ≤ ·) A r.1.length c r.1 ∧ Below w.heap.size w w'
theorem ScannedNew.weak {w w' : World} {r : List (List UInt8) × Nat} {e : Ending} (h : ScannedNew w r e w') : Scanned w r e w' := by
  obtain ⟨A, c, h1, h2, h3⟩ := h
  exact ⟨A, c, h1, h2.lists, h3⟩

/-- on the way: 'off' bytes are read, they are the records ls -/
def ScanRel (w : World) (n : Nat) (l : List UInt8) (v i : Value) (wr : World) : Prop :=
  ∃ (off k : Nat) (ls : List (List UInt8)) (vs : List Value) (A : Option Addr) (c : Nat), off ≤ n ∧ 8 * k ≤ off ∧ ls.length = k ∧ i = .int .i64 off ∧ v = .slice A k c ∧ wr.ownsRow w.heap.size 31 1 (.slice A k c) k vs ∧ Each wr (Value.slice A k c).ownBlock vs ls ∧ Placed (w.heap.size ≤ ·) vs ∧
    Below w.heap.size w wr ∧ scan l = (ls ++ (scan (l.drop off)).1, off + (scan (l.drop off)).2)

theorem scan_step {l p : List UInt8} {off : Nat} {ls : List (List UInt8)} (h : scan l = (ls ++ (scan (l.drop off)).1, off + (scan (l.drop off)).2)) (hk : tk (l.drop off) = .ok p) :
    scan l = ((ls ++ [p]) ++ (scan (l.drop (off + (8 + p.length)))).1, (off + (8 + p.length)) + (scan (l.drop (off + (8 + p.length)))).2) := by
  rw [h, scan_more hk, List.drop_drop]
  simp only [List.append_assoc, List.singleton_append, Prod.mk.injEq, true_and]
  omega
theorem scan_stop {l : List UInt8} {off e : Nat} {ls : List (List UInt8)} (h : scan l = (ls ++ (scan (l.drop off)).1, off + (scan (l.drop off)).2)) (hk : tk (l.drop off) = .error e) : scan l = (ls, off) := by
  rw [h, scan_end hk]
  simp

set_option maxHeartbeats 800000 in
theorem scan_new (B : Nat) (A : Option Addr) (n c : Nat) (l : List UInt8) (w : World) (hr : Bytes w B A n c l) (hB : B ≤ w.heap.size) (hn : n ≤ 35184372088832) :
    Calls Tryz.prog 118 #[.slice A n c] w (ScannedNew w (scan l)) := by
  have HL := Lib.hid hr.len
  have HR := Lib.hid hr
  clear hr
  go_enter Tryz.func118, Tryz.ntmps118
  go_wp2
  go_loopw [4, 5] (fun v i wr => ScanRel w n l v i wr) (fun _ i _ => n - (intOf i).toNat)
  case atStart =>
    exact ⟨0, 0, [], [], none, 0, by omega, by omega, rfl, rfl, rfl, World.ownsRow_nil _ _ _ _, Each.nil_ _ _, Placed.nil_ _, Below.refl _ _, by simp⟩
  case round =>
    obtain ⟨off, k, ls, vs, A1, c1, hoff, hk8, hkl, rfl, rfl, hown, heach, hpl, hbel, hsc⟩ := hrel
    have HO := Lib.hid hown
    have HE := Lib.hid heach
    have HPL := Lib.hid hpl
    have HB := Lib.hid hbel
    have HS := Lib.hid hsc
    have HKL := Lib.hid hkl
    clear hown heach hpl hbel hsc hkl
    have hsl : ∀ w, (Instr.sliceAt 31 (.slice A n c) (some (.int .i64 off)) none none).run Tryz.prog w = .ok (.slice (cutAt A c off) (n - off) (c - off)) w := fun w => run_cut w _ n c off hoff
    have HC := Lib.hid ((HR.out.below (HB.out.mono hB)).cut (k := off) hoff)
    generalize cutAt A c off = Ar at hsl HC
    go_wp2_with fail
    refine (take_any B _ _ _ (l.drop off) _ HC.out (Nat.le_trans hB HB.out.size)).mono ?_
    rintro e w1 ⟨A2, n2, c2, rfl, hown2, hb2⟩
    cases hk : tk (l.drop off) with
    | error q =>
      have h3 := tk_err hk
      have hq : ((q : Int) != 0) = true := by simp; omega
      rw [show err (Except.error q : Except Nat (List UInt8)) = q from rfl, show tsize (Except.error q) = 0 from rfl]
      have HX := Lib.hid (scan_stop HS.out hk)
      have HB2 := Lib.hid (held_two HB.out hb2)
      have HO2 := Lib.hid (own_keep HO.out hb2)
      have HE2 := Lib.hid (HE.out.keep hb2)
      clear hown2 hb2 hk
      go_wp2
      go_ret2
      rw [HX.out]
      exact ⟨A1, c1, by rw [HKL.out]; rfl, by rw [HKL.out]; exact ListsIn.of HE2.out HO2.out HPL.out, HB2.out⟩
    | ok p =>
      have hf := tk_fits hk
      rw [List.length_drop, HL.out] at hf
      obtain ⟨hf1, hf2⟩ := hf
      rw [hk] at hown2
      rw [show err (Except.ok p) = 0 from rfl, show tsize (Except.ok p) = 8 + p.length from rfl]
      have hn2 : p.length = n2 := by have := hown2.1; rw [show got (Except.ok p) = p from rfl, bv_length, Nat.mul_one] at this; exact this
      have HX := Lib.hid (scan_step HS.out hk)
      have HB2 := Lib.hid (held_two HB.out hb2)
      have HO2 := Lib.hid (own_keep HO.out hb2)
      have HAP := Lib.hid (own_apart hown2 HO.out (Nat.le_refl _))
      have HPL2 := Lib.hid (HPL.out.snoc (c := c2) ((own_lies hown2).mono fun b hb => Nat.le_trans HB.out.size hb))
      have HY2 : Hid (Bytes w1 w1.heap.size A2 n2 c2 p) := Bytes.of_own hown2
      have HE2 := Lib.hid ((HE.out.keep hb2).snoc HY2.out HAP.out (Typed.own hown2))
      generalize p.length = m at hf1 hf2 HX hn2
      clear hown2 hb2 hk HE
      go_wp2_with (first
        | (at_builtin
           refine wpList_append_row rfl (.tmp 21) (.tmp 23) rfl es w.heap.size _ k vs rfl (HO2.out.alloc _) _ _ 1 1 [.slice A2 n2 c2] rfl (one_slice w1 _ A2 n2 c2 rfl) (slices_one _ _ _) (by omega) (by omega) (by have := HB2.out.size; simp; omega) ?_
           intro A3 c3 w3 hown3 hg3 hb3
           have HO3 := Lib.hid hown3
           have HE3 := Lib.hid ((HE2.out.keep ((Below.refl _ _).alloc (Nat.le_refl _) _)).grew hg3)
           have HB3 := Lib.hid ((HB2.out.alloc HB2.out.size _).trans hb3)
           clear hown3 hg3 hb3)
        | fail)
      go_roundw
      case rel =>
        exact ⟨off + (8 + m), k + 1, ls ++ [p], _, A3, c3, by omega, by omega, by rw [List.length_append, HKL.out]; rfl, by go_num, rfl, HO3.out, HE3.out, HPL2.out, HB3.out, HX.out⟩
      case measure => simp [intOf]; omega

set_option maxHeartbeats 800000 in
theorem refscan_new (B : Nat) (A : Option Addr) (n c : Nat) (l : List UInt8) (w : World) (hr : Bytes w B A n c l) (hB : B ≤ w.heap.size) (hn : n ≤ 35184372088832) :
    Calls Tryz.prog 65 #[.slice A n c] w (ScannedNew w (scan l)) := by
  have HL := Lib.hid hr.len
  have HR := Lib.hid hr
  clear hr
  go_enter Tryz.func65, Tryz.ntmps65
  go_wp2
  go_loopw [4, 5] (fun v i wr => ScanRel w n l v i wr) (fun _ i _ => n - (intOf i).toNat)
  case atStart =>
    exact ⟨0, 0, [], [], none, 0, by omega, by omega, rfl, rfl, rfl, World.ownsRow_nil _ _ _ _, Each.nil_ _ _, Placed.nil_ _, Below.refl _ _, by simp⟩
  case round =>
    obtain ⟨off, k, ls, vs, A1, c1, hoff, hk8, hkl, rfl, rfl, hown, heach, hpl, hbel, hsc⟩ := hrel
    have HO := Lib.hid hown
    have HE := Lib.hid heach
    have HPL := Lib.hid hpl
    have HB := Lib.hid hbel
    have HS := Lib.hid hsc
    have HKL := Lib.hid hkl
    clear hown heach hpl hbel hsc hkl
    by_cases hlt : off < n
    · have hsl : ∀ w, (Instr.sliceAt 31 (.slice A n c) (some (.int .i64 off)) none none).run Tryz.prog w = .ok (.slice (cutAt A c off) (n - off) (c - off)) w := fun w => run_cut w _ n c off hoff
      have HC := Lib.hid ((HR.out.below (HB.out.mono hB)).cut (k := off) hoff)
      generalize cutAt A c off = Ar at hsl HC
      go_wp2_with fail
      refine (reftake_any B _ _ _ (l.drop off) _ HC.out (Nat.le_trans hB HB.out.size)).mono ?_
      rintro e w1 ⟨A2, n2, c2, rfl, hown2, hb2⟩
      cases hk : tk (l.drop off) with
      | error q =>
        have h3 := tk_err hk
        have hq : ((q : Int) != 0) = true := by simp; omega
        rw [show err (Except.error q : Except Nat (List UInt8)) = q from rfl, show tsize (Except.error q) = 0 from rfl]
        have HX := Lib.hid (scan_stop HS.out hk)
        have HB2 := Lib.hid (held_two HB.out hb2)
        have HO2 := Lib.hid (own_keep HO.out hb2)
        have HE2 := Lib.hid (HE.out.keep hb2)
        clear hown2 hb2 hk
        go_wp2
        go_ret2
        rw [HX.out]
        exact ⟨A1, c1, by rw [HKL.out]; rfl, by rw [HKL.out]; exact ListsIn.of HE2.out HO2.out HPL.out, HB2.out⟩
      | ok p =>
        have hf := tk_fits hk
        rw [List.length_drop, HL.out] at hf
        obtain ⟨hf1, hf2⟩ := hf
        rw [hk] at hown2
        rw [show err (Except.ok p) = 0 from rfl, show tsize (Except.ok p) = 8 + p.length from rfl]
        have hn2 : p.length = n2 := by have := hown2.1; rw [show got (Except.ok p) = p from rfl, bv_length, Nat.mul_one] at this; exact this
        have HX := Lib.hid (scan_step HS.out hk)
        have HB2 := Lib.hid (held_two HB.out hb2)
        have HO2 := Lib.hid (own_keep HO.out hb2)
        have HAP := Lib.hid (own_apart hown2 HO.out (Nat.le_refl _))
        have HPL2 := Lib.hid (HPL.out.snoc (c := c2) ((own_lies hown2).mono fun b hb => Nat.le_trans HB.out.size hb))
        have HY2 : Hid (Bytes w1 w1.heap.size A2 n2 c2 p) := Bytes.of_own hown2
        have HE2 := Lib.hid ((HE.out.keep hb2).snoc HY2.out HAP.out (Typed.own hown2))
        generalize p.length = m at hf1 hf2 HX hn2
        clear hown2 hb2 hk HE
        go_wp2_with (first
          | (at_builtin
             refine wpList_append_row rfl (.tmp 25) (.tmp 27) rfl es w.heap.size _ k vs rfl (HO2.out.alloc _) _ _ 1 1 [.slice A2 n2 c2] rfl (one_slice w1 _ A2 n2 c2 rfl) (slices_one _ _ _) (by omega) (by omega) (by have := HB2.out.size; simp; omega) ?_
             intro A3 c3 w3 hown3 hg3 hb3
             have HO3 := Lib.hid hown3
             have HE3 := Lib.hid ((HE2.out.keep ((Below.refl _ _).alloc (Nat.le_refl _) _)).grew hg3)
             have HB3 := Lib.hid ((HB2.out.alloc HB2.out.size _).trans hb3)
             clear hown3 hg3 hb3)
          | fail)
        go_roundw
        case rel =>
          exact ⟨off + (8 + m), k + 1, ls ++ [p], _, A3, c3, by omega, by omega, by rw [List.length_append, HKL.out]; rfl, by go_num, rfl, HO3.out, HE3.out, HPL2.out, HB3.out, HX.out⟩
        case measure => simp [intOf]; omega
    · have HX := Lib.hid (show scan l = (ls, off) by
        rw [HS.out, List.drop_of_length_le (by rw [HL.out]; omega), scan_nil]
        simp)
      go_wp2
      go_ret2
      rw [HX.out]
      exact ⟨A1, c1, by rw [HKL.out]; rfl, by rw [HKL.out]; exact ListsIn.of HE.out HO.out HPL.out, HB.out⟩

theorem scan_any (B : Nat) (A : Option Addr) (n c : Nat) (l : List UInt8) (w : World) (hr : Bytes w B A n c l) (hB : B ≤ w.heap.size) (hn : n ≤ 35184372088832) :
    Calls Tryz.prog 118 #[.slice A n c] w (Scanned w (scan l)) := (scan_new B A n c l w hr hB hn).mono fun _ _ h => h.weak
theorem refscan_any (B : Nat) (A : Option Addr) (n c : Nat) (l : List UInt8) (w : World) (hr : Bytes w B A n c l) (hB : B ≤ w.heap.size) (hn : n ≤ 35184372088832) :
    Calls Tryz.prog 65 #[.slice A n c] w (Scanned w (scan l)) := (refscan_new B A n c l w hr hB hn).mono fun _ _ h => h.weak
end Go.Proofs.YtedfddnbgljcjaaGreat.Rec
