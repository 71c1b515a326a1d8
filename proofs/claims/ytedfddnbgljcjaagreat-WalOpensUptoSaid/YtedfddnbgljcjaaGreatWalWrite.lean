/-
  Contracts of package wal's clean and write: what an elder write left is taken away, bytes are laid.
-/
import Derived.Test.YtedfddnbgljcjaaGreatWalMem
import Derived.Test.YtedfddnbgljcjaaGreatWalPlan
namespace Go.Proofs.YtedfddnbgljcjaaGreat.Wal
set_option maxRecDepth 100000
open Go.RowKit Base WalMath
open Go.Proofs.YtedfddnbgljcjaaGreat.Disk (Turn Out DiskAt I64 Fits own_same own_type)
open DiskMath (Fl Dk)
set_option linter.ambiguousOpen false

theorem cap_fits {k M : Nat} {d : Dk} (h : Cap k M d) (hk : k ≤ 1000000000) : Fits d := ⟨by have := h.1; omega, by have := h.2.1; omega⟩
/-- what a call answers, and what became of the log and its disk -/
def Did (T : Nat → Prop) (w : World) (g gd : Nat) (v : Value) (l : Lg) (d : Dk) (e : Ending) (w' : World) : Prop := e = .returned v ∧ Both T w' g gd l d ∧ Turn T w w'

set_option maxHeartbeats 1600000 in
theorem clean_any (T : Nat → Prop) (g gd : Nat) (l : Lg) (d : Dk) (k M : Nat) (w : World) (h : Both T w g gd l d) (hT : New T w) (hc : Cap k M d) (hk : k ≤ 1000000000) :
    Calls Tryz.prog 73 #[.pointer (some ⟨g, 0, none⟩)] w (Did T w g gd (.int .i64 (clean l d).1) l (clean l d).2) := by
  obtain ⟨F, hdk, hF, HK⟩ := h.disk hT
  have HD := Lib.hid hdk
  have HF := Lib.hid (cap_fits hc hk)
  have HB := Lib.hid h
  obtain ⟨_, G, _, ⟨A, n, c, qs, lp, hL⟩, _⟩ := h
  have c1 := hL.cells.2.1
  have c4 := hL.cells.2.2.2.2
  have hl := hL.2.2.2.2
  clear hL hdk hc hk hF hT
  generalize hcl : clean l d = r
  have HCL := Lib.hid hcl
  clear hcl
  cases hlf : l.left with
  | none =>
    rw [hlf] at hl
    have HE := Lib.hid (show r = (0, d) by rw [← HCL.out, clean, hlf])
    cases lp with
    | some b => exact hl.elim
    | none =>
      clear hl hlf
      rw [show leftV none = .pointer none from rfl] at c4
      go_enter Tryz.func73, Tryz.ntmps73
      go_wp2
      go_ret
      rw [HE.out]
      exact ⟨rfl, HB.out, Turn.refl _ _⟩
  | some p =>
    rw [hlf] at hl
    cases lp with
    | none => exact hl.elim
    | some b =>
      rw [show leftV (some b) = .pointer (some ⟨b, 0, none⟩) from rfl] at c4
      have p0 : w.cell? ⟨b, 0, none⟩ = some (.int .i64 p.file) := hl.1.cell 0
      have p1 : w.cell? ⟨b, 1, none⟩ = some (.int .i64 p.had) := hl.1.cell 1
      have p2 : w.cell? ⟨b, 2, none⟩ = some (.bool p.begins) := hl.1.cell 2
      clear hl
      cases hbg : p.begins with
      | true =>
        rw [hbg] at p2
        have HE := Lib.hid (show r = DiskMath.remove d p.file by rw [← HCL.out, clean, hlf]; simp [hbg])
        clear hlf hbg
        generalize p.file = f at *
        go_enter Tryz.func73, Tryz.ntmps73
        go_wp2
        go_still_tail 11, (by kernel_rfl)
        go_wp2_with fail
        refine (Disk.remove_any F gd d f _ (HD.out.drewN 1) HF.out).mono ?_
        rintro e w1 ⟨rfl, hd1, ht1⟩
        have HR := Lib.hid (HK.out w1 _ hd1 ⟨ht1.os, ht1.tape, ht1.output, ht1.size, ht1.block⟩)
        clear hd1 ht1
        go_wp2
        go_ret
        rw [HE.out]
        exact ⟨rfl, HR.out.1, HR.out.2⟩
      | false =>
        rw [hbg] at p2
        have HE := Lib.hid (show r = DiskMath.cut d p.file p.had by rw [← HCL.out, clean, hlf]; simp [hbg])
        clear hlf hbg
        generalize p.file = f at *
        generalize p.had = hh at *
        go_enter Tryz.func73, Tryz.ntmps73
        go_wp2
        go_still_tail 18, (by kernel_rfl)
        go_wp2_with fail
        refine (Disk.cut_any F gd d f hh _ (HD.out.drewN 1) HF.out).mono ?_
        rintro e w1 ⟨rfl, hd1, ht1⟩
        have HR := Lib.hid (HK.out w1 _ hd1 ⟨ht1.os, ht1.tape, ht1.output, ht1.size, ht1.block⟩)
        clear hd1 ht1
        go_wp2
        go_ret
        rw [HE.out]
        exact ⟨rfl, HR.out.1, HR.out.2⟩

/-- T, but for what was made from a to b -/
def Win (T : Nat → Prop) (a b : Nat) (i : Nat) : Prop := T i ∧ (i < a ∨ b ≤ i)
section
variable {T T' : Nat → Prop} {w w' : World} {g gd : Nat} {l : Lg} {d : Dk}
theorem Both.mono (h : Both T w g gd l d) (hT : ∀ i, T i → T' i) : Both T' w g gd l d := by
  obtain ⟨F, G, h1, h2, h3, h4, h5⟩ := h
  exact ⟨F, G, h1, h2, h3, fun i hi => ⟨hT i (h4 i hi).1, (h4 i hi).2⟩, fun i hi => ⟨hT i (h5 i hi).1, (h5 i hi).2⟩⟩
theorem Both.win (h : Both T w g gd l d) (hb : Below w.heap.size w w') : Both (Win T w.heap.size w'.heap.size) w' g gd l d := by
  obtain ⟨F, G, h1, h2, h3, h4, h5⟩ := h
  exact ⟨F, G, h1.new hb, h2.new hb, h3, fun i hi => ⟨⟨(h4 i hi).1, .inl (h4 i hi).2⟩, Nat.lt_of_lt_of_le (h4 i hi).2 hb.size⟩, fun i hi => ⟨⟨(h5 i hi).1, .inl (h5 i hi).2⟩, Nat.lt_of_lt_of_le (h5 i hi).2 hb.size⟩⟩
theorem New.win (h : New T w) (hz : w.heap.size ≤ w'.heap.size) : New (Win T w.heap.size w'.heap.size) w' := fun i hi => ⟨h i (Nat.le_trans hz hi), .inr hi⟩
theorem Win.out {a b i : Nat} (h : Win T a b i) : T i := h.1
/-- a row that does not lie in T -/
theorem Bytes.turn {A : Option Addr} {n c : Nat} {b : List UInt8} (h : Bytes w w.heap.size A n c b) (hl : Lies (fun i => ¬ T i) A n) (ht : Turn T w w') : Bytes w' w'.heap.size A n c b :=
  Bytes.same h fun hn b off e hb => ⟨Nat.lt_of_lt_of_le hb ht.size, ht.block b hb (hl hn b off e)⟩
theorem Turn.win {a b : Nat} (h : Turn (Win T a b) w w') : Turn T w w' := h.mono fun _ hi => hi.1
end

/-- what write answers -/
def Wrote (T : Nat → Prop) (w : World) (g gd : Nat) (r : Int × Lg × Dk) (e : Ending) (w' : World) : Prop := Did T w g gd (.int .i64 r.1) r.2.1 r.2.2 e w'
set_option maxHeartbeats 1600000 in
theorem write_any (T : Nat → Prop) (g gd : Nat) (l : Lg) (d : Dk) (k M : Nat) (p : Pc) (A : Option Addr) (n c : Nat) (b : List UInt8) (w : World) (h : Both T w g gd l d) (hT : New T w) (hc : Cap k M d) (hk : k ≤ 100000000) (hr : Bytes w w.heap.size A n c b) (hl : Lies (fun i => ¬ T i) A n) (hM : M + n ≤ 70368744177664) :
    Calls Tryz.prog 48 #[.pointer (some ⟨g, 0, none⟩), pcv p, .slice A n c] w (Wrote T w g gd (write l d p b)) := by
  have HB := Lib.hid h
  have HT := Lib.hid hT
  have HC := Lib.hid hc
  have HR := Lib.hid hr
  have HL := Lib.hid hl
  have HW : Hid (Below w.heap.size w (w.alloc (.cells #[.int .i64 p.file, .int .i64 p.had, .bool p.begins] 101))) := (Below.refl _ _).alloc (Nat.le_refl _) _
  have HP : Hid (Blk (w.alloc (.cells #[.int .i64 p.file, .int .i64 p.had, .bool p.begins] 101)) w.heap.size 101 #[.int .i64 p.file, .int .i64 p.had, .bool p.begins]) := Blk.new _ _ _
  clear h hT hc hr hl
  generalize hwr : write l d p b = r
  have HWR := Lib.hid hwr
  clear hwr
  unfold pcv
  go_enter Tryz.func48, Tryz.ntmps48
  go_wp2_with fail
  generalize w.alloc (.cells #[.int .i64 p.file, .int .i64 p.had, .bool p.begins] 101) = W at HW HP ⊢
  generalize hs0 : w.heap.size = s0 at HP ⊢
  have HS0 := Lib.hid hs0
  clear hs0
  refine (clean_any (Win T w.heap.size W.heap.size) g gd l d k M _ (HB.out.win HW.out) (HT.out.win HW.out.size) HC.out (by omega)).mono ?_
  rintro e w1 ⟨rfl, hb1, ht1⟩
  have HB1 := Lib.hid hb1
  have HT1 := Lib.hid ht1
  have HP1 : Hid (Blk w1 s0 101 #[.int .i64 p.file, .int .i64 p.had, .bool p.begins]) := (ht1.block s0 HP.out.lt fun hw => by
    have a := hw.2
    rw [HS0.out] at a
    have b := HP.out.lt
    omega).trans HP.out
  have HTW : Hid (Turn T w w1) := (Turn.new HW.out).trans (Turn.win ht1) fun _ hi => .inl hi
  have HC1 := Lib.hid (HC.out.clean l)
  clear hb1 ht1
  generalize hcl : clean l d = q at *
  have HCL := Lib.hid hcl
  clear hcl
  obtain ⟨e1, d1⟩ := q
  dsimp only at *
  by_cases h0 : e1 = 0
  · subst h0
    have HE := Lib.hid (show r = ((DiskMath.append d1 p.file b).1, { l with left := some p }, (DiskMath.append d1 p.file b).2) by rw [← HWR.out, write, HCL.out]; rfl)
    obtain ⟨F, G, hdk, ⟨Al, nl, cl, qs, lp, hL⟩, hFG, hF, hG⟩ := HB1.out
    have c1 := hL.cells.2.1
    have c4 := hL.cells.2.2.2.2
    have z4 := hL.2.1.frozen 4
    have hne : s0 ≠ g := fun e => by
      have a := hL.2.1
      have b := HP1.out
      unfold Blk at a b
      rw [← e, b] at a
      cases a
    -- the log's own step
    have hst := (hL.mono (G' := fun i => G i ∨ i = s0) fun i hi => .inl hi).lefts (lp' := some s0) (left := some p) ⟨HP1.out, .inr rfl⟩
    have hTs : T s0 := HT.out s0 (by rw [HS0.out]; exact Nat.le_refl _)
    have hbo := Both.log (T := T) (w' := w1.setCell ⟨g, 4, none⟩ (leftV (some s0))) (l' := { l with left := some p }) hdk (fun i hi => ⟨(hF i hi).1.1, (hF i hi).2⟩) (G := fun i => G i ∨ i = s0) (fun i hi hg => by
        rcases hg with hg | rfl
        · exact hFG i hi hg
        · have a := (hF i hi).1.2
          rw [HS0.out] at a
          have b := HP.out.lt
          omega) (fun i hi => by
        rcases hi with hi | rfl
        · exact ⟨(hG i hi).1.1, (hG i hi).2⟩
        · exact ⟨hTs, HP1.out.lt⟩) (HT.out.le HTW.out.size) hst.2 ⟨_, _, _, _, _, hst.1⟩ (fun i hi => .inl hi)
    have q0 : (w1.setCell ⟨g, 4, none⟩ (leftV (some s0))).cell? ⟨s0, 0, none⟩ = some (.int .i64 p.file) := (HP1.out.far (p := ⟨g, 4, none⟩) hne _).cell 0
    have q1 : (w1.setCell ⟨g, 4, none⟩ (leftV (some s0))).cell? ⟨g, 1, none⟩ = some (.pointer (some ⟨gd, 0, none⟩)) := hst.1.cells.2.1
    have HTT := Lib.hid (HTW.out.trans hbo.2 fun _ hi => .inl hi)
    have HBB := Lib.hid hbo.1
    rw [show leftV (some s0) = .pointer (some ⟨s0, 0, none⟩) from rfl] at q0 q1 HTT HBB
    clear hL hst hbo hFG hF hG hdk HB1 HT1 HP1 HTW
    go_wp2_with fail
    generalize w1.setCell ⟨g, 4, none⟩ (.pointer (some ⟨s0, 0, none⟩)) = W2 at q0 q1 HTT HBB ⊢
    clear c1 c4 z4
    obtain ⟨F2, hdk2, hF2, HK2⟩ := HBB.out.disk (HT.out.le HTT.out.size)
    have HD2 := Lib.hid hdk2
    have HY2 := Lib.hid (Bytes.turn HR.out HL.out HTT.out)
    clear hdk2 hF2
    go_still_tail 7, (by kernel_rfl)
    go_wp2_with fail
    refine (Disk.append_any F2 gd d1 p.file W2.heap.size A n c b _ (HD2.out.drewN 1) (cap_fits HC1.out (by omega)) (HY2.out.drewN 1) (Nat.le_refl _) (by omega) (fun x hx => by have := HC1.out.2.2 x (DiskMath.seek_mem hx).1; omega)).mono ?_
    rintro e w3 ⟨rfl, hd3, ht3⟩
    have HR3 := Lib.hid (HK2.out w3 _ hd3 ⟨ht3.os, ht3.tape, ht3.output, ht3.size, ht3.block⟩)
    clear hd3 ht3
    go_wp2
    go_ret
    rw [HE.out]
    exact ⟨rfl, HR3.out.1, HTT.out.trans HR3.out.2 fun _ hi => .inl hi⟩
  · have HE := Lib.hid (show r = (e1, l, d1) by rw [← HWR.out, write, HCL.out]; simp [h0])
    have hne : (e1 != 0) = true := by simpa using h0
    clear h0
    go_wp2
    go_ret
    rw [HE.out]
    exact ⟨rfl, HB1.out.mono fun _ hi => hi.1, HTW.out⟩
end Go.Proofs.YtedfddnbgljcjaaGreat.Wal
