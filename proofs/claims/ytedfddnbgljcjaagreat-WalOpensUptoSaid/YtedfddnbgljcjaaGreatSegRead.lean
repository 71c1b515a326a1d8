/-
  Contracts of package seg's Read and of the document's own (qanatref04): the number in a segment's head, what the records behind it hold, how many bytes they have.
-/
import Derived.Test.YtedfddnbgljcjaaGreatSegHead
import Derived.Test.YtedfddnbgljcjaaGreatFieldDecode
import Derived.Test.YtedfddnbgljcjaaGreatRecScan
import Derived.BigQuiet
import Derived.RegionTactic
import Derived.ChangeAlike
import Derived.BigRegion
namespace Go.Proofs.YtedfddnbgljcjaaGreat.Seg
set_option maxRecDepth 100000
open Go.RowKit Base FieldMath RecMath SegMath
open Go.Proofs.YtedfddnbgljcjaaGreat.Field Go.Proofs.YtedfddnbgljcjaaGreat.Rec
set_option linter.ambiguousOpen false

theorem run_cuts (w : World) (A : Option Addr) (n c k : Nat) (hk : k ≤ n) : (Instr.sliceAt 32 (.slice A n c) (some (.int .i64 k)) none none).run Tryz.prog w = .ok (.slice (cutAt A c k) (n - k) (c - k)) w := by
  rw [run_sliceAt_slice _ _ _ _ _ _ Tryz.underlying32, run_slice_l _ _ _ _ _ Tryz.underlying32 .i64 k (by omega) (by omega)]
  have : (sizeOf (Tryz.prog.elem 32)).run Tryz.prog w = .ok 1 w := by kernel_rfl
  rw [this]
  simp [Result.andThen, sliced, cutAt]

/-- what Read answers -/
def SegRead (w : World) (r : Sr) (e : Ending) (w' : World) : Prop :=
  ∃ A c, e = .returned (.tuple #[.int .i64 r.x, .slice A r.rows.length c, .int .i64 r.n, .int .i64 r.e]) ∧ ListsIn w' (w.heap.size ≤ ·) A r.rows.length c r.rows ∧ Below w.heap.size w w'
theorem segread_bad {w w' : World} (hb : Below w.heap.size w w') : SegRead w bad (.returned (.tuple #[.int .i64 0, .slice none 0 0, .int .i64 0, .int .i64 3])) w' := ⟨none, 0, rfl, ListsIn.nil_ _ _, hb⟩

set_option maxHeartbeats 400000 in
theorem records_any (B : Nat) (A : Option Addr) (n c : Nat) (l : List UInt8) (w : World) (hr : Bytes w B A n c l) (hB : B ≤ w.heap.size) (hn : n ≤ 35184372088832) :
    Calls Tryz.prog 104 #[.agg #[.slice A n c]] w (ScannedNew w (scan l)) := by
  have HR := Lib.hid hr
  clear hr
  go_enter Tryz.func104, Tryz.ntmps104
  go_wp2_with fail
  refine (scan_new B A n c l _ (HR.out.alloc hB _) (by simp; omega) hn).mono ?_
  rintro e w1 ⟨A1, c1, rfl, hl1, hb1⟩
  have HL1 := Lib.hid (hl1.mono (S' := (w.heap.size ≤ ·)) fun b (hb : _ ≤ b) => by simp at hb; omega)
  have HB1 := Lib.hid (held_two ((Below.refl w.heap.size w).alloc (Nat.le_refl _) _) hb1)
  clear hl1 hb1
  generalize hs : scan l = s at *
  obtain ⟨ls, x⟩ := s
  go_wp2
  go_ret2
  exact ⟨A1, c1, rfl, HL1.out, HB1.out⟩

/-- what firstOf answers -/
def FirstOf (w : World) (r : Option Int) (e : Ending) (w' : World) : Prop := e = .returned (.tuple #[.int .i64 (r.getD 0), .bool r.isSome]) ∧ Below w.heap.size w w'
theorem only_bad {f : Fld} (h : ¬ (f.kind = 1 ∧ 1 ≤ f.n ∧ f.n ≤ 1099511627776)) : only (.ok [f]) = none := if_neg h
theorem only_ok {f : Fld} (h : f.kind = 1 ∧ 1 ≤ f.n ∧ f.n ≤ 1099511627776) : only (.ok [f]) = some f.n := if_pos h
theorem only_len {fs : List Fld} (h : fs.length ≠ 1) : only (.ok fs) = none := by
  match fs, h with
  | [], _ => rfl
  | [_], h => exact absurd rfl h
  | _ :: _ :: _, _ => rfl

theorem dec_bad {b : List UInt8} {e : Nat} (h : dec b = .error e) : e = 2 ∨ e = 3 := by
  have hN : ∀ (n : Nat) (b : List UInt8) (e : Nat), takeN n b = .error e → e = 2 ∨ e = 3 := by
    intro n
    induction n with
    | zero => intro b e h; cases h
    | succ n ih =>
      intro b e h
      rw [takeN] at h
      split at h
      · rename_i h1
        injection h with h
        subst h
        exact takeF_err h1
      · split at h
        · rename_i h1
          injection h with h
          subst h
          exact ih _ _ h1
        · cases h
  unfold dec at h
  split at h
  · injection h with h; exact .inl h.symm
  · split at h
    · injection h with h; exact .inr h.symm
    · split at h
      · rename_i h1
        injection h with h
        subst h
        exact hN _ _ _ h1
      · split at h
        · injection h with h; exact .inr h.symm
        · cases h

set_option maxHeartbeats 800000 in
theorem firstof_any (B : Nat) (A : Option Addr) (n c : Nat) (l : List UInt8) (w : World) (hr : Bytes w B A n c l) (hB : B ≤ w.heap.size) :
    Calls Tryz.prog 105 #[.slice A n c] w (FirstOf w (first l)) := by
  have HR := Lib.hid hr
  clear hr
  go_enter Tryz.func105, Tryz.ntmps105
  go_wp2_with fail
  refine (decode_any B A n c l _ HR.out hB).mono ?_
  rintro e w1 ⟨A1, n1, c1, rfl, hf1, hb1⟩
  have HB1 := Lib.hid hb1
  clear hb1
  cases hd : dec l with
  | error k =>
    have hk := dec_bad hd
    have HX := Lib.hid (show first l = none by unfold first; rw [hd]; rfl)
    have hk0 : ((k : Int) != 0) = true := by simp; omega
    rw [show err (Except.error k : Except Nat (List Fld)) = k from rfl]
    clear hf1 hk hd
    go_wp2
    go_ret2
    rw [HX.out]
    exact ⟨rfl, HB1.out⟩
  | ok fs =>
    rw [hd] at hf1
    rw [show err (Except.ok fs) = 0 from rfl]
    rw [show got (Except.ok fs) = fs from rfl] at hf1
    have hlen := hf1.len
    have HD := Lib.hid hd
    clear hd
    by_cases h1 : n1 = 1
    · subst h1
      obtain ⟨b, off, f, rfl, hb, hc0, hc1, _, hget, _⟩ := hf1.at_ (k := 0) (by omega)
      obtain rfl : fs = [f] := by
        match fs, hlen, hget with
        | [g], _, hget =>
          simp at hget
          rw [hget]
      rw [Nat.zero_mul, Nat.add_zero] at hc0 hc1
      clear hf1 hlen hget
      by_cases hk : f.kind = 1
      · rw [hk] at hc0
        by_cases hx : 1 ≤ f.n ∧ f.n ≤ 1099511627776
        · have hdec : decide (1 ≤ f.n ∧ f.n ≤ 1099511627776) = true := by simpa using hx
          have HX := Lib.hid (show first l = some f.n by unfold first; rw [HD.out]; exact only_ok ⟨hk, hx⟩)
          obtain ⟨y, x, s⟩ := f
          dsimp only at *
          clear hk hx HD
          go_wp2_with fail
          refine (maybe_any x _).mono ?_
          rintro e w2 ⟨rfl, rfl⟩
          rw [hdec]
          clear hdec
          go_wp2
          go_ret2
          rw [HX.out]
          exact ⟨rfl, HB1.out⟩
        · have hdec : decide (1 ≤ f.n ∧ f.n ≤ 1099511627776) = false := by simpa using hx
          have HX := Lib.hid (show first l = none by unfold first; rw [HD.out]; exact only_bad (fun h => hx h.2))
          obtain ⟨y, x, s⟩ := f
          dsimp only at *
          clear hk hx HD
          go_wp2_with fail
          refine (maybe_any x _).mono ?_
          rintro e w2 ⟨rfl, rfl⟩
          rw [hdec]
          clear hdec
          go_wp2
          go_ret2
          rw [HX.out]
          exact ⟨rfl, HB1.out⟩
      · have hk' : (f.kind != 1) = true := by simpa using hk
        have HX := Lib.hid (show first l = none by unfold first; rw [HD.out]; exact only_bad (fun h => hk h.1))
        obtain ⟨y, x, s⟩ := f
        dsimp only at *
        clear hk HD
        go_wp2
        go_ret2
        rw [HX.out]
        exact ⟨rfl, HB1.out⟩
    · have h1' : ((n1 : Int) != 1) = true := by simp; omega
      have HX := Lib.hid (show first l = none by unfold first; rw [HD.out]; exact only_len (by omega))
      clear hf1 hlen h1 HD
      go_wp2
      go_ret2
      rw [HX.out]
      exact ⟨rfl, HB1.out⟩

/-- what the reader's own read answers, and leaves in its block g -/
def ReadAt (w : World) (g : Nat) (A : Option Addr) (n c : Nat) (r : Sr) (e : Ending) (w' : World) : Prop :=
  e = .returned (.int .i64 r.e) ∧ Below g w w' ∧ w.heap.size ≤ w'.heap.size ∧ (r.e = 0 → ∃ A1 c1, Blk w' g 152 #[.slice A n c, .int .i64 r.x, .slice A1 r.rows.length c1, .int .i64 r.n] ∧ ListsIn w' (w.heap.size ≤ ·) A1 r.rows.length c1 r.rows)

set_option maxHeartbeats 800000 in
theorem read_at (B g : Nat) (A : Option Addr) (n c : Nat) (l : List UInt8) (w : World) (hbk : Blk w g 152 #[.slice A n c, .int .i64 0, .slice none 0 0, .int .i64 0]) (hr : Bytes w B A n c l) (hB : B ≤ g) (hn : n ≤ 35184372088832) :
    Calls Tryz.prog 92 #[.pointer (some ⟨g, 0, none⟩)] w (ReadAt w g A n c (sread l)) := by
  have HR := Lib.hid hr
  have HK := Lib.hid hbk
  have hg := hbk.lt
  have hc0 : w.cell? ⟨g, 0, none⟩ = some (.slice A n c) := hbk.cell 0
  clear hr hbk
  go_enter Tryz.func92, Tryz.ntmps92
  go_wp2_with fail
  refine (records_any B A n c l _ HR.out (by omega) hn).mono ?_
  rintro e w1 ⟨A1, c1, rfl, hl1, hb1⟩
  have HL1 := Lib.hid hl1
  have HB1 := Lib.hid hb1
  have HK1 := Lib.hid (HK.out.below hb1 hg)
  clear hl1 hb1
  have HC := Lib.hid (scan_count l)
  generalize hs : scan l = s at *
  obtain ⟨ls, x⟩ := s
  cases ls with
  | nil =>
    have HX := Lib.hid (show sread l = bad by unfold sread; rw [hs]; rfl)
    clear hs
    go_wp2
    go_ret
    rw [HX.out]
    exact ⟨rfl, HB1.out.mono (by omega), HB1.out.size, fun h => by cases h⟩
  | cons p ls =>
    dsimp only at *
    obtain ⟨b, off, A2, n2, c2, q, rfl, hb, hcell, hy, hget, _⟩ := HL1.out.lists.at_ (k := 0) (by simp)
    simp only [List.getElem?_cons_zero, Option.some.injEq] at hget
    subst hget
    rw [Nat.add_zero] at hcell
    have HY := Lib.hid hy
    have HS := Lib.hid hs
    clear hy hs
    generalize hm : (p :: ls).length = m at *
    have hm1 : ls.length + 1 = m := by rw [← hm]; rfl
    have HM := Lib.hid hm1
    clear hm
    have hm0 : ¬ m = 0 := by omega
    have hm0' : ((m : Int) == 0) = false := by simp; omega
    go_wp2_with fail
    refine (firstof_any _ A2 n2 c2 p _ HY.out (Nat.le_refl _)).mono ?_
    rintro e w2 ⟨rfl, hb2⟩
    have HB2 := Lib.hid (held_two HB1.out hb2)
    have HK2 := Lib.hid (HK1.out.below hb2 (by have := HB1.out.size; omega))
    have HL2 := Lib.hid (HL1.out.below hb2)
    clear hb2 hcell
    cases hf : first p with
    | none =>
      have HX := Lib.hid (show sread l = bad by unfold sread sreads; rw [HS.out]; simp only [hf])
      rw [show (none : Option Int).getD 0 = 0 from rfl, show (none : Option Int).isSome = false from rfl]
      clear hf
      go_wp2
      go_ret
      rw [HX.out]
      exact ⟨rfl, HB2.out.mono (by omega), HB2.out.size, fun h => by cases h⟩
    | some y =>
      have HX := Lib.hid (show sread l = ⟨y, ls, x, 0⟩ by unfold sread sreads; rw [HS.out]; simp only [hf])
      rw [show (some y).getD 0 = y from rfl, show (some y).isSome = true from rfl]
      clear hf
      have hsl : ∀ w, (Instr.sliceAt 32 (.slice (some ⟨b, off, none⟩) m c1) (some (.int .i64 1)) none none).run Tryz.prog w = .ok (.slice (cutAt (some ⟨b, off, none⟩) c1 1) (m - 1) (c1 - 1)) w := fun w => run_cuts w _ m c1 1 (by omega)
      have HL3 := Lib.hid (HL2.out.cut (k := 1) (by omega))
      generalize cutAt (some ⟨b, off, none⟩) c1 1 = A3 at hsl HL3
      have hf1 : w2.frozen? ⟨g, 1, none⟩ = false := HK2.out.frozen 1
      have hf2 : w2.frozen? ⟨g, 2, none⟩ = false := HK2.out.frozen 2
      have hf3 : w2.frozen? ⟨g, 3, none⟩ = false := HK2.out.frozen 3
      have hc1 : w2.cell? ⟨g, 1, none⟩ = some (.int .i64 0) := HK2.out.cell 1
      have hc2 : w2.cell? ⟨g, 2, none⟩ = some (.slice none 0 0) := HK2.out.cell 2
      have hc3 : w2.cell? ⟨g, 3, none⟩ = some (.int .i64 0) := HK2.out.cell 3
      go_wp2
      go_region
      go_wp2
      go_ret
      rw [HX.out]
      have hm2 : ls.length = m - 1 := by omega
      refine ⟨rfl, ?_, ?_, fun _ => ⟨A3, c1 - 1, ?_, ?_⟩⟩
      · have h0 : Below g w w2 := HB2.out.mono (by omega)
        exact (((h0.setCell (Nat.le_refl g) _).setCell (Nat.le_refl g) _).setCell (Nat.le_refl g) _).drew
      · have := HB2.out.size
        simpa using this
      · have h1 := ((HK2.out.set_ 1 (.int .i64 y)).set_ 2 (.slice A3 (m - 1) (c1 - 1))).set_ 3 (.int .i64 x)
        show Blk _ g 152 #[.slice A n c, .int .i64 y, .slice A3 ls.length (c1 - 1), .int .i64 x]
        rw [hm2]
        exact h1
      · show ListsIn _ _ A3 ls.length _ ls
        rw [hm2]
        have hng : ¬ w.heap.size ≤ g := by omega
        have h1 := ((HL3.out.setCell (p := ⟨g, 1, none⟩) hng (.int .i64 y)).setCell (p := ⟨g, 2, none⟩) hng (.slice A3 (m - 1) (c1 - 1))).setCell (p := ⟨g, 3, none⟩) hng (.int .i64 x)
        exact h1

/-! ### Read -/
theorem results_tmp4 {fn : Func} {t u v x : Tmp} (h : fn.results = #[.tmp t, .tmp u, .tmp v, .tmp x]) (tmps : Array Value) (P : Program) (w : World) :
    (results fn tmps).run P w = .ok (.tuple #[tmps.getD t undef, tmps.getD u undef, tmps.getD v undef, tmps.getD x undef]) w := by
  simp [results, h]
theorem zero_e (l : List UInt8) : (sread l).e = 0 ∨ sread l = bad := by
  unfold sread sreads
  split
  · exact .inr rfl
  · split
    · exact .inl rfl
    · exact .inr rfl

set_option maxHeartbeats 800000 in
theorem segread_any (B : Nat) (A : Option Addr) (n c : Nat) (l : List UInt8) (w : World) (hr : Bytes w B A n c l) (hB : B ≤ w.heap.size) (hn : n ≤ 35184372088832) :
    Calls Tryz.prog 79 #[.slice A n c] w (SegRead w (sread l)) := by
  have HR := Lib.hid hr
  clear hr
  go_enter Tryz.func79, Tryz.ntmps79
  go_wp2_with fail
  refine (read_at B w.heap.size A n c l _ (Blk.new w _ _) (HR.out.alloc hB _) hB hn).mono ?_
  rintro e w1 ⟨rfl, hb1, hz1, h1⟩
  have HB1 : Hid (Below w.heap.size w w1) := ((Below.refl w.heap.size w).alloc (Nat.le_refl _) _).trans hb1
  rcases zero_e l with h0 | h0
  · obtain ⟨A1, c1, hk, hl⟩ := h1 h0
    have HL := Lib.hid (hl.mono (S' := (w.heap.size ≤ ·)) fun b (hb : _ ≤ b) => by simp at hb; omega)
    have hc1 : w1.cell? ⟨w.heap.size, 1, none⟩ = some (.int .i64 (sread l).x) := hk.cell 1
    have hc2 : w1.cell? ⟨w.heap.size, 2, none⟩ = some (.slice A1 (sread l).rows.length c1) := hk.cell 2
    have hc3 : w1.cell? ⟨w.heap.size, 3, none⟩ = some (.int .i64 (sread l).n) := hk.cell 3
    have H0 := Lib.hid h0
    rw [h0]
    clear hb1 hz1 h1 h0 hl hk
    generalize sread l = s at *
    obtain ⟨x, rows, m, k⟩ := s
    dsimp only at *
    generalize hrl : rows.length = r at *
    have HN := Lib.hid hrl
    clear hrl
    go_wp2
    go_region
    go_wp2
    try simp only [Exit.inBlock, Exit.then]
    refine bodyPost_ret (results_tmp4 rfl _ _ _) rfl ?_
    obtain rfl : k = 0 := H0.out
    refine ⟨A1, c1, by rw [HN.out]; rfl, ?_, HB1.out.drew⟩
    rw [HN.out]
    exact HL.out
  · have HX := Lib.hid h0
    rw [h0]
    clear hb1 hz1 h1 h0
    rw [show bad.e = 3 from rfl]
    go_wp2
    try simp only [Exit.inBlock, Exit.then]
    refine bodyPost_ret (results_tmp4 rfl _ _ _) rfl ?_
    rw [HX.out]
    exact segread_bad HB1.out

set_option maxHeartbeats 1600000 in
theorem refsegread_any (B : Nat) (A : Option Addr) (n c : Nat) (l : List UInt8) (w : World) (hr : Bytes w B A n c l) (hB : B ≤ w.heap.size) (hn : n ≤ 35184372088832) :
    Calls Tryz.prog 35 #[.slice A n c] w (SegRead w (sread l)) := by
  have HR := Lib.hid hr
  clear hr
  go_enter Tryz.func35, Tryz.ntmps35
  go_wp2_with fail
  refine (refscan_new B A n c l _ HR.out hB hn).mono ?_
  rintro e w1 ⟨A1, c1, rfl, hl1, hb1⟩
  have HL1 := Lib.hid hl1
  have HB1 := Lib.hid hb1
  clear hl1 hb1
  generalize hs : scan l = s at *
  obtain ⟨ls, x⟩ := s
  cases ls with
  | nil =>
    have HX := Lib.hid (show sread l = bad by unfold sread; rw [hs]; rfl)
    clear hs
    go_wp2
    try simp only [Exit.inBlock, Exit.then]
    refine bodyPost_ret (results_tmp4 rfl _ _ _) rfl ?_
    rw [HX.out]
    exact segread_bad HB1.out
  | cons p ls =>
    dsimp only at *
    obtain ⟨b, off, A2, n2, c2, q, rfl, hb, hcell, hy, hget, _⟩ := HL1.out.lists.at_ (k := 0) (by simp)
    simp only [List.getElem?_cons_zero, Option.some.injEq] at hget
    subst hget
    rw [Nat.add_zero] at hcell
    have HY := Lib.hid hy
    have HS := Lib.hid hs
    clear hy hs
    generalize hm : (p :: ls).length = m at *
    have hm1 : ls.length + 1 = m := by rw [← hm]; rfl
    have HM := Lib.hid hm1
    clear hm
    have hm0 : ¬ m = 0 := by omega
    have hm0' : ((m : Int) == 0) = false := by simp; omega
    go_wp2_with fail
    refine (refdecode_any _ A2 n2 c2 p _ HY.out (Nat.le_refl _)).mono ?_
    rintro e w2 ⟨A3, n3, c3, rfl, hf3, hb2⟩
    have HB2 := Lib.hid (held_two HB1.out hb2)
    have HL2 := Lib.hid (HL1.out.below hb2)
    clear hb2 hcell
    cases hd : dec p with
    | error k =>
      have hk := dec_bad hd
      have HX := Lib.hid (show sread l = bad by
        have hf : first p = none := by unfold first; rw [hd]; rfl
        unfold sread sreads; rw [HS.out]; simp only [hf])
      have hk0 : ((k : Int) != 0) = true := by simp; omega
      rw [show err (Except.error k : Except Nat (List Fld)) = k from rfl]
      clear hf3 hk hd
      go_wp2
      try simp only [Exit.inBlock, Exit.then]
      refine bodyPost_ret (results_tmp4 rfl _ _ _) rfl ?_
      rw [HX.out]
      exact segread_bad HB2.out
    | ok fs =>
      rw [hd] at hf3
      rw [show err (Except.ok fs) = 0 from rfl]
      rw [show got (Except.ok fs) = fs from rfl] at hf3
      have hlen := hf3.len
      have HD := Lib.hid hd
      clear hd
      by_cases h1 : n3 = 1
      · subst h1
        obtain ⟨b3, off3, f, rfl, hb3, hc0, hc1, _, hget, _⟩ := hf3.at_ (k := 0) (by omega)
        obtain rfl : fs = [f] := by
          match fs, hlen, hget with
          | [g], _, hget =>
            simp at hget
            rw [hget]
        rw [Nat.zero_mul, Nat.add_zero] at hc0 hc1
        clear hf3 hlen hget
        by_cases hk : f.kind = 1 ∧ 1 ≤ f.n ∧ f.n ≤ 1099511627776
        · have HX := Lib.hid (show sread l = ⟨f.n, ls, x, 0⟩ by
            have hf : first p = some f.n := by unfold first; rw [HD.out]; exact only_ok hk
            unfold sread sreads; rw [HS.out]; simp only [hf])
          obtain ⟨hk0, hk1, hk2⟩ := hk
          obtain ⟨y, z, s⟩ := f
          dsimp only at *
          subst hk0
          clear HD
          have hsl : ∀ w, (Instr.sliceAt 32 (.slice (some ⟨b, off, none⟩) m c1) (some (.int .i64 1)) none none).run Tryz.prog w = .ok (.slice (cutAt (some ⟨b, off, none⟩) c1 1) (m - 1) (c1 - 1)) w := fun w => run_cuts w _ m c1 1 (by omega)
          have HL3 := Lib.hid (HL2.out.cut (k := 1) (by omega))
          generalize cutAt (some ⟨b, off, none⟩) c1 1 = A4 at hsl HL3
          go_wp2
          go_region
          go_wp2
          try simp only [Exit.inBlock, Exit.then]
          refine bodyPost_ret (results_tmp4 rfl _ _ _) rfl ?_
          rw [HX.out]
          have hm2 : ls.length = m - 1 := by omega
          refine ⟨A4, c1 - 1, ?_, ?_, HB2.out.drew⟩
          · rw [hm2]; rfl
          · show ListsIn _ _ A4 ls.length _ ls
            rw [hm2]
            exact HL3.out
        · have HX := Lib.hid (show sread l = bad by
            have hf : first p = none := by unfold first; rw [HD.out]; exact only_bad hk
            unfold sread sreads; rw [HS.out]; simp only [hf])
          obtain ⟨y, z, s⟩ := f
          dsimp only at *
          clear HD
          by_cases hy : y = 1
          · subst hy
            by_cases hz : z < 1
            · clear hk
              go_wp2
              try simp only [Exit.inBlock, Exit.then]
              refine bodyPost_ret (results_tmp4 rfl _ _ _) rfl ?_
              rw [HX.out]
              exact segread_bad HB2.out
            · have hz2 : 1099511627776 < z := by omega
              clear hk
              go_wp2
              try simp only [Exit.inBlock, Exit.then]
              refine bodyPost_ret (results_tmp4 rfl _ _ _) rfl ?_
              rw [HX.out]
              exact segread_bad HB2.out
          · have hy' : (y != 1) = true := by simpa using hy
            clear hk
            go_wp2
            try simp only [Exit.inBlock, Exit.then]
            refine bodyPost_ret (results_tmp4 rfl _ _ _) rfl ?_
            rw [HX.out]
            exact segread_bad HB2.out
      · have HX := Lib.hid (show sread l = bad by
          have hf : first p = none := by unfold first; rw [HD.out]; exact only_len (by omega)
          unfold sread sreads; rw [HS.out]; simp only [hf])
        have h1' : ((n3 : Int) != 1) = true := by simp; omega
        clear hf3 hlen h1 HD
        go_wp2
        try simp only [Exit.inBlock, Exit.then]
        refine bodyPost_ret (results_tmp4 rfl _ _ _) rfl ?_
        rw [HX.out]
        exact segread_bad HB2.out
end Go.Proofs.YtedfddnbgljcjaaGreat.Seg
