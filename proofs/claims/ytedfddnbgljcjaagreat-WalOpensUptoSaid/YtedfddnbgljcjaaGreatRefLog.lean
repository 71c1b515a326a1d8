/-
  The document's log in memory: its own block, the row of its segments, each segment's row of entries; contracts of last, Low, Head, Read, own.
-/
import Derived.Test.YtedfddnbgljcjaaGreatWalBegin
import Derived.Test.YtedfddnbgljcjaaGreatWalRead
import Derived.Test.YtedfddnbgljcjaaGreatRefCut
import Derived.Test.YtedfddnbgljcjaaGreatEb
namespace Go.Proofs.YtedfddnbgljcjaaGreat.RLog
set_option linter.unusedVariables false
set_option maxRecDepth 100000
open Go.RowKit Base WalMath
open Go.Proofs.YtedfddnbgljcjaaGreat.Wal (Sp kept_type SgOk entry ReadS own_lt other_block quiet)
open Go.Proofs.YtedfddnbgljcjaaGreat.Disk (Turn Out I64 Fits own_same own_type)
open DiskMath (Fl Dk)
set_option linter.ambiguousOpen false

theorem es : Elem Tryz.prog 84 91 4 48 (.agg #[.int .i64 0, .int .i64 0, .int .i64 0, .slice none 0 0]) := Elem.of Tryz.underlying84 (by kernel_rfl) rfl (by omega)
/-- a segment's cells -/
def rgv (x : Sg × Sp) : List Value := [.int .i64 x.1.file, .int .i64 x.1.first, .int .i64 x.1.size, .slice x.2.A x.1.rows.length x.2.c]
def rflat (l : List (Sg × Sp)) : List Value := l.flatMap rgv
theorem rflat_cons (x : Sg × Sp) (l : List (Sg × Sp)) : rflat (x :: l) = rgv x ++ rflat l := List.flatMap_cons
theorem rflat_append (l m : List (Sg × Sp)) : rflat (l ++ m) = rflat l ++ rflat m := List.flatMap_append
theorem rflat_snoc (l : List (Sg × Sp)) (x : Sg × Sp) : rflat (l ++ [x]) = rflat l ++ rgv x := by rw [rflat_append, rflat_cons]; simp [rflat]
theorem rflat_length (l : List (Sg × Sp)) : (rflat l).length = l.length * 4 := by
  induction l with
  | nil => rfl
  | cons x l ih => rw [rflat_cons, List.length_append, ih, List.length_cons]; simp [rgv]; omega
theorem rflat_get : ∀ {l : List (Sg × Sp)} {i : Nat} {x : Sg × Sp}, l[i]? = some x → ∀ j, j < 4 → (rflat l)[i * 4 + j]? = (rgv x)[j]?
  | [], _, _, h, _, _ => by simp at h
  | y :: l, 0, x, h, j, hj => by
    simp only [List.getElem?_cons_zero, Option.some.injEq] at h
    subst h
    rw [rflat_cons, List.getElem?_append_left (by simp [rgv]; omega)]
    congr 1
    omega
  | y :: l, i + 1, x, h, j, hj => by
    rw [List.getElem?_cons_succ] at h
    rw [rflat_cons, List.getElem?_append_right (by simp [rgv]; omega), show (i + 1) * 4 + j - (rgv y).length = i * 4 + j by simp [rgv]; omega]
    exact rflat_get h j hj
theorem rgv_one (l : List (Sg × Sp)) : ∀ u ∈ rflat l, u.oneCell' = true := by
  intro u hu
  obtain ⟨x, _, hx⟩ := List.mem_flatMap.1 hu
  simp only [rgv, List.mem_cons, List.not_mem_nil, or_false] at hx
  rcases hx with rfl | rfl | rfl | rfl <;> rfl
def RSegs (G : Nat → Prop) (w : World) (A : Option Addr) (n c : Nat) (qs : List (Sg × Sp)) : Prop :=
  w.ownsRow 0 91 4 (.slice A n c) n (rflat qs) ∧ (∀ b, (Value.slice A n c).ownBlock = some b → G b) ∧ ∀ x ∈ qs, ListsIn w G x.2.A x.1.rows.length x.2.c x.1.rows
def RLaid (G : Nat → Prop) (w : World) (g h : Nat) (segs : List Sg) (ba sz : Int) (A : Option Addr) (n c : Nat) (qs : List (Sg × Sp)) : Prop :=
  qs.map (·.1) = segs ∧ Blk w g 86 #[.pointer (some ⟨h, 0, none⟩), .int .i64 ba, .int .i64 sz, .slice A n c, .int .i64 (-1)] ∧ G g ∧ RSegs G w A n c qs
/-- block g is the document's log of these segments, over the disk at block h; all that is its own is in G -/
def RLogAt (G : Nat → Prop) (w : World) (g h : Nat) (segs : List Sg) (ba sz : Int) : Prop := ∃ A n c qs, RLaid G w g h segs ba sz A n c qs
section
variable {G G' : Nat → Prop} {w w' w1 : World} {g h n c : Nat} {segs : List Sg} {ba sz : Int} {A : Option Addr} {qs : List (Sg × Sp)}
theorem RSegs.len (h : RSegs G w A n c qs) : qs.length = n := by
  have := h.1.1
  rw [rflat_length] at this
  omega
theorem RSegs.keep (h : RSegs G w A n c qs) (hz : w.heap.size ≤ w'.heap.size) (hk : ∀ i, i < w.heap.size → G i → w'.heap[i]? = w.heap[i]?) : RSegs G w' A n c qs :=
  ⟨Disk.own_same h.1 fun b hb => hk b (own_lt h.1 hb) (h.2.1 b hb), h.2.1, fun x hx => (h.2.2 x hx).keep hz fun b hb hlt => hk b hlt hb⟩
theorem RLaid.keep (h' : RLaid G w g h segs ba sz A n c qs) (hz : w.heap.size ≤ w'.heap.size) (hk : ∀ i, i < w.heap.size → G i → w'.heap[i]? = w.heap[i]?) : RLaid G w' g h segs ba sz A n c qs :=
  ⟨h'.1, (hk g h'.2.1.lt h'.2.2.1).trans h'.2.1, h'.2.2.1, h'.2.2.2.keep hz hk⟩
theorem RLaid.mono (h' : RLaid G w g h segs ba sz A n c qs) (hG : ∀ i, G i → G' i) : RLaid G' w g h segs ba sz A n c qs :=
  ⟨h'.1, h'.2.1, hG _ h'.2.2.1, h'.2.2.2.1, fun b hb => hG b (h'.2.2.2.2.1 b hb), fun x hx => (h'.2.2.2.2.2 x hx).mono hG⟩
theorem RLaid.new (h' : RLaid G w g h segs ba sz A n c qs) (hb : Below w.heap.size w w') : RLaid G w' g h segs ba sz A n c qs := h'.keep hb.size fun i hi _ => hb.block i hi
theorem RLogAt.keep (h' : RLogAt G w g h segs ba sz) (hz : w.heap.size ≤ w'.heap.size) (hk : ∀ i, i < w.heap.size → G i → w'.heap[i]? = w.heap[i]?) : RLogAt G w' g h segs ba sz := by
  obtain ⟨A, n, c, qs, h'⟩ := h'
  exact ⟨A, n, c, qs, h'.keep hz hk⟩
theorem RLogAt.mono (h' : RLogAt G w g h segs ba sz) (hG : ∀ i, G i → G' i) : RLogAt G' w g h segs ba sz := by
  obtain ⟨A, n, c, qs, h'⟩ := h'
  exact ⟨A, n, c, qs, h'.mono hG⟩
theorem RLogAt.new (h' : RLogAt G w g h segs ba sz) (hb : Below w.heap.size w w') : RLogAt G w' g h segs ba sz := h'.keep hb.size fun i hi _ => hb.block i hi
theorem RLaid.len (h' : RLaid G w g h segs ba sz A n c qs) : segs.length = n := by
  have h1 := h'.2.2.2.len
  rw [← h'.1, List.length_map]
  exact h1
/-- the place of a segment -/
theorem RLaid.at_ (h' : RLaid G w g h segs ba sz A n c qs) {k : Nat} {s : Sg} (hs : segs[k]? = some s) :
    ∃ (b : Nat) (q : Sp), A = some ⟨b, 0, none⟩ ∧ b < w.heap.size ∧ k < n ∧ (n ≤ c ∧ c ≤ 9223372036854775807) ∧ ListsIn w G q.A s.rows.length q.c s.rows ∧
      w.cell? ⟨b, k * 4, none⟩ = some (.int .i64 s.file) ∧ w.cell? ⟨b, k * 4 + 1, none⟩ = some (.int .i64 s.first) ∧ w.cell? ⟨b, k * 4 + 2, none⟩ = some (.int .i64 s.size) ∧ w.cell? ⟨b, k * 4 + 3, none⟩ = some (.slice q.A s.rows.length q.c) := by
  have hk : k < n := by
    have := (List.getElem?_eq_some_iff.1 hs).1
    rw [h'.len] at this
    exact this
  rw [← h'.1, List.getElem?_map] at hs
  cases hq : qs[k]? with
  | none => rw [hq] at hs; cases hs
  | some x =>
    rw [hq] at hs
    obtain ⟨s', q⟩ := x
    obtain rfl : s' = s := Option.some.inj hs
    obtain ⟨hown, hG, hE⟩ := h'.2.2.2
    have hrow := Row.of_own hown
    obtain ⟨b, off, e, hb, hc⟩ := hrow.2.2.2 (by omega)
    have e0 : off = 0 := by
      rcases hown.2 with ⟨hv, _⟩ | ⟨b', cap, cur, hv, _⟩
      · simp only [Value.slice.injEq] at hv; omega
      · simp only [Value.slice.injEq] at hv
        rw [e] at hv
        have := hv.1
        injection this with this
        injection this
    subst e0
    have hcell : ∀ j, j < 4 → ∀ u, (rgv (s', q))[j]? = some u → w.cell? ⟨b, k * 4 + j, none⟩ = some u := fun j hj u hu => by
      have := hc (k * 4 + j) u (by rw [rflat_get hq j hj]; exact hu)
      rwa [Nat.zero_add] at this
    exact ⟨b, q, e, hb, hk, hrow.le, hE _ (List.mem_of_getElem? hq), hcell 0 (by omega) _ rfl, hcell 1 (by omega) _ rfl, hcell 2 (by omega) _ rfl, hcell 3 (by omega) _ rfl⟩
/-- a segment more -/
theorem RLaid.push (h' : RLaid G w g h segs ba sz A n c qs) {A' : Option Addr} {c' : Nat} {s : Sg} {q : Sp} (hown : w1.ownsRow 0 91 4 (.slice A' (n + 1) c') (n + 1) (rflat qs ++ rgv (s, q))) (hg : Grew w (Value.slice A n c).ownBlock w1 (.slice A' (n + 1) c'))
    (hE : ListsIn w G q.A s.rows.length q.c s.rows) :
    RLaid (Out G w w1) (w1.setCell ⟨g, 3, none⟩ (.slice A' (n + 1) c')) g h (segs ++ [s]) ba sz A' (n + 1) c' (qs ++ [(s, q)]) ∧ Turn G w (w1.setCell ⟨g, 3, none⟩ (.slice A' (n + 1) c')) := by
  obtain ⟨h1, h2, h3, h4, h5, h6⟩ := h'
  have hk : ∀ (i : Nat) (cur : Array Value) (e : TypeId), e ≠ 91 → w.heap[i]? = some (.cells cur e (0, 0)) → w1.heap[i]? = some (.cells cur e (0, 0)) := fun i cur e hne hi => kept_type hg.1 (fun b hb => own_type h4 hb) hne hi
  have hbk : Blk w1 g 86 _ := hk g _ _ (by decide) h2
  have hk2 : ∀ (i : Nat) (cur : Array Value) (e : TypeId), e ≠ 91 → e ≠ 86 → w.heap[i]? = some (.cells cur e (0, 0)) → (w1.setCell ⟨g, 3, none⟩ (.slice A' (n + 1) c')).heap[i]? = w.heap[i]? := fun i cur e hne hne2 hi => (other_block (p := ⟨g, 3, none⟩) hbk (hk i cur e hne hi) hne2).trans hi.symm
  have hz : w.heap.size ≤ (w1.setCell ⟨g, 3, none⟩ (.slice A' (n + 1) c')).heap.size := by simpa using hg.1.size
  refine ⟨⟨by rw [List.map_append, h1]; rfl, Blk.set_ hbk 3 _, .inl h3, ?_, fun b hb => ?_, fun x hx => ?_⟩, (Turn.grown hg.1 h5).setCell (.inl h3) _⟩
  · rw [rflat_snoc]
    refine own_same hown fun b hb => ?_
    obtain ⟨cur, hc⟩ := own_type hown hb
    exact (other_block (p := ⟨g, 3, none⟩) hbk hc (by decide)).trans hc.symm
  · rcases hg.2 with e | e
    · exact .inl (h5 b (by rw [← e]; exact hb))
    · exact .inr ⟨e b hb, (hown.lt b hb).2⟩
  · have hL : ListsIn w G x.2.A x.1.rows.length x.2.c x.1.rows := by
      rcases List.mem_append.1 hx with hx | hx
      · exact h6 x hx
      · rw [List.mem_singleton] at hx
        subst hx
        exact hE
    exact (Wal.ListsIn.keep2 hL hz (fun b cur _ hb => hk2 b cur _ (by decide) (by decide) hb) (fun b cur hb => hk2 b cur _ (by decide) (by decide) hb)).mono fun i hi => .inl hi
end

theorem rlast_any (G : Nat → Prop) (g h : Nat) (segs : List Sg) (ba sz : Int) (m : Nat) (w : World) (hl : RLogAt G w g h segs ba sz) (hm : segs.length = m + 1) (hs : m ≤ 16384) :
    Calls Tryz.prog 37 #[.pointer (some ⟨g, 0, none⟩)] w fun e w' => e = .returned (.int .i64 m) ∧ w = w' := by
  obtain ⟨A, n, c, qs, hl⟩ := hl
  have c3 : w.cell? ⟨g, 3, none⟩ = some (.slice A n c) := hl.2.1.cell 3
  have hn : m + 1 = n := by rw [← hm]; exact hl.len
  clear hl hm
  have hwp : IntKind.i64.wrap ((n : Int) - 1) = m := by rw [IntWalk.i64_in _ (by omega)]; omega
  go_enter Tryz.func37, Tryz.ntmps37
  go_wp2
  go_ret
  exact ⟨ret_int (by omega), rfl⟩
theorem rlow_any (G : Nat → Prop) (g h : Nat) (segs : List Sg) (ba sz : Int) (w : World) (hl : RLogAt G w g h segs ba sz) :
    Calls Tryz.prog 43 #[.pointer (some ⟨g, 0, none⟩)] w fun e w' => e = .returned (.int .i64 (low segs)) ∧ w = w' := by
  obtain ⟨A, n, c, qs, hl⟩ := hl
  have c3 : w.cell? ⟨g, 3, none⟩ = some (.slice A n c) := hl.2.1.cell 3
  have hlen := hl.len
  cases segs with
  | nil =>
    obtain rfl : 0 = n := hlen
    clear hl
    go_enter Tryz.func43, Tryz.ntmps43
    go_wp2
    go_ret
    exact ⟨rfl, rfl⟩
  | cons s r =>
    obtain ⟨b, q, rfl, hb, hpn, ⟨hnc, hcm⟩, _, _, k1, _, _⟩ := hl.at_ (k := 0) (s := s) rfl
    rw [Nat.zero_mul, Nat.zero_add] at k1
    have hn0 : ((n : Int) == 0) = false := by simp; omega
    clear hl
    go_enter Tryz.func43, Tryz.ntmps43
    go_wp2
    go_ret
    exact ⟨rfl, rfl⟩
set_option maxHeartbeats 1600000 in
theorem rhead_any (G : Nat → Prop) (g h : Nat) (segs : List Sg) (ba sz : Int) (w : World) (hl : RLogAt G w g h segs ba sz) (ho : ∀ s ∈ segs, SgOk s) (hN : segs.length ≤ 16384) :
    Calls Tryz.prog 44 #[.pointer (some ⟨g, 0, none⟩)] w fun e w' => e = .returned (.int .i64 (hd segs)) ∧ Below w.heap.size w w' := by
  have HLG := Lib.hid hl
  obtain ⟨A, n, c, qs, hl⟩ := hl
  have c3 : w.cell? ⟨g, 3, none⟩ = some (.slice A n c) := hl.2.1.cell 3
  have hlen := hl.len
  rcases List.eq_nil_or_concat segs with e | ⟨pre, s, e⟩
  · rw [e] at hlen ⊢
    obtain rfl : 0 = n := hlen
    clear hl ho e HLG
    go_enter Tryz.func44, Tryz.ntmps44
    go_wp2
    go_ret
    exact ⟨rfl, Below.refl _ _⟩
  · rw [List.concat_eq_append] at e
    have hpl : segs.length = pre.length + 1 := by rw [e]; simp
    rw [hpl] at hlen
    obtain ⟨b, q, rfl, hb, hpn, ⟨hnc, hcm⟩, _, k0, k1, k2, k3⟩ := hl.at_ (k := pre.length) (s := s) (by rw [e]; simp)
    have hs := ho s (by rw [e]; simp)
    have HC := Lib.hid (fun wx (hx : Below w.heap.size w wx) => rlast_any G g h segs ba sz pre.length wx (HLG.out.new hx) hpl (by omega))
    have HE : Hid (hd segs = last s) := by show _ = _; rw [e, hd_snoc]
    have HL := Lib.hid (show last s = s.first + s.rows.length - 1 from rfl)
    obtain ⟨_, _, h1, h2, _⟩ := hs
    rw [HL.out] at h2
    clear hl ho e HLG hpl
    obtain ⟨f, x, rows, z⟩ := s
    dsimp only at *
    generalize rows.length = r at *
    generalize pre.length = p at *
    have hn0 : ((n : Int) == 0) = false := by simp; omega
    clear hlen
    go_enter Tryz.func44, Tryz.ntmps44
    go_wp2
    have hx2 : IntKind.i64.wrap (x - 1) = x - 1 := IntWalk.i64_in _ (by omega)
    have hx3 : IntKind.i64.wrap (x - 1 + (r : Int)) = x - 1 + r := IntWalk.i64_in _ (by omega)
    have hbs : ∀ o, Below w.heap.size w (w.drew.alloc o) := fun o => (held_start w).alloc (held_start w).size o
    have hh : ∀ wx, Below w.heap.size w wx → wx.cell? ⟨g, 3, none⟩ = some (.slice (some ⟨b, 0, none⟩) n c) ∧ wx.cell? ⟨b, p * 4, none⟩ = some (.int .i64 f) ∧ wx.cell? ⟨b, p * 4 + 1, none⟩ = some (.int .i64 x) ∧ wx.cell? ⟨b, p * 4 + 2, none⟩ = some (.int .i64 z) ∧ wx.cell? ⟨b, p * 4 + 3, none⟩ = some (.slice q.A r q.c) ∧ Below w.heap.size w wx := fun wx hx => ⟨held_cell hx c3, held_cell hx k0, held_cell hx k1, held_cell hx k2, held_cell hx k3, hx⟩
    have HH := Lib.hid hh
    go_region_held3 (fun wx => wx.cell? ⟨g, 3, none⟩ = some (.slice (some ⟨b, 0, none⟩) n c) ∧ wx.cell? ⟨b, p * 4, none⟩ = some (.int .i64 f) ∧ wx.cell? ⟨b, p * 4 + 1, none⟩ = some (.int .i64 x) ∧ wx.cell? ⟨b, p * 4 + 2, none⟩ = some (.int .i64 z) ∧ wx.cell? ⟨b, p * 4 + 3, none⟩ = some (.slice q.A r q.c) ∧ Below w.heap.size w wx)
      (first | exact HH.out _ (held_start w) | exact HH.out _ (hbs _) | exact HH.out _ ((hbs _).setCell (Nat.le_refl _) _) | assumption | fail)
      (first
        | (go_at_call 37; refine (HC.out _ (by first | exact held_start w | exact hbs _)).mono ?_; rintro e wc ⟨rfl, rfl⟩)
        | fail)
    all_goals (
      go_wp2
      go_ret
      exact ⟨ret_int (by rw [HE.out, HL.out]; omega), by first | exact hbs _ | exact (hbs _).setCell (Nat.le_refl _) _⟩)
end Go.Proofs.YtedfddnbgljcjaaGreat.RLog

namespace Go.Proofs.YtedfddnbgljcjaaGreat.RLog
set_option linter.unusedVariables false
set_option maxRecDepth 100000
open Go.RowKit Base WalMath
open Go.Proofs.YtedfddnbgljcjaaGreat.Wal (Sp SgOk entry ReadS)
open Go.Proofs.YtedfddnbgljcjaaGreat.Disk (Turn Out I64 Fits)
open Go.Proofs.YtedfddnbgljcjaaGreat.Ref (RefAt RHead RBody RRow BAt Bl fcell fcells ef fcells_append fcells_one fcells_cons)
open DiskMath (Fl Dk)
set_option linter.ambiguousOpen false

theorem runs_next {x : Int} {l : List Sg} (h : Runs x l) {j : Nat} {t u : Sg} (ht : l[j]? = some t) (hu : l[j + 1]? = some u) : u.first = t.first + t.rows.length := by
  induction l generalizing x j with
  | nil => simp at ht
  | cons v l ih =>
    cases j with
    | zero =>
      simp only [List.getElem?_cons_zero, Option.some.injEq] at ht
      subst ht
      rw [List.getElem?_cons_succ] at hu
      cases l with
      | nil => simp at hu
      | cons y l =>
        simp only [List.getElem?_cons_zero, Option.some.injEq] at hu
        subst hu
        have h1 := h.1
        have h2 := h.2.1
        omega
    | succ j =>
      rw [List.getElem?_cons_succ] at ht hu
      exact ih h.2 ht hu

set_option maxHeartbeats 1600000 in
theorem rread_no (G : Nat → Prop) (g h : Nat) (segs : List Sg) (ba sz lsn : Int) (w : World) (hl : RLogAt G w g h segs ba sz) (ho : ∀ s ∈ segs, SgOk s) (hN : segs.length ≤ 16384) (hn : ¬ (low segs ≤ lsn ∧ lsn ≤ hd segs)) :
    Calls Tryz.prog 45 #[.pointer (some ⟨g, 0, none⟩), .int .i64 lsn] w (ReadS w none) := by
  have HA := Lib.hid (rlow_any G g h segs ba sz w hl)
  have HB := Lib.hid (rhead_any G g h segs ba sz w hl ho hN)
  clear hl ho
  by_cases h1 : lsn < low segs
  · have q1 : decide (lsn < low segs) = true := decide_eq_true h1
    clear hn
    generalize low segs = lo at *
    go_enter Tryz.func45, Tryz.ntmps45
    go_wp2_with fail
    refine HA.out.mono ?_
    rintro e w1 ⟨rfl, rfl⟩
    go_wp2
    go_ret2
    exact ⟨rfl, Below.refl _ _⟩
  · have h2 : hd segs < lsn := by omega
    have q1 : decide (lsn < low segs) = false := decide_eq_false h1
    have q2 : decide (hd segs < lsn) = true := decide_eq_true h2
    clear hn
    generalize low segs = lo at *
    generalize hd segs = hi at *
    go_enter Tryz.func45, Tryz.ntmps45
    go_wp2_with fail
    refine HA.out.mono ?_
    rintro e w1 ⟨rfl, rfl⟩
    go_wp2_with fail
    refine HB.out.mono ?_
    rintro e w1 ⟨rfl, hb1⟩
    have HB1 := Lib.hid hb1
    clear hb1
    go_wp2
    go_ret2
    exact ⟨rfl, HB1.out⟩

set_option maxHeartbeats 3200000 in
theorem rread_yes (G : Nat → Prop) (g h : Nat) (segs : List Sg) (ba sz lsn : Int) (k m : Nat) (s : Sg) (p : List UInt8) (w : World) (hl : RLogAt G w g h segs ba sz) (ho : ∀ s ∈ segs, SgOk s) (hN : segs.length ≤ 16384) (hr : Runs (low segs) segs) (hlo : low segs ≤ lsn) (hhi : lsn ≤ hd segs)
    (hs : segs[k]? = some s) (hm : lsn - s.first = m) (hml : m < s.rows.length) (hp : s.rows[m]? = some p) (hbs : ∀ (j : Nat) (t : Sg), segs[j]? = some t → (j ≤ k → t.first ≤ lsn) ∧ (k < j → lsn < t.first)) (hlb : lsn ≤ 1099511627776) (hl0 : 0 ≤ lsn) :
    Calls Tryz.prog 45 #[.pointer (some ⟨g, 0, none⟩), .int .i64 lsn] w (ReadS w (some p)) := by
  have HA := Lib.hid (rlow_any G g h segs ba sz w hl)
  have HB := Lib.hid (rhead_any G g h segs ba sz w hl ho hN)
  have HL := Lib.hid hl
  have HO := Lib.hid ho
  have HS := Lib.hid hs
  have HP := Lib.hid hp
  have HBS := Lib.hid hbs
  have HR := Lib.hid hr
  have HM := Lib.hid hm
  have HML := Lib.hid hml
  have q1 : decide (lsn < low segs) = false := decide_eq_false (by omega)
  have q2 : decide (hd segs < lsn) = false := decide_eq_false (by omega)
  have hkn : k < segs.length := (List.getElem?_eq_some_iff.1 hs).1
  clear hl ho hs hp hbs hr hlo hhi hm hml
  generalize low segs = lo at HA q1
  generalize hd segs = hi at HB q2
  go_enter Tryz.func45, Tryz.ntmps45
  go_wp2_with fail
  refine HA.out.mono ?_
  rintro e w1 ⟨rfl, rfl⟩
  go_wp2_with fail
  refine HB.out.mono ?_
  rintro e w1 ⟨rfl, hb1⟩
  have HB1 := Lib.hid hb1
  have HL1 := Lib.hid (HL.out.new hb1)
  clear hb1 HL HA HB
  go_wp2
  go_loopw [6, 7] (fun vi _ wr => ∃ j : Nat, vi = .int .i64 j ∧ j ≤ k ∧ w1 = wr) (fun vi _ _ => k + 1 - (intOf vi).toNat)
  case atStart => exact ⟨0, rfl, Nat.zero_le _, rfl⟩
  case round =>
    obtain ⟨j, rfl, hj, rfl⟩ := hrel
    obtain ⟨A, n, c, qs, hX⟩ := HL1.out
    have c3 : w1.cell? ⟨g, 3, none⟩ = some (.slice A n c) := hX.2.1.cell 3
    have hlen := hX.len
    obtain ⟨t, ht⟩ : ∃ t, segs[j]? = some t := ⟨_, List.getElem?_eq_getElem (by omega)⟩
    obtain ⟨b, q, rfl, hb, hpn, hnc, hin, k0, k1, k2, k3⟩ := hX.at_ ht
    have hok := HO.out t (List.mem_of_getElem? ht)
    have hbd := hok.bd
    have hf1 : 1 ≤ t.first := hok.2.2.1
    have l0 : (j : Int) < (n : Int) := by omega
    have hwx : IntKind.i64.wrap (lsn - t.first) = lsn - t.first := IntWalk.i64_in _ (by omega)
    have HIN := Lib.hid hin
    clear hX hin hok
    by_cases hjk : j < k
    · obtain ⟨u, hu⟩ : ∃ u, segs[j + 1]? = some u := ⟨_, List.getElem?_eq_getElem (by omega)⟩
      have h1 := runs_next HR.out ht hu
      have h2 := (HBS.out (j + 1) u hu).1 (by omega)
      have l1 : ¬ lsn - t.first < (t.rows.length : Int) := by omega
      clear ht hu h1 h2
      generalize t.rows.length = r at *
      generalize t.first = f at *
      go_wp2
      go_roundw
      case rel => exact ⟨j + 1, by go_num, by omega, by first | rfl | trivial⟩
      case measure => simp [intOf]; omega
    · obtain rfl : j = k := by omega
      obtain rfl : s = t := by have := HS.out; rw [ht] at this; injection this with this; exact this.symm
      obtain ⟨b2, o2, A4, n4, c4, p4, hA4, hb4, hcell4, hy4, hget4, _⟩ := HIN.out.lists.at_ (k := m) HML.out
      obtain rfl : p4 = p := by have := HP.out; rw [hget4] at this; exact Option.some.inj this
      have hn4 := hy4.len
      rw [hA4] at k3
      have hle4 := HIN.out.lists.le
      have HY4 := Lib.hid hy4
      have hmm := HM.out
      have hml2 := HML.out
      have hwm : IntKind.i64.wrap (lsn - s.first) = m := by rw [IntWalk.i64_in _ (by omega)]; exact hmm
      have l1 : (m : Int) < (s.rows.length : Int) := by omega
      have hp4 : n4 ≤ 1048576 := by
        have hok := HO.out s (List.mem_of_getElem? ht)
        have := hok.2.2.2.2.2 p4 (List.mem_of_getElem? hget4)
        omega
      have hcell5 : ∀ o, (w1.alloc o).cell? ⟨b2, o2 + m, none⟩ = some (.slice A4 n4 c4) := fun o => Lib.cell?_alloc_some o hcell4
      have c5 : ∀ o, (w1.alloc o).cell? ⟨g, 3, none⟩ = some (.slice (some ⟨b, 0, none⟩) n c) := fun o => Lib.cell?_alloc_some o c3
      have k5 : ∀ o, (w1.alloc o).cell? ⟨b, j * 4 + 3, none⟩ = some (.slice (some ⟨b2, o2, none⟩) s.rows.length q.c) := fun o => Lib.cell?_alloc_some o k3
      clear hA4 hget4 hy4 ht hwx hf1 HIN HP HBS HS HO HR
      generalize s.rows.length = r at *
      generalize s.first = f at *
      generalize q.c = cq at *
      subst hn4
      clear hmm
      go_wp2_with (first
        | (at_builtin
           (refine wpList_append_row rfl (.tmp 48) (.tmp 59) rfl Field.eb w1.heap.size _ 0 [] rfl (own_empty _ _ _ _ rfl (Nat.le_refl _)) w1.heap.size A4 p4.length c4 (bv p4) rfl (HY4.out.below ((Below.refl _ _).alloc (Nat.le_refl _) _)) (by intro u hu; obtain ⟨x, _, rfl⟩ := List.mem_map.1 hu; rfl) (by omega) (by omega) (by simp) ?_)
           intro A5 c5 w5 hown5 _ hb5
           rw [Nat.zero_add, List.nil_append] at hown5
           rw [Nat.zero_add]
           have HO5 := Lib.hid (own_mono hown5 HB1.out.size)
           have HB5 := Lib.hid (held_two HB1.out (((Below.refl w1.heap.size w1).alloc (Nat.le_refl _) _).trans hb5))
           clear hown5 hb5)
        | fail)
      go_ret2
      exact ⟨A5, c5, rfl, HO5.out, HB5.out⟩

theorem rread_any (G : Nat → Prop) (g h : Nat) (segs : List Sg) (ba sz lsn : Int) (w : World) (hl : RLogAt G w g h segs ba sz) (ho : ∀ s ∈ segs, SgOk s) (hN : segs.length ≤ 16384) (hr : Runs (low segs) segs) :
    Calls Tryz.prog 45 #[.pointer (some ⟨g, 0, none⟩), .int .i64 lsn] w (ReadS w (entry segs lsn)) := by
  unfold entry
  by_cases hn : low segs ≤ lsn ∧ lsn ≤ hd segs
  · rw [if_pos hn]
    have h0 : segs ≠ [] := fun e => by
      rw [e] at hn
      have a : low [] = 1 := rfl
      have b : hd [] = 0 := rfl
      omega
    have hh := runs_hd hr h0
    have hbd := Wal.hd_bd ho
    obtain ⟨k, s, h1, h2, h3, h4, h5⟩ := runs_at hr hn.1 (by omega)
    have hok := (ho s (List.mem_of_getElem? h1)).2.2.1
    obtain ⟨m, hm⟩ := Int.eq_ofNat_of_zero_le (show 0 ≤ lsn - s.first by omega)
    rw [hm, Int.toNat_natCast] at h4
    rw [hm] at h3
    have hlt : m < s.rows.length := by omega
    rw [List.getElem?_eq_getElem hlt] at h4
    rw [← h4]
    exact rread_yes G g h segs ba sz lsn k m s _ w hl ho hN hr hn.1 hn.2 h1 hm hlt (List.getElem?_eq_getElem hlt) h5 (by omega) (by omega)
  · rw [if_neg hn]
    exact rread_no G g h segs ba sz lsn w hl ho hN hn
end Go.Proofs.YtedfddnbgljcjaaGreat.RLog

namespace Go.Proofs.YtedfddnbgljcjaaGreat.RLog
set_option linter.unusedVariables false
set_option maxRecDepth 100000
open Go.RowKit Base WalMath
open Go.Proofs.YtedfddnbgljcjaaGreat.Disk (Turn Out I64 Fits)
open Go.Proofs.YtedfddnbgljcjaaGreat.Ref (RefAt RHead RHead.cells RBody RRow BAt Bl fcell fcells ef fcells_append fcells_one fcells_cons fcells_length)
open DiskMath (Fl Dk)
set_option linter.ambiguousOpen false

/-- the first files that are the log's -/
def ownTo (d : Dk) (ba : Int) (j : Nat) : List Fl := (d.files.take j).filter (mine ba)
theorem ownTo_end (d : Dk) (ba : Int) : ownTo d ba d.files.length = own d ba := by unfold ownTo own; rw [List.take_length]
theorem ownTo_yes {d : Dk} {ba : Int} {j : Nat} {x : Fl} (hx : d.files[j]? = some x) (h0 : ba ≤ x.id) (h1 : x.id < ba + 4096) : ownTo d ba (j + 1) = ownTo d ba j ++ [x] := by
  obtain ⟨hj, rfl⟩ := List.getElem?_eq_some_iff.1 hx
  unfold ownTo
  rw [List.take_succ_eq_append_getElem hj, List.filter_append]
  have : mine ba d.files[j] = true := decide_eq_true ⟨h0, h1⟩
  simp [this]
theorem ownTo_no {d : Dk} {ba : Int} {j : Nat} {x : Fl} (hx : d.files[j]? = some x) (h : ¬ (ba ≤ x.id ∧ x.id < ba + 4096)) : ownTo d ba (j + 1) = ownTo d ba j := by
  obtain ⟨hj, rfl⟩ := List.getElem?_eq_some_iff.1 hx
  unfold ownTo
  rw [List.take_succ_eq_append_getElem hj, List.filter_append]
  have : mine ba d.files[j] = false := decide_eq_false h
  simp [this]
theorem ownTo_le (d : Dk) (ba : Int) (j : Nat) : (ownTo d ba j).length ≤ j := by
  unfold ownTo
  exact Nat.le_trans (List.length_filter_le _ _) (by rw [List.length_take]; omega)
def Owned (w : World) (bl : Int → Bl) (l : List Fl) (e : Ending) (w' : World) : Prop := ∃ A c, e = .returned (.slice A l.length c) ∧ w'.ownsRow w.heap.size 79 3 (.slice A l.length c) l.length (fcells l bl) ∧ Below w.heap.size w w'

set_option maxHeartbeats 3200000 in
theorem own_any (F : Nat → Prop) (h : Nat) (d : Dk) (A : Option Addr) (c : Nat) (bl : Int → Bl) (ba : Int) (w : World) (hh : RHead w h d A d.files.length c) (hb : RBody w F d.files A c bl) (hb0 : 0 ≤ ba) (hb1 : ba ≤ 12288) :
    Calls Tryz.prog 34 #[.pointer (some ⟨h, 0, none⟩), .int .i64 ba] w (Owned w bl (own d ba)) := by
  have hN := hb.2.2.2.le
  have hhl : h < w.heap.size := Blk.lt hh
  have HH := Lib.hid hh.cells.1
  have HB := Lib.hid hb
  have hwb : IntKind.i64.wrap (ba + 4096) = ba + 4096 := IntWalk.i64_in _ (by omega)
  rw [← ownTo_end]
  generalize hNN : d.files.length = N at *
  have HN := Lib.hid hNN
  clear hh hb hNN
  go_enter Tryz.func34, Tryz.ntmps34
  go_wp2
  go_loopw [6, 5] (fun vi vo wr => ∃ (j : Nat) (A' : Option Addr) (c' : Nat), vi = .int .i64 j ∧ j ≤ N ∧ vo = .slice A' (ownTo d ba j).length c' ∧ wr.ownsRow w.heap.size 79 3 (.slice A' (ownTo d ba j).length c') (ownTo d ba j).length (fcells (ownTo d ba j) bl) ∧ Below w.heap.size w wr) (fun vi _ _ => N - (intOf vi).toNat)
  case atStart => exact ⟨0, none, 0, rfl, Nat.zero_le _, rfl, World.ownsRow_nil _ _ _ _, Below.refl _ _⟩
  case round =>
    obtain ⟨j, A', c', rfl, hj, rfl, hown, hbw⟩ := hrel
    have HO := Lib.hid hown
    have HBW := Lib.hid hbw
    have c0 : wr.cell? ⟨h, 0, none⟩ = some (.slice A N c) := (hbw.cell (p := ⟨h, 0, none⟩) hhl).trans HH.out
    clear hown hbw
    by_cases hjn : j < N
    · obtain ⟨x, hx⟩ : ∃ x, d.files[j]? = some x := ⟨_, List.getElem?_eq_getElem (by rw [HN.out]; exact hjn)⟩
      obtain ⟨g, cur, rfl, _, hbk, _, j0, j1, j2⟩ := HB.out.at_ hx
      have e0 := held_cell HBW.out j0
      have e1 := held_cell HBW.out j1
      have e2 := held_cell HBW.out j2
      have hml := ownTo_le d ba j
      have HX := Lib.hid hx
      have l0 : (j : Int) < (N : Int) := by omega
      clear hx hbk j0 j1 j2
      by_cases h1 : ba ≤ x.id
      · have q1 : decide (ba ≤ x.id) = true := decide_eq_true h1
        by_cases h2 : x.id < ba + 4096
        · have q2 : decide (x.id < ba + 4096) = true := decide_eq_true h2
          have HNX := Lib.hid (ownTo_yes HX.out h1 h2)
          have hrow : ∀ w2 : World, Row (w2.alloc (.cells #[.int .i64 x.id, .int .i64 x.safe, .slice (bl x.id).A x.b.length (bl x.id).c] 79)) (w2.heap.size + 1) 3 (some ⟨w2.heap.size, 0, none⟩) 1 1 (fcell bl x) := fun w2 => Row.lit w2 #[.int .i64 x.id, .int .i64 x.safe, .slice (bl x.id).A x.b.length (bl x.id).c] _ (0, 0) rfl rfl (by omega)
          have HROW := Lib.hid hrow
          have HONE : Hid (∀ u ∈ fcell bl x, u.oneCell' = true) := by
            show ∀ u ∈ fcell bl x, u.oneCell' = true
            have := fcells_one [x] bl
            simpa [fcells] using this
          have HF1 : Hid (∀ l, fcells (l ++ [x]) bl = fcells l bl ++ fcell bl x) := fun l => by rw [fcells_append]; simp [fcells]
          clear hrow h1 h2
          generalize ownTo d ba j = L at *
          generalize hm : L.length = m at *
          have HM := Lib.hid hm
          clear hm
          go_wp2_with (first
            | (at_builtin
               (refine wpList_append_row rfl (.tmp 39) (.tmp 47) rfl ef w.heap.size _ m (fcells L bl) rfl (own_keep HO.out ((Below.refl _ _).alloc (Nat.le_refl _) _)) (wr.heap.size + 1) (some ⟨wr.heap.size, 0, none⟩) 1 1 (fcell bl x) rfl (HROW.out wr) HONE.out (by omega) (by omega) (by simp; exact Nat.le_succ_of_le HBW.out.size) ?_)
               intro A3 c3 w3 hown3 _ hb3
               have HO3 := Lib.hid hown3
               have HB3 : Hid (Below w.heap.size w w3) := (HBW.out.alloc HBW.out.size _).trans hb3
               clear hown3 hb3)
            | fail)
          go_roundw
          case rel => exact ⟨j + 1, A3, c3, by go_num, by omega, by rw [HNX.out, List.length_append, HM.out]; rfl, by rw [HNX.out, List.length_append, HM.out, HF1.out]; exact HO3.out, HB3.out⟩
          case measure => simp [intOf]; omega
        · have q2 : decide (x.id < ba + 4096) = false := decide_eq_false h2
          have HNX := Lib.hid (ownTo_no HX.out (fun h => h2 h.2))
          clear h1 h2
          go_wp2
          go_roundw
          case rel => exact ⟨j + 1, A', c', by go_num, by omega, by rw [HNX.out], by rw [HNX.out]; exact HO.out, HBW.out⟩
          case measure => simp [intOf]; omega
      · have q1 : decide (ba ≤ x.id) = false := decide_eq_false h1
        have HNX := Lib.hid (ownTo_no HX.out (fun h => h1 h.1))
        clear h1
        go_wp2
        go_roundw
        case rel => exact ⟨j + 1, A', c', by go_num, by omega, by rw [HNX.out], by rw [HNX.out]; exact HO.out, HBW.out⟩
        case measure => simp [intOf]; omega
    · obtain rfl : j = N := by omega
      have l0 : ¬ ((j : Nat) : Int) < (j : Int) := by omega
      go_wp2
      go_ret
      exact ⟨A', c', rfl, HO.out, HBW.out⟩
end Go.Proofs.YtedfddnbgljcjaaGreat.RLog
