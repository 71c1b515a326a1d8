/-
  The document's own disk in memory: its block, the row of its files, each file's bytes; contracts of its helpers; what one step turns of them; the words for what an operation answers.
-/
import Derived.Test.YtedfddnbgljcjaaGreatDiskMem
import Derived.Test.YtedfddnbgljcjaaGreatDiskPlace
import Derived.Test.YtedfddnbgljcjaaGreatDiskAsk
import Derived.Outline
import Derived.IntWalk
import Derived.WalkLawsBesides
import Derived.Deep.QuietTactic
import Derived.BigQuiet
import Derived.Deep.RegionHeld3
import Derived.StillTailTactics
namespace Go.Proofs.YtedfddnbgljcjaaGreat.Ref
set_option maxRecDepth 100000
open Go.RowKit Base DiskMath Disk

theorem ef : Elem Tryz.prog 26 79 3 40 (.agg #[.int .i64 0, .int .i64 0, .slice none 0 0]) := Elem.of Tryz.underlying26 (by kernel_rfl) rfl (by omega)

/-- where a file's bytes lie -/
structure Bl where
  A : Option Addr
  c : Nat
def Bl.row (q : Bl) : Option Nat := q.A.map (·.block)
theorem rowB (q : Bl) (n c : Nat) : (Value.slice q.A n c).ownBlock = q.row := by
  obtain ⟨A, c'⟩ := q
  cases A <;> rfl
def fcell (bl : Int → Bl) (x : Fl) : List Value := [.int .i64 x.id, .int .i64 x.safe, .slice (bl x.id).A x.b.length (bl x.id).c]
def fcells (l : List Fl) (bl : Int → Bl) : List Value := l.flatMap (fcell bl)
theorem fcells_length (l : List Fl) (bl : Int → Bl) : (fcells l bl).length = l.length * 3 := by
  induction l with
  | nil => rfl
  | cons x r ih =>
    show (fcell bl x ++ fcells r bl).length = _
    rw [List.length_append, ih, List.length_cons]
    show 3 + r.length * 3 = _
    omega
theorem fcells_append (l m : List Fl) (bl : Int → Bl) : fcells (l ++ m) bl = fcells l bl ++ fcells m bl := List.flatMap_append
theorem fcells_cons (x : Fl) (r : List Fl) (bl : Int → Bl) : fcells (x :: r) bl = fcell bl x ++ fcells r bl := rfl
theorem fcells_take (l : List Fl) (bl : Int → Bl) (k : Nat) (hk : k ≤ l.length) : (fcells l bl).take (k * 3) = fcells (l.take k) bl := by
  conv => lhs; rw [← List.take_append_drop k l, fcells_append]
  exact List.take_left' (by rw [fcells_length, List.length_take]; omega)
theorem fcells_drop (l : List Fl) (bl : Int → Bl) (k : Nat) (hk : k ≤ l.length) : (fcells l bl).drop (k * 3) = fcells (l.drop k) bl := by
  conv => lhs; rw [← List.take_append_drop k l, fcells_append]
  exact List.drop_left' (by rw [fcells_length, List.length_take]; omega)
theorem fcells_get {l : List Fl} {bl : Int → Bl} {k : Nat} {x : Fl} (h : l[k]? = some x) (i : Nat) (hi : i < 3) : (fcells l bl)[k * 3 + i]? = (fcell bl x)[i]? := by
  have hk : k < l.length := by
    rcases Nat.lt_or_ge k l.length with h' | h'
    · exact h'
    · rw [List.getElem?_eq_none h'] at h; cases h
  have e : l = l.take k ++ x :: l.drop (k + 1) := by
    rw [List.getElem?_eq_getElem hk] at h
    obtain rfl : l[k] = x := Option.some.inj h
    rw [← List.drop_eq_getElem_cons hk, List.take_append_drop]
  have hl : (fcells (l.take k) bl).length = k * 3 := by rw [fcells_length, List.length_take]; omega
  conv => lhs; rw [e, fcells_append]
  rw [List.getElem?_append_right (by omega), hl, Nat.add_sub_cancel_left, fcells_cons, List.getElem?_append_left (by show i < 3; exact hi)]
theorem fcells_congr {l : List Fl} {bl bl' : Int → Bl} (h : ∀ x ∈ l, bl x.id = bl' x.id) : fcells l bl = fcells l bl' := by
  induction l with
  | nil => rfl
  | cons x r ih =>
    rw [fcells_cons, fcells_cons, ih fun y hy => h y (List.mem_cons_of_mem _ hy)]
    unfold fcell
    rw [h x List.mem_cons_self]
theorem fcells_one (l : List Fl) (bl : Int → Bl) : ∀ u ∈ fcells l bl, u.oneCell' = true := by
  intro u hu
  obtain ⟨x, _, hx⟩ := List.mem_flatMap.1 hu
  simp only [fcell, List.mem_cons, List.not_mem_nil, or_false] at hx
  rcases hx with rfl | rfl | rfl <;> rfl

/-- a file's bytes -/
def BAt (w : World) (F : Nat → Prop) (x : Fl) (q : Bl) : Prop := w.ownsRow 0 5 1 (.slice q.A x.b.length q.c) x.b.length (bv x.b) ∧ ∀ g, q.row = some g → F g
def RBody (w : World) (F : Nat → Prop) (l : List Fl) (A : Option Addr) (c : Nat) (bl : Int → Bl) : Prop :=
  w.ownsRow 0 79 3 (.slice A l.length c) l.length (fcells l bl) ∧ (∀ g, A.map (·.block) = some g → F g) ∧ (∀ x ∈ l, BAt w F x (bl x.id)) ∧ Up 0 l
def RHead (w : World) (h : Nat) (d : Dk) (A : Option Addr) (n c : Nat) : Prop := Blk w h 28 #[.slice A n c, .int .i64 d.left, .bool d.off, .int .i64 d.ops]
/-- block h is the document's disk d, in F -/
def RefAt (F : Nat → Prop) (w : World) (h : Nat) (d : Dk) : Prop := ∃ A c bl, RHead w h d A d.files.length c ∧ F h ∧ RBody w F d.files A c bl

section
variable {F F' : Nat → Prop} {w w' : World} {l : List Fl} {A : Option Addr} {n c h : Nat} {bl : Int → Bl} {d : Dk}
theorem BAt.mono {x : Fl} {q : Bl} (h : BAt w F x q) (hF : ∀ i, F i → F' i) : BAt w F' x q := ⟨h.1, fun g hg => hF g (h.2 g hg)⟩
theorem BAt.bytes {x : Fl} {q : Bl} (h : BAt w F x q) : Bytes w w.heap.size q.A x.b.length q.c x.b := Bytes.of_own h.1
theorem BAt.keep {x : Fl} {q : Bl} (h : BAt w F x q) (hk : ∀ i, i < w.heap.size → F i → (∃ cs, w.heap[i]? = some (.cells cs 5 (0, 0))) → w'.heap[i]? = w.heap[i]?) : BAt w' F x q :=
  ⟨own_same h.1 fun g hg => by
    obtain ⟨cur, hc⟩ := own_type h.1 hg
    exact hk g (Array.getElem?_eq_some_iff.1 hc).1 (h.2 g (by rw [← rowB]; exact hg)) ⟨cur, hc⟩, h.2⟩
theorem RBody.mono (h : RBody w F l A c bl) (hF : ∀ i, F i → F' i) : RBody w F' l A c bl := ⟨h.1, fun g hg => hF g (h.2.1 g hg), fun x hx => (h.2.2.1 x hx).mono hF, h.2.2.2⟩
theorem RefAt.mono (h' : RefAt F w h d) (hF : ∀ i, F i → F' i) : RefAt F' w h d := by
  obtain ⟨A, c, bl, h1, h2, h3⟩ := h'
  exact ⟨A, c, bl, h1, hF _ h2, h3.mono hF⟩
theorem RefAt.up (h' : RefAt F w h d) : Up 0 d.files := by
  obtain ⟨A, c, bl, h1, h2, h3⟩ := h'
  exact h3.2.2.2
theorem RefAt.lt (h' : RefAt F w h d) : h < w.heap.size := by
  obtain ⟨A, c, bl, h1, _⟩ := h'
  exact Blk.lt h1
theorem own_map {A : Option Addr} {n c : Nat} : (Value.slice A n c).ownBlock = A.map (·.block) := by cases A <;> rfl
/-- what is not the document's disk's own block stays: so does the body -/
theorem RBody.keep (h : RBody w F l A c bl) (hk : ∀ i o, F i → w.heap[i]? = some o → (∀ cs, o ≠ .cells cs 28 (0, 0)) → w'.heap[i]? = some o) : RBody w' F l A c bl := by
  obtain ⟨h1, h2, h3, h4⟩ := h
  refine ⟨own_same h1 fun g hg => ?_, h2, fun x hx => (h3 x hx).keep fun i _ hf ⟨cs, hcs⟩ => (hk i _ hf hcs (fun cs e => by cases e)).trans hcs.symm, h4⟩
  obtain ⟨cur, hc⟩ := own_type h1 hg
  exact (hk g _ (h2 g (by rw [← own_map]; exact hg)) hc (fun cs e => by cases e)).trans hc.symm
theorem RefAt.keep (h' : RefAt F w h d) (hk : ∀ i, i < w.heap.size → F i → w'.heap[i]? = w.heap[i]?) : RefAt F w' h d := by
  obtain ⟨A, c, bl, h1, h2, h3⟩ := h'
  refine ⟨A, c, bl, (hk h (Blk.lt h1) h2).trans h1, h2, h3.keep fun i o hi ho _ => (hk i ?_ hi).trans ho⟩
  rcases Nat.lt_or_ge i w.heap.size with h | h
  · exact h
  · rw [Array.getElem?_eq_none h] at ho; cases ho
theorem RefAt.new (h' : RefAt F w h d) (hb : Below w.heap.size w w') : RefAt F w' h d := h'.keep fun i hi _ => hb.block i hi
theorem RefAt.turn (h' : RefAt F w h d) (hb : Turn F' w w') (hn : ∀ i, F i → ¬ F' i) : RefAt F w' h d := h'.keep fun i hi hf => hb.block i hi (hn i hf)
/-- its blocks are there -/
theorem RefAt.exact (h' : RefAt F w h d) : RefAt (fun i => F i ∧ i < w.heap.size) w h d := by
  obtain ⟨A, c, bl, h1, h2, h3⟩ := h'
  refine ⟨A, c, bl, h1, ⟨h2, Blk.lt h1⟩, h3.1, fun g hg => ⟨h3.2.1 g hg, ?_⟩, fun x hx => ⟨(h3.2.2.1 x hx).1, fun g hg => ⟨(h3.2.2.1 x hx).2 g hg, ?_⟩⟩, h3.2.2.2⟩
  · obtain ⟨cur, hc⟩ := own_type h3.1 (g := g) (by rw [own_map]; exact hg)
    exact (Array.getElem?_eq_some_iff.1 hc).1
  · obtain ⟨cur, hc⟩ := own_type (h3.2.2.1 x hx).1 (g := g) (by rw [rowB]; exact hg)
    exact (Array.getElem?_eq_some_iff.1 hc).1
theorem RBody.head (h' : RBody w F l A c bl) {cs : Array Value} (hg : Blk w h 28 cs) (hw : w.grownBy w' (some h)) : RBody w' F l A c bl :=
  h'.keep fun i o _ ho hn => by
    have hi : i < w.heap.size := by
      rcases Nat.lt_or_ge i w.heap.size with h | h
      · exact h
      · rw [Array.getElem?_eq_none h] at ho; cases ho
    refine (hw.block i hi fun e => ?_).trans ho
    injection e with e
    subst e
    unfold Blk at hg
    rw [hg] at ho
    injection ho with ho
    exact hn cs ho.symm
/-- the row of files: where it lies, and what it holds at place k -/
theorem RBody.at_ (h' : RBody w F l A c bl) {k : Nat} {x : Fl} (hx : l[k]? = some x) :
    ∃ g cur, A = some ⟨g, 0, none⟩ ∧ F g ∧ Blk w g 79 cur ∧ cur.size = c * 3 ∧ w.cell? ⟨g, k * 3, none⟩ = some (.int .i64 x.id) ∧ w.cell? ⟨g, k * 3 + 1, none⟩ = some (.int .i64 x.safe) ∧
      w.cell? ⟨g, k * 3 + 2, none⟩ = some (.slice (bl x.id).A x.b.length (bl x.id).c) := by
  have hk : k < l.length := by
    rcases Nat.lt_or_ge k l.length with h' | h'
    · exact h'
    · rw [List.getElem?_eq_none h'] at hx; cases hx
  obtain ⟨h1, h2, _, _⟩ := h'
  rcases h1 with ⟨hl, ⟨hv, h0⟩ | ⟨g, cap, cur, hv, hg, h3, h4, h5, h6, h7⟩⟩
  · omega
  · simp only [Value.slice.injEq] at hv
    obtain ⟨rfl, _, rfl⟩ := hv
    have hb : Blk w g 79 cur := h3
    have hc : ∀ i, i < 3 → w.cell? ⟨g, k * 3 + i, none⟩ = (fcell bl x)[i]? := fun i hi => by
      rw [Blk.cell hb, ← fcells_get hx i hi, ← h7, List.getElem?_take_of_lt (by omega)]
      simp
    exact ⟨g, cur, rfl, h2 g rfl, hb, h6, hc 0 (by omega), hc 1 (by omega), hc 2 (by omega)⟩
end
end Go.Proofs.YtedfddnbgljcjaaGreat.Ref

namespace Go.Proofs.YtedfddnbgljcjaaGreat.Ref
set_option maxRecDepth 100000
open Go.RowKit Base DiskMath Disk
set_option linter.ambiguousOpen false

theorem RHead.cells {w : World} {h n c : Nat} {A : Option Addr} {d : Dk} (hh : RHead w h d A n c) :
    w.cell? ⟨h, 0, none⟩ = some (.slice A n c) ∧ w.cell? ⟨h, 1, none⟩ = some (.int .i64 d.left) ∧ w.cell? ⟨h, 2, none⟩ = some (.bool d.off) ∧ w.cell? ⟨h, 3, none⟩ = some (.int .i64 d.ops) :=
  ⟨Blk.cell hh 0, Blk.cell hh 1, Blk.cell hh 2, Blk.cell hh 3⟩

/-- is there a file of that number? -/
def isIn (l : List Fl) (f : Int) : Bool := (seek l f).isSome
theorem isIn_at {l : List Fl} {f : Int} (hu : Up 0 l) {x : Fl} (hx : l[place f l]? = some x) : isIn l f = decide (x.id = f) := by
  unfold isIn
  cases h : seek l f with
  | none =>
    have := seek_none h x (List.mem_of_getElem? hx)
    exact (decide_eq_false this).symm
  | some y =>
    have := place_seek hu h
    rw [hx] at this
    obtain rfl : x = y := Option.some.inj this
    exact (decide_eq_true (seek_mem h).2).symm
theorem isIn_end {l : List Fl} {f : Int} (hu : Up 0 l) (hx : l.length ≤ place f l) : isIn l f = false := by
  unfold isIn
  cases h : seek l f with
  | none => rfl
  | some y =>
    have := place_seek hu h
    rw [List.getElem?_eq_none hx] at this
    cases this
set_option maxRecDepth 100000 in
set_option maxHeartbeats 800000 in
theorem at_any (F : Nat → Prop) (h : Nat) (d : Dk) (f : Int) (w : World) (hr : RefAt F w h d) :
    Calls Tryz.prog 28 #[.pointer (some ⟨h, 0, none⟩), .int .i64 f] w fun e w' => e = .returned (.tuple #[.int .i64 (place f d.files), .bool (isIn d.files f)]) ∧ ∃ q, w.drewN q = w' := by
  have hup := hr.up
  have hlen := hup.le
  obtain ⟨A, c, bl, hh, hf, hb⟩ := hr
  have hpl := place_le f d.files
  obtain ⟨c0, _, _, _⟩ := hh.cells
  have HB := Lib.hid hb
  have HU := Lib.hid hup
  clear hh hb hup
  generalize hN : d.files.length = N at *
  have HN := Lib.hid hN
  clear hN
  go_enter Tryz.func28, Tryz.ntmps28
  go_wp2
  go_loop [6] (fun i => ∃ k : Nat, k ≤ place f d.files ∧ i = .int .i64 k) (fun i => N - (RowKit.intOf i).toNat)
  case atStart => exact ⟨0, by omega, rfl⟩
  case round =>
    obtain ⟨k, hk, rfl⟩ := hrel
    by_cases hkp : k < place f d.files
    · have hkN : k < N := by omega
      obtain ⟨x, hx⟩ : ∃ x, d.files[k]? = some x := ⟨_, List.getElem?_eq_getElem (by rw [HN.out]; exact hkN)⟩
      have hlt := place_lt f d.files k x hkp hx
      obtain ⟨g, cur, rfl, _, _, _, k0, _, _⟩ := HB.out.at_ hx
      clear hx
      generalize x.id = z at hlt k0
      go_wp2
      go_round
      case rel => exact ⟨k + 1, by omega, by go_num⟩
      case measure => simp [RowKit.intOf]; omega
    · obtain rfl : k = place f d.files := by omega
      clear hkp hk
      by_cases hpN : place f d.files < N
      · obtain ⟨x, hx⟩ : ∃ x, d.files[place f d.files]? = some x := ⟨_, List.getElem?_eq_getElem (by rw [HN.out]; exact hpN)⟩
        have hge := place_at f d.files x hx
        obtain ⟨g, cur, rfl, _, _, _, k0, _, _⟩ := HB.out.at_ hx
        have HI := Lib.hid (isIn_at HU.out hx)
        clear hx
        generalize x.id = z at hge k0 HI
        generalize hp : place f d.files = p at *
        have HP := Lib.hid hp
        clear hp
        have h1 : decide (p < N) = true := decide_eq_true hpN
        by_cases hz : z = f
        · have HI2 := Lib.hid (HI.out.trans (decide_eq_true hz))
          have h2 : (z == f) = true := by simpa using hz
          have h3 : decide (z < f) = false := by simp; omega
          clear hz HI
          go_wp2
          go_quiet (fail)
          go_wp2
          go_ret2
          rw [HI2.out, HP.out]
          exact ⟨rfl, _, rfl⟩
        · have HI2 := Lib.hid (HI.out.trans (decide_eq_false hz))
          have h2 : (z == f) = false := by simpa using hz
          have h3 : decide (z < f) = false := by simp; omega
          clear hz HI
          go_wp2
          go_quiet (fail)
          go_wp2
          go_ret2
          rw [HI2.out, HP.out]
          exact ⟨rfl, _, rfl⟩
      · have HI := Lib.hid (isIn_end (f := f) HU.out (by rw [HN.out]; omega))
        generalize hp : place f d.files = p at *
        have HP := Lib.hid hp
        clear hp
        have h1 : decide (p < N) = false := decide_eq_false hpN
        go_wp2
        go_quiet (fail)
        go_wp2
        go_ret2
        rw [HI.out, HP.out]
        exact ⟨rfl, _, rfl⟩

set_option maxHeartbeats 400000 in
theorem refused_any (F : Nat → Prop) (h : Nat) (d : Dk) (f : Int) (needs : Bool) (w : World) (hr : RefAt F w h d) :
    Calls Tryz.prog 26 #[.pointer (some ⟨h, 0, none⟩), .int .i64 f, .bool needs] w fun e w' => e = .returned (.int .i64 (refuse d f needs)) ∧ ∃ q, w.drewN q = w' := by
  have HR := Lib.hid hr
  obtain ⟨A, c, bl, hh, hf, hb⟩ := hr
  obtain ⟨_, _, c2, _⟩ := hh.cells
  clear hh hb
  by_cases h1 : d.off = true
  · rw [h1] at c2
    have HE := Lib.hid (show refuse d f needs = 8 by rw [refuse, if_pos h1])
    clear h1
    go_enter Tryz.func26, Tryz.ntmps26
    go_wp2
    go_ret
    rw [HE.out]
    exact ⟨rfl, 0, rfl⟩
  · rw [Bool.not_eq_true] at h1
    rw [h1] at c2
    by_cases h2 : f < 0 ∨ 16384 ≤ f
    · have HE := Lib.hid (show refuse d f needs = 1 by rw [refuse, h1, if_neg (by simp), if_pos h2])
      clear h1
      rcases h2 with h2 | h2
      · have h3 : decide (f < 0) = true := by simpa using h2
        go_enter Tryz.func26, Tryz.ntmps26
        go_wp2
        go_ret
        rw [HE.out]
        exact ⟨rfl, 0, rfl⟩
      · have h3 : decide (f < 0) = false := by simp; omega
        have h4 : decide (16384 ≤ f) = true := by simpa using h2
        clear h2
        go_enter Tryz.func26, Tryz.ntmps26
        go_wp2
        go_ret
        rw [HE.out]
        exact ⟨rfl, 0, rfl⟩
    · have h3 : decide (f < 0) = false := by simp; omega
      have h4 : decide (16384 ≤ f) = false := by simp; omega
      have HE : Hid (refuse d f needs = if needs = true ∧ seek d.files f = none then 5 else 0) := by
        show refuse d f needs = _
        rw [refuse, h1, if_neg (by simp), if_neg h2]
      clear h1 h2
      cases hs : seek d.files f with
      | none =>
        have HI := Lib.hid (show isIn d.files f = false by rw [isIn, hs]; rfl)
        have HS := Lib.hid hs
        clear hs
        cases needs with
        | true =>
          go_enter Tryz.func26, Tryz.ntmps26
          go_wp2_with fail
          refine (at_any F h d f w HR.out).mono ?_
          rintro e w1 ⟨rfl, q, rfl⟩
          rw [HI.out]
          go_wp2
          go_ret
          rw [HE.out, HS.out]
          exact ⟨rfl, q, rfl⟩
        | false =>
          go_enter Tryz.func26, Tryz.ntmps26
          go_wp2_with fail
          refine (at_any F h d f w HR.out).mono ?_
          rintro e w1 ⟨rfl, q, rfl⟩
          rw [HI.out]
          go_wp2
          go_ret
          rw [HE.out, HS.out]
          exact ⟨rfl, q, rfl⟩
      | some x =>
        have HI := Lib.hid (show isIn d.files f = true by rw [isIn, hs]; rfl)
        have HS := Lib.hid hs
        clear hs
        cases needs with
        | true =>
          go_enter Tryz.func26, Tryz.ntmps26
          go_wp2_with fail
          refine (at_any F h d f w HR.out).mono ?_
          rintro e w1 ⟨rfl, q, rfl⟩
          rw [HI.out]
          go_wp2
          go_ret
          rw [HE.out, HS.out]
          exact ⟨rfl, q, rfl⟩
        | false =>
          go_enter Tryz.func26, Tryz.ntmps26
          go_wp2_with fail
          refine (at_any F h d f w HR.out).mono ?_
          rintro e w1 ⟨rfl, q, rfl⟩
          rw [HI.out]
          go_wp2
          go_ret
          rw [HE.out, HS.out]
          exact ⟨rfl, q, rfl⟩

theorem only_ref (w : World) (g : Nat) (u v x : Value) : w.grownBy (((w.setCell ⟨g, 3, none⟩ u).setCell ⟨g, 1, none⟩ v).setCell ⟨g, 2, none⟩ x) (some g) := only_set (only_set (only_set (World.grownBy.refl _ _) _ _) _ _) _ _
theorem only_ref2 (w : World) (g : Nat) (u v : Value) : w.grownBy ((w.setCell ⟨g, 3, none⟩ u).setCell ⟨g, 1, none⟩ v) (some g) := only_set (only_set (World.grownBy.refl _ _) _ _) _ _
set_option maxHeartbeats 400000 in
theorem goes_any (h n c : Nat) (A : Option Addr) (d : Dk) (w : World) (hh : RHead w h d A n c) (hoff : d.off = false) (hf : Fits d) :
    Calls Tryz.prog 27 #[.pointer (some ⟨h, 0, none⟩)] w fun e w' => e = .returned (.bool (decide (d.left = 1))) ∧ RHead w' h (tick d) A n c ∧ w.grownBy w' (some h) := by
  obtain ⟨files, left, off, ops⟩ := d
  obtain ⟨hf1, hf2⟩ := hf
  dsimp only at hoff hf1 hf2
  subst hoff
  obtain ⟨_, c1, c2, c3⟩ := hh.cells
  dsimp only at c1 c2 c3
  have z3 := Blk.frozen hh 3
  have z1 := Blk.frozen hh 1
  have z2 := Blk.frozen hh 2
  have HH := Lib.hid hh
  clear hh
  rcases Nat.eq_zero_or_pos left with h0 | h0
  · subst h0
    go_enter Tryz.func27, Tryz.ntmps27
    go_wp2
    go_ret
    refine ⟨rfl, ?_, only_set (World.grownBy.refl _ _) _ _⟩
    exact Blk.set_ HH.out 3 (.int .i64 (ops + 1))
  · by_cases h1 : left = 1
    · subst h1
      go_enter Tryz.func27, Tryz.ntmps27
      go_wp2
      go_ret
      refine ⟨rfl, ?_, only_ref _ _ _ _ _⟩
      exact Blk.set_ (Blk.set_ (Blk.set_ HH.out 3 (.int .i64 (ops + 1))) 1 (.int .i64 0)) 2 (.bool true)
    · have hb : ((left : Int) - 1 == 0) = false := by simp; omega
      have HL := Lib.hid (show ((left : Int) - 1) = ((left - 1 : Nat) : Int) by omega)
      have HB := Lib.hid (show decide (left = 1) = false from decide_eq_false h1)
      clear h1
      go_enter Tryz.func27, Tryz.ntmps27
      go_wp2
      go_ret
      refine ⟨by dsimp only; rw [HB.out]; rfl, ?_, only_ref2 _ _ _ _⟩
      have := Blk.set_ (Blk.set_ HH.out 3 (.int .i64 (ops + 1))) 1 (.int .i64 (left - 1))
      unfold RHead tick
      dsimp only
      rw [HB.out]
      rw [HL.out] at this ⊢
      exact this

theorem told_any (b : Bool) (w : World) : Calls Tryz.prog 29 #[.bool b] w fun e w' => e = .returned (.int .i64 (if b then 8 else 0)) ∧ w = w' := by
  cases b with
  | true =>
    go_enter Tryz.func29, Tryz.ntmps29
    go_wp2
    go_ret
    exact ⟨rfl, rfl⟩
  | false =>
    go_enter Tryz.func29, Tryz.ntmps29
    go_wp2
    go_ret
    exact ⟨rfl, rfl⟩
end Go.Proofs.YtedfddnbgljcjaaGreat.Ref

namespace Go.Proofs.YtedfddnbgljcjaaGreat.Ref
open Go.RowKit Base DiskMath Disk

theorem own_set {w : World} {base n cap g : Nat} {e : TypeId} {size : Nat} {xs : List Value} (h : w.ownsRow base e size (.slice (some ⟨g, 0, none⟩) n cap) n xs) {j : Nat} (u : Value) :
    (w.setCell ⟨g, j, none⟩ u).ownsRow base e size (.slice (some ⟨g, 0, none⟩) n cap) n (xs.set j u) := by
  rcases h with ⟨hl, ⟨hv, h0⟩ | ⟨g', cap', cur, hv, hg, h3, h4, h5, h6, h7⟩⟩
  · cases hv
  · simp only [Value.slice.injEq, Option.some.injEq, Addr.mk.injEq] at hv
    obtain ⟨⟨rfl, _, _⟩, _, rfl⟩ := hv
    have hb : Blk w g e cur := h3
    refine ⟨by rw [List.length_set]; exact hl, .inr ⟨g, cap, cur.setIfInBounds j u, rfl, hg, Blk.set_ hb j u, h4, h5, by rw [Array.size_setIfInBounds]; exact h6, ?_⟩⟩
    rw [Array.toList_setIfInBounds, List.take_set, h7]

def updB (bl : Int → Bl) (f : Int) (q : Bl) : Int → Bl := fun k => if k = f then q else bl k
theorem updB_same (bl : Int → Bl) (f : Int) (q : Bl) : updB bl f q f = q := if_pos rfl
theorem updB_other (bl : Int → Bl) {f k : Int} (q : Bl) (h : k ≠ f) : updB bl f q k = bl k := if_neg h

/-- numbers that are no other's -/
def Once (l : List Fl) : Prop := ∀ (i j : Nat) (x y : Fl), l[i]? = some x → l[j]? = some y → x.id = y.id → i = j
theorem Up.gt {lo : Int} : ∀ {l : List Fl} {i j : Nat} {x y : Fl}, Up lo l → l[i]? = some x → l[j]? = some y → i < j → x.id < y.id
  | [], _, _, _, _, _, h, _, _ => by simp at h
  | z :: r, 0, j + 1, x, y, ⟨_, _, _, h4⟩, hx, hy, _ => by
    simp at hx hy
    subst hx
    have := (h4.mem y (List.mem_of_getElem? hy)).1
    omega
  | z :: r, i + 1, j + 1, x, y, ⟨_, _, _, h4⟩, hx, hy, h => Up.gt h4 (by simpa using hx) (by simpa using hy) (by omega)
  | _ :: _, i + 1, 0, _, _, _, _, _, h => absurd h (by omega)
theorem Up.once {l : List Fl} (h : Up 0 l) : Once l := fun i j x y hx hy e => by
  rcases Nat.lt_trichotomy i j with h1 | h1 | h1
  · have := Up.gt h hx hy h1; omega
  · exact h1
  · have := Up.gt h hy hx h1; omega

theorem fcells_set {l : List Fl} {bl bl' : Int → Bl} {k : Nat} {x y : Fl} (hx : l[k]? = some x) (i : Nat) (hi : i < 3) (v : Value) (hv : (fcell bl x).set i v = fcell bl' y) (ho : ∀ j z, l[j]? = some z → j ≠ k → bl z.id = bl' z.id) :
    (fcells l bl).set (k * 3 + i) v = fcells (l.set k y) bl' := by
  induction l generalizing k with
  | nil => simp at hx
  | cons a r ih =>
    cases k with
    | zero =>
      simp at hx
      subst hx
      rw [Nat.zero_mul, Nat.zero_add, List.set_cons_zero, fcells_cons, fcells_cons, List.set_append_left _ _ (by show i < 3; exact hi), hv]
      congr 1
      refine fcells_congr fun z hz => ?_
      obtain ⟨j, hj⟩ := List.getElem?_of_mem hz
      exact ho (j + 1) z (by simpa using hj) (by omega)
    | succ k =>
      rw [List.set_cons_succ, fcells_cons, fcells_cons, show (k + 1) * 3 + i = 3 + (k * 3 + i) by omega]
      have e1 : fcell bl a = fcell bl' a := by
        unfold fcell
        rw [ho 0 a rfl (by omega)]
      rw [List.set_append_right _ _ (by show 3 ≤ _; omega), show 3 + (k * 3 + i) - (fcell bl a).length = k * 3 + i by show 3 + (k * 3 + i) - 3 = _; omega, e1]
      congr 1
      exact ih (by simpa using hx) (fun j z hj hjk => ho (j + 1) z (by simpa using hj) (by omega))

/-- the row of files and their bytes, without a word on the numbers -/
def RRow (w : World) (F : Nat → Prop) (l : List Fl) (A : Option Addr) (c : Nat) (bl : Int → Bl) : Prop :=
  w.ownsRow 0 79 3 (.slice A l.length c) l.length (fcells l bl) ∧ (∀ g, A.map (·.block) = some g → F g) ∧ ∀ x ∈ l, BAt w F x (bl x.id)
theorem RBody.rrow {w : World} {F : Nat → Prop} {l : List Fl} {A : Option Addr} {c : Nat} {bl : Int → Bl} (h : RBody w F l A c bl) : RRow w F l A c bl := ⟨h.1, h.2.1, h.2.2.1⟩
theorem RRow.body {w : World} {F : Nat → Prop} {l : List Fl} {A : Option Addr} {c : Nat} {bl : Int → Bl} (h : RRow w F l A c bl) (hu : Up 0 l) : RBody w F l A c bl := ⟨h.1, h.2.1, h.2.2, hu⟩

section
variable {F F' : Nat → Prop} {w w' : World} {l : List Fl} {A : Option Addr} {g c h : Nat} {bl : Int → Bl}
theorem BAt.set_ {x : Fl} {q : Bl} (hb : BAt w F x q) {cur : Array Value} (hg : Blk w g 79 cur) (j : Nat) (u : Value) : BAt (w.setCell ⟨g, j, none⟩ u) F x q :=
  ⟨own_same hb.1 fun i hi => Below.heap_setCell _ _ _ _ (fun e => (by
    obtain ⟨cur', hc⟩ := own_type hb.1 hi
    unfold Blk at hg
    dsimp only at e
    rw [← e, hc] at hg
    cases hg)), hb.2⟩
theorem len_of {k : Nat} {x : Fl} (hx : l[k]? = some x) : k < l.length := by
  rcases Nat.lt_or_ge k l.length with h' | h'
  · exact h'
  · rw [List.getElem?_eq_none h'] at hx; cases hx
theorem mem_set {k : Nat} {x y z : Fl} (hx : l[k]? = some x) (hz : z ∈ l.set k y) : z = y ∨ ∃ j, j ≠ k ∧ l[j]? = some z := by
  obtain ⟨j, hj⟩ := List.getElem?_of_mem hz
  by_cases e : j = k
  · subst e
    rw [List.getElem?_set_self (len_of hx)] at hj
    exact .inl (Option.some.inj hj).symm
  · rw [List.getElem?_set_ne (Ne.symm e)] at hj
    exact .inr ⟨j, e, hj⟩
/-- how much is safe is written -/
theorem RRow.safe_ (hr : RRow w F l (some ⟨g, 0, none⟩) c bl) {k : Nat} {x : Fl} (hx : l[k]? = some x) {cur : Array Value} (hg : Blk w g 79 cur) (s : Nat) :
    RRow (w.setCell ⟨g, k * 3 + 1, none⟩ (.int .i64 s)) F (l.set k { x with safe := s }) (some ⟨g, 0, none⟩) c bl := by
  have hk := len_of hx
  refine ⟨?_, hr.2.1, fun z hz => ?_⟩
  · have := own_set hr.1 (j := k * 3 + 1) (.int .i64 s)
    rw [fcells_set (y := { x with safe := s }) (bl' := bl) hx 1 (by omega) _ rfl (fun _ _ _ _ => rfl)] at this
    rw [List.length_set]
    exact this
  · rcases mem_set hx hz with rfl | ⟨j, _, hj⟩
    · have : BAt w F x (bl x.id) := hr.2.2 x (List.mem_of_getElem? hx)
      exact (show BAt w F { x with safe := s } (bl x.id) from this).set_ hg _ _
    · exact (hr.2.2 z (List.mem_of_getElem? hj)).set_ hg _ _
/-- its bytes are written: they lie elsewhere -/
theorem RRow.bytes_ (hr : RRow w F l (some ⟨g, 0, none⟩) c bl) (ho : Once l) {k : Nat} {x : Fl} (hx : l[k]? = some x) {cur : Array Value} (hg : Blk w g 79 cur) {b : List UInt8} {q : Bl} (hq : BAt w F { x with b := b } q) :
    RRow (w.setCell ⟨g, k * 3 + 2, none⟩ (.slice q.A b.length q.c)) F (l.set k { x with b := b }) (some ⟨g, 0, none⟩) c (updB bl x.id q) := by
  have hk := len_of hx
  have hne : ∀ j z, l[j]? = some z → j ≠ k → z.id ≠ x.id := fun j z hj hjk e => hjk (ho j k z x hj hx e)
  refine ⟨?_, hr.2.1, fun z hz => ?_⟩
  · have := own_set hr.1 (j := k * 3 + 2) (.slice q.A b.length q.c)
    rw [fcells_set (y := { x with b := b }) (bl' := updB bl x.id q) hx 2 (by omega) _ (by unfold fcell; rw [updB_same]; rfl) (fun j z hj hjk => by rw [updB_other _ _ (hne j z hj hjk)])] at this
    rw [List.length_set]
    exact this
  · rcases mem_set hx hz with rfl | ⟨j, hjk, hj⟩
    · show BAt _ _ _ (updB bl x.id q x.id)
      rw [updB_same]
      exact hq.set_ hg _ _
    · rw [updB_other _ _ (hne j z hj hjk)]
      exact (hr.2.2 z (List.mem_of_getElem? hj)).set_ hg _ _
/-- only new memory -/
theorem RRow.new (hr : RRow w F l A c bl) (hb : Below w.heap.size w w') : RRow w' F l A c bl := by
  refine ⟨own_keep hr.1 hb, hr.2.1, fun x hx => ⟨own_keep (hr.2.2 x hx).1 hb, (hr.2.2 x hx).2⟩⟩
theorem RRow.mono (hr : RRow w F l A c bl) (hF : ∀ i, F i → F' i) : RRow w F' l A c bl := ⟨hr.1, fun g hg => hF g (hr.2.1 g hg), fun x hx => (hr.2.2 x hx).mono hF⟩
/-- where the row of files lies -/
theorem RRow.at_ (hr : RRow w F l A c bl) {k : Nat} {x : Fl} (hx : l[k]? = some x) :
    ∃ g cur, A = some ⟨g, 0, none⟩ ∧ F g ∧ Blk w g 79 cur ∧ cur.size = c * 3 ∧ w.cell? ⟨g, k * 3, none⟩ = some (.int .i64 x.id) ∧ w.cell? ⟨g, k * 3 + 1, none⟩ = some (.int .i64 x.safe) ∧
      w.cell? ⟨g, k * 3 + 2, none⟩ = some (.slice (bl x.id).A x.b.length (bl x.id).c) := by
  have hk := len_of hx
  obtain ⟨h1, h2, _⟩ := hr
  rcases h1 with ⟨hl, ⟨hv, h0⟩ | ⟨g, cap, cur, hv, hg, h3, h4, h5, h6, h7⟩⟩
  · omega
  · simp only [Value.slice.injEq] at hv
    obtain ⟨rfl, _, rfl⟩ := hv
    have hb : Blk w g 79 cur := h3
    have hc : ∀ i, i < 3 → w.cell? ⟨g, k * 3 + i, none⟩ = (fcell bl x)[i]? := fun i hi => by
      rw [Blk.cell hb, ← fcells_get hx i hi, ← h7, List.getElem?_take_of_lt (by omega)]
      simp
    exact ⟨g, cur, rfl, h2 g rfl, hb, h6, hc 0 (by omega), hc 1 (by omega), hc 2 (by omega)⟩
end
end Go.Proofs.YtedfddnbgljcjaaGreat.Ref

namespace Go.Proofs.YtedfddnbgljcjaaGreat.Ref
set_option maxRecDepth 100000
open Go.RowKit Base DiskMath Disk
set_option linter.ambiguousOpen false

def RDone (F : Nat → Prop) (w : World) (h : Nat) (r : Int × Dk) (e : Ending) (w' : World) : Prop := e = .returned (.int .i64 r.1) ∧ RefAt (Out F w w') w' h r.2 ∧ Turn F w w'
theorem RDone.no {F : Nat → Prop} {w : World} {h : Nat} {d : Dk} (hr : RefAt F w h d) {k : Int} (q : Nat) : RDone F w h (k, d) (.returned (.int .i64 k)) (w.drewN q) :=
  ⟨rfl, RefAt.mono (w := w.drewN q) hr fun _ hi => .inl hi, (Turn.refl _ _).drewN q⟩
def RArmed (F : Nat → Prop) (w : World) (h : Nat) (d : Dk) (e : Ending) (w' : World) : Prop := e = .returned (.tuple #[]) ∧ RefAt (Out F w w') w' h d ∧ Turn F w w'
/-- an operation was counted: nothing else has turned -/
theorem rticked {F : Nat → Prop} {w w1 : World} {h c : Nat} {A : Option Addr} {bl : Int → Bl} {d : Dk} (hh : RHead w1 h (tick d) A d.files.length c) (hg : F h) (hb : RBody w1 F d.files A c bl) (hw : w.grownBy w1 (some h)) : RefAt (Out F w w1) w1 h (tick d) ∧ Turn F w w1 :=
  ⟨⟨A, c, bl, hh, .inl hg, hb.mono fun _ hi => .inl hi⟩, Turn.grown hw fun k e => by injection e with e; rw [← e]; exact hg⟩
theorem put_sure {l : List Fl} {f : Int} {x : Fl} (hu : Up 0 l) (hx : seek l f = some x) : put l f sure = l.set (place f l) { x with safe := x.b.length } := place_put sure hu hx

/-- how much of one file is safe is written -/
theorem rwrote_safe {F : Nat → Prop} {w W : World} {h c g k : Nat} {bl : Int → Bl} {d : Dk} {x : Fl} {cur : Array Value} {l' : List Fl} (hh : RHead W h d (some ⟨g, 0, none⟩) d.files.length c) (hg : F h) (hb : RBody W F d.files (some ⟨g, 0, none⟩) c bl) (ht : Turn F w W)
    (hx : d.files[k]? = some x) (hFg : F g) (hbk : Blk W g 79 cur) {s : Nat} (_ : s ≤ x.b.length) (hl : l' = d.files.set k { x with safe := s }) (hu : Up 0 l') :
    RefAt (Out F w (W.setCell ⟨g, k * 3 + 1, none⟩ (.int .i64 s))) (W.setCell ⟨g, k * 3 + 1, none⟩ (.int .i64 s)) h { d with files := l' } ∧ Turn F w (W.setCell ⟨g, k * 3 + 1, none⟩ (.int .i64 s)) := by
  have hrow := hb.rrow.safe_ hx hbk s
  rw [← hl] at hrow
  have hgh : h ≠ g := fun e => by
    unfold RHead Blk at hh
    unfold Blk at hbk
    rw [e, hbk] at hh
    cases hh
  refine ⟨⟨_, c, bl, ?_, .inl hg, (hrow.body hu).mono fun _ hi => .inl hi⟩, ht.setCell (.inl hFg) _⟩
  show RHead _ h { d with files := l' } _ l'.length c
  rw [hl, List.length_set]
  exact Blk.far hh hgh _

end Go.Proofs.YtedfddnbgljcjaaGreat.Ref
