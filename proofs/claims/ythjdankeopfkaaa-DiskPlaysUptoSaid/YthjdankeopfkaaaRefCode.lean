/-
  Contracts of the document's own small functions on a disk: a file's place, what is refused, an operation is counted.
-/
import Derived.Test.YthjdankeopfkaaaRefMem
import Derived.Test.YthjdankeopfkaaaDiskAsk
import Derived.Outline
import Derived.IntWalk
import Derived.WalkLawsBesides
import Derived.Deep.QuietTactic
import Derived.BigQuiet
namespace Go.Proofs.Ythjdankeopfkaaa.Ref
open Go.RowKit Base DiskMath Disk
set_option linter.ambiguousOpen false

theorem RHead.cells {w : World} {h n c : Nat} {A : Option Addr} {d : Dk} (hh : RHead w h d A n c) :
    w.cell? ⟨h, 0, none⟩ = some (.slice A n c) ∧ w.cell? ⟨h, 1, none⟩ = some (.int .i64 d.left) ∧ w.cell? ⟨h, 2, none⟩ = some (.bool d.off) ∧ w.cell? ⟨h, 3, none⟩ = some (.int .i64 d.ops) :=
  ⟨Blk.cell hh 0, Blk.cell hh 1, Blk.cell hh 2, Blk.cell hh 3⟩

/-- is there a file of that number? -/
def isIn (l : List Fl) (f : Int) : Bool := (seek l f).isSome
theorem isIn_at {l : List Fl} {f : Int} (hu : Up 0 l) {x : Fl} (hx : l[place f l]? = some x) : isIn l f = decide (x.id = f) := by
  unfold isIn
  cases h : seek l f with
  | none =>
    have := seek_none h x (List.mem_of_getElem? hx)
    exact (decide_eq_false this).symm
  | some y =>
    have := place_seek hu h
    rw [hx] at this
    obtain rfl : x = y := Option.some.inj this
    exact (decide_eq_true (seek_mem h).2).symm
theorem isIn_end {l : List Fl} {f : Int} (hu : Up 0 l) (hx : l.length ≤ place f l) : isIn l f = false := by
  unfold isIn
  cases h : seek l f with
  | none => rfl
  | some y =>
    have := place_seek hu h
    rw [List.getElem?_eq_none hx] at this
    cases this
set_option maxRecDepth 100000 in
set_option maxHeartbeats 800000 in
theorem at_any (F : Nat → Prop) (h : Nat) (d : Dk) (f : Int) (w : World) (hr : RefAt F w h d) :
    Calls Try.prog 51 #[.pointer (some ⟨h, 0, none⟩), .int .i64 f] w fun e w' => e = .returned (.tuple #[.int .i64 (place f d.files), .bool (isIn d.files f)]) ∧ ∃ q, w.drewN q = w' := by
  have hup := hr.up
  have hlen := hup.le
  obtain ⟨A, c, bl, hh, hf, hb⟩ := hr
  have hpl := place_le f d.files
  obtain ⟨c0, _, _, _⟩ := hh.cells
  have HB := Lib.hid hb
  have HU := Lib.hid hup
  clear hh hb hup
  generalize hN : d.files.length = N at *
  have HN := Lib.hid hN
  clear hN
  go_enter Try.func51, Try.ntmps51
  go_wp2
  go_loop [6] (fun i => ∃ k : Nat, k ≤ place f d.files ∧ i = .int .i64 k) (fun i => N - (RowKit.intOf i).toNat)
  case atStart => exact ⟨0, by omega, rfl⟩
  case round =>
    obtain ⟨k, hk, rfl⟩ := hrel
    by_cases hkp : k < place f d.files
    · have hkN : k < N := by omega
      obtain ⟨x, hx⟩ : ∃ x, d.files[k]? = some x := ⟨_, List.getElem?_eq_getElem (by rw [HN.out]; exact hkN)⟩
      have hlt := place_lt f d.files k x hkp hx
      obtain ⟨g, cur, rfl, _, _, _, k0, _, _⟩ := HB.out.at_ hx
      clear hx
      generalize x.id = z at hlt k0
      go_wp2
      go_round
      case rel => exact ⟨k + 1, by omega, by go_num⟩
      case measure => simp [RowKit.intOf]; omega
    · obtain rfl : k = place f d.files := by omega
      clear hkp hk
      by_cases hpN : place f d.files < N
      · obtain ⟨x, hx⟩ : ∃ x, d.files[place f d.files]? = some x := ⟨_, List.getElem?_eq_getElem (by rw [HN.out]; exact hpN)⟩
        have hge := place_at f d.files x hx
        obtain ⟨g, cur, rfl, _, _, _, k0, _, _⟩ := HB.out.at_ hx
        have HI := Lib.hid (isIn_at HU.out hx)
        clear hx
        generalize x.id = z at hge k0 HI
        generalize hp : place f d.files = p at *
        have HP := Lib.hid hp
        clear hp
        have h1 : decide (p < N) = true := decide_eq_true hpN
        by_cases hz : z = f
        · have HI2 := Lib.hid (HI.out.trans (decide_eq_true hz))
          have h2 : (z == f) = true := by simpa using hz
          have h3 : decide (z < f) = false := by simp; omega
          clear hz HI
          go_wp2
          go_quiet (fail)
          go_wp2
          go_ret2
          rw [HI2.out, HP.out]
          exact ⟨rfl, _, rfl⟩
        · have HI2 := Lib.hid (HI.out.trans (decide_eq_false hz))
          have h2 : (z == f) = false := by simpa using hz
          have h3 : decide (z < f) = false := by simp; omega
          clear hz HI
          go_wp2
          go_quiet (fail)
          go_wp2
          go_ret2
          rw [HI2.out, HP.out]
          exact ⟨rfl, _, rfl⟩
      · have HI := Lib.hid (isIn_end (f := f) HU.out (by rw [HN.out]; omega))
        generalize hp : place f d.files = p at *
        have HP := Lib.hid hp
        clear hp
        have h1 : decide (p < N) = false := decide_eq_false hpN
        go_wp2
        go_quiet (fail)
        go_wp2
        go_ret2
        rw [HI.out, HP.out]
        exact ⟨rfl, _, rfl⟩

set_option maxHeartbeats 400000 in
theorem refused_any (F : Nat → Prop) (h : Nat) (d : Dk) (f : Int) (needs : Bool) (w : World) (hr : RefAt F w h d) :
    Calls Try.prog 49 #[.pointer (some ⟨h, 0, none⟩), .int .i64 f, .bool needs] w fun e w' => e = .returned (.int .i64 (refuse d f needs)) ∧ ∃ q, w.drewN q = w' := by
  have HR := Lib.hid hr
  obtain ⟨A, c, bl, hh, hf, hb⟩ := hr
  obtain ⟨_, _, c2, _⟩ := hh.cells
  clear hh hb
  by_cases h1 : d.off = true
  · rw [h1] at c2
    have HE := Lib.hid (show refuse d f needs = 8 by rw [refuse, if_pos h1])
    clear h1
    go_enter Try.func49, Try.ntmps49
    go_wp2
    go_ret
    rw [HE.out]
    exact ⟨rfl, 0, rfl⟩
  · rw [Bool.not_eq_true] at h1
    rw [h1] at c2
    by_cases h2 : f < 0 ∨ 16384 ≤ f
    · have HE := Lib.hid (show refuse d f needs = 1 by rw [refuse, h1, if_neg (by simp), if_pos h2])
      clear h1
      rcases h2 with h2 | h2
      · have h3 : decide (f < 0) = true := by simpa using h2
        go_enter Try.func49, Try.ntmps49
        go_wp2
        go_ret
        rw [HE.out]
        exact ⟨rfl, 0, rfl⟩
      · have h3 : decide (f < 0) = false := by simp; omega
        have h4 : decide (16384 ≤ f) = true := by simpa using h2
        clear h2
        go_enter Try.func49, Try.ntmps49
        go_wp2
        go_ret
        rw [HE.out]
        exact ⟨rfl, 0, rfl⟩
    · have h3 : decide (f < 0) = false := by simp; omega
      have h4 : decide (16384 ≤ f) = false := by simp; omega
      have HE : Hid (refuse d f needs = if needs = true ∧ seek d.files f = none then 5 else 0) := by
        show refuse d f needs = _
        rw [refuse, h1, if_neg (by simp), if_neg h2]
      clear h1 h2
      cases hs : seek d.files f with
      | none =>
        have HI := Lib.hid (show isIn d.files f = false by rw [isIn, hs]; rfl)
        have HS := Lib.hid hs
        clear hs
        cases needs with
        | true =>
          go_enter Try.func49, Try.ntmps49
          go_wp2_with fail
          refine (at_any F h d f w HR.out).mono ?_
          rintro e w1 ⟨rfl, q, rfl⟩
          rw [HI.out]
          go_wp2
          go_ret
          rw [HE.out, HS.out]
          exact ⟨rfl, q, rfl⟩
        | false =>
          go_enter Try.func49, Try.ntmps49
          go_wp2_with fail
          refine (at_any F h d f w HR.out).mono ?_
          rintro e w1 ⟨rfl, q, rfl⟩
          rw [HI.out]
          go_wp2
          go_ret
          rw [HE.out, HS.out]
          exact ⟨rfl, q, rfl⟩
      | some x =>
        have HI := Lib.hid (show isIn d.files f = true by rw [isIn, hs]; rfl)
        have HS := Lib.hid hs
        clear hs
        cases needs with
        | true =>
          go_enter Try.func49, Try.ntmps49
          go_wp2_with fail
          refine (at_any F h d f w HR.out).mono ?_
          rintro e w1 ⟨rfl, q, rfl⟩
          rw [HI.out]
          go_wp2
          go_ret
          rw [HE.out, HS.out]
          exact ⟨rfl, q, rfl⟩
        | false =>
          go_enter Try.func49, Try.ntmps49
          go_wp2_with fail
          refine (at_any F h d f w HR.out).mono ?_
          rintro e w1 ⟨rfl, q, rfl⟩
          rw [HI.out]
          go_wp2
          go_ret
          rw [HE.out, HS.out]
          exact ⟨rfl, q, rfl⟩

theorem only_ref (w : World) (g : Nat) (u v x : Value) : w.grownBy (((w.setCell ⟨g, 3, none⟩ u).setCell ⟨g, 1, none⟩ v).setCell ⟨g, 2, none⟩ x) (some g) := only_set (only_set (only_set (World.grownBy.refl _ _) _ _) _ _) _ _
theorem only_ref2 (w : World) (g : Nat) (u v : Value) : w.grownBy ((w.setCell ⟨g, 3, none⟩ u).setCell ⟨g, 1, none⟩ v) (some g) := only_set (only_set (World.grownBy.refl _ _) _ _) _ _
set_option maxHeartbeats 400000 in
theorem goes_any (h n c : Nat) (A : Option Addr) (d : Dk) (w : World) (hh : RHead w h d A n c) (hoff : d.off = false) (hf : Fits d) :
    Calls Try.prog 50 #[.pointer (some ⟨h, 0, none⟩)] w fun e w' => e = .returned (.bool (decide (d.left = 1))) ∧ RHead w' h (tick d) A n c ∧ w.grownBy w' (some h) := by
  obtain ⟨files, left, off, ops⟩ := d
  obtain ⟨hf1, hf2⟩ := hf
  dsimp only at hoff hf1 hf2
  subst hoff
  obtain ⟨_, c1, c2, c3⟩ := hh.cells
  dsimp only at c1 c2 c3
  have z3 := Blk.frozen hh 3
  have z1 := Blk.frozen hh 1
  have z2 := Blk.frozen hh 2
  have HH := Lib.hid hh
  clear hh
  rcases Nat.eq_zero_or_pos left with h0 | h0
  · subst h0
    go_enter Try.func50, Try.ntmps50
    go_wp2
    go_ret
    refine ⟨rfl, ?_, only_set (World.grownBy.refl _ _) _ _⟩
    exact Blk.set_ HH.out 3 (.int .i64 (ops + 1))
  · by_cases h1 : left = 1
    · subst h1
      go_enter Try.func50, Try.ntmps50
      go_wp2
      go_ret
      refine ⟨rfl, ?_, only_ref _ _ _ _ _⟩
      exact Blk.set_ (Blk.set_ (Blk.set_ HH.out 3 (.int .i64 (ops + 1))) 1 (.int .i64 0)) 2 (.bool true)
    · have hb : ((left : Int) - 1 == 0) = false := by simp; omega
      have HL := Lib.hid (show ((left : Int) - 1) = ((left - 1 : Nat) : Int) by omega)
      have HB := Lib.hid (show decide (left = 1) = false from decide_eq_false h1)
      clear h1
      go_enter Try.func50, Try.ntmps50
      go_wp2
      go_ret
      refine ⟨by dsimp only; rw [HB.out]; rfl, ?_, only_ref2 _ _ _ _⟩
      have := Blk.set_ (Blk.set_ HH.out 3 (.int .i64 (ops + 1))) 1 (.int .i64 (left - 1))
      unfold RHead tick
      dsimp only
      rw [HB.out]
      rw [HL.out] at this ⊢
      exact this

theorem told_any (b : Bool) (w : World) : Calls Try.prog 52 #[.bool b] w fun e w' => e = .returned (.int .i64 (if b then 8 else 0)) ∧ w = w' := by
  cases b with
  | true =>
    go_enter Try.func52, Try.ntmps52
    go_wp2
    go_ret
    exact ⟨rfl, rfl⟩
  | false =>
    go_enter Try.func52, Try.ntmps52
    go_wp2
    go_ret
    exact ⟨rfl, rfl⟩
end Go.Proofs.Ythjdankeopfkaaa.Ref
