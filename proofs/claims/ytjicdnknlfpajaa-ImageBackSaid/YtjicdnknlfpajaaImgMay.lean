/-
  Images of tables in memory; contracts of which may be: the code's (package image).
-/
import Derived.Test.YtjicdnknlfpajaaImgMath
import Derived.Test.YtjicdnknlfpajaaLsts
import Derived.Test.YtjicdnknlfpajaaRowMem
namespace Go.Proofs.Ytjicdnknlfpajaa.Img
set_option linter.unusedVariables false
set_option maxRecDepth 100000
open Go.RowKit Base
open ImgMath
open IdxMath (Rw)
open Lsts (Lsts)
set_option linter.ambiguousOpen false
set_option linter.unusedSimpArgs false

/-- a slice of tables' rows that reads as T, below block B -/
def Tabs (w : World) (B : Nat) (A : Option Addr) (n c : Nat) (T : List (List Rw)) : Prop := Lsts Idx.Rs w B A n c T
section
variable {w w' : World} {B B' n c : Nat} {A : Option Addr} {T : List (List Rw)}
theorem Tabs.len (h : Tabs w B A n c T) : T.length = n := Lsts.len h
theorem Tabs.le (h : Tabs w B A n c T) : n ≤ c ∧ c ≤ 9223372036854775807 := Lsts.le h
theorem Tabs.below (h : Tabs w B A n c T) (hb : Below B w w') : Tabs w' B A n c T := Lsts.below h hb fun _ _ _ _ hr => hr.below hb
theorem Tabs.more (h : Tabs w B A n c T) (hB : B ≤ B') : Tabs w B' A n c T := Lsts.more h hB fun _ _ _ _ hr => hr.more hB
theorem Tabs.at_ (h : Tabs w B A n c T) {k : Nat} (hk : k < n) :
    ∃ b off A' n' c' l, A = some ⟨b, off, none⟩ ∧ b < B ∧ w.cell? ⟨b, off + k, none⟩ = some (.slice A' n' c') ∧ Idx.Rs w B A' n' c' l ∧ T[k]? = some l ∧ T.take (k + 1) = T.take k ++ [l] := Lsts.at_ h hk
end
theorem drop_at {α : Type} {l : List α} {k : Nat} {x : α} (h : l[k]? = some x) : l.drop k = x :: l.drop (k + 1) := by
  have hk : k < l.length := (List.getElem?_eq_some_iff.1 h).1
  rw [List.getElem?_eq_getElem hk] at h
  injection h with h
  rw [List.drop_eq_getElem_cons hk, h]
theorem ret_b {a b : Bool} (h : a = b) : Ending.returned (.bool a) = .returned (.bool b) := by rw [h]
theorem rises_no {m : Int} {x : Rw} {r : List Rw} (h : ¬ (m < x.key ∧ x.key ≤ 1099511627776 ∧ x.val.size ≤ 32)) : risesFrom m (x :: r) = false := by
  rw [rises_cons, Bool.eq_false_iff]
  intro h1
  simp only [Bool.and_eq_true, decide_eq_true_eq] at h1
  exact h ⟨h1.1, h1.2.1, h1.2.2.1⟩
theorem rises_yes {m : Int} {x : Rw} {r : List Rw} (h : m < x.key ∧ x.key ≤ 1099511627776 ∧ x.val.size ≤ 32) : risesFrom m (x :: r) = risesFrom x.key r := by
  rw [rises_cons, decide_eq_true h.1, decide_eq_true h.2.1, decide_eq_true h.2.2]
  rfl
def MtRel (w : World) (n : Nat) (l : List Rw) (vi vm : Value) (wr : World) : Prop := ∃ (k : Nat) (m : Int), vi = .int .i64 k ∧ vm = .int .i64 m ∧ k ≤ n ∧ risesFrom 0 l = risesFrom m (l.drop k) ∧ Below w.heap.size w wr
set_option maxHeartbeats 1600000 in
theorem mayTable_any (B : Nat) (A : Option Addr) (n c : Nat) (l : List Rw) (w : World) (h : Idx.Rs w B A n c l) (hB : B ≤ w.heap.size) :
    Calls Try.prog 92 #[.slice A n c] w fun e w' => e = .returned (.bool (mayTab l)) ∧ Below w.heap.size w w' := by
  have hle := h.le
  have HL := Lib.hid h.len
  have HR := Lib.hid h
  by_cases h1000 : 1000 < n
  · have HE := Lib.hid (show mayTab l = false by unfold mayTab; rw [decide_eq_false (by rw [h.len]; omega)]; rfl)
    clear h
    go_enter Try.func92, Try.ntmps92
    go_wp2
    go_ret
    exact ⟨ret_b (a := false) HE.out.symm, Below.refl _ _⟩
  · have HE := Lib.hid (show mayTab l = risesFrom 0 l by unfold mayTab; rw [decide_eq_true (by rw [h.len]; omega)]; rfl)
    clear h
    go_enter Try.func92, Try.ntmps92
    go_wp2
    go_loopw [11, 3, 5] (fun vi vm _ wr => MtRel w n l vi vm wr) (fun vi _ _ _ => n - (intOf vi).toNat)
    case atStart => exact ⟨0, 0, rfl, rfl, Nat.zero_le _, rfl, Below.refl _ _⟩
    case round =>
      obtain ⟨k, m, rfl, rfl, hk, hris, hbel⟩ := hrel
      have HRI := Lib.hid hris
      have HB := Lib.hid hbel
      clear hris hbel
      by_cases hlt : k < n
      · obtain ⟨b, off, x, rfl, hb, c0, c1, hget, _⟩ := (HR.out.below (HB.out.mono hB)).at_ hlt
        have HD := Lib.hid (drop_at hget)
        obtain ⟨xk, xv⟩ := x
        dsimp only at c0 c1
        clear hget
        have HBx : Hid (Below w.heap.size w (wr.alloc (.cells #[.int .i64 xk, .string xv] 97))) := HB.out.alloc HB.out.size _
        have l1 : (k : Int) < (n : Int) := by omega
        by_cases h1 : m < xk
        · by_cases h2 : xk ≤ 1099511627776
          · by_cases h3 : xv.size ≤ 32
            · have HS := Lib.hid (rises_yes (x := ⟨xk, xv⟩) (r := l.drop (k + 1)) ⟨h1, h2, h3⟩)
              go_wp2
              go_roundw
              case rel => exact ⟨k + 1, xk, by go_num, rfl, by omega, by rw [HRI.out, HD.out, HS.out], HBx.out⟩
              case measure => simp [intOf]; omega
            · have HS := Lib.hid (rises_no (m := m) (x := ⟨xk, xv⟩) (r := l.drop (k + 1)) (fun e => h3 e.2.2))
              go_wp2
              go_ret
              exact ⟨ret_b (a := false) (by rw [HE.out, HRI.out, HD.out, HS.out]), HBx.out⟩
          · have HS := Lib.hid (rises_no (m := m) (x := ⟨xk, xv⟩) (r := l.drop (k + 1)) (fun e => h2 e.2.1))
            go_wp2
            go_ret
            exact ⟨ret_b (a := false) (by rw [HE.out, HRI.out, HD.out, HS.out]), HBx.out⟩
        · have HS := Lib.hid (rises_no (m := m) (x := ⟨xk, xv⟩) (r := l.drop (k + 1)) (fun e => h1 e.1))
          go_wp2
          go_ret
          exact ⟨ret_b (a := false) (by rw [HE.out, HRI.out, HD.out, HS.out]), HBx.out⟩
      · have HN : Hid (risesFrom 0 l = true) := by show _ = _; rw [HRI.out, List.drop_of_length_le (by rw [HL.out]; omega)]; rfl
        go_wp2
        go_ret
        exact ⟨ret_b (a := true) (by rw [HE.out, HN.out]), HB.out⟩

theorem may_mk (lsn : Int) (T : List (List Rw)) (h1 : 0 ≤ lsn) (h2 : lsn ≤ 1099511627776) (h3 : 1 ≤ T.length) (h4 : T.length ≤ 8) : (Im.mk lsn T).may = T.all mayTab := by
  unfold Im.may
  dsimp only
  rw [decide_eq_true h1, decide_eq_true h2, decide_eq_true h3, decide_eq_true h4]
  rfl
theorem may_not (lsn : Int) (T : List (List Rw)) (h : ¬ (0 ≤ lsn ∧ lsn ≤ 1099511627776 ∧ 1 ≤ T.length ∧ T.length ≤ 8)) : (Im.mk lsn T).may = false := by
  rw [Bool.eq_false_iff]
  intro h1
  have := may_of h1
  exact h ⟨this.lsn.1, this.lsn.2, this.tabs.1, this.tabs.2⟩
theorem all_end {α : Type} {l : List α} {p : α → Bool} {n : Nat} (hl : l.length ≤ n) (h : (l.take n).all p = true) : l.all p = true := by rwa [List.take_of_length_le hl] at h
theorem all_no {α : Type} {l : List α} {p : α → Bool} {k : Nat} {f : α} (hg : l[k]? = some f) (h : p f = false) : l.all p = false := by
  rw [Bool.eq_false_iff]
  intro h2
  rw [List.all_eq_true.1 h2 f (List.mem_of_getElem? hg)] at h
  cases h
theorem all_step {α : Type} {l : List α} {p : α → Bool} {k : Nat} {f : α} (h : (l.take k).all p = true) (e : l.take (k + 1) = l.take k ++ [f]) (hf : p f = true) : (l.take (k + 1)).all p = true := by rw [e]; simp [h, hf]
def MyRel (w : World) (n : Nat) (T : List (List Rw)) (vi : Value) (wr : World) : Prop := ∃ k : Nat, vi = .int .i64 k ∧ k ≤ n ∧ (T.take k).all mayTab = true ∧ Below w.heap.size w wr
set_option maxHeartbeats 1600000 in
theorem may_any (B : Nat) (lsn : Int) (A : Option Addr) (n c : Nat) (T : List (List Rw)) (w : World) (h : Tabs w B A n c T) (hB : B ≤ w.heap.size) :
    Calls Try.prog 58 #[.int .i64 lsn, .slice A n c] w fun e w' => e = .returned (.bool (Im.mk lsn T).may) ∧ Below w.heap.size w w' := by
  have hle := h.le
  have HL := Lib.hid h.len
  have HR := Lib.hid h
  clear h
  by_cases h0 : lsn < 0
  · have HE := Lib.hid (may_not lsn T (fun e => by omega))
    go_enter Try.func58, Try.ntmps58
    go_wp2
    go_ret
    exact ⟨ret_b (a := false) HE.out.symm, Below.refl _ _⟩
  by_cases h1 : 1099511627776 < lsn
  · have HE := Lib.hid (may_not lsn T (fun e => by omega))
    go_enter Try.func58, Try.ntmps58
    go_wp2
    go_ret
    exact ⟨ret_b (a := false) HE.out.symm, Below.refl _ _⟩
  by_cases h2 : n < 1
  · have HE := Lib.hid (may_not lsn T (fun e => by have := HL.out; omega))
    go_enter Try.func58, Try.ntmps58
    go_wp2
    go_ret
    exact ⟨ret_b (a := false) HE.out.symm, Below.refl _ _⟩
  by_cases h3 : 8 < n
  · have HE := Lib.hid (may_not lsn T (fun e => by have := HL.out; omega))
    go_enter Try.func58, Try.ntmps58
    go_wp2
    go_ret
    exact ⟨ret_b (a := false) HE.out.symm, Below.refl _ _⟩
  have HE := Lib.hid (may_mk lsn T (by omega) (by omega) (by have := HL.out; omega) (by have := HL.out; omega))
  go_enter Try.func58, Try.ntmps58
  go_wp2
  go_loopw [23, 6] (fun vi _ wr => MyRel w n T vi wr) (fun vi _ _ => n - (intOf vi).toNat)
  case atStart => exact ⟨0, rfl, Nat.zero_le _, rfl, Below.refl _ _⟩
  case round =>
    obtain ⟨k, rfl, hk, hall, hbel⟩ := hrel
    have HA := Lib.hid hall
    have HB := Lib.hid hbel
    clear hall hbel
    by_cases hlt : k < n
    · obtain ⟨b, off, A', n', c', l, rfl, hb, c0, hrs, hget, htake⟩ := (HR.out.below (HB.out.mono hB)).at_ hlt
      have HG := Lib.hid hget
      have HT := Lib.hid htake
      have HRS := Lib.hid hrs
      have l1 : (k : Int) < (n : Int) := by omega
      clear hget htake hrs
      go_wp2_with fail
      refine (mayTable_any B A' n' c' l wr HRS.out (Nat.le_trans hB HB.out.size)).mono ?_
      rintro e w1 ⟨rfl, hb1⟩
      have HB1 := Lib.hid (held_two HB.out hb1)
      clear hb1
      cases hm : mayTab l with
      | true =>
        have HM := Lib.hid (all_step HA.out HT.out hm)
        go_wp2
        go_roundw
        case rel => exact ⟨k + 1, by go_num, by omega, HM.out, HB1.out⟩
        case measure => simp [intOf]; omega
      | false =>
        have HM := Lib.hid (all_no HG.out hm)
        go_wp2
        go_ret
        exact ⟨ret_b (a := false) (by rw [HE.out, HM.out]), HB1.out⟩
    · have HM := Lib.hid (all_end (l := T) (n := k) (by rw [HL.out]; omega) HA.out)
      go_wp2
      go_ret
      exact ⟨ret_b (a := true) (by rw [HE.out, HM.out]), HB.out⟩
end Go.Proofs.Ytjicdnknlfpajaa.Img
