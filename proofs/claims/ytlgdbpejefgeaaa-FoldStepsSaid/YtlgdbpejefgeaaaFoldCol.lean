/-
  Package fold: who takes the changes that a walk goes by, said for whatever it keeps of them.
-/
import Derived.Test.YtlgdbpejefgeaaaFoldWalk
namespace Go.Proofs.Ytlgdbpejefgeaaa.Fold
set_option linter.unusedVariables false
set_option linter.unusedSimpArgs false
set_option maxRecDepth 100000
open Go.RowKit Base FoldMath Foot
open TxnMath (Ch Tx)
open PChg (gval Cs)
open PTx
set_option linter.ambiguousOpen false

/-- who takes changes: J says what he keeps of those that he took, in the blocks R -/
structure Col (R : Nat → Prop) (J : List Ch → World → Prop) (G : Nat) (v : Value) (M : Nat) (ok : Ch → Prop) : Prop where
  keep : ∀ cs w w', J cs w → (∀ i, i < w.heap.size → R i → w'.heap[i]? = w.heap[i]?) → J cs w'
  take : ∀ cs c w, J cs w → ok c → cs.length < M → Calls Try.prog G #[v, gval c] w fun e w' => e = .returned (.tuple #[]) ∧ J (cs ++ [c]) w' ∧ Turn R w w'
/-- a walk on its way from j to h: it stands behind i -/
def AtI (B : Nat) (J : List Ch → World → Prop) (G : Nat) (v : Value) (p : Nat) (A : Option Addr) (n c : Nat) (l : List Tx) (j h : Nat) (w wr : World) : Prop :=
  ∃ i : Nat, j ≤ i ∧ i ≤ max j h ∧ WalkAt wr p A n c i (.func (.func G) #[v] #[]) ∧ J (chs l i) wr ∧ Below B w wr
/-- what to does -/
def ToR (B : Nat) (J : List Ch → World → Prop) (G : Nat) (v : Value) (p : Nat) (A : Option Addr) (n c : Nat) (l : List Tx) (i : Nat) (w : World) (e : Ending) (w' : World) : Prop :=
  e = .returned (.tuple #[]) ∧ WalkAt w' p A n c i (.func (.func G) #[v] #[]) ∧ J (chs l i) w' ∧ Below B w w'
/-- .. among the changes of the i-th transaction: m of them are taken -/
def AtM (B : Nat) (J : List Ch → World → Prop) (G : Nat) (v : Value) (p : Nat) (A : Option Addr) (n c : Nat) (l : List Tx) (x : Tx) (i : Nat) (w : World) (m : Nat) (wr : World) : Prop :=
  WalkAt wr p A n c (i + 1 : Nat) (.func (.func G) #[v] #[]) ∧ J (chs l i ++ x.chs.take m) wr ∧ Below B w wr
theorem chs_le (l : List Tx) {i n : Nat} (h : i ≤ n) : (chs l i).length ≤ (chs l n).length := by
  unfold chs
  have e : l.take n = l.take i ++ (l.take n).drop i := by
    rw [show l.take i = (l.take n).take i by rw [List.take_take, Nat.min_eq_left h], List.take_append_drop]
  rw [e, List.flatMap_append, List.length_append]
  omega
theorem chs_sub (l : List Tx) {i n : Nat} (h : i ≤ n) {c : Ch} (hc : c ∈ chs l i) : c ∈ chs l n := by
  unfold chs at *
  have e : l.take n = l.take i ++ (l.take n).drop i := by
    rw [show l.take i = (l.take n).take i by rw [List.take_take, Nat.min_eq_left h], List.take_append_drop]
  rw [e, List.flatMap_append]
  exact List.mem_append_left _ hc
theorem chs_in {l : List Tx} {i n : Nat} {x : Tx} (hx : l[i]? = some x) (h : i < n) {c : Ch} (hc : c ∈ x.chs) : c ∈ chs l n := by
  refine chs_sub l h ?_
  rw [chs_succ hx]
  exact List.mem_append_right _ hc
theorem chs_room {l : List Tx} {i n m : Nat} {x : Tx} (hx : l[i]? = some x) (h : i < n) (hm : m < x.chs.length) : (chs l i ++ x.chs.take m).length < (chs l n).length := by
  have h1 := chs_le l (show i + 1 ≤ n from h)
  rw [chs_succ hx, List.length_append] at h1
  rw [List.length_append, List.length_take]
  omega
end Go.Proofs.Ytlgdbpejefgeaaa.Fold
