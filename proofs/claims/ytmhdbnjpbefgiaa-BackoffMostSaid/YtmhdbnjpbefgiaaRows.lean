/-
  No cell of these rows narrows 'for every input' (looked for: loops, veiled, ifaces, maps, wideKeys, modest, calm, conditions, laid).
  DERIVED. THE GIVEN ROWS OF THIS SEAT. 3 by the template 'for every input the law returns true; each argument reads behind the call as it read before'; 0 by the template 'total and deterministic' (their statements: YtmhdbnjpbefgiaaTotals.lean).
  GIVEN WITH THE SEED: the statements are not yours to turn. If you find one false, say at which input.
  Laid BY PROGRAM, IN A SANDBOX (cutbox-rows.mjs): the forced cells as the released guide's own fill.sh prints them over the translation 7c5759143e681776… (all of the seat's roots in one cut). By AI agents, Wed Nov 11 2026. No macro, syntax, notation, axiom, sorry.
-/
import Derived.Test.YtmhdbnjpbefgiaaChecked
import GoSem.Claim
import GoSem.ClaimJoined
import GoSem.ClaimMapViews
import Derived.JoinedTies
import Derived.KernelRfl
namespace Go.Proofs.Ytmhdbnjpbefgiaa
/- THE CELL 'sum', in the pinned program and in every row, IS THE sha256 OF THE DUMP (.gsa) THAT YtmhdbnjpbefgiaaProg.lean LOADS. Nothing in Lean hashes anything: it is a label: what it is worth is what the hold of that sum in a sandbox is worth. -/
noncomputable def Try.pinned : Pinned := { name := "ytmhdbnjpbefgiaa", sum := "7c5759143e68177674b77c034d2d33514f25759171b5e3d8bfc5cabf9f91b524", checked := Try.checked }
namespace Rows
def none {H : Type} : Left H := { results := [], args := [] }

/-- 'qanatlaw19.BackoffAll': WHATEVER THE INPUT: true; the input reads as it did. -/
def backoffAllSpec : ChangeSpec := { name := "backoffAll", fn := fun _ => fun
  | [d1, d2, d3, d4, d5] => { results := [.lit (.bool true)], args := [d1, d2, d3, d4, d5] }
  | _ => none }
def backoffAllRow : OpenClaim := { program := "ytmhdbnjpbefgiaa", sum := "7c5759143e68177674b77c034d2d33514f25759171b5e3d8bfc5cabf9f91b524", func := "qanat/qanatlaw19.BackoffAll", spec := "backoffAll", apart := false }
def BackoffAllSaid : Prop := backoffAllRow.holds Try.pinned (OpenSpec.ofChange backoffAllSpec)

/-- ITS FALSE NEIGHBOUR: 'it returns false'. Refute it at one input. -/
def backoffAllWrong : ChangeSpec := { name := "backoffAll", fn := fun _ => fun
  | [d1, d2, d3, d4, d5] => { results := [.lit (.bool false)], args := [d1, d2, d3, d4, d5] }
  | _ => none }
def BackoffAllWrongFalsely : Prop := backoffAllRow.holds Try.pinned (OpenSpec.ofChange backoffAllWrong)

/-- 'qanatlaw19.BackoffBounds': WHATEVER THE INPUT: true; the input reads as it did. -/
def backoffBoundsSpec : ChangeSpec := { name := "backoffBounds", fn := fun _ => fun
  | [d1, d2, d3, d4, d5] => { results := [.lit (.bool true)], args := [d1, d2, d3, d4, d5] }
  | _ => none }
def backoffBoundsRow : OpenClaim := { program := "ytmhdbnjpbefgiaa", sum := "7c5759143e68177674b77c034d2d33514f25759171b5e3d8bfc5cabf9f91b524", func := "qanat/qanatlaw19.BackoffBounds", spec := "backoffBounds", apart := false }
def BackoffBoundsSaid : Prop := backoffBoundsRow.holds Try.pinned (OpenSpec.ofChange backoffBoundsSpec)

/-- ITS FALSE NEIGHBOUR: 'it returns false'. Refute it at one input. -/
def backoffBoundsWrong : ChangeSpec := { name := "backoffBounds", fn := fun _ => fun
  | [d1, d2, d3, d4, d5] => { results := [.lit (.bool false)], args := [d1, d2, d3, d4, d5] }
  | _ => none }
def BackoffBoundsWrongFalsely : Prop := backoffBoundsRow.holds Try.pinned (OpenSpec.ofChange backoffBoundsWrong)

/-- 'qanatlaw19.BackoffMost': WHATEVER THE INPUT: true; the input reads as it did. -/
def backoffMostSpec : ChangeSpec := { name := "backoffMost", fn := fun _ => fun
  | [d1, d2, d3] => { results := [.lit (.bool true)], args := [d1, d2, d3] }
  | _ => none }
def backoffMostRow : OpenClaim := { program := "ytmhdbnjpbefgiaa", sum := "7c5759143e68177674b77c034d2d33514f25759171b5e3d8bfc5cabf9f91b524", func := "qanat/qanatlaw19.BackoffMost", spec := "backoffMost", apart := false }
def BackoffMostSaid : Prop := backoffMostRow.holds Try.pinned (OpenSpec.ofChange backoffMostSpec)

/-- ITS FALSE NEIGHBOUR: 'it returns false'. Refute it at one input. -/
def backoffMostWrong : ChangeSpec := { name := "backoffMost", fn := fun _ => fun
  | [d1, d2, d3] => { results := [.lit (.bool false)], args := [d1, d2, d3] }
  | _ => none }
def BackoffMostWrongFalsely : Prop := backoffMostRow.holds Try.pinned (OpenSpec.ofChange backoffMostWrong)

/- THE SECOND FORM. 'bulk': how many values and letters a reading holds, each counted each time it is reached (what is shared counts as often as it is met; a slice's spare places count too). A statement '..UptoSaid' is the law's where the arguments, and the package variables that the reading takes, are together of bulk at most 1048576: NARROWER than '..Said'. Prove '..Said' where nothing that the law and all that it calls make is longer than what came in: it says more and counts as full. Else prove '..UptoSaid'. A law counts once. -/
mutual
def uptoBulk {H : Type} : DataW H → Nat
  | .lit (.string bytes) => bytes.length + 1
  | .lit _ => 1
  | .nil => 1
  | .ptr d => uptoBulk d + 1
  | .slice elems spare => uptoBulkAll elems + uptoBulkAll spare + 1
  | .agg parts => uptoBulkAll parts + 1
  | .iface _ d => uptoBulk d + 1
  | .map entries => uptoBulkEntries entries + 1
  | .held _ => 1
def uptoBulkAll {H : Type} : List (DataW H) → Nat
  | [] => 0
  | d :: r => uptoBulk d + uptoBulkAll r
def uptoBulkEntries {H : Type} : List (Lit × DataW H) → Nat
  | [] => 0
  | x :: r => uptoBulkEntry x + uptoBulkEntries r
def uptoBulkEntry {H : Type} : Lit × DataW H → Nat
  | (.string bytes, d) => bytes.length + uptoBulk d + 1
  | (_, d) => uptoBulk d + 1
 end
def uptoSmall : (H : Type) → List (DataW H) → Bool := fun _ ds => decide (uptoBulkAll ds ≤ 1048576)
def OpenSpec.upto (s : _root_.Go.ChangeSpec) : _root_.Go.OpenSpec := { _root_.Go.OpenSpec.ofChange s with cond := some uptoSmall }

/-- 'qanatlaw19.BackoffAll', WHERE WHAT IT READS IS OF BULK AT MOST 1048576: true; the input reads as it did. -/
def backoffAllUptoRow : OpenClaim := { program := "ytmhdbnjpbefgiaa", sum := "7c5759143e68177674b77c034d2d33514f25759171b5e3d8bfc5cabf9f91b524", func := "qanat/qanatlaw19.BackoffAll", spec := "backoffAll", apart := false, narrowed := true }
def BackoffAllUptoSaid : Prop := backoffAllUptoRow.holds Try.pinned (OpenSpec.upto backoffAllSpec)

/-- 'qanatlaw19.BackoffBounds', WHERE WHAT IT READS IS OF BULK AT MOST 1048576: true; the input reads as it did. -/
def backoffBoundsUptoRow : OpenClaim := { program := "ytmhdbnjpbefgiaa", sum := "7c5759143e68177674b77c034d2d33514f25759171b5e3d8bfc5cabf9f91b524", func := "qanat/qanatlaw19.BackoffBounds", spec := "backoffBounds", apart := false, narrowed := true }
def BackoffBoundsUptoSaid : Prop := backoffBoundsUptoRow.holds Try.pinned (OpenSpec.upto backoffBoundsSpec)

/-- 'qanatlaw19.BackoffMost', WHERE WHAT IT READS IS OF BULK AT MOST 1048576: true; the input reads as it did. -/
def backoffMostUptoRow : OpenClaim := { program := "ytmhdbnjpbefgiaa", sum := "7c5759143e68177674b77c034d2d33514f25759171b5e3d8bfc5cabf9f91b524", func := "qanat/qanatlaw19.BackoffMost", spec := "backoffMost", apart := false, narrowed := true }
def BackoffMostUptoSaid : Prop := backoffMostUptoRow.holds Try.pinned (OpenSpec.upto backoffMostSpec)

end Rows
end Go.Proofs.Ytmhdbnjpbefgiaa
