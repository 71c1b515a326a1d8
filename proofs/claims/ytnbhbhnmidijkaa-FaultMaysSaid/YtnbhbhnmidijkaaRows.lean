/-
  No cell of these rows narrows 'for every input' (looked for: loops, veiled, ifaces, maps, wideKeys, modest, calm, conditions, laid).
  DERIVED. THE GIVEN ROWS OF THIS SEAT. 3 by the template 'for every input the law returns true; each argument reads behind the call as it read before'; 0 by the template 'total and deterministic' (their statements: YtnbhbhnmidijkaaTotals.lean).
  GIVEN WITH THE SEED: the statements are not yours to turn. If you find one false, say at which input.
  Laid BY PROGRAM, IN A SANDBOX (cutbox-rows.mjs): the forced cells as the released guide's own fill.sh prints them over the translation 6ec3dac6ce7fcfc8… (all of the seat's roots in one cut). By AI agents, Wed Nov 11 2026. No macro, syntax, notation, axiom, sorry.
-/
import Derived.Test.YtnbhbhnmidijkaaChecked
import GoSem.Claim
import GoSem.ClaimJoined
import GoSem.ClaimMapViews
import Derived.JoinedTies
import Derived.KernelRfl
namespace Go.Proofs.Ytnbhbhnmidijkaa
/- THE CELL 'sum', in the pinned program and in every row, IS THE sha256 OF THE DUMP (.gsa) THAT YtnbhbhnmidijkaaProg.lean LOADS. Nothing in Lean hashes anything: it is a label: what it is worth is what the hold of that sum in a sandbox is worth. -/
noncomputable def Try.pinned : Pinned := { name := "ytnbhbhnmidijkaa", sum := "6ec3dac6ce7fcfc8e49c5d2b45cf71f55d81e47385479a8a5829f9d267520fcf", checked := Try.checked }
namespace Rows
def none {H : Type} : Left H := { results := [], args := [] }

/-- 'qanatlaw17.FaultMays': WHATEVER THE INPUT: true; the input reads as it did. -/
def faultMaysSpec : ChangeSpec := { name := "faultMays", fn := fun _ => fun
  | [d1, d2] => { results := [.lit (.bool true)], args := [d1, d2] }
  | _ => none }
def faultMaysRow : OpenClaim := { program := "ytnbhbhnmidijkaa", sum := "6ec3dac6ce7fcfc8e49c5d2b45cf71f55d81e47385479a8a5829f9d267520fcf", func := "qanat/qanatlaw17.FaultMays", spec := "faultMays", apart := false }
def FaultMaysSaid : Prop := faultMaysRow.holds Try.pinned (OpenSpec.ofChange faultMaysSpec)

/-- ITS FALSE NEIGHBOUR: 'it returns false'. Refute it at one input. -/
def faultMaysWrong : ChangeSpec := { name := "faultMays", fn := fun _ => fun
  | [d1, d2] => { results := [.lit (.bool false)], args := [d1, d2] }
  | _ => none }
def FaultMaysWrongFalsely : Prop := faultMaysRow.holds Try.pinned (OpenSpec.ofChange faultMaysWrong)

/-- 'qanatlaw17.FaultPlays': WHATEVER THE INPUT: true; the input reads as it did. -/
def faultPlaysSpec : ChangeSpec := { name := "faultPlays", fn := fun _ => fun
  | [d1, d2] => { results := [.lit (.bool true)], args := [d1, d2] }
  | _ => none }
def faultPlaysRow : OpenClaim := { program := "ytnbhbhnmidijkaa", sum := "6ec3dac6ce7fcfc8e49c5d2b45cf71f55d81e47385479a8a5829f9d267520fcf", func := "qanat/qanatlaw17.FaultPlays", spec := "faultPlays", apart := false }
def FaultPlaysSaid : Prop := faultPlaysRow.holds Try.pinned (OpenSpec.ofChange faultPlaysSpec)

/-- ITS FALSE NEIGHBOUR: 'it returns false'. Refute it at one input. -/
def faultPlaysWrong : ChangeSpec := { name := "faultPlays", fn := fun _ => fun
  | [d1, d2] => { results := [.lit (.bool false)], args := [d1, d2] }
  | _ => none }
def FaultPlaysWrongFalsely : Prop := faultPlaysRow.holds Try.pinned (OpenSpec.ofChange faultPlaysWrong)

/-- 'qanatlaw17.FaultFull': WHATEVER THE INPUT: true; the input reads as it did. -/
def faultFullSpec : ChangeSpec := { name := "faultFull", fn := fun _ => fun
  | [d1, d2] => { results := [.lit (.bool true)], args := [d1, d2] }
  | _ => none }
def faultFullRow : OpenClaim := { program := "ytnbhbhnmidijkaa", sum := "6ec3dac6ce7fcfc8e49c5d2b45cf71f55d81e47385479a8a5829f9d267520fcf", func := "qanat/qanatlaw17.FaultFull", spec := "faultFull", apart := false }
def FaultFullSaid : Prop := faultFullRow.holds Try.pinned (OpenSpec.ofChange faultFullSpec)

/-- ITS FALSE NEIGHBOUR: 'it returns false'. Refute it at one input. -/
def faultFullWrong : ChangeSpec := { name := "faultFull", fn := fun _ => fun
  | [d1, d2] => { results := [.lit (.bool false)], args := [d1, d2] }
  | _ => none }
def FaultFullWrongFalsely : Prop := faultFullRow.holds Try.pinned (OpenSpec.ofChange faultFullWrong)

/- THE SECOND FORM. 'bulk': how many values and letters a reading holds, each counted each time it is reached (what is shared counts as often as it is met; a slice's spare places count too). A statement '..UptoSaid' is the law's where the arguments, and the package variables that the reading takes, are together of bulk at most 1048576: NARROWER than '..Said'. Prove '..Said' where nothing that the law and all that it calls make is longer than what came in: it says more and counts as full. Else prove '..UptoSaid'. A law counts once. -/
mutual
def uptoBulk {H : Type} : DataW H → Nat
  | .lit (.string bytes) => bytes.length + 1
  | .lit _ => 1
  | .nil => 1
  | .ptr d => uptoBulk d + 1
  | .slice elems spare => uptoBulkAll elems + uptoBulkAll spare + 1
  | .agg parts => uptoBulkAll parts + 1
  | .iface _ d => uptoBulk d + 1
  | .map entries => uptoBulkEntries entries + 1
  | .held _ => 1
def uptoBulkAll {H : Type} : List (DataW H) → Nat
  | [] => 0
  | d :: r => uptoBulk d + uptoBulkAll r
def uptoBulkEntries {H : Type} : List (Lit × DataW H) → Nat
  | [] => 0
  | x :: r => uptoBulkEntry x + uptoBulkEntries r
def uptoBulkEntry {H : Type} : Lit × DataW H → Nat
  | (.string bytes, d) => bytes.length + uptoBulk d + 1
  | (_, d) => uptoBulk d + 1
 end
def uptoSmall : (H : Type) → List (DataW H) → Bool := fun _ ds => decide (uptoBulkAll ds ≤ 1048576)
def OpenSpec.upto (s : _root_.Go.ChangeSpec) : _root_.Go.OpenSpec := { _root_.Go.OpenSpec.ofChange s with cond := some uptoSmall }

/-- 'qanatlaw17.FaultMays', WHERE WHAT IT READS IS OF BULK AT MOST 1048576: true; the input reads as it did. -/
def faultMaysUptoRow : OpenClaim := { program := "ytnbhbhnmidijkaa", sum := "6ec3dac6ce7fcfc8e49c5d2b45cf71f55d81e47385479a8a5829f9d267520fcf", func := "qanat/qanatlaw17.FaultMays", spec := "faultMays", apart := false, narrowed := true }
def FaultMaysUptoSaid : Prop := faultMaysUptoRow.holds Try.pinned (OpenSpec.upto faultMaysSpec)

/-- 'qanatlaw17.FaultPlays', WHERE WHAT IT READS IS OF BULK AT MOST 1048576: true; the input reads as it did. -/
def faultPlaysUptoRow : OpenClaim := { program := "ytnbhbhnmidijkaa", sum := "6ec3dac6ce7fcfc8e49c5d2b45cf71f55d81e47385479a8a5829f9d267520fcf", func := "qanat/qanatlaw17.FaultPlays", spec := "faultPlays", apart := false, narrowed := true }
def FaultPlaysUptoSaid : Prop := faultPlaysUptoRow.holds Try.pinned (OpenSpec.upto faultPlaysSpec)

/-- 'qanatlaw17.FaultFull', WHERE WHAT IT READS IS OF BULK AT MOST 1048576: true; the input reads as it did. -/
def faultFullUptoRow : OpenClaim := { program := "ytnbhbhnmidijkaa", sum := "6ec3dac6ce7fcfc8e49c5d2b45cf71f55d81e47385479a8a5829f9d267520fcf", func := "qanat/qanatlaw17.FaultFull", spec := "faultFull", apart := false, narrowed := true }
def FaultFullUptoSaid : Prop := faultFullUptoRow.holds Try.pinned (OpenSpec.upto faultFullSpec)

end Rows
end Go.Proofs.Ytnbhbhnmidijkaa
