/-
  No cell of these rows narrows 'for every input' (looked for: loops, veiled, ifaces, maps, wideKeys, modest, calm, conditions, laid).
  DERIVED. THE GIVEN ROWS OF THIS SEAT. 7 by the template 'for every input the law returns true; each argument reads behind the call as it read before'; 0 by the template 'total and deterministic' (their statements: YtjiicmkafidldaaTotals.lean).
  GIVEN WITH THE SEED: the statements are not yours to turn. If you find one false, say at which input.
  Laid BY PROGRAM, IN A SANDBOX (cutbox-rows.mjs): the forced cells as the released guide's own fill.sh prints them over the translation 3f267e830d9e87e9… (all of the seat's roots in one cut). By AI agents, Wed Nov 11 2026. No macro, syntax, notation, axiom, sorry.
-/
import Derived.Test.YtjiicmkafidldaaChecked
import GoSem.Claim
import GoSem.ClaimJoined
import GoSem.ClaimMapViews
import Derived.JoinedTies
import Derived.KernelRfl
namespace Go.Proofs.Ytjiicmkafidldaa
/- THE CELL 'sum', in the pinned program and in every row, IS THE sha256 OF THE DUMP (.gsa) THAT YtjiicmkafidldaaProg.lean LOADS. Nothing in Lean hashes anything: it is a label: what it is worth is what the hold of that sum in a sandbox is worth. -/
noncomputable def Try.pinned : Pinned := { name := "ytjiicmkafidldaa", sum := "3f267e830d9e87e9c84193bede45b85d7ee50a2b5b4082a245b1d7be3fa99e9a", checked := Try.checked }
namespace Rows
def none {H : Type} : Left H := { results := [], args := [] }

/-- 'qanatlaw07.TxnMays': WHATEVER THE INPUT: true; the input reads as it did. -/
def txnMaysSpec : ChangeSpec := { name := "txnMays", fn := fun _ => fun
  | [d1, d2, d3] => { results := [.lit (.bool true)], args := [d1, d2, d3] }
  | _ => none }
def txnMaysRow : OpenClaim := { program := "ytjiicmkafidldaa", sum := "3f267e830d9e87e9c84193bede45b85d7ee50a2b5b4082a245b1d7be3fa99e9a", func := "qanat/qanatlaw07.TxnMays", spec := "txnMays", unfollowed := true, recurses := true, apart := false }
def TxnMaysSaid : Prop := txnMaysRow.holds Try.pinned (OpenSpec.ofChange txnMaysSpec)

/-- ITS FALSE NEIGHBOUR: 'it returns false'. Refute it at one input. -/
def txnMaysWrong : ChangeSpec := { name := "txnMays", fn := fun _ => fun
  | [d1, d2, d3] => { results := [.lit (.bool false)], args := [d1, d2, d3] }
  | _ => none }
def TxnMaysWrongFalsely : Prop := txnMaysRow.holds Try.pinned (OpenSpec.ofChange txnMaysWrong)

/-- 'qanatlaw07.TxnBack': WHATEVER THE INPUT: true; the input reads as it did. -/
def txnBackSpec : ChangeSpec := { name := "txnBack", fn := fun _ => fun
  | [d1, d2] => { results := [.lit (.bool true)], args := [d1, d2] }
  | _ => none }
def txnBackRow : OpenClaim := { program := "ytjiicmkafidldaa", sum := "3f267e830d9e87e9c84193bede45b85d7ee50a2b5b4082a245b1d7be3fa99e9a", func := "qanat/qanatlaw07.TxnBack", spec := "txnBack", unfollowed := true, recurses := true, apart := false }
def TxnBackSaid : Prop := txnBackRow.holds Try.pinned (OpenSpec.ofChange txnBackSpec)

/-- ITS FALSE NEIGHBOUR: 'it returns false'. Refute it at one input. -/
def txnBackWrong : ChangeSpec := { name := "txnBack", fn := fun _ => fun
  | [d1, d2] => { results := [.lit (.bool false)], args := [d1, d2] }
  | _ => none }
def TxnBackWrongFalsely : Prop := txnBackRow.holds Try.pinned (OpenSpec.ofChange txnBackWrong)

/-- 'qanatlaw07.TxnReads': WHATEVER THE INPUT: true; the input reads as it did. -/
def txnReadsSpec : ChangeSpec := { name := "txnReads", fn := fun _ => fun
  | [d1, d2] => { results := [.lit (.bool true)], args := [d1, d2] }
  | _ => none }
def txnReadsRow : OpenClaim := { program := "ytjiicmkafidldaa", sum := "3f267e830d9e87e9c84193bede45b85d7ee50a2b5b4082a245b1d7be3fa99e9a", func := "qanat/qanatlaw07.TxnReads", spec := "txnReads", unfollowed := true, recurses := true, apart := false }
def TxnReadsSaid : Prop := txnReadsRow.holds Try.pinned (OpenSpec.ofChange txnReadsSpec)

/-- ITS FALSE NEIGHBOUR: 'it returns false'. Refute it at one input. -/
def txnReadsWrong : ChangeSpec := { name := "txnReads", fn := fun _ => fun
  | [d1, d2] => { results := [.lit (.bool false)], args := [d1, d2] }
  | _ => none }
def TxnReadsWrongFalsely : Prop := txnReadsRow.holds Try.pinned (OpenSpec.ofChange txnReadsWrong)

/-- 'qanatlaw07.TxnTurned': WHATEVER THE INPUT: true; the input reads as it did. -/
def txnTurnedSpec : ChangeSpec := { name := "txnTurned", fn := fun _ => fun
  | [d1, d2, d3] => { results := [.lit (.bool true)], args := [d1, d2, d3] }
  | _ => none }
def txnTurnedRow : OpenClaim := { program := "ytjiicmkafidldaa", sum := "3f267e830d9e87e9c84193bede45b85d7ee50a2b5b4082a245b1d7be3fa99e9a", func := "qanat/qanatlaw07.TxnTurned", spec := "txnTurned", unfollowed := true, recurses := true, apart := false }
def TxnTurnedSaid : Prop := txnTurnedRow.holds Try.pinned (OpenSpec.ofChange txnTurnedSpec)

/-- ITS FALSE NEIGHBOUR: 'it returns false'. Refute it at one input. -/
def txnTurnedWrong : ChangeSpec := { name := "txnTurned", fn := fun _ => fun
  | [d1, d2, d3] => { results := [.lit (.bool false)], args := [d1, d2, d3] }
  | _ => none }
def TxnTurnedWrongFalsely : Prop := txnTurnedRow.holds Try.pinned (OpenSpec.ofChange txnTurnedWrong)

/-- 'qanatlaw07.TxnLimits': WHATEVER THE INPUT: true; the input reads as it did. -/
def txnLimitsSpec : ChangeSpec := { name := "txnLimits", fn := fun _ => fun
  | [d1, d2, d3] => { results := [.lit (.bool true)], args := [d1, d2, d3] }
  | _ => none }
def txnLimitsRow : OpenClaim := { program := "ytjiicmkafidldaa", sum := "3f267e830d9e87e9c84193bede45b85d7ee50a2b5b4082a245b1d7be3fa99e9a", func := "qanat/qanatlaw07.TxnLimits", spec := "txnLimits", unfollowed := true, recurses := true, apart := false }
def TxnLimitsSaid : Prop := txnLimitsRow.holds Try.pinned (OpenSpec.ofChange txnLimitsSpec)

/-- ITS FALSE NEIGHBOUR: 'it returns false'. Refute it at one input. -/
def txnLimitsWrong : ChangeSpec := { name := "txnLimits", fn := fun _ => fun
  | [d1, d2, d3] => { results := [.lit (.bool false)], args := [d1, d2, d3] }
  | _ => none }
def TxnLimitsWrongFalsely : Prop := txnLimitsRow.holds Try.pinned (OpenSpec.ofChange txnLimitsWrong)

/-- 'qanatlaw08.IndexPlays': WHATEVER THE INPUT: true; the input reads as it did. -/
def indexPlaysSpec : ChangeSpec := { name := "indexPlays", fn := fun _ => fun
  | [d1, d2] => { results := [.lit (.bool true)], args := [d1, d2] }
  | _ => none }
def indexPlaysRow : OpenClaim := { program := "ytjiicmkafidldaa", sum := "3f267e830d9e87e9c84193bede45b85d7ee50a2b5b4082a245b1d7be3fa99e9a", func := "qanat/qanatlaw08.IndexPlays", spec := "indexPlays", inPlace := ["slices.overlaps[qanat/api.Row]"], unfollowed := true, recurses := true, apart := false }
def IndexPlaysSaid : Prop := indexPlaysRow.holds Try.pinned (OpenSpec.ofChange indexPlaysSpec)

/-- ITS FALSE NEIGHBOUR: 'it returns false'. Refute it at one input. -/
def indexPlaysWrong : ChangeSpec := { name := "indexPlays", fn := fun _ => fun
  | [d1, d2] => { results := [.lit (.bool false)], args := [d1, d2] }
  | _ => none }
def IndexPlaysWrongFalsely : Prop := indexPlaysRow.holds Try.pinned (OpenSpec.ofChange indexPlaysWrong)

/-- 'qanatlaw08.IndexWalk': WHATEVER THE INPUT: true; the input reads as it did. -/
def indexWalkSpec : ChangeSpec := { name := "indexWalk", fn := fun _ => fun
  | [d1, d2] => { results := [.lit (.bool true)], args := [d1, d2] }
  | _ => none }
def indexWalkRow : OpenClaim := { program := "ytjiicmkafidldaa", sum := "3f267e830d9e87e9c84193bede45b85d7ee50a2b5b4082a245b1d7be3fa99e9a", func := "qanat/qanatlaw08.IndexWalk", spec := "indexWalk", unfollowed := true, recurses := true, apart := false }
def IndexWalkSaid : Prop := indexWalkRow.holds Try.pinned (OpenSpec.ofChange indexWalkSpec)

/-- ITS FALSE NEIGHBOUR: 'it returns false'. Refute it at one input. -/
def indexWalkWrong : ChangeSpec := { name := "indexWalk", fn := fun _ => fun
  | [d1, d2] => { results := [.lit (.bool false)], args := [d1, d2] }
  | _ => none }
def IndexWalkWrongFalsely : Prop := indexWalkRow.holds Try.pinned (OpenSpec.ofChange indexWalkWrong)

/- THE SECOND FORM. 'bulk': how many values and letters a reading holds, each counted each time it is reached (what is shared counts as often as it is met; a slice's spare places count too). A statement '..UptoSaid' is the law's where the arguments, and the package variables that the reading takes, are together of bulk at most 1048576: NARROWER than '..Said'. Prove '..Said' where nothing that the law and all that it calls make is longer than what came in: it says more and counts as full. Else prove '..UptoSaid'. A law counts once. -/
mutual
def uptoBulk {H : Type} : DataW H → Nat
  | .lit (.string bytes) => bytes.length + 1
  | .lit _ => 1
  | .nil => 1
  | .ptr d => uptoBulk d + 1
  | .slice elems spare => uptoBulkAll elems + uptoBulkAll spare + 1
  | .agg parts => uptoBulkAll parts + 1
  | .iface _ d => uptoBulk d + 1
  | .map entries => uptoBulkEntries entries + 1
  | .held _ => 1
def uptoBulkAll {H : Type} : List (DataW H) → Nat
  | [] => 0
  | d :: r => uptoBulk d + uptoBulkAll r
def uptoBulkEntries {H : Type} : List (Lit × DataW H) → Nat
  | [] => 0
  | x :: r => uptoBulkEntry x + uptoBulkEntries r
def uptoBulkEntry {H : Type} : Lit × DataW H → Nat
  | (.string bytes, d) => bytes.length + uptoBulk d + 1
  | (_, d) => uptoBulk d + 1
 end
def uptoSmall : (H : Type) → List (DataW H) → Bool := fun _ ds => decide (uptoBulkAll ds ≤ 1048576)
def OpenSpec.upto (s : _root_.Go.ChangeSpec) : _root_.Go.OpenSpec := { _root_.Go.OpenSpec.ofChange s with cond := some uptoSmall }

/-- 'qanatlaw07.TxnMays', WHERE WHAT IT READS IS OF BULK AT MOST 1048576: true; the input reads as it did. -/
def txnMaysUptoRow : OpenClaim := { program := "ytjiicmkafidldaa", sum := "3f267e830d9e87e9c84193bede45b85d7ee50a2b5b4082a245b1d7be3fa99e9a", func := "qanat/qanatlaw07.TxnMays", spec := "txnMays", unfollowed := true, recurses := true, apart := false, narrowed := true }
def TxnMaysUptoSaid : Prop := txnMaysUptoRow.holds Try.pinned (OpenSpec.upto txnMaysSpec)

/-- 'qanatlaw07.TxnBack', WHERE WHAT IT READS IS OF BULK AT MOST 1048576: true; the input reads as it did. -/
def txnBackUptoRow : OpenClaim := { program := "ytjiicmkafidldaa", sum := "3f267e830d9e87e9c84193bede45b85d7ee50a2b5b4082a245b1d7be3fa99e9a", func := "qanat/qanatlaw07.TxnBack", spec := "txnBack", unfollowed := true, recurses := true, apart := false, narrowed := true }
def TxnBackUptoSaid : Prop := txnBackUptoRow.holds Try.pinned (OpenSpec.upto txnBackSpec)

/-- 'qanatlaw07.TxnReads', WHERE WHAT IT READS IS OF BULK AT MOST 1048576: true; the input reads as it did. -/
def txnReadsUptoRow : OpenClaim := { program := "ytjiicmkafidldaa", sum := "3f267e830d9e87e9c84193bede45b85d7ee50a2b5b4082a245b1d7be3fa99e9a", func := "qanat/qanatlaw07.TxnReads", spec := "txnReads", unfollowed := true, recurses := true, apart := false, narrowed := true }
def TxnReadsUptoSaid : Prop := txnReadsUptoRow.holds Try.pinned (OpenSpec.upto txnReadsSpec)

/-- 'qanatlaw07.TxnTurned', WHERE WHAT IT READS IS OF BULK AT MOST 1048576: true; the input reads as it did. -/
def txnTurnedUptoRow : OpenClaim := { program := "ytjiicmkafidldaa", sum := "3f267e830d9e87e9c84193bede45b85d7ee50a2b5b4082a245b1d7be3fa99e9a", func := "qanat/qanatlaw07.TxnTurned", spec := "txnTurned", unfollowed := true, recurses := true, apart := false, narrowed := true }
def TxnTurnedUptoSaid : Prop := txnTurnedUptoRow.holds Try.pinned (OpenSpec.upto txnTurnedSpec)

/-- 'qanatlaw07.TxnLimits', WHERE WHAT IT READS IS OF BULK AT MOST 1048576: true; the input reads as it did. -/
def txnLimitsUptoRow : OpenClaim := { program := "ytjiicmkafidldaa", sum := "3f267e830d9e87e9c84193bede45b85d7ee50a2b5b4082a245b1d7be3fa99e9a", func := "qanat/qanatlaw07.TxnLimits", spec := "txnLimits", unfollowed := true, recurses := true, apart := false, narrowed := true }
def TxnLimitsUptoSaid : Prop := txnLimitsUptoRow.holds Try.pinned (OpenSpec.upto txnLimitsSpec)

/-- 'qanatlaw08.IndexPlays', WHERE WHAT IT READS IS OF BULK AT MOST 1048576: true; the input reads as it did. -/
def indexPlaysUptoRow : OpenClaim := { program := "ytjiicmkafidldaa", sum := "3f267e830d9e87e9c84193bede45b85d7ee50a2b5b4082a245b1d7be3fa99e9a", func := "qanat/qanatlaw08.IndexPlays", spec := "indexPlays", inPlace := ["slices.overlaps[qanat/api.Row]"], unfollowed := true, recurses := true, apart := false, narrowed := true }
def IndexPlaysUptoSaid : Prop := indexPlaysUptoRow.holds Try.pinned (OpenSpec.upto indexPlaysSpec)

/-- 'qanatlaw08.IndexWalk', WHERE WHAT IT READS IS OF BULK AT MOST 1048576: true; the input reads as it did. -/
def indexWalkUptoRow : OpenClaim := { program := "ytjiicmkafidldaa", sum := "3f267e830d9e87e9c84193bede45b85d7ee50a2b5b4082a245b1d7be3fa99e9a", func := "qanat/qanatlaw08.IndexWalk", spec := "indexWalk", unfollowed := true, recurses := true, apart := false, narrowed := true }
def IndexWalkUptoSaid : Prop := indexWalkUptoRow.holds Try.pinned (OpenSpec.upto indexWalkSpec)

end Rows
end Go.Proofs.Ytjiicmkafidldaa
