/-
  No cell of these rows narrows 'for every input' (looked for: loops, veiled, ifaces, maps, wideKeys, modest, calm, conditions, laid).
  DERIVED. THE GIVEN ROWS OF THIS SEAT. 4 by the template 'for every input the law returns true; each argument reads behind the call as it read before'; 0 by the template 'total and deterministic' (their statements: YtohnjhifnankeaaTotals.lean).
  GIVEN WITH THE SEED: the statements are not yours to turn. If you find one false, say at which input.
  Laid BY PROGRAM, IN A SANDBOX (cutbox-rows.mjs): the forced cells as the released guide's own fill.sh prints them over the translation 6a033e806671599b… (all of the seat's roots in one cut). By AI agents, Wed Nov 11 2026. No macro, syntax, notation, axiom, sorry.
-/
import Derived.Test.YtohnjhifnankeaaChecked
import GoSem.Claim
import GoSem.ClaimJoined
import GoSem.ClaimMapViews
import Derived.JoinedTies
import Derived.KernelRfl
namespace Go.Proofs.Ytohnjhifnankeaa
/- THE CELL 'sum', in the pinned program and in every row, IS THE sha256 OF THE DUMP (.gsa) THAT YtohnjhifnankeaaProg.lean LOADS. Nothing in Lean hashes anything: it is a label: what it is worth is what the hold of that sum in a sandbox is worth. -/
noncomputable def Try.pinned : Pinned := { name := "ytohnjhifnankeaa", sum := "6a033e806671599ba9ce6b894c204b6ac881b8b908134c7be47a533fb5961293", checked := Try.checked }
namespace Rows
def none {H : Type} : Left H := { results := [], args := [] }

/-- 'qanatlaw14.ReqPlays': WHATEVER THE INPUT: true; the input reads as it did. -/
def reqPlaysSpec : ChangeSpec := { name := "reqPlays", fn := fun _ => fun
  | [d] => { results := [.lit (.bool true)], args := [d] }
  | _ => none }
def reqPlaysRow : OpenClaim := { program := "ytohnjhifnankeaa", sum := "6a033e806671599ba9ce6b894c204b6ac881b8b908134c7be47a533fb5961293", func := "qanat/qanatlaw14.ReqPlays", spec := "reqPlays", unfollowed := true, recurses := true, apart := false }
def ReqPlaysSaid : Prop := reqPlaysRow.holds Try.pinned (OpenSpec.ofChange reqPlaysSpec)

/-- ITS FALSE NEIGHBOUR: 'it returns false'. Refute it at one input. -/
def reqPlaysWrong : ChangeSpec := { name := "reqPlays", fn := fun _ => fun
  | [d] => { results := [.lit (.bool false)], args := [d] }
  | _ => none }
def ReqPlaysWrongFalsely : Prop := reqPlaysRow.holds Try.pinned (OpenSpec.ofChange reqPlaysWrong)

/-- 'qanatlaw14.ReqRaw': WHATEVER THE INPUT: true; the input reads as it did. -/
def reqRawSpec : ChangeSpec := { name := "reqRaw", fn := fun _ => fun
  | [d1, d2, d3] => { results := [.lit (.bool true)], args := [d1, d2, d3] }
  | _ => none }
def reqRawRow : OpenClaim := { program := "ytohnjhifnankeaa", sum := "6a033e806671599ba9ce6b894c204b6ac881b8b908134c7be47a533fb5961293", func := "qanat/qanatlaw14.ReqRaw", spec := "reqRaw", unfollowed := true, recurses := true, apart := false }
def ReqRawSaid : Prop := reqRawRow.holds Try.pinned (OpenSpec.ofChange reqRawSpec)

/-- ITS FALSE NEIGHBOUR: 'it returns false'. Refute it at one input. -/
def reqRawWrong : ChangeSpec := { name := "reqRaw", fn := fun _ => fun
  | [d1, d2, d3] => { results := [.lit (.bool false)], args := [d1, d2, d3] }
  | _ => none }
def ReqRawWrongFalsely : Prop := reqRawRow.holds Try.pinned (OpenSpec.ofChange reqRawWrong)

/-- 'qanatlaw14.ReqOnce': WHATEVER THE INPUT: true; the input reads as it did. -/
def reqOnceSpec : ChangeSpec := { name := "reqOnce", fn := fun _ => fun
  | [d] => { results := [.lit (.bool true)], args := [d] }
  | _ => none }
def reqOnceRow : OpenClaim := { program := "ytohnjhifnankeaa", sum := "6a033e806671599ba9ce6b894c204b6ac881b8b908134c7be47a533fb5961293", func := "qanat/qanatlaw14.ReqOnce", spec := "reqOnce", unfollowed := true, recurses := true, apart := false }
def ReqOnceSaid : Prop := reqOnceRow.holds Try.pinned (OpenSpec.ofChange reqOnceSpec)

/-- ITS FALSE NEIGHBOUR: 'it returns false'. Refute it at one input. -/
def reqOnceWrong : ChangeSpec := { name := "reqOnce", fn := fun _ => fun
  | [d] => { results := [.lit (.bool false)], args := [d] }
  | _ => none }
def ReqOnceWrongFalsely : Prop := reqOnceRow.holds Try.pinned (OpenSpec.ofChange reqOnceWrong)

/-- 'qanatlaw14.ReqFull': WHATEVER THE INPUT: true; the input reads as it did. -/
def reqFullSpec : ChangeSpec := { name := "reqFull", fn := fun _ => fun
  | [d] => { results := [.lit (.bool true)], args := [d] }
  | _ => none }
def reqFullRow : OpenClaim := { program := "ytohnjhifnankeaa", sum := "6a033e806671599ba9ce6b894c204b6ac881b8b908134c7be47a533fb5961293", func := "qanat/qanatlaw14.ReqFull", spec := "reqFull", unfollowed := true, recurses := true, apart := false }
def ReqFullSaid : Prop := reqFullRow.holds Try.pinned (OpenSpec.ofChange reqFullSpec)

/-- ITS FALSE NEIGHBOUR: 'it returns false'. Refute it at one input. -/
def reqFullWrong : ChangeSpec := { name := "reqFull", fn := fun _ => fun
  | [d] => { results := [.lit (.bool false)], args := [d] }
  | _ => none }
def ReqFullWrongFalsely : Prop := reqFullRow.holds Try.pinned (OpenSpec.ofChange reqFullWrong)

/- THE SECOND FORM. 'bulk': how many values and letters a reading holds, each counted each time it is reached (what is shared counts as often as it is met; a slice's spare places count too). A statement '..UptoSaid' is the law's where the arguments, and the package variables that the reading takes, are together of bulk at most 1048576: NARROWER than '..Said'. Prove '..Said' where nothing that the law and all that it calls make is longer than what came in: it says more and counts as full. Else prove '..UptoSaid'. A law counts once. -/
mutual
def uptoBulk {H : Type} : DataW H → Nat
  | .lit (.string bytes) => bytes.length + 1
  | .lit _ => 1
  | .nil => 1
  | .ptr d => uptoBulk d + 1
  | .slice elems spare => uptoBulkAll elems + uptoBulkAll spare + 1
  | .agg parts => uptoBulkAll parts + 1
  | .iface _ d => uptoBulk d + 1
  | .map entries => uptoBulkEntries entries + 1
  | .held _ => 1
def uptoBulkAll {H : Type} : List (DataW H) → Nat
  | [] => 0
  | d :: r => uptoBulk d + uptoBulkAll r
def uptoBulkEntries {H : Type} : List (Lit × DataW H) → Nat
  | [] => 0
  | x :: r => uptoBulkEntry x + uptoBulkEntries r
def uptoBulkEntry {H : Type} : Lit × DataW H → Nat
  | (.string bytes, d) => bytes.length + uptoBulk d + 1
  | (_, d) => uptoBulk d + 1
 end
def uptoSmall : (H : Type) → List (DataW H) → Bool := fun _ ds => decide (uptoBulkAll ds ≤ 1048576)
def OpenSpec.upto (s : _root_.Go.ChangeSpec) : _root_.Go.OpenSpec := { _root_.Go.OpenSpec.ofChange s with cond := some uptoSmall }

/-- 'qanatlaw14.ReqPlays', WHERE WHAT IT READS IS OF BULK AT MOST 1048576: true; the input reads as it did. -/
def reqPlaysUptoRow : OpenClaim := { program := "ytohnjhifnankeaa", sum := "6a033e806671599ba9ce6b894c204b6ac881b8b908134c7be47a533fb5961293", func := "qanat/qanatlaw14.ReqPlays", spec := "reqPlays", unfollowed := true, recurses := true, apart := false, narrowed := true }
def ReqPlaysUptoSaid : Prop := reqPlaysUptoRow.holds Try.pinned (OpenSpec.upto reqPlaysSpec)

/-- 'qanatlaw14.ReqRaw', WHERE WHAT IT READS IS OF BULK AT MOST 1048576: true; the input reads as it did. -/
def reqRawUptoRow : OpenClaim := { program := "ytohnjhifnankeaa", sum := "6a033e806671599ba9ce6b894c204b6ac881b8b908134c7be47a533fb5961293", func := "qanat/qanatlaw14.ReqRaw", spec := "reqRaw", unfollowed := true, recurses := true, apart := false, narrowed := true }
def ReqRawUptoSaid : Prop := reqRawUptoRow.holds Try.pinned (OpenSpec.upto reqRawSpec)

/-- 'qanatlaw14.ReqOnce', WHERE WHAT IT READS IS OF BULK AT MOST 1048576: true; the input reads as it did. -/
def reqOnceUptoRow : OpenClaim := { program := "ytohnjhifnankeaa", sum := "6a033e806671599ba9ce6b894c204b6ac881b8b908134c7be47a533fb5961293", func := "qanat/qanatlaw14.ReqOnce", spec := "reqOnce", unfollowed := true, recurses := true, apart := false, narrowed := true }
def ReqOnceUptoSaid : Prop := reqOnceUptoRow.holds Try.pinned (OpenSpec.upto reqOnceSpec)

/-- 'qanatlaw14.ReqFull', WHERE WHAT IT READS IS OF BULK AT MOST 1048576: true; the input reads as it did. -/
def reqFullUptoRow : OpenClaim := { program := "ytohnjhifnankeaa", sum := "6a033e806671599ba9ce6b894c204b6ac881b8b908134c7be47a533fb5961293", func := "qanat/qanatlaw14.ReqFull", spec := "reqFull", unfollowed := true, recurses := true, apart := false, narrowed := true }
def ReqFullUptoSaid : Prop := reqFullUptoRow.holds Try.pinned (OpenSpec.upto reqFullSpec)

end Rows
end Go.Proofs.Ytohnjhifnankeaa
