/-
  No cell of these rows narrows 'for every input' (looked for: loops, veiled, ifaces, maps, wideKeys, modest, calm, conditions, laid).
  DERIVED. THE GIVEN ROWS OF THIS SEAT. 3 by the template 'for every input the law returns true; each argument reads behind the call as it read before'; 0 by the template 'total and deterministic' (their statements: YtadlollgmimajaaTotals.lean).
  GIVEN WITH THE SEED: the statements are not yours to turn. If you find one false, say at which input.
  Laid BY PROGRAM, IN A SANDBOX (cutbox-rows.mjs): the forced cells as the released guide's own fill.sh prints them over the translation 3f0a1f99a7accbc6… (all of the seat's roots in one cut). By AI agents, Wed Nov 11 2026. No macro, syntax, notation, axiom, sorry.
-/
import Derived.Test.YtadlollgmimajaaChecked
import GoSem.Claim
import GoSem.ClaimJoined
import GoSem.ClaimMapViews
import Derived.JoinedTies
import Derived.KernelRfl
namespace Go.Proofs.Ytadlollgmimajaa
/- THE CELL 'sum', in the pinned program and in every row, IS THE sha256 OF THE DUMP (.gsa) THAT YtadlollgmimajaaProg.lean LOADS. Nothing in Lean hashes anything: it is a label: what it is worth is what the hold of that sum in a sandbox is worth. -/
noncomputable def Try.pinned : Pinned := { name := "ytadlollgmimajaa", sum := "3f0a1f99a7accbc64885dd131cfdc716d978d37d438817c009139550b25e4574", checked := Try.checked }
namespace Rows
def none {H : Type} : Left H := { results := [], args := [] }

/-- 'qanatlaw20.RetryNews': WHATEVER THE INPUT: true; the input reads as it did. -/
def retryNewsSpec : ChangeSpec := { name := "retryNews", fn := fun _ => fun
  | [d1, d2, d3] => { results := [.lit (.bool true)], args := [d1, d2, d3] }
  | _ => none }
def retryNewsRow : OpenClaim := { program := "ytadlollgmimajaa", sum := "3f0a1f99a7accbc64885dd131cfdc716d978d37d438817c009139550b25e4574", func := "qanat/qanatlaw20.RetryNews", spec := "retryNews", apart := false }
def RetryNewsSaid : Prop := retryNewsRow.holds Try.pinned (OpenSpec.ofChange retryNewsSpec)

/-- ITS FALSE NEIGHBOUR: 'it returns false'. Refute it at one input. -/
def retryNewsWrong : ChangeSpec := { name := "retryNews", fn := fun _ => fun
  | [d1, d2, d3] => { results := [.lit (.bool false)], args := [d1, d2, d3] }
  | _ => none }
def RetryNewsWrongFalsely : Prop := retryNewsRow.holds Try.pinned (OpenSpec.ofChange retryNewsWrong)

/-- 'qanatlaw20.RetryPlays': WHATEVER THE INPUT: true; the input reads as it did. -/
def retryPlaysSpec : ChangeSpec := { name := "retryPlays", fn := fun _ => fun
  | [d1, d2, d3, d4] => { results := [.lit (.bool true)], args := [d1, d2, d3, d4] }
  | _ => none }
def retryPlaysRow : OpenClaim := { program := "ytadlollgmimajaa", sum := "3f0a1f99a7accbc64885dd131cfdc716d978d37d438817c009139550b25e4574", func := "qanat/qanatlaw20.RetryPlays", spec := "retryPlays", apart := false }
def RetryPlaysSaid : Prop := retryPlaysRow.holds Try.pinned (OpenSpec.ofChange retryPlaysSpec)

/-- ITS FALSE NEIGHBOUR: 'it returns false'. Refute it at one input. -/
def retryPlaysWrong : ChangeSpec := { name := "retryPlays", fn := fun _ => fun
  | [d1, d2, d3, d4] => { results := [.lit (.bool false)], args := [d1, d2, d3, d4] }
  | _ => none }
def RetryPlaysWrongFalsely : Prop := retryPlaysRow.holds Try.pinned (OpenSpec.ofChange retryPlaysWrong)

/-- 'qanatlaw20.RetryBounds': WHATEVER THE INPUT: true; the input reads as it did. -/
def retryBoundsSpec : ChangeSpec := { name := "retryBounds", fn := fun _ => fun
  | [d1, d2, d3, d4] => { results := [.lit (.bool true)], args := [d1, d2, d3, d4] }
  | _ => none }
def retryBoundsRow : OpenClaim := { program := "ytadlollgmimajaa", sum := "3f0a1f99a7accbc64885dd131cfdc716d978d37d438817c009139550b25e4574", func := "qanat/qanatlaw20.RetryBounds", spec := "retryBounds", apart := false }
def RetryBoundsSaid : Prop := retryBoundsRow.holds Try.pinned (OpenSpec.ofChange retryBoundsSpec)

/-- ITS FALSE NEIGHBOUR: 'it returns false'. Refute it at one input. -/
def retryBoundsWrong : ChangeSpec := { name := "retryBounds", fn := fun _ => fun
  | [d1, d2, d3, d4] => { results := [.lit (.bool false)], args := [d1, d2, d3, d4] }
  | _ => none }
def RetryBoundsWrongFalsely : Prop := retryBoundsRow.holds Try.pinned (OpenSpec.ofChange retryBoundsWrong)

/- THE SECOND FORM. 'bulk': how many values and letters a reading holds, each counted each time it is reached (what is shared counts as often as it is met; a slice's spare places count too). A statement '..UptoSaid' is the law's where the arguments, and the package variables that the reading takes, are together of bulk at most 1048576: NARROWER than '..Said'. Prove '..Said' where nothing that the law and all that it calls make is longer than what came in: it says more and counts as full. Else prove '..UptoSaid'. A law counts once. -/
mutual
def uptoBulk {H : Type} : DataW H → Nat
  | .lit (.string bytes) => bytes.length + 1
  | .lit _ => 1
  | .nil => 1
  | .ptr d => uptoBulk d + 1
  | .slice elems spare => uptoBulkAll elems + uptoBulkAll spare + 1
  | .agg parts => uptoBulkAll parts + 1
  | .iface _ d => uptoBulk d + 1
  | .map entries => uptoBulkEntries entries + 1
  | .held _ => 1
def uptoBulkAll {H : Type} : List (DataW H) → Nat
  | [] => 0
  | d :: r => uptoBulk d + uptoBulkAll r
def uptoBulkEntries {H : Type} : List (Lit × DataW H) → Nat
  | [] => 0
  | x :: r => uptoBulkEntry x + uptoBulkEntries r
def uptoBulkEntry {H : Type} : Lit × DataW H → Nat
  | (.string bytes, d) => bytes.length + uptoBulk d + 1
  | (_, d) => uptoBulk d + 1
 end
def uptoSmall : (H : Type) → List (DataW H) → Bool := fun _ ds => decide (uptoBulkAll ds ≤ 1048576)
def OpenSpec.upto (s : _root_.Go.ChangeSpec) : _root_.Go.OpenSpec := { _root_.Go.OpenSpec.ofChange s with cond := some uptoSmall }

/-- 'qanatlaw20.RetryNews', WHERE WHAT IT READS IS OF BULK AT MOST 1048576: true; the input reads as it did. -/
def retryNewsUptoRow : OpenClaim := { program := "ytadlollgmimajaa", sum := "3f0a1f99a7accbc64885dd131cfdc716d978d37d438817c009139550b25e4574", func := "qanat/qanatlaw20.RetryNews", spec := "retryNews", apart := false, narrowed := true }
def RetryNewsUptoSaid : Prop := retryNewsUptoRow.holds Try.pinned (OpenSpec.upto retryNewsSpec)

/-- 'qanatlaw20.RetryPlays', WHERE WHAT IT READS IS OF BULK AT MOST 1048576: true; the input reads as it did. -/
def retryPlaysUptoRow : OpenClaim := { program := "ytadlollgmimajaa", sum := "3f0a1f99a7accbc64885dd131cfdc716d978d37d438817c009139550b25e4574", func := "qanat/qanatlaw20.RetryPlays", spec := "retryPlays", apart := false, narrowed := true }
def RetryPlaysUptoSaid : Prop := retryPlaysUptoRow.holds Try.pinned (OpenSpec.upto retryPlaysSpec)

/-- 'qanatlaw20.RetryBounds', WHERE WHAT IT READS IS OF BULK AT MOST 1048576: true; the input reads as it did. -/
def retryBoundsUptoRow : OpenClaim := { program := "ytadlollgmimajaa", sum := "3f0a1f99a7accbc64885dd131cfdc716d978d37d438817c009139550b25e4574", func := "qanat/qanatlaw20.RetryBounds", spec := "retryBounds", apart := false, narrowed := true }
def RetryBoundsUptoSaid : Prop := retryBoundsUptoRow.holds Try.pinned (OpenSpec.upto retryBoundsSpec)

end Rows
end Go.Proofs.Ytadlollgmimajaa
