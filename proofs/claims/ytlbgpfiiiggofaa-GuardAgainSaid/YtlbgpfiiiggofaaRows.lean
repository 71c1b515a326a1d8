/-
  No cell of these rows narrows 'for every input' (looked for: loops, veiled, ifaces, maps, wideKeys, modest, calm, conditions, laid).
  DERIVED. THE GIVEN ROWS OF THIS SEAT. 4 by the template 'for every input the law returns true; each argument reads behind the call as it read before'; 0 by the template 'total and deterministic' (their statements: YtlbgpfiiiggofaaTotals.lean).
  GIVEN WITH THE SEED: the statements are not yours to turn. If you find one false, say at which input.
  Laid BY PROGRAM, IN A SANDBOX (cutbox-rows.mjs): the forced cells as the released guide's own fill.sh prints them over the translation 22d022df300da640… (all of the seat's roots in one cut). By AI agents, Wed Nov 11 2026. No macro, syntax, notation, axiom, sorry.
-/
import Derived.Test.YtlbgpfiiiggofaaChecked
import GoSem.Claim
import GoSem.ClaimJoined
import GoSem.ClaimMapViews
import Derived.JoinedTies
import Derived.KernelRfl
namespace Go.Proofs.Ytlbgpfiiiggofaa
/- THE CELL 'sum', in the pinned program and in every row, IS THE sha256 OF THE DUMP (.gsa) THAT YtlbgpfiiiggofaaProg.lean LOADS. Nothing in Lean hashes anything: it is a label: what it is worth is what the hold of that sum in a sandbox is worth. -/
noncomputable def Try.pinned : Pinned := { name := "ytlbgpfiiiggofaa", sum := "22d022df300da640f9d114eb116a06171fe9438ea5e88c8acb6d9ea7cd975186", checked := Try.checked }
namespace Rows
def none {H : Type} : Left H := { results := [], args := [] }

/-- 'qanatlaw15.GuardPlays': WHATEVER THE INPUT: true; the input reads as it did. -/
def guardPlaysSpec : ChangeSpec := { name := "guardPlays", fn := fun _ => fun
  | [d1, d2] => { results := [.lit (.bool true)], args := [d1, d2] }
  | _ => none }
def guardPlaysRow : OpenClaim := { program := "ytlbgpfiiiggofaa", sum := "22d022df300da640f9d114eb116a06171fe9438ea5e88c8acb6d9ea7cd975186", func := "qanat/qanatlaw15.GuardPlays", spec := "guardPlays", unfollowed := true, recurses := true, apart := false }
def GuardPlaysSaid : Prop := guardPlaysRow.holds Try.pinned (OpenSpec.ofChange guardPlaysSpec)

/-- ITS FALSE NEIGHBOUR: 'it returns false'. Refute it at one input. -/
def guardPlaysWrong : ChangeSpec := { name := "guardPlays", fn := fun _ => fun
  | [d1, d2] => { results := [.lit (.bool false)], args := [d1, d2] }
  | _ => none }
def GuardPlaysWrongFalsely : Prop := guardPlaysRow.holds Try.pinned (OpenSpec.ofChange guardPlaysWrong)

/-- 'qanatlaw15.GuardAgain': WHATEVER THE INPUT: true; the input reads as it did. -/
def guardAgainSpec : ChangeSpec := { name := "guardAgain", fn := fun _ => fun
  | [d1, d2] => { results := [.lit (.bool true)], args := [d1, d2] }
  | _ => none }
def guardAgainRow : OpenClaim := { program := "ytlbgpfiiiggofaa", sum := "22d022df300da640f9d114eb116a06171fe9438ea5e88c8acb6d9ea7cd975186", func := "qanat/qanatlaw15.GuardAgain", spec := "guardAgain", unfollowed := true, recurses := true, apart := false }
def GuardAgainSaid : Prop := guardAgainRow.holds Try.pinned (OpenSpec.ofChange guardAgainSpec)

/-- ITS FALSE NEIGHBOUR: 'it returns false'. Refute it at one input. -/
def guardAgainWrong : ChangeSpec := { name := "guardAgain", fn := fun _ => fun
  | [d1, d2] => { results := [.lit (.bool false)], args := [d1, d2] }
  | _ => none }
def GuardAgainWrongFalsely : Prop := guardAgainRow.holds Try.pinned (OpenSpec.ofChange guardAgainWrong)

/-- 'qanatlaw15.GuardOlder': WHATEVER THE INPUT: true; the input reads as it did. -/
def guardOlderSpec : ChangeSpec := { name := "guardOlder", fn := fun _ => fun
  | [d1, d2] => { results := [.lit (.bool true)], args := [d1, d2] }
  | _ => none }
def guardOlderRow : OpenClaim := { program := "ytlbgpfiiiggofaa", sum := "22d022df300da640f9d114eb116a06171fe9438ea5e88c8acb6d9ea7cd975186", func := "qanat/qanatlaw15.GuardOlder", spec := "guardOlder", unfollowed := true, recurses := true, apart := false }
def GuardOlderSaid : Prop := guardOlderRow.holds Try.pinned (OpenSpec.ofChange guardOlderSpec)

/-- ITS FALSE NEIGHBOUR: 'it returns false'. Refute it at one input. -/
def guardOlderWrong : ChangeSpec := { name := "guardOlder", fn := fun _ => fun
  | [d1, d2] => { results := [.lit (.bool false)], args := [d1, d2] }
  | _ => none }
def GuardOlderWrongFalsely : Prop := guardOlderRow.holds Try.pinned (OpenSpec.ofChange guardOlderWrong)

/-- 'qanatlaw15.GuardGone': WHATEVER THE INPUT: true; the input reads as it did. -/
def guardGoneSpec : ChangeSpec := { name := "guardGone", fn := fun _ => fun
  | [d1, d2, d3, d4] => { results := [.lit (.bool true)], args := [d1, d2, d3, d4] }
  | _ => none }
def guardGoneRow : OpenClaim := { program := "ytlbgpfiiiggofaa", sum := "22d022df300da640f9d114eb116a06171fe9438ea5e88c8acb6d9ea7cd975186", func := "qanat/qanatlaw15.GuardGone", spec := "guardGone", unfollowed := true, recurses := true, apart := false }
def GuardGoneSaid : Prop := guardGoneRow.holds Try.pinned (OpenSpec.ofChange guardGoneSpec)

/-- ITS FALSE NEIGHBOUR: 'it returns false'. Refute it at one input. -/
def guardGoneWrong : ChangeSpec := { name := "guardGone", fn := fun _ => fun
  | [d1, d2, d3, d4] => { results := [.lit (.bool false)], args := [d1, d2, d3, d4] }
  | _ => none }
def GuardGoneWrongFalsely : Prop := guardGoneRow.holds Try.pinned (OpenSpec.ofChange guardGoneWrong)

/- THE SECOND FORM. 'bulk': how many values and letters a reading holds, each counted each time it is reached (what is shared counts as often as it is met; a slice's spare places count too). A statement '..UptoSaid' is the law's where the arguments, and the package variables that the reading takes, are together of bulk at most 1048576: NARROWER than '..Said'. Prove '..Said' where nothing that the law and all that it calls make is longer than what came in: it says more and counts as full. Else prove '..UptoSaid'. A law counts once. -/
mutual
def uptoBulk {H : Type} : DataW H → Nat
  | .lit (.string bytes) => bytes.length + 1
  | .lit _ => 1
  | .nil => 1
  | .ptr d => uptoBulk d + 1
  | .slice elems spare => uptoBulkAll elems + uptoBulkAll spare + 1
  | .agg parts => uptoBulkAll parts + 1
  | .iface _ d => uptoBulk d + 1
  | .map entries => uptoBulkEntries entries + 1
  | .held _ => 1
def uptoBulkAll {H : Type} : List (DataW H) → Nat
  | [] => 0
  | d :: r => uptoBulk d + uptoBulkAll r
def uptoBulkEntries {H : Type} : List (Lit × DataW H) → Nat
  | [] => 0
  | x :: r => uptoBulkEntry x + uptoBulkEntries r
def uptoBulkEntry {H : Type} : Lit × DataW H → Nat
  | (.string bytes, d) => bytes.length + uptoBulk d + 1
  | (_, d) => uptoBulk d + 1
 end
def uptoSmall : (H : Type) → List (DataW H) → Bool := fun _ ds => decide (uptoBulkAll ds ≤ 1048576)
def OpenSpec.upto (s : _root_.Go.ChangeSpec) : _root_.Go.OpenSpec := { _root_.Go.OpenSpec.ofChange s with cond := some uptoSmall }

/-- 'qanatlaw15.GuardPlays', WHERE WHAT IT READS IS OF BULK AT MOST 1048576: true; the input reads as it did. -/
def guardPlaysUptoRow : OpenClaim := { program := "ytlbgpfiiiggofaa", sum := "22d022df300da640f9d114eb116a06171fe9438ea5e88c8acb6d9ea7cd975186", func := "qanat/qanatlaw15.GuardPlays", spec := "guardPlays", unfollowed := true, recurses := true, apart := false, narrowed := true }
def GuardPlaysUptoSaid : Prop := guardPlaysUptoRow.holds Try.pinned (OpenSpec.upto guardPlaysSpec)

/-- 'qanatlaw15.GuardAgain', WHERE WHAT IT READS IS OF BULK AT MOST 1048576: true; the input reads as it did. -/
def guardAgainUptoRow : OpenClaim := { program := "ytlbgpfiiiggofaa", sum := "22d022df300da640f9d114eb116a06171fe9438ea5e88c8acb6d9ea7cd975186", func := "qanat/qanatlaw15.GuardAgain", spec := "guardAgain", unfollowed := true, recurses := true, apart := false, narrowed := true }
def GuardAgainUptoSaid : Prop := guardAgainUptoRow.holds Try.pinned (OpenSpec.upto guardAgainSpec)

/-- 'qanatlaw15.GuardOlder', WHERE WHAT IT READS IS OF BULK AT MOST 1048576: true; the input reads as it did. -/
def guardOlderUptoRow : OpenClaim := { program := "ytlbgpfiiiggofaa", sum := "22d022df300da640f9d114eb116a06171fe9438ea5e88c8acb6d9ea7cd975186", func := "qanat/qanatlaw15.GuardOlder", spec := "guardOlder", unfollowed := true, recurses := true, apart := false, narrowed := true }
def GuardOlderUptoSaid : Prop := guardOlderUptoRow.holds Try.pinned (OpenSpec.upto guardOlderSpec)

/-- 'qanatlaw15.GuardGone', WHERE WHAT IT READS IS OF BULK AT MOST 1048576: true; the input reads as it did. -/
def guardGoneUptoRow : OpenClaim := { program := "ytlbgpfiiiggofaa", sum := "22d022df300da640f9d114eb116a06171fe9438ea5e88c8acb6d9ea7cd975186", func := "qanat/qanatlaw15.GuardGone", spec := "guardGone", unfollowed := true, recurses := true, apart := false, narrowed := true }
def GuardGoneUptoSaid : Prop := guardGoneUptoRow.holds Try.pinned (OpenSpec.upto guardGoneSpec)

end Rows
end Go.Proofs.Ytlbgpfiiiggofaa
