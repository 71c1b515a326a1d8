/-
  No cell of these rows narrows 'for every input' (looked for: loops, veiled, ifaces, maps, wideKeys, modest, calm, conditions, laid).
  DERIVED. THE GIVEN ROWS OF THIS SEAT. 4 by the template 'for every input the law returns true; each argument reads behind the call as it read before'; 0 by the template 'total and deterministic' (their statements: YtefnmnpfecfdaaaGreatTotals.lean).
  GIVEN WITH THE SEED: the statements are not yours to turn. If you find one false, say at which input.
  Laid BY PROGRAM, IN A SANDBOX (cutbox-rows.mjs): the forced cells as the released guide's own fill.sh prints them over the translation 3a59fe131581091c… (all of the seat's roots in one cut). By AI agents, Wed Nov 11 2026. No macro, syntax, notation, axiom, sorry.
-/
import Derived.Test.YtefnmnpfecfdaaaGreatChecked
import GoSem.Claim
import GoSem.ClaimJoined
import GoSem.ClaimMapViews
import Derived.JoinedTies
import Derived.KernelRfl
namespace Go.Proofs.YtefnmnpfecfdaaaGreat
/- THE CELL 'sum', in the pinned program and in every row, IS THE sha256 OF THE DUMP (.gsa) THAT YtefnmnpfecfdaaaGreatProg.lean LOADS. Nothing in Lean hashes anything: it is a label: what it is worth is what the hold of that sum in a sandbox is worth. -/
noncomputable def Tryz.pinned : Pinned := { name := "ytefnmnpfecfdaaagreat", sum := "3a59fe131581091cffd4077d51c9f7777538bfed9123a9d31e830d8d8ccfdb1d", checked := Tryz.checked }
namespace Rows
def none {H : Type} : Left H := { results := [], args := [] }

/-- 'qanatlaw12.SourceKeeps': WHATEVER THE INPUT: true; the input reads as it did. -/
def sourceKeepsSpec : ChangeSpec := { name := "sourceKeeps", fn := fun _ => fun
  | [d1, d2, d3, d4, d5] => { results := [.lit (.bool true)], args := [d1, d2, d3, d4, d5] }
  | _ => none }
def sourceKeepsRow : OpenClaim := { program := "ytefnmnpfecfdaaagreat", sum := "3a59fe131581091cffd4077d51c9f7777538bfed9123a9d31e830d8d8ccfdb1d", func := "qanat/qanatlaw12.SourceKeeps", spec := "sourceKeeps", inPlace := ["slices.overlaps[qanat/api.Row]"], unfollowed := true, recurses := true, plainKeys := false, apart := false }
def SourceKeepsSaid : Prop := sourceKeepsRow.holds Tryz.pinned (OpenSpec.ofChange sourceKeepsSpec)

/-- ITS FALSE NEIGHBOUR: 'it returns false'. Refute it at one input. -/
def sourceKeepsWrong : ChangeSpec := { name := "sourceKeeps", fn := fun _ => fun
  | [d1, d2, d3, d4, d5] => { results := [.lit (.bool false)], args := [d1, d2, d3, d4, d5] }
  | _ => none }
def SourceKeepsWrongFalsely : Prop := sourceKeepsRow.holds Tryz.pinned (OpenSpec.ofChange sourceKeepsWrong)

/-- 'qanatlaw12.SourceFolds': WHATEVER THE INPUT: true; the input reads as it did. -/
def sourceFoldsSpec : ChangeSpec := { name := "sourceFolds", fn := fun _ => fun
  | [d1, d2] => { results := [.lit (.bool true)], args := [d1, d2] }
  | _ => none }
def sourceFoldsRow : OpenClaim := { program := "ytefnmnpfecfdaaagreat", sum := "3a59fe131581091cffd4077d51c9f7777538bfed9123a9d31e830d8d8ccfdb1d", func := "qanat/qanatlaw12.SourceFolds", spec := "sourceFolds", inPlace := ["slices.overlaps[qanat/api.Row]"], unfollowed := true, recurses := true, plainKeys := false, apart := false }
def SourceFoldsSaid : Prop := sourceFoldsRow.holds Tryz.pinned (OpenSpec.ofChange sourceFoldsSpec)

/-- ITS FALSE NEIGHBOUR: 'it returns false'. Refute it at one input. -/
def sourceFoldsWrong : ChangeSpec := { name := "sourceFolds", fn := fun _ => fun
  | [d1, d2] => { results := [.lit (.bool false)], args := [d1, d2] }
  | _ => none }
def SourceFoldsWrongFalsely : Prop := sourceFoldsRow.holds Tryz.pinned (OpenSpec.ofChange sourceFoldsWrong)

/-- 'qanatlaw12.SourceChunks': WHATEVER THE INPUT: true; the input reads as it did. -/
def sourceChunksSpec : ChangeSpec := { name := "sourceChunks", fn := fun _ => fun
  | [d1, d2] => { results := [.lit (.bool true)], args := [d1, d2] }
  | _ => none }
def sourceChunksRow : OpenClaim := { program := "ytefnmnpfecfdaaagreat", sum := "3a59fe131581091cffd4077d51c9f7777538bfed9123a9d31e830d8d8ccfdb1d", func := "qanat/qanatlaw12.SourceChunks", spec := "sourceChunks", inPlace := ["slices.overlaps[qanat/api.Row]"], unfollowed := true, recurses := true, plainKeys := false, apart := false }
def SourceChunksSaid : Prop := sourceChunksRow.holds Tryz.pinned (OpenSpec.ofChange sourceChunksSpec)

/-- ITS FALSE NEIGHBOUR: 'it returns false'. Refute it at one input. -/
def sourceChunksWrong : ChangeSpec := { name := "sourceChunks", fn := fun _ => fun
  | [d1, d2] => { results := [.lit (.bool false)], args := [d1, d2] }
  | _ => none }
def SourceChunksWrongFalsely : Prop := sourceChunksRow.holds Tryz.pinned (OpenSpec.ofChange sourceChunksWrong)

/-- 'qanatlaw12.SourceImages': WHATEVER THE INPUT: true; the input reads as it did. -/
def sourceImagesSpec : ChangeSpec := { name := "sourceImages", fn := fun _ => fun
  | [d1, d2, d3, d4, d5, d6] => { results := [.lit (.bool true)], args := [d1, d2, d3, d4, d5, d6] }
  | _ => none }
def sourceImagesRow : OpenClaim := { program := "ytefnmnpfecfdaaagreat", sum := "3a59fe131581091cffd4077d51c9f7777538bfed9123a9d31e830d8d8ccfdb1d", func := "qanat/qanatlaw12.SourceImages", spec := "sourceImages", inPlace := ["slices.overlaps[qanat/api.Row]"], unfollowed := true, recurses := true, plainKeys := false, apart := false }
def SourceImagesSaid : Prop := sourceImagesRow.holds Tryz.pinned (OpenSpec.ofChange sourceImagesSpec)

/-- ITS FALSE NEIGHBOUR: 'it returns false'. Refute it at one input. -/
def sourceImagesWrong : ChangeSpec := { name := "sourceImages", fn := fun _ => fun
  | [d1, d2, d3, d4, d5, d6] => { results := [.lit (.bool false)], args := [d1, d2, d3, d4, d5, d6] }
  | _ => none }
def SourceImagesWrongFalsely : Prop := sourceImagesRow.holds Tryz.pinned (OpenSpec.ofChange sourceImagesWrong)

/- THE SECOND FORM. 'bulk': how many values and letters a reading holds, each counted each time it is reached (what is shared counts as often as it is met; a slice's spare places count too). A statement '..UptoSaid' is the law's where the arguments, and the package variables that the reading takes, are together of bulk at most 1048576: NARROWER than '..Said'. Prove '..Said' where nothing that the law and all that it calls make is longer than what came in: it says more and counts as full. Else prove '..UptoSaid'. A law counts once. -/
mutual
def uptoBulk {H : Type} : DataW H → Nat
  | .lit (.string bytes) => bytes.length + 1
  | .lit _ => 1
  | .nil => 1
  | .ptr d => uptoBulk d + 1
  | .slice elems spare => uptoBulkAll elems + uptoBulkAll spare + 1
  | .agg parts => uptoBulkAll parts + 1
  | .iface _ d => uptoBulk d + 1
  | .map entries => uptoBulkEntries entries + 1
  | .held _ => 1
def uptoBulkAll {H : Type} : List (DataW H) → Nat
  | [] => 0
  | d :: r => uptoBulk d + uptoBulkAll r
def uptoBulkEntries {H : Type} : List (Lit × DataW H) → Nat
  | [] => 0
  | x :: r => uptoBulkEntry x + uptoBulkEntries r
def uptoBulkEntry {H : Type} : Lit × DataW H → Nat
  | (.string bytes, d) => bytes.length + uptoBulk d + 1
  | (_, d) => uptoBulk d + 1
 end
def uptoSmall : (H : Type) → List (DataW H) → Bool := fun _ ds => decide (uptoBulkAll ds ≤ 1048576)
def OpenSpec.upto (s : _root_.Go.ChangeSpec) : _root_.Go.OpenSpec := { _root_.Go.OpenSpec.ofChange s with cond := some uptoSmall }

/-- 'qanatlaw12.SourceKeeps', WHERE WHAT IT READS IS OF BULK AT MOST 1048576: true; the input reads as it did. -/
def sourceKeepsUptoRow : OpenClaim := { program := "ytefnmnpfecfdaaagreat", sum := "3a59fe131581091cffd4077d51c9f7777538bfed9123a9d31e830d8d8ccfdb1d", func := "qanat/qanatlaw12.SourceKeeps", spec := "sourceKeeps", inPlace := ["slices.overlaps[qanat/api.Row]"], unfollowed := true, recurses := true, plainKeys := false, apart := false, narrowed := true }
def SourceKeepsUptoSaid : Prop := sourceKeepsUptoRow.holds Tryz.pinned (OpenSpec.upto sourceKeepsSpec)

/-- 'qanatlaw12.SourceFolds', WHERE WHAT IT READS IS OF BULK AT MOST 1048576: true; the input reads as it did. -/
def sourceFoldsUptoRow : OpenClaim := { program := "ytefnmnpfecfdaaagreat", sum := "3a59fe131581091cffd4077d51c9f7777538bfed9123a9d31e830d8d8ccfdb1d", func := "qanat/qanatlaw12.SourceFolds", spec := "sourceFolds", inPlace := ["slices.overlaps[qanat/api.Row]"], unfollowed := true, recurses := true, plainKeys := false, apart := false, narrowed := true }
def SourceFoldsUptoSaid : Prop := sourceFoldsUptoRow.holds Tryz.pinned (OpenSpec.upto sourceFoldsSpec)

/-- 'qanatlaw12.SourceChunks', WHERE WHAT IT READS IS OF BULK AT MOST 1048576: true; the input reads as it did. -/
def sourceChunksUptoRow : OpenClaim := { program := "ytefnmnpfecfdaaagreat", sum := "3a59fe131581091cffd4077d51c9f7777538bfed9123a9d31e830d8d8ccfdb1d", func := "qanat/qanatlaw12.SourceChunks", spec := "sourceChunks", inPlace := ["slices.overlaps[qanat/api.Row]"], unfollowed := true, recurses := true, plainKeys := false, apart := false, narrowed := true }
def SourceChunksUptoSaid : Prop := sourceChunksUptoRow.holds Tryz.pinned (OpenSpec.upto sourceChunksSpec)

/-- 'qanatlaw12.SourceImages', WHERE WHAT IT READS IS OF BULK AT MOST 1048576: true; the input reads as it did. -/
def sourceImagesUptoRow : OpenClaim := { program := "ytefnmnpfecfdaaagreat", sum := "3a59fe131581091cffd4077d51c9f7777538bfed9123a9d31e830d8d8ccfdb1d", func := "qanat/qanatlaw12.SourceImages", spec := "sourceImages", inPlace := ["slices.overlaps[qanat/api.Row]"], unfollowed := true, recurses := true, plainKeys := false, apart := false, narrowed := true }
def SourceImagesUptoSaid : Prop := sourceImagesUptoRow.holds Tryz.pinned (OpenSpec.upto sourceImagesSpec)

end Rows
end Go.Proofs.YtefnmnpfecfdaaaGreat
