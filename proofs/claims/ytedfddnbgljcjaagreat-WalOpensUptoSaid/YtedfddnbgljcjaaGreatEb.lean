/-
  What a slice of bytes is made of, as a row in memory wants it.
-/
import Derived.Test.YtedfddnbgljcjaaGreatRows
import Derived.Test.YtedfddnbgljcjaaGreatBase
namespace Go.Proofs.YtedfddnbgljcjaaGreat.Field
set_option maxRecDepth 100000
open Go.RowKit Base
theorem eb : Elem Tryz.prog 31 5 1 1 (.int .u8 0) := Elem.of Tryz.underlying31 (by kernel_rfl) rfl (by omega)
end Go.Proofs.YtedfddnbgljcjaaGreat.Field
