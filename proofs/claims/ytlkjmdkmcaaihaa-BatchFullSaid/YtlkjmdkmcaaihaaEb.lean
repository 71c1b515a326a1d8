/-
  What a slice of bytes is made of, as a row in memory wants it.
-/
import Derived.Test.YtlkjmdkmcaaihaaRows
import Derived.Test.YtlkjmdkmcaaihaaBase
namespace Go.Proofs.Ytlkjmdkmcaaihaa.Field
set_option maxRecDepth 100000
open Go.RowKit Base
theorem eb : Elem Try.prog 35 5 1 1 (.int .u8 0) := Elem.of Try.underlying35 (by kernel_rfl) rfl (by omega)
end Go.Proofs.Ytlkjmdkmcaaihaa.Field
