/-
  What a slice of bytes is made of, as a row in memory wants it.
-/
import Derived.Test.YthffmojmfghbiaaRows
import Derived.Test.YthffmojmfghbiaaBase
namespace Go.Proofs.Ythffmojmfghbiaa.Field
open Go.RowKit Base
theorem eb : Elem Try.prog 22 5 1 1 (.int .u8 0) := Elem.of Try.underlying22 (by kernel_rfl) rfl (by omega)
end Go.Proofs.Ythffmojmfghbiaa.Field
