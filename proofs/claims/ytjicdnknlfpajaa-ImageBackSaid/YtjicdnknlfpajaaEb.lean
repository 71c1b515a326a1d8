/-
  What a slice of bytes is made of, as a row in memory wants it.
-/
import Derived.Test.YtjicdnknlfpajaaRows
import Derived.Test.YtjicdnknlfpajaaBase
namespace Go.Proofs.Ytjicdnknlfpajaa.Field
set_option maxRecDepth 100000
open Go.RowKit Base
theorem eb : Elem Try.prog 30 5 1 1 (.int .u8 0) := Elem.of Try.underlying30 (by kernel_rfl) rfl (by omega)
end Go.Proofs.Ytjicdnknlfpajaa.Field
