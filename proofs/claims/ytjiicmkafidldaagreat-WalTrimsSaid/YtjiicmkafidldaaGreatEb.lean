/-
  What a slice of bytes is made of, as a row in memory wants it.
-/
import Derived.Test.YtjiicmkafidldaaGreatRows
import Derived.Test.YtjiicmkafidldaaGreatBase
namespace Go.Proofs.YtjiicmkafidldaaGreat.Field
set_option maxRecDepth 100000
open Go.RowKit Base
theorem eb : Elem Tryz.prog 34 5 1 1 (.int .u8 0) := Elem.of Tryz.underlying34 (by kernel_rfl) rfl (by omega)
end Go.Proofs.YtjiicmkafidldaaGreat.Field
