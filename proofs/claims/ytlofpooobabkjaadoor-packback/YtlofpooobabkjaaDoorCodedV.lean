/-
  The law package's coded, told of an error by its number, over this seat's translation.
-/
import Derived.Test.YtlofpooobabkjaaDoorCoded
import Derived.Test.YtlofpooobabkjaaDoorErrV
namespace Go.Proofs.YtlofpooobabkjaaDoor
open Go.RowKit

end Go.Proofs.YtlofpooobabkjaaDoor
