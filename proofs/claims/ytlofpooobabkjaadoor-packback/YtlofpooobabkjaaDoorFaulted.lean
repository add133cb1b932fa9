/-
  The law package's faulted: over this seat's translation.
-/
import Derived.Test.YtlofpooobabkjaaDoorTreeSlots
import Derived.Test.YtlofpooobabkjaaDoorCoded
namespace Go.Proofs.YtlofpooobabkjaaDoor
open Go.RowKit Go.Shelf

end Go.Proofs.YtlofpooobabkjaaDoor
