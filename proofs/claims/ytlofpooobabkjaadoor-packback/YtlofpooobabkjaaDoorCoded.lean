/-
  The law package's coded, told of any error of plain.Code, over this seat's translation.
-/
import Derived.Test.YtlofpooobabkjaaDoorCode
import Derived.Deep.QuietTactic
import Derived.BigQuiet
import Derived.WalkSmall
namespace Go.Proofs.YtlofpooobabkjaaDoor
open Go.RowKit Go.Extern.Stop Go.Stop Go.Extern

end Go.Proofs.YtlofpooobabkjaaDoor
