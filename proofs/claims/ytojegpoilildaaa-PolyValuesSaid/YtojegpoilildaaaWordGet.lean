/-
  What the calls word.Get and word.FromLeast answer, for any bytes.
-/
import Derived.Test.YtojegpoilildaaaWordJoin
namespace Go.Proofs.Ytojegpoilildaaa
set_option maxRecDepth 100000
open Go.RowKit



end Go.Proofs.Ytojegpoilildaaa
