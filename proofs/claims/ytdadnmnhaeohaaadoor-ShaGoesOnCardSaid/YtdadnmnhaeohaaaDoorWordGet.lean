/-
  What the calls word.Get and word.FromLeast answer, for any bytes.
-/
import Derived.Test.YtdadnmnhaeohaaaDoorWordJoin
namespace Go.Proofs.YtdadnmnhaeohaaaDoor
open Go.RowKit



end Go.Proofs.YtdadnmnhaeohaaaDoor
