/-
  What the calls word.Get and word.FromLeast answer, for any bytes.
-/
import Derived.Test.YtdokbhcoekffpaaDoorWordJoin
namespace Go.Proofs.YtdokbhcoekffpaaDoor
open Go.RowKit



end Go.Proofs.YtdokbhcoekffpaaDoor
