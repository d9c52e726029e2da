/-
  What the calls word.Get and word.FromLeast answer, for any bytes.
-/
import Derived.Test.YtaknikbnajkccaaWordJoin
namespace Go.Proofs.Ytaknikbnajkccaa
set_option maxRecDepth 100000
open Go.RowKit



end Go.Proofs.Ytaknikbnajkccaa
