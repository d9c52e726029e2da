/-
  What the calls word.Get and word.FromLeast answer, for any bytes.
-/
import Derived.Test.YtankddeolpickaaWordJoin
namespace Go.Proofs.Ytankddeolpickaa
set_option maxRecDepth 100000
open Go.RowKit



end Go.Proofs.Ytankddeolpickaa
