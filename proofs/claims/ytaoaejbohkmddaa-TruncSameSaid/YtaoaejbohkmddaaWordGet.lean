/-
  What the calls word.Get and word.FromLeast answer, for any bytes.
-/
import Derived.Test.YtaoaejbohkmddaaWordJoin
namespace Go.Proofs.Ytaoaejbohkmddaa
open Go.RowKit



end Go.Proofs.Ytaoaejbohkmddaa
