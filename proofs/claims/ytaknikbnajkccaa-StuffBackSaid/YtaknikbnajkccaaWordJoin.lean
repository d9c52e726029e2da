/-
  What the call word.join answers: the number of the bytes, modulo 2^64.
-/
import Derived.Test.YtaknikbnajkccaaWordRot
import Derived.LoopTactic
namespace Go.Proofs.Ytaknikbnajkccaa
set_option maxRecDepth 100000
open Go.RowKit


end Go.Proofs.Ytaknikbnajkccaa
