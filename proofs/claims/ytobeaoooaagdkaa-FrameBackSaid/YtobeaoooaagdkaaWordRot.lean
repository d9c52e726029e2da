/-
  What the calls word.Rot and math/bits.RotateLeft32 answer: the word turned (every word, every count that an int may be).
-/
import Derived.Test.YtobeaoooaagdkaaRows
import Derived.Test.YtobeaoooaagdkaaWordMath
import Derived.Test.YtobeaoooaagdkaaMem
import Derived.WalkKit
import Derived.WalkSpells
import Derived.Lib.Hide
namespace Go.Proofs.Ytobeaoooaagdkaa
set_option maxRecDepth 100000
open Go.RowKit


end Go.Proofs.Ytobeaoooaagdkaa
