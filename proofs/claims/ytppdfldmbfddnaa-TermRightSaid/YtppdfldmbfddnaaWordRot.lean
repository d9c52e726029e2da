/-
  What the calls word.Rot and math/bits.RotateLeft32 answer: the word turned (every word, every count that an int may be).
-/
import Derived.Test.YtppdfldmbfddnaaRows
import Derived.Test.YtppdfldmbfddnaaWordMath
import Derived.Test.YtppdfldmbfddnaaMem
import Derived.WalkKit
import Derived.WalkSpells
import Derived.Lib.Hide
namespace Go.Proofs.Ytppdfldmbfddnaa
open Go.RowKit


end Go.Proofs.Ytppdfldmbfddnaa
