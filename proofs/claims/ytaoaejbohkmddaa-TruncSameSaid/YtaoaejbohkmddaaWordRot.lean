/-
  What the calls word.Rot and math/bits.RotateLeft32 answer: the word turned (every word, every count that an int may be).
-/
import Derived.Test.YtaoaejbohkmddaaRows
import Derived.Test.YtaoaejbohkmddaaWordMath
import Derived.Test.YtaoaejbohkmddaaMem
import Derived.WalkKit
import Derived.WalkSpells
import Derived.Lib.Hide
namespace Go.Proofs.Ytaoaejbohkmddaa
open Go.RowKit


end Go.Proofs.Ytaoaejbohkmddaa
