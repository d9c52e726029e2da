/-
  What the calls word.Rot and math/bits.RotateLeft32 answer: the word turned (every word, every count that an int may be).
-/
import Derived.Test.YtdokbhcoekffpaaDoorRows
import Derived.Test.YtdokbhcoekffpaaDoorWordMath
import Derived.Test.YtdokbhcoekffpaaDoorMem
import Derived.WalkKit
import Derived.WalkSpells
import Derived.Lib.Hide
namespace Go.Proofs.YtdokbhcoekffpaaDoor
open Go.RowKit

theorem rotl_any (x : UInt32) (k : Int) (s : Nat) (w : World) (hs : s < 32) (hk : bits .and .u64 (IntKind.u64.wrap k) 31 = (s : Int)) :
    Calls Tryd.prog 49 #[.int .u32 (x.toNat : Int), .int .i64 k] w fun e w' => e = .returned (.int .u32 ((rotR x (32 - s)).toNat : Int)) ∧ w = w' := by
  have H := Lib.hid (shifts_rot x s hs)
  have hx := u32_lt x
  go_enter Tryd.func49, Tryd.ntmps49
  go_wp2
  go_ret
  exact ⟨ret_int H.out, rfl⟩

theorem rot_any (x : UInt32) (n : Int) (w : World) :
    Calls Tryd.prog 47 #[.int .u32 (x.toNat : Int), .int .i64 n] w fun e w' => e = .returned (.int .u32 ((rotR x (n % 32).toNat).toNat : Int)) ∧ w = w' := by
  have H := Lib.hid (and31 n)
  have H2 : Hid (rotR x (32 - ((-n) % 32).toNat) = rotR x (n % 32).toNat) := rotR_same x (by omega)
  go_enter Tryd.func47, Tryd.ntmps47
  go_wp2_with (go_at_call 49; refine (rotl_any x _ _ _ (by omega) H.out).mono ?_; rintro e w' ⟨rfl, rfl⟩)
  go_ret
  rw [H2.out]
  exact ⟨rfl, rfl⟩
end Go.Proofs.YtdokbhcoekffpaaDoor
