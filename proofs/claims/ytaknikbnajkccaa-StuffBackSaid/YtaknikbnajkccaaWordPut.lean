/-
  What the calls word.Put and word.Least answer, for any number.
-/
import Derived.Test.YtaknikbnajkccaaWordGet
import Derived.LoopN
namespace Go.Proofs.Ytaknikbnajkccaa
set_option maxRecDepth 100000
open Go.RowKit

theorem vB_ofNat (n : Nat) : vB (UInt8.ofNat n) = .int .u8 ((n % 256 : Nat) : Int) := by
  unfold vB
  rw [UInt8.toNat_ofNat']
theorem put_cells (v : Nat) (hv : v < 18446744073709551616) :
    #[Value.int IntKind.u8 ((v : Int) / 72057594037927936), Value.int IntKind.u8 ((v : Int) / 281474976710656 % 256), Value.int IntKind.u8 ((v : Int) / 1099511627776 % 256), Value.int IntKind.u8 ((v : Int) / 4294967296 % 256),
      Value.int IntKind.u8 ((v : Int) / 16777216 % 256), Value.int IntKind.u8 ((v : Int) / 65536 % 256), Value.int IntKind.u8 ((v : Int) / 256 % 256), Value.int IntKind.u8 ((v : Int) % 256)] = ((putL v).map vB).toArray := by
  have e : (putL v).map vB = [vB (UInt8.ofNat (v / 72057594037927936)), vB (UInt8.ofNat (v / 281474976710656)), vB (UInt8.ofNat (v / 1099511627776)), vB (UInt8.ofNat (v / 4294967296)),
      vB (UInt8.ofNat (v / 16777216)), vB (UInt8.ofNat (v / 65536)), vB (UInt8.ofNat (v / 256)), vB (UInt8.ofNat (v / 1))] := rfl
  rw [e]
  simp only [vB_ofNat]
  have e0 : ((v : Int) / 72057594037927936) = ((v / 72057594037927936 % 256 : Nat) : Int) := by omega
  rw [e0]
  simp
theorem putL_length (v : Nat) : (putL v).length = 8 := rfl


def LeastRel (L : List UInt8) (w : World) (s : Value) : Prop := ∃ (M : List UInt8) (A : Option Addr) (cap : Nat), s = .slice A M.length cap ∧ M.length ≤ cap ∧ M.length ≤ 8 ∧ Rd vB w A M ∧ L.dropWhile (· == 0) = M.dropWhile (· == 0)
def sliceLen : Value → Nat | .slice _ n _ => n | _ => 0

theorem size_uint8 (w : World) : (sizeOf 5).run Try.prog w = .ok 1 w := by kernel_rfl


end Go.Proofs.Ytaknikbnajkccaa
