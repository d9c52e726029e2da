/-
  The law ShaBlocks, at whatever comes in. Condition: the package's table holds the sixty-four constants, as the row lists it.
-/
import Derived.Test.YtdadnmnhaeohaaaDoorShaBlocks
import Derived.Test.YtdadnmnhaeohaaaDoorShaOpen
import Derived.Test.YtdadnmnhaeohaaaDoorLaid
namespace Go.Proofs.YtdadnmnhaeohaaaDoor
open Go.RowKit
set_option linter.unusedSimpArgs false
set_option linter.unusedVariables false

set_option maxRecDepth 100000 in
theorem shablocks_big (s : St) (b : List UInt8) (A : Option Addr) (c : Nat) (w : World) (hl : ¬ b.length ≤ 1280) (hm : b.length ≤ 9223372036854775807) (HK : Hid (KTab w)) :
    Calls Tryd.prog 5 #[.agg #[.int .u32 (s.a.toNat : Int), .int .u32 (s.b.toNat : Int), .int .u32 (s.c.toNat : Int), .int .u32 (s.d.toNat : Int), .int .u32 (s.e.toNat : Int), .int .u32 (s.f.toNat : Int), .int .u32 (s.g.toNat : Int), .int .u32 (s.h.toNat : Int)], .slice A b.length c] w fun e w' => e = .returned (.bool true) ∧ Below w.heap.size w w' := by
  have hgt : (1280 : Int) < (b.length : Int) := by omega
  go_enter Tryd.func5, Tryd.ntmps5
  go_wp2_with fail
  have hB0 : Below w.heap.size w (w.alloc (.cells #[.int .u32 (s.a.toNat : Int), .int .u32 (s.b.toNat : Int), .int .u32 (s.c.toNat : Int), .int .u32 (s.d.toNat : Int), .int .u32 (s.e.toNat : Int), .int .u32 (s.f.toNat : Int), .int .u32 (s.g.toNat : Int), .int .u32 (s.h.toNat : Int)] 23)) := below_new (Below.refl _ _) _
  refine (awake_any _ (Lib.hid (HK.out.keep hB0))).mono ?_
  rintro e w1 ⟨rfl, hb1⟩
  go_wp2_with fail
  go_ret
  exact ⟨rfl, below_step hB0 hb1⟩

theorem shablocks_any (v0 v1 : Value) (W : World) {H : Type} {enc : TypeId × Value → H} {base : Nat} {d0 d1 : DataW H} {p0 p1 : List MemPlace} (hv0 : Value.okWide Tryd.prog W .any base 23 v0) (ht0 : DataW.Trod enc Tryd.prog W 0 (fun _ => true) true 23 v0 d0 p0)
    (hv1 : Value.okWide Tryd.prog W .any base 24 v1) (ht1 : DataW.Trod enc Tryd.prog W 0 (fun _ => true) true 24 v1 d1 p1) (hk : KTab W) :
    Calls Tryd.prog 5 #[v0, v1] W fun e w' => e = .returned (.bool true) ∧ Below W.heap.size W w' := by
  obtain ⟨s, rfl⟩ := open_state hv0 ht0
  obtain ⟨b, A, cap, rfl, hc, hm, hr⟩ := open_bytes hv1 ht1
  by_cases hl : b.length ≤ 1280
  · exact shablocks_core s b A cap W hr hc hl (Lib.hid hk)
  · exact shablocks_big s b A cap W hl (by omega) (Lib.hid hk)
end Go.Proofs.YtdadnmnhaeohaaaDoor
