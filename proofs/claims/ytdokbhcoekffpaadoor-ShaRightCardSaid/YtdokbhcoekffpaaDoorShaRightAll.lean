/-
  The law ShaRight, at whatever comes in. Condition: the package's table holds the sixty-four constants, as the row lists it.
-/
import Derived.Test.YtdokbhcoekffpaaDoorShaRight
import Derived.Test.YtdokbhcoekffpaaDoorShaOpen
import Derived.Test.YtdokbhcoekffpaaDoorLaid
namespace Go.Proofs.YtdokbhcoekffpaaDoor
open Go.RowKit
set_option linter.unusedSimpArgs false
set_option linter.unusedVariables false

set_option maxRecDepth 100000 in
set_option maxHeartbeats 2000000 in
theorem sharight_big (s s2 : St) (b r : List UInt8) (B A : Option Addr) (d c many : Nat) (w : World) (h : ¬ (b.length ≤ 2000 ∧ r.length ≤ 2000)) (hbm : b.length ≤ 9223372036854775807) (hrm : r.length ≤ 9223372036854775807) (HK : Hid (KTab w)) :
    Calls Tryd.prog 3 #[.agg #[.int .u32 (s.a.toNat : Int), .int .u32 (s.b.toNat : Int), .int .u32 (s.c.toNat : Int), .int .u32 (s.d.toNat : Int), .int .u32 (s.e.toNat : Int), .int .u32 (s.f.toNat : Int), .int .u32 (s.g.toNat : Int), .int .u32 (s.h.toNat : Int)], .slice B b.length d, .agg #[.int .u32 (s2.a.toNat : Int), .int .u32 (s2.b.toNat : Int), .int .u32 (s2.c.toNat : Int), .int .u32 (s2.d.toNat : Int), .int .u32 (s2.e.toNat : Int), .int .u32 (s2.f.toNat : Int), .int .u32 (s2.g.toNat : Int), .int .u32 (s2.h.toNat : Int), .slice A r.length c, .int .u64 (many : Int)]] w (Yes w) := by
  go_enter Tryd.func3, Tryd.ntmps3
  go_upto_region 1 with fail
  refine at_world (Q := Code.wp _ _ _ _) (fun W => Boxes s s2 A r c many w W)
    ⟨(Row.new w _ _ _ rfl).alloc _, Row.new_at _ _ (by simp) _ _ _ rfl, below_new (below_new (Below.refl _ _) _) _⟩ ?_
  rintro W ⟨hR3, hR5, hB⟩
  go_wp2_with fail
  refine (awake_any _ (Lib.hid (HK.out.keep hB))).mono ?_
  rintro e w1 ⟨rfl, hb1⟩
  replace hR5 := hR5.later hb1
  replace hB := below_step hB hb1
  clear hb1 W hR3
  have c8 : w1.cell? ⟨w.heap.size + 1, 8, none⟩ = some (.slice A r.length c) := hR5.cell rfl
  by_cases hb : b.length ≤ 2000
  · have g1 : decide ((2000 : Int) < (b.length : Int)) = false := by simp; omega
    have g2 : decide ((2000 : Int) < (r.length : Int)) = true := by simp; omega
    go_wp2_with fail
    go_ret
    exact ⟨rfl, hB⟩
  · have g1 : decide ((2000 : Int) < (b.length : Int)) = true := by simp; omega
    go_wp2_with fail
    go_ret
    exact ⟨rfl, hB⟩

theorem sharight_any (v0 v1 v2 : Value) (W : World) {H : Type} {enc : TypeId × Value → H} {base : Nat} {d0 d1 d2 : DataW H} {p0 p1 p2 : List MemPlace} (hv0 : Value.okWide Tryd.prog W .any base 23 v0) (ht0 : DataW.Trod enc Tryd.prog W 0 (fun _ => true) true 23 v0 d0 p0)
    (hv1 : Value.okWide Tryd.prog W .any base 24 v1) (ht1 : DataW.Trod enc Tryd.prog W 0 (fun _ => true) true 24 v1 d1 p1) (hv2 : Value.okWide Tryd.prog W .any base 27 v2) (ht2 : DataW.Trod enc Tryd.prog W 0 (fun _ => true) true 27 v2 d2 p2) (hk : KTab W) :
    Calls Tryd.prog 3 #[v0, v1, v2] W fun e w' => e = .returned (.bool true) ∧ Below W.heap.size W w' := by
  obtain ⟨s, rfl⟩ := open_state hv0 ht0
  obtain ⟨b, B, d, rfl, hbd, hdm, hb⟩ := open_bytes hv1 ht1
  obtain ⟨s2, r, A, c, many, rfl, hrc, hcm, hm, hr⟩ := open_hash hv2 ht2
  by_cases h : b.length ≤ 2000 ∧ r.length ≤ 2000
  · exact sharight_core s s2 b r B A d c many W hb hr hbd hrc h.1 h.2 hm (Lib.hid hk)
  · exact sharight_big s s2 b r B A d c many W h (by omega) (by omega) (Lib.hid hk)
end Go.Proofs.YtdokbhcoekffpaaDoor
