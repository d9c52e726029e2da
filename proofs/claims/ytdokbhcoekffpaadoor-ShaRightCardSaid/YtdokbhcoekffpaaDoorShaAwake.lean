/-
  What the call awake of layer 2's statements answers: true. Condition: the package's table holds the sixty-four constants.
-/
import Derived.Test.YtdokbhcoekffpaaDoorShaAbc
import Derived.Lib.SmallJoins
import Derived.Lib.SlBytesConst
namespace Go.Proofs.YtdokbhcoekffpaaDoor
open Go.RowKit
set_option linter.unusedSimpArgs false
set_option linter.unusedVariables false

theorem Rd.new_fr {α : Type} {f : α → Value} (w : World) (g : Nat) (hg : g = w.heap.size) (l : List α) (cs : Array Value) (e : TypeId) (fr : Nat × Nat) (h : cs = (l.map f).toArray) : Rd f (w.alloc (.cells cs e fr)) (some ⟨g, 0, none⟩) l := fun _ => by
  subst hg
  refine ⟨w.heap.size, 0, rfl, fun i hi => ?_⟩
  subst h
  rw [cell_of_row _ w.heap.size (0 + i) _ e fr (heap_alloc_new w _)]
  simp [hi]

set_option maxRecDepth 100000 in
set_option maxHeartbeats 1000000 in
theorem awake_any (w : World) (HK : Hid (KTab w)) : Calls Tryd.prog 6 #[] w fun e w' => e = .returned (.bool true) ∧ Below w.heap.size w w' := by
  go_enter Tryd.func6, Tryd.ntmps6
  go_wp2_with fail
  refine (start_any _).mono ?_
  rintro e w1 ⟨S0, HS0, rfl, hb1⟩
  have HH0 : Hid (HashOf startSt [] S0 [] 0) := by rw [HS0.out]; exact HashOf.none _
  have hcv := Lib.run_convert_bytes_const (P := Tryd.prog) w1 24 5 #[.int .u8 97, .int .u8 98] 2 2 Tryd.underlying24 Tryd.underlying5
  go_wp2_with fail
  clear hcv
  have hB1 := below_new hb1 (.cells #[.int .u8 97, .int .u8 98] 5 (2, 3))
  have hr1 : Rd vB (w1.alloc (.cells #[.int .u8 97, .int .u8 98] 5 (2, 3))) (some ⟨w1.heap.size, 0, none⟩) [97, 98] := Rd.new_fr w1 _ rfl _ _ _ _ rfl
  refine (more_text startSt [] [97, 98] S0 [] none _ 0 2 0 _ HH0 Rd.nil hr1 (by simp) (Lib.hid (HK.out.keep hB1))).mono ?_
  rintro e w2 ⟨S1, R1, A1, c1, m1, HH1, rfl, hc1, hn1, hr2, hN1, hb2⟩
  have hB2 := below_step hB1 hb2
  have hz := hB2.size
  clear hb1 hB1 hr1 hb2 HS0 HH0
  have hR2 : Row (w2.alloc (.cells #[.int .u32 (S1.a.toNat : Int), .int .u32 (S1.b.toNat : Int), .int .u32 (S1.c.toNat : Int), .int .u32 (S1.d.toNat : Int), .int .u32 (S1.e.toNat : Int), .int .u32 (S1.f.toNat : Int), .int .u32 (S1.g.toNat : Int), .int .u32 (S1.h.toNat : Int), .slice A1 R1.length c1, .int .u64 (m1 : Int)] 27)) w2.heap.size 27 [.int .u32 (S1.a.toNat : Int), .int .u32 (S1.b.toNat : Int), .int .u32 (S1.c.toNat : Int), .int .u32 (S1.d.toNat : Int), .int .u32 (S1.e.toNat : Int), .int .u32 (S1.f.toNat : Int), .int .u32 (S1.g.toNat : Int), .int .u32 (S1.h.toNat : Int), .slice A1 R1.length c1, .int .u64 (m1 : Int)] := Row.new w2 _ _ _ rfl
  have hcv := Joins.run_convert_bytes_const_at (P := Tryd.prog) (w2.alloc (.cells #[.int .u32 (S1.a.toNat : Int), .int .u32 (S1.b.toNat : Int), .int .u32 (S1.c.toNat : Int), .int .u32 (S1.d.toNat : Int), .int .u32 (S1.e.toNat : Int), .int .u32 (S1.f.toNat : Int), .int .u32 (S1.g.toNat : Int), .int .u32 (S1.h.toNat : Int), .slice A1 R1.length c1, .int .u64 (m1 : Int)] 27)) 24 5 #[.int .u8 99] 1 1 (w2.heap.size + 1) (by simp) Tryd.underlying24 Tryd.underlying5
  go_wp2_with (refine wpList_load_part rfl 27 (.tmp 1) rfl w2.heap.size 0 rfl _ _ hR2 [.int .u32 (S1.a.toNat : Int), .int .u32 (S1.b.toNat : Int), .int .u32 (S1.c.toNat : Int), .int .u32 (S1.d.toNat : Int), .int .u32 (S1.e.toNat : Int), .int .u32 (S1.f.toNat : Int), .int .u32 (S1.g.toNat : Int), .int .u32 (S1.h.toNat : Int), .slice A1 R1.length c1, .int .u64 (m1 : Int)] (by rfl) _ Tryd.underlying27 rfl (by exact size_hash) ?_)
  clear hcv
  have hB3 := below_new (below_new (Below.refl _ w2) (.cells #[.int .u32 (S1.a.toNat : Int), .int .u32 (S1.b.toNat : Int), .int .u32 (S1.c.toNat : Int), .int .u32 (S1.d.toNat : Int), .int .u32 (S1.e.toNat : Int), .int .u32 (S1.f.toNat : Int), .int .u32 (S1.g.toNat : Int), .int .u32 (S1.h.toNat : Int), .slice A1 R1.length c1, .int .u64 (m1 : Int)] 27)) (.cells #[.int .u8 99] 5 (1, 2))
  have hr3 : Rd vB ((w2.alloc (.cells #[.int .u32 (S1.a.toNat : Int), .int .u32 (S1.b.toNat : Int), .int .u32 (S1.c.toNat : Int), .int .u32 (S1.d.toNat : Int), .int .u32 (S1.e.toNat : Int), .int .u32 (S1.f.toNat : Int), .int .u32 (S1.g.toNat : Int), .int .u32 (S1.h.toNat : Int), .slice A1 R1.length c1, .int .u64 (m1 : Int)] 27)).alloc (.cells #[.int .u8 99] 5 (1, 2))) (some ⟨w2.heap.size + 1, 0, none⟩) [99] := Rd.new_fr _ _ (by simp) _ _ _ _ rfl
  refine (more_text startSt ([] ++ [97, 98]) [99] S1 R1 A1 _ c1 1 m1 _ HH1 (hr2.keep hB3) hr3 (by simp) (Lib.hid (HK.out.keep (below_step hB2 hB3)))).mono ?_
  rintro e w3 ⟨S2, R2, A2, c2, m2, HH2, rfl, hc2, hn2, hr4, hN2, hb3⟩
  replace hR2 := (hR2.alloc _).later hb3
  replace hB2 := below_step (below_step hB2 hB3) hb3
  clear hB3 hr3 hr2 hb3 HH1
  have hN3 : ∀ a, A2 = some a → a.block ≠ w2.heap.size := fun a ha => by have := hN2 a ha; simp at this; omega
  have hr5 := hr4.setRow (g := w2.heap.size) #[.int .u32 (S2.a.toNat : Int), .int .u32 (S2.b.toNat : Int), .int .u32 (S2.c.toNat : Int), .int .u32 (S2.d.toNat : Int), .int .u32 (S2.e.toNat : Int), .int .u32 (S2.f.toNat : Int), .int .u32 (S2.g.toNat : Int), .int .u32 (S2.h.toNat : Int), .slice A2 R2.length c2, .int .u64 (m2 : Int)] hN3
  go_wp2_with (first
    | (refine wpList_store_row rfl 27 (.tmp 1) (.tmp 18) rfl w2.heap.size rfl [.int .u32 (S2.a.toNat : Int), .int .u32 (S2.b.toNat : Int), .int .u32 (S2.c.toNat : Int), .int .u32 (S2.d.toNat : Int), .int .u32 (S2.e.toNat : Int), .int .u32 (S2.f.toNat : Int), .int .u32 (S2.g.toNat : Int), .int .u32 (S2.h.toNat : Int), .slice A2 R2.length c2, .int .u64 (m2 : Int)] rfl _ _ hR2 (by exact size_hash) (by rfl) (one_hash S2 A2 R2.length c2 m2) ?_)
    | (refine wpList_load_part rfl 27 (.tmp 1) rfl w2.heap.size 0 rfl _ _ (hR2.setRow _) [.int .u32 (S2.a.toNat : Int), .int .u32 (S2.b.toNat : Int), .int .u32 (S2.c.toNat : Int), .int .u32 (S2.d.toNat : Int), .int .u32 (S2.e.toNat : Int), .int .u32 (S2.f.toNat : Int), .int .u32 (S2.g.toNat : Int), .int .u32 (S2.h.toNat : Int), .slice A2 R2.length c2, .int .u64 (m2 : Int)] (by rfl) _ Tryd.underlying27 rfl (by exact size_hash) ?_))
  have hB5 := below_setRow hB2 hz #[.int .u32 (S2.a.toNat : Int), .int .u32 (S2.b.toNat : Int), .int .u32 (S2.c.toNat : Int), .int .u32 (S2.d.toNat : Int), .int .u32 (S2.e.toNat : Int), .int .u32 (S2.f.toNat : Int), .int .u32 (S2.g.toNat : Int), .int .u32 (S2.h.toNat : Int), .slice A2 R2.length c2, .int .u64 (m2 : Int)]
  refine (end_text (([] ++ [97, 98]) ++ [99]) S2 R2 A2 _ _ _ HH2 (by simp) hr5 (Lib.hid (HK.out.keep hB5))).mono ?_
  rintro e w4 ⟨A4, c4, rfl, hc4, hr6, hb4⟩
  have hB4 := below_step hB5 hb4
  have e1 : sumL (([] ++ [97, 98]) ++ [99]) = abcSum := abc_sum
  rw [e1] at hc4 hr6 ⊢
  have hs4 := run_str (P := Tryd.prog) w4 24 5 9 Tryd.underlying24 Tryd.underlying5 Tryd.underlying9 A4 abcSum 32 c4 rfl hr6
  have hcv := Lib.run_convert_bytes_const (P := Tryd.prog) w4 24 5 #[.int .u8 97, .int .u8 98, .int .u8 99] 3 3 Tryd.underlying24 Tryd.underlying5
  have h32 : abcSum.length = 32 := rfl
  simp only [h32]
  clear e1 hB2 hB5 hb4 hr5 hr4 hR2 hN2 hN3 HH2 h32
  unfold abcSum at hs4
  go_wp2_with fail
  clear hs4 hcv
  have hb5 := below_new hB4 (.cells #[.int .u8 97, .int .u8 98, .int .u8 99] 5 (3, 4))
  refine (sum_any [97, 98, 99] _ 3 _ (Rd.new_fr w4 _ rfl _ _ _ _ rfl) (by simp) (by simp) (Lib.hid (HK.out.keep hb5))).mono ?_
  rintro e w5 ⟨A5, c5, rfl, hc5, hr7, hb6⟩
  have hB6 := below_step hb5 hb6
  rw [abc_sum] at hc5 hr7 ⊢
  have hs5 := run_str (P := Tryd.prog) w5 24 5 9 Tryd.underlying24 Tryd.underlying5 Tryd.underlying9 A5 abcSum 32 c5 rfl hr7
  have h32 : abcSum.length = 32 := rfl
  simp only [h32]
  clear hb5 hb6 h32 hr6
  unfold abcSum at hs5
  go_wp2_with fail
  go_ret
  exact ⟨rfl, hB6⟩
end Go.Proofs.YtdokbhcoekffpaaDoor
