/-
  What the call awake of layer 19's statements answers: true. No conditions.
-/
import Derived.Test.YtmljhkdojopljaaP3
import Derived.ProofKit
import Derived.OpenShut
import Derived.Deep.Slices
import Derived.Deep.Strs
namespace Go.Proofs.Ytmljhkdojopljaa
set_option maxRecDepth 100000
open Go.RowKit
set_option linter.unusedSimpArgs false
set_option linter.unusedVariables false

theorem aw19_p1 : putC (2, 0, []) (3, 1, 10) = ((2, 0, [(3, 1, 10)]), 0) := by decide +kernel
theorem aw19_p2 : putC (2, 0, [(3, 1, 10)]) (3, 1, 10) = ((2, 0, [(3, 1, 10)]), 11) := by decide +kernel
theorem aw19_r1 : raiseC (2, 0, [(3, 1, 10)]) 11 = ((2, 11, []), 0) := by decide +kernel
theorem aw19_p3 : putC (2, 11, []) (3, 1, 10) = ((2, 11, []), 10) := by decide +kernel
theorem aw19_p4 : putC (2, 0, [(3, 1, 10)]) (0, 0, 1) = ((2, 0, [(0, 0, 1), (3, 1, 10)]), 0) := by decide +kernel
theorem aw19_p5 : putC (2, 0, [(0, 0, 1), (3, 1, 10)]) (0, 0, 2) = ((2, 0, [(0, 0, 1), (3, 1, 10)]), 12) := by decide +kernel
theorem aw19_h : hasU [(0, 0, 1), (3, 1, 10)] (3, 1, 10) = true := by decide +kernel
theorem aw19_r : rightC (2, 0, [(0, 0, 1), (3, 1, 10)]) = true := by decide +kernel
theorem fitU_nil : fitU [] := fun x hx => by cases hx
theorem fitU_one {g : Us} (h : fitU1 g) : fitU [g] := fun x hx => by
  rw [List.mem_singleton] at hx
  rw [hx]
  exact h
theorem RdU.set_other {w : World} {A : Option Addr} {l : List Us} (h : RdU w A l) (g : Nat) (cs : Array Value) (hA : ∀ a, A = some a → a.block ≠ g) : RdU (w.setRow g cs) A l := h.only ((Only.refl g w).setRow cs) (fun _ => hA)

set_option maxRecDepth 100000 in
set_option maxHeartbeats 4000000 in
theorem awake19_any (w : World) : Calls Try.prog 9 #[] w fun e w' => e = .returned (.bool true) ∧ Below w.heap.size w w' := by
  obtain ⟨hU, hB⟩ := box_of w 27 [.int .u64 3, .int .u64 1, .int .u64 10] _ rfl
  go_enter Try.func9, Try.ntmps9
  go_upto_region 2 with fail
  generalize w.alloc (.cells #[.int .u64 3, .int .u64 1, .int .u64 10] 27) = w1 at hU hB ⊢
  go_wp2_with fail
  refine (new19_any 2 w1).mono ?_
  rw [if_pos (by omega), if_pos (by omega)]
  rintro e w2 ⟨A2, m2, c2, rfl, HN2, hc2, hr2, hf2, hb2⟩
  obtain rfl : m2 = 0 := HN2.out.symm
  unfold aggC
  dsimp only at hr2 ⊢
  replace hU := hU.later hb2
  replace hB := below_step hB hb2
  clear hb2
  have hbcwz := hU.lt
  obtain ⟨hC, hbn⟩ := box_of w2 25 [.int .i64 2, .int .u64 0, .slice A2 0 c2] _ rfl
  go_upto_region 3 with fail
  replace hU := hU.later hbn
  replace hB := below_step hB hbn
  replace hr2 := hr2.keep hbn
  generalize w2.alloc (.cells #[.int .i64 2, .int .u64 0, .slice A2 0 c2] 25) = w3 at hU hB hr2 hC hbn ⊢
  have hbcw0 : w.heap.size < w2.heap.size := hbcwz
  clear hbn hf2 hc2
  obtain ⟨bc, hbc⟩ : ∃ b, b = w2.heap.size := ⟨_, rfl⟩
  have hbcw : w.heap.size < bc := by rw [hbc]; exact hbcw0
  rw [← hbc] at hC ⊢
  clear hbc hbcw0
  have u0 := hU.cell (i := 0) rfl
  have u1 := hU.cell (i := 1) rfl
  have u2 := hU.cell (i := 2) rfl
  have k0 := hC.cell (i := 0) rfl
  have k1 := hC.cell (i := 1) rfl
  have k2 := hC.cell (i := 2) rfl
  go_wp2_with fail
  have hcl := hC.lt
  refine (put19_any 2 0 [] 3 1 10 0 c2 A2 w3 (Lib.hid rfl) hr2 fitU_nil (by unfold Hid; decide) (by omega)).mono ?_
  rw [aw19_p1]
  rintro e w4 ⟨A4, m4, c4, rfl, HN4, hc4, hr4, hf4, hb4⟩
  obtain rfl : m4 = 1 := HN4.out.symm
  unfold aggC
  dsimp only at hr4 ⊢
  replace hU := hU.later hb4
  replace hB := below_step hB hb4
  replace hC := hC.later hb4
  clear hb4
  clear u0 u1 u2 k0 k1 k2 hr2
  go_upto_region 4 with (refine wpList_store_row rfl 25 (.tmp 2) (.tmp 23) rfl bc rfl [.int .i64 2, .int .u64 0, .slice A4 1 c4] rfl _ _ hC (by exact size_cache) rfl (one_cache 2 0 A4 1 c4) ?_)
  have hne : ∀ a, A4 = some a → a.block ≠ bc := fun a ha => by
    have := hf4 a ha
    omega
  replace hr4 := hr4.set_other bc #[.int .i64 2, .int .u64 0, .slice A4 1 c4] hne
  replace hU := hU.setRow_other (show w.heap.size ≠ bc by omega) #[.int .i64 2, .int .u64 0, .slice A4 1 c4]
  replace hB := below_setRow hB (show w.heap.size ≤ bc by omega) #[.int .i64 2, .int .u64 0, .slice A4 1 c4]
  replace hC := hC.setRow [.int .i64 2, .int .u64 0, .slice A4 1 c4]
  clear hne hf4 hcl
  generalize w4.setRow bc #[.int .i64 2, .int .u64 0, .slice A4 1 c4] = w5 at hU hB hC hr4 ⊢
  have u0 := hU.cell (i := 0) rfl
  have u1 := hU.cell (i := 1) rfl
  have u2 := hU.cell (i := 2) rfl
  have k0 := hC.cell (i := 0) rfl
  have k1 := hC.cell (i := 1) rfl
  have k2 := hC.cell (i := 2) rfl
  go_wp2_with fail
  refine (put19_any 2 0 [(3, 1, 10)] 3 1 10 1 c4 A4 w5 (Lib.hid rfl) hr4 (fitU_one (by decide)) (by unfold Hid; decide) (by omega)).mono ?_
  rw [aw19_p2]
  rintro e w6 ⟨A6, m6, c6, rfl, HN6, hc6, hr6, hf6, hb6⟩
  obtain rfl : m6 = 1 := HN6.out.symm
  unfold aggC
  dsimp only at hr6 ⊢
  replace hU := hU.later hb6
  replace hB := below_step hB hb6
  replace hC := hC.later hb6
  replace hr4 := hr4.keep hb6
  clear hb6
  clear u0 u1 u2 k0 k1 k2 hr6 hf6 hc6 HN6
  obtain ⟨_, hbn⟩ := box_of w6 25 [.int .i64 2, .int .u64 0, .slice A6 1 c6] _ rfl
  go_upto_region 5 with fail
  replace hU := hU.later hbn
  replace hB := below_step hB hbn
  replace hC := hC.later hbn
  replace hr4 := hr4.keep hbn
  clear hbn
  generalize w6.alloc (.cells #[.int .i64 2, .int .u64 0, .slice A6 1 c6] 25) = w7 at hU hB hC hr4 ⊢
  have k0 := hC.cell (i := 0) rfl
  have k1 := hC.cell (i := 1) rfl
  have k2 := hC.cell (i := 2) rfl
  go_wp2_with fail
  refine (raise19_any 2 0 [(3, 1, 10)] 11 1 c4 A4 w7 (Lib.hid rfl) hr4 (fitU_one (by decide)) (by omega)).mono ?_
  rw [aw19_r1]
  rintro e w8 ⟨A8, m8, c8, rfl, HN8, hc8, hr8, hf8, hb8⟩
  obtain rfl : m8 = 0 := HN8.out.symm
  unfold aggC
  dsimp only at hr8 ⊢
  replace hU := hU.later hb8
  replace hB := below_step hB hb8
  replace hC := hC.later hb8
  replace hr4 := hr4.keep hb8
  clear hb8
  clear k0 k1 k2 hf8 hc8 HN8
  obtain ⟨hD, hbn⟩ := box_of w8 25 [.int .i64 2, .int .u64 11, .slice A8 0 c8] _ rfl
  obtain ⟨bd, hbd⟩ : ∃ b, b = w8.heap.size := ⟨_, rfl⟩
  have hbcd : bc < bd := by rw [hbd]; exact hC.lt
  go_upto_region 6 with fail
  rw [← hbd] at hD ⊢
  clear hbd
  replace hU := hU.later hbn
  replace hB := below_step hB hbn
  replace hC := hC.later hbn
  replace hr4 := hr4.keep hbn
  replace hr8 := hr8.keep hbn
  clear hbn
  generalize w8.alloc (.cells #[.int .i64 2, .int .u64 11, .slice A8 0 c8] 25) = w9 at hU hB hC hr4 hr8 hD ⊢
  have u0 := hU.cell (i := 0) rfl
  have u1 := hU.cell (i := 1) rfl
  have u2 := hU.cell (i := 2) rfl
  have e0 := hD.cell (i := 0) rfl
  have e1 := hD.cell (i := 1) rfl
  have e2 := hD.cell (i := 2) rfl
  go_wp2_with fail
  refine (put19_any 2 11 [] 3 1 10 0 c8 A8 w9 (Lib.hid rfl) hr8 fitU_nil (by unfold Hid; decide) (by omega)).mono ?_
  rw [aw19_p3]
  rintro e w10 ⟨A10, m10, c10, rfl, HN10, hc10, hr10, hf10, hb10⟩
  obtain rfl : m10 = 0 := HN10.out.symm
  unfold aggC
  dsimp only at hr10 ⊢
  replace hU := hU.later hb10
  replace hB := below_step hB hb10
  replace hC := hC.later hb10
  replace hr4 := hr4.keep hb10
  replace hD := hD.later hb10
  clear hb10
  clear u0 u1 u2 e0 e1 e2 hr10 hf10 hc10 HN10 hr8
  obtain ⟨_, hbn⟩ := box_of w10 25 [.int .i64 2, .int .u64 11, .slice A10 0 c10] _ rfl
  go_upto_region 7 with fail
  replace hU := hU.later hbn
  replace hB := below_step hB hbn
  replace hC := hC.later hbn
  replace hr4 := hr4.keep hbn
  replace hD := hD.later hbn
  clear hbn
  generalize w10.alloc (.cells #[.int .i64 2, .int .u64 11, .slice A10 0 c10] 25) = w11 at hU hB hC hr4 hD ⊢
  have hcl := hC.lt
  have k0 := hC.cell (i := 0) rfl
  have k1 := hC.cell (i := 1) rfl
  have k2 := hC.cell (i := 2) rfl
  go_wp2_with fail
  refine (put19_any 2 0 [(3, 1, 10)] 0 0 1 1 c4 A4 w11 (Lib.hid rfl) hr4 (fitU_one (by decide)) (by unfold Hid; decide) (by omega)).mono ?_
  rw [aw19_p4]
  rintro e w12 ⟨A12, m12, c12, rfl, HN12, hc12, hr12, hf12, hb12⟩
  obtain rfl : m12 = 2 := HN12.out.symm
  unfold aggC
  dsimp only at hr12 ⊢
  replace hU := hU.later hb12
  replace hB := below_step hB hb12
  replace hC := hC.later hb12
  replace hD := hD.later hb12
  clear hb12
  clear k0 k1 k2 hr4
  go_upto_region 8 with (refine wpList_store_row rfl 25 (.tmp 2) (.tmp 46) rfl bc rfl [.int .i64 2, .int .u64 0, .slice A12 2 c12] rfl _ _ hC (by exact size_cache) rfl (one_cache 2 0 A12 2 c12) ?_)
  have hne : ∀ a, A12 = some a → a.block ≠ bc := fun a ha => by
    have := hf12 a ha
    omega
  replace hr12 := hr12.set_other bc #[.int .i64 2, .int .u64 0, .slice A12 2 c12] hne
  replace hU := hU.setRow_other (show w.heap.size ≠ bc by omega) #[.int .i64 2, .int .u64 0, .slice A12 2 c12]
  replace hB := below_setRow hB (show w.heap.size ≤ bc by omega) #[.int .i64 2, .int .u64 0, .slice A12 2 c12]
  replace hD := hD.setRow_other (show bd ≠ bc by omega) #[.int .i64 2, .int .u64 0, .slice A12 2 c12]
  replace hC := hC.setRow [.int .i64 2, .int .u64 0, .slice A12 2 c12]
  clear hne hf12 hcl
  generalize w12.setRow bc #[.int .i64 2, .int .u64 0, .slice A12 2 c12] = w13 at hU hB hC hD hr12 ⊢
  have k0 := hC.cell (i := 0) rfl
  have k1 := hC.cell (i := 1) rfl
  have k2 := hC.cell (i := 2) rfl
  go_wp2_with fail
  have HF2 : Hid (fitU [(0, 0, 1), (3, 1, 10)]) := by
    intro x hx
    simp only [List.mem_cons, List.not_mem_nil, or_false] at hx
    rcases hx with rfl | rfl <;> decide
  refine (put19_any 2 0 [(0, 0, 1), (3, 1, 10)] 0 0 2 2 c12 A12 w13 (Lib.hid rfl) hr12 HF2 (by unfold Hid; decide) (by omega)).mono ?_
  rw [aw19_p5]
  rintro e w14 ⟨A14, m14, c14, rfl, HN14, hc14, hr14, hf14, hb14⟩
  obtain rfl : m14 = 2 := HN14.out.symm
  unfold aggC
  dsimp only at hr14 ⊢
  replace hU := hU.later hb14
  replace hB := below_step hB hb14
  replace hC := hC.later hb14
  replace hD := hD.later hb14
  replace hr12 := hr12.keep hb14
  clear hb14
  clear k0 k1 k2 hr14 hf14 hc14 HN14
  obtain ⟨_, hbn⟩ := box_of w14 25 [.int .i64 2, .int .u64 0, .slice A14 2 c14] _ rfl
  go_upto_region 9 with fail
  replace hU := hU.later hbn
  replace hB := below_step hB hbn
  replace hC := hC.later hbn
  replace hD := hD.later hbn
  replace hr12 := hr12.keep hbn
  clear hbn
  generalize w14.alloc (.cells #[.int .i64 2, .int .u64 0, .slice A14 2 c14] 25) = wz at hU hB hC hD hr12 ⊢
  have HR := Lib.hid hr12
  obtain ⟨b, o, rfl, hb, _, p0, p1, p2⟩ := hr12.pair (k := 1) (by simp)
  have HB := Lib.hid hB
  have d0 : ∀ W, Below wz.heap.size wz W → W.cell? ⟨bc, 0, none⟩ = some (.int .i64 2) := fun W hW => (hC.later hW).cell rfl
  have d1 : ∀ W, Below wz.heap.size wz W → W.cell? ⟨bc, 1, none⟩ = some (.int .u64 0) := fun W hW => (hC.later hW).cell rfl
  have d2 : ∀ W, Below wz.heap.size wz W → W.cell? ⟨bc, 2, none⟩ = some (.slice (some ⟨b, o, none⟩) 2 c12) := fun W hW => (hC.later hW).cell rfl
  have d3 : ∀ W, Below wz.heap.size wz W → W.cell? ⟨bd, 1, none⟩ = some (.int .u64 11) := fun W hW => (hD.later hW).cell rfl
  have d4 : ∀ W, Below wz.heap.size wz W → W.cell? ⟨bd, 2, none⟩ = some (.slice A8 0 c8) := fun W hW => (hD.later hW).cell rfl
  have d5 : ∀ W, Below wz.heap.size wz W → W.cell? ⟨w.heap.size, 0, none⟩ = some (.int .u64 3) := fun W hW => (hU.later hW).cell rfl
  have d6 : ∀ W, Below wz.heap.size wz W → W.cell? ⟨w.heap.size, 1, none⟩ = some (.int .u64 1) := fun W hW => (hU.later hW).cell rfl
  have d7 : ∀ W, Below wz.heap.size wz W → W.cell? ⟨w.heap.size, 2, none⟩ = some (.int .u64 10) := fun W hW => (hU.later hW).cell rfl
  have d8 : ∀ W, Below wz.heap.size wz W → W.cell? ⟨b, o + 3, none⟩ = some (.int .u64 3) := fun W hW => (hW.cell (p := ⟨b, o + 3, none⟩) hb).trans p0
  have d9 : ∀ W, Below wz.heap.size wz W → W.cell? ⟨b, o + 3 + 1, none⟩ = some (.int .u64 1) := fun W hW => (hW.cell (p := ⟨b, o + 3 + 1, none⟩) hb).trans p1
  have d10 : ∀ W, Below wz.heap.size wz W → W.cell? ⟨b, o + 3 + 2, none⟩ = some (.int .u64 10) := fun W hW => (hW.cell (p := ⟨b, o + 3 + 2, none⟩) hb).trans p2
  have hq : ∀ W, (binOp .eql 27 (.agg #[.int .u64 3, .int .u64 1, .int .u64 10]) (.agg #[.int .u64 3, .int .u64 1, .int .u64 10])).run Try.prog W = .ok (.bool true) W := fun W => by
    have := eq_use 3 1 10 3 1 10 W
    simpa using this
  have hgd := fun op x y xs ys W => guard_use op x y xs ys W
  clear hU hB hC hD p0 p1 p2 hr12
  go_wp2_with fail
  have hBase := (Below.refl wz.heap.size wz).drew
  refine wp_region_plan (.step 0 false (.step 1 false (.step 2 false (.step 3 false (.step 4 false (.step 5 false (.step 6 false (.step 7 false (.step 8 false (.step 9 false (.step 10 false (.step 11 false (.step 12 false (.step 13 false (.step 14 false (.step 15 false (.step 16 false (.step 17 false (.step 18 false (.step 19 false (.step 20 false (.step 21 false (.step 22 false (.step 23 false (.step 24 false (.step 25 false (.step 26 false (.step 27 false (.step 28 false (.step 29 false (.step 30 false (.step 31 false (.step 32 false (.step 33 false (.step 34 false (.step 35 false (.step 36 false (.step 37 false (.step 38 false (.step 39 false (.step 40 false (.step 41 false (.step 42 false (.step 43 false (.step 44 false (.step 45 false (.step 46 false (.step 47 false (.step 48 false (.step 49 false (.step 50 false (.step 51 false (.step 52 false (.step 53 false (.step 54 true (.step 55 false (.step 56 false (.step 57 false (.step 58 true (.step 59 false (.step 60 false (.nil)))))))))))))))))))))))))))))))))))))))))))))))))))))))))))))) (by kernel_rfl) (by kernel_rfl) (by rfl) (by kernel_rfl) ?_
  iterate 54 (refine plan_read rfl (by rfl) (v := ?_) ?_ ?_; rotate_left 1; (intro W hW; have hW0 := below_step hBase hW; (try dsimp only at hW); go_simp <;> with_reducible rfl); simp only [List.getElem_toArray, List.getElem_cons_zero, List.getElem_cons_succ, Act.put, List.setIfInBounds_toArray, List.set_cons_zero, List.set_cons_succ])
  (refine plan_make rfl (by rfl) (fun K hK => ?_); go_simp; (refine (has19_any 2 0 [(0, 0, 1), (3, 1, 10)] 3 1 10 2 c12 (some ⟨b, o, none⟩) _ (Lib.hid rfl) (HR.out.keep hBase) (by omega)).mono ?_; rw [aw19_h]; rintro e₁ w15 ⟨rfl, hbx⟩); refine hK.out _ _ hbx ?_; clear hK K; replace hBase := below_step hBase hbx)
  iterate 3 (refine plan_read rfl (by rfl) (v := ?_) ?_ ?_; rotate_left 1; (intro W hW; have hW0 := below_step hBase hW; (try dsimp only at hW); go_simp <;> with_reducible rfl); simp only [List.getElem_toArray, List.getElem_cons_zero, List.getElem_cons_succ, Act.put, List.setIfInBounds_toArray, List.set_cons_zero, List.set_cons_succ])
  (refine plan_make rfl (by rfl) (fun K hK => ?_); go_simp; (refine (right19_any 2 0 [(0, 0, 1), (3, 1, 10)] 2 c12 (some ⟨b, o, none⟩) _ (Lib.hid rfl) (HR.out.keep hBase) HF2 (by omega)).mono ?_; rw [aw19_r]; rintro e₁ w16 ⟨rfl, hbx⟩); refine hK.out _ _ hbx ?_; clear hK K; replace hBase := below_step hBase hbx)
  iterate 2 (refine plan_read rfl (by rfl) (v := ?_) ?_ ?_; rotate_left 1; (intro W hW; have hW0 := below_step hBase hW; (try dsimp only at hW); go_simp <;> with_reducible rfl); simp only [List.getElem_toArray, List.getElem_cons_zero, List.getElem_cons_succ, Act.put, List.setIfInBounds_toArray, List.set_cons_zero, List.set_cons_succ])
  refine plan_done ?_
  go_wp2_with fail
  go_ret
  exact ⟨rfl, below_step HB.out hBase⟩
end Go.Proofs.Ytmljhkdojopljaa
/-
  What comes in, opened by its type's shape (no program is named here): numbers, slices of whatever, arrays, structs. No conditions but those typed.
-/
namespace Go.Proofs.Ytmljhkdojopljaa
set_option maxRecDepth 100000
open Go.RowKit Go.Deep Go.WideShapes Go.ChangeShapes

/-- Cells of type t that can be read as data are a reading R of something. -/
def Opens (P : Program) (t : TypeId) {α : Type} (R : World → List Value → α → Prop) : Prop :=
  ∀ {H : Type} (enc : TypeId × Value → H) (w : World) (base : Nat) (spare : Nat → Bool) (held : Bool) (fuel : Nat) (cs : List Value) (x : DataW H × List MemPlace), DataW.trod enc P w base spare held fuel t cs = some x → ∃ a : α, R w cs a

def RByte : World → List Value → UInt8 → Prop := fun _ cs c => cs = [vB c]
def RWord : World → List Value → UInt32 → Prop := fun _ cs c => cs = [vW c]
def RNum : World → List Value → Nat → Prop := fun _ cs v => cs = [.int .u64 (v : Int)] ∧ v < 18446744073709551616
def RInt : World → List Value → Int → Prop := fun _ cs n => cs = [.int .i64 n] ∧ -9223372036854775808 ≤ n ∧ n ≤ 9223372036854775807
def RBool : World → List Value → Bool → Prop := fun _ cs b => cs = [.bool b]

section
variable {P : Program} {t e : TypeId}
theorem opens_byte (ht : P.underlying t = some (.int .u8)) : Opens P t RByte := fun enc w base spare held fuel cs x h => by
  obtain ⟨n, rfl, _, hw⟩ := DataW.trod_int ht h
  simp [Lit.wf, IntKind.min, IntKind.max, IntKind.signed, IntKind.bits] at hw
  refine ⟨UInt8.ofNat n.toNat, ?_⟩
  unfold RByte vB
  rw [UInt8.toNat_ofNat']
  congr 2
  omega
theorem opens_word (ht : P.underlying t = some (.int .u32)) : Opens P t RWord := fun enc w base spare held fuel cs x h => by
  obtain ⟨n, rfl, _, hw⟩ := DataW.trod_int ht h
  simp [Lit.wf, IntKind.min, IntKind.max, IntKind.signed, IntKind.bits] at hw
  refine ⟨UInt32.ofNat n.toNat, ?_⟩
  unfold RWord vW
  rw [UInt32.toNat_ofNat']
  congr 2
  omega
theorem opens_num (ht : P.underlying t = some (.int .u64)) : Opens P t RNum := fun enc w base spare held fuel cs x h => by
  obtain ⟨n, rfl, _, hw⟩ := DataW.trod_int ht h
  obtain ⟨v, hv, rfl⟩ := u64_of_wf hw
  exact ⟨v, rfl, hv⟩
theorem opens_int (ht : P.underlying t = some (.int .i64)) : Opens P t RInt := fun enc w base spare held fuel cs x h => by
  obtain ⟨n, rfl, _, hw⟩ := DataW.trod_int ht h
  exact ⟨n, rfl, i64_of_wf hw⟩

/-- A slice: its elements, of m cells each, lie one behind the other. -/
def RSlice (m : Nat) {α : Type} (R : World → List Value → α → Prop) : World → List Value → List α → Prop := fun w cs l =>
  ∃ (A : Option Addr) (cap : Nat), cs = [.slice A l.length cap] ∧ l.length ≤ cap ∧ cap ≤ 9223372036854775807 ∧
    (l ≠ [] → ∃ b o, A = some ⟨b, o, none⟩ ∧ ∀ i (h : i < l.length), ∃ ecs : List Value, ecs.length = m ∧ (∀ j (hj : j < ecs.length), w.cell? ⟨b, o + i * m + j, none⟩ = some ecs[j]) ∧ R w ecs l[i])

theorem cells_at {w : World} {base : Nat} {a : Addr} {n : Nat} {cs : List Value} (h : w.cells? base a n = some cs) : cs.length = n ∧ ∀ j (hj : j < cs.length), w.cell? (a.add j) = some cs[j] := by
  obtain ⟨_, hl, hc⟩ := World.cells?_some h
  refine ⟨hl, fun j hj => ?_⟩
  have := hc j (by omega)
  rw [this]
  exact List.getElem?_eq_getElem hj

theorem choose_list {α : Type} (n : Nat) (p : Nat → α → Prop) (h : ∀ i, i < n → ∃ a, p i a) : ∃ l : List α, l.length = n ∧ ∀ i (hi : i < l.length), p i l[i] := by
  induction n with
  | zero => exact ⟨[], rfl, fun i hi => by simp at hi⟩
  | succ n ih =>
    obtain ⟨l, hl, hp⟩ := ih (fun i hi => h i (by omega))
    obtain ⟨a, ha⟩ := h n (by omega)
    refine ⟨l ++ [a], by simp [hl], fun i hi => ?_⟩
    by_cases hin : i < l.length
    · rw [List.getElem_append_left hin]; exact hp i hin
    · have : i = n := by simp at hi; omega
      subst this
      rw [List.getElem_append_right (by omega)]
      simpa [hl] using ha

theorem opens_slice {α : Type} {R : World → List Value → α → Prop} {m : Nat} (ht : P.underlying t = some (.slice e)) (hc : P.cellsOf e = m) (hm : 0 < m) (he : Opens P e R) : Opens P t (RSlice m R) := fun enc w base spare held fuel cs x h => by
  rcases open_slice ht h with ⟨rfl, _⟩ | ⟨a, len, cap, mm, n, D, Pl, rfl, hb, hl, hcap, hmm, rfl, hx⟩
  · exact ⟨[], none, 0, rfl, Nat.le_refl _, by omega, fun h => absurd rfl h⟩
  · have hlm : len ≤ mm := by rw [hmm]; split <;> omega
    unfold maxLen at hcap
    obtain ⟨l, hll, hp⟩ := choose_list len (fun i (y : α) => ∃ ecs : List Value, ecs.length = m ∧ (∀ j (hj : j < ecs.length), w.cell? ((a.add (i * m)).add j) = some ecs[j]) ∧ R w ecs y) (fun i hi => by
      obtain ⟨ecs, h1, h2⟩ := hx i (by omega)
      rw [hc] at h1
      obtain ⟨h3, h4⟩ := cells_at h1
      obtain ⟨y, hy⟩ := he enc w base spare held n ecs _ h2
      exact ⟨y, ecs, h3, h4, hy⟩)
    refine ⟨l, some a, cap, by rw [hll], by omega, by omega, fun hn => ?_⟩
    have h0 : 0 < l.length := by
      rcases Nat.eq_zero_or_pos l.length with h | h
      · exact absurd (List.eq_nil_of_length_eq_zero h) hn
      · exact h
    obtain ⟨b, o, spot⟩ := a
    obtain ⟨ecs, h3, h4, _⟩ := hp 0 h0
    have hc0 := h4 0 (by omega)
    have hspot : spot = none := by simpa [Addr.add] using World.cell?_spot hc0
    subst hspot
    have hadd : ∀ i j, ((⟨b, o, none⟩ : Addr).add i).add j = ⟨b, o + i + j, none⟩ := fun i j => by unfold Addr.add; split <;> split <;> simp_all
    refine ⟨b, o, rfl, fun i hi => ?_⟩
    obtain ⟨ecs, h3, h4, h5⟩ := hp i hi
    exact ⟨ecs, h3, fun j hj => by rw [← hadd]; exact h4 j hj, h5⟩

/-- An array: its elements' cells one behind the other (elements of one cell). -/
def RArr (n : Nat) {α : Type} (R : World → List Value → α → Prop) : World → List Value → List α → Prop := fun w cs l => l.length = n ∧ cs.length = n ∧ ∀ i (h : i < l.length), R w ((cs.drop i).take 1) l[i]
theorem opens_arr {α : Type} {R : World → List Value → α → Prop} {n : Nat} (ht : P.underlying t = some (.array n e)) (hc : P.cellsOf e = 1) (hn : P.cellsOf t = n) (he : Opens P e R) : Opens P t (RArr n R) := fun enc w base spare held fuel cs x h => by
  obtain ⟨xs, m, _, _, hl, hxl, hx⟩ := DataW.trod_array ht h
  obtain ⟨l, hll, hp⟩ := choose_list n (fun i (y : α) => R w ((cs.drop i).take 1) y) (fun i hi => by
    have := hx i hi
    rw [hc, Nat.mul_one, List.getElem?_eq_getElem (by omega)] at this
    exact he enc w base spare held m _ _ this)
  exact ⟨l, hll, by omega, hp⟩

/-- Structs of two to four fields: each field's cells. -/
def RTwo (a0 n0 a1 n1 : Nat) {α β : Type} (R : World → List Value → α → Prop) (S : World → List Value → β → Prop) : World → List Value → α × β → Prop := fun w cs x => cs.length = n0 + n1 ∧ R w ((cs.drop a0).take n0) x.1 ∧ S w ((cs.drop a1).take n1) x.2
def RThree (a0 n0 a1 n1 a2 n2 : Nat) {α β γ : Type} (R : World → List Value → α → Prop) (S : World → List Value → β → Prop) (T : World → List Value → γ → Prop) : World → List Value → α × β × γ → Prop := fun w cs x => cs.length = n0 + n1 + n2 ∧ R w ((cs.drop a0).take n0) x.1 ∧ S w ((cs.drop a1).take n1) x.2.1 ∧ T w ((cs.drop a2).take n2) x.2.2
theorem opens_two {α β : Type} {R : World → List Value → α → Prop} {S : World → List Value → β → Prop} {f0 f1 : Field} {a0 n0 a1 n1 : Nat} (ht : P.underlying t = some (.struct #[f0, f1])) (e0 : f0.offset = a0) (e1 : f1.offset = a1) (c0 : P.cellsOf f0.type = n0) (c1 : P.cellsOf f1.type = n1) (hn : P.cellsOf t = n0 + n1)
    (h0 : Opens P f0.type R) (h1 : Opens P f1.type S) : Opens P t (RTwo a0 n0 a1 n1 R S) := fun enc w base spare held fuel cs x h => by
  obtain ⟨xs, n, _, _, hl, hxl, hx⟩ := DataW.trod_struct ht h
  have k0 := hx 0 f0 rfl
  have k1 := hx 1 f1 rfl
  simp only [List.size_toArray, List.length_cons, List.length_nil, Nat.zero_add, Nat.reduceAdd] at hxl
  rw [List.getElem?_eq_getElem (by omega), e0, c0] at k0
  rw [List.getElem?_eq_getElem (by omega), e1, c1] at k1
  obtain ⟨x0, r0⟩ := h0 enc w base spare held n _ _ k0
  obtain ⟨x1, r1⟩ := h1 enc w base spare held n _ _ k1
  exact ⟨(x0, x1), by omega, r0, r1⟩
theorem opens_three {α β γ : Type} {R : World → List Value → α → Prop} {S : World → List Value → β → Prop} {T : World → List Value → γ → Prop} {f0 f1 f2 : Field} {a0 n0 a1 n1 a2 n2 : Nat} (ht : P.underlying t = some (.struct #[f0, f1, f2])) (e0 : f0.offset = a0) (e1 : f1.offset = a1) (e2 : f2.offset = a2)
    (c0 : P.cellsOf f0.type = n0) (c1 : P.cellsOf f1.type = n1) (c2 : P.cellsOf f2.type = n2) (hn : P.cellsOf t = n0 + n1 + n2) (h0 : Opens P f0.type R) (h1 : Opens P f1.type S) (h2 : Opens P f2.type T) : Opens P t (RThree a0 n0 a1 n1 a2 n2 R S T) := fun enc w base spare held fuel cs x h => by
  obtain ⟨xs, n, _, _, hl, hxl, hx⟩ := DataW.trod_struct ht h
  have k0 := hx 0 f0 rfl
  have k1 := hx 1 f1 rfl
  have k2 := hx 2 f2 rfl
  simp only [List.size_toArray, List.length_cons, List.length_nil, Nat.zero_add, Nat.reduceAdd] at hxl
  rw [List.getElem?_eq_getElem (by omega), e0, c0] at k0
  rw [List.getElem?_eq_getElem (by omega), e1, c1] at k1
  rw [List.getElem?_eq_getElem (by omega), e2, c2] at k2
  obtain ⟨x0, r0⟩ := h0 enc w base spare held n _ _ k0
  obtain ⟨x1, r1⟩ := h1 enc w base spare held n _ _ k1
  obtain ⟨x2, r2⟩ := h2 enc w base spare held n _ _ k2
  exact ⟨(x0, x1, x2), by omega, r0, r1, r2⟩
end

/-! ### Back to the words that the walks go by -/
theorem rd_of_rslice {α : Type} {f : α → Value} {R : World → List Value → α → Prop} {w : World} {cs : List Value} {l : List α} (hR : ∀ ecs x, R w ecs x → ecs = [f x]) (h : RSlice 1 R w cs l) : ∃ A cap, cs = [.slice A l.length cap] ∧ l.length ≤ cap ∧ cap ≤ 9223372036854775807 ∧ Rd f w A l := by
  obtain ⟨A, cap, e, h1, h2, h3⟩ := h
  refine ⟨A, cap, e, h1, h2, fun hn => ?_⟩
  obtain ⟨b, o, rfl, hc⟩ := h3 hn
  refine ⟨b, o, rfl, fun i hi => ?_⟩
  obtain ⟨ecs, _, h5, h6⟩ := hc i hi
  have := hR _ _ h6
  subst this
  have := h5 0 (by simp)
  simpa using this
theorem bytes_of_r {w : World} {cs : List Value} {l : List UInt8} (h : RSlice 1 RByte w cs l) : ∃ A cap, cs = [.slice A l.length cap] ∧ l.length ≤ cap ∧ cap ≤ 9223372036854775807 ∧ Rd vB w A l := rd_of_rslice (fun _ _ h => h) h
theorem words_of_r {w : World} {cs : List Value} {l : List UInt32} (h : RSlice 1 RWord w cs l) : ∃ A cap, cs = [.slice A l.length cap] ∧ l.length ≤ cap ∧ cap ≤ 9223372036854775807 ∧ Rd vW w A l := rd_of_rslice (fun _ _ h => h) h
theorem arr_words {n : Nat} {w : World} {cs : List Value} {l : List UInt32} (h : RArr n RWord w cs l) : cs = l.map vW ∧ l.length = n := by
  obtain ⟨h1, h2, h3⟩ := h
  refine ⟨?_, h1⟩
  apply List.ext_getElem
  · simp; omega
  · intro i hi hi'
    have := h3 i (by omega)
    unfold RWord at this
    have h4 := congrArg (fun l => l[0]?) this
    simp only [List.getElem?_take, List.getElem?_drop, Nat.add_zero, List.getElem?_eq_getElem hi, Nat.zero_lt_one, if_true, List.getElem?_cons_zero, Option.some.injEq] at h4
    rw [h4]
    simp

/-! ### A value and its cells -/
theorem okWide_arr {P : Program} {w : World} {r : Reach} {base n : Nat} {t e : TypeId} {v : Value} (ht : P.underlying t = some (.array n e)) (h : Value.okWide P w r base t v) : ∃ cs, v = .agg cs ∧ cs.size = P.cellsOf t := by
  simp only [Value.okWide, ht] at h
  obtain ⟨cs, h1, h2, _⟩ := h
  exact ⟨cs, h1, h2⟩

end Go.Proofs.Ytmljhkdojopljaa
/-
  Parameters that are uses, or caches, or lists of uses, or numbers, opened. No conditions.
-/
namespace Go.Proofs.Ytmljhkdojopljaa
set_option maxRecDepth 100000
open Go.RowKit Go.Deep Go.WideShapes Go.ChangeShapes
set_option linter.unusedSimpArgs false
set_option linter.unusedVariables false

theorem opens_use : Opens Try.prog 27 (RThree 0 1 1 1 2 1 RNum RNum RNum) := opens_three Try.underlying27 rfl rfl rfl (by kernel_rfl) (by kernel_rfl) (by kernel_rfl) (by kernel_rfl) (opens_num Try.underlying22) (opens_num Try.underlying22) (opens_num Try.underlying22)
theorem opens_uses : Opens Try.prog 23 (RSlice 3 (RThree 0 1 1 1 2 1 RNum RNum RNum)) := opens_slice Try.underlying23 (by kernel_rfl) (by omega) opens_use
theorem opens_cache : Opens Try.prog 25 (RThree 0 1 1 1 2 1 RInt RNum (RSlice 3 (RThree 0 1 1 1 2 1 RNum RNum RNum))) := opens_three Try.underlying25 rfl rfl rfl (by kernel_rfl) (by kernel_rfl) (by kernel_rfl) (by kernel_rfl) (opens_int Try.underlying3) (opens_num Try.underlying22) opens_uses
theorem use_of_r {w : World} {cs : List Value} {x : Us} (h : RThree 0 1 1 1 2 1 RNum RNum RNum w cs x) : cs = cellU x ∧ fitU1 x := by
  obtain ⟨hl, ⟨h0, g0⟩, ⟨h1, g1⟩, h2, g2⟩ := h
  refine ⟨?_, g0, g1, g2⟩
  match cs, hl with
  | [a, b, c], _ =>
    simp at h0 h1 h2
    rw [h0, h1, h2]
    rfl
theorem uses_of_r {w : World} {cs : List Value} {l : List Us} (h : RSlice 3 (RThree 0 1 1 1 2 1 RNum RNum RNum) w cs l) : ∃ (A : Option Addr) (cap : Nat), cs = [.slice A l.length cap] ∧ l.length ≤ cap ∧ cap ≤ 9223372036854775807 ∧ RdU w A l ∧ fitU l := by
  obtain ⟨A, cap, e, h1, h2, h3⟩ := h
  refine ⟨A, cap, e, h1, h2, fun hn => ?_, fun x hx => ?_⟩
  · obtain ⟨b, o, rfl, hc⟩ := h3 hn
    refine ⟨b, o, rfl, fun i hi => ?_⟩
    obtain ⟨ecs, h4, h5, h6⟩ := hc i hi
    obtain ⟨rfl, _⟩ := use_of_r h6
    exact ⟨h5 0 (by simp [cellU]), h5 1 (by simp [cellU]), h5 2 (by simp [cellU])⟩
  · obtain ⟨i, hi, rfl⟩ := List.getElem_of_mem hx
    obtain ⟨b, o, rfl, hc⟩ := h3 (by rintro rfl; simp at hi)
    obtain ⟨ecs, h4, h5, h6⟩ := hc i hi
    exact (use_of_r h6).2
section
variable {H : Type} {enc : TypeId × Value → H} {W : World} {base b1 : Nat} {spare : Nat → Bool} {held : Bool} {r : Reach} {v : Value} {d : DataW H} {p : List MemPlace}
theorem open_uses (hv : Value.okWide Try.prog W r base 23 v) (ht : DataW.Trod enc Try.prog W b1 spare held 23 v d p) : ∃ (l : List Us) (A : Option Addr) (cap : Nat), v = .slice A l.length cap ∧ l.length ≤ cap ∧ cap ≤ 9223372036854775807 ∧ RdU W A l ∧ fitU l := by
  obtain ⟨a, len, cap, rfl⟩ := okWide_slice Try.underlying23 hv
  obtain ⟨fuel, hf⟩ := ht
  obtain ⟨l, hl⟩ := opens_uses enc W _ _ _ _ _ _ hf
  obtain ⟨A, c, e, h1, h2, h3, h4⟩ := uses_of_r hl
  simp [Value.cells] at e
  obtain ⟨rfl, rfl, rfl⟩ := e
  exact ⟨l, _, _, rfl, h1, h2, h3, h4⟩
theorem open_use (hv : Value.okWide Try.prog W r base 27 v) (ht : DataW.Trod enc Try.prog W b1 spare held 27 v d p) : ∃ g : Us, v = aggU g ∧ fitU1 g := by
  obtain ⟨cs, rfl, _⟩ := okWide_struct Try.underlying27 hv
  obtain ⟨fuel, hf⟩ := ht
  obtain ⟨g, hg⟩ := opens_use enc W _ _ _ _ _ _ hf
  obtain ⟨e, hfit⟩ := use_of_r hg
  refine ⟨g, ?_, hfit⟩
  unfold aggU
  congr 1
  apply Array.toList_inj.1
  simp only [Value.cells] at e
  rw [e]
  rfl
theorem open_cache (hv : Value.okWide Try.prog W r base 25 v) (ht : DataW.Trod enc Try.prog W b1 spare held 25 v d p) : ∃ (room : Int) (fl : Nat) (l : List Us) (A : Option Addr) (cap : Nat), v = aggC room fl A l.length cap ∧ l.length ≤ cap ∧ cap ≤ 9223372036854775807 ∧ RdU W A l ∧ fitU l ∧ fl < 18446744073709551616 := by
  obtain ⟨cs, rfl, _⟩ := okWide_struct Try.underlying25 hv
  obtain ⟨fuel, hf⟩ := ht
  obtain ⟨⟨room, fl, l⟩, hl, ⟨e0, g0⟩, ⟨e1, g1⟩, h2⟩ := opens_cache enc W _ _ _ _ _ _ hf
  obtain ⟨A, c, e2, h3, h4, h5, h6⟩ := uses_of_r h2
  refine ⟨room, fl, l, A, c, ?_, h3, h4, h5, h6, g1⟩
  unfold aggC
  congr 1
  apply Array.toList_inj.1
  simp only [Value.cells] at hl e0 e1 e2
  match hcs : cs.toList, hl with
  | [x0, x1, x2], _ =>
    rw [hcs] at e0 e1 e2
    simp at e0 e1 e2
    rw [e0, e1, e2]
theorem open_num (hv : Value.okWide Try.prog W r base 22 v) (ht : DataW.Trod enc Try.prog W b1 spare held 22 v d p) : ∃ n : Nat, v = .int .u64 (n : Int) ∧ n < 18446744073709551616 := by
  obtain ⟨n, rfl⟩ := okWide_int Try.underlying22 hv
  obtain ⟨fuel, hf⟩ := ht
  obtain ⟨m, e, _, hw⟩ := DataW.trod_int Try.underlying22 hf
  simp [Value.cells] at e
  simp [Lit.wf, IntKind.min, IntKind.max, IntKind.signed, IntKind.bits] at hw
  exact ⟨n.toNat, by congr 1; omega, by omega⟩
theorem open_int19 (hv : Value.okWide Try.prog W r base 3 v) (ht : DataW.Trod enc Try.prog W b1 spare held 3 v d p) : ∃ n : Int, v = .int .i64 n := by
  obtain ⟨n, rfl⟩ := okWide_int Try.underlying3 hv
  exact ⟨n, rfl⟩
theorem open_byte19 (hv : Value.okWide Try.prog W r base 5 v) (ht : DataW.Trod enc Try.prog W b1 spare held 5 v d p) : ∃ y : Nat, v = .int .u8 (y : Int) ∧ y < 256 := by
  obtain ⟨n, rfl⟩ := okWide_int Try.underlying5 hv
  obtain ⟨fuel, hf⟩ := ht
  obtain ⟨m, e, _, hw⟩ := DataW.trod_int Try.underlying5 hf
  simp [Value.cells] at e
  simp [Lit.wf, IntKind.min, IntKind.max, IntKind.signed, IntKind.bits] at hw
  exact ⟨n.toNat, by congr 1; omega, by omega⟩
theorem opens_nums : Opens Try.prog 41 (RSlice 1 RNum) := opens_slice Try.underlying41 (by kernel_rfl) (by omega) (opens_num Try.underlying22)
theorem open_nums (hv : Value.okWide Try.prog W r base 41 v) (ht : DataW.Trod enc Try.prog W b1 spare held 41 v d p) : ∃ (l : List Nat) (A : Option Addr) (cap : Nat), v = .slice A l.length cap ∧ l.length ≤ cap ∧ cap ≤ 9223372036854775807 ∧ Rd vNU W A l ∧ ∀ x ∈ l, x < 18446744073709551616 := by
  obtain ⟨a, len, cap, rfl⟩ := okWide_slice Try.underlying41 hv
  obtain ⟨fuel, hf⟩ := ht
  obtain ⟨l, A, c, e, h1, h2, h3⟩ := opens_nums enc W _ _ _ _ _ _ hf
  simp [Value.cells] at e
  obtain ⟨rfl, rfl, rfl⟩ := e
  refine ⟨l, _, _, rfl, h1, h2, fun hn => ?_, fun x hx => ?_⟩
  · obtain ⟨b, o, rfl, hc⟩ := h3 hn
    refine ⟨b, o, rfl, fun i hi => ?_⟩
    obtain ⟨ecs, h4, h5, h6, _⟩ := hc i hi
    have := h5 0 (by rw [h6]; simp)
    rw [Nat.mul_one] at this
    simpa [h6, vNU] using this
  · obtain ⟨i, hi, rfl⟩ := List.getElem_of_mem hx
    obtain ⟨b, o, rfl, hc⟩ := h3 (by rintro rfl; simp at hi)
    obtain ⟨ecs, h4, h5, h6, h7⟩ := hc i hi
    exact h7
end
end Go.Proofs.Ytmljhkdojopljaa
/-
  The law CacheRight, where at most 300 uses were seen: it answers true. No conditions but those typed.
-/
namespace Go.Proofs.Ytmljhkdojopljaa
set_option maxRecDepth 100000
open Go.RowKit
set_option linter.unusedSimpArgs false
set_option linter.unusedVariables false

theorem putC_len (c : Ca) (u : Us) : (putC c u).1.2.2.length ≤ c.2.2.length + 1 := by
  cases h : rightC c with
  | false => unfold putC; rw [h, if_pos rfl]; dsimp only; omega
  | true =>
    rcases putC_cases c u h with ⟨_, e⟩ | ⟨_, _, e⟩ | ⟨_, _, _, e⟩ | ⟨_, _, _, e⟩ <;> rw [e]
    · dsimp only; omega
    · dsimp only; omega
    · dsimp only; omega
    · dsimp only
      rw [insU_length]
      exact Nat.le_refl _
theorem raiseC_len (c : Ca) (f : Nat) : (raiseC c f).1.2.2.length ≤ c.2.2.length := by
  cases h : rightC c with
  | false => unfold raiseC; rw [h, if_pos rfl]; exact Nat.le_refl _
  | true => unfold raiseC; rw [h, if_neg (by decide)]; exact above_length _ _
theorem putC_fit {c : Ca} {u : Us} (h : fitU c.2.2) (hu : fitU1 u) : fitU (putC c u).1.2.2 := by
  cases hr : rightC c with
  | false => unfold putC; rw [hr, if_pos rfl]; exact h
  | true =>
    rcases putC_cases c u hr with ⟨_, e⟩ | ⟨_, _, e⟩ | ⟨_, _, _, e⟩ | ⟨_, _, _, e⟩ <;> rw [e]
    · exact h
    · exact h
    · exact h
    · exact insU_fit h hu
theorem raiseC_fit {c : Ca} (f : Nat) (h : fitU c.2.2) : fitU (raiseC c f).1.2.2 := by
  cases hr : rightC c with
  | false => unfold raiseC; rw [hr, if_pos rfl]; exact h
  | true => unfold raiseC; rw [hr, if_neg (by decide)]; exact above_fit h

set_option maxRecDepth 100000 in
set_option maxHeartbeats 8000000 in
theorem cacheright_small (cr : Int) (fl : Nat) (l : List Us) (g0 g1 g2 : Nat) (room : Int) (flo n c : Nat) (A : Option Addr) (w : World) (HN : Hid (l.length = n)) (hr : RdU w A l) (HF : Hid (fitU l)) (HG : Hid (fitU1 (g0, g1, g2))) (hc : n ≤ c) (hn : n ≤ 300) :
    Calls Try.prog 3 #[aggC cr fl A n c, .agg #[.int .u64 (g0 : Int), .int .u64 (g1 : Int), .int .u64 (g2 : Int)], .int .i64 room, .int .u64 (flo : Int)] w fun e w' => e = .returned (.bool true) ∧ Below w.heap.size w w' := by
  obtain ⟨⟨⟨r1, f1, l1⟩, q1⟩, hX⟩ : ∃ X, X = putC (cr, fl, l) (g0, g1, g2) := ⟨_, rfl⟩
  obtain ⟨⟨⟨r2, f2, l2⟩, q2⟩, hY⟩ : ∃ X, X = raiseC (cr, fl, l) flo := ⟨_, rfl⟩
  have hl1 : l1.length ≤ 301 := by
    have h1 := putC_len (cr, fl, l) (g0, g1, g2)
    rw [← hX] at h1
    have h2 := HN.out
    dsimp only at h1
    omega
  have hl2 : l2.length ≤ 301 := by
    have h1 := raiseC_len (cr, fl, l) flo
    rw [← hY] at h1
    have h2 := HN.out
    dsimp only at h1
    omega
  have HL1 := Lib.hid hl1
  have HL2 := Lib.hid hl2
  have HA1 : Hid (∀ W, Below w.heap.size w W → Calls Try.prog 12 #[.agg #[.int .i64 cr, .int .u64 (fl : Int), .slice A n c], .agg #[.int .u64 (g0 : Int), .int .u64 (g1 : Int), .int .u64 (g2 : Int)]] W (RetC W (r1, f1, l1) q1)) := fun W hW => by
    have := (put19_any cr fl l g0 g1 g2 n c A W HN (hr.keep hW) HF HG (by omega)).mono fun e w' h => h.c
    rw [← hX] at this
    exact this
  have HA2 : Hid (∀ W, Below w.heap.size w W → Calls Try.prog 13 #[.agg #[.int .i64 cr, .int .u64 (fl : Int), .slice A n c], .agg #[.int .u64 (g0 : Int), .int .u64 (g1 : Int), .int .u64 (g2 : Int)]] W (RetC W (r1, f1, l1) q1)) := fun W hW => by
    have := refput19_any cr fl l g0 g1 g2 n c A W HN (hr.keep hW) (by omega) hc
    rw [← hX] at this
    exact this
  have HA3 : Hid (∀ W, Below w.heap.size w W → Calls Try.prog 14 #[.agg #[.int .i64 cr, .int .u64 (fl : Int), .slice A n c], .int .u64 (flo : Int)] W (RetC W (r2, f2, l2) q2)) := fun W hW => by
    have := (raise19_any cr fl l flo n c A W HN (hr.keep hW) HF (by omega)).mono fun e w' h => h.c
    rw [← hY] at this
    exact this
  have HA4 : Hid (∀ W, Below w.heap.size w W → Calls Try.prog 15 #[.agg #[.int .i64 cr, .int .u64 (fl : Int), .slice A n c], .int .u64 (flo : Int)] W (RetC W (r2, f2, l2) q2)) := fun W hW => by
    have := refraise19_any cr fl l flo n c A W HN (hr.keep hW) (by omega) hc
    rw [← hY] at this
    exact this
  obtain ⟨R, hR⟩ : ∃ R, rightC (cr, fl, l) = R := ⟨_, rfl⟩
  obtain ⟨S, hS⟩ : ∃ R, hasU l (g0, g1, g2) = R := ⟨_, rfl⟩
  have HA5 : Hid (∀ W, Below w.heap.size w W → Calls Try.prog 16 #[.agg #[.int .i64 cr, .int .u64 (fl : Int), .slice A n c]] W fun e w' => e = .returned (.bool R) ∧ Below W.heap.size W w') := fun W hW => by
    have := right19_any cr fl l n c A W HN (hr.keep hW) HF (by omega)
    rw [hR] at this
    exact this
  have HA6 : Hid (∀ W, Below w.heap.size w W → Calls Try.prog 17 #[.agg #[.int .i64 cr, .int .u64 (fl : Int), .slice A n c]] W fun e w' => e = .returned (.bool R) ∧ Below W.heap.size W w') := fun W hW => by
    have := refright19_any cr fl l n c A W HN (hr.keep hW) (by omega)
    rw [hR] at this
    exact this
  have HA7 : Hid (∀ W, Below w.heap.size w W → Calls Try.prog 18 #[.agg #[.int .i64 cr, .int .u64 (fl : Int), .slice A n c], .agg #[.int .u64 (g0 : Int), .int .u64 (g1 : Int), .int .u64 (g2 : Int)]] W fun e w' => e = .returned (.bool S) ∧ Below W.heap.size W w') := fun W hW => by
    have := has19_any cr fl l g0 g1 g2 n c A W HN (hr.keep hW) (by omega)
    rw [hS] at this
    exact this
  have HA8 : Hid (∀ W, Below w.heap.size w W → Calls Try.prog 19 #[.agg #[.int .i64 cr, .int .u64 (fl : Int), .slice A n c], .agg #[.int .u64 (g0 : Int), .int .u64 (g1 : Int), .int .u64 (g2 : Int)]] W fun e w' => e = .returned (.bool S) ∧ Below W.heap.size W w') := fun W hW => by
    have := refhas19_any cr fl l g0 g1 g2 n c A W HN (hr.keep hW) (by omega)
    rw [hS] at this
    exact this
  have hC : Row ((w.alloc (.cells #[.int .i64 cr, .int .u64 (fl : Int), .slice A n c] 25)).alloc (.cells #[.int .u64 (g0 : Int), .int .u64 (g1 : Int), .int .u64 (g2 : Int)] 27)) w.heap.size 25 [.int .i64 cr, .int .u64 (fl : Int), .slice A n c] := (Row.new w _ _ _ rfl).alloc _
  have hU : Row ((w.alloc (.cells #[.int .i64 cr, .int .u64 (fl : Int), .slice A n c] 25)).alloc (.cells #[.int .u64 (g0 : Int), .int .u64 (g1 : Int), .int .u64 (g2 : Int)] 27)) (w.heap.size + 1) 27 [.int .u64 (g0 : Int), .int .u64 (g1 : Int), .int .u64 (g2 : Int)] := Row.new_at _ _ (by simp) _ _ _ rfl
  have hB := below_new (below_new (Below.refl _ w) (.cells #[.int .i64 cr, .int .u64 (fl : Int), .slice A n c] 25)) (.cells #[.int .u64 (g0 : Int), .int .u64 (g1 : Int), .int .u64 (g2 : Int)] 27)
  clear hX hY hR hS hl1 hl2 hr HF HG
  have n0 : ¬ (300 : Int) < (n : Int) := by omega
  unfold aggC
  go_enter Try.func3, Try.ntmps3
  go_upto_region 1 with fail
  generalize (w.alloc (.cells #[.int .i64 cr, .int .u64 (fl : Int), .slice A n c] 25)).alloc (.cells #[.int .u64 (g0 : Int), .int .u64 (g1 : Int), .int .u64 (g2 : Int)] 27) = w1 at hC hU hB ⊢
  obtain ⟨bg, hbgE⟩ : ∃ bg, bg = w.heap.size := ⟨_, rfl⟩
  rw [← hbgE] at hC hU ⊢
  clear hbgE
  go_wp2_with fail
  refine (awake19_any _).mono ?_
  rintro e w2 ⟨rfl, hb2⟩
  replace hC := hC.later hb2
  replace hU := hU.later hb2
  replace hB := below_step hB hb2
  clear hb2
  have k2 := hC.cell (i := 2) rfl
  go_wp2_with fail
  clear k2 n0
  have hroom : ∃ (D : Ca) (dk : Int), (0 ≤ room ∧ room ≤ 64 → D = (room, 0, []) ∧ dk = 0) ∧ (¬ (0 ≤ room ∧ room ≤ 64) → D = (0, 0, []) ∧ dk = 1) ∧ ∀ W, Calls Try.prog 10 #[.int .i64 room] W (RetF W D dk) :=
    ⟨_, _, fun h => ⟨if_pos h, if_pos h⟩, fun h => ⟨if_neg h, if_neg h⟩, fun W => new19_any room W⟩
  obtain ⟨⟨r3, f3, l3⟩, q3, hD1, hD2, hNew⟩ := hroom
  have HD1 := Lib.hid hD1
  have HD2 := Lib.hid hD2
  have HNW := Lib.hid hNew
  clear hD1 hD2 hNew
  refine (HNW.out _).mono ?_
  clear HNW
  rintro e w3 ⟨A3, m3, c3, rfl, HN3, hc3, hr3, hf3, hb3⟩
  unfold aggC
  dsimp only at HN3 hr3 ⊢
  replace hC := hC.later hb3
  replace hU := hU.later hb3
  replace hB := below_step hB hb3
  clear hb3
  obtain ⟨hV, hbn⟩ := box_of w3 25 [.int .i64 r3, .int .u64 (f3 : Int), .slice A3 m3 c3] _ rfl
  obtain ⟨bv, hbv⟩ : ∃ b, b = w3.heap.size := ⟨_, rfl⟩
  go_upto_region 6 with fail
  rw [← hbv] at hV ⊢
  clear hbv hf3 hc3
  replace hC := hC.later hbn
  replace hU := hU.later hbn
  replace hB := below_step hB hbn
  replace hr3 := hr3.keep hbn
  clear hbn
  generalize w3.alloc (.cells #[.int .i64 r3, .int .u64 (f3 : Int), .slice A3 m3 c3] 25) = w4 at hC hU hB hr3 hV ⊢
  have v0 := hV.cell (i := 0) rfl
  have v1 := hV.cell (i := 1) rfl
  have v2 := hV.cell (i := 2) rfl
  by_cases hroom : 0 ≤ room ∧ room ≤ 64
  · obtain ⟨e1, e2⟩ := HD1.out hroom
    injection e1 with e1 e3
    injection e3 with e3 e4
    subst e1
    subst e3
    subst e4
    subst e2
    obtain rfl : m3 = 0 := HN3.out.symm
    obtain ⟨h0, h1⟩ := hroom
    clear HD1 HD2 HN3
    go_wp2_with fail
    refine (same19_any r3 r3 0 0 [] [] 0 0 c3 0 A3 none _ (Lib.hid rfl) (Lib.hid rfl) hr3 RdU.nil (by omega)).mono ?_
    rw [decide_eq_true rfl]
    rintro e w5 ⟨rfl, hb5⟩
    replace hC := hC.later hb5
    replace hU := hU.later hb5
    replace hB := below_step hB hb5
    clear hb5
    clear v0 v1 v2 hV hr3 h0 h1

    have k0 := hC.cell (i := 0) rfl
    have k1 := hC.cell (i := 1) rfl
    have k2 := hC.cell (i := 2) rfl
    have u0 := hU.cell (i := 0) rfl
    have u1 := hU.cell (i := 1) rfl
    have u2 := hU.cell (i := 2) rfl
    go_wp2_with fail
    refine (HA1.out _ hB).mono ?_
    rintro e wa ⟨A5, m5, c5, rfl, HN5, hc5, hr5, hb5⟩
    unfold aggC
    dsimp only at HN5 hr5 ⊢
    replace hC := hC.later hb5
    replace hU := hU.later hb5
    replace hB := below_step hB hb5
    clear hb5
    clear k0 k1 k2 u0 u1 u2
    obtain ⟨hP5, hbn⟩ := box_of wa 25 [.int .i64 r1, .int .u64 (f1 : Int), .slice A5 m5 c5] _ rfl
    obtain ⟨b5, hbE⟩ : ∃ b, b = wa.heap.size := ⟨_, rfl⟩
    go_upto_region 12 with fail
    rw [← hbE] at hP5 ⊢
    clear hbE
    replace hC := hC.later hbn
    replace hU := hU.later hbn
    replace hB := below_step hB hbn
    replace hr5 := hr5.keep hbn
    clear hbn
    generalize wa.alloc (.cells #[.int .i64 r1, .int .u64 (f1 : Int), .slice A5 m5 c5] 25) = wb at hC hU hB hr5 hP5 ⊢

    have k0 := hC.cell (i := 0) rfl
    have k1 := hC.cell (i := 1) rfl
    have k2 := hC.cell (i := 2) rfl
    have u0 := hU.cell (i := 0) rfl
    have u1 := hU.cell (i := 1) rfl
    have u2 := hU.cell (i := 2) rfl
    go_wp2_with fail
    refine (HA2.out _ hB).mono ?_
    rintro e wc ⟨A6, m6, c6, rfl, HN6, hc6, hr6, hb6⟩
    unfold aggC
    dsimp only at HN6 hr6 ⊢
    replace hC := hC.later hb6
    replace hU := hU.later hb6
    replace hB := below_step hB hb6
    replace hr5 := hr5.keep hb6
    replace hP5 := hP5.later hb6
    clear hb6
    clear k0 k1 k2 u0 u1 u2
    obtain ⟨hP6, hbn⟩ := box_of wc 25 [.int .i64 r1, .int .u64 (f1 : Int), .slice A6 m6 c6] _ rfl
    obtain ⟨b6, hbE⟩ : ∃ b, b = wc.heap.size := ⟨_, rfl⟩
    go_upto_region 13 with fail
    rw [← hbE] at hP6 ⊢
    clear hbE
    replace hC := hC.later hbn
    replace hU := hU.later hbn
    replace hB := below_step hB hbn
    replace hr5 := hr5.keep hbn
    replace hP5 := hP5.later hbn
    replace hr6 := hr6.keep hbn
    clear hbn
    generalize wc.alloc (.cells #[.int .i64 r1, .int .u64 (f1 : Int), .slice A6 m6 c6] 25) = wd at hC hU hB hr5 hP5 hr6 hP6 ⊢

    have k0 := hC.cell (i := 0) rfl
    have k1 := hC.cell (i := 1) rfl
    have k2 := hC.cell (i := 2) rfl
    have u0 := hU.cell (i := 0) rfl
    have u1 := hU.cell (i := 1) rfl
    have u2 := hU.cell (i := 2) rfl
    go_wp2_with fail
    refine (HA3.out _ hB).mono ?_
    rintro e we ⟨A7, m7, c7, rfl, HN7, hc7, hr7, hb7⟩
    unfold aggC
    dsimp only at HN7 hr7 ⊢
    replace hC := hC.later hb7
    replace hU := hU.later hb7
    replace hB := below_step hB hb7
    replace hr5 := hr5.keep hb7
    replace hP5 := hP5.later hb7
    replace hr6 := hr6.keep hb7
    replace hP6 := hP6.later hb7
    clear hb7
    clear k0 k1 k2 u0 u1 u2
    obtain ⟨hP7, hbn⟩ := box_of we 25 [.int .i64 r2, .int .u64 (f2 : Int), .slice A7 m7 c7] _ rfl
    obtain ⟨b7, hbE⟩ : ∃ b, b = we.heap.size := ⟨_, rfl⟩
    go_upto_region 14 with fail
    rw [← hbE] at hP7 ⊢
    clear hbE
    replace hC := hC.later hbn
    replace hU := hU.later hbn
    replace hB := below_step hB hbn
    replace hr5 := hr5.keep hbn
    replace hP5 := hP5.later hbn
    replace hr6 := hr6.keep hbn
    replace hP6 := hP6.later hbn
    replace hr7 := hr7.keep hbn
    clear hbn
    generalize we.alloc (.cells #[.int .i64 r2, .int .u64 (f2 : Int), .slice A7 m7 c7] 25) = wf at hC hU hB hr5 hP5 hr6 hP6 hr7 hP7 ⊢

    have k0 := hC.cell (i := 0) rfl
    have k1 := hC.cell (i := 1) rfl
    have k2 := hC.cell (i := 2) rfl
    have u0 := hU.cell (i := 0) rfl
    have u1 := hU.cell (i := 1) rfl
    have u2 := hU.cell (i := 2) rfl
    go_wp2_with fail
    refine (HA4.out _ hB).mono ?_
    rintro e wg ⟨A8, m8, c8, rfl, HN8, hc8, hr8, hb8⟩
    unfold aggC
    dsimp only at HN8 hr8 ⊢
    replace hC := hC.later hb8
    replace hU := hU.later hb8
    replace hB := below_step hB hb8
    replace hr5 := hr5.keep hb8
    replace hP5 := hP5.later hb8
    replace hr6 := hr6.keep hb8
    replace hP6 := hP6.later hb8
    replace hr7 := hr7.keep hb8
    replace hP7 := hP7.later hb8
    clear hb8
    clear k0 k1 k2 u0 u1 u2
    obtain ⟨hP8, hbn⟩ := box_of wg 25 [.int .i64 r2, .int .u64 (f2 : Int), .slice A8 m8 c8] _ rfl
    obtain ⟨b8, hbE⟩ : ∃ b, b = wg.heap.size := ⟨_, rfl⟩
    go_upto_region 15 with fail
    rw [← hbE] at hP8 ⊢
    clear hbE
    replace hC := hC.later hbn
    replace hU := hU.later hbn
    replace hB := below_step hB hbn
    replace hr5 := hr5.keep hbn
    replace hP5 := hP5.later hbn
    replace hr6 := hr6.keep hbn
    replace hP6 := hP6.later hbn
    replace hr7 := hr7.keep hbn
    replace hP7 := hP7.later hbn
    replace hr8 := hr8.keep hbn
    clear hbn
    generalize wg.alloc (.cells #[.int .i64 r2, .int .u64 (f2 : Int), .slice A8 m8 c8] 25) = wz at hC hU hB hr5 hP5 hr6 hP6 hr7 hP7 hr8 hP8 ⊢
    have d0 : ∀ W, Below wz.heap.size wz W → W.cell? ⟨bg, 0, none⟩ = some (.int .i64 cr) := fun W hW => (hC.later hW).cell rfl
    have d1 : ∀ W, Below wz.heap.size wz W → W.cell? ⟨bg, 1, none⟩ = some (.int .u64 (fl : Int)) := fun W hW => (hC.later hW).cell rfl
    have d2 : ∀ W, Below wz.heap.size wz W → W.cell? ⟨bg, 2, none⟩ = some (.slice A n c) := fun W hW => (hC.later hW).cell rfl
    have d3 : ∀ W, Below wz.heap.size wz W → W.cell? ⟨bg + 1, 0, none⟩ = some (.int .u64 (g0 : Int)) := fun W hW => (hU.later hW).cell rfl
    have d4 : ∀ W, Below wz.heap.size wz W → W.cell? ⟨bg + 1, 1, none⟩ = some (.int .u64 (g1 : Int)) := fun W hW => (hU.later hW).cell rfl
    have d5 : ∀ W, Below wz.heap.size wz W → W.cell? ⟨bg + 1, 2, none⟩ = some (.int .u64 (g2 : Int)) := fun W hW => (hU.later hW).cell rfl
    have d6 : ∀ W, Below wz.heap.size wz W → W.cell? ⟨b5, 0, none⟩ = some (.int .i64 r1) := fun W hW => (hP5.later hW).cell rfl
    have d7 : ∀ W, Below wz.heap.size wz W → W.cell? ⟨b5, 1, none⟩ = some (.int .u64 (f1 : Int)) := fun W hW => (hP5.later hW).cell rfl
    have d8 : ∀ W, Below wz.heap.size wz W → W.cell? ⟨b5, 2, none⟩ = some (.slice A5 m5 c5) := fun W hW => (hP5.later hW).cell rfl
    have d9 : ∀ W, Below wz.heap.size wz W → W.cell? ⟨b6, 0, none⟩ = some (.int .i64 r1) := fun W hW => (hP6.later hW).cell rfl
    have d10 : ∀ W, Below wz.heap.size wz W → W.cell? ⟨b6, 1, none⟩ = some (.int .u64 (f1 : Int)) := fun W hW => (hP6.later hW).cell rfl
    have d11 : ∀ W, Below wz.heap.size wz W → W.cell? ⟨b6, 2, none⟩ = some (.slice A6 m6 c6) := fun W hW => (hP6.later hW).cell rfl
    have d12 : ∀ W, Below wz.heap.size wz W → W.cell? ⟨b7, 0, none⟩ = some (.int .i64 r2) := fun W hW => (hP7.later hW).cell rfl
    have d13 : ∀ W, Below wz.heap.size wz W → W.cell? ⟨b7, 1, none⟩ = some (.int .u64 (f2 : Int)) := fun W hW => (hP7.later hW).cell rfl
    have d14 : ∀ W, Below wz.heap.size wz W → W.cell? ⟨b7, 2, none⟩ = some (.slice A7 m7 c7) := fun W hW => (hP7.later hW).cell rfl
    have d15 : ∀ W, Below wz.heap.size wz W → W.cell? ⟨b8, 0, none⟩ = some (.int .i64 r2) := fun W hW => (hP8.later hW).cell rfl
    have d16 : ∀ W, Below wz.heap.size wz W → W.cell? ⟨b8, 1, none⟩ = some (.int .u64 (f2 : Int)) := fun W hW => (hP8.later hW).cell rfl
    have d17 : ∀ W, Below wz.heap.size wz W → W.cell? ⟨b8, 2, none⟩ = some (.slice A8 m8 c8) := fun W hW => (hP8.later hW).cell rfl
    have HQ5 := Lib.hid hr5
    have HQ6 := Lib.hid hr6
    have HQ7 := Lib.hid hr7
    have HQ8 := Lib.hid hr8
    have HBB := Lib.hid hB
    clear hC hU hB hr5 hr6 hr7 hr8 hP5 hP6 hP7 hP8
    go_wp2_with fail
    have hBase := (Below.refl wz.heap.size wz).drew
    refine wp_region_plan (.step 0 false (.step 2 false (.step 1 true (.step 3 true (.step 4 false (.step 5 false (.step 6 false (.step 7 false (.step 9 false (.step 10 false (.step 8 true (.step 11 true (.step 12 false (.step 13 false (.step 14 false (.step 15 false (.step 16 false (.step 17 true (.step 18 false (.step 19 false (.step 20 false (.step 21 false (.step 22 false (.step 23 false (.step 24 false (.step 25 false (.step 26 false (.step 27 true (.step 28 false (.step 29 false (.step 30 false (.step 31 false (.step 32 false (.step 33 false (.step 34 false (.nil)))))))))))))))))))))))))))))))))))) (by kernel_rfl) (by kernel_rfl) (by rfl) (by kernel_rfl) ?_
    iterate 2 (refine plan_read rfl (by rfl) (v := ?_) ?_ ?_; rotate_left 1; (intro W hW; have hW0 := below_step hBase hW; (try dsimp only at hW); go_simp <;> with_reducible rfl); simp only [List.getElem_toArray, List.getElem_cons_zero, List.getElem_cons_succ, Act.put, List.setIfInBounds_toArray, List.set_cons_zero, List.set_cons_succ])
    (refine plan_make rfl (by rfl) (fun K hK => ?_); go_simp; (refine (HA5.out _ (below_step HBB.out hBase)).mono ?_; rintro e₁ wq ⟨rfl, hbx⟩); refine hK.out _ _ hbx ?_; clear hK K; replace hBase := below_step hBase hbx)
    (refine plan_make rfl (by rfl) (fun K hK => ?_); go_simp; (refine (HA6.out _ (below_step HBB.out hBase)).mono ?_; rintro e₁ wr ⟨rfl, hbx⟩); refine hK.out _ _ hbx ?_; clear hK K; replace hBase := below_step hBase hbx)
    iterate 6 (refine plan_read rfl (by rfl) (v := ?_) ?_ ?_; rotate_left 1; (intro W hW; have hW0 := below_step hBase hW; (try dsimp only at hW); go_simp <;> with_reducible rfl); simp only [List.getElem_toArray, List.getElem_cons_zero, List.getElem_cons_succ, Act.put, List.setIfInBounds_toArray, List.set_cons_zero, List.set_cons_succ])
    (refine plan_make rfl (by rfl) (fun K hK => ?_); go_simp; (refine (HA7.out _ (below_step HBB.out hBase)).mono ?_; rintro e₁ ws ⟨rfl, hbx⟩); refine hK.out _ _ hbx ?_; clear hK K; replace hBase := below_step hBase hbx)
    (refine plan_make rfl (by rfl) (fun K hK => ?_); go_simp; (refine (HA8.out _ (below_step HBB.out hBase)).mono ?_; rintro e₁ wt ⟨rfl, hbx⟩); refine hK.out _ _ hbx ?_; clear hK K; replace hBase := below_step hBase hbx)
    iterate 5 (refine plan_read rfl (by rfl) (v := ?_) ?_ ?_; rotate_left 1; (intro W hW; have hW0 := below_step hBase hW; (try dsimp only at hW); go_simp <;> with_reducible rfl); simp only [List.getElem_toArray, List.getElem_cons_zero, List.getElem_cons_succ, Act.put, List.setIfInBounds_toArray, List.set_cons_zero, List.set_cons_succ])
    (refine plan_make rfl (by rfl) (fun K hK => ?_); go_simp; (refine (same19_any r1 r1 f1 f1 l1 l1 m5 m6 c5 c6 A5 A6 _ HN5 HN6 (HQ5.out.keep hBase) (HQ6.out.keep hBase) (by have := HL1.out; have := HN5.out; omega)).mono ?_; rw [decide_eq_true (rfl : (r1, f1, l1) = (r1, f1, l1))]; rintro e₁ wu ⟨rfl, hbx⟩); refine hK.out _ _ hbx ?_; clear hK K; replace hBase := below_step hBase hbx)
    iterate 9 (refine plan_read rfl (by rfl) (v := ?_) ?_ ?_; rotate_left 1; (intro W hW; have hW0 := below_step hBase hW; (try dsimp only at hW); go_simp <;> with_reducible rfl); simp only [List.getElem_toArray, List.getElem_cons_zero, List.getElem_cons_succ, Act.put, List.setIfInBounds_toArray, List.set_cons_zero, List.set_cons_succ])
    (refine plan_make rfl (by rfl) (fun K hK => ?_); go_simp; (refine (same19_any r2 r2 f2 f2 l2 l2 m7 m8 c7 c8 A7 A8 _ HN7 HN8 (HQ7.out.keep hBase) (HQ8.out.keep hBase) (by have := HL2.out; have := HN7.out; omega)).mono ?_; rw [decide_eq_true (rfl : (r2, f2, l2) = (r2, f2, l2))]; rintro e₁ wv ⟨rfl, hbx⟩); refine hK.out _ _ hbx ?_; clear hK K; replace hBase := below_step hBase hbx)
    iterate 7 (refine plan_read rfl (by rfl) (v := ?_) ?_ ?_; rotate_left 1; (intro W hW; have hW0 := below_step hBase hW; (try dsimp only at hW); go_simp <;> with_reducible rfl); simp only [List.getElem_toArray, List.getElem_cons_zero, List.getElem_cons_succ, Act.put, List.setIfInBounds_toArray, List.set_cons_zero, List.set_cons_succ])
    refine plan_done ?_
    go_wp2_with fail
    go_ret
    exact ⟨rfl, below_step HBB.out hBase⟩
  · obtain ⟨e1, e2⟩ := HD2.out hroom
    injection e1 with e1 e3
    injection e3 with e3 e4
    subst e1
    subst e3
    subst e4
    subst e2
    obtain rfl : m3 = 0 := HN3.out.symm
    clear HD1 HD2 HN3
    by_cases h0 : 0 ≤ room
    · have h1 : ¬ room ≤ 64 := fun h => hroom ⟨h0, h⟩
      clear hroom
      go_wp2_with fail
      refine (same19_any 0 0 0 0 [] [] 0 0 c3 0 A3 none _ (Lib.hid rfl) (Lib.hid rfl) hr3 RdU.nil (by omega)).mono ?_
      rw [decide_eq_true rfl]
      rintro e w5 ⟨rfl, hb5⟩
      replace hC := hC.later hb5
      replace hU := hU.later hb5
      replace hB := below_step hB hb5
      clear hb5
      clear v0 v1 v2 hV hr3 h0 h1

      have k0 := hC.cell (i := 0) rfl
      have k1 := hC.cell (i := 1) rfl
      have k2 := hC.cell (i := 2) rfl
      have u0 := hU.cell (i := 0) rfl
      have u1 := hU.cell (i := 1) rfl
      have u2 := hU.cell (i := 2) rfl
      go_wp2_with fail
      refine (HA1.out _ hB).mono ?_
      rintro e wa ⟨A5, m5, c5, rfl, HN5, hc5, hr5, hb5⟩
      unfold aggC
      dsimp only at HN5 hr5 ⊢
      replace hC := hC.later hb5
      replace hU := hU.later hb5
      replace hB := below_step hB hb5
      clear hb5
      clear k0 k1 k2 u0 u1 u2
      obtain ⟨hP5, hbn⟩ := box_of wa 25 [.int .i64 r1, .int .u64 (f1 : Int), .slice A5 m5 c5] _ rfl
      obtain ⟨b5, hbE⟩ : ∃ b, b = wa.heap.size := ⟨_, rfl⟩
      go_upto_region 12 with fail
      rw [← hbE] at hP5 ⊢
      clear hbE
      replace hC := hC.later hbn
      replace hU := hU.later hbn
      replace hB := below_step hB hbn
      replace hr5 := hr5.keep hbn
      clear hbn
      generalize wa.alloc (.cells #[.int .i64 r1, .int .u64 (f1 : Int), .slice A5 m5 c5] 25) = wb at hC hU hB hr5 hP5 ⊢

      have k0 := hC.cell (i := 0) rfl
      have k1 := hC.cell (i := 1) rfl
      have k2 := hC.cell (i := 2) rfl
      have u0 := hU.cell (i := 0) rfl
      have u1 := hU.cell (i := 1) rfl
      have u2 := hU.cell (i := 2) rfl
      go_wp2_with fail
      refine (HA2.out _ hB).mono ?_
      rintro e wc ⟨A6, m6, c6, rfl, HN6, hc6, hr6, hb6⟩
      unfold aggC
      dsimp only at HN6 hr6 ⊢
      replace hC := hC.later hb6
      replace hU := hU.later hb6
      replace hB := below_step hB hb6
      replace hr5 := hr5.keep hb6
      replace hP5 := hP5.later hb6
      clear hb6
      clear k0 k1 k2 u0 u1 u2
      obtain ⟨hP6, hbn⟩ := box_of wc 25 [.int .i64 r1, .int .u64 (f1 : Int), .slice A6 m6 c6] _ rfl
      obtain ⟨b6, hbE⟩ : ∃ b, b = wc.heap.size := ⟨_, rfl⟩
      go_upto_region 13 with fail
      rw [← hbE] at hP6 ⊢
      clear hbE
      replace hC := hC.later hbn
      replace hU := hU.later hbn
      replace hB := below_step hB hbn
      replace hr5 := hr5.keep hbn
      replace hP5 := hP5.later hbn
      replace hr6 := hr6.keep hbn
      clear hbn
      generalize wc.alloc (.cells #[.int .i64 r1, .int .u64 (f1 : Int), .slice A6 m6 c6] 25) = wd at hC hU hB hr5 hP5 hr6 hP6 ⊢

      have k0 := hC.cell (i := 0) rfl
      have k1 := hC.cell (i := 1) rfl
      have k2 := hC.cell (i := 2) rfl
      have u0 := hU.cell (i := 0) rfl
      have u1 := hU.cell (i := 1) rfl
      have u2 := hU.cell (i := 2) rfl
      go_wp2_with fail
      refine (HA3.out _ hB).mono ?_
      rintro e we ⟨A7, m7, c7, rfl, HN7, hc7, hr7, hb7⟩
      unfold aggC
      dsimp only at HN7 hr7 ⊢
      replace hC := hC.later hb7
      replace hU := hU.later hb7
      replace hB := below_step hB hb7
      replace hr5 := hr5.keep hb7
      replace hP5 := hP5.later hb7
      replace hr6 := hr6.keep hb7
      replace hP6 := hP6.later hb7
      clear hb7
      clear k0 k1 k2 u0 u1 u2
      obtain ⟨hP7, hbn⟩ := box_of we 25 [.int .i64 r2, .int .u64 (f2 : Int), .slice A7 m7 c7] _ rfl
      obtain ⟨b7, hbE⟩ : ∃ b, b = we.heap.size := ⟨_, rfl⟩
      go_upto_region 14 with fail
      rw [← hbE] at hP7 ⊢
      clear hbE
      replace hC := hC.later hbn
      replace hU := hU.later hbn
      replace hB := below_step hB hbn
      replace hr5 := hr5.keep hbn
      replace hP5 := hP5.later hbn
      replace hr6 := hr6.keep hbn
      replace hP6 := hP6.later hbn
      replace hr7 := hr7.keep hbn
      clear hbn
      generalize we.alloc (.cells #[.int .i64 r2, .int .u64 (f2 : Int), .slice A7 m7 c7] 25) = wf at hC hU hB hr5 hP5 hr6 hP6 hr7 hP7 ⊢

      have k0 := hC.cell (i := 0) rfl
      have k1 := hC.cell (i := 1) rfl
      have k2 := hC.cell (i := 2) rfl
      have u0 := hU.cell (i := 0) rfl
      have u1 := hU.cell (i := 1) rfl
      have u2 := hU.cell (i := 2) rfl
      go_wp2_with fail
      refine (HA4.out _ hB).mono ?_
      rintro e wg ⟨A8, m8, c8, rfl, HN8, hc8, hr8, hb8⟩
      unfold aggC
      dsimp only at HN8 hr8 ⊢
      replace hC := hC.later hb8
      replace hU := hU.later hb8
      replace hB := below_step hB hb8
      replace hr5 := hr5.keep hb8
      replace hP5 := hP5.later hb8
      replace hr6 := hr6.keep hb8
      replace hP6 := hP6.later hb8
      replace hr7 := hr7.keep hb8
      replace hP7 := hP7.later hb8
      clear hb8
      clear k0 k1 k2 u0 u1 u2
      obtain ⟨hP8, hbn⟩ := box_of wg 25 [.int .i64 r2, .int .u64 (f2 : Int), .slice A8 m8 c8] _ rfl
      obtain ⟨b8, hbE⟩ : ∃ b, b = wg.heap.size := ⟨_, rfl⟩
      go_upto_region 15 with fail
      rw [← hbE] at hP8 ⊢
      clear hbE
      replace hC := hC.later hbn
      replace hU := hU.later hbn
      replace hB := below_step hB hbn
      replace hr5 := hr5.keep hbn
      replace hP5 := hP5.later hbn
      replace hr6 := hr6.keep hbn
      replace hP6 := hP6.later hbn
      replace hr7 := hr7.keep hbn
      replace hP7 := hP7.later hbn
      replace hr8 := hr8.keep hbn
      clear hbn
      generalize wg.alloc (.cells #[.int .i64 r2, .int .u64 (f2 : Int), .slice A8 m8 c8] 25) = wz at hC hU hB hr5 hP5 hr6 hP6 hr7 hP7 hr8 hP8 ⊢
      have d0 : ∀ W, Below wz.heap.size wz W → W.cell? ⟨bg, 0, none⟩ = some (.int .i64 cr) := fun W hW => (hC.later hW).cell rfl
      have d1 : ∀ W, Below wz.heap.size wz W → W.cell? ⟨bg, 1, none⟩ = some (.int .u64 (fl : Int)) := fun W hW => (hC.later hW).cell rfl
      have d2 : ∀ W, Below wz.heap.size wz W → W.cell? ⟨bg, 2, none⟩ = some (.slice A n c) := fun W hW => (hC.later hW).cell rfl
      have d3 : ∀ W, Below wz.heap.size wz W → W.cell? ⟨bg + 1, 0, none⟩ = some (.int .u64 (g0 : Int)) := fun W hW => (hU.later hW).cell rfl
      have d4 : ∀ W, Below wz.heap.size wz W → W.cell? ⟨bg + 1, 1, none⟩ = some (.int .u64 (g1 : Int)) := fun W hW => (hU.later hW).cell rfl
      have d5 : ∀ W, Below wz.heap.size wz W → W.cell? ⟨bg + 1, 2, none⟩ = some (.int .u64 (g2 : Int)) := fun W hW => (hU.later hW).cell rfl
      have d6 : ∀ W, Below wz.heap.size wz W → W.cell? ⟨b5, 0, none⟩ = some (.int .i64 r1) := fun W hW => (hP5.later hW).cell rfl
      have d7 : ∀ W, Below wz.heap.size wz W → W.cell? ⟨b5, 1, none⟩ = some (.int .u64 (f1 : Int)) := fun W hW => (hP5.later hW).cell rfl
      have d8 : ∀ W, Below wz.heap.size wz W → W.cell? ⟨b5, 2, none⟩ = some (.slice A5 m5 c5) := fun W hW => (hP5.later hW).cell rfl
      have d9 : ∀ W, Below wz.heap.size wz W → W.cell? ⟨b6, 0, none⟩ = some (.int .i64 r1) := fun W hW => (hP6.later hW).cell rfl
      have d10 : ∀ W, Below wz.heap.size wz W → W.cell? ⟨b6, 1, none⟩ = some (.int .u64 (f1 : Int)) := fun W hW => (hP6.later hW).cell rfl
      have d11 : ∀ W, Below wz.heap.size wz W → W.cell? ⟨b6, 2, none⟩ = some (.slice A6 m6 c6) := fun W hW => (hP6.later hW).cell rfl
      have d12 : ∀ W, Below wz.heap.size wz W → W.cell? ⟨b7, 0, none⟩ = some (.int .i64 r2) := fun W hW => (hP7.later hW).cell rfl
      have d13 : ∀ W, Below wz.heap.size wz W → W.cell? ⟨b7, 1, none⟩ = some (.int .u64 (f2 : Int)) := fun W hW => (hP7.later hW).cell rfl
      have d14 : ∀ W, Below wz.heap.size wz W → W.cell? ⟨b7, 2, none⟩ = some (.slice A7 m7 c7) := fun W hW => (hP7.later hW).cell rfl
      have d15 : ∀ W, Below wz.heap.size wz W → W.cell? ⟨b8, 0, none⟩ = some (.int .i64 r2) := fun W hW => (hP8.later hW).cell rfl
      have d16 : ∀ W, Below wz.heap.size wz W → W.cell? ⟨b8, 1, none⟩ = some (.int .u64 (f2 : Int)) := fun W hW => (hP8.later hW).cell rfl
      have d17 : ∀ W, Below wz.heap.size wz W → W.cell? ⟨b8, 2, none⟩ = some (.slice A8 m8 c8) := fun W hW => (hP8.later hW).cell rfl
      have HQ5 := Lib.hid hr5
      have HQ6 := Lib.hid hr6
      have HQ7 := Lib.hid hr7
      have HQ8 := Lib.hid hr8
      have HBB := Lib.hid hB
      clear hC hU hB hr5 hr6 hr7 hr8 hP5 hP6 hP7 hP8
      go_wp2_with fail
      have hBase := (Below.refl wz.heap.size wz).drew
      refine wp_region_plan (.step 0 false (.step 2 false (.step 1 true (.step 3 true (.step 4 false (.step 5 false (.step 6 false (.step 7 false (.step 9 false (.step 10 false (.step 8 true (.step 11 true (.step 12 false (.step 13 false (.step 14 false (.step 15 false (.step 16 false (.step 17 true (.step 18 false (.step 19 false (.step 20 false (.step 21 false (.step 22 false (.step 23 false (.step 24 false (.step 25 false (.step 26 false (.step 27 true (.step 28 false (.step 29 false (.step 30 false (.step 31 false (.step 32 false (.step 33 false (.step 34 false (.nil)))))))))))))))))))))))))))))))))))) (by kernel_rfl) (by kernel_rfl) (by rfl) (by kernel_rfl) ?_
      iterate 2 (refine plan_read rfl (by rfl) (v := ?_) ?_ ?_; rotate_left 1; (intro W hW; have hW0 := below_step hBase hW; (try dsimp only at hW); go_simp <;> with_reducible rfl); simp only [List.getElem_toArray, List.getElem_cons_zero, List.getElem_cons_succ, Act.put, List.setIfInBounds_toArray, List.set_cons_zero, List.set_cons_succ])
      (refine plan_make rfl (by rfl) (fun K hK => ?_); go_simp; (refine (HA5.out _ (below_step HBB.out hBase)).mono ?_; rintro e₁ wq ⟨rfl, hbx⟩); refine hK.out _ _ hbx ?_; clear hK K; replace hBase := below_step hBase hbx)
      (refine plan_make rfl (by rfl) (fun K hK => ?_); go_simp; (refine (HA6.out _ (below_step HBB.out hBase)).mono ?_; rintro e₁ wr ⟨rfl, hbx⟩); refine hK.out _ _ hbx ?_; clear hK K; replace hBase := below_step hBase hbx)
      iterate 6 (refine plan_read rfl (by rfl) (v := ?_) ?_ ?_; rotate_left 1; (intro W hW; have hW0 := below_step hBase hW; (try dsimp only at hW); go_simp <;> with_reducible rfl); simp only [List.getElem_toArray, List.getElem_cons_zero, List.getElem_cons_succ, Act.put, List.setIfInBounds_toArray, List.set_cons_zero, List.set_cons_succ])
      (refine plan_make rfl (by rfl) (fun K hK => ?_); go_simp; (refine (HA7.out _ (below_step HBB.out hBase)).mono ?_; rintro e₁ ws ⟨rfl, hbx⟩); refine hK.out _ _ hbx ?_; clear hK K; replace hBase := below_step hBase hbx)
      (refine plan_make rfl (by rfl) (fun K hK => ?_); go_simp; (refine (HA8.out _ (below_step HBB.out hBase)).mono ?_; rintro e₁ wt ⟨rfl, hbx⟩); refine hK.out _ _ hbx ?_; clear hK K; replace hBase := below_step hBase hbx)
      iterate 5 (refine plan_read rfl (by rfl) (v := ?_) ?_ ?_; rotate_left 1; (intro W hW; have hW0 := below_step hBase hW; (try dsimp only at hW); go_simp <;> with_reducible rfl); simp only [List.getElem_toArray, List.getElem_cons_zero, List.getElem_cons_succ, Act.put, List.setIfInBounds_toArray, List.set_cons_zero, List.set_cons_succ])
      (refine plan_make rfl (by rfl) (fun K hK => ?_); go_simp; (refine (same19_any r1 r1 f1 f1 l1 l1 m5 m6 c5 c6 A5 A6 _ HN5 HN6 (HQ5.out.keep hBase) (HQ6.out.keep hBase) (by have := HL1.out; have := HN5.out; omega)).mono ?_; rw [decide_eq_true (rfl : (r1, f1, l1) = (r1, f1, l1))]; rintro e₁ wu ⟨rfl, hbx⟩); refine hK.out _ _ hbx ?_; clear hK K; replace hBase := below_step hBase hbx)
      iterate 9 (refine plan_read rfl (by rfl) (v := ?_) ?_ ?_; rotate_left 1; (intro W hW; have hW0 := below_step hBase hW; (try dsimp only at hW); go_simp <;> with_reducible rfl); simp only [List.getElem_toArray, List.getElem_cons_zero, List.getElem_cons_succ, Act.put, List.setIfInBounds_toArray, List.set_cons_zero, List.set_cons_succ])
      (refine plan_make rfl (by rfl) (fun K hK => ?_); go_simp; (refine (same19_any r2 r2 f2 f2 l2 l2 m7 m8 c7 c8 A7 A8 _ HN7 HN8 (HQ7.out.keep hBase) (HQ8.out.keep hBase) (by have := HL2.out; have := HN7.out; omega)).mono ?_; rw [decide_eq_true (rfl : (r2, f2, l2) = (r2, f2, l2))]; rintro e₁ wv ⟨rfl, hbx⟩); refine hK.out _ _ hbx ?_; clear hK K; replace hBase := below_step hBase hbx)
      iterate 7 (refine plan_read rfl (by rfl) (v := ?_) ?_ ?_; rotate_left 1; (intro W hW; have hW0 := below_step hBase hW; (try dsimp only at hW); go_simp <;> with_reducible rfl); simp only [List.getElem_toArray, List.getElem_cons_zero, List.getElem_cons_succ, Act.put, List.setIfInBounds_toArray, List.set_cons_zero, List.set_cons_succ])
      refine plan_done ?_
      go_wp2_with fail
      go_ret
      exact ⟨rfl, below_step HBB.out hBase⟩
    · clear hroom
      go_wp2_with fail
      refine (same19_any 0 0 0 0 [] [] 0 0 c3 0 A3 none _ (Lib.hid rfl) (Lib.hid rfl) hr3 RdU.nil (by omega)).mono ?_
      rw [decide_eq_true rfl]
      rintro e w5 ⟨rfl, hb5⟩
      replace hC := hC.later hb5
      replace hU := hU.later hb5
      replace hB := below_step hB hb5
      clear hb5
      clear v0 v1 v2 hV hr3 h0

      have k0 := hC.cell (i := 0) rfl
      have k1 := hC.cell (i := 1) rfl
      have k2 := hC.cell (i := 2) rfl
      have u0 := hU.cell (i := 0) rfl
      have u1 := hU.cell (i := 1) rfl
      have u2 := hU.cell (i := 2) rfl
      go_wp2_with fail
      refine (HA1.out _ hB).mono ?_
      rintro e wa ⟨A5, m5, c5, rfl, HN5, hc5, hr5, hb5⟩
      unfold aggC
      dsimp only at HN5 hr5 ⊢
      replace hC := hC.later hb5
      replace hU := hU.later hb5
      replace hB := below_step hB hb5
      clear hb5
      clear k0 k1 k2 u0 u1 u2
      obtain ⟨hP5, hbn⟩ := box_of wa 25 [.int .i64 r1, .int .u64 (f1 : Int), .slice A5 m5 c5] _ rfl
      obtain ⟨b5, hbE⟩ : ∃ b, b = wa.heap.size := ⟨_, rfl⟩
      go_upto_region 12 with fail
      rw [← hbE] at hP5 ⊢
      clear hbE
      replace hC := hC.later hbn
      replace hU := hU.later hbn
      replace hB := below_step hB hbn
      replace hr5 := hr5.keep hbn
      clear hbn
      generalize wa.alloc (.cells #[.int .i64 r1, .int .u64 (f1 : Int), .slice A5 m5 c5] 25) = wb at hC hU hB hr5 hP5 ⊢

      have k0 := hC.cell (i := 0) rfl
      have k1 := hC.cell (i := 1) rfl
      have k2 := hC.cell (i := 2) rfl
      have u0 := hU.cell (i := 0) rfl
      have u1 := hU.cell (i := 1) rfl
      have u2 := hU.cell (i := 2) rfl
      go_wp2_with fail
      refine (HA2.out _ hB).mono ?_
      rintro e wc ⟨A6, m6, c6, rfl, HN6, hc6, hr6, hb6⟩
      unfold aggC
      dsimp only at HN6 hr6 ⊢
      replace hC := hC.later hb6
      replace hU := hU.later hb6
      replace hB := below_step hB hb6
      replace hr5 := hr5.keep hb6
      replace hP5 := hP5.later hb6
      clear hb6
      clear k0 k1 k2 u0 u1 u2
      obtain ⟨hP6, hbn⟩ := box_of wc 25 [.int .i64 r1, .int .u64 (f1 : Int), .slice A6 m6 c6] _ rfl
      obtain ⟨b6, hbE⟩ : ∃ b, b = wc.heap.size := ⟨_, rfl⟩
      go_upto_region 13 with fail
      rw [← hbE] at hP6 ⊢
      clear hbE
      replace hC := hC.later hbn
      replace hU := hU.later hbn
      replace hB := below_step hB hbn
      replace hr5 := hr5.keep hbn
      replace hP5 := hP5.later hbn
      replace hr6 := hr6.keep hbn
      clear hbn
      generalize wc.alloc (.cells #[.int .i64 r1, .int .u64 (f1 : Int), .slice A6 m6 c6] 25) = wd at hC hU hB hr5 hP5 hr6 hP6 ⊢

      have k0 := hC.cell (i := 0) rfl
      have k1 := hC.cell (i := 1) rfl
      have k2 := hC.cell (i := 2) rfl
      have u0 := hU.cell (i := 0) rfl
      have u1 := hU.cell (i := 1) rfl
      have u2 := hU.cell (i := 2) rfl
      go_wp2_with fail
      refine (HA3.out _ hB).mono ?_
      rintro e we ⟨A7, m7, c7, rfl, HN7, hc7, hr7, hb7⟩
      unfold aggC
      dsimp only at HN7 hr7 ⊢
      replace hC := hC.later hb7
      replace hU := hU.later hb7
      replace hB := below_step hB hb7
      replace hr5 := hr5.keep hb7
      replace hP5 := hP5.later hb7
      replace hr6 := hr6.keep hb7
      replace hP6 := hP6.later hb7
      clear hb7
      clear k0 k1 k2 u0 u1 u2
      obtain ⟨hP7, hbn⟩ := box_of we 25 [.int .i64 r2, .int .u64 (f2 : Int), .slice A7 m7 c7] _ rfl
      obtain ⟨b7, hbE⟩ : ∃ b, b = we.heap.size := ⟨_, rfl⟩
      go_upto_region 14 with fail
      rw [← hbE] at hP7 ⊢
      clear hbE
      replace hC := hC.later hbn
      replace hU := hU.later hbn
      replace hB := below_step hB hbn
      replace hr5 := hr5.keep hbn
      replace hP5 := hP5.later hbn
      replace hr6 := hr6.keep hbn
      replace hP6 := hP6.later hbn
      replace hr7 := hr7.keep hbn
      clear hbn
      generalize we.alloc (.cells #[.int .i64 r2, .int .u64 (f2 : Int), .slice A7 m7 c7] 25) = wf at hC hU hB hr5 hP5 hr6 hP6 hr7 hP7 ⊢

      have k0 := hC.cell (i := 0) rfl
      have k1 := hC.cell (i := 1) rfl
      have k2 := hC.cell (i := 2) rfl
      have u0 := hU.cell (i := 0) rfl
      have u1 := hU.cell (i := 1) rfl
      have u2 := hU.cell (i := 2) rfl
      go_wp2_with fail
      refine (HA4.out _ hB).mono ?_
      rintro e wg ⟨A8, m8, c8, rfl, HN8, hc8, hr8, hb8⟩
      unfold aggC
      dsimp only at HN8 hr8 ⊢
      replace hC := hC.later hb8
      replace hU := hU.later hb8
      replace hB := below_step hB hb8
      replace hr5 := hr5.keep hb8
      replace hP5 := hP5.later hb8
      replace hr6 := hr6.keep hb8
      replace hP6 := hP6.later hb8
      replace hr7 := hr7.keep hb8
      replace hP7 := hP7.later hb8
      clear hb8
      clear k0 k1 k2 u0 u1 u2
      obtain ⟨hP8, hbn⟩ := box_of wg 25 [.int .i64 r2, .int .u64 (f2 : Int), .slice A8 m8 c8] _ rfl
      obtain ⟨b8, hbE⟩ : ∃ b, b = wg.heap.size := ⟨_, rfl⟩
      go_upto_region 15 with fail
      rw [← hbE] at hP8 ⊢
      clear hbE
      replace hC := hC.later hbn
      replace hU := hU.later hbn
      replace hB := below_step hB hbn
      replace hr5 := hr5.keep hbn
      replace hP5 := hP5.later hbn
      replace hr6 := hr6.keep hbn
      replace hP6 := hP6.later hbn
      replace hr7 := hr7.keep hbn
      replace hP7 := hP7.later hbn
      replace hr8 := hr8.keep hbn
      clear hbn
      generalize wg.alloc (.cells #[.int .i64 r2, .int .u64 (f2 : Int), .slice A8 m8 c8] 25) = wz at hC hU hB hr5 hP5 hr6 hP6 hr7 hP7 hr8 hP8 ⊢
      have d0 : ∀ W, Below wz.heap.size wz W → W.cell? ⟨bg, 0, none⟩ = some (.int .i64 cr) := fun W hW => (hC.later hW).cell rfl
      have d1 : ∀ W, Below wz.heap.size wz W → W.cell? ⟨bg, 1, none⟩ = some (.int .u64 (fl : Int)) := fun W hW => (hC.later hW).cell rfl
      have d2 : ∀ W, Below wz.heap.size wz W → W.cell? ⟨bg, 2, none⟩ = some (.slice A n c) := fun W hW => (hC.later hW).cell rfl
      have d3 : ∀ W, Below wz.heap.size wz W → W.cell? ⟨bg + 1, 0, none⟩ = some (.int .u64 (g0 : Int)) := fun W hW => (hU.later hW).cell rfl
      have d4 : ∀ W, Below wz.heap.size wz W → W.cell? ⟨bg + 1, 1, none⟩ = some (.int .u64 (g1 : Int)) := fun W hW => (hU.later hW).cell rfl
      have d5 : ∀ W, Below wz.heap.size wz W → W.cell? ⟨bg + 1, 2, none⟩ = some (.int .u64 (g2 : Int)) := fun W hW => (hU.later hW).cell rfl
      have d6 : ∀ W, Below wz.heap.size wz W → W.cell? ⟨b5, 0, none⟩ = some (.int .i64 r1) := fun W hW => (hP5.later hW).cell rfl
      have d7 : ∀ W, Below wz.heap.size wz W → W.cell? ⟨b5, 1, none⟩ = some (.int .u64 (f1 : Int)) := fun W hW => (hP5.later hW).cell rfl
      have d8 : ∀ W, Below wz.heap.size wz W → W.cell? ⟨b5, 2, none⟩ = some (.slice A5 m5 c5) := fun W hW => (hP5.later hW).cell rfl
      have d9 : ∀ W, Below wz.heap.size wz W → W.cell? ⟨b6, 0, none⟩ = some (.int .i64 r1) := fun W hW => (hP6.later hW).cell rfl
      have d10 : ∀ W, Below wz.heap.size wz W → W.cell? ⟨b6, 1, none⟩ = some (.int .u64 (f1 : Int)) := fun W hW => (hP6.later hW).cell rfl
      have d11 : ∀ W, Below wz.heap.size wz W → W.cell? ⟨b6, 2, none⟩ = some (.slice A6 m6 c6) := fun W hW => (hP6.later hW).cell rfl
      have d12 : ∀ W, Below wz.heap.size wz W → W.cell? ⟨b7, 0, none⟩ = some (.int .i64 r2) := fun W hW => (hP7.later hW).cell rfl
      have d13 : ∀ W, Below wz.heap.size wz W → W.cell? ⟨b7, 1, none⟩ = some (.int .u64 (f2 : Int)) := fun W hW => (hP7.later hW).cell rfl
      have d14 : ∀ W, Below wz.heap.size wz W → W.cell? ⟨b7, 2, none⟩ = some (.slice A7 m7 c7) := fun W hW => (hP7.later hW).cell rfl
      have d15 : ∀ W, Below wz.heap.size wz W → W.cell? ⟨b8, 0, none⟩ = some (.int .i64 r2) := fun W hW => (hP8.later hW).cell rfl
      have d16 : ∀ W, Below wz.heap.size wz W → W.cell? ⟨b8, 1, none⟩ = some (.int .u64 (f2 : Int)) := fun W hW => (hP8.later hW).cell rfl
      have d17 : ∀ W, Below wz.heap.size wz W → W.cell? ⟨b8, 2, none⟩ = some (.slice A8 m8 c8) := fun W hW => (hP8.later hW).cell rfl
      have HQ5 := Lib.hid hr5
      have HQ6 := Lib.hid hr6
      have HQ7 := Lib.hid hr7
      have HQ8 := Lib.hid hr8
      have HBB := Lib.hid hB
      clear hC hU hB hr5 hr6 hr7 hr8 hP5 hP6 hP7 hP8
      go_wp2_with fail
      have hBase := (Below.refl wz.heap.size wz).drew
      refine wp_region_plan (.step 0 false (.step 2 false (.step 1 true (.step 3 true (.step 4 false (.step 5 false (.step 6 false (.step 7 false (.step 9 false (.step 10 false (.step 8 true (.step 11 true (.step 12 false (.step 13 false (.step 14 false (.step 15 false (.step 16 false (.step 17 true (.step 18 false (.step 19 false (.step 20 false (.step 21 false (.step 22 false (.step 23 false (.step 24 false (.step 25 false (.step 26 false (.step 27 true (.step 28 false (.step 29 false (.step 30 false (.step 31 false (.step 32 false (.step 33 false (.step 34 false (.nil)))))))))))))))))))))))))))))))))))) (by kernel_rfl) (by kernel_rfl) (by rfl) (by kernel_rfl) ?_
      iterate 2 (refine plan_read rfl (by rfl) (v := ?_) ?_ ?_; rotate_left 1; (intro W hW; have hW0 := below_step hBase hW; (try dsimp only at hW); go_simp <;> with_reducible rfl); simp only [List.getElem_toArray, List.getElem_cons_zero, List.getElem_cons_succ, Act.put, List.setIfInBounds_toArray, List.set_cons_zero, List.set_cons_succ])
      (refine plan_make rfl (by rfl) (fun K hK => ?_); go_simp; (refine (HA5.out _ (below_step HBB.out hBase)).mono ?_; rintro e₁ wq ⟨rfl, hbx⟩); refine hK.out _ _ hbx ?_; clear hK K; replace hBase := below_step hBase hbx)
      (refine plan_make rfl (by rfl) (fun K hK => ?_); go_simp; (refine (HA6.out _ (below_step HBB.out hBase)).mono ?_; rintro e₁ wr ⟨rfl, hbx⟩); refine hK.out _ _ hbx ?_; clear hK K; replace hBase := below_step hBase hbx)
      iterate 6 (refine plan_read rfl (by rfl) (v := ?_) ?_ ?_; rotate_left 1; (intro W hW; have hW0 := below_step hBase hW; (try dsimp only at hW); go_simp <;> with_reducible rfl); simp only [List.getElem_toArray, List.getElem_cons_zero, List.getElem_cons_succ, Act.put, List.setIfInBounds_toArray, List.set_cons_zero, List.set_cons_succ])
      (refine plan_make rfl (by rfl) (fun K hK => ?_); go_simp; (refine (HA7.out _ (below_step HBB.out hBase)).mono ?_; rintro e₁ ws ⟨rfl, hbx⟩); refine hK.out _ _ hbx ?_; clear hK K; replace hBase := below_step hBase hbx)
      (refine plan_make rfl (by rfl) (fun K hK => ?_); go_simp; (refine (HA8.out _ (below_step HBB.out hBase)).mono ?_; rintro e₁ wt ⟨rfl, hbx⟩); refine hK.out _ _ hbx ?_; clear hK K; replace hBase := below_step hBase hbx)
      iterate 5 (refine plan_read rfl (by rfl) (v := ?_) ?_ ?_; rotate_left 1; (intro W hW; have hW0 := below_step hBase hW; (try dsimp only at hW); go_simp <;> with_reducible rfl); simp only [List.getElem_toArray, List.getElem_cons_zero, List.getElem_cons_succ, Act.put, List.setIfInBounds_toArray, List.set_cons_zero, List.set_cons_succ])
      (refine plan_make rfl (by rfl) (fun K hK => ?_); go_simp; (refine (same19_any r1 r1 f1 f1 l1 l1 m5 m6 c5 c6 A5 A6 _ HN5 HN6 (HQ5.out.keep hBase) (HQ6.out.keep hBase) (by have := HL1.out; have := HN5.out; omega)).mono ?_; rw [decide_eq_true (rfl : (r1, f1, l1) = (r1, f1, l1))]; rintro e₁ wu ⟨rfl, hbx⟩); refine hK.out _ _ hbx ?_; clear hK K; replace hBase := below_step hBase hbx)
      iterate 9 (refine plan_read rfl (by rfl) (v := ?_) ?_ ?_; rotate_left 1; (intro W hW; have hW0 := below_step hBase hW; (try dsimp only at hW); go_simp <;> with_reducible rfl); simp only [List.getElem_toArray, List.getElem_cons_zero, List.getElem_cons_succ, Act.put, List.setIfInBounds_toArray, List.set_cons_zero, List.set_cons_succ])
      (refine plan_make rfl (by rfl) (fun K hK => ?_); go_simp; (refine (same19_any r2 r2 f2 f2 l2 l2 m7 m8 c7 c8 A7 A8 _ HN7 HN8 (HQ7.out.keep hBase) (HQ8.out.keep hBase) (by have := HL2.out; have := HN7.out; omega)).mono ?_; rw [decide_eq_true (rfl : (r2, f2, l2) = (r2, f2, l2))]; rintro e₁ wv ⟨rfl, hbx⟩); refine hK.out _ _ hbx ?_; clear hK K; replace hBase := below_step hBase hbx)
      iterate 7 (refine plan_read rfl (by rfl) (v := ?_) ?_ ?_; rotate_left 1; (intro W hW; have hW0 := below_step hBase hW; (try dsimp only at hW); go_simp <;> with_reducible rfl); simp only [List.getElem_toArray, List.getElem_cons_zero, List.getElem_cons_succ, Act.put, List.setIfInBounds_toArray, List.set_cons_zero, List.set_cons_succ])
      refine plan_done ?_
      go_wp2_with fail
      go_ret
      exact ⟨rfl, below_step HBB.out hBase⟩
end Go.Proofs.Ytmljhkdojopljaa
/-
  The law CacheRaise, where at most 300 uses were seen: it answers true. No conditions but those typed.
-/
namespace Go.Proofs.Ytmljhkdojopljaa
set_option maxRecDepth 100000
open Go.RowKit
set_option linter.unusedSimpArgs false
set_option linter.unusedVariables false

set_option maxRecDepth 100000 in
set_option maxHeartbeats 8000000 in
theorem cacheraise_small (cr : Int) (fl : Nat) (l : List Us) (g0 g1 g2 : Nat) (a b n c : Nat) (A : Option Addr) (w : World) (HN : Hid (l.length = n)) (hr : RdU w A l) (HF : Hid (fitU l)) (HG : Hid (fitU1 (g0, g1, g2))) (hc : n ≤ c) (hn : n ≤ 300) :
    Calls Try.prog 5 #[aggC cr fl A n c, .agg #[.int .u64 (g0 : Int), .int .u64 (g1 : Int), .int .u64 (g2 : Int)], .int .u64 (a : Int), .int .u64 (b : Int)] w fun e w' => e = .returned (.bool true) ∧ Below w.heap.size w w' := by
  have hRW := fun W hW => right19_any cr fl l n c A W HN (hr.keep hW) HF (by omega)
  unfold aggC at hRW
  have HRW : Hid (∀ W, Below w.heap.size w W → _) := hRW
  clear hRW
  have hC : Row ((w.alloc (.cells #[.int .i64 cr, .int .u64 (fl : Int), .slice A n c] 25)).alloc (.cells #[.int .u64 (g0 : Int), .int .u64 (g1 : Int), .int .u64 (g2 : Int)] 27)) w.heap.size 25 [.int .i64 cr, .int .u64 (fl : Int), .slice A n c] := (Row.new w _ _ _ rfl).alloc _
  have hU : Row ((w.alloc (.cells #[.int .i64 cr, .int .u64 (fl : Int), .slice A n c] 25)).alloc (.cells #[.int .u64 (g0 : Int), .int .u64 (g1 : Int), .int .u64 (g2 : Int)] 27)) (w.heap.size + 1) 27 [.int .u64 (g0 : Int), .int .u64 (g1 : Int), .int .u64 (g2 : Int)] := Row.new_at _ _ (by simp) _ _ _ rfl
  have hB := below_new (below_new (Below.refl _ w) (.cells #[.int .i64 cr, .int .u64 (fl : Int), .slice A n c] 25)) (.cells #[.int .u64 (g0 : Int), .int .u64 (g1 : Int), .int .u64 (g2 : Int)] 27)
  have n0 : ¬ (300 : Int) < (n : Int) := by omega
  unfold aggC
  go_enter Try.func5, Try.ntmps5
  go_upto_region 1 with fail
  generalize (w.alloc (.cells #[.int .i64 cr, .int .u64 (fl : Int), .slice A n c] 25)).alloc (.cells #[.int .u64 (g0 : Int), .int .u64 (g1 : Int), .int .u64 (g2 : Int)] 27) = w1 at hC hU hB ⊢
  obtain ⟨bg, hbgE⟩ : ∃ bg, bg = w.heap.size := ⟨_, rfl⟩
  rw [← hbgE] at hC hU ⊢
  clear hbgE
  have HRD := Lib.hid hr
  clear hr
  go_wp2_with fail
  refine (awake19_any _).mono ?_
  rintro e w2 ⟨rfl, hb2⟩
  replace hC := hC.later hb2
  replace hU := hU.later hb2
  replace hB := below_step hB hb2
  clear hb2
  have k0 := hC.cell (i := 0) rfl
  have k1 := hC.cell (i := 1) rfl
  have k2 := hC.cell (i := 2) rfl
  go_wp2_with fail
  refine (HRW.out _ hB).mono ?_
  clear HRW
  rintro e w3 ⟨rfl, hb3⟩
  replace hC := hC.later hb3
  replace hU := hU.later hb3
  replace hB := below_step hB hb3
  clear hb3
  clear k0 k1 k2 n0
  cases hrt : rightC (cr, fl, l) with
  | false =>
    go_wp2_with fail
    go_ret
    exact ⟨rfl, hB⟩
  | true =>
  have hx := raise_right a hrt
  obtain ⟨⟨⟨r1, f1, l1⟩, q1⟩, hX⟩ : ∃ X, X = raiseC (cr, fl, l) a := ⟨_, rfl⟩
  rw [← hX] at hx
  obtain ⟨hx1, hx2⟩ := hx
  dsimp only at hx1 hx2
  subst hx2
  have hy := raise_right b hx1
  obtain ⟨⟨⟨r2, f2, l2⟩, q2⟩, hY⟩ : ∃ X, X = raiseC (r1, f1, l1) b := ⟨_, rfl⟩
  rw [← hY] at hy
  obtain ⟨hy1, hy2⟩ := hy
  dsimp only at hy1 hy2
  subst hy2
  obtain ⟨M, hM⟩ : ∃ M, M = max a b := ⟨_, rfl⟩
  have hZ : ((r2, f2, l2), (0 : Int)) = raiseC (cr, fl, l) M := by
    rw [hM, hY]
    have := raise_raise a b hrt
    rw [← hX] at this
    exact this
  have hf1 : f1 = max fl a := by
    have := hX
    unfold raiseC at this
    rw [hrt, if_neg (by decide)] at this
    injection this with this _
    injection this with _ this
    injection this with this _
  obtain ⟨⟨⟨r3, f3, l3⟩, q3⟩, hP⟩ : ∃ X, X = putC (cr, fl, l) (g0, g1, g2) := ⟨_, rfl⟩
  have HF1 : Hid (fitU l1) := by
    have := raiseC_fit (c := (cr, fl, l)) a HF.out
    rw [← hX] at this
    exact this
  have HF3 : Hid (fitU l3) := by
    have := putC_fit (c := (cr, fl, l)) (u := (g0, g1, g2)) HF.out HG.out
    rw [← hP] at this
    exact this
  have HL1 : Hid (l1.length ≤ 300) := by
    have h1 := raiseC_len (cr, fl, l) a
    rw [← hX] at h1
    have h2 := HN.out
    dsimp only at h1
    unfold Hid
    omega
  have HL2 : Hid (l2.length ≤ 300) := by
    have h1 := raiseC_len (r1, f1, l1) b
    rw [← hY] at h1
    have h2 := HL1.out
    dsimp only at h1
    unfold Hid
    omega
  have HL3 : Hid (l3.length ≤ 301) := by
    have h1 := putC_len (cr, fl, l) (g0, g1, g2)
    rw [← hP] at h1
    have h2 := HN.out
    dsimp only at h1
    unfold Hid
    omega
  have HPR : Hid (q3 = 0 → a ≤ g2 → ∃ r4 f4 l4, l4.length ≤ 301 ∧ raiseC (r3, f3, l3) a = ((r4, f4, l4), 0) ∧ putC (r1, f1, l1) (g0, g1, g2) = ((r4, f4, l4), 0)) := fun h3 h4 => by
    subst h3
    obtain ⟨⟨r4, f4, l4⟩, h5, h6⟩ := put_raise (u := (g0, g1, g2)) a hrt hP.symm h4
    rw [← hX] at h6
    refine ⟨r4, f4, l4, ?_, h5, h6⟩
    have h7 := raiseC_len (r3, f3, l3) a
    rw [h5] at h7
    have h8 := HL3.out
    dsimp only at h7
    omega
  have HX := Lib.hid hX
  have HY := Lib.hid hY
  have HZ := Lib.hid hZ
  have HP := Lib.hid hP
  have HX1 := Lib.hid hx1
  have hmx : (if a < b then (b : Int) else (a : Int)) = (M : Int) := by rw [hM]; split <;> omega
  have hmx2 : (if fl < a then (a : Int) else (fl : Int)) = (f1 : Int) := by rw [hf1]; split <;> omega
  clear hX hY hZ hP hx1 hy1 hrt hM hf1
  have k0 := hC.cell (i := 0) rfl
  have k1 := hC.cell (i := 1) rfl
  have k2 := hC.cell (i := 2) rfl
  go_wp2_with fail
  refine (show Calls _ _ _ _ (RetC _ (r1, f1, l1) 0) from (by have := (raise19_any cr fl l a n c A _ HN (HRD.out.keep hB) HF (by omega)).mono fun e w' h => h.c; rw [← HX.out] at this; exact this)).mono ?_
  rintro e wa ⟨A5, m5, c5, rfl, HN5, hc5, hr5, hb5⟩
  unfold aggC
  dsimp only at HN5 hr5 ⊢
  replace hC := hC.later hb5
  replace hU := hU.later hb5
  replace hB := below_step hB hb5
  clear hb5
  clear k0 k1 k2
  obtain ⟨hX, hbn⟩ := box_of wa 25 [.int .i64 r1, .int .u64 (f1 : Int), .slice A5 m5 c5] _ rfl
  obtain ⟨b5, hbE⟩ : ∃ b, b = wa.heap.size := ⟨_, rfl⟩
  go_upto_region 6 with fail
  rw [← hbE] at hX ⊢
  clear hbE
  replace hC := hC.later hbn
  replace hU := hU.later hbn
  replace hB := below_step hB hbn
  replace hr5 := hr5.keep hbn
  clear hbn
  generalize wa.alloc (.cells #[.int .i64 r1, .int .u64 (f1 : Int), .slice A5 m5 c5] 25) = wb at hC hU hB hr5 hX ⊢
  have x0 := hX.cell (i := 0) rfl
  have x1 := hX.cell (i := 1) rfl
  have x2 := hX.cell (i := 2) rfl
  go_wp2_with fail
  refine (show Calls _ _ _ _ (RetC _ (r2, f2, l2) 0) from (by have := (raise19_any r1 f1 l1 b m5 c5 A5 _ HN5 hr5 HF1 (by have := HL1.out; have := HN5.out; omega)).mono fun e w' h => h.c; rw [← HY.out] at this; exact this)).mono ?_
  rintro e wc ⟨A6, m6, c6, rfl, HN6, hc6, hr6, hb6⟩
  unfold aggC
  dsimp only at HN6 hr6 ⊢
  replace hC := hC.later hb6
  replace hU := hU.later hb6
  replace hB := below_step hB hb6
  replace hr5 := hr5.keep hb6
  replace hX := hX.later hb6
  clear hb6
  clear x0 x1 x2
  obtain ⟨hY, hbn⟩ := box_of wc 25 [.int .i64 r2, .int .u64 (f2 : Int), .slice A6 m6 c6] _ rfl
  obtain ⟨b6, hbE⟩ : ∃ b, b = wc.heap.size := ⟨_, rfl⟩
  go_upto_region 7 with fail
  rw [← hbE] at hY ⊢
  clear hbE
  replace hC := hC.later hbn
  replace hU := hU.later hbn
  replace hB := below_step hB hbn
  replace hr5 := hr5.keep hbn
  replace hX := hX.later hbn
  replace hr6 := hr6.keep hbn
  clear hbn
  generalize wc.alloc (.cells #[.int .i64 r2, .int .u64 (f2 : Int), .slice A6 m6 c6] 25) = wd at hC hU hB hr5 hX hr6 hY ⊢
  have k0 := hC.cell (i := 0) rfl
  have k1 := hC.cell (i := 1) rfl
  have k2 := hC.cell (i := 2) rfl
  go_wp2_with fail
  refine (show Calls _ _ _ _ (RetC _ (r2, f2, l2) 0) from (by have := (raise19_any cr fl l M n c A _ HN (HRD.out.keep hB) HF (by omega)).mono fun e w' h => h.c; rw [← HZ.out] at this; exact this)).mono ?_
  rintro e we ⟨A7, m7, c7, rfl, HN7, hc7, hr7, hb7⟩
  unfold aggC
  dsimp only at HN7 hr7 ⊢
  replace hC := hC.later hb7
  replace hU := hU.later hb7
  replace hB := below_step hB hb7
  replace hr5 := hr5.keep hb7
  replace hX := hX.later hb7
  replace hr6 := hr6.keep hb7
  replace hY := hY.later hb7
  clear hb7
  clear k0 k1 k2
  obtain ⟨hZ, hbn⟩ := box_of we 25 [.int .i64 r2, .int .u64 (f2 : Int), .slice A7 m7 c7] _ rfl
  obtain ⟨b7, hbE⟩ : ∃ b, b = we.heap.size := ⟨_, rfl⟩
  go_upto_region 8 with fail
  rw [← hbE] at hZ ⊢
  clear hbE
  replace hC := hC.later hbn
  replace hU := hU.later hbn
  replace hB := below_step hB hbn
  replace hr5 := hr5.keep hbn
  replace hX := hX.later hbn
  replace hr6 := hr6.keep hbn
  replace hY := hY.later hbn
  replace hr7 := hr7.keep hbn
  clear hbn
  generalize we.alloc (.cells #[.int .i64 r2, .int .u64 (f2 : Int), .slice A7 m7 c7] 25) = wf at hC hU hB hr5 hX hr6 hY hr7 hZ ⊢
  have y0 := hY.cell (i := 0) rfl
  have y1 := hY.cell (i := 1) rfl
  have y2 := hY.cell (i := 2) rfl
  have z0 := hZ.cell (i := 0) rfl
  have z1 := hZ.cell (i := 1) rfl
  have z2 := hZ.cell (i := 2) rfl
  go_wp2_with fail
  refine (same19_any r2 r2 f2 f2 l2 l2 m6 m7 c6 c7 A6 A7 _ HN6 HN7 hr6 hr7 (by have := HL2.out; have := HN6.out; omega)).mono ?_
  rw [decide_eq_true (rfl : (r2, f2, l2) = (r2, f2, l2))]
  rintro e wg ⟨rfl, hbg⟩
  replace hC := hC.later hbg
  replace hU := hU.later hbg
  replace hB := below_step hB hbg
  replace hr5 := hr5.keep hbg
  replace hX := hX.later hbg
  clear hbg
  clear y0 y1 y2 z0 z1 z2 hr6 hr7 hY hZ
  have x0 := hX.cell (i := 0) rfl
  have x1 := hX.cell (i := 1) rfl
  have x2 := hX.cell (i := 2) rfl
  go_wp2_with fail
  refine (right19_any r1 f1 l1 m5 c5 A5 _ HN5 hr5 HF1 (by have := HL1.out; have := HN5.out; omega)).mono ?_
  rw [HX1.out]
  rintro e wh ⟨rfl, hbh⟩
  replace hC := hC.later hbh
  replace hU := hU.later hbh
  replace hB := below_step hB hbh
  replace hr5 := hr5.keep hbh
  replace hX := hX.later hbh
  clear hbh
  clear x0 x1 x2
  have k1 := hC.cell (i := 1) rfl
  have x1 := hX.cell (i := 1) rfl
  go_upto_region 10 with fail
  clear k1 x1
  have k0 := hC.cell (i := 0) rfl
  have k1 := hC.cell (i := 1) rfl
  have k2 := hC.cell (i := 2) rfl
  have u0 := hU.cell (i := 0) rfl
  have u1 := hU.cell (i := 1) rfl
  have u2 := hU.cell (i := 2) rfl
  go_wp2_with fail
  refine (show Calls _ _ _ _ (RetC _ (r3, f3, l3) q3) from (by have := (put19_any cr fl l g0 g1 g2 n c A _ HN (HRD.out.keep hB) HF HG (by omega)).mono fun e w' h => h.c; rw [← HP.out] at this; exact this)).mono ?_
  rintro e wi ⟨A8, m8, c8, rfl, HN8, hc8, hr8, hb8⟩
  unfold aggC
  dsimp only at HN8 hr8 ⊢
  replace hC := hC.later hb8
  replace hU := hU.later hb8
  replace hB := below_step hB hb8
  replace hr5 := hr5.keep hb8
  replace hX := hX.later hb8
  clear hb8
  clear k0 k1 k2 u0 u1 u2
  obtain ⟨hQ, hbn⟩ := box_of wi 25 [.int .i64 r3, .int .u64 (f3 : Int), .slice A8 m8 c8] _ rfl
  obtain ⟨b8, hbE⟩ : ∃ b, b = wi.heap.size := ⟨_, rfl⟩
  go_upto_region 11 with fail
  rw [← hbE] at hQ ⊢
  clear hbE
  replace hC := hC.later hbn
  replace hU := hU.later hbn
  replace hB := below_step hB hbn
  replace hr5 := hr5.keep hbn
  replace hX := hX.later hbn
  replace hr8 := hr8.keep hbn
  clear hbn
  generalize wi.alloc (.cells #[.int .i64 r3, .int .u64 (f3 : Int), .slice A8 m8 c8] 25) = wj at hC hU hB hr5 hX hr8 hQ ⊢
  by_cases hq3 : q3 = 0
  rotate_left 1
  · go_wp2_with fail
    go_ret
    exact ⟨rfl, hB⟩
  subst hq3
  have u2 := hU.cell (i := 2) rfl
  by_cases ha : g2 < a
  · go_wp2_with fail
    go_ret
    exact ⟨rfl, hB⟩
  obtain ⟨r4, f4, l4, hl4, hE1, hE2⟩ := HPR.out rfl (by omega)
  have HL4 := Lib.hid hl4
  have HE1 := Lib.hid hE1.symm
  have HE2 := Lib.hid hE2.symm
  clear hl4 hE1 hE2 HPR
  go_upto_region 13 with fail
  clear u2 ha
  have q0 := hQ.cell (i := 0) rfl
  have q1 := hQ.cell (i := 1) rfl
  have q2 := hQ.cell (i := 2) rfl
  go_wp2_with fail
  refine (show Calls _ _ _ _ (RetC _ (r4, f4, l4) 0) from (by have := (raise19_any r3 f3 l3 a m8 c8 A8 _ HN8 hr8 HF3 (by have := HL3.out; have := HN8.out; omega)).mono fun e w' h => h.c; rw [← HE1.out] at this; exact this)).mono ?_
  rintro e wk ⟨A9, m9, c9, rfl, HN9, hc9, hr9, hb9⟩
  unfold aggC
  dsimp only at HN9 hr9 ⊢
  replace hC := hC.later hb9
  replace hU := hU.later hb9
  replace hB := below_step hB hb9
  replace hr5 := hr5.keep hb9
  replace hX := hX.later hb9
  replace hr8 := hr8.keep hb9
  replace hQ := hQ.later hb9
  clear hb9
  clear q0 q1 q2
  obtain ⟨hV, hbn⟩ := box_of wk 25 [.int .i64 r4, .int .u64 (f4 : Int), .slice A9 m9 c9] _ rfl
  obtain ⟨b9, hbE⟩ : ∃ b, b = wk.heap.size := ⟨_, rfl⟩
  go_upto_region 14 with fail
  rw [← hbE] at hV ⊢
  clear hbE
  replace hC := hC.later hbn
  replace hU := hU.later hbn
  replace hB := below_step hB hbn
  replace hr5 := hr5.keep hbn
  replace hX := hX.later hbn
  replace hr8 := hr8.keep hbn
  replace hQ := hQ.later hbn
  replace hr9 := hr9.keep hbn
  clear hbn
  generalize wk.alloc (.cells #[.int .i64 r4, .int .u64 (f4 : Int), .slice A9 m9 c9] 25) = wl at hC hU hB hr5 hX hr8 hQ hr9 hV ⊢
  have x0 := hX.cell (i := 0) rfl
  have x1 := hX.cell (i := 1) rfl
  have x2 := hX.cell (i := 2) rfl
  have u0 := hU.cell (i := 0) rfl
  have u1 := hU.cell (i := 1) rfl
  have u2 := hU.cell (i := 2) rfl
  go_wp2_with fail
  refine (show Calls _ _ _ _ (RetC _ (r4, f4, l4) 0) from (by have := (put19_any r1 f1 l1 g0 g1 g2 m5 c5 A5 _ HN5 hr5 HF1 HG (by have := HL1.out; have := HN5.out; omega)).mono fun e w' h => h.c; rw [← HE2.out] at this; exact this)).mono ?_
  rintro e wm ⟨A10, m10, c10, rfl, HN10, hc10, hr10, hb10⟩
  unfold aggC
  dsimp only at HN10 hr10 ⊢
  replace hC := hC.later hb10
  replace hU := hU.later hb10
  replace hB := below_step hB hb10
  replace hr5 := hr5.keep hb10
  replace hX := hX.later hb10
  replace hr8 := hr8.keep hb10
  replace hQ := hQ.later hb10
  replace hr9 := hr9.keep hb10
  replace hV := hV.later hb10
  clear hb10
  clear x0 x1 x2 u0 u1 u2
  obtain ⟨hT, hbn⟩ := box_of wm 25 [.int .i64 r4, .int .u64 (f4 : Int), .slice A10 m10 c10] _ rfl
  obtain ⟨b10, hbE⟩ : ∃ b, b = wm.heap.size := ⟨_, rfl⟩
  go_upto_region 15 with fail
  rw [← hbE] at hT ⊢
  clear hbE
  replace hC := hC.later hbn
  replace hU := hU.later hbn
  replace hB := below_step hB hbn
  replace hr5 := hr5.keep hbn
  replace hX := hX.later hbn
  replace hr8 := hr8.keep hbn
  replace hQ := hQ.later hbn
  replace hr9 := hr9.keep hbn
  replace hV := hV.later hbn
  replace hr10 := hr10.keep hbn
  clear hbn
  generalize wm.alloc (.cells #[.int .i64 r4, .int .u64 (f4 : Int), .slice A10 m10 c10] 25) = wn at hC hU hB hr5 hX hr8 hQ hr9 hV hr10 hT ⊢
  have v0 := hV.cell (i := 0) rfl
  have v1 := hV.cell (i := 1) rfl
  have v2 := hV.cell (i := 2) rfl
  have t0 := hT.cell (i := 0) rfl
  have t1 := hT.cell (i := 1) rfl
  have t2 := hT.cell (i := 2) rfl
  go_wp2_with fail
  refine (same19_any r4 r4 f4 f4 l4 l4 m9 m10 c9 c10 A9 A10 _ HN9 HN10 hr9 hr10 (by have := HL4.out; have := HN9.out; omega)).mono ?_
  rw [decide_eq_true (rfl : (r4, f4, l4) = (r4, f4, l4))]
  rintro e wz ⟨rfl, hbz⟩
  have hBz := below_step hB hbz
  clear v0 v1 v2 t0 t1 t2
  go_wp2_with fail
  go_ret
  exact ⟨rfl, hBz⟩
end Go.Proofs.Ytmljhkdojopljaa
/-
  The laws CacheRight and CacheRaise, at whatever comes in: each answers true, and writes nothing that was there. No conditions.
-/
namespace Go.Proofs.Ytmljhkdojopljaa
set_option maxRecDepth 100000
open Go.RowKit Go.Deep Go.WideShapes Go.ChangeShapes
set_option linter.unusedSimpArgs false
set_option linter.unusedVariables false

set_option maxRecDepth 100000 in
theorem cacheright_big (cr : Int) (fl : Nat) (g0 g1 g2 : Nat) (room : Int) (flo n c : Nat) (A : Option Addr) (w : World) (h : ¬ n ≤ 300) (hn : n ≤ 9223372036854775807) :
    Calls Try.prog 3 #[aggC cr fl A n c, .agg #[.int .u64 (g0 : Int), .int .u64 (g1 : Int), .int .u64 (g2 : Int)], .int .i64 room, .int .u64 (flo : Int)] w fun e w' => e = .returned (.bool true) ∧ Below w.heap.size w w' := by
  have hC : Row ((w.alloc (.cells #[.int .i64 cr, .int .u64 (fl : Int), .slice A n c] 25)).alloc (.cells #[.int .u64 (g0 : Int), .int .u64 (g1 : Int), .int .u64 (g2 : Int)] 27)) w.heap.size 25 [.int .i64 cr, .int .u64 (fl : Int), .slice A n c] := (Row.new w _ _ _ rfl).alloc _
  have hB := below_new (below_new (Below.refl _ w) (.cells #[.int .i64 cr, .int .u64 (fl : Int), .slice A n c] 25)) (.cells #[.int .u64 (g0 : Int), .int .u64 (g1 : Int), .int .u64 (g2 : Int)] 27)
  have n0 : (300 : Int) < (n : Int) := by omega
  unfold aggC
  go_enter Try.func3, Try.ntmps3
  go_upto_region 1 with fail
  generalize (w.alloc (.cells #[.int .i64 cr, .int .u64 (fl : Int), .slice A n c] 25)).alloc (.cells #[.int .u64 (g0 : Int), .int .u64 (g1 : Int), .int .u64 (g2 : Int)] 27) = w1 at hC hB ⊢
  go_wp2_with fail
  refine (awake19_any _).mono ?_
  rintro e w2 ⟨rfl, hb2⟩
  replace hC := hC.later hb2
  replace hB := below_step hB hb2
  have k2 := hC.cell (i := 2) rfl
  clear hb2
  go_wp2_with fail
  go_ret
  exact ⟨rfl, hB⟩
theorem cacheright_any (v0 v1 v2 v3 : Value) (W : World) {H : Type} {enc : TypeId × Value → H} {base : Nat} {d0 d1 d2 d3 : DataW H} {p0 p1 p2 p3 : List MemPlace}
    (hv0 : Value.okWide Try.prog W .any base 25 v0) (ht0 : DataW.Trod enc Try.prog W 0 (fun _ => true) true 25 v0 d0 p0) (hv1 : Value.okWide Try.prog W .any base 27 v1) (ht1 : DataW.Trod enc Try.prog W 0 (fun _ => true) true 27 v1 d1 p1) (hv2 : Value.okWide Try.prog W .any base 3 v2) (ht2 : DataW.Trod enc Try.prog W 0 (fun _ => true) true 3 v2 d2 p2) (hv3 : Value.okWide Try.prog W .any base 22 v3) (ht3 : DataW.Trod enc Try.prog W 0 (fun _ => true) true 22 v3 d3 p3) :
    Calls Try.prog 3 #[v0, v1, v2, v3] W fun e w' => e = .returned (.bool true) ∧ Below W.heap.size W w' := by
  obtain ⟨cr, fl, l, A, c, rfl, hc, hcm, hr, hf, hfl⟩ := open_cache hv0 ht0
  obtain ⟨⟨g0, g1, g2⟩, rfl, hg⟩ := open_use hv1 ht1
  obtain ⟨room, rfl⟩ := open_int19 hv2 ht2
  obtain ⟨flo, rfl, _⟩ := open_num hv3 ht3
  by_cases h : l.length ≤ 300
  · exact cacheright_small cr fl l g0 g1 g2 room flo _ c A W (Lib.hid rfl) hr hf hg hc h
  · exact cacheright_big cr fl g0 g1 g2 room flo _ c A W h (by omega)

set_option maxRecDepth 100000 in
theorem cacheraise_big (cr : Int) (fl : Nat) (g0 g1 g2 : Nat) (a b n c : Nat) (A : Option Addr) (w : World) (h : ¬ n ≤ 300) (hn : n ≤ 9223372036854775807) :
    Calls Try.prog 5 #[aggC cr fl A n c, .agg #[.int .u64 (g0 : Int), .int .u64 (g1 : Int), .int .u64 (g2 : Int)], .int .u64 (a : Int), .int .u64 (b : Int)] w fun e w' => e = .returned (.bool true) ∧ Below w.heap.size w w' := by
  have hC : Row ((w.alloc (.cells #[.int .i64 cr, .int .u64 (fl : Int), .slice A n c] 25)).alloc (.cells #[.int .u64 (g0 : Int), .int .u64 (g1 : Int), .int .u64 (g2 : Int)] 27)) w.heap.size 25 [.int .i64 cr, .int .u64 (fl : Int), .slice A n c] := (Row.new w _ _ _ rfl).alloc _
  have hB := below_new (below_new (Below.refl _ w) (.cells #[.int .i64 cr, .int .u64 (fl : Int), .slice A n c] 25)) (.cells #[.int .u64 (g0 : Int), .int .u64 (g1 : Int), .int .u64 (g2 : Int)] 27)
  have n0 : (300 : Int) < (n : Int) := by omega
  unfold aggC
  go_enter Try.func5, Try.ntmps5
  go_upto_region 1 with fail
  generalize (w.alloc (.cells #[.int .i64 cr, .int .u64 (fl : Int), .slice A n c] 25)).alloc (.cells #[.int .u64 (g0 : Int), .int .u64 (g1 : Int), .int .u64 (g2 : Int)] 27) = w1 at hC hB ⊢
  go_wp2_with fail
  refine (awake19_any _).mono ?_
  rintro e w2 ⟨rfl, hb2⟩
  replace hC := hC.later hb2
  replace hB := below_step hB hb2
  have k2 := hC.cell (i := 2) rfl
  clear hb2
  go_wp2_with fail
  go_ret
  exact ⟨rfl, hB⟩
theorem cacheraise_any (v0 v1 v2 v3 : Value) (W : World) {H : Type} {enc : TypeId × Value → H} {base : Nat} {d0 d1 d2 d3 : DataW H} {p0 p1 p2 p3 : List MemPlace}
    (hv0 : Value.okWide Try.prog W .any base 25 v0) (ht0 : DataW.Trod enc Try.prog W 0 (fun _ => true) true 25 v0 d0 p0) (hv1 : Value.okWide Try.prog W .any base 27 v1) (ht1 : DataW.Trod enc Try.prog W 0 (fun _ => true) true 27 v1 d1 p1) (hv2 : Value.okWide Try.prog W .any base 22 v2) (ht2 : DataW.Trod enc Try.prog W 0 (fun _ => true) true 22 v2 d2 p2) (hv3 : Value.okWide Try.prog W .any base 22 v3) (ht3 : DataW.Trod enc Try.prog W 0 (fun _ => true) true 22 v3 d3 p3) :
    Calls Try.prog 5 #[v0, v1, v2, v3] W fun e w' => e = .returned (.bool true) ∧ Below W.heap.size W w' := by
  obtain ⟨cr, fl, l, A, c, rfl, hc, hcm, hr, hf, hfl⟩ := open_cache hv0 ht0
  obtain ⟨⟨g0, g1, g2⟩, rfl, hg⟩ := open_use hv1 ht1
  obtain ⟨a, rfl, _⟩ := open_num hv2 ht2
  obtain ⟨b, rfl, _⟩ := open_num hv3 ht3
  by_cases h : l.length ≤ 300
  · exact cacheraise_small cr fl l g0 g1 g2 a b _ c A W (Lib.hid rfl) hr hf hg hc h
  · exact cacheraise_big cr fl g0 g1 g2 a b _ c A W h (by omega)
end Go.Proofs.Ytmljhkdojopljaa
