/-
  What the call awake of layer 19's statements answers: true. No conditions.
-/
import Derived.Test.YtmljhkdojopljaaO3
import Derived.ProofKit
import Derived.OpenShut
import Derived.Deep.Slices
import Derived.Deep.Strs
import Derived.LoopN
namespace Go.Proofs.Ytmljhkdojopljaa
set_option maxRecDepth 100000
open Go.RowKit
set_option linter.unusedSimpArgs false
set_option linter.unusedVariables false

theorem aw19_p1 : putC (2, 0, []) (3, 1, 10) = ((2, 0, [(3, 1, 10)]), 0) := by decide +kernel
theorem aw19_p2 : putC (2, 0, [(3, 1, 10)]) (3, 1, 10) = ((2, 0, [(3, 1, 10)]), 11) := by decide +kernel
theorem aw19_r1 : raiseC (2, 0, [(3, 1, 10)]) 11 = ((2, 11, []), 0) := by decide +kernel
theorem aw19_p3 : putC (2, 11, []) (3, 1, 10) = ((2, 11, []), 10) := by decide +kernel
theorem aw19_p4 : putC (2, 0, [(3, 1, 10)]) (0, 0, 1) = ((2, 0, [(0, 0, 1), (3, 1, 10)]), 0) := by decide +kernel
theorem aw19_p5 : putC (2, 0, [(0, 0, 1), (3, 1, 10)]) (0, 0, 2) = ((2, 0, [(0, 0, 1), (3, 1, 10)]), 12) := by decide +kernel
theorem aw19_h : hasU [(0, 0, 1), (3, 1, 10)] (3, 1, 10) = true := by decide +kernel
theorem aw19_r : rightC (2, 0, [(0, 0, 1), (3, 1, 10)]) = true := by decide +kernel
theorem fitU_nil : fitU [] := fun x hx => by cases hx
theorem fitU_one {g : Us} (h : fitU1 g) : fitU [g] := fun x hx => by
  rw [List.mem_singleton] at hx
  rw [hx]
  exact h
theorem RdU.set_other {w : World} {A : Option Addr} {l : List Us} (h : RdU w A l) (g : Nat) (cs : Array Value) (hA : ∀ a, A = some a → a.block ≠ g) : RdU (w.setRow g cs) A l := h.only ((Only.refl g w).setRow cs) (fun _ => hA)

set_option maxRecDepth 100000 in
set_option maxHeartbeats 4000000 in
theorem awake19_any (w : World) : Calls Try.prog 9 #[] w fun e w' => e = .returned (.bool true) ∧ Below w.heap.size w w' := by
  obtain ⟨hU, hB⟩ := box_of w 27 [.int .u64 3, .int .u64 1, .int .u64 10] _ rfl
  go_enter Try.func9, Try.ntmps9
  go_upto_region 2 with fail
  generalize w.alloc (.cells #[.int .u64 3, .int .u64 1, .int .u64 10] 27) = w1 at hU hB ⊢
  go_wp2_with fail
  refine (new19_any 2 w1).mono ?_
  rw [if_pos (by omega), if_pos (by omega)]
  rintro e w2 ⟨A2, m2, c2, rfl, HN2, hc2, hr2, hf2, hb2⟩
  obtain rfl : m2 = 0 := HN2.out.symm
  unfold aggC
  dsimp only at hr2 ⊢
  replace hU := hU.later hb2
  replace hB := below_step hB hb2
  clear hb2
  have hbcwz := hU.lt
  obtain ⟨hC, hbn⟩ := box_of w2 25 [.int .i64 2, .int .u64 0, .slice A2 0 c2] _ rfl
  go_upto_region 3 with fail
  replace hU := hU.later hbn
  replace hB := below_step hB hbn
  replace hr2 := hr2.keep hbn
  generalize w2.alloc (.cells #[.int .i64 2, .int .u64 0, .slice A2 0 c2] 25) = w3 at hU hB hr2 hC hbn ⊢
  have hbcw0 : w.heap.size < w2.heap.size := hbcwz
  clear hbn hf2 hc2
  obtain ⟨bc, hbc⟩ : ∃ b, b = w2.heap.size := ⟨_, rfl⟩
  have hbcw : w.heap.size < bc := by rw [hbc]; exact hbcw0
  rw [← hbc] at hC ⊢
  clear hbc hbcw0
  have u0 := hU.cell (i := 0) rfl
  have u1 := hU.cell (i := 1) rfl
  have u2 := hU.cell (i := 2) rfl
  have k0 := hC.cell (i := 0) rfl
  have k1 := hC.cell (i := 1) rfl
  have k2 := hC.cell (i := 2) rfl
  go_wp2_with fail
  have hcl := hC.lt
  refine (put19_any 2 0 [] 3 1 10 0 c2 A2 w3 (Lib.hid rfl) hr2 fitU_nil (by unfold Hid; decide) (by omega)).mono ?_
  rw [aw19_p1]
  rintro e w4 ⟨A4, m4, c4, rfl, HN4, hc4, hr4, hf4, hb4⟩
  obtain rfl : m4 = 1 := HN4.out.symm
  unfold aggC
  dsimp only at hr4 ⊢
  replace hU := hU.later hb4
  replace hB := below_step hB hb4
  replace hC := hC.later hb4
  clear hb4
  clear u0 u1 u2 k0 k1 k2 hr2
  go_upto_region 4 with (refine wpList_store_row rfl 25 (.tmp 2) (.tmp 23) rfl bc rfl [.int .i64 2, .int .u64 0, .slice A4 1 c4] rfl _ _ hC (by exact size_cache) rfl (one_cache 2 0 A4 1 c4) ?_)
  have hne : ∀ a, A4 = some a → a.block ≠ bc := fun a ha => by
    have := hf4 a ha
    omega
  replace hr4 := hr4.set_other bc #[.int .i64 2, .int .u64 0, .slice A4 1 c4] hne
  replace hU := hU.setRow_other (show w.heap.size ≠ bc by omega) #[.int .i64 2, .int .u64 0, .slice A4 1 c4]
  replace hB := below_setRow hB (show w.heap.size ≤ bc by omega) #[.int .i64 2, .int .u64 0, .slice A4 1 c4]
  replace hC := hC.setRow [.int .i64 2, .int .u64 0, .slice A4 1 c4]
  clear hne hf4 hcl
  generalize w4.setRow bc #[.int .i64 2, .int .u64 0, .slice A4 1 c4] = w5 at hU hB hC hr4 ⊢
  have u0 := hU.cell (i := 0) rfl
  have u1 := hU.cell (i := 1) rfl
  have u2 := hU.cell (i := 2) rfl
  have k0 := hC.cell (i := 0) rfl
  have k1 := hC.cell (i := 1) rfl
  have k2 := hC.cell (i := 2) rfl
  go_wp2_with fail
  refine (put19_any 2 0 [(3, 1, 10)] 3 1 10 1 c4 A4 w5 (Lib.hid rfl) hr4 (fitU_one (by decide)) (by unfold Hid; decide) (by omega)).mono ?_
  rw [aw19_p2]
  rintro e w6 ⟨A6, m6, c6, rfl, HN6, hc6, hr6, hf6, hb6⟩
  obtain rfl : m6 = 1 := HN6.out.symm
  unfold aggC
  dsimp only at hr6 ⊢
  replace hU := hU.later hb6
  replace hB := below_step hB hb6
  replace hC := hC.later hb6
  replace hr4 := hr4.keep hb6
  clear hb6
  clear u0 u1 u2 k0 k1 k2 hr6 hf6 hc6 HN6
  obtain ⟨_, hbn⟩ := box_of w6 25 [.int .i64 2, .int .u64 0, .slice A6 1 c6] _ rfl
  go_upto_region 5 with fail
  replace hU := hU.later hbn
  replace hB := below_step hB hbn
  replace hC := hC.later hbn
  replace hr4 := hr4.keep hbn
  clear hbn
  generalize w6.alloc (.cells #[.int .i64 2, .int .u64 0, .slice A6 1 c6] 25) = w7 at hU hB hC hr4 ⊢
  have k0 := hC.cell (i := 0) rfl
  have k1 := hC.cell (i := 1) rfl
  have k2 := hC.cell (i := 2) rfl
  go_wp2_with fail
  refine (raise19_any 2 0 [(3, 1, 10)] 11 1 c4 A4 w7 (Lib.hid rfl) hr4 (fitU_one (by decide)) (by omega)).mono ?_
  rw [aw19_r1]
  rintro e w8 ⟨A8, m8, c8, rfl, HN8, hc8, hr8, hf8, hb8⟩
  obtain rfl : m8 = 0 := HN8.out.symm
  unfold aggC
  dsimp only at hr8 ⊢
  replace hU := hU.later hb8
  replace hB := below_step hB hb8
  replace hC := hC.later hb8
  replace hr4 := hr4.keep hb8
  clear hb8
  clear k0 k1 k2 hf8 hc8 HN8
  obtain ⟨hD, hbn⟩ := box_of w8 25 [.int .i64 2, .int .u64 11, .slice A8 0 c8] _ rfl
  obtain ⟨bd, hbd⟩ : ∃ b, b = w8.heap.size := ⟨_, rfl⟩
  have hbcd : bc < bd := by rw [hbd]; exact hC.lt
  go_upto_region 6 with fail
  rw [← hbd] at hD ⊢
  clear hbd
  replace hU := hU.later hbn
  replace hB := below_step hB hbn
  replace hC := hC.later hbn
  replace hr4 := hr4.keep hbn
  replace hr8 := hr8.keep hbn
  clear hbn
  generalize w8.alloc (.cells #[.int .i64 2, .int .u64 11, .slice A8 0 c8] 25) = w9 at hU hB hC hr4 hr8 hD ⊢
  have u0 := hU.cell (i := 0) rfl
  have u1 := hU.cell (i := 1) rfl
  have u2 := hU.cell (i := 2) rfl
  have e0 := hD.cell (i := 0) rfl
  have e1 := hD.cell (i := 1) rfl
  have e2 := hD.cell (i := 2) rfl
  go_wp2_with fail
  refine (put19_any 2 11 [] 3 1 10 0 c8 A8 w9 (Lib.hid rfl) hr8 fitU_nil (by unfold Hid; decide) (by omega)).mono ?_
  rw [aw19_p3]
  rintro e w10 ⟨A10, m10, c10, rfl, HN10, hc10, hr10, hf10, hb10⟩
  obtain rfl : m10 = 0 := HN10.out.symm
  unfold aggC
  dsimp only at hr10 ⊢
  replace hU := hU.later hb10
  replace hB := below_step hB hb10
  replace hC := hC.later hb10
  replace hr4 := hr4.keep hb10
  replace hD := hD.later hb10
  clear hb10
  clear u0 u1 u2 e0 e1 e2 hr10 hf10 hc10 HN10 hr8
  obtain ⟨_, hbn⟩ := box_of w10 25 [.int .i64 2, .int .u64 11, .slice A10 0 c10] _ rfl
  go_upto_region 7 with fail
  replace hU := hU.later hbn
  replace hB := below_step hB hbn
  replace hC := hC.later hbn
  replace hr4 := hr4.keep hbn
  replace hD := hD.later hbn
  clear hbn
  generalize w10.alloc (.cells #[.int .i64 2, .int .u64 11, .slice A10 0 c10] 25) = w11 at hU hB hC hr4 hD ⊢
  have hcl := hC.lt
  have k0 := hC.cell (i := 0) rfl
  have k1 := hC.cell (i := 1) rfl
  have k2 := hC.cell (i := 2) rfl
  go_wp2_with fail
  refine (put19_any 2 0 [(3, 1, 10)] 0 0 1 1 c4 A4 w11 (Lib.hid rfl) hr4 (fitU_one (by decide)) (by unfold Hid; decide) (by omega)).mono ?_
  rw [aw19_p4]
  rintro e w12 ⟨A12, m12, c12, rfl, HN12, hc12, hr12, hf12, hb12⟩
  obtain rfl : m12 = 2 := HN12.out.symm
  unfold aggC
  dsimp only at hr12 ⊢
  replace hU := hU.later hb12
  replace hB := below_step hB hb12
  replace hC := hC.later hb12
  replace hD := hD.later hb12
  clear hb12
  clear k0 k1 k2 hr4
  go_upto_region 8 with (refine wpList_store_row rfl 25 (.tmp 2) (.tmp 46) rfl bc rfl [.int .i64 2, .int .u64 0, .slice A12 2 c12] rfl _ _ hC (by exact size_cache) rfl (one_cache 2 0 A12 2 c12) ?_)
  have hne : ∀ a, A12 = some a → a.block ≠ bc := fun a ha => by
    have := hf12 a ha
    omega
  replace hr12 := hr12.set_other bc #[.int .i64 2, .int .u64 0, .slice A12 2 c12] hne
  replace hU := hU.setRow_other (show w.heap.size ≠ bc by omega) #[.int .i64 2, .int .u64 0, .slice A12 2 c12]
  replace hB := below_setRow hB (show w.heap.size ≤ bc by omega) #[.int .i64 2, .int .u64 0, .slice A12 2 c12]
  replace hD := hD.setRow_other (show bd ≠ bc by omega) #[.int .i64 2, .int .u64 0, .slice A12 2 c12]
  replace hC := hC.setRow [.int .i64 2, .int .u64 0, .slice A12 2 c12]
  clear hne hf12 hcl
  generalize w12.setRow bc #[.int .i64 2, .int .u64 0, .slice A12 2 c12] = w13 at hU hB hC hD hr12 ⊢
  have k0 := hC.cell (i := 0) rfl
  have k1 := hC.cell (i := 1) rfl
  have k2 := hC.cell (i := 2) rfl
  go_wp2_with fail
  have HF2 : Hid (fitU [(0, 0, 1), (3, 1, 10)]) := by
    intro x hx
    simp only [List.mem_cons, List.not_mem_nil, or_false] at hx
    rcases hx with rfl | rfl <;> decide
  refine (put19_any 2 0 [(0, 0, 1), (3, 1, 10)] 0 0 2 2 c12 A12 w13 (Lib.hid rfl) hr12 HF2 (by unfold Hid; decide) (by omega)).mono ?_
  rw [aw19_p5]
  rintro e w14 ⟨A14, m14, c14, rfl, HN14, hc14, hr14, hf14, hb14⟩
  obtain rfl : m14 = 2 := HN14.out.symm
  unfold aggC
  dsimp only at hr14 ⊢
  replace hU := hU.later hb14
  replace hB := below_step hB hb14
  replace hC := hC.later hb14
  replace hD := hD.later hb14
  replace hr12 := hr12.keep hb14
  clear hb14
  clear k0 k1 k2 hr14 hf14 hc14 HN14
  obtain ⟨_, hbn⟩ := box_of w14 25 [.int .i64 2, .int .u64 0, .slice A14 2 c14] _ rfl
  go_upto_region 9 with fail
  replace hU := hU.later hbn
  replace hB := below_step hB hbn
  replace hC := hC.later hbn
  replace hD := hD.later hbn
  replace hr12 := hr12.keep hbn
  clear hbn
  generalize w14.alloc (.cells #[.int .i64 2, .int .u64 0, .slice A14 2 c14] 25) = wz at hU hB hC hD hr12 ⊢
  have HR := Lib.hid hr12
  obtain ⟨b, o, rfl, hb, _, p0, p1, p2⟩ := hr12.pair (k := 1) (by simp)
  have HB := Lib.hid hB
  have d0 : ∀ W, Below wz.heap.size wz W → W.cell? ⟨bc, 0, none⟩ = some (.int .i64 2) := fun W hW => (hC.later hW).cell rfl
  have d1 : ∀ W, Below wz.heap.size wz W → W.cell? ⟨bc, 1, none⟩ = some (.int .u64 0) := fun W hW => (hC.later hW).cell rfl
  have d2 : ∀ W, Below wz.heap.size wz W → W.cell? ⟨bc, 2, none⟩ = some (.slice (some ⟨b, o, none⟩) 2 c12) := fun W hW => (hC.later hW).cell rfl
  have d3 : ∀ W, Below wz.heap.size wz W → W.cell? ⟨bd, 1, none⟩ = some (.int .u64 11) := fun W hW => (hD.later hW).cell rfl
  have d4 : ∀ W, Below wz.heap.size wz W → W.cell? ⟨bd, 2, none⟩ = some (.slice A8 0 c8) := fun W hW => (hD.later hW).cell rfl
  have d5 : ∀ W, Below wz.heap.size wz W → W.cell? ⟨w.heap.size, 0, none⟩ = some (.int .u64 3) := fun W hW => (hU.later hW).cell rfl
  have d6 : ∀ W, Below wz.heap.size wz W → W.cell? ⟨w.heap.size, 1, none⟩ = some (.int .u64 1) := fun W hW => (hU.later hW).cell rfl
  have d7 : ∀ W, Below wz.heap.size wz W → W.cell? ⟨w.heap.size, 2, none⟩ = some (.int .u64 10) := fun W hW => (hU.later hW).cell rfl
  have d8 : ∀ W, Below wz.heap.size wz W → W.cell? ⟨b, o + 3, none⟩ = some (.int .u64 3) := fun W hW => (hW.cell (p := ⟨b, o + 3, none⟩) hb).trans p0
  have d9 : ∀ W, Below wz.heap.size wz W → W.cell? ⟨b, o + 3 + 1, none⟩ = some (.int .u64 1) := fun W hW => (hW.cell (p := ⟨b, o + 3 + 1, none⟩) hb).trans p1
  have d10 : ∀ W, Below wz.heap.size wz W → W.cell? ⟨b, o + 3 + 2, none⟩ = some (.int .u64 10) := fun W hW => (hW.cell (p := ⟨b, o + 3 + 2, none⟩) hb).trans p2
  have hq : ∀ W, (binOp .eql 27 (.agg #[.int .u64 3, .int .u64 1, .int .u64 10]) (.agg #[.int .u64 3, .int .u64 1, .int .u64 10])).run Try.prog W = .ok (.bool true) W := fun W => by
    have := eq_use 3 1 10 3 1 10 W
    simpa using this
  have hgd := fun op x y xs ys W => guard_use op x y xs ys W
  clear hU hB hC hD p0 p1 p2 hr12
  go_wp2_with fail
  have hBase := (Below.refl wz.heap.size wz).drew
  refine wp_region_plan (.step 0 false (.step 1 false (.step 2 false (.step 3 false (.step 4 false (.step 5 false (.step 6 false (.step 7 false (.step 8 false (.step 9 false (.step 10 false (.step 11 false (.step 12 false (.step 13 false (.step 14 false (.step 15 false (.step 16 false (.step 17 false (.step 18 false (.step 19 false (.step 20 false (.step 21 false (.step 22 false (.step 23 false (.step 24 false (.step 25 false (.step 26 false (.step 27 false (.step 28 false (.step 29 false (.step 30 false (.step 31 false (.step 32 false (.step 33 false (.step 34 false (.step 35 false (.step 36 false (.step 37 false (.step 38 false (.step 39 false (.step 40 false (.step 41 false (.step 42 false (.step 43 false (.step 44 false (.step 45 false (.step 46 false (.step 47 false (.step 48 false (.step 49 false (.step 50 false (.step 51 false (.step 52 false (.step 53 false (.step 54 true (.step 55 false (.step 56 false (.step 57 false (.step 58 true (.step 59 false (.step 60 false (.nil)))))))))))))))))))))))))))))))))))))))))))))))))))))))))))))) (by kernel_rfl) (by kernel_rfl) (by rfl) (by kernel_rfl) ?_
  iterate 54 (refine plan_read rfl (by rfl) (v := ?_) ?_ ?_; rotate_left 1; (intro W hW; have hW0 := below_step hBase hW; (try dsimp only at hW); go_simp <;> with_reducible rfl); simp only [List.getElem_toArray, List.getElem_cons_zero, List.getElem_cons_succ, Act.put, List.setIfInBounds_toArray, List.set_cons_zero, List.set_cons_succ])
  (refine plan_make rfl (by rfl) (fun K hK => ?_); go_simp; (refine (has19_any 2 0 [(0, 0, 1), (3, 1, 10)] 3 1 10 2 c12 (some ⟨b, o, none⟩) _ (Lib.hid rfl) (HR.out.keep hBase) (by omega)).mono ?_; rw [aw19_h]; rintro e₁ w15 ⟨rfl, hbx⟩); refine hK.out _ _ hbx ?_; clear hK K; replace hBase := below_step hBase hbx)
  iterate 3 (refine plan_read rfl (by rfl) (v := ?_) ?_ ?_; rotate_left 1; (intro W hW; have hW0 := below_step hBase hW; (try dsimp only at hW); go_simp <;> with_reducible rfl); simp only [List.getElem_toArray, List.getElem_cons_zero, List.getElem_cons_succ, Act.put, List.setIfInBounds_toArray, List.set_cons_zero, List.set_cons_succ])
  (refine plan_make rfl (by rfl) (fun K hK => ?_); go_simp; (refine (right19_any 2 0 [(0, 0, 1), (3, 1, 10)] 2 c12 (some ⟨b, o, none⟩) _ (Lib.hid rfl) (HR.out.keep hBase) HF2 (by omega)).mono ?_; rw [aw19_r]; rintro e₁ w16 ⟨rfl, hbx⟩); refine hK.out _ _ hbx ?_; clear hK K; replace hBase := below_step hBase hbx)
  iterate 2 (refine plan_read rfl (by rfl) (v := ?_) ?_ ?_; rotate_left 1; (intro W hW; have hW0 := below_step hBase hW; (try dsimp only at hW); go_simp <;> with_reducible rfl); simp only [List.getElem_toArray, List.getElem_cons_zero, List.getElem_cons_succ, Act.put, List.setIfInBounds_toArray, List.set_cons_zero, List.set_cons_succ])
  refine plan_done ?_
  go_wp2_with fail
  go_ret
  exact ⟨rfl, below_step HB.out hBase⟩
end Go.Proofs.Ytmljhkdojopljaa
/-
  What comes in, opened by its type's shape (no program is named here): numbers, slices of whatever, arrays, structs. No conditions but those typed.
-/
namespace Go.Proofs.Ytmljhkdojopljaa
set_option maxRecDepth 100000
open Go.RowKit Go.Deep Go.WideShapes Go.ChangeShapes

/-- Cells of type t that can be read as data are a reading R of something. -/
def Opens (P : Program) (t : TypeId) {α : Type} (R : World → List Value → α → Prop) : Prop :=
  ∀ {H : Type} (enc : TypeId × Value → H) (w : World) (base : Nat) (spare : Nat → Bool) (held : Bool) (fuel : Nat) (cs : List Value) (x : DataW H × List MemPlace), DataW.trod enc P w base spare held fuel t cs = some x → ∃ a : α, R w cs a

def RByte : World → List Value → UInt8 → Prop := fun _ cs c => cs = [vB c]
def RWord : World → List Value → UInt32 → Prop := fun _ cs c => cs = [vW c]
def RNum : World → List Value → Nat → Prop := fun _ cs v => cs = [.int .u64 (v : Int)] ∧ v < 18446744073709551616
def RInt : World → List Value → Int → Prop := fun _ cs n => cs = [.int .i64 n] ∧ -9223372036854775808 ≤ n ∧ n ≤ 9223372036854775807
def RBool : World → List Value → Bool → Prop := fun _ cs b => cs = [.bool b]

section
variable {P : Program} {t e : TypeId}
theorem opens_byte (ht : P.underlying t = some (.int .u8)) : Opens P t RByte := fun enc w base spare held fuel cs x h => by
  obtain ⟨n, rfl, _, hw⟩ := DataW.trod_int ht h
  simp [Lit.wf, IntKind.min, IntKind.max, IntKind.signed, IntKind.bits] at hw
  refine ⟨UInt8.ofNat n.toNat, ?_⟩
  unfold RByte vB
  rw [UInt8.toNat_ofNat']
  congr 2
  omega
theorem opens_word (ht : P.underlying t = some (.int .u32)) : Opens P t RWord := fun enc w base spare held fuel cs x h => by
  obtain ⟨n, rfl, _, hw⟩ := DataW.trod_int ht h
  simp [Lit.wf, IntKind.min, IntKind.max, IntKind.signed, IntKind.bits] at hw
  refine ⟨UInt32.ofNat n.toNat, ?_⟩
  unfold RWord vW
  rw [UInt32.toNat_ofNat']
  congr 2
  omega
theorem opens_num (ht : P.underlying t = some (.int .u64)) : Opens P t RNum := fun enc w base spare held fuel cs x h => by
  obtain ⟨n, rfl, _, hw⟩ := DataW.trod_int ht h
  obtain ⟨v, hv, rfl⟩ := u64_of_wf hw
  exact ⟨v, rfl, hv⟩
theorem opens_int (ht : P.underlying t = some (.int .i64)) : Opens P t RInt := fun enc w base spare held fuel cs x h => by
  obtain ⟨n, rfl, _, hw⟩ := DataW.trod_int ht h
  exact ⟨n, rfl, i64_of_wf hw⟩

/-- A slice: its elements, of m cells each, lie one behind the other. -/
def RSlice (m : Nat) {α : Type} (R : World → List Value → α → Prop) : World → List Value → List α → Prop := fun w cs l =>
  ∃ (A : Option Addr) (cap : Nat), cs = [.slice A l.length cap] ∧ l.length ≤ cap ∧ cap ≤ 9223372036854775807 ∧
    (l ≠ [] → ∃ b o, A = some ⟨b, o, none⟩ ∧ ∀ i (h : i < l.length), ∃ ecs : List Value, ecs.length = m ∧ (∀ j (hj : j < ecs.length), w.cell? ⟨b, o + i * m + j, none⟩ = some ecs[j]) ∧ R w ecs l[i])

theorem cells_at {w : World} {base : Nat} {a : Addr} {n : Nat} {cs : List Value} (h : w.cells? base a n = some cs) : cs.length = n ∧ ∀ j (hj : j < cs.length), w.cell? (a.add j) = some cs[j] := by
  obtain ⟨_, hl, hc⟩ := World.cells?_some h
  refine ⟨hl, fun j hj => ?_⟩
  have := hc j (by omega)
  rw [this]
  exact List.getElem?_eq_getElem hj

theorem choose_list {α : Type} (n : Nat) (p : Nat → α → Prop) (h : ∀ i, i < n → ∃ a, p i a) : ∃ l : List α, l.length = n ∧ ∀ i (hi : i < l.length), p i l[i] := by
  induction n with
  | zero => exact ⟨[], rfl, fun i hi => by simp at hi⟩
  | succ n ih =>
    obtain ⟨l, hl, hp⟩ := ih (fun i hi => h i (by omega))
    obtain ⟨a, ha⟩ := h n (by omega)
    refine ⟨l ++ [a], by simp [hl], fun i hi => ?_⟩
    by_cases hin : i < l.length
    · rw [List.getElem_append_left hin]; exact hp i hin
    · have : i = n := by simp at hi; omega
      subst this
      rw [List.getElem_append_right (by omega)]
      simpa [hl] using ha

theorem opens_slice {α : Type} {R : World → List Value → α → Prop} {m : Nat} (ht : P.underlying t = some (.slice e)) (hc : P.cellsOf e = m) (hm : 0 < m) (he : Opens P e R) : Opens P t (RSlice m R) := fun enc w base spare held fuel cs x h => by
  rcases open_slice ht h with ⟨rfl, _⟩ | ⟨a, len, cap, mm, n, D, Pl, rfl, hb, hl, hcap, hmm, rfl, hx⟩
  · exact ⟨[], none, 0, rfl, Nat.le_refl _, by omega, fun h => absurd rfl h⟩
  · have hlm : len ≤ mm := by rw [hmm]; split <;> omega
    unfold maxLen at hcap
    obtain ⟨l, hll, hp⟩ := choose_list len (fun i (y : α) => ∃ ecs : List Value, ecs.length = m ∧ (∀ j (hj : j < ecs.length), w.cell? ((a.add (i * m)).add j) = some ecs[j]) ∧ R w ecs y) (fun i hi => by
      obtain ⟨ecs, h1, h2⟩ := hx i (by omega)
      rw [hc] at h1
      obtain ⟨h3, h4⟩ := cells_at h1
      obtain ⟨y, hy⟩ := he enc w base spare held n ecs _ h2
      exact ⟨y, ecs, h3, h4, hy⟩)
    refine ⟨l, some a, cap, by rw [hll], by omega, by omega, fun hn => ?_⟩
    have h0 : 0 < l.length := by
      rcases Nat.eq_zero_or_pos l.length with h | h
      · exact absurd (List.eq_nil_of_length_eq_zero h) hn
      · exact h
    obtain ⟨b, o, spot⟩ := a
    obtain ⟨ecs, h3, h4, _⟩ := hp 0 h0
    have hc0 := h4 0 (by omega)
    have hspot : spot = none := by simpa [Addr.add] using World.cell?_spot hc0
    subst hspot
    have hadd : ∀ i j, ((⟨b, o, none⟩ : Addr).add i).add j = ⟨b, o + i + j, none⟩ := fun i j => by unfold Addr.add; split <;> split <;> simp_all
    refine ⟨b, o, rfl, fun i hi => ?_⟩
    obtain ⟨ecs, h3, h4, h5⟩ := hp i hi
    exact ⟨ecs, h3, fun j hj => by rw [← hadd]; exact h4 j hj, h5⟩

/-- An array: its elements' cells one behind the other (elements of one cell). -/
def RArr (n : Nat) {α : Type} (R : World → List Value → α → Prop) : World → List Value → List α → Prop := fun w cs l => l.length = n ∧ cs.length = n ∧ ∀ i (h : i < l.length), R w ((cs.drop i).take 1) l[i]
theorem opens_arr {α : Type} {R : World → List Value → α → Prop} {n : Nat} (ht : P.underlying t = some (.array n e)) (hc : P.cellsOf e = 1) (hn : P.cellsOf t = n) (he : Opens P e R) : Opens P t (RArr n R) := fun enc w base spare held fuel cs x h => by
  obtain ⟨xs, m, _, _, hl, hxl, hx⟩ := DataW.trod_array ht h
  obtain ⟨l, hll, hp⟩ := choose_list n (fun i (y : α) => R w ((cs.drop i).take 1) y) (fun i hi => by
    have := hx i hi
    rw [hc, Nat.mul_one, List.getElem?_eq_getElem (by omega)] at this
    exact he enc w base spare held m _ _ this)
  exact ⟨l, hll, by omega, hp⟩

/-- Structs of two to four fields: each field's cells. -/
def RTwo (a0 n0 a1 n1 : Nat) {α β : Type} (R : World → List Value → α → Prop) (S : World → List Value → β → Prop) : World → List Value → α × β → Prop := fun w cs x => cs.length = n0 + n1 ∧ R w ((cs.drop a0).take n0) x.1 ∧ S w ((cs.drop a1).take n1) x.2
def RThree (a0 n0 a1 n1 a2 n2 : Nat) {α β γ : Type} (R : World → List Value → α → Prop) (S : World → List Value → β → Prop) (T : World → List Value → γ → Prop) : World → List Value → α × β × γ → Prop := fun w cs x => cs.length = n0 + n1 + n2 ∧ R w ((cs.drop a0).take n0) x.1 ∧ S w ((cs.drop a1).take n1) x.2.1 ∧ T w ((cs.drop a2).take n2) x.2.2
theorem opens_two {α β : Type} {R : World → List Value → α → Prop} {S : World → List Value → β → Prop} {f0 f1 : Field} {a0 n0 a1 n1 : Nat} (ht : P.underlying t = some (.struct #[f0, f1])) (e0 : f0.offset = a0) (e1 : f1.offset = a1) (c0 : P.cellsOf f0.type = n0) (c1 : P.cellsOf f1.type = n1) (hn : P.cellsOf t = n0 + n1)
    (h0 : Opens P f0.type R) (h1 : Opens P f1.type S) : Opens P t (RTwo a0 n0 a1 n1 R S) := fun enc w base spare held fuel cs x h => by
  obtain ⟨xs, n, _, _, hl, hxl, hx⟩ := DataW.trod_struct ht h
  have k0 := hx 0 f0 rfl
  have k1 := hx 1 f1 rfl
  simp only [List.size_toArray, List.length_cons, List.length_nil, Nat.zero_add, Nat.reduceAdd] at hxl
  rw [List.getElem?_eq_getElem (by omega), e0, c0] at k0
  rw [List.getElem?_eq_getElem (by omega), e1, c1] at k1
  obtain ⟨x0, r0⟩ := h0 enc w base spare held n _ _ k0
  obtain ⟨x1, r1⟩ := h1 enc w base spare held n _ _ k1
  exact ⟨(x0, x1), by omega, r0, r1⟩
theorem opens_three {α β γ : Type} {R : World → List Value → α → Prop} {S : World → List Value → β → Prop} {T : World → List Value → γ → Prop} {f0 f1 f2 : Field} {a0 n0 a1 n1 a2 n2 : Nat} (ht : P.underlying t = some (.struct #[f0, f1, f2])) (e0 : f0.offset = a0) (e1 : f1.offset = a1) (e2 : f2.offset = a2)
    (c0 : P.cellsOf f0.type = n0) (c1 : P.cellsOf f1.type = n1) (c2 : P.cellsOf f2.type = n2) (hn : P.cellsOf t = n0 + n1 + n2) (h0 : Opens P f0.type R) (h1 : Opens P f1.type S) (h2 : Opens P f2.type T) : Opens P t (RThree a0 n0 a1 n1 a2 n2 R S T) := fun enc w base spare held fuel cs x h => by
  obtain ⟨xs, n, _, _, hl, hxl, hx⟩ := DataW.trod_struct ht h
  have k0 := hx 0 f0 rfl
  have k1 := hx 1 f1 rfl
  have k2 := hx 2 f2 rfl
  simp only [List.size_toArray, List.length_cons, List.length_nil, Nat.zero_add, Nat.reduceAdd] at hxl
  rw [List.getElem?_eq_getElem (by omega), e0, c0] at k0
  rw [List.getElem?_eq_getElem (by omega), e1, c1] at k1
  rw [List.getElem?_eq_getElem (by omega), e2, c2] at k2
  obtain ⟨x0, r0⟩ := h0 enc w base spare held n _ _ k0
  obtain ⟨x1, r1⟩ := h1 enc w base spare held n _ _ k1
  obtain ⟨x2, r2⟩ := h2 enc w base spare held n _ _ k2
  exact ⟨(x0, x1, x2), by omega, r0, r1, r2⟩
end

/-! ### Back to the words that the walks go by -/
theorem rd_of_rslice {α : Type} {f : α → Value} {R : World → List Value → α → Prop} {w : World} {cs : List Value} {l : List α} (hR : ∀ ecs x, R w ecs x → ecs = [f x]) (h : RSlice 1 R w cs l) : ∃ A cap, cs = [.slice A l.length cap] ∧ l.length ≤ cap ∧ cap ≤ 9223372036854775807 ∧ Rd f w A l := by
  obtain ⟨A, cap, e, h1, h2, h3⟩ := h
  refine ⟨A, cap, e, h1, h2, fun hn => ?_⟩
  obtain ⟨b, o, rfl, hc⟩ := h3 hn
  refine ⟨b, o, rfl, fun i hi => ?_⟩
  obtain ⟨ecs, _, h5, h6⟩ := hc i hi
  have := hR _ _ h6
  subst this
  have := h5 0 (by simp)
  simpa using this
theorem bytes_of_r {w : World} {cs : List Value} {l : List UInt8} (h : RSlice 1 RByte w cs l) : ∃ A cap, cs = [.slice A l.length cap] ∧ l.length ≤ cap ∧ cap ≤ 9223372036854775807 ∧ Rd vB w A l := rd_of_rslice (fun _ _ h => h) h
theorem words_of_r {w : World} {cs : List Value} {l : List UInt32} (h : RSlice 1 RWord w cs l) : ∃ A cap, cs = [.slice A l.length cap] ∧ l.length ≤ cap ∧ cap ≤ 9223372036854775807 ∧ Rd vW w A l := rd_of_rslice (fun _ _ h => h) h
theorem arr_words {n : Nat} {w : World} {cs : List Value} {l : List UInt32} (h : RArr n RWord w cs l) : cs = l.map vW ∧ l.length = n := by
  obtain ⟨h1, h2, h3⟩ := h
  refine ⟨?_, h1⟩
  apply List.ext_getElem
  · simp; omega
  · intro i hi hi'
    have := h3 i (by omega)
    unfold RWord at this
    have h4 := congrArg (fun l => l[0]?) this
    simp only [List.getElem?_take, List.getElem?_drop, Nat.add_zero, List.getElem?_eq_getElem hi, Nat.zero_lt_one, if_true, List.getElem?_cons_zero, Option.some.injEq] at h4
    rw [h4]
    simp

/-! ### A value and its cells -/
theorem okWide_arr {P : Program} {w : World} {r : Reach} {base n : Nat} {t e : TypeId} {v : Value} (ht : P.underlying t = some (.array n e)) (h : Value.okWide P w r base t v) : ∃ cs, v = .agg cs ∧ cs.size = P.cellsOf t := by
  simp only [Value.okWide, ht] at h
  obtain ⟨cs, h1, h2, _⟩ := h
  exact ⟨cs, h1, h2⟩

end Go.Proofs.Ytmljhkdojopljaa
/-
  Parameters that are uses, or caches, or lists of uses, or numbers, opened. No conditions.
-/
namespace Go.Proofs.Ytmljhkdojopljaa
set_option maxRecDepth 100000
open Go.RowKit Go.Deep Go.WideShapes Go.ChangeShapes
set_option linter.unusedSimpArgs false
set_option linter.unusedVariables false

theorem opens_use : Opens Try.prog 27 (RThree 0 1 1 1 2 1 RNum RNum RNum) := opens_three Try.underlying27 rfl rfl rfl (by kernel_rfl) (by kernel_rfl) (by kernel_rfl) (by kernel_rfl) (opens_num Try.underlying22) (opens_num Try.underlying22) (opens_num Try.underlying22)
theorem opens_uses : Opens Try.prog 23 (RSlice 3 (RThree 0 1 1 1 2 1 RNum RNum RNum)) := opens_slice Try.underlying23 (by kernel_rfl) (by omega) opens_use
theorem opens_cache : Opens Try.prog 25 (RThree 0 1 1 1 2 1 RInt RNum (RSlice 3 (RThree 0 1 1 1 2 1 RNum RNum RNum))) := opens_three Try.underlying25 rfl rfl rfl (by kernel_rfl) (by kernel_rfl) (by kernel_rfl) (by kernel_rfl) (opens_int Try.underlying3) (opens_num Try.underlying22) opens_uses
theorem use_of_r {w : World} {cs : List Value} {x : Us} (h : RThree 0 1 1 1 2 1 RNum RNum RNum w cs x) : cs = cellU x ∧ fitU1 x := by
  obtain ⟨hl, ⟨h0, g0⟩, ⟨h1, g1⟩, h2, g2⟩ := h
  refine ⟨?_, g0, g1, g2⟩
  match cs, hl with
  | [a, b, c], _ =>
    simp at h0 h1 h2
    rw [h0, h1, h2]
    rfl
theorem uses_of_r {w : World} {cs : List Value} {l : List Us} (h : RSlice 3 (RThree 0 1 1 1 2 1 RNum RNum RNum) w cs l) : ∃ (A : Option Addr) (cap : Nat), cs = [.slice A l.length cap] ∧ l.length ≤ cap ∧ cap ≤ 9223372036854775807 ∧ RdU w A l ∧ fitU l := by
  obtain ⟨A, cap, e, h1, h2, h3⟩ := h
  refine ⟨A, cap, e, h1, h2, fun hn => ?_, fun x hx => ?_⟩
  · obtain ⟨b, o, rfl, hc⟩ := h3 hn
    refine ⟨b, o, rfl, fun i hi => ?_⟩
    obtain ⟨ecs, h4, h5, h6⟩ := hc i hi
    obtain ⟨rfl, _⟩ := use_of_r h6
    exact ⟨h5 0 (by simp [cellU]), h5 1 (by simp [cellU]), h5 2 (by simp [cellU])⟩
  · obtain ⟨i, hi, rfl⟩ := List.getElem_of_mem hx
    obtain ⟨b, o, rfl, hc⟩ := h3 (by rintro rfl; simp at hi)
    obtain ⟨ecs, h4, h5, h6⟩ := hc i hi
    exact (use_of_r h6).2
section
variable {H : Type} {enc : TypeId × Value → H} {W : World} {base b1 : Nat} {spare : Nat → Bool} {held : Bool} {r : Reach} {v : Value} {d : DataW H} {p : List MemPlace}
theorem open_uses (hv : Value.okWide Try.prog W r base 23 v) (ht : DataW.Trod enc Try.prog W b1 spare held 23 v d p) : ∃ (l : List Us) (A : Option Addr) (cap : Nat), v = .slice A l.length cap ∧ l.length ≤ cap ∧ cap ≤ 9223372036854775807 ∧ RdU W A l ∧ fitU l := by
  obtain ⟨a, len, cap, rfl⟩ := okWide_slice Try.underlying23 hv
  obtain ⟨fuel, hf⟩ := ht
  obtain ⟨l, hl⟩ := opens_uses enc W _ _ _ _ _ _ hf
  obtain ⟨A, c, e, h1, h2, h3, h4⟩ := uses_of_r hl
  simp [Value.cells] at e
  obtain ⟨rfl, rfl, rfl⟩ := e
  exact ⟨l, _, _, rfl, h1, h2, h3, h4⟩
theorem open_use (hv : Value.okWide Try.prog W r base 27 v) (ht : DataW.Trod enc Try.prog W b1 spare held 27 v d p) : ∃ g : Us, v = aggU g ∧ fitU1 g := by
  obtain ⟨cs, rfl, _⟩ := okWide_struct Try.underlying27 hv
  obtain ⟨fuel, hf⟩ := ht
  obtain ⟨g, hg⟩ := opens_use enc W _ _ _ _ _ _ hf
  obtain ⟨e, hfit⟩ := use_of_r hg
  refine ⟨g, ?_, hfit⟩
  unfold aggU
  congr 1
  apply Array.toList_inj.1
  simp only [Value.cells] at e
  rw [e]
  rfl
theorem open_cache (hv : Value.okWide Try.prog W r base 25 v) (ht : DataW.Trod enc Try.prog W b1 spare held 25 v d p) : ∃ (room : Int) (fl : Nat) (l : List Us) (A : Option Addr) (cap : Nat), v = aggC room fl A l.length cap ∧ l.length ≤ cap ∧ cap ≤ 9223372036854775807 ∧ RdU W A l ∧ fitU l ∧ fl < 18446744073709551616 := by
  obtain ⟨cs, rfl, _⟩ := okWide_struct Try.underlying25 hv
  obtain ⟨fuel, hf⟩ := ht
  obtain ⟨⟨room, fl, l⟩, hl, ⟨e0, g0⟩, ⟨e1, g1⟩, h2⟩ := opens_cache enc W _ _ _ _ _ _ hf
  obtain ⟨A, c, e2, h3, h4, h5, h6⟩ := uses_of_r h2
  refine ⟨room, fl, l, A, c, ?_, h3, h4, h5, h6, g1⟩
  unfold aggC
  congr 1
  apply Array.toList_inj.1
  simp only [Value.cells] at hl e0 e1 e2
  match hcs : cs.toList, hl with
  | [x0, x1, x2], _ =>
    rw [hcs] at e0 e1 e2
    simp at e0 e1 e2
    rw [e0, e1, e2]
theorem open_num (hv : Value.okWide Try.prog W r base 22 v) (ht : DataW.Trod enc Try.prog W b1 spare held 22 v d p) : ∃ n : Nat, v = .int .u64 (n : Int) ∧ n < 18446744073709551616 := by
  obtain ⟨n, rfl⟩ := okWide_int Try.underlying22 hv
  obtain ⟨fuel, hf⟩ := ht
  obtain ⟨m, e, _, hw⟩ := DataW.trod_int Try.underlying22 hf
  simp [Value.cells] at e
  simp [Lit.wf, IntKind.min, IntKind.max, IntKind.signed, IntKind.bits] at hw
  exact ⟨n.toNat, by congr 1; omega, by omega⟩
theorem open_int19 (hv : Value.okWide Try.prog W r base 3 v) (ht : DataW.Trod enc Try.prog W b1 spare held 3 v d p) : ∃ n : Int, v = .int .i64 n := by
  obtain ⟨n, rfl⟩ := okWide_int Try.underlying3 hv
  exact ⟨n, rfl⟩
theorem open_byte19 (hv : Value.okWide Try.prog W r base 5 v) (ht : DataW.Trod enc Try.prog W b1 spare held 5 v d p) : ∃ y : Nat, v = .int .u8 (y : Int) ∧ y < 256 := by
  obtain ⟨n, rfl⟩ := okWide_int Try.underlying5 hv
  obtain ⟨fuel, hf⟩ := ht
  obtain ⟨m, e, _, hw⟩ := DataW.trod_int Try.underlying5 hf
  simp [Value.cells] at e
  simp [Lit.wf, IntKind.min, IntKind.max, IntKind.signed, IntKind.bits] at hw
  exact ⟨n.toNat, by congr 1; omega, by omega⟩
theorem opens_nums : Opens Try.prog 41 (RSlice 1 RNum) := opens_slice Try.underlying41 (by kernel_rfl) (by omega) (opens_num Try.underlying22)
theorem open_nums (hv : Value.okWide Try.prog W r base 41 v) (ht : DataW.Trod enc Try.prog W b1 spare held 41 v d p) : ∃ (l : List Nat) (A : Option Addr) (cap : Nat), v = .slice A l.length cap ∧ l.length ≤ cap ∧ cap ≤ 9223372036854775807 ∧ Rd vNU W A l ∧ ∀ x ∈ l, x < 18446744073709551616 := by
  obtain ⟨a, len, cap, rfl⟩ := okWide_slice Try.underlying41 hv
  obtain ⟨fuel, hf⟩ := ht
  obtain ⟨l, A, c, e, h1, h2, h3⟩ := opens_nums enc W _ _ _ _ _ _ hf
  simp [Value.cells] at e
  obtain ⟨rfl, rfl, rfl⟩ := e
  refine ⟨l, _, _, rfl, h1, h2, fun hn => ?_, fun x hx => ?_⟩
  · obtain ⟨b, o, rfl, hc⟩ := h3 hn
    refine ⟨b, o, rfl, fun i hi => ?_⟩
    obtain ⟨ecs, h4, h5, h6, _⟩ := hc i hi
    have := h5 0 (by rw [h6]; simp)
    rw [Nat.mul_one] at this
    simpa [h6, vNU] using this
  · obtain ⟨i, hi, rfl⟩ := List.getElem_of_mem hx
    obtain ⟨b, o, rfl, hc⟩ := h3 (by rintro rfl; simp at hi)
    obtain ⟨ecs, h4, h5, h6, h7⟩ := hc i hi
    exact h7
end
end Go.Proofs.Ytmljhkdojopljaa
/-
  A cache through which uses go: what is true of those taken. No conditions but those typed.
-/
namespace Go.Proofs.Ytmljhkdojopljaa
set_option maxRecDepth 100000
open Go.RowKit
set_option linter.unusedSimpArgs false
set_option linter.unusedVariables false

/-- The cache is right; of the uses taken those are there that aren't below the floor. -/
structure OnceI (R : Int) (T : List Us) (fl : Nat) (lc : List Us) : Prop where
  right : rightC (R, fl, lc) = true
  seen : ∀ t ∈ T, (t ∈ lc ↔ fl ≤ t.2.2)
theorem OnceI.len {R : Int} {T : List Us} {fl : Nat} {lc : List Us} (h : OnceI R T fl lc) : lc.length ≤ 64 ∧ (lc.length : Int) ≤ R := by
  obtain ⟨h1, h2, _, _⟩ := right_c.1 h.right
  dsimp only at h1 h2
  omega
theorem once_raise {R : Int} {T : List Us} {fl : Nat} {lc : List Us} (f : Nat) (h : OnceI R T fl lc) (hf : fitU lc) : ∃ fd ld, ((R, fd, ld), (0 : Int)) = raiseC (R, fl, lc) f ∧ OnceI R T fd ld ∧ fitU ld := by
  have e : raiseC (R, fl, lc) f = ((R, max fl f, aboveU (max fl f) lc), 0) := by unfold raiseC; rw [h.right, if_neg (by decide)]
  have h1 := (raise_right f h.right).1
  rw [e] at h1
  refine ⟨_, _, e.symm, ⟨h1, fun t ht => ?_⟩, above_fit hf⟩
  rw [above_mem, h.seen t ht]
  omega
theorem once_put {R : Int} {T : List Us} {fd : Nat} {ld : List Us} (u : Us) (h : OnceI R T fd ld) (hf : fitU ld) (hu : fitU1 u) : ∃ fx lx q, ((R, fx, lx), q) = putC (R, fd, ld) u ∧ fitU lx ∧
    ((q = 0 ∧ u ∉ T ∧ u ∈ lx ∧ OnceI R (T ++ [u]) fx lx) ∨ (q ≠ 0 ∧ fx = fd ∧ lx = ld ∧ (u ∈ T → q = 11 ∨ q = 10) ∧ OnceI R T fx lx)) := by
  rcases putC_cases (R, fd, ld) u h.right with ⟨k1, e⟩ | ⟨k1, k2, e⟩ | ⟨k1, k2, k3, e⟩ | ⟨k1, k2, k3, e⟩
  · exact ⟨_, _, _, e.symm, hf, .inr ⟨by decide, rfl, rfl, fun _ => .inr rfl, h⟩⟩
  · exact ⟨_, _, _, e.symm, hf, .inr ⟨by decide, rfl, rfl, fun _ => .inl rfl, h⟩⟩
  · refine ⟨_, _, _, e.symm, hf, .inr ⟨by decide, rfl, rfl, fun ht => ?_, h⟩⟩
    exact absurd ((h.seen u ht).2 k1) k2
  · have hnT : u ∉ T := fun ht => k2 ((h.seen u ht).2 k1)
    have hr := put_right (u := u) h.right
    rw [e] at hr
    refine ⟨_, _, _, e.symm, insU_fit hf hu, .inl ⟨rfl, hnT, (insU_mem _ _ _).2 (.inr rfl), hr, fun t ht => ?_⟩⟩
    rw [insU_mem]
    rcases List.mem_append.1 ht with ht | ht
    · rw [h.seen t ht]
      constructor
      · rintro (h1 | rfl)
        · exact h1
        · exact k1
      · exact .inl
    · rw [List.mem_singleton] at ht
      subst ht
      exact ⟨fun _ => k1, fun _ => .inr rfl⟩

/-- A cache's block, cell by cell, and something else. -/
def csS (g : Nat) (room : Int) (fl : Nat) (A : Option Addr) (n c : Nat) (Z : World → Prop) (W : World) : Prop :=
  (W.cell? ⟨g, 0, none⟩ = some (.int .i64 room) ∧ W.cell? ⟨g, 1, none⟩ = some (.int .u64 (fl : Int)) ∧ W.cell? ⟨g, 2, none⟩ = some (.slice A n c)) ∧ Z W
/-- .. now, and in every later world. -/
structure CsS (g : Nat) (room : Int) (fl : Nat) (A : Option Addr) (n c : Nat) (Z : World → Prop) (w : World) : Prop where
  now : csS g room fl A n c Z w
  keep : ∀ {W : World}, Below w.heap.size w W → csS g room fl A n c Z W
theorem CsS.of {g : Nat} {room : Int} {fl : Nat} {A : Option Addr} {n c : Nat} {Z : World → Prop} {w : World} (h : Row w g 25 [.int .i64 room, .int .u64 (fl : Int), .slice A n c]) (z : ∀ W, Below w.heap.size w W → Z W) : CsS g room fl A n c Z w :=
  ⟨⟨⟨h.cell rfl, h.cell rfl, h.cell rfl⟩, z w (Below.refl _ _)⟩, fun hb => ⟨⟨(h.later hb).cell rfl, (h.later hb).cell rfl, (h.later hb).cell rfl⟩, z _ hb⟩⟩
/-- Behind a region that draws the order of a call and of its result's block: the block, the cache in it. -/
def CutC (W : World) (room : Int) (fl : Nat) (l : List Us) (q : Int) (vp ve : Value) (wx : World) : Prop :=
  ∃ g A m c, vp = .pointer (some ⟨g, 0, none⟩) ∧ ve = .int .i64 q ∧ W.heap.size ≤ g ∧ Row wx g 25 [.int .i64 room, .int .u64 (fl : Int), .slice A m c] ∧ Hid (l.length = m) ∧ m ≤ c ∧ RdU wx A l ∧ (∀ a, A = some a → W.heap.size ≤ a.block) ∧ Below W.heap.size W wx
/-- The head of each round. -/
def ROnce (n : Nat) (R : Int) (bc : Nat) (w0 : World) (v i : Value) (wr : World) : Prop :=
  ∃ (k : Nat) (T : List Us) (fl : Nat) (lc : List Us) (CA : Option Addr) (m cap : Nat) (TA : Option Addr) (tc : Nat), v = .slice TA T.length tc ∧ i = .int .i64 (k : Int) ∧ k ≤ n ∧ T.length ≤ k ∧ OnceI R T fl lc ∧ fitU lc ∧ fitU T ∧ wr.ownsRow (bc + 1) 27 3 (.slice TA T.length tc) T.length (cellsU T) ∧
    Row wr bc 25 [.int .i64 R, .int .u64 (fl : Int), .slice CA m cap] ∧ Hid (lc.length = m) ∧ m ≤ cap ∧ RdU wr CA lc ∧ (lc ≠ [] → ∀ a, CA = some a → bc < a.block ∧ (Value.slice TA T.length tc).ownBlock ≠ some a.block) ∧ Below w0.heap.size w0 wr
theorem RdU.grown {w w' : World} {row : Option Nat} {A : Option Addr} {L : List Us} (h : RdU w A L) (hg : w.grownBy w' row) (hA : L ≠ [] → ∀ a, A = some a → row ≠ some a.block) : RdU w' A L := fun hn => by
  obtain ⟨b, o, rfl, hc⟩ := h hn
  refine ⟨b, o, rfl, fun i hi => ?_⟩
  obtain ⟨_, _, _, _, h5⟩ := hg
  obtain ⟨k0, k1, k2⟩ := hc i hi
  have hlt : b < w.heap.size := World.block_lt_of_cell? w _ k0
  have hb := h5 b hlt (fun e => hA hn ⟨b, o, none⟩ rfl e.symm)
  exact ⟨(World.cell?_of_block (w := w) (a := ⟨b, o + i * 3, none⟩) hb).trans k0, (World.cell?_of_block (w := w) (a := ⟨b, o + i * 3 + 1, none⟩) hb).trans k1, (World.cell?_of_block (w := w) (a := ⟨b, o + i * 3 + 2, none⟩) hb).trans k2⟩
end Go.Proofs.Ytmljhkdojopljaa
/-
  The law CacheOnce, where at most 60 uses come in and a floor for each: it answers true. No conditions but those typed.
-/
namespace Go.Proofs.Ytmljhkdojopljaa
set_option maxRecDepth 100000
open Go.RowKit
set_option linter.unusedSimpArgs false
set_option linter.unusedVariables false

set_option maxRecDepth 100000 in
set_option maxHeartbeats 16000000 in
theorem cacheonce_small (y : Nat) (l : List Us) (fs : List Nat) (n c p d : Nat) (A B : Option Addr) (w : World) (hy : y < 256) (HN : Hid (l.length = n)) (HP : Hid (fs.length = p)) (hr : RdU w A l) (hs : Rd vNU w B fs) (HF : Hid (fitU l)) (hc : n ≤ c) (hd : p ≤ d) (hn : n ≤ 60) (hp : n ≤ p) (hpm : p ≤ 9223372036854775807) :
    Calls Try.prog 4 #[.int .u8 (y : Int), .slice A n c, .slice B p d] w fun e w' => e = .returned (.bool true) ∧ Below w.heap.size w w' := by
  obtain ⟨j0, hj0, gz0, gz1, gz2⟩ := info_parts info_use
  have n0 : ¬ (60 : Int) < (n : Int) := by omega
  have p0 : ¬ (p : Int) < (n : Int) := by omega
  go_enter Try.func4, Try.ntmps4
  go_wp2_with fail
  refine (awake19_any _).mono ?_
  rintro e w1 ⟨rfl, hB⟩
  obtain ⟨R, hR⟩ : ∃ R : Nat, R = y % 65 := ⟨_, rfl⟩
  have hmod : (y : Int) % 65 = (R : Int) := by omega
  have hR64 : R ≤ 64 := by omega
  clear hR
  go_wp2_with fail
  rw [hmod]
  have hnew := new19_any (R : Int) w1
  rw [if_pos (by omega), if_pos (by omega)] at hnew
  refine hnew.mono ?_
  clear hnew
  rintro e w2 ⟨A2, m2, c2, rfl, HN2, hc2, hr2, hf2, hb2⟩
  obtain rfl : m2 = 0 := HN2.out.symm
  unfold aggC
  dsimp only at hr2 ⊢
  replace hB := below_step hB hb2
  obtain ⟨hC, hbn⟩ := box_of w2 25 [.int .i64 (R : Int), .int .u64 0, .slice A2 0 c2] _ rfl
  obtain ⟨bc, hbE⟩ : ∃ b, b = w2.heap.size := ⟨_, rfl⟩
  have hbcw : w.heap.size ≤ bc := by rw [hbE]; exact hB.size
  go_upto_region 6 with fail
  rw [← hbE] at hC ⊢
  replace hB := below_step hB hbn
  replace hr2 := hr2.keep hbn
  clear hbE hbn hb2 hf2 hmod n0 p0
  generalize w2.alloc (.cells #[.int .i64 (R : Int), .int .u64 0, .slice A2 0 c2] 25) = w3 at hB hC hr2 ⊢
  have hI0 : OnceI (R : Int) [] 0 [] := ⟨right_c.2 ⟨⟨by dsimp only; omega, by dsimp only; omega⟩, by dsimp only; simp, by simp, List.Pairwise.nil⟩, fun t ht => by cases ht⟩
  go_wp2_with fail
  go_loopw [9, 10] (fun v i wr => ROnce n (R : Int) bc w v i wr) (fun _ i _ => n - (intOf i).toNat)
  case atStart =>
    exact ⟨0, [], 0, [], A2, 0, c2, none, 0, rfl, rfl, by omega, Nat.le_refl _, hI0, fitU_nil, fitU_nil, World.ownsRow_nil _ _ _ _, hC, rfl, hc2, RdU.nil, fun h => absurd rfl h, hB⟩
  case round =>
    obtain ⟨k, T, fl, lc, CA, m, cap, TA, tc, rfl, rfl, hk, hTk, hI, hFl, hFT, hown, hCr, HNl, hcap, hrc, hCA, hB⟩ := hrel
    by_cases hlt : k < n
    · have hkl : k < l.length := by rw [HN.out]; exact hlt
      have hkf : k < fs.length := by rw [HP.out]; omega
      obtain ⟨ab, ao, hAe, hab, _, p0, p1, p2⟩ := hr.pair hkl
      obtain ⟨fb, fo, hBe, hfb, hfc⟩ := hs.at hkf
      have hf0 := hfc k hkf
      have HU1 : Hid (fitU1 l[k]) := HF.out _ (List.getElem_mem hkl)
      generalize l[k] = u at p0 p1 p2 HU1
      generalize fs[k] = f at hf0
      obtain ⟨u0, u1, u2⟩ := u
      unfold vNU at p0 p1 p2 hf0
      dsimp only at p0 p1 p2
      have HC0 : Hid (∀ W, Below w.heap.size w W → W.cell? ⟨fb, fo + k, none⟩ = some (.int .u64 (f : Int))) := fun W hW => (hW.cell (p := ⟨fb, fo + k, none⟩) hfb).trans hf0
      have HU0 : Hid (∀ W, Below w.heap.size w W → W.cell? ⟨ab, ao + k * 3, none⟩ = some (.int .u64 (u0 : Int)) ∧ W.cell? ⟨ab, ao + k * 3 + 1, none⟩ = some (.int .u64 (u1 : Int)) ∧ W.cell? ⟨ab, ao + k * 3 + 2, none⟩ = some (.int .u64 (u2 : Int))) := fun W hW => ⟨(hW.cell (p := ⟨ab, ao + k * 3, none⟩) hab).trans p0, (hW.cell (p := ⟨ab, ao + k * 3 + 1, none⟩) hab).trans p1, (hW.cell (p := ⟨ab, ao + k * 3 + 2, none⟩) hab).trans p2⟩
      subst hAe
      subst hBe
      have i0 : (0 : Int) ≤ (k : Int) := by omega
      have i1 : (k : Int) < (n : Int) := by omega
      have i2 : (k : Int) < (p : Int) := by omega
      obtain ⟨fd, ld, hRz, hI2, hFd⟩ := once_raise f hI hFl
      have hlen := hI.len
      have hlen2 := hI2.len
      have HRC : Hid (∀ W, Below wr.heap.size wr W → Calls Try.prog 14 #[.agg #[.int .i64 (R : Int), .int .u64 (fl : Int), .slice CA m cap], .int .u64 (f : Int)] W (RetF W ((R : Int), fd, ld) 0)) := fun W hW => by
        have := raise19_any (R : Int) fl lc f m cap CA W HNl (hrc.keep hW) hFl (by have := HNl.out; omega)
        rw [← hRz] at this
        exact this
      have HI2 := Lib.hid hI2
      have HFd := Lib.hid hFd
      have HFT := Lib.hid hFT
      have HLD : Hid (ld.length ≤ 64) := hlen2.1
      clear hRz hI2 hFd hFT hlen hlen2 hI hFl p0 p1 p2 hf0 hfc hab hfb
      go_upto_region 12 with fail
      go_cut [11, 12] (fun vp ve wcut => CutC wr (R : Int) fd ld 0 vp ve wcut)
      case first =>
        have hBd : Below wr.heap.size wr wr.drew := (Below.refl _ _).drew
        have hS : CsS bc (R : Int) fl CA m cap (fun W' => W'.cell? ⟨fb, fo + k, none⟩ = some (.int .u64 (f : Int))) wr.drew := CsS.of (hCr.later hBd) (fun W' hW => HC0.out W' (below_step (below_step hB hBd) hW))
        refine wp_region_plan_of (csS bc (R : Int) fl CA m cap (fun W' => W'.cell? ⟨fb, fo + k, none⟩ = some (.int .u64 (f : Int)))) (.step 0 false (.step 1 false (.step 2 false (.step 3 false (.step 4 false (.fork 5 (.step 6 false (.step 7 false (.step 8 false (.step 9 true (.step 10 true (.step 11 false (.nil))))))) 9 (.step 5 true (.step 6 false (.step 7 false (.step 8 false (.step 10 true (.step 11 false (.nil))))))))))))) hS.now (by kernel_rfl) (by kernel_rfl) (by rfl) (by kernel_rfl) ?_
        generalize wr.drew = wd at hBd hS ⊢
        have hBs := hBd.size
        iterate 5 (refine plan_read rfl (by rfl) (v := ?_) ?_ ?_; rotate_left 1; (intro W hW; (try dsimp only at hW); obtain ⟨hW0, hW1⟩ := hW; go_simp <;> with_reducible rfl); simp only [List.getElem_toArray, List.getElem_cons_zero, List.getElem_cons_succ, Act.put, List.setIfInBounds_toArray, List.set_cons_zero, List.set_cons_succ])
        refine plan_fork rfl rfl (by rfl) (by rfl) (fun K hK => ?_) (fun K hK => ?_)
        · go_simp
          refine (HRC.out wd hBd).mono ?_
          rintro e wy ⟨A5, m5, c5, rfl, HN5, hc5, hr5, hf5, hbw⟩
          refine hK.out _ _ (hS.keep hbw) ?_
          clear hK K
          unfold aggC
          dsimp only at HN5 hr5 ⊢
          iterate 3 (refine plan_read rfl (by rfl) (v := ?_) ?_ ?_; rotate_left 1; (intro W hW; (try dsimp only at hW); obtain ⟨hW0, hW1⟩ := hW; go_simp <;> with_reducible rfl); simp only [List.getElem_toArray, List.getElem_cons_zero, List.getElem_cons_succ, Act.put, List.setIfInBounds_toArray, List.set_cons_zero, List.set_cons_succ])
          refine plan_make_of rfl (by rfl) (fun K hK => ?_)
          obtain ⟨hRz, hbz⟩ := box_of wy 25 [.int .i64 0, .int .u64 0, .slice none 0 0] _ rfl
          go_simp
          have hbq := below_step hbw hbz
          refine hK.out _ _ (hS.keep hbq) ?_
          clear hK K
          have hne : ld ≠ [] → ∀ a, A5 = some a → a.block ≠ wy.heap.size := fun hn a ha => by
            have := hr5.off hn a ha
            omega
          have hff : ∀ a, A5 = some a → wr.heap.size ≤ a.block := fun a ha => by
            have := hf5 a ha
            omega
          replace hr5 := hr5.keep hbz
          have hgz : wd.heap.size ≤ wy.heap.size := hbw.size
          clear hbw hbz hf5
          generalize wy.alloc (.cells [.int .i64 0, .int .u64 0, .slice none 0 0].toArray 25) = wz at hRz hbq hr5 ⊢
          generalize wy.heap.size = gz at hRz hgz hne ⊢
          have hr6 := hr5.only ((Only.refl gz wz).setRow #[.int .i64 (R : Int), .int .u64 (fd : Int), .slice A5 m5 c5]) hne
          have HREL : Hid (CutC wr (R : Int) fd ld 0 (.pointer (some ⟨gz, 0, none⟩)) (.int .i64 0) (wz.setRow gz #[.int .i64 (R : Int), .int .u64 (fd : Int), .slice A5 m5 c5])) := ⟨gz, A5, m5, c5, rfl, rfl, by omega, hRz.setRow [.int .i64 (R : Int), .int .u64 (fd : Int), .slice A5 m5 c5], HN5, hc5, hr6, hff, below_step hBd (below_setRow hbq (by omega) _)⟩
          (refine plan_make_of rfl (by rfl) (fun K hK => ?_); refine Row.wp_store 25 (.tmp 11) (.tmp 52) (by rfl) (by rfl) [.int .i64 (R : Int), .int .u64 (fd : Int), .slice A5 m5 c5] (by rfl) hRz (by exact size_cache) rfl (one_cache (R : Int) fd A5 m5 c5) ?_; simp only [List.getElem_toArray, List.getElem_cons_zero, List.getElem_cons_succ, Act.put, List.setIfInBounds_toArray, List.set_cons_zero, List.set_cons_succ]; refine hK.out _ _ (hS.keep (below_setRow hbq (by omega) _)) ?_; clear hK K)
          iterate 1 (refine plan_read rfl (by rfl) (v := ?_) ?_ ?_; rotate_left 1; (intro W hW; (try dsimp only at hW); obtain ⟨hW0, hW1⟩ := hW; go_simp <;> with_reducible rfl); simp only [List.getElem_toArray, List.getElem_cons_zero, List.getElem_cons_succ, Act.put, List.setIfInBounds_toArray, List.set_cons_zero, List.set_cons_succ])
          refine plan_done ?_
          go_wp2_with fail
          go_meet
          case rel => exact HREL.out
        · obtain ⟨hRz, hbz⟩ := box_of wd 25 [.int .i64 0, .int .u64 0, .slice none 0 0] _ rfl
          go_simp
          have hbq := below_step (Below.refl wd.heap.size wd) hbz
          refine hK.out _ _ (hS.keep hbq) ?_
          clear hK K hbz
          generalize wd.alloc (.cells [.int .i64 0, .int .u64 0, .slice none 0 0].toArray 25) = wq at hRz hbq ⊢
          refine plan_make_of rfl (by rfl) (fun K hK => ?_)
          go_simp
          refine (HRC.out wq (below_step hBd hbq)).mono ?_
          rintro e wz ⟨A5, m5, c5, rfl, HN5, hc5, hr5, hf5, hby⟩
          have hsq := hbq.size
          have hne : ld ≠ [] → ∀ a, A5 = some a → a.block ≠ wd.heap.size := fun _ a ha => by
            have := hf5 a ha
            have := hRz.lt
            omega
          have hff : ∀ a, A5 = some a → wr.heap.size ≤ a.block := fun a ha => by
            have := hf5 a ha
            omega
          replace hRz := hRz.later hby
          replace hbq := below_step hbq hby
          refine hK.out _ _ (hS.keep hbq) ?_
          clear hK K
          unfold aggC
          dsimp only at HN5 hr5 ⊢
          iterate 3 (refine plan_read rfl (by rfl) (v := ?_) ?_ ?_; rotate_left 1; (intro W hW; (try dsimp only at hW); obtain ⟨hW0, hW1⟩ := hW; go_simp <;> with_reducible rfl); simp only [List.getElem_toArray, List.getElem_cons_zero, List.getElem_cons_succ, Act.put, List.setIfInBounds_toArray, List.set_cons_zero, List.set_cons_succ])
          have hr6 := hr5.only ((Only.refl wd.heap.size wz).setRow #[.int .i64 (R : Int), .int .u64 (fd : Int), .slice A5 m5 c5]) hne
          have HREL : Hid (CutC wr (R : Int) fd ld 0 (.pointer (some ⟨wd.heap.size, 0, none⟩)) (.int .i64 0) (wz.setRow wd.heap.size #[.int .i64 (R : Int), .int .u64 (fd : Int), .slice A5 m5 c5])) := ⟨wd.heap.size, A5, m5, c5, rfl, rfl, by omega, hRz.setRow [.int .i64 (R : Int), .int .u64 (fd : Int), .slice A5 m5 c5], HN5, hc5, hr6, hff, below_step hBd (below_setRow hbq (by omega) _)⟩
          (refine plan_make_of rfl (by rfl) (fun K hK => ?_); refine Row.wp_store 25 (.tmp 11) (.tmp 52) (by rfl) (by rfl) [.int .i64 (R : Int), .int .u64 (fd : Int), .slice A5 m5 c5] (by rfl) hRz (by exact size_cache) rfl (one_cache (R : Int) fd A5 m5 c5) ?_; simp only [List.getElem_toArray, List.getElem_cons_zero, List.getElem_cons_succ, Act.put, List.setIfInBounds_toArray, List.set_cons_zero, List.set_cons_succ]; refine hK.out _ _ (hS.keep (below_setRow hbq (by omega) _)) ?_; clear hK K)
          iterate 1 (refine plan_read rfl (by rfl) (v := ?_) ?_ ?_; rotate_left 1; (intro W hW; (try dsimp only at hW); obtain ⟨hW0, hW1⟩ := hW; go_simp <;> with_reducible rfl); simp only [List.getElem_toArray, List.getElem_cons_zero, List.getElem_cons_succ, Act.put, List.setIfInBounds_toArray, List.set_cons_zero, List.set_cons_succ])
          refine plan_done ?_
          go_wp2_with fail
          go_meet
          case rel => exact HREL.out
      case rest =>
        rename World => wx
        obtain ⟨bd, DA, dm, dc, rfl, rfl, hgd, hRd, HNd, hdc, hrd, hDA, hb1⟩ := hcut
        replace hown := ownsRowU_later hown hb1
        have hTl : ∀ b, (Value.slice TA T.length tc).ownBlock = some b → b < wx.heap.size := fun b h => (hown.lt b h).2
        replace hCr := hCr.later hb1
        replace hrc := hrc.keep hb1
        replace hB := below_step hB hb1
        have hsz1 := hb1.size
        have hcx := hCr.lt
        obtain ⟨fx, lx, q, hEq, hFx, hcase⟩ := once_put (u0, u1, u2) HI2.out HFd.out HU1.out
        have HPC : Hid (∀ W, Below wx.heap.size wx W → Calls Try.prog 12 #[.agg #[.int .i64 (R : Int), .int .u64 (fd : Int), .slice DA dm dc], .agg #[.int .u64 (u0 : Int), .int .u64 (u1 : Int), .int .u64 (u2 : Int)]] W (RetF W ((R : Int), fx, lx) q)) := fun W hW => by
          have := put19_any (R : Int) fd ld u0 u1 u2 dm dc DA W HNd (hrd.keep hW) HFd HU1 (by have := HNd.out; have := HLD.out; omega)
          rw [← hEq] at this
          exact this
        have HCASE := Lib.hid hcase
        have HFx := Lib.hid hFx
        clear hEq hFx hcase HRC hb1 HC0
        go_upto_region 15 with fail
        go_cut [13, 14] (fun vp ve wcut => CutC wx (R : Int) fx lx q vp ve wcut)
        case first =>
          have hBd : Below wx.heap.size wx wx.drew := (Below.refl _ _).drew
          have hS : CsS bd (R : Int) fd DA dm dc (fun W' => W'.cell? ⟨ab, ao + k * 3, none⟩ = some (.int .u64 (u0 : Int)) ∧ W'.cell? ⟨ab, ao + k * 3 + 1, none⟩ = some (.int .u64 (u1 : Int)) ∧ W'.cell? ⟨ab, ao + k * 3 + 2, none⟩ = some (.int .u64 (u2 : Int))) wx.drew := CsS.of (hRd.later hBd) (fun W' hW => HU0.out W' (below_step (below_step hB hBd) hW))
          refine wp_region_plan_of (csS bd (R : Int) fd DA dm dc (fun W' => W'.cell? ⟨ab, ao + k * 3, none⟩ = some (.int .u64 (u0 : Int)) ∧ W'.cell? ⟨ab, ao + k * 3 + 1, none⟩ = some (.int .u64 (u1 : Int)) ∧ W'.cell? ⟨ab, ao + k * 3 + 2, none⟩ = some (.int .u64 (u2 : Int)))) (.step 0 false (.step 1 false (.step 2 false (.step 3 false (.step 4 false (.fork 5 (.step 6 false (.step 7 false (.step 8 false (.step 9 true (.step 10 true (.step 11 false (.nil))))))) 9 (.step 5 true (.step 6 false (.step 7 false (.step 8 false (.step 10 true (.step 11 false (.nil))))))))))))) hS.now (by kernel_rfl) (by kernel_rfl) (by rfl) (by kernel_rfl) ?_
          generalize wx.drew = wd at hBd hS ⊢
          have hBs := hBd.size
          iterate 5 (refine plan_read rfl (by rfl) (v := ?_) ?_ ?_; rotate_left 1; (intro W hW; (try dsimp only at hW); obtain ⟨hW0, hW1⟩ := hW; go_simp <;> with_reducible rfl); simp only [List.getElem_toArray, List.getElem_cons_zero, List.getElem_cons_succ, Act.put, List.setIfInBounds_toArray, List.set_cons_zero, List.set_cons_succ])
          refine plan_fork rfl rfl (by rfl) (by rfl) (fun K hK => ?_) (fun K hK => ?_)
          · go_simp
            refine (HPC.out wd hBd).mono ?_
            rintro e wy ⟨A5, m5, c5, rfl, HN5, hc5, hr5, hf5, hbw⟩
            refine hK.out _ _ (hS.keep hbw) ?_
            clear hK K
            unfold aggC
            dsimp only at HN5 hr5 ⊢
            iterate 3 (refine plan_read rfl (by rfl) (v := ?_) ?_ ?_; rotate_left 1; (intro W hW; (try dsimp only at hW); obtain ⟨hW0, hW1⟩ := hW; go_simp <;> with_reducible rfl); simp only [List.getElem_toArray, List.getElem_cons_zero, List.getElem_cons_succ, Act.put, List.setIfInBounds_toArray, List.set_cons_zero, List.set_cons_succ])
            refine plan_make_of rfl (by rfl) (fun K hK => ?_)
            obtain ⟨hRz, hbz⟩ := box_of wy 25 [.int .i64 0, .int .u64 0, .slice none 0 0] _ rfl
            go_simp
            have hbq := below_step hbw hbz
            refine hK.out _ _ (hS.keep hbq) ?_
            clear hK K
            have hne : lx ≠ [] → ∀ a, A5 = some a → a.block ≠ wy.heap.size := fun hn a ha => by
              have := hr5.off hn a ha
              omega
            have hff : ∀ a, A5 = some a → wx.heap.size ≤ a.block := fun a ha => by
              have := hf5 a ha
              omega
            replace hr5 := hr5.keep hbz
            have hgz : wd.heap.size ≤ wy.heap.size := hbw.size
            clear hbw hbz hf5
            generalize wy.alloc (.cells [.int .i64 0, .int .u64 0, .slice none 0 0].toArray 25) = wz at hRz hbq hr5 ⊢
            generalize wy.heap.size = gz at hRz hgz hne ⊢
            have hr6 := hr5.only ((Only.refl gz wz).setRow #[.int .i64 (R : Int), .int .u64 (fx : Int), .slice A5 m5 c5]) hne
            have HREL : Hid (CutC wx (R : Int) fx lx q (.pointer (some ⟨gz, 0, none⟩)) (.int .i64 q) (wz.setRow gz #[.int .i64 (R : Int), .int .u64 (fx : Int), .slice A5 m5 c5])) := ⟨gz, A5, m5, c5, rfl, rfl, by omega, hRz.setRow [.int .i64 (R : Int), .int .u64 (fx : Int), .slice A5 m5 c5], HN5, hc5, hr6, hff, below_step hBd (below_setRow hbq (by omega) _)⟩
            (refine plan_make_of rfl (by rfl) (fun K hK => ?_); refine Row.wp_store 25 (.tmp 13) (.tmp 63) (by rfl) (by rfl) [.int .i64 (R : Int), .int .u64 (fx : Int), .slice A5 m5 c5] (by rfl) hRz (by exact size_cache) rfl (one_cache (R : Int) fx A5 m5 c5) ?_; simp only [List.getElem_toArray, List.getElem_cons_zero, List.getElem_cons_succ, Act.put, List.setIfInBounds_toArray, List.set_cons_zero, List.set_cons_succ]; refine hK.out _ _ (hS.keep (below_setRow hbq (by omega) _)) ?_; clear hK K)
            iterate 1 (refine plan_read rfl (by rfl) (v := ?_) ?_ ?_; rotate_left 1; (intro W hW; (try dsimp only at hW); obtain ⟨hW0, hW1⟩ := hW; go_simp <;> with_reducible rfl); simp only [List.getElem_toArray, List.getElem_cons_zero, List.getElem_cons_succ, Act.put, List.setIfInBounds_toArray, List.set_cons_zero, List.set_cons_succ])
            refine plan_done ?_
            go_wp2_with fail
            go_meet
            case rel => exact HREL.out
          · obtain ⟨hRz, hbz⟩ := box_of wd 25 [.int .i64 0, .int .u64 0, .slice none 0 0] _ rfl
            go_simp
            have hbq := below_step (Below.refl wd.heap.size wd) hbz
            refine hK.out _ _ (hS.keep hbq) ?_
            clear hK K hbz
            generalize wd.alloc (.cells [.int .i64 0, .int .u64 0, .slice none 0 0].toArray 25) = wq at hRz hbq ⊢
            refine plan_make_of rfl (by rfl) (fun K hK => ?_)
            go_simp
            refine (HPC.out wq (below_step hBd hbq)).mono ?_
            rintro e wz ⟨A5, m5, c5, rfl, HN5, hc5, hr5, hf5, hby⟩
            have hsq := hbq.size
            have hne : lx ≠ [] → ∀ a, A5 = some a → a.block ≠ wd.heap.size := fun _ a ha => by
              have := hf5 a ha
              have := hRz.lt
              omega
            have hff : ∀ a, A5 = some a → wx.heap.size ≤ a.block := fun a ha => by
              have := hf5 a ha
              omega
            replace hRz := hRz.later hby
            replace hbq := below_step hbq hby
            refine hK.out _ _ (hS.keep hbq) ?_
            clear hK K
            unfold aggC
            dsimp only at HN5 hr5 ⊢
            iterate 3 (refine plan_read rfl (by rfl) (v := ?_) ?_ ?_; rotate_left 1; (intro W hW; (try dsimp only at hW); obtain ⟨hW0, hW1⟩ := hW; go_simp <;> with_reducible rfl); simp only [List.getElem_toArray, List.getElem_cons_zero, List.getElem_cons_succ, Act.put, List.setIfInBounds_toArray, List.set_cons_zero, List.set_cons_succ])
            have hr6 := hr5.only ((Only.refl wd.heap.size wz).setRow #[.int .i64 (R : Int), .int .u64 (fx : Int), .slice A5 m5 c5]) hne
            have HREL : Hid (CutC wx (R : Int) fx lx q (.pointer (some ⟨wd.heap.size, 0, none⟩)) (.int .i64 q) (wz.setRow wd.heap.size #[.int .i64 (R : Int), .int .u64 (fx : Int), .slice A5 m5 c5])) := ⟨wd.heap.size, A5, m5, c5, rfl, rfl, by omega, hRz.setRow [.int .i64 (R : Int), .int .u64 (fx : Int), .slice A5 m5 c5], HN5, hc5, hr6, hff, below_step hBd (below_setRow hbq (by omega) _)⟩
            (refine plan_make_of rfl (by rfl) (fun K hK => ?_); refine Row.wp_store 25 (.tmp 13) (.tmp 63) (by rfl) (by rfl) [.int .i64 (R : Int), .int .u64 (fx : Int), .slice A5 m5 c5] (by rfl) hRz (by exact size_cache) rfl (one_cache (R : Int) fx A5 m5 c5) ?_; simp only [List.getElem_toArray, List.getElem_cons_zero, List.getElem_cons_succ, Act.put, List.setIfInBounds_toArray, List.set_cons_zero, List.set_cons_succ]; refine hK.out _ _ (hS.keep (below_setRow hbq (by omega) _)) ?_; clear hK K)
            iterate 1 (refine plan_read rfl (by rfl) (v := ?_) ?_ ?_; rotate_left 1; (intro W hW; (try dsimp only at hW); obtain ⟨hW0, hW1⟩ := hW; go_simp <;> with_reducible rfl); simp only [List.getElem_toArray, List.getElem_cons_zero, List.getElem_cons_succ, Act.put, List.setIfInBounds_toArray, List.set_cons_zero, List.set_cons_succ])
            refine plan_done ?_
            go_wp2_with fail
            go_meet
            case rel => exact HREL.out
        case rest =>
          rename World => wy
          obtain ⟨bx, XA, xm, xc, rfl, rfl, hgx, hRx, HNx, hxc, hrx, hXA, hb2⟩ := hcut
          replace hown := ownsRowU_later hown hb2
          replace hCr := hCr.later hb2
          replace hrc := hrc.keep hb2
          replace hRd := hRd.later hb2
          replace hrd := hrd.keep hb2
          replace hB := below_step hB hb2
          have hsz2 := hb2.size
          have hcl := hCr.lt
          have HTW : Hid (∀ b, (Value.slice TA T.length tc).ownBlock = some b → b < wx.heap.size) := hTl
          have HXL : Hid (lx.length ≤ 65) := by
            have h1 := HCASE.out
            rcases h1 with ⟨_, _, _, h⟩ | ⟨_, _, _, _, h⟩ <;> (have := h.len.1; unfold Hid; omega)
          obtain ⟨tn, htn⟩ : ∃ tn, tn = T.length := ⟨_, rfl⟩
          rw [← htn] at hown hTk HTW ⊢
          have HTN := Lib.hid htn.symm
          clear HPC hb2 htn hTl hrc hCA
          go_wp2_with fail
          go_loopw [15, 16] (fun b i wq => (∃ j : Nat, i = .int .i64 (j : Int) ∧ j ≤ tn ∧ b = .bool (decide ((u0, u1, u2) ∈ T.take j))) ∧ Below wy.heap.size wy wq) (fun _ i _ => tn - (intOf i).toNat)
          case atStart => exact ⟨⟨0, rfl, Nat.zero_le _, by simp⟩, Below.refl _ _⟩
          case round =>
            rename World => wq
            obtain ⟨⟨j, rfl, hj, rfl⟩, hBq⟩ := hrel
            by_cases hjl : j < tn
            · have hjT : j < T.length := by rw [HTN.out]; exact hjl
              obtain ⟨tb, oo, hte, htb, _, t0, t1, t2⟩ := (RdU.own hown).pair hjT
              have HT1 : Hid (decide ((u0, u1, u2) ∈ T.take (j + 1)) = (decide ((u0, u1, u2) ∈ T.take j) || decide (T[j] = (u0, u1, u2)))) := by
                unfold Hid
                rw [List.take_succ_eq_append_getElem hjT, Bool.eq_iff_iff, Bool.or_eq_true, decide_eq_true_iff, decide_eq_true_iff, decide_eq_true_iff, List.mem_append, List.mem_singleton]
                exact or_congr_right eq_comm
              generalize T[j] = x at t0 t1 t2 HT1
              generalize decide ((u0, u1, u2) ∈ T.take j) = bj at HT1 ⊢
              obtain ⟨x0, x1, x2⟩ := x
              unfold vNU at t0 t1 t2
              dsimp only at t0 t1 t2
              have d0 : ∀ W, Below wq.heap.size wq W → W.cell? ⟨tb, oo + j * 3, none⟩ = some (.int .u64 (x0 : Int)) := fun W hW => ((hBq.trans (hW.mono hBq.size)).cell (p := ⟨tb, oo + j * 3, none⟩) htb).trans t0
              have d1 : ∀ W, Below wq.heap.size wq W → W.cell? ⟨tb, oo + j * 3 + 1, none⟩ = some (.int .u64 (x1 : Int)) := fun W hW => ((hBq.trans (hW.mono hBq.size)).cell (p := ⟨tb, oo + j * 3 + 1, none⟩) htb).trans t1
              have d2 : ∀ W, Below wq.heap.size wq W → W.cell? ⟨tb, oo + j * 3 + 2, none⟩ = some (.int .u64 (x2 : Int)) := fun W hW => ((hBq.trans (hW.mono hBq.size)).cell (p := ⟨tb, oo + j * 3 + 2, none⟩) htb).trans t2
              have d3 : ∀ W, Below wq.heap.size wq W → W.cell? ⟨ab, ao + k * 3, none⟩ = some (.int .u64 (u0 : Int)) := fun W hW => (HU0.out W (below_step (below_step hB hBq) hW)).1
              have d4 : ∀ W, Below wq.heap.size wq W → W.cell? ⟨ab, ao + k * 3 + 1, none⟩ = some (.int .u64 (u1 : Int)) := fun W hW => (HU0.out W (below_step (below_step hB hBq) hW)).2.1
              have d5 : ∀ W, Below wq.heap.size wq W → W.cell? ⟨ab, ao + k * 3 + 2, none⟩ = some (.int .u64 (u2 : Int)) := fun W hW => (HU0.out W (below_step (below_step hB hBq) hW)).2.2
              subst hte
              have q0 : (0 : Int) ≤ (j : Int) := by omega
              have q1 : (j : Int) < (tn : Int) := by omega
              have HQB := Lib.hid hBq
              clear t0 t1 t2 hBq
              go_wp2_with fail
              have hBase := (Below.refl wq.heap.size wq).drew
              refine wp_region_plan (.step 0 false (.step 1 false (.step 2 false (.step 3 false (.step 4 false (.step 5 false (.step 6 false (.step 7 false (.step 8 false (.step 9 false (.step 10 false (.step 11 false (.step 12 false (.nil)))))))))))))) (by kernel_rfl) (by kernel_rfl) (by rfl) (by kernel_rfl) ?_
              cases bj with
              | true =>
                iterate 2 (refine plan_read rfl (by rfl) (v := ?_) ?_ ?_; rotate_left 1; (intro W hW; have hW0 := below_step hBase hW; (try dsimp only at hW); go_simp <;> with_reducible rfl); simp only [List.getElem_toArray, List.getElem_cons_zero, List.getElem_cons_succ, Act.put, List.setIfInBounds_toArray, List.set_cons_zero, List.set_cons_succ])
                iterate 9 (refine plan_skip rfl (by rfl) ?_; simp only [List.getElem_toArray, List.getElem_cons_zero, List.getElem_cons_succ, Act.put, List.setIfInBounds_toArray, List.set_cons_zero, List.set_cons_succ])
                iterate 2 (refine plan_read rfl (by rfl) (v := ?_) ?_ ?_; rotate_left 1; (intro W hW; have hW0 := below_step hBase hW; (try dsimp only at hW); go_simp <;> with_reducible rfl); simp only [List.getElem_toArray, List.getElem_cons_zero, List.getElem_cons_succ, Act.put, List.setIfInBounds_toArray, List.set_cons_zero, List.set_cons_succ])
                refine plan_done ?_
                have HB9 := Lib.hid (below_step HQB.out hBase)
                go_wp2_with fail
                go_roundw
                case rel => exact ⟨⟨j + 1, by go_num, by omega, by rw [HT1.out]; rfl⟩, HB9.out⟩
                case measure => simp [intOf]; omega
              | false =>
                have hq := fun W => eq_use x0 x1 x2 u0 u1 u2 W
                have hgd := fun op x y xs ys W => guard_use op x y xs ys W
                generalize decide ((x0, x1, x2) = (u0, u1, u2)) = r at hq HT1
                iterate 13 (refine plan_read rfl (by rfl) (v := ?_) ?_ ?_; rotate_left 1; (intro W hW; have hW0 := below_step hBase hW; (try dsimp only at hW); go_simp <;> with_reducible rfl); simp only [List.getElem_toArray, List.getElem_cons_zero, List.getElem_cons_succ, Act.put, List.setIfInBounds_toArray, List.set_cons_zero, List.set_cons_succ])
                refine plan_done ?_
                clear hq hgd
                have HB9 := Lib.hid (below_step HQB.out hBase)
                go_wp2_with fail
                go_roundw
                case rel => exact ⟨⟨j + 1, by go_num, by omega, by rw [HT1.out]; rfl⟩, HB9.out⟩
                case measure => simp [intOf]; omega
            · have hjt : T.take j = T := List.take_of_length_le (by have := HTN.out; omega)
              rw [hjt]
              clear hjt
              have q1 : ¬ (j : Int) < (tn : Int) := by omega
              rcases HCASE.out with ⟨hq0, hnT, hul, hinv⟩ | ⟨hq0, hfe, hle, hqq, hinv⟩
              · subst hq0
                have hbT : decide ((u0, u1, u2) ∈ T) = false := decide_eq_false hnT
                rw [hbT]
                have HHAS : Hid (hasU lx (u0, u1, u2) = true) := by unfold Hid hasU; exact decide_eq_true hul
                have HINV0 := Lib.hid hinv
                clear hbT hnT hul hinv HCASE
                have hRxq := hRx.later hBq
                have d0 : ∀ W, Below wq.heap.size wq W → W.cell? ⟨bx, 0, none⟩ = some (.int .i64 (R : Int)) := fun W hW => (hRxq.later hW).cell rfl
                have d1 : ∀ W, Below wq.heap.size wq W → W.cell? ⟨bx, 1, none⟩ = some (.int .u64 (fx : Int)) := fun W hW => (hRxq.later hW).cell rfl
                have d2 : ∀ W, Below wq.heap.size wq W → W.cell? ⟨bx, 2, none⟩ = some (.slice XA xm xc) := fun W hW => (hRxq.later hW).cell rfl
                have d3 : ∀ W, Below wq.heap.size wq W → W.cell? ⟨ab, ao + k * 3, none⟩ = some (.int .u64 (u0 : Int)) := fun W hW => (HU0.out W (below_step (below_step hB hBq) hW)).1
                have d4 : ∀ W, Below wq.heap.size wq W → W.cell? ⟨ab, ao + k * 3 + 1, none⟩ = some (.int .u64 (u1 : Int)) := fun W hW => (HU0.out W (below_step (below_step hB hBq) hW)).2.1
                have d5 : ∀ W, Below wq.heap.size wq W → W.cell? ⟨ab, ao + k * 3 + 2, none⟩ = some (.int .u64 (u2 : Int)) := fun W hW => (HU0.out W (below_step (below_step hB hBq) hW)).2.2
                go_wp2_with fail
                have hBase := (Below.refl wq.heap.size wq).drew
                refine wp_region_plan (.step 0 false (.step 1 false (.step 2 false (.step 3 false (.step 4 false (.step 5 false (.step 6 false (.step 7 true (.step 8 false (.step 9 false (.nil))))))))))) (by kernel_rfl) (by kernel_rfl) (by rfl) (by kernel_rfl) ?_
                iterate 7 (refine plan_read rfl (by rfl) (v := ?_) ?_ ?_; rotate_left 1; (intro W hW; have hW0 := below_step hBase hW; (try dsimp only at hW); go_simp <;> with_reducible rfl); simp only [List.getElem_toArray, List.getElem_cons_zero, List.getElem_cons_succ, Act.put, List.setIfInBounds_toArray, List.set_cons_zero, List.set_cons_succ])
                (refine plan_make rfl (by rfl) (fun K hK => ?_); go_simp; (refine (has19_any (R : Int) fx lx u0 u1 u2 xm xc XA _ HNx ((hrx.keep hBq).keep hBase) (by have := HNx.out; have := HXL.out; omega)).mono ?_; rw [HHAS.out]; rintro e₁ wv ⟨rfl, hbx⟩); refine hK.out _ _ hbx ?_; clear hK K; replace hBase := below_step hBase hbx)
                iterate 2 (refine plan_read rfl (by rfl) (v := ?_) ?_ ?_; rotate_left 1; (intro W hW; have hW0 := below_step hBase hW; (try dsimp only at hW); go_simp <;> with_reducible rfl); simp only [List.getElem_toArray, List.getElem_cons_zero, List.getElem_cons_succ, Act.put, List.setIfInBounds_toArray, List.set_cons_zero, List.set_cons_succ])
                refine plan_done ?_
                have hBv := below_step hBq hBase
                replace hown := ownsRowU_later hown hBv
                replace hCr := hCr.later hBv
                replace hRx := hRx.later hBv
                replace hrx := hrx.keep hBv
                replace hB := below_step hB hBv
                have hszv := hBv.size
                obtain ⟨e0, e1, e2⟩ := HU0.out wv hB
                clear d0 d1 d2 d3 d4 d5 hBase hRxq hBv hBq
                go_upto_region 27 with (at_builtin; refine wpList_append_rdU _ rfl (.tmp 95) (.tmp 100) 23 rfl (bc + 1) 27 j0 (.agg #[.int .u64 0, .int .u64 0, .int .u64 0]) 24 Try.underlying23 hj0 gz0 gz1 gz2 rfl _ _ _ rfl (hown.alloc _) (some ⟨wv.heap.size, 0, none⟩) [(u0, u1, u2)] 1 rfl (RdU.one _ _ _ _ _) (by simp; unfold maxLen; omega) (by simp; omega) (by simp; omega) ?_; intro v7 w7 hown7 hgrow7 hat7)
                have hbm := below_new (Below.refl wv.heap.size wv) (.cells #[.int .u64 (u0 : Int), .int .u64 (u1 : Int), .int .u64 (u2 : Int)] 27)
                obtain ⟨T2, hT2⟩ : ∃ T2, T2 = T ++ [(u0, u1, u2)] := ⟨_, rfl⟩
                have hl2 : T2.length = tn + 1 := by rw [hT2, List.length_append, HTN.out]; rfl
                have hown8 : w7.ownsRow (bc + 1) 27 3 v7 T2.length (cellsU T2) := by
                  rw [hl2, hT2, cellsU_app]
                  exact hown7
                obtain ⟨A7, c7, rfl, _, _, _⟩ := own_sliceU hown8
                obtain ⟨tm, htm⟩ : ∃ tm, tm = T2.length := ⟨_, rfl⟩
                rw [← htm] at hown8 hat7 hl2 ⊢
                have HTM := Lib.hid htm.symm
                have htk2 : tm ≤ k + 1 := by omega
                have HINV : Hid (OnceI (R : Int) T2 fx lx) := by unfold Hid; rw [hT2]; exact HINV0.out
                have HFT2 : Hid (fitU T2) := fun x hx => by
                  rw [hT2] at hx
                  rcases List.mem_append.1 hx with hx | hx
                  · exact HFT.out x hx
                  · rw [List.mem_singleton] at hx
                    rw [hx]
                    exact HU1.out
                have hXA7 : lx ≠ [] → ∀ a, XA = some a → bc < a.block ∧ (Value.slice A7 tm c7).ownBlock ≠ some a.block := fun hn a ha => by
                  have h1 := hXA a ha
                  have h2 := hrx.off hn a ha
                  refine ⟨by omega, fun e => ?_⟩
                  rcases hat7 with h | h
                  · rw [h] at e
                    have := HTW.out _ e
                    omega
                  · rw [h] at e
                    injection e with e
                    simp at e
                    omega
                have hCr7 := (hCr.later hbm).grown hgrow7 (fun e => by have := (hown.lt _ e).1; omega)
                have hRx7 := (hRx.later hbm).grown hgrow7 (fun e => by have := HTW.out _ e; omega)
                have hrx7 := (hrx.keep hbm).grown hgrow7 (fun hn a ha e => by have := HTW.out _ e; have := hXA a ha; omega)
                have hB7 : Below w.heap.size w w7 := (below_step hB hbm).grown hgrow7 (by have := hB.size; simp; omega) (fun b hb => by have := (hown.lt b hb).1; omega)
                clear hCr hRx hrx hB hgrow7 hat7 hown7 hown hbm hT2 htm e0 e1 e2 HINV0 hl2 hTk
                have hCr := hCr7
                have hRx := hRx7
                have hrx := hrx7
                have hB := hB7
                clear hCr7 hRx7 hrx7 hB7
                have hrw : Row (w7.setRow bc #[.int .i64 (R : Int), .int .u64 (fx : Int), .slice XA xm xc]) bc 25 [.int .i64 (R : Int), .int .u64 (fx : Int), .slice XA xm xc] := hCr.setRow [.int .i64 (R : Int), .int .u64 (fx : Int), .slice XA xm xc]
                have hon : Only bc w7 (w7.setRow bc #[.int .i64 (R : Int), .int .u64 (fx : Int), .slice XA xm xc]) := (Only.refl _ _).setRow _
                have hrx2 := hrx.only hon (fun hn a ha => by have := (hXA7 hn a ha).1; omega)
                have hown2 := ownsRowU_only hown8 hon (Nat.lt_succ_self bc)
                have hB2 : Below w.heap.size w (w7.setRow bc #[.int .i64 (R : Int), .int .u64 (fx : Int), .slice XA xm xc]) := below_setRow hB (by omega) _
                go_upto_region 28 with (first
                  | (refine wpList_load_part rfl 25 (.tmp 13) rfl bx 0 rfl _ _ hRx [.int .i64 (R : Int), .int .u64 (fx : Int), .slice XA xm xc] (by rfl) _ Try.underlying25 rfl (by exact size_cache) ?_)
                  | (refine wpList_store_row rfl 25 (.tmp 7) (.tmp 117) rfl bc rfl [.int .i64 (R : Int), .int .u64 (fx : Int), .slice XA xm xc] rfl _ _ hCr (by exact size_cache) rfl (one_cache (R : Int) fx XA xm xc) ?_))
                clear hCr hrx hon hRx hB
                generalize w7.setRow bc #[.int .i64 (R : Int), .int .u64 (fx : Int), .slice XA xm xc] = wt at hrw hrx2 hown2 hB2 ⊢
                have hrT2 := RdU.own hown2
                have hpt : (T2).length = tm := by exact HTM.out
                go_wp2_with fail
                go_loopw [17] (fun i wq => (∃ j : Nat, i = .int .i64 (j : Int) ∧ j ≤ tm) ∧ Below wt.heap.size wt wq) (fun i _ => tm - (intOf i).toNat)
                case atStart => exact ⟨⟨0, rfl, Nat.zero_le _⟩, Below.refl _ _⟩
                case round =>
                  rename World => wq
                  obtain ⟨⟨j, rfl, hj⟩, hBq⟩ := hrel
                  by_cases hjl : j < tm
                  · have hjT : j < (T2).length := by rw [hpt]; exact hjl
                    obtain ⟨tb, oo, hte, htb, _, t0, t1, t2⟩ := hrT2.pair hjT
                    have HSN : Hid (hasU lx (T2)[j] = decide (fx ≤ (T2)[j].2.2)) := by
                      unfold Hid hasU
                      rw [decide_eq_decide]
                      exact HINV.out.seen _ (List.getElem_mem hjT)
                    generalize (T2)[j] = x at t0 t1 t2 HSN
                    obtain ⟨x0, x1, x2⟩ := x
                    unfold vNU at t0 t1 t2
                    dsimp only at t0 t1 t2 HSN
                    have d0 : ∀ W, Below wq.heap.size wq W → W.cell? ⟨tb, oo + j * 3, none⟩ = some (.int .u64 (x0 : Int)) := fun W hW => ((hBq.trans (hW.mono hBq.size)).cell (p := ⟨tb, oo + j * 3, none⟩) htb).trans t0
                    have d1 : ∀ W, Below wq.heap.size wq W → W.cell? ⟨tb, oo + j * 3 + 1, none⟩ = some (.int .u64 (x1 : Int)) := fun W hW => ((hBq.trans (hW.mono hBq.size)).cell (p := ⟨tb, oo + j * 3 + 1, none⟩) htb).trans t1
                    have d2 : ∀ W, Below wq.heap.size wq W → W.cell? ⟨tb, oo + j * 3 + 2, none⟩ = some (.int .u64 (x2 : Int)) := fun W hW => ((hBq.trans (hW.mono hBq.size)).cell (p := ⟨tb, oo + j * 3 + 2, none⟩) htb).trans t2
                    have hrq := hrw.later hBq
                    have d3 : ∀ W, Below wq.heap.size wq W → W.cell? ⟨bc, 0, none⟩ = some (.int .i64 (R : Int)) := fun W hW => (hrq.later hW).cell rfl
                    have d4 : ∀ W, Below wq.heap.size wq W → W.cell? ⟨bc, 1, none⟩ = some (.int .u64 (fx : Int)) := fun W hW => (hrq.later hW).cell rfl
                    have d5 : ∀ W, Below wq.heap.size wq W → W.cell? ⟨bc, 2, none⟩ = some (.slice XA xm xc) := fun W hW => (hrq.later hW).cell rfl
                    subst hte
                    have q0 : (0 : Int) ≤ (j : Int) := by omega
                    have q1 : (j : Int) < (tm : Nat) := by omega
                    have HQX := Lib.hid (hrx2.keep hBq)
                    have HQB := Lib.hid hBq
                    clear t0 t1 t2 hrq
                    go_wp2_with fail
                    have hBase := (Below.refl wq.heap.size wq).drew
                    refine wp_region_plan (.step 0 false (.step 1 false (.step 2 false (.step 3 false (.step 4 false (.step 6 false (.step 7 false (.step 8 false (.step 9 false (.step 10 false (.step 11 false (.step 12 false (.step 13 false (.step 5 true (.step 14 false (.nil)))))))))))))))) (by kernel_rfl) (by kernel_rfl) (by rfl) (by kernel_rfl) ?_
                    by_cases hle : fx ≤ x2
                    · have hdI : decide ((fx : Int) ≤ (x2 : Int)) = true := decide_eq_true (by omega)
                      have hdN : decide (fx ≤ x2) = true := decide_eq_true hle
                      iterate 13 (refine plan_read rfl (by rfl) (v := ?_) ?_ ?_; rotate_left 1; (intro W hW; have hW0 := below_step hBase hW; (try dsimp only at hW); go_simp <;> with_reducible rfl); simp only [List.getElem_toArray, List.getElem_cons_zero, List.getElem_cons_succ, Act.put, List.setIfInBounds_toArray, List.set_cons_zero, List.set_cons_succ])
                      (refine plan_make rfl (by rfl) (fun K hK => ?_); go_simp; (refine (has19_any (R : Int) fx lx x0 x1 x2 xm xc XA _ HNx (HQX.out.keep hBase) (by have := HNx.out; have := HXL.out; omega)).mono ?_; rw [HSN.out, hdN]; rintro e₁ wv ⟨rfl, hbx⟩); refine hK.out _ _ hbx ?_; clear hK K; replace hBase := below_step hBase hbx)
                      iterate 1 (refine plan_read rfl (by rfl) (v := ?_) ?_ ?_; rotate_left 1; (intro W hW; have hW0 := below_step hBase hW; (try dsimp only at hW); go_simp <;> with_reducible rfl); simp only [List.getElem_toArray, List.getElem_cons_zero, List.getElem_cons_succ, Act.put, List.setIfInBounds_toArray, List.set_cons_zero, List.set_cons_succ])
                      refine plan_done ?_
                      have HB9 := Lib.hid (below_step HQB.out hBase)
                      go_wp2_with fail
                      go_roundw
                      case rel => exact ⟨⟨j + 1, by go_num, by omega⟩, HB9.out⟩
                      case measure => simp [intOf]; omega
                    · have hdI : decide ((fx : Int) ≤ (x2 : Int)) = false := decide_eq_false (by omega)
                      have hdN : decide (fx ≤ x2) = false := decide_eq_false hle
                      iterate 13 (refine plan_read rfl (by rfl) (v := ?_) ?_ ?_; rotate_left 1; (intro W hW; have hW0 := below_step hBase hW; (try dsimp only at hW); go_simp <;> with_reducible rfl); simp only [List.getElem_toArray, List.getElem_cons_zero, List.getElem_cons_succ, Act.put, List.setIfInBounds_toArray, List.set_cons_zero, List.set_cons_succ])
                      (refine plan_make rfl (by rfl) (fun K hK => ?_); go_simp; (refine (has19_any (R : Int) fx lx x0 x1 x2 xm xc XA _ HNx (HQX.out.keep hBase) (by have := HNx.out; have := HXL.out; omega)).mono ?_; rw [HSN.out, hdN]; rintro e₁ wv ⟨rfl, hbx⟩); refine hK.out _ _ hbx ?_; clear hK K; replace hBase := below_step hBase hbx)
                      iterate 1 (refine plan_read rfl (by rfl) (v := ?_) ?_ ?_; rotate_left 1; (intro W hW; have hW0 := below_step hBase hW; (try dsimp only at hW); go_simp <;> with_reducible rfl); simp only [List.getElem_toArray, List.getElem_cons_zero, List.getElem_cons_succ, Act.put, List.setIfInBounds_toArray, List.set_cons_zero, List.set_cons_succ])
                      refine plan_done ?_
                      have HB9 := Lib.hid (below_step HQB.out hBase)
                      go_wp2_with fail
                      go_roundw
                      case rel => exact ⟨⟨j + 1, by go_num, by omega⟩, HB9.out⟩
                      case measure => simp [intOf]; omega
                  · have q1 : ¬ (j : Int) < (tm : Nat) := by omega
                    have HE : Hid (∀ i, i = Value.int .i64 ((k + 1 : Nat) : Int) → ROnce n (R : Int) bc w (.slice A7 tm c7) i wq) := fun i hi =>
                      ⟨k + 1, T2, fx, lx, XA, xm, xc, A7, c7, by rw [hpt], hi, by omega, by rw [hpt]; omega, HINV.out, HFx.out, HFT2.out, by rw [hpt]; exact ownsRowU_later hown2 hBq, hrw.later hBq, HNx, hxc, hrx2.keep hBq, (by rw [hpt]; exact hXA7), below_step hB2 hBq⟩
                    go_wp2_with fail
                    go_roundw
                    case rel => exact HE.out _ (by go_num)
                    case measure => simp [intOf]; omega
              · subst hfe
                subst hle
                have HINV := Lib.hid hinv
                have hRxq := hRx.later hBq
                have hRdq := hRd.later hBq
                have hrxq := hrx.keep hBq
                have hrdq := hrd.keep hBq
                have x0 := hRxq.cell (i := 0) rfl
                have x1 := hRxq.cell (i := 1) rfl
                have x2 := hRxq.cell (i := 2) rfl
                have z0 := hRdq.cell (i := 0) rfl
                have z1 := hRdq.cell (i := 1) rfl
                have z2 := hRdq.cell (i := 2) rfl
                generalize hbT : decide ((u0, u1, u2) ∈ T) = bT
                have HBT : Hid (bT = true → q = 11 ∨ q = 10) := fun h => hqq (of_decide_eq_true (hbT.trans h))
                have hXAe : lx ≠ [] → ∀ a, XA = some a → bc < a.block ∧ (Value.slice TA tn tc).ownBlock ≠ some a.block := fun hn a ha => ⟨by have := hXA a ha; omega, fun e => by have := HTW.out _ e; have := hXA a ha; omega⟩
                clear hbT hqq hinv HCASE
                go_upto_region 25 with fail
                go_cut [116] (fun v wz => v = .bool false ∧ Below wq.heap.size wq wz)
                case first =>
                  go_wp2_with fail
                  refine (same19_any (R : Int) (R : Int) fx fx lx lx xm dm xc dc XA DA _ HNx HNd hrxq hrdq (by have := HNx.out; have := HXL.out; omega)).mono ?_
                  rw [decide_eq_true rfl]
                  rintro e wz ⟨rfl, hbz⟩
                  cases bT with
                  | false =>
                    go_wp2_with fail
                    go_meet
                    case rel => exact ⟨rfl, hbz⟩
                  | true =>
                    rcases HBT.out rfl with rfl | rfl
                    · go_wp2_with fail
                      go_meet
                      case rel => exact ⟨rfl, hbz⟩
                    · go_wp2_with fail
                      go_meet
                      case rel => exact ⟨rfl, hbz⟩
                case rest =>
                  rename World => wz
                  obtain ⟨rfl, hbz⟩ := hcut
                  have hBz := below_step hBq hbz
                  replace hown := ownsRowU_later hown hBz
                  replace hCr := hCr.later hBz
                  replace hRx := hRx.later hBz
                  replace hrx := hrx.keep hBz
                  replace hB := below_step hB hBz
                  clear hRxq hRdq hrxq hrdq x0 x1 x2 z0 z1 z2 hBz hbz hBq
                  have hrw : Row (wz.setRow bc #[.int .i64 (R : Int), .int .u64 (fx : Int), .slice XA xm xc]) bc 25 [.int .i64 (R : Int), .int .u64 (fx : Int), .slice XA xm xc] := hCr.setRow [.int .i64 (R : Int), .int .u64 (fx : Int), .slice XA xm xc]
                  have hon : Only bc wz (wz.setRow bc #[.int .i64 (R : Int), .int .u64 (fx : Int), .slice XA xm xc]) := (Only.refl _ _).setRow _
                  have hrx2 := hrx.only hon (fun hn a ha => by have := (hXAe hn a ha).1; omega)
                  have hown2 := ownsRowU_only hown hon (Nat.lt_succ_self bc)
                  have hB2 : Below w.heap.size w (wz.setRow bc #[.int .i64 (R : Int), .int .u64 (fx : Int), .slice XA xm xc]) := below_setRow hB (by omega) _
                  go_upto_region 28 with (first
                    | (refine wpList_load_part rfl 25 (.tmp 13) rfl bx 0 rfl _ _ hRx [.int .i64 (R : Int), .int .u64 (fx : Int), .slice XA xm xc] (by rfl) _ Try.underlying25 rfl (by exact size_cache) ?_)
                    | (refine wpList_store_row rfl 25 (.tmp 7) (.tmp 117) rfl bc rfl [.int .i64 (R : Int), .int .u64 (fx : Int), .slice XA xm xc] rfl _ _ hCr (by exact size_cache) rfl (one_cache (R : Int) fx XA xm xc) ?_))
                  clear hCr hrx hon hRx hB
                  generalize wz.setRow bc #[.int .i64 (R : Int), .int .u64 (fx : Int), .slice XA xm xc] = wt at hrw hrx2 hown2 hB2 ⊢
                  have hrT2 := RdU.own hown2
                  have hpt : (T).length = tn := by exact HTN.out
                  go_wp2_with fail
                  go_loopw [17] (fun i wq => (∃ j : Nat, i = .int .i64 (j : Int) ∧ j ≤ tn) ∧ Below wt.heap.size wt wq) (fun i _ => tn - (intOf i).toNat)
                  case atStart => exact ⟨⟨0, rfl, Nat.zero_le _⟩, Below.refl _ _⟩
                  case round =>
                    rename World => wq
                    obtain ⟨⟨j, rfl, hj⟩, hBq⟩ := hrel
                    by_cases hjl : j < tn
                    · have hjT : j < (T).length := by rw [hpt]; exact hjl
                      obtain ⟨tb, oo, hte, htb, _, t0, t1, t2⟩ := hrT2.pair hjT
                      have HSN : Hid (hasU lx (T)[j] = decide (fx ≤ (T)[j].2.2)) := by
                        unfold Hid hasU
                        rw [decide_eq_decide]
                        exact HINV.out.seen _ (List.getElem_mem hjT)
                      generalize (T)[j] = x at t0 t1 t2 HSN
                      obtain ⟨x0, x1, x2⟩ := x
                      unfold vNU at t0 t1 t2
                      dsimp only at t0 t1 t2 HSN
                      have d0 : ∀ W, Below wq.heap.size wq W → W.cell? ⟨tb, oo + j * 3, none⟩ = some (.int .u64 (x0 : Int)) := fun W hW => ((hBq.trans (hW.mono hBq.size)).cell (p := ⟨tb, oo + j * 3, none⟩) htb).trans t0
                      have d1 : ∀ W, Below wq.heap.size wq W → W.cell? ⟨tb, oo + j * 3 + 1, none⟩ = some (.int .u64 (x1 : Int)) := fun W hW => ((hBq.trans (hW.mono hBq.size)).cell (p := ⟨tb, oo + j * 3 + 1, none⟩) htb).trans t1
                      have d2 : ∀ W, Below wq.heap.size wq W → W.cell? ⟨tb, oo + j * 3 + 2, none⟩ = some (.int .u64 (x2 : Int)) := fun W hW => ((hBq.trans (hW.mono hBq.size)).cell (p := ⟨tb, oo + j * 3 + 2, none⟩) htb).trans t2
                      have hrq := hrw.later hBq
                      have d3 : ∀ W, Below wq.heap.size wq W → W.cell? ⟨bc, 0, none⟩ = some (.int .i64 (R : Int)) := fun W hW => (hrq.later hW).cell rfl
                      have d4 : ∀ W, Below wq.heap.size wq W → W.cell? ⟨bc, 1, none⟩ = some (.int .u64 (fx : Int)) := fun W hW => (hrq.later hW).cell rfl
                      have d5 : ∀ W, Below wq.heap.size wq W → W.cell? ⟨bc, 2, none⟩ = some (.slice XA xm xc) := fun W hW => (hrq.later hW).cell rfl
                      subst hte
                      have q0 : (0 : Int) ≤ (j : Int) := by omega
                      have q1 : (j : Int) < (tn : Nat) := by omega
                      have HQX := Lib.hid (hrx2.keep hBq)
                      have HQB := Lib.hid hBq
                      clear t0 t1 t2 hrq
                      go_wp2_with fail
                      have hBase := (Below.refl wq.heap.size wq).drew
                      refine wp_region_plan (.step 0 false (.step 1 false (.step 2 false (.step 3 false (.step 4 false (.step 6 false (.step 7 false (.step 8 false (.step 9 false (.step 10 false (.step 11 false (.step 12 false (.step 13 false (.step 5 true (.step 14 false (.nil)))))))))))))))) (by kernel_rfl) (by kernel_rfl) (by rfl) (by kernel_rfl) ?_
                      by_cases hle : fx ≤ x2
                      · have hdI : decide ((fx : Int) ≤ (x2 : Int)) = true := decide_eq_true (by omega)
                        have hdN : decide (fx ≤ x2) = true := decide_eq_true hle
                        iterate 13 (refine plan_read rfl (by rfl) (v := ?_) ?_ ?_; rotate_left 1; (intro W hW; have hW0 := below_step hBase hW; (try dsimp only at hW); go_simp <;> with_reducible rfl); simp only [List.getElem_toArray, List.getElem_cons_zero, List.getElem_cons_succ, Act.put, List.setIfInBounds_toArray, List.set_cons_zero, List.set_cons_succ])
                        (refine plan_make rfl (by rfl) (fun K hK => ?_); go_simp; (refine (has19_any (R : Int) fx lx x0 x1 x2 xm xc XA _ HNx (HQX.out.keep hBase) (by have := HNx.out; have := HXL.out; omega)).mono ?_; rw [HSN.out, hdN]; rintro e₁ wv ⟨rfl, hbx⟩); refine hK.out _ _ hbx ?_; clear hK K; replace hBase := below_step hBase hbx)
                        iterate 1 (refine plan_read rfl (by rfl) (v := ?_) ?_ ?_; rotate_left 1; (intro W hW; have hW0 := below_step hBase hW; (try dsimp only at hW); go_simp <;> with_reducible rfl); simp only [List.getElem_toArray, List.getElem_cons_zero, List.getElem_cons_succ, Act.put, List.setIfInBounds_toArray, List.set_cons_zero, List.set_cons_succ])
                        refine plan_done ?_
                        have HB9 := Lib.hid (below_step HQB.out hBase)
                        go_wp2_with fail
                        go_roundw
                        case rel => exact ⟨⟨j + 1, by go_num, by omega⟩, HB9.out⟩
                        case measure => simp [intOf]; omega
                      · have hdI : decide ((fx : Int) ≤ (x2 : Int)) = false := decide_eq_false (by omega)
                        have hdN : decide (fx ≤ x2) = false := decide_eq_false hle
                        iterate 13 (refine plan_read rfl (by rfl) (v := ?_) ?_ ?_; rotate_left 1; (intro W hW; have hW0 := below_step hBase hW; (try dsimp only at hW); go_simp <;> with_reducible rfl); simp only [List.getElem_toArray, List.getElem_cons_zero, List.getElem_cons_succ, Act.put, List.setIfInBounds_toArray, List.set_cons_zero, List.set_cons_succ])
                        (refine plan_make rfl (by rfl) (fun K hK => ?_); go_simp; (refine (has19_any (R : Int) fx lx x0 x1 x2 xm xc XA _ HNx (HQX.out.keep hBase) (by have := HNx.out; have := HXL.out; omega)).mono ?_; rw [HSN.out, hdN]; rintro e₁ wv ⟨rfl, hbx⟩); refine hK.out _ _ hbx ?_; clear hK K; replace hBase := below_step hBase hbx)
                        iterate 1 (refine plan_read rfl (by rfl) (v := ?_) ?_ ?_; rotate_left 1; (intro W hW; have hW0 := below_step hBase hW; (try dsimp only at hW); go_simp <;> with_reducible rfl); simp only [List.getElem_toArray, List.getElem_cons_zero, List.getElem_cons_succ, Act.put, List.setIfInBounds_toArray, List.set_cons_zero, List.set_cons_succ])
                        refine plan_done ?_
                        have HB9 := Lib.hid (below_step HQB.out hBase)
                        go_wp2_with fail
                        go_roundw
                        case rel => exact ⟨⟨j + 1, by go_num, by omega⟩, HB9.out⟩
                        case measure => simp [intOf]; omega
                    · have q1 : ¬ (j : Int) < (tn : Nat) := by omega
                      have HE : Hid (∀ i, i = Value.int .i64 ((k + 1 : Nat) : Int) → ROnce n (R : Int) bc w (.slice TA tn tc) i wq) := fun i hi =>
                        ⟨k + 1, T, fx, lx, XA, xm, xc, TA, tc, by rw [hpt], hi, by omega, by rw [hpt]; omega, HINV.out, HFx.out, HFT.out, by rw [hpt]; exact ownsRowU_later hown2 hBq, hrw.later hBq, HNx, hxc, hrx2.keep hBq, (by rw [hpt]; exact hXAe), below_step hB2 hBq⟩
                      go_wp2_with fail
                      go_roundw
                      case rel => exact HE.out _ (by go_num)
                      case measure => simp [intOf]; omega
    · have j1 : ¬ (k : Int) < (n : Int) := by omega
      have hlen := hI.len
      have HRT := Lib.hid hI.right
      have HFL : Hid (fitU lc) := hFl
      have hmR : (m : Int) ≤ (R : Int) := by
        have h1 := hlen.2
        rw [HNl.out] at h1
        exact h1
      have x0 := hCr.cell (i := 0) rfl
      have x1 := hCr.cell (i := 1) rfl
      have x2 := hCr.cell (i := 2) rfl
      clear hI hFl
      go_wp2_with fail
      refine (right19_any (R : Int) fl lc m cap CA _ HNl hrc HFL (by have := HNl.out; omega)).mono ?_
      rw [HRT.out]
      rintro e wz ⟨rfl, hbz⟩
      replace hCr := hCr.later hbz
      clear x0 x1 x2
      have x0 := hCr.cell (i := 0) rfl
      have x2 := hCr.cell (i := 2) rfl
      have hBz := below_step hB hbz
      go_wp2_with fail
      go_ret
      exact ⟨rfl, hBz⟩
end Go.Proofs.Ytmljhkdojopljaa
/-
  The law CacheOnce, at whatever comes in: it answers true, and writes nothing that was there. No conditions.
-/
namespace Go.Proofs.Ytmljhkdojopljaa
set_option maxRecDepth 100000
open Go.RowKit Go.Deep Go.WideShapes Go.ChangeShapes
set_option linter.unusedSimpArgs false
set_option linter.unusedVariables false

set_option maxRecDepth 100000 in
theorem cacheonce_big (y n c p d : Nat) (A B : Option Addr) (w : World) (h : ¬ (n ≤ 60 ∧ n ≤ p)) (hn : n ≤ 9223372036854775807) (hp : p ≤ 9223372036854775807) :
    Calls Try.prog 4 #[.int .u8 (y : Int), .slice A n c, .slice B p d] w fun e w' => e = .returned (.bool true) ∧ Below w.heap.size w w' := by
  go_enter Try.func4, Try.ntmps4
  go_wp2_with fail
  refine (awake19_any _).mono ?_
  rintro e w1 ⟨rfl, hB⟩
  by_cases h1 : n ≤ 60
  · have g1 : ¬ (60 : Int) < (n : Int) := by omega
    have g2 : (p : Int) < (n : Int) := by omega
    clear h
    go_wp2_with fail
    go_ret
    exact ⟨rfl, hB⟩
  · have g1 : (60 : Int) < (n : Int) := by omega
    clear h
    go_wp2_with fail
    go_ret
    exact ⟨rfl, hB⟩
theorem cacheonce_any (v0 v1 v2 : Value) (W : World) {H : Type} {enc : TypeId × Value → H} {base : Nat} {d0 d1 d2 : DataW H} {p0 p1 p2 : List MemPlace}
    (hv0 : Value.okWide Try.prog W .any base 5 v0) (ht0 : DataW.Trod enc Try.prog W 0 (fun _ => true) true 5 v0 d0 p0) (hv1 : Value.okWide Try.prog W .any base 23 v1) (ht1 : DataW.Trod enc Try.prog W 0 (fun _ => true) true 23 v1 d1 p1) (hv2 : Value.okWide Try.prog W .any base 41 v2) (ht2 : DataW.Trod enc Try.prog W 0 (fun _ => true) true 41 v2 d2 p2) :
    Calls Try.prog 4 #[v0, v1, v2] W fun e w' => e = .returned (.bool true) ∧ Below W.heap.size W w' := by
  obtain ⟨y, rfl, hy⟩ := open_byte19 hv0 ht0
  obtain ⟨l, A, c, rfl, hc, hcm, hr, hf⟩ := open_uses hv1 ht1
  obtain ⟨fs, B, d, rfl, hd, hdm, hs, _⟩ := open_nums hv2 ht2
  by_cases h : l.length ≤ 60 ∧ l.length ≤ fs.length
  · exact cacheonce_small y l fs _ c _ d A B W hy (Lib.hid rfl) (Lib.hid rfl) hr hs hf hc hd h.1 h.2 (by omega)
  · exact cacheonce_big y _ c _ d A B W h (by omega) (by omega)
end Go.Proofs.Ytmljhkdojopljaa
