/-
  What the program's calls of layer 12 answer, over the landed code (rightP_any, writeP_ok, writeP_no, msgP_any: XFrameWr). No conditions but those typed.
-/
import Derived.Test.YtobeaoooaagdkaaFrameWr
import Derived.Test.YtobeaoooaagdkaaFrameRd
namespace Go.Proofs.Ytobeaoooaagdkaa
set_option maxRecDepth 100000
open Go.RowKit
set_option linter.unusedSimpArgs false
set_option linter.unusedVariables false

theorem size_rd : (Try.prog.info? 44).map (·.size) = some 2 := by kernel_rfl
theorem one_two (a b : Value) (ha : a.oneCell' = true) (hb : b.oneCell' = true) : ∀ v ∈ [a, b], v.oneCell' = true := fun v hv => by
  simp at hv
  rcases hv with rfl | rfl <;> assumption
theorem cloneF (n : Nat) (b : List UInt8) (A : Option Addr) (c : Nat) (w : World) (HN : Hid (b.length = n)) (hr : Rd vB w A b) (hl : n ≤ 70368744177664) :
    Calls Try.prog 18 #[.slice A n c] w fun e w' => ∃ A' c', e = .returned (.slice A' n c') ∧ n ≤ c' ∧ Rd vB w' A' b ∧ (∀ a, A' = some a → w.heap.size ≤ a.block) ∧ Below w.heap.size w w' := by
  have e := HN.out
  subst e
  exact (clone_b b A c w hr hl).mono fun _ _ h => h
def codeP (g : Nat) (k : Int) (W : World) : Prop := W.cell? ⟨g, 1, none⟩ = some (.int .i64 k) ∧ True

set_option maxRecDepth 100000 in
set_option maxHeartbeats 4000000 in
theorem readP_any (b : List UInt8) (n : Nat) (A : Option Addr) (c : Nat) (w : World) (HN : Hid (b.length = n)) (hr : Rd vB w A b) (hc : n ≤ c) (hn : n ≤ 100000) :
    Calls Try.prog 8 #[.slice A n c] w (RetP w (readF b)) := by
  obtain ⟨k0, S0, H0⟩ : ∃ k S, markK b = (k, S) := ⟨_, _, rfl⟩
  obtain ⟨k1, x1, S1, H1⟩ : ∃ k x S, nK k0 S0 = (k, x, S) := ⟨_, _, _, rfl⟩
  obtain ⟨k2, x2, S2, H2⟩ : ∃ k x S, nK k1 S1 = (k, x, S) := ⟨_, _, _, rfl⟩
  obtain ⟨k3, x3, S3, H3⟩ : ∃ k x S, nK k2 S2 = (k, x, S) := ⟨_, _, _, rfl⟩
  obtain ⟨k4, T, H4⟩ : ∃ k S, tagK k3 S3 = (k, S) := ⟨_, _, rfl⟩
  have HF := steps_read H0 H1 H2 H3 H4
  obtain ⟨k5, H5⟩ : ∃ k, endK k4 (S3.drop 8) = k := ⟨_, rfl⟩
  rw [H5] at HF
  obtain ⟨F, hF⟩ : ∃ F, readF b = F := ⟨_, rfl⟩
  rw [hF] at HF ⊢
  clear hF
  replace HF := Lib.hid HF
  replace H0 := Lib.hid H0
  replace H1 := Lib.hid H1
  replace H2 := Lib.hid H2
  replace H3 := Lib.hid H3
  replace H4 := Lib.hid H4
  replace H5 := Lib.hid H5
  obtain ⟨hR0, hB0⟩ := box_pay w 25 (.int .u64 0) (.int .u64 0) (.int .u64 0) (.slice none 0 0)
  go_enter Try.func8, Try.ntmps8
  go_upto_region 1 with fail
  generalize (w.alloc (.cells #[.int .u64 0, .int .u64 0, .int .u64 0, .slice none 0 0] 25)) = W0 at hR0 hB0 ⊢
  have hgl := hR0.lt
  have hRr : Row (W0.alloc (.cells #[.slice none 0 0, .int .i64 0] 44)) W0.heap.size 44 [.slice none 0 0, .int .i64 0] := Row.new W0 _ _ _ rfl
  go_upto_region 2 with (refine wpList_store_row rfl 44 (.tmp 4) (.tmp 7) rfl W0.heap.size rfl [.slice A n c, .int .i64 0] rfl _ _ hRr (by exact size_rd) rfl (one_two _ _ rfl rfl) ?_)
  have hRs := hRr.setRow [.slice A n c, .int .i64 0]
  have hb2 : Below W0.heap.size W0 ((W0.alloc (.cells #[.slice none 0 0, .int .i64 0] 44)).setRow W0.heap.size [.slice A n c, .int .i64 0].toArray) := below_setRow (below_new (Below.refl _ _) _) (Nat.le_refl _) _
  replace hr := (hr.keep hB0)
  have hA : b ≠ [] → ∀ a, A = some a → a.block < W0.heap.size := hr.off
  replace hr := hr.keep hb2
  replace hR0 := hR0.later hb2
  replace hB0 := below_step hB0 hb2
  generalize (W0.alloc (.cells #[.slice none 0 0, .int .i64 0] 44)).setRow W0.heap.size [.slice A n c, .int .i64 0].toArray = W1 at hr hR0 hRs hB0 ⊢
  clear hRr hb2
  generalize W0.heap.size = g1 at hgl hRs hA ⊢
  have hS : RdS g1 b n 0 W1 := ⟨A, c, hRs, HN, hc, hr, hA⟩
  clear hRs hr hA
  have hle : w.heap.size ≤ g1 := by omega
  have hne : w.heap.size ≠ g1 := by omega
  go_wp2_with fail
  refine (mark_any g1 b n W1 hS hn).mono ?_
  rw [H0.out]
  rintro e₁ w2 ⟨rfl, hT, hO⟩
  dsimp only at hT
  replace hR0 := hR0.only hO hne
  replace hB0 := hB0.trans (hO.below.mono hle)
  clear hO hS
  have hg1 := hT.lt
  have hRq : Row (w2.alloc (.cells #[.int .u64 0, .int .u64 0, .int .u64 0, .slice none 0 0] 25)) w2.heap.size 25 [.int .u64 0, .int .u64 0, .int .u64 0, .slice none 0 0] := Row.new w2 _ _ _ rfl
  have hbn := below_new (Below.refl w2.heap.size w2) (.cells #[.int .u64 0, .int .u64 0, .int .u64 0, .slice none 0 0] 25)
  replace hT := hT.below (hbn.mono (by omega))
  replace hR0 := hR0.later hbn
  replace hB0 := below_step hB0 hbn
  go_upto_region 4 with fail
  generalize w2.alloc (.cells #[.int .u64 0, .int .u64 0, .int .u64 0, .slice none 0 0] 25) = W3 at hT hR0 hB0 hRq ⊢
  clear hbn
  generalize w2.heap.size = g2 at hg1 hRq ⊢
  have hn2 : g2 ≠ g1 := by omega
  have hn3 : g2 ≠ w.heap.size := by omega
  have hn4 : w.heap.size ≠ g2 := by omega
  have hl2 : w.heap.size ≤ g2 := by omega
  go_wp2_with fail
  refine (number_any g1 k0 S0 W3 hT).mono ?_
  rw [H1.out]
  rintro e₁ w4 ⟨rfl, hT4, hO⟩
  dsimp only at hT4 ⊢
  replace hR0 := hR0.only hO hne
  replace hRq := hRq.only hO hn2
  replace hB0 := hB0.trans (hO.below.mono hle)
  clear hO hT
  have f0 := hRq.frozen 0
  have hT5 := hT4.below ((Below.refl _ w4).setCell (p := ⟨g2, 0, none⟩) (show g1 + 1 ≤ g2 by omega) (.int .u64 (x1 : Int)))
  have hR5 := hR0.setCell_other (p := ⟨g2, 0, none⟩) hn4 (.int .u64 (x1 : Int))
  have hRq5 := hRq.setCell 0 (.int .u64 (x1 : Int))
  have hB5 := hB0.setCell (p := ⟨g2, 0, none⟩) hl2 (.int .u64 (x1 : Int))
  have c0 : w4.cell? ⟨g2, 0, none⟩ = some (.int .u64 0) := hRq.cell rfl
  clear hT4 hR0 hRq hB0
  have hQ5 : Row (w4.setCell ⟨g2, 0, none⟩ (.int .u64 (x1 : Int))) g2 25 [.int .u64 (x1 : Int), .int .u64 0, .int .u64 0, .slice none 0 0] := hRq5
  go_upto_region 5 with fail
  generalize w4.setCell ⟨g2, 0, none⟩ (.int .u64 (x1 : Int)) = W5 at hT5 hR5 hQ5 hB5 ⊢
  clear hRq5 c0 f0
  go_wp2_with fail
  refine (number_any g1 k1 S1 W5 hT5).mono ?_
  rw [H2.out]
  rintro e₁ w6 ⟨rfl, hT6, hO⟩
  dsimp only at hT6 ⊢
  have hR6 := hR5.only hO hne
  have hQ6 := hQ5.only hO hn2
  have hB6 := hB5.trans (hO.below.mono hle)
  clear hO hT5 hR5 hQ5 hB5
  have f0 := hQ6.frozen 1
  have hT7 := hT6.below ((Below.refl _ w6).setCell (p := ⟨g2, 1, none⟩) (show g1 + 1 ≤ g2 by omega) (.int .u64 (x2 : Int)))
  have hR7 := hR6.setCell_other (p := ⟨g2, 1, none⟩) hn4 (.int .u64 (x2 : Int))
  have hQ7 : Row (w6.setCell ⟨g2, 1, none⟩ (.int .u64 (x2 : Int))) g2 25 [.int .u64 (x1 : Int), .int .u64 (x2 : Int), .int .u64 0, .slice none 0 0] := hQ6.setCell 1 (.int .u64 (x2 : Int))
  have hB7 := hB6.setCell (p := ⟨g2, 1, none⟩) hl2 (.int .u64 (x2 : Int))
  have c0 : w6.cell? ⟨g2, 1, none⟩ = some (.int .u64 0) := hQ6.cell rfl
  clear hT6 hR6 hQ6 hB6
  go_upto_region 6 with fail
  generalize w6.setCell ⟨g2, 1, none⟩ (.int .u64 (x2 : Int)) = W7 at hT7 hR7 hQ7 hB7 ⊢
  clear c0 f0
  go_wp2_with fail
  refine (number_any g1 k2 S2 W7 hT7).mono ?_
  rw [H3.out]
  rintro e₁ w8 ⟨rfl, hT8, hO⟩
  dsimp only at hT8 ⊢
  have hR8 := hR7.only hO hne
  have hQ8 := hQ7.only hO hn2
  have hB8 := hB7.trans (hO.below.mono hle)
  clear hO hT7 hR7 hQ7 hB7
  have f0 := hQ8.frozen 2
  have hT9 := hT8.below ((Below.refl _ w8).setCell (p := ⟨g2, 2, none⟩) (show g1 + 1 ≤ g2 by omega) (.int .u64 (x3 : Int)))
  have hR9 := hR8.setCell_other (p := ⟨g2, 2, none⟩) hn4 (.int .u64 (x3 : Int))
  have hQ9 : Row (w8.setCell ⟨g2, 2, none⟩ (.int .u64 (x3 : Int))) g2 25 [.int .u64 (x1 : Int), .int .u64 (x2 : Int), .int .u64 (x3 : Int), .slice none 0 0] := hQ8.setCell 2 (.int .u64 (x3 : Int))
  have hB9 := hB8.setCell (p := ⟨g2, 2, none⟩) hl2 (.int .u64 (x3 : Int))
  have c0 : w8.cell? ⟨g2, 2, none⟩ = some (.int .u64 0) := hQ8.cell rfl
  clear hT8 hR8 hQ8 hB8
  go_upto_region 7 with fail
  generalize w8.setCell ⟨g2, 2, none⟩ (.int .u64 (x3 : Int)) = W9 at hT9 hR9 hQ9 hB9 ⊢
  clear c0 f0
  go_wp2_with fail
  refine (tag_any g1 k3 S3 W9 hT9).mono ?_
  rw [H4.out]
  rintro e₁ w10 ⟨⟨A10, n10, c10, rfl, HN10, hn10, hr10⟩, hT10, hO⟩
  dsimp only at hT10 HN10 hr10 ⊢
  have hR10 := hR9.only hO hne
  have hQ10 := hQ9.only hO hn2
  have hB10 := hB9.trans (hO.below.mono hle)
  have hg10 := hQ10.lt
  clear hO hT9 hR9 hQ9 hB9
  go_wp2_with fail
  refine (cloneF n10 T A10 c10 w10 HN10 hr10 (by omega)).mono ?_
  rintro e₁ w11 ⟨A11, c11, rfl, hc11, hr11, hA11, hb⟩
  have hT11 := hT10.below (hb.mono (by omega))
  have hR11 := hR10.later hb
  have hQ11 := hQ10.later hb
  have hB11 := below_step hB10 hb
  have HA11 : Hid (∀ a, A11 = some a → g2 < a.block) := fun a ha => Nat.lt_of_lt_of_le hg10 (hA11 a ha)
  clear hb hT10 hR10 hQ10 hB10 hr10 hA11
  have f0 := hQ11.frozen 3
  have hT12 := hT11.below ((Below.refl _ w11).setCell (p := ⟨g2, 3, none⟩) (show g1 + 1 ≤ g2 by omega) (.slice A11 n10 c11))
  have hR12 := hR11.setCell_other (p := ⟨g2, 3, none⟩) hn4 (.slice A11 n10 c11)
  have hQ12 : Row (w11.setCell ⟨g2, 3, none⟩ (.slice A11 n10 c11)) g2 25 [.int .u64 (x1 : Int), .int .u64 (x2 : Int), .int .u64 (x3 : Int), .slice A11 n10 c11] := hQ11.setCell 3 (.slice A11 n10 c11)
  have hB12 := hB11.setCell (p := ⟨g2, 3, none⟩) hl2 (.slice A11 n10 c11)
  have hr12 := hr11.only ((Only.refl g2 w11).setCell 3 (.slice A11 n10 c11)) (fun _ a ha => by have := HA11.out a ha; omega)
  have c0 : w11.cell? ⟨g2, 3, none⟩ = some (.slice none 0 0) := hQ11.cell rfl
  clear hT11 hR11 hQ11 hB11 hr11
  go_upto_region 8 with fail
  generalize w11.setCell ⟨g2, 3, none⟩ (.slice A11 n10 c11) = W12 at hT12 hR12 hQ12 hB12 hr12 ⊢
  clear c0 f0
  go_wp2_with fail
  refine (end_any g1 k4 (S3.drop 8) W12 hT12).mono ?_
  rw [H5.out]
  rintro e₁ w13 ⟨rfl, ⟨v13, hRd⟩, hO⟩
  have hR13 := hR12.only hO hne
  have hQ13 := hQ12.only hO hn2
  have hB13 := hB12.trans (hO.below.mono hle)
  have hr13 := hr12.only hO (fun _ a ha => by have := HA11.out a ha; omega)
  have cd : w13.cell? ⟨g1, 1, none⟩ = some (.int .i64 k5) := hRd.cell rfl
  clear hO hT12 hR12 hQ12 hB12 hr12
  go_upto_region 9 with fail
  by_cases h5 : k5 = 0
  · subst h5
    have eF : (0, x1, x2, x3, T) = F := by rw [HF.out, if_pos rfl]
    subst eF
    go_wp2_with (first
      | (refine wpList_load_part rfl 25 (.tmp 5) rfl g2 0 rfl _ _ hQ13 [.int .u64 (x1 : Int), .int .u64 (x2 : Int), .int .u64 (x3 : Int), .slice A11 n10 c11] (by rfl) _ Try.underlying25 rfl (by exact size_pay') ?_)
      | (refine wpList_store_row rfl 25 (.tmp 2) (.tmp 25) rfl w.heap.size rfl [.int .u64 (x1 : Int), .int .u64 (x2 : Int), .int .u64 (x3 : Int), .slice A11 n10 c11] rfl _ _ hR13 (by exact size_pay') rfl (one_four _ _ _ _ rfl rfl rfl rfl) ?_))
    refine bodyPost_ret (results_row_tmp (p := 2) (u := 3) (ty := 25) (by rfl) _ _ w.heap.size 25 _ _ (by rfl) (by exact hR13.setRow _) Try.underlying25 (by rfl) (by exact size_pay')) (by rfl) ?_
    exact ⟨A11, n10, c11, rfl, HN10, hc11, hr13.setRow _ (fun a ha => by have := HA11.out a ha; omega), below_setRow hB13 (Nat.le_refl _) _⟩
  · have h50 : (k5 == 0) = false := beq_eq_false_iff_ne.2 h5
    have h51 : (k5 != 0) = true := by rw [bne, h50]; rfl
    have eF : (k5, 0, 0, 0, []) = F := by rw [HF.out, if_neg h5]
    subst eF
    go_upto_region 10 with fail
    have hS : codeP g1 k5 w13.drew := ⟨cd, trivial⟩
    have hR14 := hR13.drew
    have hB14 := hB13.drew
    refine wp_region_plan_of (codeP g1 k5) (.step 0 false (.step 1 false (.step 2 false (.step 3 true (.step 4 false (.nil)))))) hS (by kernel_rfl) (by kernel_rfl) (by rfl) (by kernel_rfl) ?_
    clear hR13 hB13 cd hQ13 hr13 hRd
    generalize w13.drew = wv at *
    iterate 3 (refine plan_read rfl (by rfl) (v := ?_) ?_ ?_; rotate_left 1; (intro W hW; (try dsimp only at hW); obtain ⟨hW0, hW1⟩ := hW; go_simp <;> with_reducible rfl); simp only [List.getElem_toArray, List.getElem_cons_zero, List.getElem_cons_succ, Act.put, List.setIfInBounds_toArray, List.set_cons_zero, List.set_cons_succ])
    have hcs : ∀ (cs : Array Value), (wv.setRow w.heap.size cs).cell? ⟨g1, 1, none⟩ = wv.cell? ⟨g1, 1, none⟩ := fun cs => cell_setRow_other wv w.heap.size cs ⟨g1, 1, none⟩ (show g1 ≠ w.heap.size by omega)
    refine plan_make_of rfl (by rfl) (fun K hK => ?_)
    refine hR14.wp_store 25 (.tmp 2) (.tmp 22) rfl rfl [.int .u64 0, .int .u64 0, .int .u64 0, .slice none 0 0] rfl (by exact size_pay') rfl (one_four _ _ _ _ rfl rfl rfl rfl) ?_
    refine hK.out _ _ ⟨(hcs _).trans hS.1, trivial⟩ ?_
    clear hK K hcs
    simp only [List.getElem_toArray, List.getElem_cons_zero, List.getElem_cons_succ, Act.put, List.setIfInBounds_toArray, List.set_cons_zero, List.set_cons_succ]
    iterate 1 (refine plan_read rfl (by rfl) (v := ?_) ?_ ?_; rotate_left 1; (intro W hW; (try dsimp only at hW); obtain ⟨hW0, hW1⟩ := hW; go_simp <;> with_reducible rfl); simp only [List.getElem_toArray, List.getElem_cons_zero, List.getElem_cons_succ, Act.put, List.setIfInBounds_toArray, List.set_cons_zero, List.set_cons_succ])
    refine plan_done ?_
    go_wp2_with fail
    refine bodyPost_ret (results_row_tmp (p := 2) (u := 3) (ty := 25) (by rfl) _ _ w.heap.size 25 _ _ (by rfl) (by exact hR14.setRow _) Try.underlying25 (by rfl) (by exact size_pay')) (by rfl) ?_
    exact ⟨none, 0, 0, rfl, Lib.hid rfl, Nat.le_refl _, Rd.nil, below_setRow hB14 (Nat.le_refl _) _⟩
end Go.Proofs.Ytobeaoooaagdkaa
