/-
  The walk of the law FrameRight: payloads' bytes, what any bytes are, and what a tag is of, are the document's. No conditions.
-/
import Derived.Test.YtobeaoooaagdkaaFrameAwake
namespace Go.Proofs.Ytobeaoooaagdkaa
set_option maxRecDepth 100000
open Go.RowKit
set_option linter.unusedSimpArgs false
set_option linter.unusedVariables false

theorem strZ (n : Nat) {w : World} {A : Option Addr} {l : List UInt8} {c : Nat} (H : Hid (l.length = n)) (h : Rd vB w A l) : ∀ W, Below w.heap.size w W → (convert 23 9 (.slice A n c)).run Try.prog W = .ok (.string (strL l)) W :=
  fun W hW => run_str W _ _ _ Try.underlying23 Try.underlying5 Try.underlying9 A l n c H.out (h.keep hW)
set_option maxRecDepth 100000 in
set_option maxHeartbeats 6000000 in
theorem frameright_core (t e c : Nat) (tag : List UInt8) (n : Nat) (A : Option Addr) (k : Nat) (b : List UInt8) (m : Nat) (B : Option Addr) (d : Nat) (w : World) (ht : t < 18446744073709551616) (he : e < 18446744073709551616) (hc : c < 18446744073709551616) (HN : Hid (tag.length = n)) (hrt : Rd vB w A tag) (hk : n ≤ k) (hn : n ≤ 3000) (HM : Hid (b.length = m)) (hrb : Rd vB w B b) (hd : m ≤ d) (hm : m ≤ 3000) :
    Calls Try.prog 3 #[aggP t e c A n k, .slice B m d] w fun e₁ w' => e₁ = .returned (.bool true) ∧ Below w.heap.size w w' := by
  have g1 : decide ((3000 : Int) < (n : Int)) = false := decide_eq_false (by omega)
  have g2 : decide ((3000 : Int) < (m : Int)) = false := decide_eq_false (by omega)
  have n1 : ¬ 3000 < n := by omega
  have n2 : ¬ 3000 < m := by omega
  obtain ⟨code, t2, e2, c2, tg, hF⟩ : ∃ code t2 e2 c2 tg, readF b = (code, t2, e2, c2, tg) := ⟨_, _, _, _, _, rfl⟩
  have hSS : sameF t2 e2 c2 tg t2 e2 c2 tg = true := by unfold sameF; simp
  obtain ⟨hRp, hB⟩ := box_pay w 25 (.int .u64 (t : Int)) (.int .u64 (e : Int)) (.int .u64 (c : Int)) (.slice A n k)
  have HT := Lib.hid ht
  have HE := Lib.hid he
  have HC := Lib.hid hc
  clear ht he hc
  unfold aggP
  go_enter Try.func3, Try.ntmps3
  go_upto_region 1 with fail
  generalize (w.alloc (.cells #[.int .u64 (t : Int), .int .u64 (e : Int), .int .u64 (c : Int), .slice A n k] 25)) = W0 at hRp hB ⊢
  replace hrt := hrt.keep hB
  replace hrb := hrb.keep hB
  go_wp2_with fail
  refine (awake12_any _).mono ?_
  rintro e₁ w1 ⟨rfl, hb⟩
  replace hrt := hrt.keep hb
  replace hrb := hrb.keep hb
  replace hRp := hRp.later hb
  replace hB := below_step hB hb
  clear hb
  have cl3 : w1.cell? ⟨w.heap.size, 3, none⟩ = some (.slice A n k) := hRp.cell rfl
  go_upto_region 5 with fail
  clear g1 g2 n1 n2
  by_cases h8 : n = 8
  · subst h8
    go_wp2_with (refine wpList_load_part rfl 25 (.tmp 2) rfl w.heap.size 0 rfl _ _ hRp [.int .u64 (t : Int), .int .u64 (e : Int), .int .u64 (c : Int), .slice A 8 k] (by rfl) _ Try.underlying25 rfl (by exact size_pay) ?_)
    refine (writeP_ok t e c tag A k _ HT.out HE.out HC.out HN hrt hk).mono ?_
    rintro e₁ w2 ⟨A2, n2, k2, rfl, HN2, hk2, hr2, hb⟩
    replace hrt := hrt.keep hb
    replace hrb := hrb.keep hb
    replace hRp := hRp.later hb
    replace hB := below_step hB hb
    clear hb cl3
    have cl3 : w2.cell? ⟨w.heap.size, 3, none⟩ = some (.slice A 8 k) := hRp.cell rfl
    go_upto_region 7 with fail
    clear cl3
    have hs1 := strZ (c := k2) n2 HN2 hr2
    have cp0 : ∀ W, Below w2.heap.size w2 W → W.cell? ⟨w.heap.size, 0, none⟩ = some (.int .u64 (t : Int)) := fun W hW => (hRp.later hW).cell rfl
    have cp1 : ∀ W, Below w2.heap.size w2 W → W.cell? ⟨w.heap.size, 1, none⟩ = some (.int .u64 (e : Int)) := fun W hW => (hRp.later hW).cell rfl
    have cp2 : ∀ W, Below w2.heap.size w2 W → W.cell? ⟨w.heap.size, 2, none⟩ = some (.int .u64 (c : Int)) := fun W hW => (hRp.later hW).cell rfl
    have cp3 : ∀ W, Below w2.heap.size w2 W → W.cell? ⟨w.heap.size, 3, none⟩ = some (.slice A 8 k) := fun W hW => (hRp.later hW).cell rfl
    have HX := Lib.hid (And.intro hrt (And.intro hrb (And.intro hRp hB)))
    clear hrt hrb hRp hB hr2
    have hBase := (Below.refl w2.heap.size w2).drew
    refine wp_region_plan (.step 0 false (.step 1 false (.step 2 false (.step 3 false (.step 4 false (.step 5 false (.step 6 true (.step 7 false (.step 8 false (.step 9 false (.nil))))))))))) (by kernel_rfl) (by kernel_rfl) (by rfl) (by kernel_rfl) ?_
    iterate 6 (refine plan_read rfl (by rfl) (v := ?_) ?_ ?_; rotate_left 1; (intro W hW; have hW0 := below_step hBase hW; (try dsimp only at hW); go_simp <;> with_reducible rfl); simp only [List.getElem_toArray, List.getElem_cons_zero, List.getElem_cons_succ, Act.put, List.setIfInBounds_toArray, List.set_cons_zero, List.set_cons_succ])
    (refine plan_make rfl (by rfl) (fun K hK => ?_); go_simp; (refine (refwriteF_any t e c tag 8 A k _ HT.out HE.out HC.out HN (HX.out.1.keep hBase) (by omega)).mono ?_; rintro e₁ w3 ⟨A3, n3, k3, rfl, HN3, hk3, hr3, hbx⟩); refine hK.out _ _ hbx ?_; clear hK K; replace hBase := below_step hBase hbx)
    have hs2 := strZ (c := k3) n3 HN3 hr3
    iterate 3 (refine plan_read rfl (by rfl) (v := ?_) ?_ ?_; rotate_left 1; (intro W hW; have hW0 := below_step hBase hW; (try dsimp only at hW); go_simp <;> with_reducible rfl); simp only [List.getElem_toArray, List.getElem_cons_zero, List.getElem_cons_succ, Act.put, List.setIfInBounds_toArray, List.set_cons_zero, List.set_cons_succ])
    refine plan_done ?_
    have hrt := HX.out.1.keep hBase
    have hrb := HX.out.2.1.keep hBase
    have hRp := HX.out.2.2.1.later hBase
    have hB := below_step HX.out.2.2.2 hBase
    clear hs1 hs2 cp0 cp1 cp2 cp3 HX hBase hr3
    go_upto_region 11 with fail
    go_wp2_with fail
    refine (readP_any b m B d _ HM hrb hd (by omega)).mono ?_
    rw [hF]
    rintro e₁ w5 ⟨A5, n5, k5, rfl, HN5, hk5, hr5, hb⟩
    dsimp only at HN5 hr5 ⊢
    replace hrt := hrt.keep hb
    replace hrb := hrb.keep hb
    replace hRp := hRp.later hb
    replace hB := below_step hB hb
    clear hb
    have hR0 : Row (w5.alloc (.cells #[.int .u64 0, .int .u64 0, .int .u64 0, .slice none 0 0] 25)) w5.heap.size 25 [.int .u64 0, .int .u64 0, .int .u64 0, .slice none 0 0] := Row.new w5 _ _ _ rfl
    go_upto_region 12 with (refine wpList_store_row rfl 25 (.tmp 7) (.tmp 51) rfl w5.heap.size rfl [.int .u64 (t2 : Int), .int .u64 (e2 : Int), .int .u64 (c2 : Int), .slice A5 n5 k5] rfl _ _ hR0 (by exact size_pay) rfl (one_four _ _ _ _ rfl rfl rfl rfl) ?_)
    have hRq := hR0.setRow [.int .u64 (t2 : Int), .int .u64 (e2 : Int), .int .u64 (c2 : Int), .slice A5 n5 k5]
    have hb2 : Below w5.heap.size w5 ((w5.alloc (.cells #[.int .u64 0, .int .u64 0, .int .u64 0, .slice none 0 0] 25)).setRow w5.heap.size [.int .u64 (t2 : Int), .int .u64 (e2 : Int), .int .u64 (c2 : Int), .slice A5 n5 k5].toArray) := below_setRow (below_new (Below.refl _ _) _) (Nat.le_refl _) _
    replace hrt := hrt.keep hb2
    replace hrb := hrb.keep hb2
    replace hr5 := hr5.keep hb2
    replace hRp := hRp.later hb2
    replace hB := below_step hB hb2
    generalize (w5.alloc (.cells #[.int .u64 0, .int .u64 0, .int .u64 0, .slice none 0 0] 25)).setRow w5.heap.size [.int .u64 (t2 : Int), .int .u64 (e2 : Int), .int .u64 (c2 : Int), .slice A5 n5 k5].toArray = w6 at hrt hrb hr5 hRp hRq hB ⊢
    clear hR0 hb2
    generalize w5.heap.size = gq at hRq ⊢
    go_wp2_with fail
    refine (refreadF_any b m B d _ HM hrb hd (by omega)).mono ?_
    rw [hF]
    rintro e₁ w7 ⟨A6, n6, k6, rfl, HN6, hk6, hr6, hb⟩
    dsimp only at HN6 hr6 ⊢
    replace hrt := hrt.keep hb
    replace hr5 := hr5.keep hb
    replace hRp := hRp.later hb
    replace hRq := hRq.later hb
    replace hB := below_step hB hb
    clear hb
    have hR0 : Row (w7.alloc (.cells #[.int .u64 0, .int .u64 0, .int .u64 0, .slice none 0 0] 25)) w7.heap.size 25 [.int .u64 0, .int .u64 0, .int .u64 0, .slice none 0 0] := Row.new w7 _ _ _ rfl
    go_upto_region 13 with (refine wpList_store_row rfl 25 (.tmp 9) (.tmp 56) rfl w7.heap.size rfl [.int .u64 (t2 : Int), .int .u64 (e2 : Int), .int .u64 (c2 : Int), .slice A6 n6 k6] rfl _ _ hR0 (by exact size_pay) rfl (one_four _ _ _ _ rfl rfl rfl rfl) ?_)
    have hRr := hR0.setRow [.int .u64 (t2 : Int), .int .u64 (e2 : Int), .int .u64 (c2 : Int), .slice A6 n6 k6]
    have hb2 : Below w7.heap.size w7 ((w7.alloc (.cells #[.int .u64 0, .int .u64 0, .int .u64 0, .slice none 0 0] 25)).setRow w7.heap.size [.int .u64 (t2 : Int), .int .u64 (e2 : Int), .int .u64 (c2 : Int), .slice A6 n6 k6].toArray) := below_setRow (below_new (Below.refl _ _) _) (Nat.le_refl _) _
    replace hrt := hrt.keep hb2
    replace hr5 := hr5.keep hb2
    replace hr6 := hr6.keep hb2
    replace hRp := hRp.later hb2
    replace hRq := hRq.later hb2
    replace hB := below_step hB hb2
    generalize (w7.alloc (.cells #[.int .u64 0, .int .u64 0, .int .u64 0, .slice none 0 0] 25)).setRow w7.heap.size [.int .u64 (t2 : Int), .int .u64 (e2 : Int), .int .u64 (c2 : Int), .slice A6 n6 k6].toArray = w8 at hrt hr5 hr6 hRp hRq hRr hB ⊢
    clear hR0 hb2
    generalize w7.heap.size = gr at hRr ⊢
    have cp0 : ∀ W, Below w8.heap.size w8 W → W.cell? ⟨w.heap.size, 0, none⟩ = some (.int .u64 (t : Int)) := fun W hW => (hRp.later hW).cell rfl
    have cp1 : ∀ W, Below w8.heap.size w8 W → W.cell? ⟨w.heap.size, 1, none⟩ = some (.int .u64 (e : Int)) := fun W hW => (hRp.later hW).cell rfl
    have cp2 : ∀ W, Below w8.heap.size w8 W → W.cell? ⟨w.heap.size, 2, none⟩ = some (.int .u64 (c : Int)) := fun W hW => (hRp.later hW).cell rfl
    have cp3 : ∀ W, Below w8.heap.size w8 W → W.cell? ⟨w.heap.size, 3, none⟩ = some (.slice A 8 k) := fun W hW => (hRp.later hW).cell rfl
    have cq0 : ∀ W, Below w8.heap.size w8 W → W.cell? ⟨gq, 0, none⟩ = some (.int .u64 (t2 : Int)) := fun W hW => (hRq.later hW).cell rfl
    have cq1 : ∀ W, Below w8.heap.size w8 W → W.cell? ⟨gq, 1, none⟩ = some (.int .u64 (e2 : Int)) := fun W hW => (hRq.later hW).cell rfl
    have cq2 : ∀ W, Below w8.heap.size w8 W → W.cell? ⟨gq, 2, none⟩ = some (.int .u64 (c2 : Int)) := fun W hW => (hRq.later hW).cell rfl
    have cq3 : ∀ W, Below w8.heap.size w8 W → W.cell? ⟨gq, 3, none⟩ = some (.slice A5 n5 k5) := fun W hW => (hRq.later hW).cell rfl
    have cr0 : ∀ W, Below w8.heap.size w8 W → W.cell? ⟨gr, 0, none⟩ = some (.int .u64 (t2 : Int)) := fun W hW => (hRr.later hW).cell rfl
    have cr1 : ∀ W, Below w8.heap.size w8 W → W.cell? ⟨gr, 1, none⟩ = some (.int .u64 (e2 : Int)) := fun W hW => (hRr.later hW).cell rfl
    have cr2 : ∀ W, Below w8.heap.size w8 W → W.cell? ⟨gr, 2, none⟩ = some (.int .u64 (c2 : Int)) := fun W hW => (hRr.later hW).cell rfl
    have cr3 : ∀ W, Below w8.heap.size w8 W → W.cell? ⟨gr, 3, none⟩ = some (.slice A6 n6 k6) := fun W hW => (hRr.later hW).cell rfl
    have HX := Lib.hid (And.intro hrt (And.intro hr5 (And.intro hr6 hB)))
    clear hrt hr5 hr6 hB hRp hRq hRr hrb
    have hBase := (Below.refl w8.heap.size w8).drew
    refine wp_region_plan (.step 0 false (.step 2 false (.step 3 false (.step 4 false (.step 5 false (.step 1 true (.step 6 false (.step 7 false (.step 8 false (.step 9 false (.step 10 true (.step 11 false (.step 12 false (.step 13 false (.step 14 false (.step 15 false (.step 16 false (.step 17 false (.step 18 false (.step 19 false (.step 20 false (.step 21 false (.step 22 false (.step 23 false (.step 26 false (.step 27 false (.step 28 false (.step 29 false (.step 30 false (.step 31 false (.step 24 true (.step 25 false (.step 32 true (.step 33 false (.step 34 false (.step 35 false (.step 36 false (.nil)))))))))))))))))))))))))))))))))))))) (by kernel_rfl) (by kernel_rfl) (by rfl) (by kernel_rfl) ?_
    iterate 5 (refine plan_read rfl (by rfl) (v := ?_) ?_ ?_; rotate_left 1; (intro W hW; have hW0 := below_step hBase hW; (try dsimp only at hW); go_simp <;> with_reducible rfl); simp only [List.getElem_toArray, List.getElem_cons_zero, List.getElem_cons_succ, Act.put, List.setIfInBounds_toArray, List.set_cons_zero, List.set_cons_succ])
    (refine plan_make rfl (by rfl) (fun K hK => ?_); go_simp; (refine (rightP_any t e c tag 8 A k _ HN (HX.out.1.keep hBase) hk (by omega)).mono ?_; rintro e₁ w9 ⟨rfl, hbx⟩; rw [show decide ((8 : Nat) = 8) = true from rfl]); refine hK.out _ _ hbx ?_; clear hK K; replace hBase := below_step hBase hbx)
    iterate 4 (refine plan_read rfl (by rfl) (v := ?_) ?_ ?_; rotate_left 1; (intro W hW; have hW0 := below_step hBase hW; (try dsimp only at hW); go_simp <;> with_reducible rfl); simp only [List.getElem_toArray, List.getElem_cons_zero, List.getElem_cons_succ, Act.put, List.setIfInBounds_toArray, List.set_cons_zero, List.set_cons_succ])
    (refine plan_make rfl (by rfl) (fun K hK => ?_); go_simp; (refine (refsame_pay t2 e2 c2 t2 e2 c2 tg tg n5 n6 A5 A6 k5 k6 _ HN5 HN6 (HX.out.2.1.keep hBase) (HX.out.2.2.1.keep hBase)).mono ?_; rintro e₁ w10 ⟨rfl, hbx⟩; rw [hSS]); refine hK.out _ _ hbx ?_; clear hK K; replace hBase := below_step hBase hbx)
    iterate 19 (refine plan_read rfl (by rfl) (v := ?_) ?_ ?_; rotate_left 1; (intro W hW; have hW0 := below_step hBase hW; (try dsimp only at hW); go_simp <;> with_reducible rfl); simp only [List.getElem_toArray, List.getElem_cons_zero, List.getElem_cons_succ, Act.put, List.setIfInBounds_toArray, List.set_cons_zero, List.set_cons_succ])
    (refine plan_make rfl (by rfl) (fun K hK => ?_); go_simp; (refine (msgP_any t e c _ HT.out HE.out HC.out).mono ?_; rintro e₁ w11 ⟨A11, n11, c11, rfl, HN11, hc11, hr11, hbx⟩); refine hK.out _ _ hbx ?_; clear hK K; replace hBase := below_step hBase hbx)
    have hs1 := strZ (c := c11) n11 HN11 hr11
    iterate 1 (refine plan_read rfl (by rfl) (v := ?_) ?_ ?_; rotate_left 1; (intro W hW; have hW0 := below_step hBase hW; (try dsimp only at hW); go_simp <;> with_reducible rfl); simp only [List.getElem_toArray, List.getElem_cons_zero, List.getElem_cons_succ, Act.put, List.setIfInBounds_toArray, List.set_cons_zero, List.set_cons_succ])
    (refine plan_make rfl (by rfl) (fun K hK => ?_); go_simp; (refine (refmsg_any t e c _ HT.out HE.out HC.out).mono ?_; rintro e₁ w12 ⟨A12, n12, c12, rfl, HN12, hc12, hr12, hbx⟩); refine hK.out _ _ hbx ?_; clear hK K; replace hBase := below_step hBase hbx)
    have hs2 := strZ (c := c12) n12 HN12 hr12
    iterate 4 (refine plan_read rfl (by rfl) (v := ?_) ?_ ?_; rotate_left 1; (intro W hW; have hW0 := below_step hBase hW; (try dsimp only at hW); go_simp <;> with_reducible rfl); simp only [List.getElem_toArray, List.getElem_cons_zero, List.getElem_cons_succ, Act.put, List.setIfInBounds_toArray, List.set_cons_zero, List.set_cons_succ])
    refine plan_done ?_
    clear hs1 hs2
    go_wp2_with fail
    go_ret
    exact ⟨rfl, below_step HX.out.2.2.2 hBase⟩
  · have hD : decide (n = 8) = false := decide_eq_false h8
    have h8i : ((n : Int) == 8) = false := beq_eq_false_iff_ne.2 (by omega)
    go_wp2_with (refine wpList_load_part rfl 25 (.tmp 2) rfl w.heap.size 0 rfl _ _ hRp [.int .u64 (t : Int), .int .u64 (e : Int), .int .u64 (c : Int), .slice A n k] (by rfl) _ Try.underlying25 rfl (by exact size_pay) ?_)
    refine (writeP_no t e c tag n A k _ HT.out HE.out HC.out HN hrt hk (by omega) h8).mono ?_
    rintro e₁ w2 ⟨A2, n2, k2, rfl, HN2, hk2, hr2, hb⟩
    have en2 : n2 = 0 := HN2.out.symm
    subst en2
    replace hrt := hrt.keep hb
    replace hrb := hrb.keep hb
    replace hRp := hRp.later hb
    replace hB := below_step hB hb
    clear hb hr2 cl3
    have cl3 : w2.cell? ⟨w.heap.size, 3, none⟩ = some (.slice A n k) := hRp.cell rfl
    go_upto_region 11 with fail
    clear cl3
    go_wp2_with fail
    refine (readP_any b m B d _ HM hrb hd (by omega)).mono ?_
    rw [hF]
    rintro e₁ w5 ⟨A5, n5, k5, rfl, HN5, hk5, hr5, hb⟩
    dsimp only at HN5 hr5 ⊢
    replace hrt := hrt.keep hb
    replace hrb := hrb.keep hb
    replace hRp := hRp.later hb
    replace hB := below_step hB hb
    clear hb
    have hR0 : Row (w5.alloc (.cells #[.int .u64 0, .int .u64 0, .int .u64 0, .slice none 0 0] 25)) w5.heap.size 25 [.int .u64 0, .int .u64 0, .int .u64 0, .slice none 0 0] := Row.new w5 _ _ _ rfl
    go_upto_region 12 with (refine wpList_store_row rfl 25 (.tmp 7) (.tmp 51) rfl w5.heap.size rfl [.int .u64 (t2 : Int), .int .u64 (e2 : Int), .int .u64 (c2 : Int), .slice A5 n5 k5] rfl _ _ hR0 (by exact size_pay) rfl (one_four _ _ _ _ rfl rfl rfl rfl) ?_)
    have hRq := hR0.setRow [.int .u64 (t2 : Int), .int .u64 (e2 : Int), .int .u64 (c2 : Int), .slice A5 n5 k5]
    have hb2 : Below w5.heap.size w5 ((w5.alloc (.cells #[.int .u64 0, .int .u64 0, .int .u64 0, .slice none 0 0] 25)).setRow w5.heap.size [.int .u64 (t2 : Int), .int .u64 (e2 : Int), .int .u64 (c2 : Int), .slice A5 n5 k5].toArray) := below_setRow (below_new (Below.refl _ _) _) (Nat.le_refl _) _
    replace hrt := hrt.keep hb2
    replace hrb := hrb.keep hb2
    replace hr5 := hr5.keep hb2
    replace hRp := hRp.later hb2
    replace hB := below_step hB hb2
    generalize (w5.alloc (.cells #[.int .u64 0, .int .u64 0, .int .u64 0, .slice none 0 0] 25)).setRow w5.heap.size [.int .u64 (t2 : Int), .int .u64 (e2 : Int), .int .u64 (c2 : Int), .slice A5 n5 k5].toArray = w6 at hrt hrb hr5 hRp hRq hB ⊢
    clear hR0 hb2
    generalize w5.heap.size = gq at hRq ⊢
    go_wp2_with fail
    refine (refreadF_any b m B d _ HM hrb hd (by omega)).mono ?_
    rw [hF]
    rintro e₁ w7 ⟨A6, n6, k6, rfl, HN6, hk6, hr6, hb⟩
    dsimp only at HN6 hr6 ⊢
    replace hrt := hrt.keep hb
    replace hr5 := hr5.keep hb
    replace hRp := hRp.later hb
    replace hRq := hRq.later hb
    replace hB := below_step hB hb
    clear hb
    have hR0 : Row (w7.alloc (.cells #[.int .u64 0, .int .u64 0, .int .u64 0, .slice none 0 0] 25)) w7.heap.size 25 [.int .u64 0, .int .u64 0, .int .u64 0, .slice none 0 0] := Row.new w7 _ _ _ rfl
    go_upto_region 13 with (refine wpList_store_row rfl 25 (.tmp 9) (.tmp 56) rfl w7.heap.size rfl [.int .u64 (t2 : Int), .int .u64 (e2 : Int), .int .u64 (c2 : Int), .slice A6 n6 k6] rfl _ _ hR0 (by exact size_pay) rfl (one_four _ _ _ _ rfl rfl rfl rfl) ?_)
    have hRr := hR0.setRow [.int .u64 (t2 : Int), .int .u64 (e2 : Int), .int .u64 (c2 : Int), .slice A6 n6 k6]
    have hb2 : Below w7.heap.size w7 ((w7.alloc (.cells #[.int .u64 0, .int .u64 0, .int .u64 0, .slice none 0 0] 25)).setRow w7.heap.size [.int .u64 (t2 : Int), .int .u64 (e2 : Int), .int .u64 (c2 : Int), .slice A6 n6 k6].toArray) := below_setRow (below_new (Below.refl _ _) _) (Nat.le_refl _) _
    replace hrt := hrt.keep hb2
    replace hr5 := hr5.keep hb2
    replace hr6 := hr6.keep hb2
    replace hRp := hRp.later hb2
    replace hRq := hRq.later hb2
    replace hB := below_step hB hb2
    generalize (w7.alloc (.cells #[.int .u64 0, .int .u64 0, .int .u64 0, .slice none 0 0] 25)).setRow w7.heap.size [.int .u64 (t2 : Int), .int .u64 (e2 : Int), .int .u64 (c2 : Int), .slice A6 n6 k6].toArray = w8 at hrt hr5 hr6 hRp hRq hRr hB ⊢
    clear hR0 hb2
    generalize w7.heap.size = gr at hRr ⊢
    have cp0 : ∀ W, Below w8.heap.size w8 W → W.cell? ⟨w.heap.size, 0, none⟩ = some (.int .u64 (t : Int)) := fun W hW => (hRp.later hW).cell rfl
    have cp1 : ∀ W, Below w8.heap.size w8 W → W.cell? ⟨w.heap.size, 1, none⟩ = some (.int .u64 (e : Int)) := fun W hW => (hRp.later hW).cell rfl
    have cp2 : ∀ W, Below w8.heap.size w8 W → W.cell? ⟨w.heap.size, 2, none⟩ = some (.int .u64 (c : Int)) := fun W hW => (hRp.later hW).cell rfl
    have cp3 : ∀ W, Below w8.heap.size w8 W → W.cell? ⟨w.heap.size, 3, none⟩ = some (.slice A n k) := fun W hW => (hRp.later hW).cell rfl
    have cq0 : ∀ W, Below w8.heap.size w8 W → W.cell? ⟨gq, 0, none⟩ = some (.int .u64 (t2 : Int)) := fun W hW => (hRq.later hW).cell rfl
    have cq1 : ∀ W, Below w8.heap.size w8 W → W.cell? ⟨gq, 1, none⟩ = some (.int .u64 (e2 : Int)) := fun W hW => (hRq.later hW).cell rfl
    have cq2 : ∀ W, Below w8.heap.size w8 W → W.cell? ⟨gq, 2, none⟩ = some (.int .u64 (c2 : Int)) := fun W hW => (hRq.later hW).cell rfl
    have cq3 : ∀ W, Below w8.heap.size w8 W → W.cell? ⟨gq, 3, none⟩ = some (.slice A5 n5 k5) := fun W hW => (hRq.later hW).cell rfl
    have cr0 : ∀ W, Below w8.heap.size w8 W → W.cell? ⟨gr, 0, none⟩ = some (.int .u64 (t2 : Int)) := fun W hW => (hRr.later hW).cell rfl
    have cr1 : ∀ W, Below w8.heap.size w8 W → W.cell? ⟨gr, 1, none⟩ = some (.int .u64 (e2 : Int)) := fun W hW => (hRr.later hW).cell rfl
    have cr2 : ∀ W, Below w8.heap.size w8 W → W.cell? ⟨gr, 2, none⟩ = some (.int .u64 (c2 : Int)) := fun W hW => (hRr.later hW).cell rfl
    have cr3 : ∀ W, Below w8.heap.size w8 W → W.cell? ⟨gr, 3, none⟩ = some (.slice A6 n6 k6) := fun W hW => (hRr.later hW).cell rfl
    have HX := Lib.hid (And.intro hrt (And.intro hr5 (And.intro hr6 hB)))
    clear hrt hr5 hr6 hB hRp hRq hRr hrb
    have hBase := (Below.refl w8.heap.size w8).drew
    refine wp_region_plan (.step 0 false (.step 2 false (.step 3 false (.step 4 false (.step 5 false (.step 1 true (.step 6 false (.step 7 false (.step 8 false (.step 9 false (.step 10 true (.step 11 false (.step 12 false (.step 13 false (.step 14 false (.step 15 false (.step 16 false (.step 17 false (.step 18 false (.step 19 false (.step 20 false (.step 21 false (.step 22 false (.step 23 false (.step 26 false (.step 27 false (.step 28 false (.step 29 false (.step 30 false (.step 31 false (.step 24 true (.step 25 false (.step 32 true (.step 33 false (.step 34 false (.step 35 false (.step 36 false (.nil)))))))))))))))))))))))))))))))))))))) (by kernel_rfl) (by kernel_rfl) (by rfl) (by kernel_rfl) ?_
    iterate 5 (refine plan_read rfl (by rfl) (v := ?_) ?_ ?_; rotate_left 1; (intro W hW; have hW0 := below_step hBase hW; (try dsimp only at hW); go_simp <;> with_reducible rfl); simp only [List.getElem_toArray, List.getElem_cons_zero, List.getElem_cons_succ, Act.put, List.setIfInBounds_toArray, List.set_cons_zero, List.set_cons_succ])
    (refine plan_make rfl (by rfl) (fun K hK => ?_); go_simp; (refine (rightP_any t e c tag n A k _ HN (HX.out.1.keep hBase) hk (by omega)).mono ?_; rintro e₁ w9 ⟨rfl, hbx⟩; rw [hD]); refine hK.out _ _ hbx ?_; clear hK K; replace hBase := below_step hBase hbx)
    iterate 4 (refine plan_read rfl (by rfl) (v := ?_) ?_ ?_; rotate_left 1; (intro W hW; have hW0 := below_step hBase hW; (try dsimp only at hW); go_simp <;> with_reducible rfl); simp only [List.getElem_toArray, List.getElem_cons_zero, List.getElem_cons_succ, Act.put, List.setIfInBounds_toArray, List.set_cons_zero, List.set_cons_succ])
    (refine plan_make rfl (by rfl) (fun K hK => ?_); go_simp; (refine (refsame_pay t2 e2 c2 t2 e2 c2 tg tg n5 n6 A5 A6 k5 k6 _ HN5 HN6 (HX.out.2.1.keep hBase) (HX.out.2.2.1.keep hBase)).mono ?_; rintro e₁ w10 ⟨rfl, hbx⟩; rw [hSS]); refine hK.out _ _ hbx ?_; clear hK K; replace hBase := below_step hBase hbx)
    iterate 19 (refine plan_read rfl (by rfl) (v := ?_) ?_ ?_; rotate_left 1; (intro W hW; have hW0 := below_step hBase hW; (try dsimp only at hW); go_simp <;> with_reducible rfl); simp only [List.getElem_toArray, List.getElem_cons_zero, List.getElem_cons_succ, Act.put, List.setIfInBounds_toArray, List.set_cons_zero, List.set_cons_succ])
    (refine plan_make rfl (by rfl) (fun K hK => ?_); go_simp; (refine (msgP_any t e c _ HT.out HE.out HC.out).mono ?_; rintro e₁ w11 ⟨A11, n11, c11, rfl, HN11, hc11, hr11, hbx⟩); refine hK.out _ _ hbx ?_; clear hK K; replace hBase := below_step hBase hbx)
    have hs1 := strZ (c := c11) n11 HN11 hr11
    iterate 1 (refine plan_read rfl (by rfl) (v := ?_) ?_ ?_; rotate_left 1; (intro W hW; have hW0 := below_step hBase hW; (try dsimp only at hW); go_simp <;> with_reducible rfl); simp only [List.getElem_toArray, List.getElem_cons_zero, List.getElem_cons_succ, Act.put, List.setIfInBounds_toArray, List.set_cons_zero, List.set_cons_succ])
    (refine plan_make rfl (by rfl) (fun K hK => ?_); go_simp; (refine (refmsg_any t e c _ HT.out HE.out HC.out).mono ?_; rintro e₁ w12 ⟨A12, n12, c12, rfl, HN12, hc12, hr12, hbx⟩); refine hK.out _ _ hbx ?_; clear hK K; replace hBase := below_step hBase hbx)
    have hs2 := strZ (c := c12) n12 HN12 hr12
    iterate 4 (refine plan_read rfl (by rfl) (v := ?_) ?_ ?_; rotate_left 1; (intro W hW; have hW0 := below_step hBase hW; (try dsimp only at hW); go_simp <;> with_reducible rfl); simp only [List.getElem_toArray, List.getElem_cons_zero, List.getElem_cons_succ, Act.put, List.setIfInBounds_toArray, List.set_cons_zero, List.set_cons_succ])
    refine plan_done ?_
    clear hs1 hs2
    go_wp2_with fail
    go_ret
    exact ⟨rfl, below_step HX.out.2.2.2 hBase⟩
end Go.Proofs.Ytobeaoooaagdkaa
