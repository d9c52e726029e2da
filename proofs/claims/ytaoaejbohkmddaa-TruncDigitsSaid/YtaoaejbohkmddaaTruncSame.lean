/-
  The walk of the law TruncSame: tags are the same just if all their bytes are; turned at one place they are unlike at just one. No conditions.
-/
import Derived.Test.YtaoaejbohkmddaaTruncAwake
import Derived.Test.YtaoaejbohkmddaaOwn
import Derived.Deep.DeepCutAuto
namespace Go.Proofs.Ytaoaejbohkmddaa
open Go.RowKit
set_option linter.unusedSimpArgs false
set_option linter.unusedVariables false

theorem strs_eq (a b : List UInt8) : ((strL a).toList == (strL b).toList) = sameB a b := by
  unfold strL
  rw [ByteArray.toList_mk, ByteArray.toList_mk]
  by_cases h : a = b
  · subst h
    rw [(sameB_iff a a).2 rfl]
    simp
  · have h1 : sameB a b = false := by
      rw [Bool.eq_false_iff]
      exact fun e => h ((sameB_iff a b).1 e)
    rw [h1]
    simpa using h

set_option maxRecDepth 100000 in
set_option maxHeartbeats 2000000 in
theorem truncsame_core (a b c : List UInt8) (A B C : Option Addr) (ca cb cc t : Nat) (y : UInt8) (w : World) (ha : Rd vB w A a) (hb : Rd vB w B b) (hc : Rd vB w C c) (hal : a.length ≤ 3000) (hbl : b.length ≤ 3000) (hcl : c.length ≤ 3000) (ht : t < 65536) :
    Calls Try.prog 4 #[.slice A a.length ca, .slice B b.length cb, .slice C c.length cc, .int .u16 (t : Int), .int .u8 (y.toNat : Int)] w fun e w' => e = .returned (.bool true) ∧ Below w.heap.size w w' := by
  have g1 : decide ((3000 : Int) < (a.length : Int)) = false := by simp; omega
  have g2 : decide ((3000 : Int) < (b.length : Int)) = false := by simp; omega
  have g3 : decide ((3000 : Int) < (c.length : Int)) = false := by simp; omega
  go_enter Try.func4, Try.ntmps4
  go_wp2_with fail
  refine (awake4_any _).mono ?_
  rintro e w1 ⟨rfl, hB⟩
  go_wp2_with fail
  clear g1 g2 g3
  obtain ⟨kab, hab⟩ : ∃ k, unlikeL a b = k := ⟨_, rfl⟩
  obtain ⟨kac, hac⟩ : ∃ k, unlikeL a c = k := ⟨_, rfl⟩
  obtain ⟨kbc, hbc⟩ : ∃ k, unlikeL b c = k := ⟨_, rfl⟩
  have l1 := unlike_le a b
  have l2 := unlike_le a c
  have l3 := unlike_le b c
  have l4 := unlike_tri a b c
  rw [hab] at l1 l4
  rw [hac] at l2 l4
  rw [hbc] at l3 l4
  have HAB := Lib.hid hab
  have HBA : Hid (unlikeL b a = kab) := by unfold Hid; rw [unlike_symm]; exact hab
  have HAC := Lib.hid hac
  have HBC := Lib.hid hbc
  obtain ⟨mx, hmx⟩ : ∃ mx : Nat, mx = max a.length b.length := ⟨_, rfl⟩
  have q0 : (if (a.length : Int) < (b.length : Int) then (b.length : Int) else (a.length : Int)) = (mx : Int) := by rw [hmx]; split <;> omega
  have q1 : (if a.length < b.length then (b.length : Int) else (a.length : Int)) = (mx : Int) := by rw [hmx]; split <;> omega
  have q2 : ¬ (mx : Int) < (kab : Int) := by omega
  have q5 : ¬ mx < kab := by omega
  have q3 : IntKind.i64.wrap ((kab : Int) + (kbc : Int)) = (kab : Int) + (kbc : Int) := by rw [IntKind.wrap_i64]; omega
  have q4 : ¬ (kab : Int) + (kbc : Int) < (kac : Int) := by omega
  have e1 := strs_eq a b
  obtain ⟨s, hs⟩ : ∃ s, sameB a b = s := ⟨_, rfl⟩
  rw [hs] at e1
  have HS := Lib.hid hs
  have hsa : ∀ W, Below w1.heap.size w1 W → (convert 22 9 (.slice A a.length ca)).run Try.prog W = .ok (.string (strL a)) W := run_str_later Try.underlying22 Try.underlying5 Try.underlying9 (ha.keep hB)
  have hsb : ∀ W, Below w1.heap.size w1 W → (convert 22 9 (.slice B b.length cb)).run Try.prog W = .ok (.string (strL b)) W := run_str_later Try.underlying22 Try.underlying5 Try.underlying9 (hb.keep hB)
  generalize strL a = SA at e1 hsa
  generalize strL b = SB at e1 hsb
  clear hab hac hbc hs l1 l2 l3 l4 hmx
  have hBase : Below w1.heap.size w1 w1.drew := (Below.refl _ _).drew
  refine wp_region_plan (.step 0 false (.step 1 false (.step 3 false (.step 4 false (.step 5 false (.step 6 false (.step 7 false (.step 2 true (.step 8 false (.step 9 false (.step 10 false (.step 11 false (.step 13 false (.step 14 false (.step 12 true (.step 15 true (.step 16 false (.step 17 false (.step 18 false (.step 19 false (.step 20 false (.step 22 false (.step 23 false (.step 24 false (.step 25 false (.step 26 false (.step 21 true (.step 27 false (.step 28 false (.step 29 false (.step 30 false (.step 31 false (.step 33 false (.step 34 false (.step 36 false (.step 37 false (.step 32 true (.step 35 true (.step 38 true (.step 39 false (.step 40 false (.step 41 false (.nil))))))))))))))))))))))))))))))))))))))))))) (by kernel_rfl) (by kernel_rfl) (by rfl) (by kernel_rfl) ?_
  iterate 7 (refine plan_read rfl (by rfl) (v := ?_) ?_ ?_; rotate_left 1; (intro W hW; have hW0 := below_step hBase hW; (try dsimp only at hW); go_simp <;> with_reducible rfl); simp only [List.getElem_toArray, List.getElem_cons_zero, List.getElem_cons_succ, Act.put, List.setIfInBounds_toArray, List.set_cons_zero, List.set_cons_succ])
  (refine plan_make rfl (by rfl) (fun K hK => ?_); go_simp; (refine (same_any _ _ a b _ _ _ _ _ (Lib.hid rfl) (Lib.hid rfl) (ha.keep (by exact below_step hB hBase)) (hb.keep (by exact below_step hB hBase)) (by omega) (by omega)).mono ?_; rintro e w2 ⟨rfl, hbx⟩; rw [HS.out]); refine hK.out _ _ hbx ?_; clear hK K; replace hBase := below_step hBase hbx)
  clear hsa hsb
  iterate 6 (refine plan_read rfl (by rfl) (v := ?_) ?_ ?_; rotate_left 1; (intro W hW; have hW0 := below_step hBase hW; (try dsimp only at hW); go_simp <;> with_reducible rfl); simp only [List.getElem_toArray, List.getElem_cons_zero, List.getElem_cons_succ, Act.put, List.setIfInBounds_toArray, List.set_cons_zero, List.set_cons_succ])
  clear e1
  (refine plan_make rfl (by rfl) (fun K hK => ?_); go_simp; (refine (unlike_any _ _ a b _ _ _ _ _ (Lib.hid rfl) (Lib.hid rfl) (ha.keep (by exact below_step hB hBase)) (hb.keep (by exact below_step hB hBase)) (by omega) (by omega)).mono ?_; rintro e w3 ⟨rfl, hbx⟩; rw [HAB.out]); refine hK.out _ _ hbx ?_; clear hK K; replace hBase := below_step hBase hbx)
  (refine plan_make rfl (by rfl) (fun K hK => ?_); go_simp; (refine (unlike_any _ _ b a _ _ _ _ _ (Lib.hid rfl) (Lib.hid rfl) (hb.keep (by exact below_step hB hBase)) (ha.keep (by exact below_step hB hBase)) (by omega) (by omega)).mono ?_; rintro e w4 ⟨rfl, hbx⟩; rw [HBA.out]); refine hK.out _ _ hbx ?_; clear hK K; replace hBase := below_step hBase hbx)
  iterate 10 (refine plan_read rfl (by rfl) (v := ?_) ?_ ?_; rotate_left 1; (intro W hW; have hW0 := below_step hBase hW; (try dsimp only at hW); go_simp <;> with_reducible rfl); simp only [List.getElem_toArray, List.getElem_cons_zero, List.getElem_cons_succ, Act.put, List.setIfInBounds_toArray, List.set_cons_zero, List.set_cons_succ])
  (refine plan_make rfl (by rfl) (fun K hK => ?_); go_simp; (refine (unlike_any _ _ a b _ _ _ _ _ (Lib.hid rfl) (Lib.hid rfl) (ha.keep (by exact below_step hB hBase)) (hb.keep (by exact below_step hB hBase)) (by omega) (by omega)).mono ?_; rintro e w5 ⟨rfl, hbx⟩; rw [HAB.out]); refine hK.out _ _ hbx ?_; clear hK K; replace hBase := below_step hBase hbx)
  iterate 9 (refine plan_read rfl (by rfl) (v := ?_) ?_ ?_; rotate_left 1; (intro W hW; have hW0 := below_step hBase hW; (try dsimp only at hW); go_simp <;> with_reducible rfl); simp only [List.getElem_toArray, List.getElem_cons_zero, List.getElem_cons_succ, Act.put, List.setIfInBounds_toArray, List.set_cons_zero, List.set_cons_succ])
  (refine plan_make rfl (by rfl) (fun K hK => ?_); go_simp; (refine (unlike_any _ _ a c _ _ _ _ _ (Lib.hid rfl) (Lib.hid rfl) (ha.keep (by exact below_step hB hBase)) (hc.keep (by exact below_step hB hBase)) (by omega) (by omega)).mono ?_; rintro e w6 ⟨rfl, hbx⟩; rw [HAC.out]); refine hK.out _ _ hbx ?_; clear hK K; replace hBase := below_step hBase hbx)
  (refine plan_make rfl (by rfl) (fun K hK => ?_); go_simp; (refine (unlike_any _ _ a b _ _ _ _ _ (Lib.hid rfl) (Lib.hid rfl) (ha.keep (by exact below_step hB hBase)) (hb.keep (by exact below_step hB hBase)) (by omega) (by omega)).mono ?_; rintro e w7 ⟨rfl, hbx⟩; rw [HAB.out]); refine hK.out _ _ hbx ?_; clear hK K; replace hBase := below_step hBase hbx)
  (refine plan_make rfl (by rfl) (fun K hK => ?_); go_simp; (refine (unlike_any _ _ b c _ _ _ _ _ (Lib.hid rfl) (Lib.hid rfl) (hb.keep (by exact below_step hB hBase)) (hc.keep (by exact below_step hB hBase)) (by omega) (by omega)).mono ?_; rintro e w8 ⟨rfl, hbx⟩; rw [HBC.out]); refine hK.out _ _ hbx ?_; clear hK K; replace hBase := below_step hBase hbx)
  iterate 3 (refine plan_read rfl (by rfl) (v := ?_) ?_ ?_; rotate_left 1; (intro W hW; have hW0 := below_step hBase hW; (try dsimp only at hW); go_simp <;> with_reducible rfl); simp only [List.getElem_toArray, List.getElem_cons_zero, List.getElem_cons_succ, Act.put, List.setIfInBounds_toArray, List.set_cons_zero, List.set_cons_succ])
  refine plan_done ?_
  replace hB := below_step hB hBase
  clear hBase q0 q1 q2 q3 q4 q5
  by_cases h0 : a.length = 0
  · have z0 : ((a.length : Int) == 0) = true := beq_iff_eq.2 (by omega)
    go_wp2_with fail
    go_ret
    exact ⟨rfl, hB⟩
  · have z0 : ((a.length : Int) == 0) = false := beq_eq_false_iff_ne.2 (by omega)
    by_cases hy : y = 0
    · subst hy
      go_wp2_with fail
      go_ret
      exact ⟨rfl, hB⟩
    · have z1 : ((y.toNat : Int) == 0) = false := by
        have : y.toNat ≠ 0 := fun e => hy (UInt8.toNat_inj.1 e)
        simp
        omega
      obtain ⟨i0, hi, hz0, hz1, hz2⟩ := info_parts info_u8
      obtain ⟨q, hq⟩ : ∃ q, q = t % a.length := ⟨_, rfl⟩
      have hql : q < a.length := by rw [hq]; exact Nat.mod_lt _ (by omega)
      have HNE := Lib.hid (xorB_ne a[q] y hy)
      have hx := u8_xor_b a[q] y
      have HU : Hid (unlikeL a (a.set q (xorB a[q] y)) = 1) := unlike_set a q hql _ HNE.out
      have HU2 : Hid (sameB a (a.set q (xorB a[q] y)) = false) := by unfold Hid sameB; rw [HU.out]; rfl
      have HL2 : Hid ((a.set q (xorB a[q] y)).length = a.length) := List.length_set
      have hown0 : (w8.alloc (.cells #[] 5)).ownsRow w8.heap.size 5 1 (.slice (some ⟨w8.heap.size, 0, none⟩) 0 0) 0 [] := World.ownsRow_made w8 #[] 0 (Nat.le_refl _) (by unfold maxLen; omega) rfl
      have hb1 := below_new (Below.refl _ w8) (.cells #[] 5)
      have ha8 := ha.keep (below_step hB hb1)
      go_upto_region 10 with (at_builtin; refine wpList_append_rd _ rfl (.tmp 76) (.tmp 77) 22 rfl w8.heap.size 5 i0 (.int .u8 0) 1 Try.underlying22 hi hz0 hz1 hz2 rfl _ _ _ rfl hown0 A a ca rfl ha8 vB_one (by unfold maxLen; omega) (by omega) (by simp) ?_; intro v9 w9 hown9 hgrow9)
      have hb9 : Below w8.heap.size w8 w9 := hb1.grown hgrow9 (by simp) (fun k hk => (hown0.lt k hk).1)
      have hown : w9.ownsRow w8.heap.size 5 1 v9 a.length (a.map vB) := by simpa using hown9
      obtain ⟨g, cap, rfl, hg, hgl, hcap, hcell, hfz, hset⟩ := own_set hown hql
      have HR := Lib.hid (hset (xorB a[q] y))
      generalize xorB a[q] y = z at hx HU HU2 HL2 HR HNE
      unfold vB at hcell
      generalize a[q] = x at hx hcell
      have m1 : (t : Int) % (a.length : Int) = (q : Int) := by rw [hq]; omega
      have m2 : (t : Int).tmod (a.length : Int) = (q : Int) := by rw [Int.tmod_eq_emod_of_nonneg (by omega)]; exact m1
      have m3 : (0 : Int) ≤ (q : Int) := by omega
      have m4 : (q : Int) < (a.length : Int) := by omega
      have m5 : IntKind.i64.wrap (t : Int) = (t : Int) := by rw [IntKind.wrap_i64]; omega
      have HB10 : Hid (Below w8.heap.size w8 (w9.setCell ⟨g, q, none⟩ (vB z))) := hb9.setCell hg _
      clear HNE hown0 hown9 hgrow9 hown hset hb1 ha8 hb9 hq hql hy
      go_upto_region 11 with fail
      refine at_world (Q := Code.wp _ _ _ _) (fun W => Rd vB W (some ⟨g, 0, none⟩) (a.set q z) ∧ Below w8.heap.size w8 W) ⟨HR.out, HB10.out⟩ ?_
      clear hcell hfz HR HB10 hx m1 m2 m5
      rintro W ⟨hrx, hbW⟩
      replace hB := below_step hB hbW
      clear hbW
      go_wp2_with fail
      refine (unlike_any _ _ a (a.set q z) _ _ _ _ _ (Lib.hid rfl) HL2 (ha.keep hB) hrx (by omega) (by omega)).mono ?_
      rintro e w10 ⟨rfl, hb10⟩
      rw [HU.out]
      replace hB := below_step hB hb10
      replace hrx := hrx.keep hb10
      clear hb10
      go_wp2_with fail
      refine (same_any _ _ a (a.set q z) _ _ _ _ _ (Lib.hid rfl) HL2 (ha.keep hB) hrx (by omega) (by omega)).mono ?_
      rintro e w11 ⟨rfl, hb11⟩
      rw [HU2.out]
      go_wp2_with fail
      go_ret
      exact ⟨rfl, below_step hB hb11⟩
end Go.Proofs.Ytaoaejbohkmddaa
