/-
  What the reference's calls Mul and Slope of layer 8 answer. No conditions but those typed.
-/
import Derived.Test.YtfpoedapeoimbaaPolyRef2
namespace Go.Proofs.Ytfpoedapeoimbaa
set_option maxRecDepth 100000
open Go.RowKit
set_option linter.unusedSimpArgs false
set_option linter.unusedVariables false

theorem refat_ati (V : Int) (p : List UInt8) (k n : Nat) (x : UInt8) (hV : V = (k : Int)) (hx : co p k = x) (A : Option Addr) (c : Nat) (w : World) (HN : Hid (p.length = n)) (hr : Rd vB w A p) :
    Calls Try.prog 39 #[.slice A n c, .int .i64 V] w fun e w' => e = .returned (.int .u8 (x.toNat : Int)) ∧ w = w' := by
  subst hV hx
  exact refat_any p k n A c w HN hr
def InRel (f : Nat → UInt8) (hi : Nat) (w : World) (v i : Value) (wr : World) : Prop :=
  ∃ k : Nat, k ≤ hi ∧ i = .int .i64 (k : Int) ∧ v = .int .u8 ((f k).toNat : Int) ∧ Below w.heap.size w wr

set_option maxHeartbeats 2000000 in
theorem refmulP_any (p q : List UInt8) (n m : Nat) (A B : Option Addr) (c d : Nat) (w : World) (HN : Hid (p.length = n)) (HM : Hid (q.length = m)) (hp : Rd vB w A p) (hq : Rd vB w B q) (hn : n ≤ 100000) (hm : m ≤ 100000) :
    Calls Try.prog 24 #[.slice A n c, .slice B m d] w (RetQ w (plainL (mulL p q))) := by
  obtain ⟨i0, hi, hz0, hz1, hz2⟩ := info_parts info_u8
  have HF : Hid (∀ k, co (mulL p q) k = sumL' p q k (min (k + 1) n)) := fun k => by rw [← HN.out]; exact mul_sum_min p q k
  have HL : Hid (plainL (tabL (co (mulL p q)) (n + m)) = plainL (mulL p q)) := plain_tab _ _ (by rw [← HN.out, ← HM.out]; exact mulL_length_le p q)
  generalize mulL p q = R at HF HL ⊢
  go_enter Try.func24, Try.ntmps24
  go_wp2_with fail
  go_loopw [5, 6] (fun v i wr => TabRel (co R) 0 (n + m) w v i wr) (fun _ i _ => n + m - (intOf i).toNat)
  case atStart => exact ⟨0, Nat.zero_le _, rfl, World.ownsRow_nil _ _ _ _, Below.refl _ _⟩
  case round =>
    obtain ⟨k, hk, rfl, hown1, hbel1⟩ := hrel
    simp only [Nat.add_zero] at *
    have hle := hbel1.size
    by_cases h : k < n + m
    · have HX := Lib.hid (HF.out k)
      have j1 : (k : Int) < (n : Int) + (m : Int) := by omega
      have hk0 : (0 : Int) ≤ (k : Int) := by omega
      go_wp2_with fail
      go_loopw [7, 8] (fun v i wx => InRel (sumL' p q k) (min (k + 1) n) wr v i wx) (fun _ i _ => n - (intOf i).toNat)
      case atStart => exact ⟨0, Nat.zero_le _, rfl, rfl, Below.refl _ _⟩
      case round =>
        obtain ⟨i, hik, rfl, rfl, hB⟩ := hrel
        have hbw := below_step hbel1 hB
        have i0' : (0 : Int) ≤ (i : Int) := by omega
        by_cases hlt : i < min (k + 1) n
        · have g1 : (i : Int) ≤ (k : Int) := by omega
          have g2 : (i : Int) < (n : Int) := by omega
          have hip : i < p.length := by rw [HN.out]; omega
          obtain ⟨b, o, rfl, hb, hcell⟩ := hp.at hip
          have hco := co_lt p i hip
          have hc0 : ∀ W, Below wr.heap.size wr W → W.cell? ⟨b, o + i, none⟩ = some (.int .u8 (p[i].toNat : Int)) := fun W hW => ((below_step hbw hW).cell (p := ⟨b, o + i, none⟩) hb).trans (hcell i hip)
          obtain ⟨y, hy⟩ : ∃ y, p[i] = y := ⟨_, rfl⟩
          rw [hy] at hc0 hco
          obtain ⟨z, hz⟩ : ∃ z, co q (k - i) = z := ⟨_, rfl⟩
          obtain ⟨V, hV⟩ : ∃ V, sumL' p q k i = V := ⟨_, rfl⟩
          have HS : Hid (sumL' p q k (i + 1) = xorB V (mulB y z)) := by
            unfold Hid
            rw [sumL', hV, hco, hz]
            rfl
          rw [hV]
          have hAt : ∀ W, Below wr.heap.size wr W → ∀ V', V' = ((k - i : Nat) : Int) → Calls Try.prog 39 #[.slice B m d, .int .i64 V'] W fun e w'' => e = .returned (.int .u8 (z.toNat : Int)) ∧ W = w'' := fun W hW V' hV' => refat_ati V' q (k - i) m z hV' hz B d W HM (hq.keep (below_step hbw hW))
          have HAt := Lib.hid hAt
          have hM : ∀ W, Calls Try.prog 28 #[.int .u8 (y.toNat : Int), .int .u8 (z.toNat : Int)] W fun e w'' => e = .returned (.int .u8 ((mulB y z).toNat : Int)) ∧ W = w'' := fun W => refmul_any y z W
          have HMu := Lib.hid hM
          have hxr := u8_xor_b V (mulB y z)
          generalize mulB y z = M at HS HMu hxr
          generalize xorB V M = X at HS hxr
          have HR : Hid (∀ W, Below wr.heap.size wr W → InRel (sumL' p q k) (min (k + 1) n) _ (.int .u8 (X.toNat : Int)) (.int .i64 ((i : Int) + 1)) W) := fun W hW => ⟨i + 1, hlt, by go_num, by rw [HS.out], below_step hB hW⟩
          have hBase : Below wr.heap.size wr wr.drew := (Below.refl _ _).drew
          have hwk : IntKind.i64.wrap ((k : Int) - (i : Int)) = (k : Int) - (i : Int) := by rw [IntKind.wrap_i64]; omega
          have hki : (k : Int) - (i : Int) = ((k - i : Nat) : Int) := by omega
          have HKI := Lib.hid hki
          clear hki
          clear hAt hM hcell hy hz hV hco HS hown1 hbel1 HX hB hbw hlt hip
          go_wp2_with fail
          refine wp_region_plan (.step 0 false (.step 1 false (.step 2 false (.step 3 false (.step 4 false (.step 5 false (.step 6 false (.step 7 false (.step 8 false (.step 9 true (.step 10 true (.step 11 false (.step 12 false (.nil)))))))))))))) (by kernel_rfl) (by kernel_rfl) (by rfl) (by kernel_rfl) ?_
          iterate 9 (refine plan_read rfl (by rfl) (v := ?_) ?_ ?_; rotate_left 1; (intro W hW; have hW0 := below_step hBase hW; (try dsimp only at hW); go_simp <;> with_reducible rfl); simp only [List.getElem_toArray, List.getElem_cons_zero, List.getElem_cons_succ, Act.put, List.setIfInBounds_toArray, List.set_cons_zero, List.set_cons_succ])
          (refine plan_make rfl (by rfl) (fun K hK => ?_); go_simp; (refine (HAt.out _ hBase _ (by exact HKI.out)).mono ?_; rintro e w2 ⟨rfl, rfl⟩; have hbx := Below.refl wr.drew.heap.size wr.drew); refine hK.out _ _ hbx ?_; clear hK K; replace hBase := below_step hBase hbx)
          (refine plan_make rfl (by rfl) (fun K hK => ?_); go_simp; (refine (HMu.out _).mono ?_; rintro e w2 ⟨rfl, rfl⟩; have hbx := Below.refl wr.drew.heap.size wr.drew); refine hK.out _ _ hbx ?_; clear hK K; replace hBase := below_step hBase hbx)
          iterate 2 (refine plan_read rfl (by rfl) (v := ?_) ?_ ?_; rotate_left 1; (intro W hW; have hW0 := below_step hBase hW; (try dsimp only at hW); go_simp <;> with_reducible rfl); simp only [List.getElem_toArray, List.getElem_cons_zero, List.getElem_cons_succ, Act.put, List.setIfInBounds_toArray, List.set_cons_zero, List.set_cons_succ])
          refine plan_done ?_
          clear hc0
          go_wp2_with fail
          go_roundw
          case rel => exact HR.out _ hBase
          case measure => simp [intOf]; omega
        · have hie : i = min (k + 1) n := by omega
          rw [← hie] at HX
          obtain ⟨X, hX⟩ : ∃ X, sumL' p q k i = X := ⟨_, rfl⟩
          rw [hX] at HX ⊢
          have hown2 := ownsRow_later hown1 hB
          have hle2 := hbw.size
          have HR : Hid (∀ (v' : Value) (w1 : World), (wr.alloc (.cells #[.int .u8 (X.toNat : Int)] 5)).grownBy w1 (Value.ownBlock v') → True) := fun _ _ _ => trivial
          clear HR hX hown1
          by_cases g1 : i ≤ k
          · have g1' : (i : Int) ≤ (k : Int) := by omega
            have g2 : ¬ (i : Int) < (n : Int) := by omega
            clear hie hik
            go_wp2_with (at_builtin; refine wpList_append_own _ rfl _ _ 22 rfl w.heap.size 5 i0 (.int .u8 0) 1 1 Try.underlying22 hi hz0 hz1 hz2 rfl (by decide) _ _ _ rfl (hown2.alloc _) ⟨wr.heap.size, 0, none⟩ 1 1 [.int .u8 (X.toNat : Int)] rfl rfl (cell_one_new _ _ _) (by intro u hu; simp at hu; subst hu; rfl) (by unfold maxLen; omega) (by omega) (by simp; omega) ?_; intro v' w1 hown' hgrow' _)
            go_roundw
            case rel => exact tab_round (lo := 0) h hown2 hbw HX.out hgrow' hown'
            case measure => simp [intOf]; omega
          · have g1' : ¬ (i : Int) ≤ (k : Int) := by omega
            clear hie hik
            go_wp2_with (at_builtin; refine wpList_append_own _ rfl _ _ 22 rfl w.heap.size 5 i0 (.int .u8 0) 1 1 Try.underlying22 hi hz0 hz1 hz2 rfl (by decide) _ _ _ rfl (hown2.alloc _) ⟨wr.heap.size, 0, none⟩ 1 1 [.int .u8 (X.toNat : Int)] rfl rfl (cell_one_new _ _ _) (by intro u hu; simp at hu; subst hu; rfl) (by unfold maxLen; omega) (by omega) (by simp; omega) ?_; intro v' w1 hown' hgrow' _)
            go_roundw
            case rel => exact tab_round (lo := 0) h hown2 hbw HX.out hgrow' hown'
            case measure => simp [intOf]; omega
    · have hkm : k = n + m := by omega
      have j1 : ¬ (k : Int) < (n : Int) + (m : Int) := by omega
      obtain ⟨l, hl⟩ : ∃ l, l = tabL (co R) k := ⟨_, rfl⟩
      have HLen : Hid (l.length = k) := by unfold Hid; rw [hl]; exact tab_length _ _
      have HPl : Hid (plainL l = plainL R) := by unfold Hid; rw [hl, hkm]; exact HL.out
      rw [← hl] at hown1
      have hk2 : k ≤ 200000 := by omega
      clear hkm
      have hown2 := hown1
      rw [← HLen.out] at hown2
      obtain ⟨A1, c1, hv1, hc1, hr1⟩ := own_slice hown2
      rw [HLen.out] at hc1 hv1
      subst hv1
      clear hown1 hown2 hl
      go_wp2_with fail
      refine (refplain_any l k A1 c1 _ HLen hr1 hc1 (by omega)).mono ?_
      rintro e w1 ⟨A2, n2, c2, rfl, HN2, hc2, hr2, hb2⟩
      rw [HPl.out] at HN2 hr2
      go_wp2_with fail
      go_ret
      exact ⟨A2, n2, c2, rfl, HN2, hc2, hr2, below_step hbel1 hb2⟩
end Go.Proofs.Ytfpoedapeoimbaa
