/-
  The walk of the law FrameBack: payloads come back from their bytes, and so on. No conditions.
-/
import Derived.Test.YteppocjgodmpdaaQ3
namespace Go.Proofs.Yteppocjgodmpdaa
set_option maxRecDepth 100000
open Go.RowKit
set_option linter.unusedSimpArgs false
set_option linter.unusedVariables false

def WrtH (n : Nat) (t e c : Nat) (tag X : List UInt8) (kx : Int) : Prop := (n = 8 ∧ X = writeF t e c tag ∧ kx = 0) ∨ (n ≠ 8 ∧ X = [] ∧ kx = 1)
theorem writeP_any (t e c : Nat) (tag : List UInt8) (n : Nat) (A : Option Addr) (k : Nat) (w : World) (ht : t < 18446744073709551616) (he : e < 18446744073709551616) (hc : c < 18446744073709551616) (HN : Hid (tag.length = n)) (hr : Rd vB w A tag) (hk : n ≤ k) (hn : n ≤ 100000) :
    Calls Try.prog 6 #[aggP t e c A n k] w fun e₁ w' => ∃ X kx A' m c', e₁ = .returned (.tuple #[.slice A' m c', .int .i64 kx]) ∧ Hid (X.length = m) ∧ m ≤ c' ∧ Rd vB w' A' X ∧ Below w.heap.size w w' ∧ Hid (WrtH n t e c tag X kx) := by
  by_cases h8 : n = 8
  · subst h8
    refine (writeP_ok t e c tag A k w ht he hc HN hr hk).mono ?_
    rintro e₁ w' ⟨A', m, c', h1, h2, h3, h4, h5⟩
    exact ⟨_, 0, A', m, c', h1, h2, h3, h4, h5, .inl ⟨rfl, rfl, rfl⟩⟩
  · refine (writeP_no t e c tag n A k w ht he hc HN hr hk hn h8).mono ?_
    rintro e₁ w' ⟨A', m, c', h1, h2, h3, h4, h5⟩
    exact ⟨_, 1, A', m, c', h1, h2, h3, h4, h5, .inr ⟨h8, rfl, rfl⟩⟩
theorem read_bad (b : List UInt8) (h : (readF b).1 ≠ 0) : readF b = ((readF b).1, 0, 0, 0, []) := by
  obtain ⟨k0, S0, H0⟩ : ∃ k S, markK 87 b = (k, S) := ⟨_, _, rfl⟩
  obtain ⟨k1, x1, S1, H1⟩ : ∃ k x S, nK k0 S0 = (k, x, S) := ⟨_, _, _, rfl⟩
  obtain ⟨k2, x2, S2, H2⟩ : ∃ k x S, nK k1 S1 = (k, x, S) := ⟨_, _, _, rfl⟩
  obtain ⟨k3, x3, S3, H3⟩ : ∃ k x S, nK k2 S2 = (k, x, S) := ⟨_, _, _, rfl⟩
  obtain ⟨k4, T, H4⟩ : ∃ k S, tagK k3 S3 = (k, S) := ⟨_, _, rfl⟩
  have HF := steps_read H0 H1 H2 H3 H4
  by_cases h5 : endK k4 (S3.drop 8) = 0
  · rw [if_pos h5] at HF
    rw [HF] at h
    exact absurd rfl h
  · rw [if_neg h5] at HF
    rw [HF]
theorem read_cases (b : List UInt8) : (∃ t e c tag, readF b = (0, t, e, c, tag)) ∨ ∃ k : Int, k ≠ 0 ∧ readF b = (k, 0, 0, 0, []) := by
  by_cases h : (readF b).1 = 0
  · exact .inl ⟨_, _, _, _, Prod.ext h rfl⟩
  · exact .inr ⟨_, h, read_bad b h⟩
theorem str_sameF (a b : List UInt8) (S : Bool) (h : (a = b) ↔ S = true) : ((strL a).toList == (strL b).toList) = S := by
  rw [strL_toList, strL_toList, Bool.eq_iff_iff, beq_iff_eq]
  exact h
theorem same_self (t e c : Nat) (g : List UInt8) : sameF t e c g t e c g = true := by unfold sameF; simp
theorem cut_len (y m : Nat) (hy : y < 256) (hm : 0 < m) (hm2 : m ≤ 100000) : IntKind.i64.wrap (y : Int) = (y : Int) ∧ (y : Int).tmod (m : Int) = ((y % m : Nat) : Int) ∧ ((m : Int) == 0) = false ∧ y % m < m := by
  refine ⟨by rw [IntKind.wrap_i64]; omega, ?_, beq_eq_false_iff_ne.2 (by omega), Nat.mod_lt _ hm⟩
  rw [Int.tmod_eq_emod_of_nonneg (by omega)]
  omega
/-- Two payloads in their blocks. -/
def TwoP (g : Nat) (cp cq : List Value) (w W : World) : Prop := Row W g 25 cp ∧ Row W (g + 1) 25 cq ∧ Below w.heap.size w W
theorem TwoP.later {g : Nat} {cp cq : List Value} {w W W' : World} (h : TwoP g cp cq w W) (hb : Below W.heap.size W W') : TwoP g cp cq w W' := ⟨h.1.later hb, h.2.1.later hb, below_step h.2.2 hb⟩

set_option maxRecDepth 100000 in
set_option maxHeartbeats 8000000 in
theorem frameback_core (t e c : Nat) (tag : List UInt8) (n : Nat) (A : Option Addr) (k : Nat) (t' e' c' : Nat) (tag' : List UInt8) (n' : Nat) (A' : Option Addr) (k' : Nat) (b : List UInt8) (m : Nat) (B : Option Addr) (d : Nat) (y : Nat) (l : List UInt8) (q : Nat) (C : Option Addr) (f : Nat) (w : World)
    (ht : t < 18446744073709551616) (he : e < 18446744073709551616) (hc : c < 18446744073709551616) (HN : Hid (tag.length = n)) (hrt : Rd vB w A tag) (hk : n ≤ k) (hn : n ≤ 3000)
    (ht' : t' < 18446744073709551616) (he' : e' < 18446744073709551616) (hc' : c' < 18446744073709551616) (HN' : Hid (tag'.length = n')) (hrt' : Rd vB w A' tag') (hk' : n' ≤ k') (hn' : n' ≤ 3000)
    (HM : Hid (b.length = m)) (hrb : Rd vB w B b) (hd : m ≤ d) (hm : m ≤ 3000) (HQ : Hid (l.length = q)) (hrl : Rd vB w C l) (hf : q ≤ f) (hq : q ≤ 300) (hy : y < 256) :
    Calls Try.prog 4 #[aggP t e c A n k, aggP t' e' c' A' n' k', .slice B m d, .int .u8 (y : Int), .slice C q f] w fun e₁ w' => e₁ = .returned (.bool true) ∧ Below w.heap.size w w' := by
  have g1 : decide ((3000 : Int) < (n : Int)) = false := decide_eq_false (by omega)
  have g2 : decide ((3000 : Int) < (n' : Int)) = false := decide_eq_false (by omega)
  have g3 : decide ((3000 : Int) < (m : Int)) = false := decide_eq_false (by omega)
  have g4 : decide ((300 : Int) < (q : Int)) = false := decide_eq_false (by omega)
  have n1 : ¬ 3000 < n := by omega
  have n2 : ¬ 3000 < n' := by omega
  have n3 : ¬ 3000 < m := by omega
  have n4 : ¬ 300 < q := by omega
  obtain ⟨hR0, hB0⟩ := box_pay w 25 (.int .u64 (t : Int)) (.int .u64 (e : Int)) (.int .u64 (c : Int)) (.slice A n k)
  obtain ⟨hR1, hB1⟩ := box_pay (w.alloc (.cells #[.int .u64 (t : Int), .int .u64 (e : Int), .int .u64 (c : Int), .slice A n k] 25)) 25 (.int .u64 (t' : Int)) (.int .u64 (e' : Int)) (.int .u64 (c' : Int)) (.slice A' n' k')
  have hsz : (w.alloc (.cells #[.int .u64 (t : Int), .int .u64 (e : Int), .int .u64 (c : Int), .slice A n k] 25)).heap.size = w.heap.size + 1 := by simp
  rw [hsz] at hR1
  have hT : TwoP w.heap.size (cellsP t e c A n k) (cellsP t' e' c' A' n' k') w ((w.alloc (.cells #[.int .u64 (t : Int), .int .u64 (e : Int), .int .u64 (c : Int), .slice A n k] 25)).alloc (.cells #[.int .u64 (t' : Int), .int .u64 (e' : Int), .int .u64 (c' : Int), .slice A' n' k'] 25)) := ⟨hR0.later hB1, hR1, below_step hB0 hB1⟩
  clear hR0 hB0 hR1 hB1 hsz
  unfold aggP
  go_enter Try.func4, Try.ntmps4
  go_upto_region 1 with fail
  generalize (w.alloc (.cells #[.int .u64 (t : Int), .int .u64 (e : Int), .int .u64 (c : Int), .slice A n k] 25)).alloc (.cells #[.int .u64 (t' : Int), .int .u64 (e' : Int), .int .u64 (c' : Int), .slice A' n' k'] 25) = W0 at hT ⊢
  have HT := Lib.hid (And.intro ht (And.intro he hc))
  have HT' := Lib.hid (And.intro ht' (And.intro he' hc'))
  clear ht he hc ht' he' hc'
  replace hrt := hrt.keep hT.2.2
  replace hrt' := hrt'.keep hT.2.2
  replace hrb := hrb.keep hT.2.2
  replace hrl := hrl.keep hT.2.2
  go_wp2_with fail
  refine (awake12_any _).mono ?_
  rintro e₁ w1 ⟨rfl, hb⟩
  replace hrt := hrt.keep hb
  replace hrt' := hrt'.keep hb
  replace hrb := hrb.keep hb
  replace hrl := hrl.keep hb
  replace hT := hT.later hb
  clear hb
  have c3 : w1.cell? ⟨w.heap.size, 3, none⟩ = some (.slice A n k) := hT.1.cell rfl
  have d3 : w1.cell? ⟨w.heap.size + 1, 3, none⟩ = some (.slice A' n' k') := hT.2.1.cell rfl
  go_upto_region 5 with fail
  clear g1 g2 g3 g4 n1 n2 n3 n4 c3 d3
  go_wp2_with (refine wpList_load_part rfl 25 (.tmp 5) rfl w.heap.size 0 rfl _ _ hT.1 (cellsP t e c A n k) (by rfl) _ Try.underlying25 rfl (by exact size_pay) ?_)
  refine (writeP_any t e c tag n A k _ HT.out.1 HT.out.2.1 HT.out.2.2 HN hrt hk (by omega)).mono ?_
  rintro e₁ w2 ⟨X, kx, A1, m1, c1, rfl, HX, hc1, hrx, hb, HWX⟩
  replace hrt := hrt.keep hb
  replace hrt' := hrt'.keep hb
  replace hrb := hrb.keep hb
  replace hrl := hrl.keep hb
  replace hT := hT.later hb
  clear hb
  go_upto_region 6 with fail
  go_wp2_with (refine wpList_load_part rfl 25 (.tmp 6) rfl (w.heap.size + 1) 0 rfl _ _ hT.2.1 (cellsP t' e' c' A' n' k') (by rfl) _ Try.underlying25 rfl (by exact size_pay) ?_)
  refine (writeP_any t' e' c' tag' n' A' k' _ HT'.out.1 HT'.out.2.1 HT'.out.2.2 HN' hrt' hk' (by omega)).mono ?_
  rintro e₁ w3 ⟨Y, ky, A2, m2, c2, rfl, HY, hc2, hry, hb, HWY⟩
  replace hrt := hrt.keep hb
  replace hrt' := hrt'.keep hb
  replace hrb := hrb.keep hb
  replace hrl := hrl.keep hb
  replace hrx := hrx.keep hb
  replace hT := hT.later hb
  clear hb
  go_upto_if 59 with fail
  go_cut [] (fun wx => Below w3.heap.size w3 wx)
  case first =>
    by_cases h8 : n = 8
    · obtain ⟨hXe, rfl⟩ : X = writeF t e c tag ∧ kx = 0 := by
        rcases HWX.out with ⟨_, h1, h2⟩ | ⟨h1, _⟩
        · exact ⟨h1, h2⟩
        · exact absurd h8 h1
      subst h8
      have hrd : readF X = (0, t, e, c, tag) := by rw [hXe]; exact read_write HT.out.1 HT.out.2.1 HT.out.2.2 HN.out
      have hxl : 12 ≤ m1 ∧ m1 ≤ 36 := by have := write_length t e c tag HN.out; rw [← hXe, HX.out] at this; exact this
      have HXE := Lib.hid hXe
      have HRD := Lib.hid hrd
      clear hXe hrd HWX
      obtain ⟨hx1, hx2⟩ := hxl
      go_wp2_with fail
      refine (readP_any X m1 A1 c1 _ HX hrx hc1 (by omega)).mono ?_
      rw [HRD.out]
      rintro e₁ w4 ⟨A3, n3, c3, rfl, HN3, hc3, hr3, hb⟩
      dsimp only at HN3 hr3 ⊢
      replace hrl := hrl.keep hb
      replace hrx := hrx.keep hb
      replace hry := hry.keep hb
      replace hrt := hrt.keep hb
      replace hrt' := hrt'.keep hb
      replace hT := hT.later hb
      have hB := hb
      clear hb
      have hR0 : Row (w4.alloc (.cells #[.int .u64 0, .int .u64 0, .int .u64 0, .slice none 0 0] 25)) w4.heap.size 25 [.int .u64 0, .int .u64 0, .int .u64 0, .slice none 0 0] := Row.new w4 _ _ _ rfl
      go_upto_region 9 with (refine wpList_store_row rfl 25 (.tmp 15) (.tmp 63) rfl w4.heap.size rfl [.int .u64 (t : Int), .int .u64 (e : Int), .int .u64 (c : Int), .slice A3 n3 c3] rfl _ _ hR0 (by exact size_pay) rfl (one_four _ _ _ _ rfl rfl rfl rfl) ?_)
      have hRr := hR0.setRow [.int .u64 (t : Int), .int .u64 (e : Int), .int .u64 (c : Int), .slice A3 n3 c3]
      have hb2 : Below w4.heap.size w4 ((w4.alloc (.cells #[.int .u64 0, .int .u64 0, .int .u64 0, .slice none 0 0] 25)).setRow w4.heap.size [.int .u64 (t : Int), .int .u64 (e : Int), .int .u64 (c : Int), .slice A3 n3 c3].toArray) := below_setRow (below_new (Below.refl _ _) _) (Nat.le_refl _) _
      replace hrl := hrl.keep hb2
      replace hrx := hrx.keep hb2
      replace hry := hry.keep hb2
      replace hrt := hrt.keep hb2
      replace hrt' := hrt'.keep hb2
      replace hr3 := hr3.keep hb2
      replace hT := hT.later hb2
      replace hB := below_step hB hb2
      generalize (w4.alloc (.cells #[.int .u64 0, .int .u64 0, .int .u64 0, .slice none 0 0] 25)).setRow w4.heap.size [.int .u64 (t : Int), .int .u64 (e : Int), .int .u64 (c : Int), .slice A3 n3 c3].toArray = w5 at hrl hrx hry hrt hrt' hr3 hRr hT hB ⊢
      clear hR0 hb2
      generalize w4.heap.size = gr at hRr ⊢
      go_cut [97] (fun v wx => v = .bool false ∧ Below w5.heap.size w5 wx)
      case first =>
        have cp0 : ∀ W, Below w5.heap.size w5 W → W.cell? ⟨w.heap.size, 0, none⟩ = some (.int .u64 (t : Int)) := fun W hW => (hT.1.later hW).cell rfl
        have cp1 : ∀ W, Below w5.heap.size w5 W → W.cell? ⟨w.heap.size, 1, none⟩ = some (.int .u64 (e : Int)) := fun W hW => (hT.1.later hW).cell rfl
        have cp2 : ∀ W, Below w5.heap.size w5 W → W.cell? ⟨w.heap.size, 2, none⟩ = some (.int .u64 (c : Int)) := fun W hW => (hT.1.later hW).cell rfl
        have cp3 : ∀ W, Below w5.heap.size w5 W → W.cell? ⟨w.heap.size, 3, none⟩ = some (.slice A 8 k) := fun W hW => (hT.1.later hW).cell rfl
        have cq0 : ∀ W, Below w5.heap.size w5 W → W.cell? ⟨w.heap.size + 1, 0, none⟩ = some (.int .u64 (t' : Int)) := fun W hW => (hT.2.1.later hW).cell rfl
        have cq1 : ∀ W, Below w5.heap.size w5 W → W.cell? ⟨w.heap.size + 1, 1, none⟩ = some (.int .u64 (e' : Int)) := fun W hW => (hT.2.1.later hW).cell rfl
        have cq2 : ∀ W, Below w5.heap.size w5 W → W.cell? ⟨w.heap.size + 1, 2, none⟩ = some (.int .u64 (c' : Int)) := fun W hW => (hT.2.1.later hW).cell rfl
        have cq3 : ∀ W, Below w5.heap.size w5 W → W.cell? ⟨w.heap.size + 1, 3, none⟩ = some (.slice A' n' k') := fun W hW => (hT.2.1.later hW).cell rfl
        have cr0 : ∀ W, Below w5.heap.size w5 W → W.cell? ⟨gr, 0, none⟩ = some (.int .u64 (t : Int)) := fun W hW => (hRr.later hW).cell rfl
        have cr1 : ∀ W, Below w5.heap.size w5 W → W.cell? ⟨gr, 1, none⟩ = some (.int .u64 (e : Int)) := fun W hW => (hRr.later hW).cell rfl
        have cr2 : ∀ W, Below w5.heap.size w5 W → W.cell? ⟨gr, 2, none⟩ = some (.int .u64 (c : Int)) := fun W hW => (hRr.later hW).cell rfl
        have cr3 : ∀ W, Below w5.heap.size w5 W → W.cell? ⟨gr, 3, none⟩ = some (.slice A3 n3 c3) := fun W hW => (hRr.later hW).cell rfl
        have hs1 := strZ (c := c1) m1 HX hrx
        have hs2 := strZ (c := c2) m2 HY hry
        have HRT := Lib.hid (And.intro hrt (And.intro hrt' hr3))
        have m1a : ¬ (m1 : Int) < 12 := by omega
        have m1b : ¬ (36 : Int) < (m1 : Int) := by omega
        clear hrl hrx hry hrt hrt' hr3 hRr hT hB hrb
        by_cases h8' : n' = 8
        · obtain ⟨hYe, rfl⟩ : Y = writeF t' e' c' tag' ∧ ky = 0 := by
            rcases HWY.out with ⟨_, h1, h2⟩ | ⟨h1, _⟩
            · exact ⟨h1, h2⟩
            · exact absurd h8' h1
          subst h8'
          have hst : ((strL X).toList == (strL Y).toList) = sameF t e c tag t' e' c' tag' := str_sameF X Y _ (by
            rw [HXE.out, hYe, write_inj HT.out.1 HT.out.2.1 HT.out.2.2 HT'.out.1 HT'.out.2.1 HT'.out.2.2 HN.out HN'.out]
            unfold sameF
            rw [decide_eq_true_iff])
          have HSM : Hid (sameF t e c tag t' e' c' tag' = sameF t e c tag t' e' c' tag') := rfl
          generalize hSM : sameF t e c tag t' e' c' tag' = SM at hst
          replace HSM := Lib.hid hSM
          generalize strL X = SX at hs1 hst
          generalize strL Y = SY at hs2 hst
          clear hSM hYe HWY
          have hBase := (Below.refl w5.heap.size w5).drew
          refine wp_region_plan (.step 0 false (.step 1 false (.step 2 false (.step 3 false (.step 4 false (.step 5 true (.step 6 false (.step 7 false (.step 8 false (.step 9 false (.step 10 false (.step 11 false (.step 12 false (.step 13 false (.step 14 false (.step 15 false (.step 16 false (.step 17 false (.step 18 false (.step 19 false (.step 20 false (.step 21 false (.step 22 false (.step 23 false (.step 24 false (.step 25 false (.step 26 false (.step 27 false (.step 28 false (.step 29 true (.step 30 false (.step 31 false (.step 32 false (.nil)))))))))))))))))))))))))))))))))) (by kernel_rfl) (by kernel_rfl) (by rfl) (by kernel_rfl) ?_
          iterate 5 (refine plan_read rfl (by rfl) (v := ?_) ?_ ?_; rotate_left 1; (intro W hW; have hW0 := below_step hBase hW; (try dsimp only at hW); go_simp <;> with_reducible rfl); simp only [List.getElem_toArray, List.getElem_cons_zero, List.getElem_cons_succ, Act.put, List.setIfInBounds_toArray, List.set_cons_zero, List.set_cons_succ])
          (refine plan_make rfl (by rfl) (fun K hK => ?_); go_simp; (refine (refsame_pay t e c t e c tag tag n3 8 A3 A c3 k _ HN3 HN (HRT.out.2.2.keep hBase) (HRT.out.1.keep hBase)).mono ?_; rintro e₁ w6 ⟨rfl, hbx⟩; rw [same_self]); refine hK.out _ _ hbx ?_; clear hK K; replace hBase := below_step hBase hbx)
          iterate 23 (refine plan_read rfl (by rfl) (v := ?_) ?_ ?_; rotate_left 1; (intro W hW; have hW0 := below_step hBase hW; (try dsimp only at hW); go_simp <;> with_reducible rfl); simp only [List.getElem_toArray, List.getElem_cons_zero, List.getElem_cons_succ, Act.put, List.setIfInBounds_toArray, List.set_cons_zero, List.set_cons_succ])
          (refine plan_make rfl (by rfl) (fun K hK => ?_); go_simp; (refine (refsame_pay t e c t' e' c' tag tag' 8 8 A A' k k' _ HN HN' (HRT.out.1.keep hBase) (HRT.out.2.1.keep hBase)).mono ?_; rintro e₁ w7 ⟨rfl, hbx⟩; rw [HSM.out]); refine hK.out _ _ hbx ?_; clear hK K; replace hBase := below_step hBase hbx)
          iterate 3 (refine plan_read rfl (by rfl) (v := ?_) ?_ ?_; rotate_left 1; (intro W hW; have hW0 := below_step hBase hW; (try dsimp only at hW); go_simp <;> with_reducible rfl); simp only [List.getElem_toArray, List.getElem_cons_zero, List.getElem_cons_succ, Act.put, List.setIfInBounds_toArray, List.set_cons_zero, List.set_cons_succ])
          refine plan_done ?_
          go_wp2_with fail
          go_meet
          case rel => exact ⟨rfl, hBase⟩
        · obtain ⟨hYe, rfl⟩ : Y = [] ∧ ky = 1 := by
            rcases HWY.out with ⟨h1, _⟩ | ⟨_, h1, h2⟩
            · exact absurd h1 h8'
            · exact ⟨h1, h2⟩
          clear hYe HWY h8'
          generalize strL X = SX at hs1
          generalize strL Y = SY at hs2
          have hBase := (Below.refl w5.heap.size w5).drew
          refine wp_region_plan (.step 0 false (.step 1 false (.step 2 false (.step 3 false (.step 4 false (.step 5 true (.step 6 false (.step 7 false (.step 8 false (.step 9 false (.step 10 false (.step 11 false (.step 12 false (.step 13 false (.step 14 false (.step 15 false (.step 16 false (.step 17 false (.step 18 false (.step 19 false (.step 20 false (.step 21 false (.step 22 false (.step 23 false (.step 24 false (.step 25 false (.step 26 false (.step 27 false (.step 28 false (.step 29 true (.step 30 false (.step 31 false (.step 32 false (.nil)))))))))))))))))))))))))))))))))) (by kernel_rfl) (by kernel_rfl) (by rfl) (by kernel_rfl) ?_
          iterate 5 (refine plan_read rfl (by rfl) (v := ?_) ?_ ?_; rotate_left 1; (intro W hW; have hW0 := below_step hBase hW; (try dsimp only at hW); go_simp <;> with_reducible rfl); simp only [List.getElem_toArray, List.getElem_cons_zero, List.getElem_cons_succ, Act.put, List.setIfInBounds_toArray, List.set_cons_zero, List.set_cons_succ])
          (refine plan_make rfl (by rfl) (fun K hK => ?_); go_simp; (refine (refsame_pay t e c t e c tag tag n3 8 A3 A c3 k _ HN3 HN (HRT.out.2.2.keep hBase) (HRT.out.1.keep hBase)).mono ?_; rintro e₁ w6 ⟨rfl, hbx⟩; rw [same_self]); refine hK.out _ _ hbx ?_; clear hK K; replace hBase := below_step hBase hbx)
          iterate 16 (refine plan_read rfl (by rfl) (v := ?_) ?_ ?_; rotate_left 1; (intro W hW; have hW0 := below_step hBase hW; (try dsimp only at hW); go_simp <;> with_reducible rfl); simp only [List.getElem_toArray, List.getElem_cons_zero, List.getElem_cons_succ, Act.put, List.setIfInBounds_toArray, List.set_cons_zero, List.set_cons_succ])
          iterate 9 (refine plan_skip rfl (by rfl) ?_; simp only [List.getElem_toArray, List.getElem_cons_zero, List.getElem_cons_succ, Act.put, List.setIfInBounds_toArray, List.set_cons_zero, List.set_cons_succ])
          iterate 2 (refine plan_read rfl (by rfl) (v := ?_) ?_ ?_; rotate_left 1; (intro W hW; have hW0 := below_step hBase hW; (try dsimp only at hW); go_simp <;> with_reducible rfl); simp only [List.getElem_toArray, List.getElem_cons_zero, List.getElem_cons_succ, Act.put, List.setIfInBounds_toArray, List.set_cons_zero, List.set_cons_succ])
          refine plan_done ?_
          go_wp2_with fail
          go_meet
          case rel => exact ⟨rfl, hBase⟩
      case rest =>
      obtain ⟨rfl, hb⟩ := hcut
      replace hrl := hrl.keep hb
      replace hrx := hrx.keep hb
      replace hB := below_step hB hb
      clear hb hry hrt hrt' hr3 hRr hT HN3 hrb
      obtain ⟨r1, r2, r3, r4⟩ := cut_len y m1 hy (by omega) (by omega)
      obtain ⟨r, hr⟩ : ∃ r, y % m1 = r := ⟨_, rfl⟩
      rw [hr] at r2 r4
      have r5 : IntKind.i64.wrap (r : Int) = (r : Int) := by rw [IntKind.wrap_i64]; omega
      have hto := fun W => run_cut_to (P := Try.prog) 23 5 Try.underlying23 size_uint8 A1 m1 c1 r (by omega) W
      have HFC : Hid (readF (X.take r) = (2, 0, 0, 0, [])) := by
        have h1 : (readF (X.take r)).1 = 2 := by
          rw [HXE.out]
          exact read_cut HT.out.1 HT.out.2.1 HT.out.2.2 r HN.out (by rw [← HXE.out, HX.out]; exact r4)
        have h2 := read_bad (X.take r) (by rw [h1]; decide)
        rw [h1] at h2
        exact h2
      have HLC : Hid ((X.take r).length = r) := by unfold Hid; rw [List.length_take, HX.out]; omega
      have HFM : Hid (0 < q → (readF (X ++ l)).1 = 4) := fun h => by
        rw [HXE.out]
        exact read_more HT.out.1 HT.out.2.1 HT.out.2.2 l HN.out (by rw [HQ.out]; exact h)
      obtain ⟨i8, hi8, hy0, hy1, hy2⟩ := info_parts info_u8
      clear hr HXE HRD HWY HY
      go_upto_region 11 with fail
      go_wp2_with fail
      refine (readP_any (X.take r) r A1 c1 _ HLC (hrx.take r) (by omega) (by omega)).mono ?_
      rw [HFC.out]
      rintro e₁ w6 ⟨A6, n6, c6, rfl, HN6, hc6, hr6, hb⟩
      dsimp only at HN6 hr6 ⊢
      replace hrl := hrl.keep hb
      replace hrx := hrx.keep hb
      replace hB := below_step hB hb
      clear hb hr6 HFC HLC hto r1 r2 r3 r4 r5
      have hR0 : Row (w6.alloc (.cells #[.int .u64 0, .int .u64 0, .int .u64 0, .slice none 0 0] 25)) w6.heap.size 25 [.int .u64 0, .int .u64 0, .int .u64 0, .slice none 0 0] := Row.new w6 _ _ _ rfl
      go_upto_region 12 with (refine wpList_store_row rfl 25 (.tmp 17) (.tmp 107) rfl w6.heap.size rfl [.int .u64 0, .int .u64 0, .int .u64 0, .slice A6 n6 c6] rfl _ _ hR0 (by exact size_pay) rfl (one_four _ _ _ _ rfl rfl rfl rfl) ?_)
      have hb2 : Below w6.heap.size w6 ((w6.alloc (.cells #[.int .u64 0, .int .u64 0, .int .u64 0, .slice none 0 0] 25)).setRow w6.heap.size [.int .u64 0, .int .u64 0, .int .u64 0, .slice A6 n6 c6].toArray) := below_setRow (below_new (Below.refl _ _) _) (Nat.le_refl _) _
      replace hrl := hrl.keep hb2
      replace hrx := hrx.keep hb2
      replace hB := below_step hB hb2
      generalize (w6.alloc (.cells #[.int .u64 0, .int .u64 0, .int .u64 0, .slice none 0 0] 25)).setRow w6.heap.size [.int .u64 0, .int .u64 0, .int .u64 0, .slice A6 n6 c6].toArray = w7 at hrl hrx hB ⊢
      clear hR0 hb2
      generalize w6.heap.size = g6
      have hown0 : (w7.alloc (.cells #[] 5)).ownsRow w7.heap.size 5 1 (.slice (some ⟨w7.heap.size, 0, none⟩) 0 0) 0 [] := World.ownsRow_made w7 #[] 0 (Nat.le_refl _) (by unfold maxLen; omega) rfl
      have hbn := below_new (Below.refl w7.heap.size w7) (.cells #[] 5)
      have hrx7 := hrx.keep hbn
      go_wp2_with (at_builtin; first
        | (refine wpList_append_rd _ rfl (.tmp 110) (.tmp 111) 23 rfl w7.heap.size 5 i8 (.int .u8 0) 1 Try.underlying23 hi8 hy0 hy1 hy2 rfl _ _ _ rfl hown0 A1 X c1 (by rw [HX.out]; rfl) hrx7 vB_one (by rw [HX.out]; unfold maxLen; omega) (by rw [HX.out]; omega) (by simp) ?_; intro v8 w8 hown8 hgrow8)
        | (refine wpList_append_rd _ rfl (.tmp 112) (.tmp 113) 23 rfl w7.heap.size 5 i8 (.int .u8 0) 1 Try.underlying23 hi8 hy0 hy1 hy2 rfl _ _ _ rfl hown8 C l f (by rw [HQ.out]; rfl) (hrl.keep (hbn.grown hgrow8 (by simp) (fun k hk => (hown0.lt k hk).1))) vB_one (by rw [HX.out, HQ.out]; unfold maxLen; omega) (by rw [HX.out, HQ.out]; omega) (by have := (hbn.grown hgrow8 (by simp) (fun k hk => (hown0.lt k hk).1)).size; omega) ?_; intro v9 w9 hown9 hgrow9))
      have hb8 : Below w7.heap.size w7 w8 := hbn.grown hgrow8 (by simp) (fun k hk => (hown0.lt k hk).1)
      have hb9 : Below w7.heap.size w7 w9 := hb8.grown hgrow9 hb8.size (fun k hk => (hown8.lt k hk).1)
      replace hB := below_step hB hb9
      have hown : w9.ownsRow w7.heap.size 5 1 v9 (X ++ l).length ((X ++ l).map vB) := by
        rw [List.length_append, List.map_append]
        rw [Nat.zero_add] at hown9
        exact hown9
      clear hown0 hbn hrx7 hrl hrx hown8 hgrow8 hown9 hgrow9 hb8 hb9
      obtain ⟨A9, c9, rfl, hc9, hr9⟩ := own_slice hown
      have hl9 : (X ++ l).length = m1 + q := by rw [List.length_append, HX.out, HQ.out]
      have HL9 := Lib.hid hl9
      rw [hl9] at hc9 ⊢
      obtain ⟨k9, t9, e9, d9, T9, hF9⟩ : ∃ k9 t9 e9 d9 T9, readF (X ++ l) = (k9, t9, e9, d9, T9) := ⟨_, _, _, _, _, rfl⟩
      rw [hF9] at HFM
      have HF9 := Lib.hid hF9
      clear hown hl9 hF9
      generalize X ++ l = XL at hr9 HL9 HF9
      generalize hn9 : m1 + q = n9 at hc9 HL9 ⊢
      refine (readP_any XL n9 A9 c9 _ HL9 hr9 hc9 (by omega)).mono ?_
      rw [HF9.out]
      rintro e₁ w10 ⟨A10, n10, c10, rfl, HN10, hc10, hr10, hb⟩
      dsimp only at HN10 hr10 HFM ⊢
      replace hB := below_step hB hb
      clear hb hr10 HL9 HF9 hr9 hc9 hn9
      have hR0 : Row (w10.alloc (.cells #[.int .u64 0, .int .u64 0, .int .u64 0, .slice none 0 0] 25)) w10.heap.size 25 [.int .u64 0, .int .u64 0, .int .u64 0, .slice none 0 0] := Row.new w10 _ _ _ rfl
      go_upto_region 13 with (refine wpList_store_row rfl 25 (.tmp 19) (.tmp 116) rfl w10.heap.size rfl [.int .u64 (t9 : Int), .int .u64 (e9 : Int), .int .u64 (d9 : Int), .slice A10 n10 c10] rfl _ _ hR0 (by exact size_pay) rfl (one_four _ _ _ _ rfl rfl rfl rfl) ?_)
      have hb2 : Below w10.heap.size w10 ((w10.alloc (.cells #[.int .u64 0, .int .u64 0, .int .u64 0, .slice none 0 0] 25)).setRow w10.heap.size [.int .u64 (t9 : Int), .int .u64 (e9 : Int), .int .u64 (d9 : Int), .slice A10 n10 c10].toArray) := below_setRow (below_new (Below.refl _ _) _) (Nat.le_refl _) _
      replace hB := below_step hB hb2
      generalize (w10.alloc (.cells #[.int .u64 0, .int .u64 0, .int .u64 0, .slice none 0 0] 25)).setRow w10.heap.size [.int .u64 (t9 : Int), .int .u64 (e9 : Int), .int .u64 (d9 : Int), .slice A10 n10 c10].toArray = w11 at hB ⊢
      clear hR0 hb2
      generalize w10.heap.size = g10
      by_cases hq0 : q = 0
      · have q1 : ¬ (0 : Int) < (q : Int) := by omega
        have q2 : decide ((0 : Int) < (q : Int)) = false := decide_eq_false q1
        clear HFM hq0
        go_wp2_with fail
        go_meet
        case rel => exact hB
      · have e4 : k9 = 4 := HFM.out (by omega)
        subst e4
        have q1 : (0 : Int) < (q : Int) := by omega
        have q2 : decide ((0 : Int) < (q : Int)) = true := decide_eq_true q1
        clear HFM hq0
        go_wp2_with fail
        go_meet
        case rel => exact hB
    · obtain ⟨_, rfl⟩ : X = [] ∧ kx = 1 := by
        rcases HWX.out with ⟨h1, _⟩ | ⟨_, h1, h2⟩
        · exact absurd h1 h8
        · exact ⟨h1, h2⟩
      clear HWX h8
      go_wp2_with fail
      go_meet
      case rel => exact Below.refl _ _
  case rest =>
  replace hrb := hrb.keep hcut
  replace hT := hT.later hcut
  clear hcut hrx hry hrt hrt' hrl HWX HWY HX HY
  have cp0 : wc.cell? ⟨w.heap.size, 0, none⟩ = some (.int .u64 (t : Int)) := hT.1.cell rfl
  have cp1 : wc.cell? ⟨w.heap.size, 1, none⟩ = some (.int .u64 (e : Int)) := hT.1.cell rfl
  have cp2 : wc.cell? ⟨w.heap.size, 2, none⟩ = some (.int .u64 (c : Int)) := hT.1.cell rfl
  have cq0 : wc.cell? ⟨w.heap.size + 1, 0, none⟩ = some (.int .u64 (t' : Int)) := hT.2.1.cell rfl
  have cq1 : wc.cell? ⟨w.heap.size + 1, 1, none⟩ = some (.int .u64 (e' : Int)) := hT.2.1.cell rfl
  have cq2 : wc.cell? ⟨w.heap.size + 1, 2, none⟩ = some (.int .u64 (c' : Int)) := hT.2.1.cell rfl
  obtain ⟨SM, hSM⟩ : ∃ SM, decide (t = t' ∧ e = e' ∧ c = c') = SM := ⟨_, rfl⟩
  have hst : ((strL (msgF t e c)).toList == (strL (msgF t' e' c')).toList) = SM := str_sameF _ _ _ (by
    rw [msg_inj HT.out.1 HT.out.2.1 HT.out.2.2 HT'.out.1 HT'.out.2.1 HT'.out.2.2, ← hSM, decide_eq_true_iff])
  have HST := Lib.hid hst
  clear hst
  go_upto_region 15 with fail
  go_cut [21] (fun v wx => v = .bool SM ∧ wc = wx)
  case first =>
    by_cases h0 : t = t'
    · subst h0
      by_cases h1 : e = e'
      · subst h1
        by_cases h2 : c = c'
        · subst h2
          have eS : SM = true := by rw [← hSM]; simp
          clear hSM
          subst eS
          go_wp2_with fail
          go_meet
          case rel => exact ⟨rfl, rfl⟩
        · have eS : SM = false := by rw [← hSM]; exact decide_eq_false (fun h => h2 h.2.2)
          have hne : ((c : Int) == (c' : Int)) = false := beq_eq_false_iff_ne.2 (by omega)
          clear hSM h2
          subst eS
          go_wp2_with fail
          go_meet
          case rel => exact ⟨rfl, rfl⟩
      · have eS : SM = false := by rw [← hSM]; exact decide_eq_false (fun h => h1 h.2.1)
        have hne : ((e : Int) == (e' : Int)) = false := beq_eq_false_iff_ne.2 (by omega)
        clear hSM h1
        subst eS
        go_wp2_with fail
        go_meet
        case rel => exact ⟨rfl, rfl⟩
    · have eS : SM = false := by rw [← hSM]; exact decide_eq_false (fun h => h0 h.1)
      have hne : ((t : Int) == (t' : Int)) = false := beq_eq_false_iff_ne.2 (by omega)
      clear hSM h0
      subst eS
      go_wp2_with fail
      go_meet
      case rel => exact ⟨rfl, rfl⟩
  case rest =>
  obtain ⟨rfl, rfl⟩ := hcut
  clear hSM cp0 cp1 cp2 cq0 cq1 cq2
  go_upto_region 16 with fail
  go_cut [166] (fun v wx => v = .bool false ∧ Below wc.heap.size wc wx)
  case first =>
    have cp0 : ∀ W, Below wc.heap.size wc W → W.cell? ⟨w.heap.size, 0, none⟩ = some (.int .u64 (t : Int)) := fun W hW => (hT.1.later hW).cell rfl
    have cp1 : ∀ W, Below wc.heap.size wc W → W.cell? ⟨w.heap.size, 1, none⟩ = some (.int .u64 (e : Int)) := fun W hW => (hT.1.later hW).cell rfl
    have cp2 : ∀ W, Below wc.heap.size wc W → W.cell? ⟨w.heap.size, 2, none⟩ = some (.int .u64 (c : Int)) := fun W hW => (hT.1.later hW).cell rfl
    have cq0 : ∀ W, Below wc.heap.size wc W → W.cell? ⟨w.heap.size + 1, 0, none⟩ = some (.int .u64 (t' : Int)) := fun W hW => (hT.2.1.later hW).cell rfl
    have cq1 : ∀ W, Below wc.heap.size wc W → W.cell? ⟨w.heap.size + 1, 1, none⟩ = some (.int .u64 (e' : Int)) := fun W hW => (hT.2.1.later hW).cell rfl
    have cq2 : ∀ W, Below wc.heap.size wc W → W.cell? ⟨w.heap.size + 1, 2, none⟩ = some (.int .u64 (c' : Int)) := fun W hW => (hT.2.1.later hW).cell rfl
    clear hT hrb
    obtain ⟨S1, hS1⟩ : ∃ S, strL (msgF t e c) = S := ⟨_, rfl⟩
    obtain ⟨S2, hS2⟩ : ∃ S, strL (msgF t' e' c') = S := ⟨_, rfl⟩
    have hst := HST.out
    rw [hS1, hS2] at hst
    have HS1 := Lib.hid hS1
    have HS2 := Lib.hid hS2
    clear hS1 hS2
    have hBase := (Below.refl wc.heap.size wc).drew
    refine wp_region_plan (.step 0 false (.step 1 false (.step 2 false (.step 3 false (.step 4 false (.step 5 false (.step 8 false (.step 9 false (.step 10 false (.step 11 false (.step 12 false (.step 13 false (.step 17 false (.step 6 true (.step 7 false (.step 14 true (.step 15 false (.step 16 false (.step 18 false (.nil)))))))))))))))))))) (by kernel_rfl) (by kernel_rfl) (by rfl) (by kernel_rfl) ?_
    iterate 13 (refine plan_read rfl (by rfl) (v := ?_) ?_ ?_; rotate_left 1; (intro W hW; have hW0 := below_step hBase hW; (try dsimp only at hW); go_simp <;> with_reducible rfl); simp only [List.getElem_toArray, List.getElem_cons_zero, List.getElem_cons_succ, Act.put, List.setIfInBounds_toArray, List.set_cons_zero, List.set_cons_succ])
    (refine plan_make rfl (by rfl) (fun K hK => ?_); go_simp; (refine (msgP_any t e c _ HT.out.1 HT.out.2.1 HT.out.2.2).mono ?_; rintro e₁ w11 ⟨A11, n11, c11, rfl, HN11, hc11, hr11, hbx⟩); refine hK.out _ _ hbx ?_; clear hK K; replace hBase := below_step hBase hbx)
    have hs1 := strZ (c := c11) n11 HN11 hr11
    rw [HS1.out] at hs1
    iterate 1 (refine plan_read rfl (by rfl) (v := ?_) ?_ ?_; rotate_left 1; (intro W hW; have hW0 := below_step hBase hW; (try dsimp only at hW); go_simp <;> with_reducible rfl); simp only [List.getElem_toArray, List.getElem_cons_zero, List.getElem_cons_succ, Act.put, List.setIfInBounds_toArray, List.set_cons_zero, List.set_cons_succ])
    (refine plan_make rfl (by rfl) (fun K hK => ?_); go_simp; (refine (msgP_any t' e' c' _ HT'.out.1 HT'.out.2.1 HT'.out.2.2).mono ?_; rintro e₁ w12 ⟨A12, n12, c12, rfl, HN12, hc12, hr12, hbx⟩); refine hK.out _ _ hbx ?_; clear hK K; replace hBase := below_step hBase hbx)
    have hs2 := strZ (c := c12) n12 HN12 hr12
    rw [HS2.out] at hs2
    iterate 3 (refine plan_read rfl (by rfl) (v := ?_) ?_ ?_; rotate_left 1; (intro W hW; have hW0 := below_step hBase hW; (try dsimp only at hW); go_simp <;> with_reducible rfl); simp only [List.getElem_toArray, List.getElem_cons_zero, List.getElem_cons_succ, Act.put, List.setIfInBounds_toArray, List.set_cons_zero, List.set_cons_succ])
    refine plan_done ?_
    go_wp2_with fail
    go_meet
    case rel => exact ⟨rfl, hBase⟩
  case rest =>
  obtain ⟨rfl, hb⟩ := hcut
  replace hrb := hrb.keep hb
  have hB := below_step hT.2.2 hb
  clear hb hT HST
  go_upto_region 18 with fail
  rcases read_cases b with ⟨t2, e2, c2, tg, hF⟩ | ⟨k2, hk2, hF⟩
  · obtain ⟨hbe, h8, l1, l2, l3⟩ := read_good b t2 e2 c2 tg hF
    have HF := Lib.hid hF
    have HBE := Lib.hid hbe
    have H8 := Lib.hid h8
    have HL := Lib.hid (And.intro l1 (And.intro l2 l3))
    clear hF hbe h8 l1 l2 l3
    go_wp2_with fail
    refine (readP_any b m B d _ HM hrb hd (by omega)).mono ?_
    rw [HF.out]
    rintro e₁ w5 ⟨A5, n5, k5, rfl, HN5, hk5, hr5, hb⟩
    dsimp only at HN5 hr5 ⊢
    have en5 : n5 = 8 := HN5.out.symm.trans H8.out
    subst en5
    replace hrb := hrb.keep hb
    replace hB := below_step hB hb
    clear hb
    have hR0 : Row (w5.alloc (.cells #[.int .u64 0, .int .u64 0, .int .u64 0, .slice none 0 0] 25)) w5.heap.size 25 [.int .u64 0, .int .u64 0, .int .u64 0, .slice none 0 0] := Row.new w5 _ _ _ rfl
    go_upto_region 19 with (refine wpList_store_row rfl 25 (.tmp 22) (.tmp 170) rfl w5.heap.size rfl [.int .u64 (t2 : Int), .int .u64 (e2 : Int), .int .u64 (c2 : Int), .slice A5 8 k5] rfl _ _ hR0 (by exact size_pay) rfl (one_four _ _ _ _ rfl rfl rfl rfl) ?_)
    have hRq := hR0.setRow [.int .u64 (t2 : Int), .int .u64 (e2 : Int), .int .u64 (c2 : Int), .slice A5 8 k5]
    have hb2 : Below w5.heap.size w5 ((w5.alloc (.cells #[.int .u64 0, .int .u64 0, .int .u64 0, .slice none 0 0] 25)).setRow w5.heap.size [.int .u64 (t2 : Int), .int .u64 (e2 : Int), .int .u64 (c2 : Int), .slice A5 8 k5].toArray) := below_setRow (below_new (Below.refl _ _) _) (Nat.le_refl _) _
    replace hrb := hrb.keep hb2
    replace hr5 := hr5.keep hb2
    replace hB := below_step hB hb2
    generalize (w5.alloc (.cells #[.int .u64 0, .int .u64 0, .int .u64 0, .slice none 0 0] 25)).setRow w5.heap.size [.int .u64 (t2 : Int), .int .u64 (e2 : Int), .int .u64 (c2 : Int), .slice A5 8 k5].toArray = w6 at hrb hr5 hRq hB ⊢
    clear hR0 hb2
    generalize w5.heap.size = gq at hRq ⊢
    go_wp2_with (refine wpList_load_part rfl 25 (.tmp 22) rfl gq 0 rfl _ _ hRq [.int .u64 (t2 : Int), .int .u64 (e2 : Int), .int .u64 (c2 : Int), .slice A5 8 k5] (by rfl) _ Try.underlying25 rfl (by exact size_pay) ?_)
    refine (writeP_ok t2 e2 c2 tg A5 k5 _ HL.out.1 HL.out.2.1 HL.out.2.2 HN5 hr5 hk5).mono ?_
    rw [← HBE.out]
    rintro e₁ w7 ⟨A7, n7, k7, rfl, HN7, hk7, hr7, hb⟩
    replace hrb := hrb.keep hb
    replace hr5 := hr5.keep hb
    replace hRq := hRq.later hb
    replace hB := below_step hB hb
    clear hb
    go_upto_region 22 with fail
    have cq0 : w7.cell? ⟨gq, 0, none⟩ = some (.int .u64 (t2 : Int)) := hRq.cell rfl
    have cq1 : w7.cell? ⟨gq, 1, none⟩ = some (.int .u64 (e2 : Int)) := hRq.cell rfl
    have cq2 : w7.cell? ⟨gq, 2, none⟩ = some (.int .u64 (c2 : Int)) := hRq.cell rfl
    have cq3 : w7.cell? ⟨gq, 3, none⟩ = some (.slice A5 8 k5) := hRq.cell rfl
    go_wp2_with fail
    refine (rightP_any t2 e2 c2 tg 8 A5 k5 _ HN5 hr5 hk5 (by omega)).mono ?_
    rw [show decide ((8 : Nat) = 8) = true from rfl]
    rintro e₁ w8 ⟨rfl, hb⟩
    have hs1 := strZ (c := k7) n7 HN7 hr7 w8 hb
    have hs2 := strZ (c := d) m HM hrb w8 hb
    replace hB := below_step hB hb
    clear hb hrb hr5 hRq hr7 cq0 cq1 cq2 cq3
    generalize strL b = SB at hs1 hs2
    go_wp2_with fail
    go_ret
    exact ⟨rfl, hB⟩
  · have HF := Lib.hid hF
    have hk0 : (k2 == 0) = false := beq_eq_false_iff_ne.2 hk2
    have hk1 : (k2 != 0) = true := by rw [bne, hk0]; rfl
    clear hF hk2
    go_wp2_with fail
    refine (readP_any b m B d _ HM hrb hd (by omega)).mono ?_
    rw [HF.out]
    rintro e₁ w5 ⟨A5, n5, k5, rfl, HN5, hk5, hr5, hb⟩
    dsimp only at HN5 hr5 ⊢
    replace hB := below_step hB hb
    clear hb hrb
    have hR0 : Row (w5.alloc (.cells #[.int .u64 0, .int .u64 0, .int .u64 0, .slice none 0 0] 25)) w5.heap.size 25 [.int .u64 0, .int .u64 0, .int .u64 0, .slice none 0 0] := Row.new w5 _ _ _ rfl
    go_upto_region 19 with (refine wpList_store_row rfl 25 (.tmp 22) (.tmp 170) rfl w5.heap.size rfl [.int .u64 0, .int .u64 0, .int .u64 0, .slice A5 n5 k5] rfl _ _ hR0 (by exact size_pay) rfl (one_four _ _ _ _ rfl rfl rfl rfl) ?_)
    have hRq := hR0.setRow [.int .u64 0, .int .u64 0, .int .u64 0, .slice A5 n5 k5]
    have hb2 : Below w5.heap.size w5 ((w5.alloc (.cells #[.int .u64 0, .int .u64 0, .int .u64 0, .slice none 0 0] 25)).setRow w5.heap.size [.int .u64 0, .int .u64 0, .int .u64 0, .slice A5 n5 k5].toArray) := below_setRow (below_new (Below.refl _ _) _) (Nat.le_refl _) _
    replace hr5 := hr5.keep hb2
    replace hB := below_step hB hb2
    generalize (w5.alloc (.cells #[.int .u64 0, .int .u64 0, .int .u64 0, .slice none 0 0] 25)).setRow w5.heap.size [.int .u64 0, .int .u64 0, .int .u64 0, .slice A5 n5 k5].toArray = w6 at hr5 hRq hB ⊢
    clear hR0 hb2
    generalize w5.heap.size = gq at hRq ⊢
    go_wp2_with (refine wpList_load_part rfl 25 (.tmp 22) rfl gq 0 rfl _ _ hRq [.int .u64 0, .int .u64 0, .int .u64 0, .slice A5 n5 k5] (by rfl) _ Try.underlying25 rfl (by exact size_pay) ?_)
    refine (refsame_pay 0 0 0 0 0 0 [] [] n5 0 A5 none k5 0 _ HN5 (Lib.hid rfl) hr5 Rd.nil).mono ?_
    rintro e₁ w7 ⟨rfl, hb⟩
    rw [same_self]
    replace hB := below_step hB hb
    clear hb
    go_wp2_with fail
    go_ret
    exact ⟨rfl, hB⟩
end Go.Proofs.Yteppocjgodmpdaa
/-
  The law FrameBack, at whatever comes in: it answers true, and writes nothing that was there. No conditions.
-/
namespace Go.Proofs.Yteppocjgodmpdaa
set_option maxRecDepth 100000
open Go.RowKit Go.WideShapes
set_option linter.unusedSimpArgs false
set_option linter.unusedVariables false

theorem open_byte8 {H : Type} {enc : TypeId × Value → H} {W : World} {base b1 : Nat} {spare : Nat → Bool} {held : Bool} {r : Reach} {v : Value} {d : DataW H} {p : List MemPlace} (hv : Value.okWide Try.prog W r base 5 v) (ht : DataW.Trod enc Try.prog W b1 spare held 5 v d p) : ∃ y : Nat, v = .int .u8 (y : Int) ∧ y < 256 := by
  obtain ⟨n, rfl⟩ := okWide_int Try.underlying5 hv
  obtain ⟨fuel, hf⟩ := ht
  obtain ⟨y, hy⟩ := opens_byte Try.underlying5 enc W _ _ _ _ _ _ hf
  unfold RByte vB at hy
  simp [Value.cells] at hy
  exact ⟨y.toNat, by rw [hy], y.toNat_lt⟩
set_option maxRecDepth 100000 in
theorem frameback_big (t e c : Nat) (n : Nat) (A : Option Addr) (k : Nat) (t' e' c' : Nat) (n' : Nat) (A' : Option Addr) (k' : Nat) (m : Nat) (B : Option Addr) (d : Nat) (y : Nat) (q : Nat) (C : Option Addr) (f : Nat) (w : World) (h : ¬ (n ≤ 3000 ∧ n' ≤ 3000 ∧ m ≤ 3000 ∧ q ≤ 300)) (hn : n ≤ 9223372036854775807) (hn' : n' ≤ 9223372036854775807) (hm : m ≤ 9223372036854775807) (hq : q ≤ 9223372036854775807) :
    Calls Try.prog 4 #[aggP t e c A n k, aggP t' e' c' A' n' k', .slice B m d, .int .u8 (y : Int), .slice C q f] w fun e₁ w' => e₁ = .returned (.bool true) ∧ Below w.heap.size w w' := by
  obtain ⟨hR0, hB0⟩ := box_pay w 25 (.int .u64 (t : Int)) (.int .u64 (e : Int)) (.int .u64 (c : Int)) (.slice A n k)
  obtain ⟨hR1, hB1⟩ := box_pay (w.alloc (.cells #[.int .u64 (t : Int), .int .u64 (e : Int), .int .u64 (c : Int), .slice A n k] 25)) 25 (.int .u64 (t' : Int)) (.int .u64 (e' : Int)) (.int .u64 (c' : Int)) (.slice A' n' k')
  have hsz : (w.alloc (.cells #[.int .u64 (t : Int), .int .u64 (e : Int), .int .u64 (c : Int), .slice A n k] 25)).heap.size = w.heap.size + 1 := by simp
  rw [hsz] at hR1
  have hT : TwoP w.heap.size (cellsP t e c A n k) (cellsP t' e' c' A' n' k') w ((w.alloc (.cells #[.int .u64 (t : Int), .int .u64 (e : Int), .int .u64 (c : Int), .slice A n k] 25)).alloc (.cells #[.int .u64 (t' : Int), .int .u64 (e' : Int), .int .u64 (c' : Int), .slice A' n' k'] 25)) := ⟨hR0.later hB1, hR1, below_step hB0 hB1⟩
  clear hR0 hB0 hR1 hB1 hsz
  unfold aggP
  go_enter Try.func4, Try.ntmps4
  go_upto_region 1 with fail
  generalize (w.alloc (.cells #[.int .u64 (t : Int), .int .u64 (e : Int), .int .u64 (c : Int), .slice A n k] 25)).alloc (.cells #[.int .u64 (t' : Int), .int .u64 (e' : Int), .int .u64 (c' : Int), .slice A' n' k'] 25) = W0 at hT ⊢
  go_wp2_with fail
  refine (awake12_any _).mono ?_
  rintro e₁ w1 ⟨rfl, hb⟩
  replace hT := hT.later hb
  clear hb
  have c3 : w1.cell? ⟨w.heap.size, 3, none⟩ = some (.slice A n k) := hT.1.cell rfl
  have d3 : w1.cell? ⟨w.heap.size + 1, 3, none⟩ = some (.slice A' n' k') := hT.2.1.cell rfl
  by_cases h0 : n ≤ 3000
  · have g0 : decide ((3000 : Int) < (n : Int)) = false := decide_eq_false (by omega)
    have n0 : ¬ 3000 < n := by omega
    by_cases h1 : n' ≤ 3000
    · have g1 : decide ((3000 : Int) < (n' : Int)) = false := decide_eq_false (by omega)
      have n1 : ¬ 3000 < n' := by omega
      by_cases h2 : m ≤ 3000
      · have g2 : decide ((3000 : Int) < (m : Int)) = false := decide_eq_false (by omega)
        have n2 : ¬ 3000 < m := by omega
        have g3 : decide ((300 : Int) < (q : Int)) = true := decide_eq_true (by omega)
        have n3 : 300 < q := by omega
        clear h
        go_wp2_with fail
        go_ret
        exact ⟨rfl, hT.2.2⟩
      · have g2 : decide ((3000 : Int) < (m : Int)) = true := decide_eq_true (by omega)
        have n2 : 3000 < m := by omega
        clear h
        go_wp2_with fail
        go_ret
        exact ⟨rfl, hT.2.2⟩
    · have g1 : decide ((3000 : Int) < (n' : Int)) = true := decide_eq_true (by omega)
      have n1 : 3000 < n' := by omega
      clear h
      go_wp2_with fail
      go_ret
      exact ⟨rfl, hT.2.2⟩
  · have g0 : decide ((3000 : Int) < (n : Int)) = true := decide_eq_true (by omega)
    have n0 : 3000 < n := by omega
    clear h
    go_wp2_with fail
    go_ret
    exact ⟨rfl, hT.2.2⟩
theorem frameback_any (v0 v1 v2 v3 v4 : Value) (W : World) {H : Type} {enc : TypeId × Value → H} {base : Nat} {d0 d1 d2 d3 d4 : DataW H} {p0 p1 p2 p3 p4 : List MemPlace}
    (hv0 : Value.okWide Try.prog W .any base 25 v0) (ht0 : DataW.Trod enc Try.prog W 0 (fun _ => true) true 25 v0 d0 p0) (hv1 : Value.okWide Try.prog W .any base 25 v1) (ht1 : DataW.Trod enc Try.prog W 0 (fun _ => true) true 25 v1 d1 p1) (hv2 : Value.okWide Try.prog W .any base 23 v2) (ht2 : DataW.Trod enc Try.prog W 0 (fun _ => true) true 23 v2 d2 p2) (hv3 : Value.okWide Try.prog W .any base 5 v3) (ht3 : DataW.Trod enc Try.prog W 0 (fun _ => true) true 5 v3 d3 p3) (hv4 : Value.okWide Try.prog W .any base 23 v4) (ht4 : DataW.Trod enc Try.prog W 0 (fun _ => true) true 23 v4 d4 p4) :
    Calls Try.prog 4 #[v0, v1, v2, v3, v4] W fun e w' => e = .returned (.bool true) ∧ Below W.heap.size W w' := by
  obtain ⟨t, e, c, tag, A, k, rfl, ht, he, hc, hk, hkm, hr⟩ := open_payload hv0 ht0
  obtain ⟨t', e', c', tag', A', k', rfl, ht', he', hc', hk', hkm', hr'⟩ := open_payload hv1 ht1
  obtain ⟨b, B, d, rfl, hd, hdm, hb⟩ := open_bytes hv2 ht2
  obtain ⟨y, rfl, hy⟩ := open_byte8 hv3 ht3
  obtain ⟨l, C, f, rfl, hf, hfm, hl⟩ := open_bytes hv4 ht4
  by_cases h : tag.length ≤ 3000 ∧ tag'.length ≤ 3000 ∧ b.length ≤ 3000 ∧ l.length ≤ 300
  · exact frameback_core t e c tag _ A k t' e' c' tag' _ A' k' b _ B d y l _ C f W ht he hc (Lib.hid rfl) hr hk h.1 ht' he' hc' (Lib.hid rfl) hr' hk' h.2.1 (Lib.hid rfl) hb hd h.2.2.1 (Lib.hid rfl) hl hf h.2.2.2 hy
  · exact frameback_big t e c _ A k t' e' c' _ A' k' _ B d y _ C f W h (by omega) (by omega) (by omega) (by omega)
end Go.Proofs.Yteppocjgodmpdaa
