/-
  The walk of the law MendFine: what is mended is fine and near, mended again it is as it is. No conditions.
-/
import Derived.Test.YtankddeolpickaaMendAwake
import Derived.Test.YtankddeolpickaaMendCnt
import Derived.StillTailTactics
import Derived.BigQuiet
namespace Go.Proofs.Ytankddeolpickaa
set_option maxRecDepth 100000
open Go.RowKit
set_option linter.unusedSimpArgs false
set_option linter.unusedVariables false

theorem mendS_cases (b : List UInt8) (n : Int) (hl : b.length ≤ 255) :
    (∃ k : Int, (k != 0) = true ∧ mendS b n = ([], 0, k) ∧ fineS b n = false) ∨
    (∃ (m : Nat) (a : List UInt8), n = (m : Int) ∧ 1 ≤ m ∧ m ≤ 64 ∧ m ≤ b.length ∧ Near b m a ∧ mendS b n = (a, difL b a, 0) ∧ fineS a n = true ∧ mendS a n = (a, 0, 0) ∧ fineS b n = decide (difL b a = 0)) := by
  by_cases h0 : errS b.length n = 0
  · obtain ⟨m, rfl, h1, h2, h3, h4⟩ := errS_cases b.length n h0
    by_cases h : ∃ a, Near b m a
    · obtain ⟨a, ha⟩ := h
      refine .inr ⟨m, a, rfl, h1, h2, h3, ha, mendS_near h0 h4 ha, ?_, ?_, ?_⟩
      · exact (fineS_iff a m h1 h2 (by rw [ha.1]; exact h3) (by rw [ha.1]; exact h4)).2 ha.2.1
      · have := mendS_near (b := a) (n := m) (by rw [ha.1]; exact h0) (by rw [ha.1]; exact h4) (near_self ha.2.1)
        rw [dif_self] at this
        exact this
      · rw [Bool.eq_iff_iff, decide_eq_true_eq, fineS_iff b m h1 h2 h3 h4]
        constructor
        · intro hb
          rw [near_unique h4 ha (near_self hb), dif_self]
        · intro hd
          rw [dif_zero ha.1.symm hd]
          exact ha.2.1
    · refine .inl ⟨6, rfl, mendS_many h0 (fun a ha => h ⟨a, ha⟩), ?_⟩
      cases hf : fineS b (m : Int)
      · rfl
      · exact absurd ⟨b, near_self ((fineS_iff b m h1 h2 h3 h4).1 hf)⟩ h
  · refine .inl ⟨_, bne_iff_ne.2 h0, mendS_bad h0, ?_⟩
    unfold fineS
    rw [decide_eq_false h0]
    rfl
set_option maxRecDepth 100000 in
set_option maxHeartbeats 4000000 in
theorem mendfine_core (b : List UInt8) (n : Int) (len : Nat) (A : Option Addr) (c : Nat) (w : World) (HN : Hid (b.length = len)) (hr : Rd vB w A b) (hc : len ≤ c) :
    Calls Try.prog 5 #[.slice A len c, .int .i64 n] w fun e w' => e = .returned (.bool true) ∧ Below w.heap.size w w' := by
  have e0 := HN.out
  subst e0
  go_enter Try.func5, Try.ntmps5
  go_wp2_with fail
  refine (awake10_any _).mono ?_
  rintro e w1 ⟨rfl, hB⟩
  replace hr := hr.keep hB
  by_cases hlen : (255 : Int) < (b.length : Int)
  · go_wp2_with fail
    go_ret
    exact ⟨rfl, hB⟩
  · go_wp2_with fail
    rcases mendS_cases b n (by omega) with ⟨k, hk, hS, hF⟩ | ⟨m, a, rfl, h1, h2, h3, hnear, hS, hFa, hSa, hFb⟩
    · have HS := Lib.hid hS
      have HF := Lib.hid hF
      clear hS hF
      refine ((mendM_any b b.length n A c w1 (Lib.hid rfl) hr hc (by omega)).mono (fun _ _ h => h.to _ 0 0 k HS.out rfl)).mono ?_
      rintro e w2 ⟨A2, n2, c2, rfl, HN2, hc2, hr2, hb2, ha2⟩
      have en2 : n2 = 0 := HN2.out.symm
      subst en2
      replace hr := hr.keep hb2
      replace hB := below_step hB hb2
      clear hb2 hr2 ha2
      go_wp2_with fail
      refine (fineS_any b b.length n A c w2 (Lib.hid rfl) hr hc (by omega)).mono ?_
      rintro e w3 ⟨rfl, hb3⟩
      replace hB := below_step hB hb3
      rw [HF.out]
      go_wp2_with fail
      go_ret
      exact ⟨rfl, hB⟩
    · have HS := Lib.hid hS
      obtain ⟨D, hD⟩ : ∃ D, difL b a = D := ⟨_, rfl⟩
      have HD := Lib.hid hD
      have hDm : D ≤ m / 2 := by rw [← hD]; exact hnear.2.2
      have hlen2 : b.length ≤ 255 := by omega
      refine ((mendM_any b b.length (m : Int) A c w1 (Lib.hid rfl) hr hc (by omega)).mono (fun _ _ h => h.to _ _ (D : Int) 0 HS.out (by rw [hD]))).mono ?_
      rintro e w2 ⟨A2, n2, c2, rfl, HN2, hc2, hr2, hb2, ha2⟩
      have en2 : n2 = b.length := by rw [← HN2.out]; exact hnear.1
      subst en2
      replace hr := hr.keep hb2
      replace hB := below_step hB hb2
      have HAL := hnear.1
      have HSA := Lib.hid hSa
      have HFA := Lib.hid hFa
      have HFB := Lib.hid hFb
      clear hb2 ha2 hS hSa hFa hFb hD hnear
      go_wp2_with fail
      go_loopw [8, 9] (fun p k wr => CntR b a w2 p k wr) (fun _ k _ => b.length - (intOf k).toNat)
      case atStart => exact ⟨0, Nat.zero_le _, rfl, rfl, Below.refl _ _⟩
      case round =>
        obtain ⟨j, hj, rfl, rfl, hbr⟩ := hrel
        by_cases hjl : j < b.length
        · have j1 : (j : Int) < (b.length : Int) := by omega
          have j0 : (0 : Int) ≤ (j : Int) := by omega
          obtain ⟨gs, os, rfl, hgs, hcs⟩ := hr.at hjl
          obtain ⟨gb, ob, rfl, hgb, hcb⟩ := hr2.at (k := j) (by rw [HAL]; exact hjl)
          have hc1 : wr.cell? ⟨gs, os + j, none⟩ = some (.int .u8 (b[j].toNat : Int)) := (hbr.cell (p := ⟨gs, os + j, none⟩) hgs).trans (hcs j hjl)
          have hc2' : wr.cell? ⟨gb, ob + j, none⟩ = some (.int .u8 ((a[j]'(by rw [HAL]; exact hjl)).toNat : Int)) := (hbr.cell (p := ⟨gb, ob + j, none⟩) hgb).trans (hcb j (by rw [HAL]; exact hjl))
          have hdt := dif_take b a HAL.symm j hjl
          have hle : difL (b.take (j + 1)) (a.take (j + 1)) ≤ 255 := by
            have := wt_le (List.zipWith addB (b.take (j + 1)) (a.take (j + 1)))
            rw [List.length_zipWith, List.length_take] at this
            unfold difL
            omega
          rw [co_lt b j hjl, co_lt a j (by rw [HAL]; exact hjl)] at hdt
          generalize b[j] = x at hc1 hdt
          generalize a[j]'(by rw [HAL]; exact hjl) = y at hc2' hdt
          have HREL : Hid (∀ W, Below w2.heap.size w2 W → CntR b a w2 (.int .i64 ((difL (b.take (j + 1)) (a.take (j + 1)) : Nat) : Int)) (.int .i64 ((j : Int) + 1)) W) := fun W hW => ⟨j + 1, hjl, by go_num, rfl, hW⟩
          generalize difL (b.take (j + 1)) (a.take (j + 1)) = P1 at hdt hle HREL
          generalize difL (b.take j) (a.take j) = P0 at hdt ⊢
          have HDT := Lib.hid hdt
          have HR2 := Lib.hid (HREL.out _ hbr)
          have HR3 := Lib.hid (fun nq => HREL.out _ (below_drewN hbr nq))
          clear hdt HREL hcs hcb hgs hgb hbr
          by_cases exy : x = y
          · subst exy
            have hP : P1 = P0 := by have := HDT.out; rw [if_pos rfl] at this; exact this
            subst hP
            clear HDT
            go_upto_region 14 with fail
            go_quiet (fail)
            go_wp2_with fail
            go_roundw
            case rel => exact HR3.out _
            case measure => simp [intOf] <;> omega
          · have hne : ((x.toNat : Int) != (y.toNat : Int)) = true := bne_iff_ne.2 (fun e => exy (UInt8.toNat_inj.1 (by omega)))
            have hP : ((P0 : Int) + 1) = (P1 : Int) := by have := HDT.out; rw [if_neg exy] at this; omega
            clear HDT
            go_upto_region 14 with fail
            go_quiet (fail)
            go_wp2_with fail
            go_roundw
            case rel => exact HR3.out _
            case measure => simp [intOf] <;> omega
        · have ej : j = b.length := by omega
          subst ej
          have j1 : ¬ (b.length : Int) < (b.length : Int) := by omega
          have hDD : difL (b.take b.length) (a.take b.length) = D := by rw [List.take_length, ← HAL, List.take_length]; exact HD.out
          rw [hDD]
          replace hr := hr.keep hbr
          replace hr2 := hr2.keep hbr
          replace hB := below_step hB hbr
          clear hbr hDD
          have HDM := Lib.hid hDm
          have hm2 : (m : Int).tdiv 2 = ((m / 2 : Nat) : Int) := by rw [Int.tdiv_eq_ediv_of_nonneg (by omega)]; omega
          have hm3 : IntKind.i64.wrap ((m / 2 : Nat) : Int) = ((m / 2 : Nat) : Int) := by rw [IntKind.wrap_i64]; omega
          obtain ⟨M, hM⟩ : ∃ M, m / 2 = M := ⟨_, rfl⟩
          rw [hM] at hm2 hm3 hDm
          clear hM
          have HALH : Hid (a.length = b.length) := HAL
          go_wp2_with fail
          refine ((mendM_any a b.length (m : Int) A2 c2 _ HALH hr2 hc2 (by omega)).mono (fun _ _ h => h.to _ 0 0 0 HSA.out rfl)).mono ?_
          rintro e w4 ⟨A4, n4, c4, rfl, HN4, hc4, hr4, hb4, ha4⟩
          have en4 : n4 = b.length := by rw [← HN4.out]; exact HAL
          subst en4
          replace hr := hr.keep hb4
          replace hr2 := hr2.keep hb4
          replace hB := below_step hB hb4
          clear hb4 ha4
          have hs1 := strS (c := c2) b.length HALH hr2
          have hs2 := strS (c := c4) b.length HALH hr4
          have j2 : (D : Int) ≤ (M : Int) := by omega
          go_wp2_with fail
          refine (fineS_any a b.length (m : Int) A2 c2 _ HALH hr2 hc2 (by omega)).mono ?_
          rintro e w5 ⟨rfl, hb5⟩
          rw [HFA.out]
          go_wp2_with fail
          replace hr := hr.keep hb5
          replace hB := below_step hB hb5
          refine (fineS_any b b.length (m : Int) A c _ (Lib.hid rfl) hr hc (by omega)).mono ?_
          rintro e w6 ⟨rfl, hb6⟩
          replace hB := below_step hB hb6
          rw [HFB.out, HD.out]
          by_cases hd0 : D = 0
          · subst hd0
            go_wp2_with fail
            go_ret
            exact ⟨rfl, hB⟩
          · rw [decide_eq_false hd0]
            have hd1 : ((D : Int) == 0) = false := beq_eq_false_iff_ne.2 (by omega)
            go_wp2_with fail
            go_ret
            exact ⟨rfl, hB⟩
end Go.Proofs.Ytankddeolpickaa
