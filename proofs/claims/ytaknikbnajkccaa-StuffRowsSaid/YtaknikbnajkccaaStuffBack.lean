/-
  The walks of the laws StuffBack and StuffRows: bytes are read from their stuffed ones as they were; none of these is all alike; rows are short. No conditions.
-/
import Derived.Test.YtaknikbnajkccaaStuffRight
namespace Go.Proofs.Ytaknikbnajkccaa
set_option maxRecDepth 100000
open Go.RowKit
set_option linter.unusedSimpArgs false
set_option linter.unusedVariables false

def BackR (X : List UInt8) (i : Value) : Prop := ∃ j : Nat, j ≤ X.length ∧ i = .int .i64 (j : Int)
theorem str_same (a b x y : List UInt8) (h : (x = y) ↔ (a = b)) : ((strL x).toList == (strL y).toList) = ((strL a).toList == (strL b).toList) := by
  rw [strs_beq, strs_beq, Bool.eq_iff_iff, beq_iff_eq, beq_iff_eq]
  exact h
set_option maxRecDepth 100000 in
set_option maxHeartbeats 4000000 in
theorem stuffback_core (a b : List UInt8) (la lb : Nat) (A B : Option Addr) (ca cb : Nat) (w : World) (HA : Hid (a.length = la)) (HB : Hid (b.length = lb)) (hra : Rd vB w A a) (hrb : Rd vB w B b) (hca : la ≤ ca) (hcb : lb ≤ cb) (hla : la ≤ 3000) (hlb : lb ≤ 3000) :
    Calls Try.prog 4 #[.slice A la ca, .slice B lb cb] w fun e w' => e = .returned (.bool true) ∧ Below w.heap.size w w' := by
  have g1 : decide ((3000 : Int) < (la : Int)) = false := decide_eq_false (by omega)
  have g2 : decide ((3000 : Int) < (lb : Int)) = false := decide_eq_false (by omega)
  have n1 : ¬ 3000 < la := by omega
  have n2 : ¬ 3000 < lb := by omega
  go_enter Try.func4, Try.ntmps4
  go_wp2_with fail
  refine (awake11_any _).mono ?_
  rintro e w1 ⟨rfl, hB⟩
  replace hra := hra.keep hB
  replace hrb := hrb.keep hB
  go_wp2_with fail
  clear g1 g2 n1 n2
  refine (putF_any a la A ca _ HA hra hca (by omega)).mono ?_
  rintro e w2 ⟨A2, nx, c2, rfl, HN2, hc2, hr2, hb⟩
  replace hra := hra.keep hb
  replace hrb := hrb.keep hb
  replace hB := below_step hB hb
  clear hb
  go_wp2_with fail
  refine (putF_any b lb B cb _ HB hrb hcb (by omega)).mono ?_
  rintro e w3 ⟨A3, ny, c3, rfl, HN3, hc3, hr3, hb⟩
  replace hra := hra.keep hb
  replace hrb := hrb.keep hb
  replace hr2 := hr2.keep hb
  replace hB := below_step hB hb
  clear hb
  have hxl := put_length a
  rw [HN2.out, HA.out] at hxl
  have hyl := put_length b
  rw [HN3.out, HB.out] at hyl
  have hxn := put_not a
  have hss := str_same a b (putT a) (putT b) ⟨put_inj, fun h => by rw [h]⟩
  have HXG : Hid (putT (candL (putT a)) = putT a) := by unfold Hid; rw [cand_put]
  have HXC : Hid (candL (putT a) = a) := cand_put a
  generalize putT a = X at HN2 hr2 hxn hss HXG HXC
  generalize putT b = Y at HN3 hr3 hss
  have hx6 : nx ≤ 6000 := by omega
  go_wp2_with fail
  refine (getF_ok X nx A2 c2 _ HN2 hr2 hc2 (by omega) HXG).mono ?_
  rintro e w4 ⟨A4, n4, c4, rfl, HN4, hc4, hr4, hb⟩
  rw [HXC.out] at HN4 hr4
  replace hra := hra.keep hb
  replace hrb := hrb.keep hb
  replace hr2 := hr2.keep hb
  replace hr3 := hr3.keep hb
  replace hB := below_step hB hb
  clear hb
  have hs1 := strY (c := c4) n4 HN4 hr4 _ (Below.refl _ _)
  have hs2 := strY (c := ca) la HA hra _ (Below.refl _ _)
  have hs3 := strY (c := c2) nx HN2 hr2 _ (Below.refl _ _)
  have hs4 := strY (c := c3) ny HN3 hr3 _ (Below.refl _ _)
  have hs5 := strY (c := cb) lb HB hrb _ (Below.refl _ _)
  obtain ⟨E, hE⟩ : ∃ E, ((strL a).toList == (strL b).toList) = E := ⟨_, rfl⟩
  rw [hE] at hss
  go_wp2_with fail
  refine (mostF_any (la : Int) _ (by omega) (by omega)).mono ?_
  rintro e w5 ⟨rfl, hb⟩
  rw [most_in la (by omega)]
  replace hrb := hrb.keep hb
  replace hr2 := hr2.keep hb
  replace hB := below_step hB hb
  clear hb hs1 hs2 hs3 hs4 hs5 hss hE
  obtain ⟨M, hM⟩ : ∃ M, (8 * la + 6) / 7 = M := ⟨_, rfl⟩
  rw [hM] at hxl ⊢
  have m1 : ¬ (M : Int) < (nx : Int) := by omega
  have m2 : ¬ (nx : Int) < (la : Int) := by omega
  have hmn : M ≤ 6000 := by omega
  clear hM hxl hyl
  go_wp2_with fail
  have e2 := HN2.out
  subst e2
  go_loopw [9] (fun i wr => BackR X i ∧ w5 = wr) (fun i _ => X.length - (intOf i).toNat)
  case atStart => exact ⟨⟨0, Nat.zero_le _, rfl⟩, rfl⟩
  case round =>
    obtain ⟨⟨j, hj, rfl⟩, rfl⟩ := hrel
    by_cases h : j < X.length
    · obtain ⟨g, o, rfl, hg, hcell⟩ := hr2.at h
      have hc0 := hcell j h
      unfold vB at hc0
      obtain ⟨x0, x1⟩ := hxn X[j] (List.getElem_mem h)
      have t0 : X[j].toNat ≠ 0 := fun e => x0 (UInt8.toNat_inj.1 e)
      have t1 : X[j].toNat ≠ 255 := fun e => x1 (UInt8.toNat_inj.1 e)
      generalize X[j].toNat = t at hc0 t0 t1
      have b0 : ((t : Int) == 0) = false := beq_eq_false_iff_ne.2 (by omega)
      have b1 : ((t : Int) == 255) = false := beq_eq_false_iff_ne.2 (by omega)
      have j1 : (j : Int) < (X.length : Int) := by omega
      have j0 : (0 : Int) ≤ (j : Int) := by omega
      clear hcell x0 x1
      go_wp2_with fail
      go_roundw
      case rel => exact ⟨⟨j + 1, h, by go_num⟩, trivial⟩
      case measure => simp [intOf] <;> omega
    · have j1 : ¬ (j : Int) < (X.length : Int) := by omega
      obtain ⟨ok, hok⟩ : ∃ k, decide (putT (candL b) = b) = k := ⟨_, rfl⟩
      cases ok
      · have HF : Hid (putT (candL b) ≠ b) := Lib.hid (of_decide_eq_false hok)
        clear hok
        go_wp2_with fail
        refine (getF_no b lb B cb _ HB hrb hcb (by omega) HF).mono ?_
        rintro e w6 ⟨A6, n6, c6, rfl, HN6, hc6, hr6, hb⟩
        have e6 : n6 = 0 := HN6.out.symm
        subst e6
        go_wp2_with fail
        go_ret
        exact ⟨rfl, below_step hB hb⟩
      · have HF : Hid (putT (candL b) = b) := Lib.hid (of_decide_eq_true hok)
        clear hok
        go_wp2_with fail
        refine (getF_ok b lb B cb _ HB hrb hcb (by omega) HF).mono ?_
        rintro e w6 ⟨A6, n6, c6, rfl, HN6, hc6, hr6, hb⟩
        have hn6 : n6 ≤ 10000 := by
          have h1 := (put_length (candL b)).1
          rw [HF.out, HN6.out, HB.out] at h1
          omega
        replace hrb := hrb.keep hb
        replace hB := below_step hB hb
        clear hb
        have hs1 := strY (c := cb) lb HB hrb
        have HX := Lib.hid (And.intro hr6 hB)
        clear hr6 hB
        go_upto_region 17 with fail
        have hBase := (Below.refl w6.heap.size w6).drew
        refine wp_region_plan (.step 0 false (.step 3 false (.step 4 false (.step 1 true (.step 2 false (.step 5 false (.step 6 false (.nil)))))))) (by kernel_rfl) (by kernel_rfl) (by rfl) (by kernel_rfl) ?_
        iterate 3 (refine plan_read rfl (by rfl) (v := ?_) ?_ ?_; rotate_left 1; (intro W hW; have hW0 := below_step hBase hW; (try dsimp only at hW); go_simp <;> with_reducible rfl); simp only [List.getElem_toArray, List.getElem_cons_zero, List.getElem_cons_succ, Act.put, List.setIfInBounds_toArray, List.set_cons_zero, List.set_cons_succ])
        (refine plan_make rfl (by rfl) (fun K hK => ?_); go_simp; (refine (putF_any (candL b) n6 A6 c6 _ HN6 (HX.out.1.keep hBase) hc6 (by omega)).mono ?_; rintro e w7 ⟨A7, n7, c7, rfl, HN7, hc7, hr7, hbx⟩; rw [HF.out] at HN7 hr7); refine hK.out _ _ hbx ?_; clear hK K; replace hBase := below_step hBase hbx)
        have hs2 := strY (c := c7) n7 HN7 hr7
        iterate 3 (refine plan_read rfl (by rfl) (v := ?_) ?_ ?_; rotate_left 1; (intro W hW; have hW0 := below_step hBase hW; (try dsimp only at hW); go_simp <;> with_reducible rfl); simp only [List.getElem_toArray, List.getElem_cons_zero, List.getElem_cons_succ, Act.put, List.setIfInBounds_toArray, List.set_cons_zero, List.set_cons_succ])
        refine plan_done ?_
        clear hs1 hs2
        go_wp2_with fail
        go_ret
        exact ⟨rfl, below_step HX.out.2 hBase⟩

/-! ### Rows -/
def RowR (X : List UInt8) (w : World) (r i : Value) (wr : World) : Prop := ∃ j : Nat, j ≤ (bitsL X).length ∧ i = .int .i64 (j : Int) ∧ r = .int .i64 ((rowB (false, 0) ((bitsL X).take j)).2 : Int) ∧ Below w.heap.size w wr
theorem row_snoc (s : Bool × Nat) (l : List Bool) (x : Bool) : rowB s (l ++ [x]) = rowS (rowB s l) x := by unfold rowB; rw [List.foldl_append]; rfl
theorem row_take (l : List Bool) (j : Nat) (h : j < l.length) : (rowB (false, 0) (l.take (j + 1))).2 = if 0 < j ∧ l[j] ≠ l[j - 1]'(by omega) then 1 else (rowB (false, 0) (l.take j)).2 + 1 := by
  rw [List.take_succ_eq_append_getElem h, row_snoc]
  unfold rowS
  dsimp only
  cases j with
  | zero =>
    rw [if_neg (by rintro ⟨h1, _⟩; exact h1 rfl), if_neg (by omega)]
  | succ j =>
    have hj : j < l.length := by omega
    have e : l.take (j + 1) = l.take j ++ [l[j]] := List.take_succ_eq_append_getElem hj
    have e1 : (rowB (false, 0) (l.take (j + 1))).1 = l[j] := by rw [e, row_snoc]; rfl
    have e2 : (rowB (false, 0) (l.take (j + 1))).2 ≠ 0 := by
      rw [e, row_snoc]
      unfold rowS
      dsimp only
      split <;> omega
    rw [e1]
    by_cases hx : l[j + 1] = l[j]
    · rw [if_neg (fun h => h.2 hx), if_neg (fun h => h.2 hx)]
    · rw [if_pos ⟨e2, hx⟩, if_pos ⟨by omega, hx⟩]
theorem one_ne (x y : Bool) : ((((oneB x).toNat : Int) != ((oneB y).toNat : Int)) = true) ↔ x ≠ y := by cases x <;> cases y <;> decide

set_option maxRecDepth 100000 in
set_option maxHeartbeats 4000000 in
theorem stuffrows_core (b : List UInt8) (len : Nat) (A : Option Addr) (c : Nat) (w : World) (HN : Hid (b.length = len)) (hr : Rd vB w A b) (hc : len ≤ c) (hl : len ≤ 3000) :
    Calls Try.prog 5 #[.slice A len c] w fun e w' => e = .returned (.bool true) ∧ Below w.heap.size w w' := by
  have g1 : decide ((3000 : Int) < (len : Int)) = false := decide_eq_false (by omega)
  have n1 : ¬ 3000 < len := by omega
  go_enter Try.func5, Try.ntmps5
  go_wp2_with fail
  refine (awake11_any _).mono ?_
  rintro e w1 ⟨rfl, hB⟩
  replace hr := hr.keep hB
  go_wp2_with fail
  clear g1 n1
  refine (putF_any b len A c _ HN hr hc (by omega)).mono ?_
  rintro e w2 ⟨A2, nx, c2, rfl, HN2, hc2, hr2, hb⟩
  replace hB := below_step hB hb
  clear hb hr
  have hxl := (put_length b).2
  rw [HN2.out, HN.out] at hxl
  have HXN := Lib.hid (put_not b)
  generalize putT b = X at HN2 hr2 HXN
  go_wp2_with fail
  refine (refbits_any X nx A2 c2 _ HN2 hr2 (by omega)).mono ?_
  rintro e w3 ⟨A3, nb, c3, rfl, HN3, hc3, hr3, hb⟩
  replace hB := below_step hB hb
  clear hb hr2
  have HLB : Hid ((bitsL X).length = nb) := by unfold Hid; rw [← HN3.out, one_length]
  have hnb : nb ≤ 100000 := by rw [← HLB.out, bits_length, HN2.out]; omega
  have HRF : Hid (∀ k, (rowB (false, 0) ((bitsL X).take k)).2 ≤ 14) := rows_fine X false 0 (by omega) HXN.out
  clear hxl
  go_wp2_with fail
  go_loopw [4, 5] (fun r i wr => RowR X w3 r i wr) (fun _ i _ => nb - (intOf i).toNat)
  case atStart => exact ⟨0, Nat.zero_le _, rfl, rfl, Below.refl _ _⟩
  case round =>
    obtain ⟨j, hj, rfl, rfl, hbr⟩ := hrel
    by_cases h : j < nb
    · have hjl : j < (bitsL X).length := by rw [HLB.out]; exact h
      have HRT := Lib.hid (row_take (bitsL X) j hjl)
      have hr14 := HRF.out (j + 1)
      have hr14' := HRF.out j
      have hjo : j < (oneL (bitsL X)).length := by rw [HN3.out]; exact h
      obtain ⟨g, o, rfl, hg, hcell⟩ := hr3.at hjo
      have hcj : ∀ i (hi : i < (bitsL X).length), ∀ W, Below w3.heap.size w3 W → W.cell? ⟨g, o + i, none⟩ = some (.int .u8 ((oneB (bitsL X)[i]).toNat : Int)) := fun i hi W hW => by
        have hio : i < (oneL (bitsL X)).length := by rw [one_length]; exact hi
        have e : (oneL (bitsL X))[i] = oneB (bitsL X)[i] := by simp [oneL]
        rw [hW.cell (p := ⟨g, o + i, none⟩) hg, hcell i hio, e]
        rfl
      have j1 : (j : Int) < (nb : Int) := by omega
      have j0 : (0 : Int) ≤ (j : Int) := by omega
      have hBase0 : Below w3.heap.size w3 wr.drew := hbr.drew
      obtain ⟨r, hr⟩ : ∃ r, (rowB (false, 0) ((bitsL X).take j)).2 = r := ⟨_, rfl⟩
      obtain ⟨r', hr'⟩ : ∃ r', (rowB (false, 0) ((bitsL X).take (j + 1))).2 = r' := ⟨_, rfl⟩
      rw [hr'] at hr14
      rw [hr] at hr14' ⊢
      have HR : Hid (RowR X w3 (.int .i64 (r' : Int)) (.int .i64 ((j : Int) + 1)) wr.drew) := ⟨j + 1, by rw [HLB.out]; exact h, by go_num, by rw [hr'], hBase0⟩
      by_cases hz : j = 0
      · have e' : r' = r + 1 := by
          have := HRT.out
          rw [hr', hr, if_neg (by omega)] at this
          exact this
        have ei : ((r' : Nat) : Int) = (r : Int) + 1 := by omega
        have z1 : decide ((0 : Int) < (j : Int)) = false := decide_eq_false (by omega)
        have z2 : ¬ 0 < j := by omega
        clear HRT hcj hcell hr hr' hz
        go_upto_region 10 with fail
        have hBase := (Below.refl wr.heap.size wr).drew
        refine wp_region_plan (.step 0 false (.step 1 false (.step 2 false (.step 3 false (.step 4 false (.step 5 false (.step 6 false (.step 7 false (.step 8 false (.step 9 false (.step 10 false (.step 11 false (.step 12 false (.step 13 false (.nil))))))))))))))) (by kernel_rfl) (by kernel_rfl) (by rfl) (by kernel_rfl) ?_
        iterate 3 (refine plan_read rfl (by rfl) (v := ?_) ?_ ?_; rotate_left 1; (intro W hW; have hW0 := below_step hBase hW; (try dsimp only at hW); go_simp <;> with_reducible rfl); simp only [List.getElem_toArray, List.getElem_cons_zero, List.getElem_cons_succ, Act.put, List.setIfInBounds_toArray, List.set_cons_zero, List.set_cons_succ])
        iterate 10 (refine plan_skip rfl (by rfl) ?_; simp only [List.getElem_toArray, List.getElem_cons_zero, List.getElem_cons_succ, Act.put, List.setIfInBounds_toArray, List.set_cons_zero, List.set_cons_succ])
        iterate 1 (refine plan_read rfl (by rfl) (v := ?_) ?_ ?_; rotate_left 1; (intro W hW; have hW0 := below_step hBase hW; (try dsimp only at hW); go_simp <;> with_reducible rfl); simp only [List.getElem_toArray, List.getElem_cons_zero, List.getElem_cons_succ, Act.put, List.setIfInBounds_toArray, List.set_cons_zero, List.set_cons_succ])
        refine plan_done ?_
        clear hBase
        go_wp2_with fail
        go_roundw
        case rel => rw [← ei]; exact HR.out
        case measure => simp [intOf] <;> omega
      · obtain ⟨m, hm⟩ : ∃ m, j = m + 1 := ⟨j - 1, by omega⟩
        have hml : m < (bitsL X).length := by omega
        have hjm : (j : Int) - 1 = (m : Int) := by omega
        have mw : IntKind.i64.wrap (m : Int) = (m : Int) := by rw [IntKind.wrap_i64]; omega
        have m0 : (0 : Int) ≤ (m : Int) := by omega
        have mn : (m : Int) < (nb : Int) := by omega
        have z1 : decide ((0 : Int) < (j : Int)) = true := decide_eq_true (by omega)
        have z2 : 0 < j := by omega
        have z3 : (0 : Int) < (j : Int) := by omega
        have hc1 : ∀ W, Below wr.heap.size wr W → W.cell? ⟨g, o + j, none⟩ = some (.int .u8 ((oneB (bitsL X)[j]).toNat : Int)) := fun W hW => hcj j hjl W (below_step hbr hW)
        have hc2' : ∀ W, Below wr.heap.size wr W → W.cell? ⟨g, o + m, none⟩ = some (.int .u8 ((oneB (bitsL X)[m]).toNat : Int)) := fun W hW => hcj m hml W (below_step hbr hW)
        have hrt := HRT.out
        have em : (bitsL X)[j - 1]'(by omega) = (bitsL X)[m] := by congr 1; omega
        rw [hr', hr, em] at hrt
        have hone := one_ne (bitsL X)[j] (bitsL X)[m]
        generalize (bitsL X)[j] = x at hc1 hrt hone
        generalize (bitsL X)[m] = y at hc2' hrt hone
        have HJM := Lib.hid hm
        by_cases hxy : x = y
        · have e' : r' = r + 1 := by
            rw [if_neg (fun h => h.2 hxy)] at hrt
            exact hrt
          have ei : ((r' : Nat) : Int) = (r : Int) + 1 := by omega
          have hne : (((oneB x).toNat : Int) != ((oneB y).toNat : Int)) = false := by rw [hxy]; simp
          generalize (oneB x).toNat = tx at hc1 hne
          generalize (oneB y).toNat = ty at hc2' hne
          clear HRT hcj hcell hr hr' hz hm hrt hone em hxy
          go_upto_region 10 with fail
          have hBase := (Below.refl wr.heap.size wr).drew
          refine wp_region_plan (.step 0 false (.step 1 false (.step 2 false (.step 3 false (.step 4 false (.step 5 false (.step 6 false (.step 7 false (.step 8 false (.step 9 false (.step 10 false (.step 11 false (.step 12 false (.step 13 false (.nil))))))))))))))) (by kernel_rfl) (by kernel_rfl) (by rfl) (by kernel_rfl) ?_
          iterate 14 (refine plan_read rfl (by rfl) (v := ?_) ?_ ?_; rotate_left 1; (intro W hW; have hW0 := below_step hBase hW; (try dsimp only at hW); go_simp <;> with_reducible rfl); simp only [List.getElem_toArray, List.getElem_cons_zero, List.getElem_cons_succ, Act.put, List.setIfInBounds_toArray, List.set_cons_zero, List.set_cons_succ])
          refine plan_done ?_
          clear hBase hc1 hc2'
          go_wp2_with fail
          go_roundw
          case rel => rw [← ei]; exact HR.out
          case measure => simp [intOf] <;> omega
        · have e' : r' = 1 := by
            rw [if_pos ⟨z2, hxy⟩] at hrt
            exact hrt
          have hne : (((oneB x).toNat : Int) != ((oneB y).toNat : Int)) = true := hone.2 hxy
          generalize (oneB x).toNat = tx at hc1 hne
          generalize (oneB y).toNat = ty at hc2' hne
          clear HRT hcj hcell hr hr' hz hm hrt hone em hxy
          subst e'
          go_upto_region 10 with fail
          have hBase := (Below.refl wr.heap.size wr).drew
          refine wp_region_plan (.step 0 false (.step 1 false (.step 2 false (.step 3 false (.step 4 false (.step 5 false (.step 6 false (.step 7 false (.step 8 false (.step 9 false (.step 10 false (.step 11 false (.step 12 false (.step 13 false (.nil))))))))))))))) (by kernel_rfl) (by kernel_rfl) (by rfl) (by kernel_rfl) ?_
          iterate 14 (refine plan_read rfl (by rfl) (v := ?_) ?_ ?_; rotate_left 1; (intro W hW; have hW0 := below_step hBase hW; (try dsimp only at hW); go_simp <;> with_reducible rfl); simp only [List.getElem_toArray, List.getElem_cons_zero, List.getElem_cons_succ, Act.put, List.setIfInBounds_toArray, List.set_cons_zero, List.set_cons_succ])
          refine plan_done ?_
          clear hBase hc1 hc2'
          go_wp2_with fail
          go_roundw
          case rel => exact HR.out
          case measure => simp [intOf] <;> omega
    · have j1 : ¬ (j : Int) < (nb : Int) := by omega
      have hB2 := below_step hB hbr
      go_wp2_with fail
      go_ret
      exact ⟨rfl, hB2⟩
end Go.Proofs.Ytaknikbnajkccaa
