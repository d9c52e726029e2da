/-
  What the reference's calls Right, Same and Short of layer 5 answer. No conditions but those typed.
-/
import Derived.Test.YtppdfldmbfddnaaTermRef
namespace Go.Proofs.Ytppdfldmbfddnaa
open Go.RowKit
set_option linter.unusedSimpArgs false
set_option linter.unusedVariables false

/-! ### Right -/
def RiRel (cs : List Tm) (w : World) (i : Value) (wr : World) : Prop :=
  ∃ k : Nat, k ≤ cs.length ∧ i = .int .i64 (k : Int) ∧ (∀ j (h : j < k) (h' : j < cs.length), idx cs[j] cs = j) ∧ Below w.heap.size w wr

set_option maxHeartbeats 1000000 in
theorem refright_any (ts : List TD) (p : Nat) (A : Option Addr) (c : Nat) (w : World) (HP : Hid (ts.length = p)) (ht : RdT w A ts) (hok : okT w ts) (hp : p ≤ 1000000000) :
    Calls Try.prog 12 #[.slice A p c] w fun e w' => e = .returned (.bool (rightT (conT ts))) ∧ Below w.heap.size w w' := by
  have e1 := HP.out
  subst e1
  have HOK := Lib.hid hok
  have HT := Lib.hid ht
  clear hok HP
  go_enter Try.func12, Try.ntmps12
  go_wp2_with fail
  go_loopw [3] (fun i wr => RiRel (conT ts) w i wr) (fun i _ => ts.length - (intOf i).toNat)
  case atStart => exact ⟨0, Nat.zero_le _, rfl, fun j h => absurd h (by omega), Below.refl _ _⟩
  case round =>
    obtain ⟨k, hk1, rfl, hbef, hB⟩ := hrel
    by_cases hlt : k < ts.length
    · obtain ⟨blk, o, rfl, hblk, hcell⟩ := ht.at hlt
      have hx := HOK.out ts[k] (List.getElem_mem hlt)
      have hg := conT_get ts k hlt
      have hlc : k < (conT ts).length := by rw [conT_length]; exact hlt
      have hin : ts[k].c ∈ conT ts := by rw [← hg]; exact List.getElem_mem hlc
      obtain ⟨h0, h1⟩ := hcell k hlt
      have hc0 : ∀ W, Below wr.heap.size wr W → W.cell? ⟨blk, o + k * 2, none⟩ = some ts[k].at0 := fun W hW => ((below_step hB hW).cell (p := ⟨blk, o + k * 2, none⟩) hblk).trans h0
      have hc1 : ∀ W, Below wr.heap.size wr W → W.cell? ⟨blk, o + k * 2 + 1, none⟩ = some ts[k].at1 := fun W hW => ((below_step hB hW).cell (p := ⟨blk, o + k * 2 + 1, none⟩) hblk).trans h1
      have hpl := plI_in _ _ hin
      have HNE : Hid (idx ts[k].c (conT ts) ≠ k → rightT (conT ts) = false) := fun hn => by
        rw [Bool.eq_false_iff]
        intro hr
        have := (right_iff _).1 hr k hlc
        rw [hg] at this
        exact hn this
      have HEQ : Hid (idx ts[k].c (conT ts) = k → ∀ j (h : j < k + 1) (h' : j < (conT ts).length), idx (conT ts)[j] (conT ts) = j) := fun he j hj h' => by
        rcases Nat.lt_or_ge j k with h1 | h1
        · exact hbef j h1 h'
        · have : j = k := by omega
          subst this
          rw [hg]
          exact he
      have hle := idx_le ts[k].c (conT ts)
      rw [conT_length] at hle
      obtain ⟨q, hq⟩ : ∃ q, q = idx ts[k].c (conT ts) := ⟨_, rfl⟩
      rw [← hq] at hpl HNE HEQ hle
      have HPL := Lib.hid hpl
      generalize ts[k] = x at hx hc0 hc1 HPL
      clear hq hpl hin h0 h1 hcell hg
      obtain ⟨kA, kc, kl, mA, mc, ml⟩ := x
      obtain ⟨_, _, hkl, hml⟩ := hx
      unfold TD.at0 TD.at1 at *
      unfold TD.c at HPL
      dsimp only at hkl hml HPL hc0 hc1
      have i0 : (0 : Int) ≤ (k : Int) := by omega
      have i1 : (k : Int) < (ts.length : Int) := by omega
      have hBase : Below wr.heap.size wr wr.drew := (Below.refl _ _).drew
      have HB := Lib.hid hB
      by_cases e : q = k
      · have HR : Hid (∀ W, Below wr.heap.size wr W → RiRel (conT ts) w (.int .i64 ((k : Int) + 1)) W) := fun W hW => ⟨k + 1, hlc, by go_num, HEQ.out e, below_step HB.out hW⟩
        have hne : ((q : Int) != (k : Int)) = false := by simp; omega
        clear HEQ HNE hbef hlc hk1 e hB hle
        go_wp2_with fail
        refine wp_region_plan (.step 0 false (.step 1 false (.step 2 false (.step 3 false (.step 4 false (.step 5 false (.step 6 false (.step 7 false (.step 8 false (.step 9 false (.step 10 false (.step 12 false (.step 11 true (.step 13 false (.nil))))))))))))))) (by kernel_rfl) (by kernel_rfl) (by rfl) (by kernel_rfl) ?_
        iterate 12 (refine plan_read rfl (by rfl) (v := ?_) ?_ ?_; rotate_left 1; (intro W hW; have hW0 := below_step hBase hW; (try dsimp only at hW); go_simp <;> with_reducible rfl); simp only [List.getElem_toArray, List.getElem_cons_zero, List.getElem_cons_succ, Act.put, List.setIfInBounds_toArray, List.set_cons_zero, List.set_cons_succ])
        (refine plan_make rfl (by rfl) (fun K hK => ?_); go_simp; (refine (refplace_any ts kl ml _ _ _ _ _ _ _ _ _ _ (Lib.hid rfl) (Lib.hid rfl) (Lib.hid rfl) (HT.out.keep (below_step HB.out hBase)) (HOK.out.keep (below_step HB.out hBase)) (hkl.keep (below_step HB.out hBase)) (hml.keep (below_step HB.out hBase)) hp).mono ?_; rintro e w' ⟨rfl, hbx⟩; rw [HPL.out]); refine hK.out _ _ hbx ?_; clear hK K; replace hBase := below_step hBase hbx)
        iterate 1 (refine plan_read rfl (by rfl) (v := ?_) ?_ ?_; rotate_left 1; (intro W hW; have hW0 := below_step hBase hW; (try dsimp only at hW); go_simp <;> with_reducible rfl); simp only [List.getElem_toArray, List.getElem_cons_zero, List.getElem_cons_succ, Act.put, List.setIfInBounds_toArray, List.set_cons_zero, List.set_cons_succ])
        refine plan_done ?_
        go_wp2_with fail
        go_roundw
        case rel => exact HR.out _ hBase
        case measure => simp [intOf]; omega
      · have HF := Lib.hid (HNE.out e)
        have hne : ((q : Int) != (k : Int)) = true := by simp; omega
        clear HEQ HNE hbef hlc hk1 e hB hle
        go_wp2_with fail
        refine wp_region_plan (.step 0 false (.step 1 false (.step 2 false (.step 3 false (.step 4 false (.step 5 false (.step 6 false (.step 7 false (.step 8 false (.step 9 false (.step 10 false (.step 12 false (.step 11 true (.step 13 false (.nil))))))))))))))) (by kernel_rfl) (by kernel_rfl) (by rfl) (by kernel_rfl) ?_
        iterate 12 (refine plan_read rfl (by rfl) (v := ?_) ?_ ?_; rotate_left 1; (intro W hW; have hW0 := below_step hBase hW; (try dsimp only at hW); go_simp <;> with_reducible rfl); simp only [List.getElem_toArray, List.getElem_cons_zero, List.getElem_cons_succ, Act.put, List.setIfInBounds_toArray, List.set_cons_zero, List.set_cons_succ])
        (refine plan_make rfl (by rfl) (fun K hK => ?_); go_simp; (refine (refplace_any ts kl ml _ _ _ _ _ _ _ _ _ _ (Lib.hid rfl) (Lib.hid rfl) (Lib.hid rfl) (HT.out.keep (below_step HB.out hBase)) (HOK.out.keep (below_step HB.out hBase)) (hkl.keep (below_step HB.out hBase)) (hml.keep (below_step HB.out hBase)) hp).mono ?_; rintro e w' ⟨rfl, hbx⟩; rw [HPL.out]); refine hK.out _ _ hbx ?_; clear hK K; replace hBase := below_step hBase hbx)
        iterate 1 (refine plan_read rfl (by rfl) (v := ?_) ?_ ?_; rotate_left 1; (intro W hW; have hW0 := below_step hBase hW; (try dsimp only at hW); go_simp <;> with_reducible rfl); simp only [List.getElem_toArray, List.getElem_cons_zero, List.getElem_cons_succ, Act.put, List.setIfInBounds_toArray, List.set_cons_zero, List.set_cons_succ])
        refine plan_done ?_
        go_wp2_with fail
        go_ret
        exact ⟨by rw [HF.out]; rfl, below_step HB.out hBase⟩
    · have HN : Hid (rightT (conT ts) = true) := (right_iff _).2 (fun i hi => hbef i (by rw [conT_length] at hi; omega) hi)
      have j1 : ¬ (k : Int) < (ts.length : Int) := by omega
      clear hbef hk1
      go_wp2_with fail
      go_ret
      exact ⟨by rw [HN.out]; rfl, hB⟩

/-! ### Same -/
def SaRel (cs ds : List Tm) (w : World) (i : Value) (wr : World) : Prop :=
  ∃ k : Nat, k ≤ cs.length ∧ i = .int .i64 (k : Int) ∧ (∀ j (h : j < k) (h1 : j < cs.length) (h2 : j < ds.length), cs[j] = ds[j]) ∧ Below w.heap.size w wr
theorem str_bne (a b : List UInt8) : ((strL a).toList != (strL b).toList) = !decide (a = b) := by rw [bne, str_beq]

set_option maxHeartbeats 1000000 in
theorem refsame_same (ts us : List TD) (p : Nat) (A B : Option Addr) (c d : Nat) (w : World) (HP : Hid (ts.length = p)) (HQ : Hid (us.length = p)) (ht : RdT w A ts) (hok : okT w ts) (hu : RdT w B us) (hoku : okT w us) (hp : p ≤ 1000000000) :
    Calls Try.prog 15 #[.slice A p c, .slice B p d] w fun e w' => e = .returned (.bool (decide (conT ts = conT us))) ∧ Below w.heap.size w w' := by
  have e1 := HP.out
  subst e1
  have HOK := Lib.hid hok
  have HOU := Lib.hid hoku
  have hlen : us.length = ts.length := HQ.out
  clear hok hoku HP
  go_enter Try.func15, Try.ntmps15
  go_wp2_with fail
  go_loopw [5] (fun i wr => SaRel (conT ts) (conT us) w i wr) (fun i _ => ts.length - (intOf i).toNat)
  case atStart => exact ⟨0, Nat.zero_le _, rfl, fun j h => absurd h (by omega), Below.refl _ _⟩
  case round =>
    obtain ⟨k, hk1, rfl, hbef, hB⟩ := hrel
    by_cases hlt : k < ts.length
    · have hlu : k < us.length := by omega
      obtain ⟨blk, o, rfl, hblk, hcell1⟩ := ht.at hlt
      obtain ⟨blk2, o2, rfl, hblk2, hcell2⟩ := hu.at hlu
      have hx := HOK.out ts[k] (List.getElem_mem hlt)
      have hy := HOU.out us[k] (List.getElem_mem hlu)
      have hg1 := conT_get ts k hlt
      have hg2 := conT_get us k hlu
      have hlc : k < (conT ts).length := by rw [conT_length]; exact hlt
      have hld : k < (conT us).length := by rw [conT_length]; exact hlu
      obtain ⟨h0, h1⟩ := hcell1 k hlt
      obtain ⟨g0, g1⟩ := hcell2 k hlu
      have hc0 : ∀ W, Below wr.heap.size wr W → W.cell? ⟨blk, o + k * 2, none⟩ = some ts[k].at0 := fun W hW => ((below_step hB hW).cell (p := ⟨blk, o + k * 2, none⟩) hblk).trans h0
      have hc1 : ∀ W, Below wr.heap.size wr W → W.cell? ⟨blk, o + k * 2 + 1, none⟩ = some ts[k].at1 := fun W hW => ((below_step hB hW).cell (p := ⟨blk, o + k * 2 + 1, none⟩) hblk).trans h1
      have hd0 : ∀ W, Below wr.heap.size wr W → W.cell? ⟨blk2, o2 + k * 2, none⟩ = some us[k].at0 := fun W hW => ((below_step hB hW).cell (p := ⟨blk2, o2 + k * 2, none⟩) hblk2).trans g0
      have hd1 : ∀ W, Below wr.heap.size wr W → W.cell? ⟨blk2, o2 + k * 2 + 1, none⟩ = some us[k].at1 := fun W hW => ((below_step hB hW).cell (p := ⟨blk2, o2 + k * 2 + 1, none⟩) hblk2).trans g1
      have HNE : Hid (ts[k].c ≠ us[k].c → decide (conT ts = conT us) = false) := fun hn => by
        rw [decide_eq_false_iff_not]
        intro e
        apply hn
        rw [← hg1, ← hg2]
        simp only [e]
      have HEQ : Hid (ts[k].c = us[k].c → ∀ j (h : j < k + 1) (h1 : j < (conT ts).length) (h2 : j < (conT us).length), (conT ts)[j] = (conT us)[j]) := fun he j hj h1 h2 => by
        rcases Nat.lt_or_ge j k with h | h
        · exact hbef j h h1 h2
        · have : j = k := by omega
          subst this
          rw [hg1, hg2]
          exact he
      clear hg1 hg2
      generalize ts[k] = x at hx hc0 hc1 HNE HEQ
      generalize us[k] = y at hy hd0 hd1 HNE HEQ
      obtain ⟨kA, kc, kl, mA, mc, ml⟩ := x
      obtain ⟨rA, rc, kr, sA, sc, mr⟩ := y
      obtain ⟨_, _, hkl, hml⟩ := hx
      obtain ⟨_, _, hkr, hmr⟩ := hy
      unfold TD.at0 TD.at1 at *
      unfold TD.c at HNE HEQ
      dsimp only at hkl hml hkr hmr HNE HEQ hc0 hc1 hd0 hd1
      have hs0 : ∀ W, Below wr.heap.size wr W → (convert 23 9 (.slice kA kl.length kc)).run Try.prog W = .ok (.string (strL kl)) W := run_str_later Try.underlying23 Try.underlying5 Try.underlying9 (hkl.keep hB)
      have hs1 : ∀ W, Below wr.heap.size wr W → (convert 23 9 (.slice rA kr.length rc)).run Try.prog W = .ok (.string (strL kr)) W := run_str_later Try.underlying23 Try.underlying5 Try.underlying9 (hkr.keep hB)
      have hs2 : ∀ W, Below wr.heap.size wr W → (convert 23 9 (.slice mA ml.length mc)).run Try.prog W = .ok (.string (strL ml)) W := run_str_later Try.underlying23 Try.underlying5 Try.underlying9 (hml.keep hB)
      have hs3 : ∀ W, Below wr.heap.size wr W → (convert 23 9 (.slice sA mr.length sc)).run Try.prog W = .ok (.string (strL mr)) W := run_str_later Try.underlying23 Try.underlying5 Try.underlying9 (hmr.keep hB)
      have b0 := str_beq kl kr
      have b1 := str_beq ml mr
      have i0 : (0 : Int) ≤ (k : Int) := by omega
      have i1 : (k : Int) < (ts.length : Int) := by omega
      have hBase : Below wr.heap.size wr wr.drew := (Below.refl _ _).drew
      have HB := Lib.hid hB
      by_cases ek : kl = kr
      · have d0 : decide (kl = kr) = true := by simp [ek]
        rw [d0] at b0
        by_cases em : ml = mr
        · have d1 : decide (ml = mr) = true := by simp [em]
          rw [d1] at b1
          have HR : Hid (SaRel (conT ts) (conT us) w (.int .i64 ((k : Int) + 1)) wr.drew) := ⟨k + 1, hlc, by go_num, HEQ.out (by rw [ek, em]), hB.drew⟩
          generalize strL kl = S0 at b0 hs0
          generalize strL kr = S1 at b0 hs1
          generalize strL ml = S2 at b1 hs2
          generalize strL mr = S3 at b1 hs3
          clear ek em d0 d1
          clear h0 h1 g0 g1 hcell1 hcell2 hkl hml hkr hmr hbef ht hu hk1 hB HNE HEQ
          go_wp2_with fail
          refine wp_region_plan (.step 0 false (.step 1 false (.step 2 false (.step 3 false (.step 4 false (.step 5 false (.step 6 false (.step 7 false (.step 8 false (.step 9 false (.step 10 false (.step 11 false (.step 12 false (.step 13 false (.step 14 false (.step 15 false (.step 16 false (.step 17 false (.step 18 false (.step 19 false (.step 20 false (.step 21 false (.step 22 false (.step 23 false (.step 24 false (.step 25 false (.step 26 false (.step 27 false (.nil))))))))))))))))))))))))))))) (by kernel_rfl) (by kernel_rfl) (by rfl) (by kernel_rfl) ?_
          iterate 28 (refine plan_read rfl (by rfl) (v := ?_) ?_ ?_; rotate_left 1; (intro W hW; have hW0 := below_step hBase hW; (try dsimp only at hW); go_simp <;> with_reducible rfl); simp only [List.getElem_toArray, List.getElem_cons_zero, List.getElem_cons_succ, Act.put, List.setIfInBounds_toArray, List.set_cons_zero, List.set_cons_succ])
          refine plan_done ?_
          go_wp2_with fail
          go_roundw
          case rel => exact HR.out
          case measure => simp [intOf]; omega
        · have d1 : decide (ml = mr) = false := by simp [em]
          rw [d1] at b1
          have HF := Lib.hid (HNE.out (fun e => em (Prod.mk.inj e).2))
          generalize strL kl = S0 at b0 hs0
          generalize strL kr = S1 at b0 hs1
          generalize strL ml = S2 at b1 hs2
          generalize strL mr = S3 at b1 hs3
          clear ek em d0 d1
          clear h0 h1 g0 g1 hcell1 hcell2 hkl hml hkr hmr hbef ht hu hk1 hB HNE HEQ
          go_wp2_with fail
          refine wp_region_plan (.step 0 false (.step 1 false (.step 2 false (.step 3 false (.step 4 false (.step 5 false (.step 6 false (.step 7 false (.step 8 false (.step 9 false (.step 10 false (.step 11 false (.step 12 false (.step 13 false (.step 14 false (.step 15 false (.step 16 false (.step 17 false (.step 18 false (.step 19 false (.step 20 false (.step 21 false (.step 22 false (.step 23 false (.step 24 false (.step 25 false (.step 26 false (.step 27 false (.nil))))))))))))))))))))))))))))) (by kernel_rfl) (by kernel_rfl) (by rfl) (by kernel_rfl) ?_
          iterate 28 (refine plan_read rfl (by rfl) (v := ?_) ?_ ?_; rotate_left 1; (intro W hW; have hW0 := below_step hBase hW; (try dsimp only at hW); go_simp <;> with_reducible rfl); simp only [List.getElem_toArray, List.getElem_cons_zero, List.getElem_cons_succ, Act.put, List.setIfInBounds_toArray, List.set_cons_zero, List.set_cons_succ])
          refine plan_done ?_
          go_wp2_with fail
          go_ret
          exact ⟨by rw [HF.out]; rfl, HB.out.drew⟩
      · have d0 : decide (kl = kr) = false := by simp [ek]
        rw [d0] at b0
        have HF := Lib.hid (HNE.out (fun e => ek (Prod.mk.inj e).1))
        generalize strL kl = S0 at b0 hs0
        generalize strL kr = S1 at b0 hs1
        · clear ek d0 b1
          clear h0 h1 g0 g1 hcell1 hcell2 hkl hml hkr hmr hbef ht hu hk1 hB HNE HEQ
          go_wp2_with fail
          refine wp_region_plan (.step 0 false (.step 1 false (.step 2 false (.step 3 false (.step 4 false (.step 5 false (.step 6 false (.step 7 false (.step 8 false (.step 9 false (.step 10 false (.step 11 false (.step 12 false (.step 13 false (.step 14 false (.step 15 false (.step 16 false (.step 17 false (.step 18 false (.step 19 false (.step 20 false (.step 21 false (.step 22 false (.step 23 false (.step 24 false (.step 25 false (.step 26 false (.step 27 false (.nil))))))))))))))))))))))))))))) (by kernel_rfl) (by kernel_rfl) (by rfl) (by kernel_rfl) ?_
          iterate 14 (refine plan_read rfl (by rfl) (v := ?_) ?_ ?_; rotate_left 1; (intro W hW; have hW0 := below_step hBase hW; (try dsimp only at hW); go_simp <;> with_reducible rfl); simp only [List.getElem_toArray, List.getElem_cons_zero, List.getElem_cons_succ, Act.put, List.setIfInBounds_toArray, List.set_cons_zero, List.set_cons_succ])
          iterate 13 (refine plan_skip rfl (by rfl) ?_; simp only [List.getElem_toArray, List.getElem_cons_zero, List.getElem_cons_succ, Act.put, List.setIfInBounds_toArray, List.set_cons_zero, List.set_cons_succ])
          iterate 1 (refine plan_read rfl (by rfl) (v := ?_) ?_ ?_; rotate_left 1; (intro W hW; have hW0 := below_step hBase hW; (try dsimp only at hW); go_simp <;> with_reducible rfl); simp only [List.getElem_toArray, List.getElem_cons_zero, List.getElem_cons_succ, Act.put, List.setIfInBounds_toArray, List.set_cons_zero, List.set_cons_succ])
          refine plan_done ?_
          go_wp2_with fail
          go_ret
          exact ⟨by rw [HF.out]; rfl, HB.out.drew⟩
    · have HN : Hid (decide (conT ts = conT us) = true) := by
        unfold Hid
        rw [decide_eq_true_eq]
        refine List.ext_getElem (by rw [conT_length, conT_length]; omega) (fun i h1 h2 => hbef i (by rw [conT_length] at h1; omega) h1 h2)
      have j1 : ¬ (k : Int) < (ts.length : Int) := by omega
      clear hbef hk1
      go_wp2_with fail
      go_ret
      exact ⟨by rw [HN.out]; rfl, hB⟩
theorem refsame_any (ts us : List TD) (p q : Nat) (A B : Option Addr) (c d : Nat) (w : World) (HP : Hid (ts.length = p)) (HQ : Hid (us.length = q)) (ht : RdT w A ts) (hok : okT w ts) (hu : RdT w B us) (hoku : okT w us) (hp : p ≤ 1000000000) (hq : q ≤ 1000000000) :
    Calls Try.prog 15 #[.slice A p c, .slice B q d] w fun e w' => e = .returned (.bool (decide (conT ts = conT us))) ∧ Below w.heap.size w w' := by
  by_cases h : p = q
  · subst h
    exact refsame_same ts us p A B c d w HP HQ ht hok hu hoku hp
  · have HF : Hid (decide (conT ts = conT us) = false) := by
      unfold Hid
      rw [decide_eq_false_iff_not]
      intro e
      have := congrArg List.length e
      rw [conT_length, conT_length, HP.out, HQ.out] at this
      exact h this
    have hne : ((p : Int) != (q : Int)) = true := by simp; omega
    have hne2 : ¬ (p : Int) = (q : Int) := by omega
    go_enter Try.func15, Try.ntmps15
    go_wp2_with fail
    go_ret
    exact ⟨by rw [HF.out]; rfl, Below.refl _ _⟩

/-! ### Short -/
def shortT (cs : List Tm) : Bool := decide (cs.length ≤ 400 ∧ ∀ x ∈ cs, x.1.length ≤ 3000 ∧ x.2.length ≤ 3000)
def ShRel (cs : List Tm) (w : World) (i : Value) (wr : World) : Prop :=
  ∃ k : Nat, k ≤ cs.length ∧ k ≤ 400 ∧ i = .int .i64 (k : Int) ∧ (∀ j (h : j < k) (h' : j < cs.length), cs[j].1.length ≤ 3000 ∧ cs[j].2.length ≤ 3000) ∧ w = wr

set_option maxHeartbeats 1000000 in
theorem refshort_any (ts : List TD) (p : Nat) (A : Option Addr) (c : Nat) (w : World) (HP : Hid (ts.length = p)) (ht : RdT w A ts) (hml : ∀ x ∈ ts, x.k.length ≤ 9223372036854775807 ∧ x.m.length ≤ 9223372036854775807) (hp : p ≤ 9223372036854775807) :
    Calls Try.prog 6 #[.slice A p c] w fun e w' => e = .returned (.bool (shortT (conT ts))) ∧ w = w' := by
  have e1 := HP.out
  subst e1
  have HML := Lib.hid hml
  clear HP hml
  go_enter Try.func6, Try.ntmps6
  go_wp2_with fail
  go_loopw [3] (fun i wr => ShRel (conT ts) w i wr) (fun i _ => 400 - (intOf i).toNat)
  case atStart => exact ⟨0, Nat.zero_le _, Nat.zero_le _, rfl, fun j h => absurd h (by omega), rfl⟩
  case round =>
    obtain ⟨k, hk1, hk4, rfl, hbef, rfl⟩ := hrel
    by_cases hlt : k < ts.length
    · have i1 : (k : Int) < (ts.length : Int) := by omega
      by_cases h4 : k < 400
      · obtain ⟨blk, o, rfl, hblk, hcell⟩ := ht.at hlt
        have hg := conT_get ts k hlt
        have hlc : k < (conT ts).length := by rw [conT_length]; exact hlt
        obtain ⟨hc0, hc1⟩ := hcell k hlt
        have HNE : Hid (¬ (ts[k].k.length ≤ 3000 ∧ ts[k].m.length ≤ 3000) → shortT (conT ts) = false) := fun hn => by
          unfold shortT
          rw [decide_eq_false_iff_not]
          rintro ⟨_, h⟩
          have := h _ (List.getElem_mem hlc)
          rw [hg] at this
          exact hn this
        have HEQ : Hid (ts[k].k.length ≤ 3000 ∧ ts[k].m.length ≤ 3000 → ∀ j (h : j < k + 1) (h' : j < (conT ts).length), (conT ts)[j].1.length ≤ 3000 ∧ (conT ts)[j].2.length ≤ 3000) := fun he j hj h' => by
          rcases Nat.lt_or_ge j k with h | h
          · exact hbef j h h'
          · have : j = k := by omega
            subst this
            rw [hg]
            exact he
        have hb := HML.out _ (List.getElem_mem hlt)
        clear hg hbef hcell
        generalize ts[k] = x at hb hc0 hc1 HNE HEQ
        obtain ⟨kA, kc, kl, mA, mc, ml⟩ := x
        unfold TD.at0 TD.at1 at *
        dsimp only at hb HNE HEQ hc0 hc1
        obtain ⟨hkb, hmb⟩ := hb
        generalize kl.length = n at *
        generalize ml.length = m at *
        have i0 : (0 : Int) ≤ (k : Int) := by omega
        have i4 : (k : Int) < 400 := by omega
        by_cases hn : n ≤ 3000
        · have n1 : ¬ (3000 : Int) < (n : Int) := by omega
          by_cases hm : m ≤ 3000
          · have n2 : ¬ (3000 : Int) < (m : Int) := by omega
            have HR : Hid (ShRel (conT ts) w (.int .i64 ((k : Int) + 1)) w) := ⟨k + 1, hlc, by omega, by go_num, HEQ.out ⟨hn, hm⟩, rfl⟩
            clear HEQ HNE hk1 hlc
            go_wp2_with fail
            go_roundw
            case rel => exact HR.out
            case measure => simp [intOf]; omega
          · have n2 : (3000 : Int) < (m : Int) := by omega
            have HF := Lib.hid (HNE.out (fun h => hm h.2))
            clear HEQ HNE hk1 hlc
            go_wp2_with fail
            go_ret
            exact ⟨by rw [HF.out]; rfl, rfl⟩
        · have n1 : (3000 : Int) < (n : Int) := by omega
          have HF := Lib.hid (HNE.out (fun h => hn h.1))
          clear HEQ HNE hk1 hlc
          go_wp2_with fail
          go_ret
          exact ⟨by rw [HF.out]; rfl, rfl⟩
      · have i4 : ¬ (k : Int) < 400 := by omega
        have i5 : ¬ (ts.length : Int) ≤ 400 := by omega
        have HF : Hid (shortT (conT ts) = false) := by
          unfold Hid shortT
          rw [decide_eq_false_iff_not]
          rintro ⟨h, _⟩
          rw [conT_length] at h
          omega
        clear hbef hk1
        go_wp2_with fail
        go_ret
        exact ⟨by simp [HF.out], rfl⟩
    · have i1 : ¬ (k : Int) < (ts.length : Int) := by omega
      have i5 : (ts.length : Int) ≤ 400 := by omega
      have HT : Hid (shortT (conT ts) = true) := by
        unfold Hid shortT
        rw [decide_eq_true_eq]
        refine ⟨by rw [conT_length]; omega, fun x hx => ?_⟩
        obtain ⟨i, hi, rfl⟩ := List.getElem_of_mem hx
        exact hbef i (by rw [conT_length] at hi; omega) hi
      clear hbef hk1
      go_wp2_with fail
      go_ret
      exact ⟨by simp [HT.out], rfl⟩
end Go.Proofs.Ytppdfldmbfddnaa
