/-
  What the reference's call Place of layer 5 answers. No conditions but those typed.
-/
import Derived.Test.YtknjpmoimjhddaaGreatDoorQ4
import Derived.Deep.DeepCutAuto
namespace Go.Proofs.YtknjpmoimjhddaaGreatDoor
set_option maxRecDepth 100000
open Go.RowKit
set_option linter.unusedSimpArgs false
set_option linter.unusedVariables false

def PlRel (cs : List Tm) (x : Tm) (w : World) (i : Value) (wr : World) : Prop :=
  ∃ k : Nat, k ≤ cs.length ∧ i = .int .i64 (k : Int) ∧ (∀ j (h : j < k) (h' : j < cs.length), cs[j] ≠ x) ∧ Below w.heap.size w wr
theorem PlRel.next {cs : List Tm} {x : Tm} {k : Nat} (hk : k < cs.length) (h : ∀ j (h : j < k) (h' : j < cs.length), cs[j] ≠ x) (hn : cs[k] ≠ x) : ∀ j (h : j < k + 1) (h' : j < cs.length), cs[j] ≠ x := fun j hj h' => by
  rcases Nat.lt_or_ge j k with h1 | h1
  · exact h j h1 h'
  · have : j = k := by omega
    subst this
    exact hn

set_option maxHeartbeats 1000000 in
theorem refplace_any (ts : List TD) (key msg : List UInt8) (p n m : Nat) (A B C : Option Addr) (c d e : Nat) (w : World) (HP : Hid (ts.length = p)) (HN : Hid (key.length = n)) (HM : Hid (msg.length = m)) (ht : RdT w A ts) (hok : okT w ts) (hk : Rd vB w B key) (hm : Rd vB w C msg) (hp : p ≤ 1000000000) :
    Calls Tryz.prog 107 #[.slice A p c, .slice B n d, .slice C m e] w fun e w' => e = .returned (.int .i64 (plI (conT ts) (key, msg))) ∧ Below w.heap.size w w' := by
  have e1 := HP.out
  have e2 := HN.out
  have e3 := HM.out
  subst e1 e2 e3
  have HOK := Lib.hid hok
  clear hok HP HN HM
  go_enter Tryz.func107, Tryz.ntmps107
  go_wp2_with fail
  go_loopw [7] (fun i wr => PlRel (conT ts) (key, msg) w i wr) (fun i _ => ts.length - (intOf i).toNat)
  case atStart => exact ⟨0, Nat.zero_le _, rfl, fun j h => absurd h (by omega), Below.refl _ _⟩
  case round =>
    obtain ⟨k, hk1, rfl, hbef, hB⟩ := hrel
    by_cases hlt : k < ts.length
    · obtain ⟨blk, o, rfl, hblk, hcell⟩ := ht.at hlt
      have hx := HOK.out ts[k] (List.getElem_mem hlt)
      have hg := conT_get ts k hlt
      have hlc : k < (conT ts).length := by rw [conT_length]; exact hlt
      have HBE : Hid (ts[k].c ≠ (key, msg) → ∀ j (h : j < k + 1) (h' : j < (conT ts).length), (conT ts)[j] ≠ (key, msg)) := fun hn => PlRel.next hlc hbef (by rw [hg]; exact hn)
      have HEQ : Hid (ts[k].c = (key, msg) → plI (conT ts) (key, msg) = (k : Int)) := fun h => by
        have hi := idx_of (key, msg) (conT ts) k (by omega) hbef (.inr ⟨hlc, by rw [hg]; exact h⟩)
        rw [plI_in _ _ ((idx_lt _ _).1 (by omega)), hi]
      obtain ⟨h0, h1⟩ := hcell k hlt
      have hc0 : ∀ W, Below wr.heap.size wr W → W.cell? ⟨blk, o + k * 2, none⟩ = some ts[k].at0 := fun W hW => ((below_step hB hW).cell (p := ⟨blk, o + k * 2, none⟩) hblk).trans h0
      have hc1 : ∀ W, Below wr.heap.size wr W → W.cell? ⟨blk, o + k * 2 + 1, none⟩ = some ts[k].at1 := fun W hW => ((below_step hB hW).cell (p := ⟨blk, o + k * 2 + 1, none⟩) hblk).trans h1
      generalize ts[k] = x at hx HBE HEQ hc0 hc1
      obtain ⟨kA, kc, K, mA, mc, M⟩ := x
      obtain ⟨_, _, hK, hM⟩ := hx
      unfold TD.at0 TD.at1 at *
      unfold TD.c at HBE HEQ
      dsimp only at hK hM HBE HEQ hc0 hc1
      have hs0 : ∀ W, Below wr.heap.size wr W → (convert 27 9 (.slice kA K.length kc)).run Tryz.prog W = .ok (.string (strL K)) W := run_str_later Tryz.underlying27 Tryz.underlying5 Tryz.underlying9 (hK.keep hB)
      have hs1 : ∀ W, Below wr.heap.size wr W → (convert 27 9 (.slice B key.length d)).run Tryz.prog W = .ok (.string (strL key)) W := run_str_later Tryz.underlying27 Tryz.underlying5 Tryz.underlying9 (hk.keep hB)
      have hs2 : ∀ W, Below wr.heap.size wr W → (convert 27 9 (.slice mA M.length mc)).run Tryz.prog W = .ok (.string (strL M)) W := run_str_later Tryz.underlying27 Tryz.underlying5 Tryz.underlying9 (hM.keep hB)
      have hs3 : ∀ W, Below wr.heap.size wr W → (convert 27 9 (.slice C msg.length e)).run Tryz.prog W = .ok (.string (strL msg)) W := run_str_later Tryz.underlying27 Tryz.underlying5 Tryz.underlying9 (hm.keep hB)
      have b0 := str_beq K key
      have b1 := str_beq M msg
      have i0 : (0 : Int) ≤ (k : Int) := by omega
      have i1 : (k : Int) < (ts.length : Int) := by omega
      have hBase : Below wr.heap.size wr wr.drew := (Below.refl _ _).drew
      have HB := Lib.hid hB
      by_cases ek : K = key
      · have d0 : decide (K = key) = true := by simp [ek]
        rw [d0] at b0
        by_cases em : M = msg
        · have d1 : decide (M = msg) = true := by simp [em]
          rw [d1] at b1
          have HQ := Lib.hid (HEQ.out (by rw [ek, em]))
          generalize strL K = SK at b0 hs0
          generalize strL key = Skey at b0 hs1
          generalize strL M = SM at b1 hs2
          generalize strL msg = Smsg at b1 hs3
          clear hcell h0 h1 hK hM HBE HEQ hbef ht hk hm hg hlc hk1 ek em d0 d1 hB
          go_wp2_with fail
          refine wp_region_plan (.step 0 false (.step 1 false (.step 2 false (.step 3 false (.step 4 false (.step 5 false (.step 6 false (.step 7 false (.step 8 false (.step 9 false (.step 10 false (.step 11 false (.step 12 false (.step 13 false (.step 14 false (.step 15 false (.step 16 false (.step 17 false (.step 18 false (.step 19 false (.nil))))))))))))))))))))) (by kernel_rfl) (by kernel_rfl) (by rfl) (by kernel_rfl) ?_
          iterate 20 (refine plan_read rfl (by rfl) (v := ?_) ?_ ?_; rotate_left 1; (intro W hW; have hW0 := below_step hBase hW; (try dsimp only at hW); go_simp <;> with_reducible rfl); simp only [List.getElem_toArray, List.getElem_cons_zero, List.getElem_cons_succ, Act.put, List.setIfInBounds_toArray, List.set_cons_zero, List.set_cons_succ])
          refine plan_done ?_
          go_wp2_with fail
          go_ret
          exact ⟨by rw [HQ.out]; rfl, HB.out.drew⟩
        · have d1 : decide (M = msg) = false := by simp [em]
          rw [d1] at b1
          have HR : Hid (PlRel (conT ts) (key, msg) w (.int .i64 ((k : Int) + 1)) wr.drew) := ⟨k + 1, hlc, by go_num, HBE.out (fun e => em (Prod.mk.inj e).2), hB.drew⟩
          generalize strL K = SK at b0 hs0
          generalize strL key = Skey at b0 hs1
          generalize strL M = SM at b1 hs2
          generalize strL msg = Smsg at b1 hs3
          clear hcell h0 h1 hK hM HBE HEQ hbef ht hk hm hg hlc hk1 ek em d0 d1 hB
          go_wp2_with fail
          refine wp_region_plan (.step 0 false (.step 1 false (.step 2 false (.step 3 false (.step 4 false (.step 5 false (.step 6 false (.step 7 false (.step 8 false (.step 9 false (.step 10 false (.step 11 false (.step 12 false (.step 13 false (.step 14 false (.step 15 false (.step 16 false (.step 17 false (.step 18 false (.step 19 false (.nil))))))))))))))))))))) (by kernel_rfl) (by kernel_rfl) (by rfl) (by kernel_rfl) ?_
          iterate 20 (refine plan_read rfl (by rfl) (v := ?_) ?_ ?_; rotate_left 1; (intro W hW; have hW0 := below_step hBase hW; (try dsimp only at hW); go_simp <;> with_reducible rfl); simp only [List.getElem_toArray, List.getElem_cons_zero, List.getElem_cons_succ, Act.put, List.setIfInBounds_toArray, List.set_cons_zero, List.set_cons_succ])
          refine plan_done ?_
          go_wp2_with fail
          go_roundw
          case rel => exact HR.out
          case measure => simp [intOf]; omega
      · have d0 : decide (K = key) = false := by simp [ek]
        rw [d0] at b0
        have HR : Hid (PlRel (conT ts) (key, msg) w (.int .i64 ((k : Int) + 1)) wr.drew) := ⟨k + 1, hlc, by go_num, HBE.out (fun e => ek (Prod.mk.inj e).1), hB.drew⟩
        generalize strL K = SK at b0 hs0
        generalize strL key = Skey at b0 hs1
        clear hcell h0 h1 hK hM HBE HEQ hbef ht hk hm hg hlc hk1 ek d0 hB b1
        go_wp2_with fail
        refine wp_region_plan (.step 0 false (.step 1 false (.step 2 false (.step 3 false (.step 4 false (.step 5 false (.step 6 false (.step 7 false (.step 8 false (.step 9 false (.step 10 false (.step 11 false (.step 12 false (.step 13 false (.step 14 false (.step 15 false (.step 16 false (.step 17 false (.step 18 false (.step 19 false (.nil))))))))))))))))))))) (by kernel_rfl) (by kernel_rfl) (by rfl) (by kernel_rfl) ?_
        iterate 10 (refine plan_read rfl (by rfl) (v := ?_) ?_ ?_; rotate_left 1; (intro W hW; have hW0 := below_step hBase hW; (try dsimp only at hW); go_simp <;> with_reducible rfl); simp only [List.getElem_toArray, List.getElem_cons_zero, List.getElem_cons_succ, Act.put, List.setIfInBounds_toArray, List.set_cons_zero, List.set_cons_succ])
        iterate 9 (refine plan_skip rfl (by rfl) ?_; simp only [List.getElem_toArray, List.getElem_cons_zero, List.getElem_cons_succ, Act.put, List.setIfInBounds_toArray, List.set_cons_zero, List.set_cons_succ])
        iterate 1 (refine plan_read rfl (by rfl) (v := ?_) ?_ ?_; rotate_left 1; (intro W hW; have hW0 := below_step hBase hW; (try dsimp only at hW); go_simp <;> with_reducible rfl); simp only [List.getElem_toArray, List.getElem_cons_zero, List.getElem_cons_succ, Act.put, List.setIfInBounds_toArray, List.set_cons_zero, List.set_cons_succ])
        refine plan_done ?_
        go_wp2_with fail
        go_roundw
        case rel => exact HR.out
        case measure => simp [intOf]; omega
    · have hn : plI (conT ts) (key, msg) = -1 := by
        refine plI_out _ _ (fun hx => ?_)
        have h1 := (idx_lt _ _).2 hx
        exact hbef _ (by rw [conT_length] at h1; omega) h1 (idx_get _ _ h1)
      have j1 : ¬ (k : Int) < (ts.length : Int) := by omega
      have HN := Lib.hid hn
      clear hn hbef hk1
      go_wp2_with fail
      go_ret
      exact ⟨by rw [HN.out]; rfl, hB⟩

end Go.Proofs.YtknjpmoimjhddaaGreatDoor
/-
  What the reference's calls Right, Same and Short of layer 5 answer. No conditions but those typed.
-/
namespace Go.Proofs.YtknjpmoimjhddaaGreatDoor
set_option maxRecDepth 100000
open Go.RowKit
set_option linter.unusedSimpArgs false
set_option linter.unusedVariables false

/-! ### Right -/
def RiRel (cs : List Tm) (w : World) (i : Value) (wr : World) : Prop :=
  ∃ k : Nat, k ≤ cs.length ∧ i = .int .i64 (k : Int) ∧ (∀ j (h : j < k) (h' : j < cs.length), idx cs[j] cs = j) ∧ Below w.heap.size w wr

set_option maxHeartbeats 1000000 in
theorem refright_any (ts : List TD) (p : Nat) (A : Option Addr) (c : Nat) (w : World) (HP : Hid (ts.length = p)) (ht : RdT w A ts) (hok : okT w ts) (hp : p ≤ 1000000000) :
    Calls Tryz.prog 71 #[.slice A p c] w fun e w' => e = .returned (.bool (rightT (conT ts))) ∧ Below w.heap.size w w' := by
  have e1 := HP.out
  subst e1
  have HOK := Lib.hid hok
  have HT := Lib.hid ht
  clear hok HP
  go_enter Tryz.func71, Tryz.ntmps71
  go_wp2_with fail
  go_loopw [3] (fun i wr => RiRel (conT ts) w i wr) (fun i _ => ts.length - (intOf i).toNat)
  case atStart => exact ⟨0, Nat.zero_le _, rfl, fun j h => absurd h (by omega), Below.refl _ _⟩
  case round =>
    obtain ⟨k, hk1, rfl, hbef, hB⟩ := hrel
    by_cases hlt : k < ts.length
    · obtain ⟨blk, o, rfl, hblk, hcell⟩ := ht.at hlt
      have hx := HOK.out ts[k] (List.getElem_mem hlt)
      have hg := conT_get ts k hlt
      have hlc : k < (conT ts).length := by rw [conT_length]; exact hlt
      have hin : ts[k].c ∈ conT ts := by rw [← hg]; exact List.getElem_mem hlc
      obtain ⟨h0, h1⟩ := hcell k hlt
      have hc0 : ∀ W, Below wr.heap.size wr W → W.cell? ⟨blk, o + k * 2, none⟩ = some ts[k].at0 := fun W hW => ((below_step hB hW).cell (p := ⟨blk, o + k * 2, none⟩) hblk).trans h0
      have hc1 : ∀ W, Below wr.heap.size wr W → W.cell? ⟨blk, o + k * 2 + 1, none⟩ = some ts[k].at1 := fun W hW => ((below_step hB hW).cell (p := ⟨blk, o + k * 2 + 1, none⟩) hblk).trans h1
      have hpl := plI_in _ _ hin
      have HNE : Hid (idx ts[k].c (conT ts) ≠ k → rightT (conT ts) = false) := fun hn => by
        rw [Bool.eq_false_iff]
        intro hr
        have := (right_iff _).1 hr k hlc
        rw [hg] at this
        exact hn this
      have HEQ : Hid (idx ts[k].c (conT ts) = k → ∀ j (h : j < k + 1) (h' : j < (conT ts).length), idx (conT ts)[j] (conT ts) = j) := fun he j hj h' => by
        rcases Nat.lt_or_ge j k with h1 | h1
        · exact hbef j h1 h'
        · have : j = k := by omega
          subst this
          rw [hg]
          exact he
      have hle := idx_le ts[k].c (conT ts)
      rw [conT_length] at hle
      obtain ⟨q, hq⟩ : ∃ q, q = idx ts[k].c (conT ts) := ⟨_, rfl⟩
      rw [← hq] at hpl HNE HEQ hle
      have HPL := Lib.hid hpl
      generalize ts[k] = x at hx hc0 hc1 HPL
      clear hq hpl hin h0 h1 hcell hg
      obtain ⟨kA, kc, kl, mA, mc, ml⟩ := x
      obtain ⟨_, _, hkl, hml⟩ := hx
      unfold TD.at0 TD.at1 at *
      unfold TD.c at HPL
      dsimp only at hkl hml HPL hc0 hc1
      have i0 : (0 : Int) ≤ (k : Int) := by omega
      have i1 : (k : Int) < (ts.length : Int) := by omega
      have hBase : Below wr.heap.size wr wr.drew := (Below.refl _ _).drew
      have HB := Lib.hid hB
      by_cases e : q = k
      · have HR : Hid (∀ W, Below wr.heap.size wr W → RiRel (conT ts) w (.int .i64 ((k : Int) + 1)) W) := fun W hW => ⟨k + 1, hlc, by go_num, HEQ.out e, below_step HB.out hW⟩
        have hne : ((q : Int) != (k : Int)) = false := by simp; omega
        clear HEQ HNE hbef hlc hk1 e hB hle
        go_wp2_with fail
        refine wp_region_plan (.step 0 false (.step 1 false (.step 2 false (.step 3 false (.step 4 false (.step 5 false (.step 6 false (.step 7 false (.step 8 false (.step 9 false (.step 10 false (.step 12 false (.step 11 true (.step 13 false (.nil))))))))))))))) (by kernel_rfl) (by kernel_rfl) (by rfl) (by kernel_rfl) ?_
        iterate 12 (refine plan_read rfl (by rfl) (v := ?_) ?_ ?_; rotate_left 1; (intro W hW; have hW0 := below_step hBase hW; (try dsimp only at hW); go_simp <;> with_reducible rfl); simp only [List.getElem_toArray, List.getElem_cons_zero, List.getElem_cons_succ, Act.put, List.setIfInBounds_toArray, List.set_cons_zero, List.set_cons_succ])
        (refine plan_make rfl (by rfl) (fun K hK => ?_); go_simp; (refine (refplace_any ts kl ml _ _ _ _ _ _ _ _ _ _ (Lib.hid rfl) (Lib.hid rfl) (Lib.hid rfl) (HT.out.keep (below_step HB.out hBase)) (HOK.out.keep (below_step HB.out hBase)) (hkl.keep (below_step HB.out hBase)) (hml.keep (below_step HB.out hBase)) hp).mono ?_; rintro e w' ⟨rfl, hbx⟩; rw [HPL.out]); refine hK.out _ _ hbx ?_; clear hK K; replace hBase := below_step hBase hbx)
        iterate 1 (refine plan_read rfl (by rfl) (v := ?_) ?_ ?_; rotate_left 1; (intro W hW; have hW0 := below_step hBase hW; (try dsimp only at hW); go_simp <;> with_reducible rfl); simp only [List.getElem_toArray, List.getElem_cons_zero, List.getElem_cons_succ, Act.put, List.setIfInBounds_toArray, List.set_cons_zero, List.set_cons_succ])
        refine plan_done ?_
        go_wp2_with fail
        go_roundw
        case rel => exact HR.out _ hBase
        case measure => simp [intOf]; omega
      · have HF := Lib.hid (HNE.out e)
        have hne : ((q : Int) != (k : Int)) = true := by simp; omega
        clear HEQ HNE hbef hlc hk1 e hB hle
        go_wp2_with fail
        refine wp_region_plan (.step 0 false (.step 1 false (.step 2 false (.step 3 false (.step 4 false (.step 5 false (.step 6 false (.step 7 false (.step 8 false (.step 9 false (.step 10 false (.step 12 false (.step 11 true (.step 13 false (.nil))))))))))))))) (by kernel_rfl) (by kernel_rfl) (by rfl) (by kernel_rfl) ?_
        iterate 12 (refine plan_read rfl (by rfl) (v := ?_) ?_ ?_; rotate_left 1; (intro W hW; have hW0 := below_step hBase hW; (try dsimp only at hW); go_simp <;> with_reducible rfl); simp only [List.getElem_toArray, List.getElem_cons_zero, List.getElem_cons_succ, Act.put, List.setIfInBounds_toArray, List.set_cons_zero, List.set_cons_succ])
        (refine plan_make rfl (by rfl) (fun K hK => ?_); go_simp; (refine (refplace_any ts kl ml _ _ _ _ _ _ _ _ _ _ (Lib.hid rfl) (Lib.hid rfl) (Lib.hid rfl) (HT.out.keep (below_step HB.out hBase)) (HOK.out.keep (below_step HB.out hBase)) (hkl.keep (below_step HB.out hBase)) (hml.keep (below_step HB.out hBase)) hp).mono ?_; rintro e w' ⟨rfl, hbx⟩; rw [HPL.out]); refine hK.out _ _ hbx ?_; clear hK K; replace hBase := below_step hBase hbx)
        iterate 1 (refine plan_read rfl (by rfl) (v := ?_) ?_ ?_; rotate_left 1; (intro W hW; have hW0 := below_step hBase hW; (try dsimp only at hW); go_simp <;> with_reducible rfl); simp only [List.getElem_toArray, List.getElem_cons_zero, List.getElem_cons_succ, Act.put, List.setIfInBounds_toArray, List.set_cons_zero, List.set_cons_succ])
        refine plan_done ?_
        go_wp2_with fail
        go_ret
        exact ⟨by rw [HF.out]; rfl, below_step HB.out hBase⟩
    · have HN : Hid (rightT (conT ts) = true) := (right_iff _).2 (fun i hi => hbef i (by rw [conT_length] at hi; omega) hi)
      have j1 : ¬ (k : Int) < (ts.length : Int) := by omega
      clear hbef hk1
      go_wp2_with fail
      go_ret
      exact ⟨by rw [HN.out]; rfl, hB⟩

/-! ### Same -/
def SaRel (cs ds : List Tm) (w : World) (i : Value) (wr : World) : Prop :=
  ∃ k : Nat, k ≤ cs.length ∧ i = .int .i64 (k : Int) ∧ (∀ j (h : j < k) (h1 : j < cs.length) (h2 : j < ds.length), cs[j] = ds[j]) ∧ Below w.heap.size w wr
theorem str_bne (a b : List UInt8) : ((strL a).toList != (strL b).toList) = !decide (a = b) := by rw [bne, str_beq]

set_option maxHeartbeats 1000000 in
theorem refsame_same (ts us : List TD) (p : Nat) (A B : Option Addr) (c d : Nat) (w : World) (HP : Hid (ts.length = p)) (HQ : Hid (us.length = p)) (ht : RdT w A ts) (hok : okT w ts) (hu : RdT w B us) (hoku : okT w us) (hp : p ≤ 1000000000) :
    Calls Tryz.prog 73 #[.slice A p c, .slice B p d] w fun e w' => e = .returned (.bool (decide (conT ts = conT us))) ∧ Below w.heap.size w w' := by
  have e1 := HP.out
  subst e1
  have HOK := Lib.hid hok
  have HOU := Lib.hid hoku
  have hlen : us.length = ts.length := HQ.out
  clear hok hoku HP
  go_enter Tryz.func73, Tryz.ntmps73
  go_wp2_with fail
  go_loopw [5] (fun i wr => SaRel (conT ts) (conT us) w i wr) (fun i _ => ts.length - (intOf i).toNat)
  case atStart => exact ⟨0, Nat.zero_le _, rfl, fun j h => absurd h (by omega), Below.refl _ _⟩
  case round =>
    obtain ⟨k, hk1, rfl, hbef, hB⟩ := hrel
    by_cases hlt : k < ts.length
    · have hlu : k < us.length := by omega
      obtain ⟨blk, o, rfl, hblk, hcell1⟩ := ht.at hlt
      obtain ⟨blk2, o2, rfl, hblk2, hcell2⟩ := hu.at hlu
      have hx := HOK.out ts[k] (List.getElem_mem hlt)
      have hy := HOU.out us[k] (List.getElem_mem hlu)
      have hg1 := conT_get ts k hlt
      have hg2 := conT_get us k hlu
      have hlc : k < (conT ts).length := by rw [conT_length]; exact hlt
      have hld : k < (conT us).length := by rw [conT_length]; exact hlu
      obtain ⟨h0, h1⟩ := hcell1 k hlt
      obtain ⟨g0, g1⟩ := hcell2 k hlu
      have hc0 : ∀ W, Below wr.heap.size wr W → W.cell? ⟨blk, o + k * 2, none⟩ = some ts[k].at0 := fun W hW => ((below_step hB hW).cell (p := ⟨blk, o + k * 2, none⟩) hblk).trans h0
      have hc1 : ∀ W, Below wr.heap.size wr W → W.cell? ⟨blk, o + k * 2 + 1, none⟩ = some ts[k].at1 := fun W hW => ((below_step hB hW).cell (p := ⟨blk, o + k * 2 + 1, none⟩) hblk).trans h1
      have hd0 : ∀ W, Below wr.heap.size wr W → W.cell? ⟨blk2, o2 + k * 2, none⟩ = some us[k].at0 := fun W hW => ((below_step hB hW).cell (p := ⟨blk2, o2 + k * 2, none⟩) hblk2).trans g0
      have hd1 : ∀ W, Below wr.heap.size wr W → W.cell? ⟨blk2, o2 + k * 2 + 1, none⟩ = some us[k].at1 := fun W hW => ((below_step hB hW).cell (p := ⟨blk2, o2 + k * 2 + 1, none⟩) hblk2).trans g1
      have HNE : Hid (ts[k].c ≠ us[k].c → decide (conT ts = conT us) = false) := fun hn => by
        rw [decide_eq_false_iff_not]
        intro e
        apply hn
        rw [← hg1, ← hg2]
        simp only [e]
      have HEQ : Hid (ts[k].c = us[k].c → ∀ j (h : j < k + 1) (h1 : j < (conT ts).length) (h2 : j < (conT us).length), (conT ts)[j] = (conT us)[j]) := fun he j hj h1 h2 => by
        rcases Nat.lt_or_ge j k with h | h
        · exact hbef j h h1 h2
        · have : j = k := by omega
          subst this
          rw [hg1, hg2]
          exact he
      clear hg1 hg2
      generalize ts[k] = x at hx hc0 hc1 HNE HEQ
      generalize us[k] = y at hy hd0 hd1 HNE HEQ
      obtain ⟨kA, kc, kl, mA, mc, ml⟩ := x
      obtain ⟨rA, rc, kr, sA, sc, mr⟩ := y
      obtain ⟨_, _, hkl, hml⟩ := hx
      obtain ⟨_, _, hkr, hmr⟩ := hy
      unfold TD.at0 TD.at1 at *
      unfold TD.c at HNE HEQ
      dsimp only at hkl hml hkr hmr HNE HEQ hc0 hc1 hd0 hd1
      have hs0 : ∀ W, Below wr.heap.size wr W → (convert 27 9 (.slice kA kl.length kc)).run Tryz.prog W = .ok (.string (strL kl)) W := run_str_later Tryz.underlying27 Tryz.underlying5 Tryz.underlying9 (hkl.keep hB)
      have hs1 : ∀ W, Below wr.heap.size wr W → (convert 27 9 (.slice rA kr.length rc)).run Tryz.prog W = .ok (.string (strL kr)) W := run_str_later Tryz.underlying27 Tryz.underlying5 Tryz.underlying9 (hkr.keep hB)
      have hs2 : ∀ W, Below wr.heap.size wr W → (convert 27 9 (.slice mA ml.length mc)).run Tryz.prog W = .ok (.string (strL ml)) W := run_str_later Tryz.underlying27 Tryz.underlying5 Tryz.underlying9 (hml.keep hB)
      have hs3 : ∀ W, Below wr.heap.size wr W → (convert 27 9 (.slice sA mr.length sc)).run Tryz.prog W = .ok (.string (strL mr)) W := run_str_later Tryz.underlying27 Tryz.underlying5 Tryz.underlying9 (hmr.keep hB)
      have b0 := str_beq kl kr
      have b1 := str_beq ml mr
      have i0 : (0 : Int) ≤ (k : Int) := by omega
      have i1 : (k : Int) < (ts.length : Int) := by omega
      have hBase : Below wr.heap.size wr wr.drew := (Below.refl _ _).drew
      have HB := Lib.hid hB
      by_cases ek : kl = kr
      · have d0 : decide (kl = kr) = true := by simp [ek]
        rw [d0] at b0
        by_cases em : ml = mr
        · have d1 : decide (ml = mr) = true := by simp [em]
          rw [d1] at b1
          have HR : Hid (SaRel (conT ts) (conT us) w (.int .i64 ((k : Int) + 1)) wr.drew) := ⟨k + 1, hlc, by go_num, HEQ.out (by rw [ek, em]), hB.drew⟩
          generalize strL kl = S0 at b0 hs0
          generalize strL kr = S1 at b0 hs1
          generalize strL ml = S2 at b1 hs2
          generalize strL mr = S3 at b1 hs3
          clear ek em d0 d1
          clear h0 h1 g0 g1 hcell1 hcell2 hkl hml hkr hmr hbef ht hu hk1 hB HNE HEQ
          go_wp2_with fail
          refine wp_region_plan (.step 0 false (.step 1 false (.step 2 false (.step 3 false (.step 4 false (.step 5 false (.step 6 false (.step 7 false (.step 8 false (.step 9 false (.step 10 false (.step 11 false (.step 12 false (.step 13 false (.step 14 false (.step 15 false (.step 16 false (.step 17 false (.step 18 false (.step 19 false (.step 20 false (.step 21 false (.step 22 false (.step 23 false (.step 24 false (.step 25 false (.step 26 false (.step 27 false (.nil))))))))))))))))))))))))))))) (by kernel_rfl) (by kernel_rfl) (by rfl) (by kernel_rfl) ?_
          iterate 28 (refine plan_read rfl (by rfl) (v := ?_) ?_ ?_; rotate_left 1; (intro W hW; have hW0 := below_step hBase hW; (try dsimp only at hW); go_simp <;> with_reducible rfl); simp only [List.getElem_toArray, List.getElem_cons_zero, List.getElem_cons_succ, Act.put, List.setIfInBounds_toArray, List.set_cons_zero, List.set_cons_succ])
          refine plan_done ?_
          go_wp2_with fail
          go_roundw
          case rel => exact HR.out
          case measure => simp [intOf]; omega
        · have d1 : decide (ml = mr) = false := by simp [em]
          rw [d1] at b1
          have HF := Lib.hid (HNE.out (fun e => em (Prod.mk.inj e).2))
          generalize strL kl = S0 at b0 hs0
          generalize strL kr = S1 at b0 hs1
          generalize strL ml = S2 at b1 hs2
          generalize strL mr = S3 at b1 hs3
          clear ek em d0 d1
          clear h0 h1 g0 g1 hcell1 hcell2 hkl hml hkr hmr hbef ht hu hk1 hB HNE HEQ
          go_wp2_with fail
          refine wp_region_plan (.step 0 false (.step 1 false (.step 2 false (.step 3 false (.step 4 false (.step 5 false (.step 6 false (.step 7 false (.step 8 false (.step 9 false (.step 10 false (.step 11 false (.step 12 false (.step 13 false (.step 14 false (.step 15 false (.step 16 false (.step 17 false (.step 18 false (.step 19 false (.step 20 false (.step 21 false (.step 22 false (.step 23 false (.step 24 false (.step 25 false (.step 26 false (.step 27 false (.nil))))))))))))))))))))))))))))) (by kernel_rfl) (by kernel_rfl) (by rfl) (by kernel_rfl) ?_
          iterate 28 (refine plan_read rfl (by rfl) (v := ?_) ?_ ?_; rotate_left 1; (intro W hW; have hW0 := below_step hBase hW; (try dsimp only at hW); go_simp <;> with_reducible rfl); simp only [List.getElem_toArray, List.getElem_cons_zero, List.getElem_cons_succ, Act.put, List.setIfInBounds_toArray, List.set_cons_zero, List.set_cons_succ])
          refine plan_done ?_
          go_wp2_with fail
          go_ret
          exact ⟨by rw [HF.out]; rfl, HB.out.drew⟩
      · have d0 : decide (kl = kr) = false := by simp [ek]
        rw [d0] at b0
        have HF := Lib.hid (HNE.out (fun e => ek (Prod.mk.inj e).1))
        generalize strL kl = S0 at b0 hs0
        generalize strL kr = S1 at b0 hs1
        · clear ek d0 b1
          clear h0 h1 g0 g1 hcell1 hcell2 hkl hml hkr hmr hbef ht hu hk1 hB HNE HEQ
          go_wp2_with fail
          refine wp_region_plan (.step 0 false (.step 1 false (.step 2 false (.step 3 false (.step 4 false (.step 5 false (.step 6 false (.step 7 false (.step 8 false (.step 9 false (.step 10 false (.step 11 false (.step 12 false (.step 13 false (.step 14 false (.step 15 false (.step 16 false (.step 17 false (.step 18 false (.step 19 false (.step 20 false (.step 21 false (.step 22 false (.step 23 false (.step 24 false (.step 25 false (.step 26 false (.step 27 false (.nil))))))))))))))))))))))))))))) (by kernel_rfl) (by kernel_rfl) (by rfl) (by kernel_rfl) ?_
          iterate 14 (refine plan_read rfl (by rfl) (v := ?_) ?_ ?_; rotate_left 1; (intro W hW; have hW0 := below_step hBase hW; (try dsimp only at hW); go_simp <;> with_reducible rfl); simp only [List.getElem_toArray, List.getElem_cons_zero, List.getElem_cons_succ, Act.put, List.setIfInBounds_toArray, List.set_cons_zero, List.set_cons_succ])
          iterate 13 (refine plan_skip rfl (by rfl) ?_; simp only [List.getElem_toArray, List.getElem_cons_zero, List.getElem_cons_succ, Act.put, List.setIfInBounds_toArray, List.set_cons_zero, List.set_cons_succ])
          iterate 1 (refine plan_read rfl (by rfl) (v := ?_) ?_ ?_; rotate_left 1; (intro W hW; have hW0 := below_step hBase hW; (try dsimp only at hW); go_simp <;> with_reducible rfl); simp only [List.getElem_toArray, List.getElem_cons_zero, List.getElem_cons_succ, Act.put, List.setIfInBounds_toArray, List.set_cons_zero, List.set_cons_succ])
          refine plan_done ?_
          go_wp2_with fail
          go_ret
          exact ⟨by rw [HF.out]; rfl, HB.out.drew⟩
    · have HN : Hid (decide (conT ts = conT us) = true) := by
        unfold Hid
        rw [decide_eq_true_eq]
        refine List.ext_getElem (by rw [conT_length, conT_length]; omega) (fun i h1 h2 => hbef i (by rw [conT_length] at h1; omega) h1 h2)
      have j1 : ¬ (k : Int) < (ts.length : Int) := by omega
      clear hbef hk1
      go_wp2_with fail
      go_ret
      exact ⟨by rw [HN.out]; rfl, hB⟩
theorem refsame_any (ts us : List TD) (p q : Nat) (A B : Option Addr) (c d : Nat) (w : World) (HP : Hid (ts.length = p)) (HQ : Hid (us.length = q)) (ht : RdT w A ts) (hok : okT w ts) (hu : RdT w B us) (hoku : okT w us) (hp : p ≤ 1000000000) (hq : q ≤ 1000000000) :
    Calls Tryz.prog 73 #[.slice A p c, .slice B q d] w fun e w' => e = .returned (.bool (decide (conT ts = conT us))) ∧ Below w.heap.size w w' := by
  by_cases h : p = q
  · subst h
    exact refsame_same ts us p A B c d w HP HQ ht hok hu hoku hp
  · have HF : Hid (decide (conT ts = conT us) = false) := by
      unfold Hid
      rw [decide_eq_false_iff_not]
      intro e
      have := congrArg List.length e
      rw [conT_length, conT_length, HP.out, HQ.out] at this
      exact h this
    have hne : ((p : Int) != (q : Int)) = true := by simp; omega
    have hne2 : ¬ (p : Int) = (q : Int) := by omega
    go_enter Tryz.func73, Tryz.ntmps73
    go_wp2_with fail
    go_ret
    exact ⟨by rw [HF.out]; rfl, Below.refl _ _⟩

/-! ### Short -/
def shortT (cs : List Tm) : Bool := decide (cs.length ≤ 400 ∧ ∀ x ∈ cs, x.1.length ≤ 3000 ∧ x.2.length ≤ 3000)
def ShRel (cs : List Tm) (w : World) (i : Value) (wr : World) : Prop :=
  ∃ k : Nat, k ≤ cs.length ∧ k ≤ 400 ∧ i = .int .i64 (k : Int) ∧ (∀ j (h : j < k) (h' : j < cs.length), cs[j].1.length ≤ 3000 ∧ cs[j].2.length ≤ 3000) ∧ w = wr

set_option maxHeartbeats 1000000 in
theorem refshort_any (ts : List TD) (p : Nat) (A : Option Addr) (c : Nat) (w : World) (HP : Hid (ts.length = p)) (ht : RdT w A ts) (hml : ∀ x ∈ ts, x.k.length ≤ 9223372036854775807 ∧ x.m.length ≤ 9223372036854775807) (hp : p ≤ 9223372036854775807) :
    Calls Tryz.prog 66 #[.slice A p c] w fun e w' => e = .returned (.bool (shortT (conT ts))) ∧ w = w' := by
  have e1 := HP.out
  subst e1
  have HML := Lib.hid hml
  clear HP hml
  go_enter Tryz.func66, Tryz.ntmps66
  go_wp2_with fail
  go_loopw [3] (fun i wr => ShRel (conT ts) w i wr) (fun i _ => 400 - (intOf i).toNat)
  case atStart => exact ⟨0, Nat.zero_le _, Nat.zero_le _, rfl, fun j h => absurd h (by omega), rfl⟩
  case round =>
    obtain ⟨k, hk1, hk4, rfl, hbef, rfl⟩ := hrel
    by_cases hlt : k < ts.length
    · have i1 : (k : Int) < (ts.length : Int) := by omega
      by_cases h4 : k < 400
      · obtain ⟨blk, o, rfl, hblk, hcell⟩ := ht.at hlt
        have hg := conT_get ts k hlt
        have hlc : k < (conT ts).length := by rw [conT_length]; exact hlt
        obtain ⟨hc0, hc1⟩ := hcell k hlt
        have HNE : Hid (¬ (ts[k].k.length ≤ 3000 ∧ ts[k].m.length ≤ 3000) → shortT (conT ts) = false) := fun hn => by
          unfold shortT
          rw [decide_eq_false_iff_not]
          rintro ⟨_, h⟩
          have := h _ (List.getElem_mem hlc)
          rw [hg] at this
          exact hn this
        have HEQ : Hid (ts[k].k.length ≤ 3000 ∧ ts[k].m.length ≤ 3000 → ∀ j (h : j < k + 1) (h' : j < (conT ts).length), (conT ts)[j].1.length ≤ 3000 ∧ (conT ts)[j].2.length ≤ 3000) := fun he j hj h' => by
          rcases Nat.lt_or_ge j k with h | h
          · exact hbef j h h'
          · have : j = k := by omega
            subst this
            rw [hg]
            exact he
        have hb := HML.out _ (List.getElem_mem hlt)
        clear hg hbef hcell
        generalize ts[k] = x at hb hc0 hc1 HNE HEQ
        obtain ⟨kA, kc, kl, mA, mc, ml⟩ := x
        unfold TD.at0 TD.at1 at *
        dsimp only at hb HNE HEQ hc0 hc1
        obtain ⟨hkb, hmb⟩ := hb
        generalize kl.length = n at *
        generalize ml.length = m at *
        have i0 : (0 : Int) ≤ (k : Int) := by omega
        have i4 : (k : Int) < 400 := by omega
        by_cases hn : n ≤ 3000
        · have n1 : ¬ (3000 : Int) < (n : Int) := by omega
          by_cases hm : m ≤ 3000
          · have n2 : ¬ (3000 : Int) < (m : Int) := by omega
            have HR : Hid (ShRel (conT ts) w (.int .i64 ((k : Int) + 1)) w) := ⟨k + 1, hlc, by omega, by go_num, HEQ.out ⟨hn, hm⟩, rfl⟩
            clear HEQ HNE hk1 hlc
            go_wp2_with fail
            go_roundw
            case rel => exact HR.out
            case measure => simp [intOf]; omega
          · have n2 : (3000 : Int) < (m : Int) := by omega
            have HF := Lib.hid (HNE.out (fun h => hm h.2))
            clear HEQ HNE hk1 hlc
            go_wp2_with fail
            go_ret
            exact ⟨by rw [HF.out]; rfl, rfl⟩
        · have n1 : (3000 : Int) < (n : Int) := by omega
          have HF := Lib.hid (HNE.out (fun h => hn h.1))
          clear HEQ HNE hk1 hlc
          go_wp2_with fail
          go_ret
          exact ⟨by rw [HF.out]; rfl, rfl⟩
      · have i4 : ¬ (k : Int) < 400 := by omega
        have i5 : ¬ (ts.length : Int) ≤ 400 := by omega
        have HF : Hid (shortT (conT ts) = false) := by
          unfold Hid shortT
          rw [decide_eq_false_iff_not]
          rintro ⟨h, _⟩
          rw [conT_length] at h
          omega
        clear hbef hk1
        go_wp2_with fail
        go_ret
        exact ⟨by simp [HF.out], rfl⟩
    · have i1 : ¬ (k : Int) < (ts.length : Int) := by omega
      have i5 : (ts.length : Int) ≤ 400 := by omega
      have HT : Hid (shortT (conT ts) = true) := by
        unfold Hid shortT
        rw [decide_eq_true_eq]
        refine ⟨by rw [conT_length]; omega, fun x hx => ?_⟩
        obtain ⟨i, hi, rfl⟩ := List.getElem_of_mem hx
        exact hbef i (by rw [conT_length] at hi; omega) hi
      clear hbef hk1
      go_wp2_with fail
      go_ret
      exact ⟨by simp [HT.out], rfl⟩
end Go.Proofs.YtknjpmoimjhddaaGreatDoor
/-
  What the reference's calls Put and Of of layer 5 answer. No conditions but those typed.
-/
namespace Go.Proofs.YtknjpmoimjhddaaGreatDoor
set_option maxRecDepth 100000
open Go.RowKit
set_option linter.unusedSimpArgs false
set_option linter.unusedVariables false

theorem Rd.newsB {α : Type} {f : α → Value} {w : World} {A : Option Addr} {l : List α} (h : Rd f w A l) : l.map f ≠ [] → ∃ b o, A = some ⟨b, o, none⟩ ∧ ∀ j u, (l.map f)[j]? = some u → w.cell? ((⟨b, o, none⟩ : Addr).add j) = some u := fun hn => by
  obtain ⟨b, o, e, _⟩ := h (by rintro rfl; exact hn rfl)
  subst e
  exact ⟨b, o, rfl, h.news⟩
theorem ownsRow2_later {w w' : World} {base m : Nat} {e : TypeId} {v : Value} {n : Nat} {xs : List Value} (h : w.ownsRow base e m v n xs) (hb : Below w.heap.size w w') : w'.ownsRow base e m v n xs := by
  refine ⟨h.1, ?_⟩
  rcases h.2 with h0 | ⟨g, cap, cur, hv, hg, hc, r⟩
  · exact .inl h0
  · exact .inr ⟨g, cap, cur, hv, hg, (hb.block g (Array.getElem?_eq_some_iff.1 hc).1).trans hc, r⟩

/-- What Put hands back. -/
def PutRes (ts : List TD) (x : Tm) (w : World) (e : Ending) (w' : World) : Prop :=
  ∃ (us : List TD) (p : Nat) (A : Option Addr) (c : Nat) (tA : Option Addr) (tc : Nat), e = .returned (.tuple #[.slice A p c, .slice tA 8 tc]) ∧ Hid (us.length = p) ∧ p ≤ c ∧ 8 ≤ tc ∧ RdT w' A us ∧ okT w' us ∧ Hid (conT us = putT (conT ts) x) ∧ Rd vB w' tA (tagT (conT ts) x) ∧ Below w.heap.size w w'

theorem refput_at (v : Nat) (l : List UInt8) (hv : v < 18446744073709551616) (HL : Hid (putL v = l)) (w : World) :
    Calls Tryz.prog 50 #[.int .u64 (v : Int)] w fun e w' => ∃ A c, e = .returned (.slice A 8 c) ∧ 8 ≤ c ∧ Rd vB w' A l ∧ Below w.heap.size w w' := by
  refine (refput_any v hv w).mono ?_
  rintro e w' ⟨A, c, rfl, hc, hr, hb⟩
  rw [HL.out] at hr
  exact ⟨A, c, rfl, hc, hr, hb⟩

set_option maxRecDepth 100000 in
set_option maxHeartbeats 1000000 in
theorem refputT_any (ts : List TD) (key msg : List UInt8) (p n m : Nat) (A B C : Option Addr) (c d e : Nat) (w : World) (HP : Hid (ts.length = p)) (HN : Hid (key.length = n)) (HM : Hid (msg.length = m)) (ht : RdT w A ts) (hok : okT w ts) (hk : Rd vB w B key) (hm : Rd vB w C msg) (hp : p ≤ 1000000000) (hc : p ≤ c) (hn : n ≤ 1000000000) (hmm : m ≤ 1000000000) :
    Calls Tryz.prog 109 #[.slice A p c, .slice B n d, .slice C m e] w (PutRes ts (key, msg) w) := by
  have HOK := Lib.hid hok
  clear hok
  by_cases hin : (key, msg) ∈ conT ts
  · have hlt := (idx_lt _ _).2 hin
    rw [conT_length, HP.out] at hlt
    have hpl := plI_in _ _ hin
    have HC : Hid (conT ts = putT (conT ts) (key, msg)) := (putT_twice _ _ hin).symm
    obtain ⟨tg, htg⟩ : ∃ tg, tg = tagT (conT ts) (key, msg) := ⟨_, rfl⟩
    have HT : Hid (putL (idx (key, msg) (conT ts) + 1) = tg) := htg.symm
    have HTG := Lib.hid htg
    clear htg
    generalize idx (key, msg) (conT ts) = q at hlt hpl HT
    have HPL := Lib.hid hpl
    have hge : (0 : Int) ≤ (q : Int) := by omega
    have hqw : IntKind.u64.wrap ((q : Int) + 1) = ((q + 1 : Nat) : Int) := by rw [IntKind.wrap_u64]; omega
    clear hpl hin
    go_enter Tryz.func109, Tryz.ntmps109
    go_wp2_with fail
    refine (refplace_any ts key msg p n m A B C c d e _ HP HN HM ht HOK.out hk hm hp).mono ?_
    rintro e' w1 ⟨rfl, hb1⟩
    rw [HPL.out]
    go_wp2_with fail
    refine (refput_at (q + 1) tg (by omega) HT _).mono ?_
    rintro e' w2 ⟨tA, tc, rfl, htc, htr, hb2⟩
    go_wp2_with fail
    go_ret2
    have hB := below_step hb1 hb2
    exact ⟨ts, p, A, c, tA, tc, rfl, HP, hc, htc, ht.keep hB, HOK.out.keep hB, HC, by rw [← HTG.out]; exact htr, hB⟩
  · obtain ⟨i0, hi, hz0, hz1, hz2⟩ := info_parts info_u8
    obtain ⟨j0, hj, gz0, gz1, gz2⟩ := info_parts info_term
    have HPL := Lib.hid (plI_out _ _ hin)
    have HC : Hid (conT ts ++ [(key, msg)] = putT (conT ts) (key, msg)) := (if_neg hin).symm
    have HT : Hid (putL (p + 1) = tagT (conT ts) (key, msg)) := by unfold Hid tagT; rw [idx_none _ _ hin, conT_length, HP.out]
    clear hin
    go_enter Tryz.func109, Tryz.ntmps109
    go_wp2_with fail
    refine (refplace_any ts key msg p n m A B C c d e _ HP HN HM ht HOK.out hk hm hp).mono ?_
    rintro e' w1 ⟨rfl, hb1⟩
    rw [HPL.out]
    have hown0 : (w1.alloc (.cells #[] 164)).ownsRow w.heap.size 164 2 (.slice (some ⟨w1.heap.size, 0, none⟩) 0 0) 0 [] := World.ownsRow_made w1 #[] 0 hb1.size (by unfold maxLen; omega) rfl
    have hB1 := below_new hb1 (.cells #[] 164)
    go_upto_region 5 with (at_builtin; refine wpList_append_gen _ rfl (.tmp 21) (.tmp 22) 46 rfl w.heap.size 164 j0 (.agg #[.slice none 0 0, .slice none 0 0]) 2 48 Tryz.underlying46 hj gz0 gz1 gz2 rfl (by decide) _ _ _ rfl hown0 A p c (cellsT ts) rfl (by rw [cellsT_length, HP.out]) (ht.keep hB1).news (cellsT_one ts) (by unfold maxLen; omega) (by omega) hB1.size ?_; intro v2 w2 hown2 hgrow2)
    rw [Nat.zero_add, List.nil_append] at hown2
    have hB2 : Below w.heap.size w w2 := hB1.grown hgrow2 (by have := hb1.size; simp; omega) (fun k hk => (hown0.lt k hk).1)
    clear hown0 hgrow2 hB1
    have hlt2 : ∀ k, v2.ownBlock = some k → k < w2.heap.size := fun k hk => (hown2.lt k hk).2
    have hn0 : (w2.alloc (.cells #[] 5)).ownsRow w2.heap.size 5 1 (.slice (some ⟨w2.heap.size, 0, none⟩) 0 0) 0 [] := World.ownsRow_made w2 #[] 0 (Nat.le_refl _) (by unfold maxLen; omega) rfl
    have hN0 := below_new (Below.refl _ w2) (.cells #[] 5)
    have hk2 : Rd vB (w2.alloc (.cells #[] 5)) B key := hk.keep (below_step hB2 hN0)
    go_upto_region 6 with (first
      | (at_builtin; refine wpList_append_gen _ rfl (.tmp 25) (.tmp 26) 27 rfl w2.heap.size 5 i0 (.int .u8 0) 1 1 Tryz.underlying27 hi hz0 hz1 hz2 rfl (by decide) _ _ _ rfl hn0 B n d (key.map vB) rfl (by rw [List.length_map, HN.out, Nat.mul_one]) hk2.newsB (map_one vB_one key) (by unfold maxLen; omega) (by omega) (by simp) ?_; intro v3 w3 hown3 hgrow3
         rw [Nat.zero_add, List.nil_append] at hown3
         have hS3 : Below w2.heap.size w2 w3 := hN0.grown hgrow3 (by simp) (fun k hk => (hn0.lt k hk).1)
         clear hn0 hN0 hk2 hgrow3
         have hn3 : (w3.alloc (.cells #[] 5)).ownsRow w3.heap.size 5 1 (.slice (some ⟨w3.heap.size, 0, none⟩) 0 0) 0 [] := World.ownsRow_made w3 #[] 0 (Nat.le_refl _) (by unfold maxLen; omega) rfl
         have hN3 := below_new (Below.refl _ w3) (.cells #[] 5)
         have hm3 : Rd vB (w3.alloc (.cells #[] 5)) C msg := hm.keep (below_step (below_step hB2 hS3) hN3))
      | (at_builtin; refine wpList_append_gen _ rfl (.tmp 28) (.tmp 29) 27 rfl w3.heap.size 5 i0 (.int .u8 0) 1 1 Tryz.underlying27 hi hz0 hz1 hz2 rfl (by decide) _ _ _ rfl hn3 C m e (msg.map vB) rfl (by rw [List.length_map, HM.out, Nat.mul_one]) hm3.newsB (map_one vB_one msg) (by unfold maxLen; omega) (by omega) (by simp) ?_; intro v4 w4 hown4 hgrow4
         rw [Nat.zero_add, List.nil_append] at hown4
         have hS4 : Below w3.heap.size w3 w4 := hN3.grown hgrow4 (by simp) (fun k hk => (hn3.lt k hk).1)
         clear hn3 hN3 hm3 hgrow4
         rw [← HN.out] at hown3
         rw [← HM.out] at hown4
         obtain ⟨A3, c3, rfl, hc3, hr3, hN3⟩ := own_sliceN hown3
         obtain ⟨A4, c4, rfl, hc4, hr4, hN4⟩ := own_sliceN hown4
         replace hr3 := hr3.keep hS4
         replace hown2 := ownsRow2_later hown2 (below_step hS3 hS4)
         replace hB2 := below_step hB2 (below_step hS3 hS4)
         have hz2 := hS3.size
         have hz3 := hS4.size
         clear hown3 hown4 hS3 hS4)
      | (at_builtin; refine wpList_append_gen _ rfl (.tmp 24) (.tmp 32) 46 rfl w.heap.size 164 j0 (.agg #[.slice none 0 0, .slice none 0 0]) 2 48 Tryz.underlying46 hj gz0 gz1 gz2 rfl (by decide) _ _ _ rfl (ownsRow2_later hown2 (below_new (Below.refl _ _) _)) (some ⟨w4.heap.size, 0, none⟩) 1 1 (TD.cells ⟨A3, c3, key, A4, c4, msg⟩) rfl rfl (fun _ => ⟨_, _, rfl, cells_new _ _ _⟩) (by intro u hu; simp [TD.cells, TD.at0, TD.at1] at hu; rcases hu with rfl | rfl <;> rfl) (by unfold maxLen; omega) (by omega) (by have := hB2.size; simp; omega) ?_; intro v5 w5 hown5 hgrow5))
    obtain ⟨X, hX⟩ : ∃ X : TD, X = ⟨A3, c3, key, A4, c4, msg⟩ := ⟨_, rfl⟩
    rw [← hX] at hown5
    have hXc : X.c = (key, msg) := by rw [hX]; rfl
    have hB5 : Below w.heap.size w w5 := (below_new hB2 (.cells (TD.cells ⟨A3, c3, key, A4, c4, msg⟩).toArray 164)).grown hgrow5 (by have := hB2.size; simp; omega) (fun k hk => (hown2.lt k hk).1)
    have hr3' := (hr3.keep (below_new (Below.refl _ w4) (.cells (TD.cells ⟨A3, c3, key, A4, c4, msg⟩).toArray 164))).grown hgrow5 (fun a ha e => by have := hlt2 _ e; have := hN3 _ ha; omega)
    have hr4' := (hr4.keep (below_new (Below.refl _ w4) (.cells (TD.cells ⟨A3, c3, key, A4, c4, msg⟩).toArray 164))).grown hgrow5 (fun a ha e => by have := hlt2 _ e; have := hN4 _ ha; omega)
    have hXok : X.ok w5 := by rw [hX]; exact ⟨hc3, hc4, hr3', hr4'⟩
    obtain ⟨us, hus⟩ : ∃ us, us = ts ++ [X] := ⟨_, rfl⟩
    have hul : us.length = p + 1 := by rw [hus, List.length_append, HP.out]; rfl
    have hcu : cellsT ts ++ TD.cells X = cellsT us := by rw [hus]; simp [cellsT]
    have HCU : Hid (conT us = putT (conT ts) (key, msg)) := by unfold Hid; rw [← HC.out, hus, ← hXc]; simp [conT]
    have HUO : Hid (okT w5 us) := by
      unfold Hid
      rw [hus]
      exact (HOK.out.keep hB5).app (fun x hx => by simp at hx; subst hx; exact hXok)
    rw [hcu, ← hul] at hown5
    obtain ⟨A5, c5, rfl, hc5, hr5⟩ := own_sliceT hown5
    have HUL := Lib.hid hul
    rw [hul] at hc5 ⊢
    clear hown5 hcu hus hul hXok hXc hX hr3 hr4 hr3' hr4' hgrow5 hown2 hlt2 hN3 hN4 hB2 hc3 hc4 hz2 hz3
    have hpw : IntKind.u64.wrap ((p : Int) + 1) = ((p + 1 : Nat) : Int) := by rw [IntKind.wrap_u64]; omega
    obtain ⟨tg, htg⟩ : ∃ tg, tg = tagT (conT ts) (key, msg) := ⟨_, rfl⟩
    rw [← htg] at HT
    have HTG := Lib.hid htg
    clear htg
    go_wp2_with fail
    refine (refput_at (p + 1) tg (by omega) HT _).mono ?_
    rintro e' w6 ⟨tA, tc, rfl, htc, htr, hb6⟩
    go_wp2_with fail
    go_ret2
    exact ⟨us, p + 1, A5, c5, tA, tc, rfl, HUL, hc5, htc, hr5.keep hb6, HUO.out.keep hb6, HCU, by rw [← HTG.out]; exact htr, below_step hB5 hb6⟩
end Go.Proofs.YtknjpmoimjhddaaGreatDoor
/-
  What the reference's call Of of layer 5 answers. No conditions but those typed.
-/
namespace Go.Proofs.YtknjpmoimjhddaaGreatDoor
set_option maxRecDepth 100000
open Go.RowKit
set_option linter.unusedSimpArgs false
set_option linter.unusedVariables false

/-- What Of hands back. -/
def OfRes (ts : List TD) (tag : List UInt8) (w : World) (e : Ending) (w' : World) : Prop :=
  ∃ (x : TD) (u : Int), e = .returned (.tuple #[.agg #[x.at0, x.at1], .int .i64 u]) ∧ x.ok w' ∧ Hid ((x.c, u) = ofT (conT ts) tag) ∧ Below w.heap.size w w'
/-- .. and it is one of those that came in, or none. -/
def OfResS (ts : List TD) (tag : List UInt8) (w : World) (e : Ending) (w' : World) : Prop :=
  ∃ (x : TD) (u : Int), e = .returned (.tuple #[.agg #[x.at0, x.at1], .int .i64 u]) ∧ (x ∈ ts ∨ x = ⟨none, 0, [], none, 0, []⟩) ∧ Hid ((x.c, u) = ofT (conT ts) tag) ∧ Below w.heap.size w w'
def noTD : TD := ⟨none, 0, [], none, 0, []⟩
theorem noTD_ok (w : World) : noTD.ok w := ⟨Nat.le_refl _, Nat.le_refl _, Rd.nil, Rd.nil⟩
theorem OfResS.ok {ts : List TD} {w : World} {x : TD} (hok : okT w ts) (h : x ∈ ts ∨ x = ⟨none, 0, [], none, 0, []⟩) : x.ok w := by
  rcases h with h | rfl
  · exact hok x h
  · exact noTD_ok w
theorem OfResS.res {ts : List TD} {tag : List UInt8} {w w' : World} {e : Ending} (hok : okT w ts) (h : OfResS ts tag w e w') : OfRes ts tag w e w' := by
  obtain ⟨x, u, he, hx, HO, hb⟩ := h
  exact ⟨x, u, he, (OfResS.ok hok hx).keep hb, HO, hb⟩
theorem ofT_bad (cs : List Tm) (tag : List UInt8) (h : tag.length ≠ 8) : ofT cs tag = (([], []), 1) := if_pos h
theorem ofT_none (cs : List Tm) (tag : List UInt8) (h : tag.length = 8) (hn : ∀ j, j < cs.length → putL (j + 1) ≠ tag) (hl : cs.length ≤ 1000000000) : ofT cs tag = (([], []), 7) := by
  unfold ofT
  rw [if_neg (by simp [h]), if_neg]
  rintro ⟨h1, h2⟩
  refine hn (valN tag - 1) (by omega) ?_
  rw [show valN tag - 1 + 1 = valN tag by omega, putL_valN tag h]
theorem ofT_at (cs : List Tm) (tag : List UInt8) (h : tag.length = 8) (k : Nat) (hk : k < cs.length) (he : putL (k + 1) = tag) (hl : cs.length ≤ 1000000000) : ofT cs tag = (cs[k], 0) := by
  have e : valN tag = k + 1 := (putL_eq (k + 1) tag h (by omega)).1 he
  unfold ofT
  rw [if_neg (by simp [h]), e, if_pos (by omega), Nat.add_sub_cancel, List.getD_eq_getElem?_getD, List.getElem?_eq_getElem hk]
  rfl
theorem refput_ati (V : Int) (v : Nat) (l : List UInt8) (hV : V = (v : Int)) (hv : v < 18446744073709551616) (HL : Hid (putL v = l)) (w : World) :
    Calls Tryz.prog 50 #[.int .u64 V] w fun e w' => ∃ A c, e = .returned (.slice A 8 c) ∧ 8 ≤ c ∧ Rd vB w' A l ∧ Below w.heap.size w w' := by
  subst hV
  exact refput_at v l hv HL w
def OfRel (ts : List TD) (tag : List UInt8) (w : World) (i : Value) (wr : World) : Prop :=
  ∃ k : Nat, k ≤ ts.length ∧ i = .int .i64 (k : Int) ∧ (∀ j, j < k → putL (j + 1) ≠ tag) ∧ Row wr w.heap.size 164 [.slice none 0 0, .slice none 0 0] ∧ Below w.heap.size w wr
theorem size_term : (Tryz.prog.info? 164).map (·.size) = some 2 := by kernel_rfl
theorem one_two (a b : Value) (ha : a.oneCell' = true) (hb : b.oneCell' = true) : ∀ v ∈ [a, b], v.oneCell' = true := fun v hv => by
  simp at hv
  rcases hv with rfl | rfl
  · exact ha
  · exact hb

end Go.Proofs.YtknjpmoimjhddaaGreatDoor
/-
  What the program's calls copied and tagOf of layer 5 answer. No conditions but those typed.
-/
namespace Go.Proofs.YtknjpmoimjhddaaGreatDoor
set_option maxRecDepth 100000
open Go.RowKit
set_option linter.unusedSimpArgs false
set_option linter.unusedVariables false

/-- Keys and texts that are not too long. -/
def lenT (cs : List Tm) : Prop := ∀ x ∈ cs, x.1.length ≤ 1000000000 ∧ x.2.length ≤ 1000000000
theorem lenT.nil : lenT [] := fun x hx => by cases hx
theorem lenT.put {cs : List Tm} {key msg : List UInt8} (h : lenT cs) (hk : key.length ≤ 1000000000) (hm : msg.length ≤ 1000000000) : lenT (putT cs (key, msg)) := by
  unfold putT
  split
  · exact h
  · intro x hx
    rcases List.mem_append.1 hx with hx | hx
    · exact h x hx
    · simp at hx
      subst hx
      exact ⟨hk, hm⟩
theorem lenT.short {cs : List Tm} (h : shortT cs = true) : lenT cs := by
  unfold shortT at h
  rw [decide_eq_true_eq] at h
  intro x hx
  have := h.2 x hx
  omega
theorem lenT.at {ts : List TD} (h : lenT (conT ts)) {x : TD} (hx : x ∈ ts) : x.k.length ≤ 1000000000 ∧ x.m.length ≤ 1000000000 := h x.c (List.mem_map_of_mem hx)

/-- A term whose key and text lie in new memory. -/
def TD.new (B : Nat) (x : TD) : Prop := (∀ a, x.kA = some a → B ≤ a.block) ∧ (∀ a, x.mA = some a → B ≤ a.block)
/-- What copied hands back. -/
def CopRes (x : TD) (w : World) (e : Ending) (w' : World) : Prop :=
  ∃ y : TD, e = .returned (.agg #[y.at0, y.at1]) ∧ y.ok w' ∧ y.c = x.c ∧ y.new w.heap.size ∧ Below w.heap.size w w'

set_option maxHeartbeats 1000000 in
theorem copied_any (x : TD) (w : World) (hkr : Rd vB w x.kA x.k) (hmr : Rd vB w x.mA x.m) (hk : x.k.length ≤ 1000000000) (hm : x.m.length ≤ 1000000000) :
    Calls Tryz.prog 247 #[.agg #[x.at0, x.at1]] w (CopRes x w) := by
  obtain ⟨kA, kc, k, mA, mc, m⟩ := x
  unfold TD.at0 TD.at1 at *
  dsimp only at hkr hmr hk hm ⊢
  have hR0 : Row (w.alloc (.cells #[.slice kA k.length kc, .slice mA m.length mc] 164)) w.heap.size 164 [.slice kA k.length kc, .slice mA m.length mc] := Row.new w _ _ _ rfl
  have hB0 := below_new (Below.refl _ w) (.cells #[.slice kA k.length kc, .slice mA m.length mc] 164)
  have hR1 := hR0.alloc (.cells #[.slice none 0 0, .slice none 0 0] 164)
  have hB1 := below_new hB0 (.cells #[.slice none 0 0, .slice none 0 0] 164)
  have hR2 : Row ((w.alloc (.cells #[.slice kA k.length kc, .slice mA m.length mc] 164)).alloc (.cells #[.slice none 0 0, .slice none 0 0] 164)) (w.heap.size + 1) 164 [.slice none 0 0, .slice none 0 0] := Row.new_at _ _ (by simp) _ _ _ rfl
  go_enter Tryz.func247, Tryz.ntmps247
  go_upto_region 1 with fail
  generalize (w.alloc (.cells #[.slice kA k.length kc, .slice mA m.length mc] 164)).alloc (.cells #[.slice none 0 0, .slice none 0 0] 164) = W2 at hR1 hB1 hR2 ⊢
  have hc0 : ∀ W, Below (w.heap.size + 1) W2 W → W.cell? ⟨w.heap.size, 0, none⟩ = some (.slice kA k.length kc) := fun W hW => (hR1.keep hW (by omega)).cell rfl
  have hc1 : ∀ W, Below (w.heap.size + 1) W2 W → W.cell? ⟨w.heap.size, 1, none⟩ = some (.slice mA m.length mc) := fun W hW => (hR1.keep hW (by omega)).cell rfl
  have hlt := hR2.lt
  have hBase : Below (w.heap.size + 1) W2 W2.drew := (Below.refl _ _).drew
  have hk2 : Rd vB W2.drew kA k := hkr.keep hB1.drew
  clear hR0 hB0
  refine wp_region_plan_at (w.heap.size + 1) (.step 0 false (.step 1 false (.step 3 false (.step 4 false (.step 2 true (.step 5 true (.step 6 false (.step 7 true .nil)))))))) (by kernel_rfl) (by kernel_rfl) (by rfl) (by kernel_rfl) ?_
  iterate 4 (refine plan_read rfl (by rfl) (v := ?_) ?_ ?_; rotate_left 1; (intro W hW; have hW0 := Below.trans hBase hW; (try dsimp only at hW); go_simp <;> with_reducible rfl); simp only [List.getElem_toArray, List.getElem_cons_zero, List.getElem_cons_succ, Act.put, List.setIfInBounds_toArray, List.set_cons_zero, List.set_cons_succ])
  (refine plan_make_at rfl (by rfl) (fun K hK => ?_); go_simp; refine (clone_b k kA kc _ hk2 (by omega)).mono ?_; rintro e w3 ⟨A3, c3, rfl, hc3, hr3, hN3, hb3⟩; have hz3 : W2.heap.size ≤ w3.heap.size := hb3.size; refine hK.out _ _ (hb3.mono (Nat.le_of_lt hlt)) ?_; clear hK K; replace hBase := hBase.trans (hb3.mono (Nat.le_of_lt hlt)))
  have hB3 := below_step hB1.drew hb3
  have hR3 := hR2.drew.later hb3
  have hm3 : Rd vB w3 mA m := hmr.keep hB3
  (refine plan_make_at rfl (by rfl) (fun K hK => ?_); go_simp; refine (clone_b m mA mc _ hm3 (by omega)).mono ?_; rintro e w4 ⟨A4, c4, rfl, hc4, hr4, hN4, hb4⟩; have hz4 : w3.heap.size ≤ w4.heap.size := hb4.size; refine hK.out _ _ (hb4.mono (by omega)) ?_; clear hK K; replace hBase := hBase.trans (hb4.mono (by omega)))
  have hB4 := below_step hB3 hb4
  have hR4 := hR3.later hb4
  have hr3' := hr3.keep hb4
  iterate 1 (refine plan_read rfl (by rfl) (v := ?_) ?_ ?_; rotate_left 1; (intro W hW; have hW0 := hBase.trans hW; (try dsimp only at hW); go_simp <;> with_reducible rfl); simp only [List.getElem_toArray, List.getElem_cons_zero, List.getElem_cons_succ, Act.put, List.setIfInBounds_toArray, List.set_cons_zero, List.set_cons_succ])
  (refine plan_make_at rfl (by rfl) (fun K hK => ?_); refine Row.wp_store 164 (.tmp 2) (.tmp 9) rfl rfl [.slice A3 k.length c3, .slice A4 m.length c4] rfl hR4 (by exact size_term) rfl (one_two _ _ rfl rfl) ?_; refine hK.out _ _ (below_setRow (Below.refl _ _) (Nat.le_refl _) _) ?_; clear hK K)
  refine plan_done ?_
  have hd : W2.drew.heap.size = W2.heap.size := rfl
  have hr3'' := hr3'.setRow (g := w.heap.size + 1) [.slice A3 k.length c3, .slice A4 m.length c4].toArray (fun a ha e => by have := hN3 a ha; omega)
  have hr4'' := hr4.setRow (g := w.heap.size + 1) [.slice A3 k.length c3, .slice A4 m.length c4].toArray (fun a ha e => by have := hN4 a ha; omega)
  have hR5 := hR4.setRow [.slice A3 k.length c3, .slice A4 m.length c4]
  have hB5 := below_setRow hB4 (Nat.le_succ w.heap.size) [.slice A3 k.length c3, .slice A4 m.length c4].toArray
  generalize w4.setRow (w.heap.size + 1) [.slice A3 k.length c3, .slice A4 m.length c4].toArray = w5 at hr3'' hr4'' hR5 hB5 ⊢
  go_wp2_with fail
  refine bodyPost_ret (results_cell_row (p := 2) (ty := 164) (by rfl) _ _ (w.heap.size + 1) 164 _ (0, 0) _ (by rfl) (by exact hR5) Tryz.underlying164 (by rfl) (by exact size_term)) (by rfl) ?_
  exact ⟨⟨A3, c3, k, A4, c4, m⟩, rfl, ⟨hc3, hc4, hr3'', hr4''⟩, rfl, ⟨fun a ha => by have := hN3 a ha; omega, fun a ha => by have := hN4 a ha; omega⟩, hB5⟩

theorem tagof_any (q : Nat) (T : List UInt8) (w : World) (hq : q ≤ 1000000000) (HT : Hid (putL (q + 1) = T)) :
    Calls Tryz.prog 249 #[.int .i64 (q : Int)] w fun e w' => ∃ A c, e = .returned (.slice A 8 c) ∧ 8 ≤ c ∧ Rd vB w' A T ∧ Below w.heap.size w w' := by
  have h1 : IntKind.u64.wrap (q : Int) = (q : Int) := by rw [IntKind.wrap_u64]; omega
  have h2 : IntKind.u64.wrap ((q : Int) + 1) = ((q + 1 : Nat) : Int) := by rw [IntKind.wrap_u64]; omega
  go_enter Tryz.func249, Tryz.ntmps249
  go_wp2_with fail
  refine (put_any (q + 1) (by omega) _).mono ?_
  rintro e' w2 ⟨A, c, rfl, hc, hr, hb⟩
  rw [HT.out] at hr
  go_wp2_with fail
  go_ret
  exact ⟨A, c, rfl, hc, hr, hb⟩
end Go.Proofs.YtknjpmoimjhddaaGreatDoor
/-
  What the program's own calls of layer 16 answer (landed code) that its Read goes on by: within, counts, count, readEntry, readGone. No conditions but those typed.
-/
namespace Go.Proofs.YtknjpmoimjhddaaGreatDoor
set_option maxRecDepth 100000
open Go.RowKit
set_option linter.unusedSimpArgs false
set_option linter.unusedVariables false

/-! ### closures that say how many there may be -/
/-- A closure of within: its two numbers lie below B. -/
def IsW (B lo hi : Nat) (v : Value) (w : World) : Prop := ∃ g1 g2, v = .func (.func 136) #[] #[.pointer (some ⟨g1, 0, none⟩), .pointer (some ⟨g2, 0, none⟩)] ∧ w.cell? ⟨g1, 0, none⟩ = some (.int .i64 (lo : Int)) ∧ w.cell? ⟨g2, 0, none⟩ = some (.int .i64 (hi : Int)) ∧ g1 < B ∧ g2 < B
theorem IsW.below {B n lo hi : Nat} {v : Value} {w w' : World} (h : IsW B lo hi v w) (hb : Below n w w') (hB : B ≤ n) : IsW B lo hi v w' := by
  obtain ⟨g1, g2, rfl, c1, c2, h1, h2⟩ := h
  exact ⟨g1, g2, rfl, (hb.cell (p := ⟨g1, 0, none⟩) (show g1 < n by omega)).trans c1, (hb.cell (p := ⟨g2, 0, none⟩) (show g2 < n by omega)).trans c2, h1, h2⟩
theorem inW_any (lo hi : Nat) (n : Int) (g1 g2 : Nat) (w : World) (c1 : w.cell? ⟨g1, 0, none⟩ = some (.int .i64 (lo : Int))) (c2 : w.cell? ⟨g2, 0, none⟩ = some (.int .i64 (hi : Int))) :
    Calls Tryz.prog 136 #[.int .i64 n, .pointer (some ⟨g1, 0, none⟩), .pointer (some ⟨g2, 0, none⟩)] w fun e w' => e = .returned (.bool (decide ((lo : Int) ≤ n ∧ n ≤ (hi : Int)))) ∧ w = w' := by
  by_cases h1 : (lo : Int) ≤ n
  · by_cases h2 : n ≤ (hi : Int)
    · have hd : Hid (decide ((lo : Int) ≤ n ∧ n ≤ (hi : Int)) = true) := decide_eq_true ⟨h1, h2⟩
      rw [hd.out]
      go_enter Tryz.func136, Tryz.ntmps136
      go_wp2_with fail
      go_ret
      exact ⟨rfl, rfl⟩
    · have hd : Hid (decide ((lo : Int) ≤ n ∧ n ≤ (hi : Int)) = false) := decide_eq_false (fun h => h2 h.2)
      rw [hd.out]
      go_enter Tryz.func136, Tryz.ntmps136
      go_wp2_with fail
      go_ret
      exact ⟨rfl, rfl⟩
  · have hd : Hid (decide ((lo : Int) ≤ n ∧ n ≤ (hi : Int)) = false) := decide_eq_false (fun h => h1 h.1)
    rw [hd.out]
    go_enter Tryz.func136, Tryz.ntmps136
    go_wp2_with fail
    go_ret
    exact ⟨rfl, rfl⟩
theorem within_any (lo hi : Nat) (w : World) :
    Calls Tryz.prog 94 #[.int .i64 (lo : Int), .int .i64 (hi : Int)] w fun e w' => ∃ v, e = .returned v ∧ IsW w'.heap.size lo hi v w' ∧ Below w.heap.size w w' := by
  have hR0 : Row (w.alloc (.cells #[.int .i64 (lo : Int)] 3)) w.heap.size 3 [.int .i64 (lo : Int)] := Row.new w _ _ _ rfl
  have hR1 := hR0.alloc (.cells #[.int .i64 (hi : Int)] 3)
  have hR2 : Row ((w.alloc (.cells #[.int .i64 (lo : Int)] 3)).alloc (.cells #[.int .i64 (hi : Int)] 3)) (w.heap.size + 1) 3 [.int .i64 (hi : Int)] := Row.new_at _ _ (by simp) _ _ _ rfl
  have hB := below_new (below_new (Below.refl _ w) (.cells #[.int .i64 (lo : Int)] 3)) (.cells #[.int .i64 (hi : Int)] 3)
  go_enter Tryz.func94, Tryz.ntmps94
  go_upto_region 1 with fail
  generalize (w.alloc (.cells #[.int .i64 (lo : Int)] 3)).alloc (.cells #[.int .i64 (hi : Int)] 3) = W at hR1 hR2 hB ⊢
  have h1 := hR1.lt
  have h2 := hR2.lt
  go_wp2_with fail
  go_ret
  exact ⟨_, rfl, ⟨_, _, rfl, hR1.cell rfl, hR2.cell rfl, h1, h2⟩, hB⟩
theorem counts_any (w : World) :
    Calls Tryz.prog 55 #[] w fun e w' => ∃ v u, e = .returned (.tuple #[v, u]) ∧ IsW w'.heap.size 0 64 v w' ∧ IsW w'.heap.size 1 32 u w' ∧ Below w.heap.size w w' := by
  go_enter Tryz.func55, Tryz.ntmps55
  go_wp2_with fail
  refine (within_any 0 64 _).mono ?_
  rintro e w1 ⟨v, rfl, hv, hb1⟩
  go_wp2_with fail
  refine (within_any 1 32 _).mono ?_
  rintro e w2 ⟨u, rfl, hu, hb2⟩
  go_wp2_with fail
  go_ret2
  obtain ⟨g1, g2, hv1, c1, c2, h1, h2⟩ := hv.below hb2 (Nat.le_refl _)
  have hs := hb2.size
  exact ⟨v, u, rfl, ⟨g1, g2, hv1, c1, c2, by omega, by omega⟩, hu, below_step hb1 hb2⟩

/-! ### count -/
theorem count_any (g : Nat) (k : Int) (S : List UInt8) (B lo hi : Nat) (v : Value) (w : World) (h : RdRF g k S w) (hv : IsW B lo hi v w) (hB : B ≤ g) :
    Calls Tryz.prog 58 #[.pointer (some ⟨g, 0, none⟩), v] w fun e w' => e = .returned (.int .i64 ((cntK lo hi k S).1 : Int)) ∧ RdRF g (cntK lo hi k S).2.1 (cntK lo hi k S).2.2 w' ∧ Only g w w' := by
  have hO := Lib.hid (one_any g k S w h)
  have hlt := oneK_lt k S
  have HC : Hid (cntK lo hi k S = if lo ≤ (oneK k S).1 ∧ (oneK k S).1 ≤ hi then oneK k S else (0, keepK (oneK k S).2.1 3, (oneK k S).2.2)) := rfl
  obtain ⟨C, hC⟩ : ∃ C, cntK lo hi k S = C := ⟨_, rfl⟩
  rw [hC] at HC ⊢
  clear hC h
  generalize oneK k S = X at hO HC hlt
  obtain ⟨m, k1, S1⟩ := X
  dsimp only at hO HC hlt ⊢
  obtain ⟨g1, g2, rfl, c1, c2, h1, h2⟩ := hv
  have mw : IntKind.i64.wrap (m : Int) = (m : Int) := by rw [IntKind.wrap_i64]; omega
  by_cases hm : lo ≤ m ∧ m ≤ hi
  · have HCC : Hid (C = (m, k1, S1)) := by unfold Hid; rw [HC.out, if_pos hm]
    rw [HCC.out]
    have hd : Hid (decide ((lo : Int) ≤ (m : Int) ∧ (m : Int) ≤ (hi : Int)) = true) := decide_eq_true (by omega)
    clear HC hm HCC
    go_enter Tryz.func58, Tryz.ntmps58
    go_wp2_with fail
    refine hO.out.mono ?_
    rintro e w1 ⟨rfl, hR, hOn⟩
    have d1 := (hOn.below.cell (p := ⟨g1, 0, none⟩) (show g1 < g by omega)).trans c1
    have d2 := (hOn.below.cell (p := ⟨g2, 0, none⟩) (show g2 < g by omega)).trans c2
    go_wp2_with fail
    refine (inW_any lo hi (m : Int) g1 g2 w1 d1 d2).mono ?_
    rw [hd.out]
    rintro e w2 ⟨rfl, rfl⟩
    go_wp2_with fail
    go_ret
    exact ⟨rfl, hR, hOn⟩
  · have HCC : Hid (C = (0, keepK k1 3, S1)) := by unfold Hid; rw [HC.out, if_neg hm]
    rw [HCC.out]
    have hd : Hid (decide ((lo : Int) ≤ (m : Int) ∧ (m : Int) ≤ (hi : Int)) = false) := decide_eq_false (by omega)
    clear HC hm HCC
    go_enter Tryz.func58, Tryz.ntmps58
    go_wp2_with fail
    refine hO.out.mono ?_
    rintro e w1 ⟨rfl, hR, hOn⟩
    have d1 := (hOn.below.cell (p := ⟨g1, 0, none⟩) (show g1 < g by omega)).trans c1
    have d2 := (hOn.below.cell (p := ⟨g2, 0, none⟩) (show g2 < g by omega)).trans c2
    go_wp2_with fail
    refine (inW_any lo hi (m : Int) g1 g2 w1 d1 d2).mono ?_
    rw [hd.out]
    rintro e w2 ⟨rfl, rfl⟩
    go_wp2_with fail
    refine (keep_any g k1 3 S1 w1 hR).mono ?_
    rintro e w3 ⟨rfl, hR2, hO2⟩
    go_wp2_with fail
    go_ret
    exact ⟨rfl, hR2, hOn.trans hO2⟩

/-! ### readEntry -/
theorem cloneE_any (n : Nat) (b : List UInt8) (A : Option Addr) (c : Nat) (w : World) (HN : Hid (b.length = n)) (hr : Rd vB w A b) (hl : n ≤ 70368744177664) :
    Calls Tryz.prog 54 #[.slice A n c] w fun e w' => ∃ A' c', e = .returned (.slice A' n c') ∧ n ≤ c' ∧ Rd vB w' A' b ∧ (∀ a, A' = some a → w.heap.size ≤ a.block) ∧ Below w.heap.size w w' := by
  have e := HN.out
  subst e
  exact clone_b b A c w hr hl
set_option maxHeartbeats 2000000 in
theorem readent_any (g : Nat) (k : Int) (S : List UInt8) (B : Nat) (v : Value) (w : World) (h : RdRF g k S w) (hv : IsW B 1 32 v w) (hB : B ≤ g) :
    Calls Tryz.prog 59 #[.pointer (some ⟨g, 0, none⟩), v] w fun e w' => ∃ A q c, e = .returned (aggN (entK k S).1.1 (entK k S).1.2.1 A q c) ∧ Hid ((entK k S).1.2.2.length = q) ∧ q ≤ c ∧ Rd vB w' A (entK k S).1.2.2 ∧ (∀ a, A = some a → w.heap.size ≤ a.block) ∧ RdRF g (entK k S).2.1 (entK k S).2.2 w' ∧ Only g w w' := by
  obtain ⟨x1, k1, S1, H1⟩ : ∃ x k' S', num8K k S = (x, k', S') := ⟨_, _, _, rfl⟩
  obtain ⟨x2, k2, S2, H2⟩ : ∃ x k' S', num8K k1 S1 = (x, k', S') := ⟨_, _, _, rfl⟩
  obtain ⟨m, k3, S3, H3⟩ : ∃ x k' S', cntK 1 32 k2 S2 = (x, k', S') := ⟨_, _, _, rfl⟩
  obtain ⟨L, k4, S4, H4⟩ : ∃ x k' S', nextK m k3 S3 = (x, k', S') := ⟨_, _, _, rfl⟩
  have HE : Hid (entK k S = ((x1, x2, L), k4, S4)) := by
    unfold Hid entK
    rw [H1]
    dsimp only
    rw [H2]
    dsimp only
    rw [H3]
    dsimp only
    rw [H4]
  rw [HE.out]
  dsimp only
  have hm : m ≤ 32 := by have := cntK_le 1 32 k2 S2; rw [H3] at this; exact this
  replace H1 := Lib.hid H1
  replace H2 := Lib.hid H2
  replace H3 := Lib.hid H3
  replace H4 := Lib.hid H4
  clear HE
  have hgw := h.lt
  obtain ⟨hR0, hB0⟩ := box_three w 35 (.int .u64 0) (.int .u64 0) (.slice none 0 0)
  obtain ⟨hR1, hB1⟩ := box_three (w.alloc (.cells #[.int .u64 0, .int .u64 0, .slice none 0 0] 35)) 35 (.int .u64 0) (.int .u64 0) (.slice none 0 0)
  replace hR0 := hR0.later hB1
  replace hB0 := below_step hB0 hB1
  have hz : (w.alloc (.cells #[.int .u64 0, .int .u64 0, .slice none 0 0] 35)).heap.size = w.heap.size + 1 := by simp
  rw [hz] at hR1
  clear hB1 hz
  go_enter Tryz.func59, Tryz.ntmps59
  go_upto_region 2 with fail
  generalize (w.alloc (.cells #[.int .u64 0, .int .u64 0, .slice none 0 0] 35)).alloc (.cells #[.int .u64 0, .int .u64 0, .slice none 0 0] 35) = W at hR0 hR1 hB0 ⊢
  have hT := h.below (hB0.mono (show g + 1 ≤ w.heap.size by omega))
  have hV := hv.below hB0 (by omega)
  have hO0 : Only g w W := Only.later hB0 (by omega)
  have hne1 : w.heap.size + 1 ≠ g := by omega
  have hne0 : w.heap.size ≠ g := by omega
  have hle1 : g + 1 ≤ w.heap.size + 1 := by omega
  have hBg : B ≤ g + 1 := by omega
  have hB1g : B ≤ w.heap.size + 1 := by omega
  have hn01 : w.heap.size ≠ w.heap.size + 1 := by omega
  clear h hv hB0
  go_wp2_with fail
  refine (number8_any g k S W hT).mono ?_
  rw [H1.out]
  rintro e w1 ⟨rfl, hT1, hO⟩
  dsimp only at hT1 ⊢
  replace hR0 := hR0.only hO hne0
  replace hR1 := hR1.only hO hne1
  replace hV := hV.below hO.below hB
  replace hO0 := hO0.trans hO
  clear hO hT
  have f0 := hR1.frozen 0
  have hT2 := hT1.below ((Below.refl _ w1).setCell (p := ⟨w.heap.size + 1, 0, none⟩) hle1 (.int .u64 (x1 : Int)))
  have hV2 := hV.below ((Below.refl _ w1).setCell (p := ⟨w.heap.size + 1, 0, none⟩) (Nat.le_refl _) (.int .u64 (x1 : Int))) hB1g
  have hR02 := hR0.setCell_other (p := ⟨w.heap.size + 1, 0, none⟩) hn01 (.int .u64 (x1 : Int))
  have hR12 : Row (w1.setCell ⟨w.heap.size + 1, 0, none⟩ (.int .u64 (x1 : Int))) (w.heap.size + 1) 35 [.int .u64 (x1 : Int), .int .u64 0, .slice none 0 0] := hR1.setCell 0 (.int .u64 (x1 : Int))
  have hO2 : Hid (∀ b, b ≠ g → b < w.heap.size → (w1.setCell ⟨w.heap.size + 1, 0, none⟩ (.int .u64 (x1 : Int))).heap[b]? = w.heap[b]?) := fun b h1 h2 => by
    rw [← hO0.other b h1 h2]
    exact ((Below.refl (w.heap.size + 1) w1).setCell (p := ⟨w.heap.size + 1, 0, none⟩) (Nat.le_refl _) _).block b (by omega)
  have hB2 := hO0.below.setCell (p := ⟨w.heap.size + 1, 0, none⟩) (show g ≤ w.heap.size + 1 by omega) (.int .u64 (x1 : Int))
  have c0 : w1.cell? ⟨w.heap.size + 1, 0, none⟩ = some (.int .u64 0) := hR1.cell rfl
  clear hT1 hV hR0 hR1 hO0
  go_upto_region 3 with fail
  generalize w1.setCell ⟨w.heap.size + 1, 0, none⟩ (.int .u64 (x1 : Int)) = W2 at hT2 hV2 hR02 hR12 hO2 hB2 ⊢
  clear c0 f0
  have hO3 : Only g w W2 := ⟨hB2, hO2.out⟩
  clear hO2 hB2
  go_wp2_with fail
  refine (number8_any g k1 S1 W2 hT2).mono ?_
  rw [H2.out]
  rintro e w1 ⟨rfl, hT1, hO⟩
  dsimp only at hT1 ⊢
  replace hR0 := hR02.only hO hne0
  replace hR1 := hR12.only hO hne1
  replace hV := hV2.below hO.below hB
  replace hO0 := hO3.trans hO
  clear hO hT2 hV2 hR02 hR12 hO3
  have f0 := hR1.frozen 1
  have hT2 := hT1.below ((Below.refl _ w1).setCell (p := ⟨w.heap.size + 1, 1, none⟩) hle1 (.int .u64 (x2 : Int)))
  have hV2 := hV.below ((Below.refl _ w1).setCell (p := ⟨w.heap.size + 1, 1, none⟩) (Nat.le_refl _) (.int .u64 (x2 : Int))) hB1g
  have hR02 := hR0.setCell_other (p := ⟨w.heap.size + 1, 1, none⟩) hn01 (.int .u64 (x2 : Int))
  have hR12 : Row (w1.setCell ⟨w.heap.size + 1, 1, none⟩ (.int .u64 (x2 : Int))) (w.heap.size + 1) 35 [.int .u64 (x1 : Int), .int .u64 (x2 : Int), .slice none 0 0] := hR1.setCell 1 (.int .u64 (x2 : Int))
  have hO2 : Hid (∀ b, b ≠ g → b < w.heap.size → (w1.setCell ⟨w.heap.size + 1, 1, none⟩ (.int .u64 (x2 : Int))).heap[b]? = w.heap[b]?) := fun b h1 h2 => by
    rw [← hO0.other b h1 h2]
    exact ((Below.refl (w.heap.size + 1) w1).setCell (p := ⟨w.heap.size + 1, 1, none⟩) (Nat.le_refl _) _).block b (by omega)
  have hB2 := hO0.below.setCell (p := ⟨w.heap.size + 1, 1, none⟩) (show g ≤ w.heap.size + 1 by omega) (.int .u64 (x2 : Int))
  have c0 : w1.cell? ⟨w.heap.size + 1, 1, none⟩ = some (.int .u64 0) := hR1.cell rfl
  clear hT1 hV hR0 hR1 hO0
  go_upto_region 4 with fail
  generalize w1.setCell ⟨w.heap.size + 1, 1, none⟩ (.int .u64 (x2 : Int)) = W2 at hT2 hV2 hR02 hR12 hO2 hB2 ⊢
  clear c0 f0
  have hO3 : Only g w W2 := ⟨hB2, hO2.out⟩
  clear hO2 hB2
  go_wp2_with fail
  refine (count_any g k2 S2 B 1 32 v W2 hT2 hV2 hB).mono ?_
  rw [H3.out]
  rintro e w1 ⟨rfl, hT1, hO⟩
  dsimp only at hT1 ⊢
  replace hR0 := hR02.only hO hne0
  replace hR1 := hR12.only hO hne1
  replace hO0 := hO3.trans hO
  clear hO hT2 hV2 hR02 hR12 hO3
  go_wp2_with fail
  refine (next_any g m k3 S3 w1 hT1).mono ?_
  rw [H4.out]
  rintro e w2 ⟨A, q, c, rfl, HL, hqm, hqc, hr, hT2, hO⟩
  dsimp only at hT2 HL hr ⊢
  replace hR0 := hR0.only hO hne0
  replace hR1 := hR1.only hO hne1
  replace hO0 := hO0.trans hO
  clear hO hT1
  have hlt2 := hR1.lt
  go_wp2_with fail
  refine (cloneE_any q L A c w2 HL hr (by omega)).mono ?_
  rintro e w3 ⟨A3, c3, rfl, hc3, hr3, hA3, hb⟩
  have hsz := hO0.below.size
  replace hT2 := hT2.below (hb.mono (by omega))
  replace hR0 := hR0.later hb
  replace hR1 := hR1.later hb
  replace hO0 := hO0.trans (Only.later hb (by omega))
  clear hb hr
  have HA3 : Hid (∀ a, A3 = some a → w.heap.size + 1 < a.block) := fun a ha => by have := hA3 a ha; omega
  have f0 := hR1.frozen 2
  have c0 : w3.cell? ⟨w.heap.size + 1, 2, none⟩ = some (.slice none 0 0) := hR1.cell rfl
  have hT4 := hT2.below ((Below.refl _ w3).setCell (p := ⟨w.heap.size + 1, 2, none⟩) hle1 (.slice A3 q c3))
  have hR04 := hR0.setCell_other (p := ⟨w.heap.size + 1, 2, none⟩) hn01 (.slice A3 q c3)
  have hR14 : Row (w3.setCell ⟨w.heap.size + 1, 2, none⟩ (.slice A3 q c3)) (w.heap.size + 1) 35 [.int .u64 (x1 : Int), .int .u64 (x2 : Int), .slice A3 q c3] := hR1.setCell 2 (.slice A3 q c3)
  have hr4 : Rd vB (w3.setCell ⟨w.heap.size + 1, 2, none⟩ (.slice A3 q c3)) A3 L := hr3.only ((Only.refl (w.heap.size + 1) w3).setCell 2 (.slice A3 q c3)) (fun _ a ha => by have := HA3.out a ha; omega)
  have hO2 : Hid (∀ b, b ≠ g → b < w.heap.size → (w3.setCell ⟨w.heap.size + 1, 2, none⟩ (.slice A3 q c3)).heap[b]? = w.heap[b]?) := fun b h1 h2 => by
    rw [← hO0.other b h1 h2]
    exact ((Below.refl (w.heap.size + 1) w3).setCell (p := ⟨w.heap.size + 1, 2, none⟩) (Nat.le_refl _) _).block b (by omega)
  have hB2 := hO0.below.setCell (p := ⟨w.heap.size + 1, 2, none⟩) (show g ≤ w.heap.size + 1 by omega) (.slice A3 q c3)
  clear hT2 hR0 hR1 hO0 hr3 hA3
  go_upto_region 5 with fail
  generalize w3.setCell ⟨w.heap.size + 1, 2, none⟩ (.slice A3 q c3) = W4 at hT4 hR04 hR14 hr4 hO2 hB2 ⊢
  clear c0 f0
  go_wp2_with (first
    | (refine wpList_load_part rfl 35 (.tmp 5) rfl (w.heap.size + 1) 0 rfl _ _ hR14 [.int .u64 (x1 : Int), .int .u64 (x2 : Int), .slice A3 q c3] (by rfl) _ Tryz.underlying35 rfl (by exact size_entry) ?_)
    | (refine wpList_store_row rfl 35 (.tmp 4) (.tmp 19) rfl w.heap.size rfl [.int .u64 (x1 : Int), .int .u64 (x2 : Int), .slice A3 q c3] rfl _ _ hR04 (by exact size_entry) rfl (one_three _ _ _ rfl rfl rfl) ?_))
  refine bodyPost_ret (results_cell_row (p := 4) (ty := 35) (by rfl) _ _ w.heap.size 35 _ (0, 0) _ (by rfl) (by exact hR04.setRow _) Tryz.underlying35 (by rfl) (by exact size_entry)) (by rfl) ?_
  have hbs := below_setRow (Below.refl w.heap.size W4) (Nat.le_refl w.heap.size) [.int .u64 (x1 : Int), .int .u64 (x2 : Int), .slice A3 q c3].toArray
  exact ⟨A3, q, c3, rfl, HL, hc3, hr4.setRow _ (fun a ha => by have := HA3.out a ha; omega), (fun a ha => by have := HA3.out a ha; omega), hT4.below (hbs.mono (by omega)), ⟨below_setRow hB2 (by omega) _, fun b h1 h2 => (hbs.block b h2).trans (hO2.out b h1 h2)⟩⟩

/-! ### readGone -/
theorem readG_le {b : List UInt8} (h : (readG b).2.2 = 0) : (readG b).2.1 ≤ b.length := by
  obtain ⟨l, n, e, hG⟩ : ∃ l n e, readG b = (l, n, e) := ⟨_, _, _, rfl⟩
  rw [hG] at h ⊢
  dsimp only at h ⊢
  subst h
  exact (readG_good hG).2.2.1
theorem RdG.only {g : Nat} {w w' : World} {A : Option Addr} {l : List Gn} (h : RdG w A l) (k : Only g w w') (hA : ∀ a, A = some a → a.block ≠ g) : RdG w' A l := fun hn => by
  obtain ⟨b, o, rfl, hc⟩ := h hn
  refine ⟨b, o, rfl, fun i hi => ?_⟩
  obtain ⟨h0, h1⟩ := hc i hi
  have hlt := World.block_lt_of_cell? w _ h0
  have hbk := k.other b (hA _ rfl) hlt
  exact ⟨(World.cell?_of_block (w := w) (a := ⟨b, o + i * 2, none⟩) hbk).trans h0, (World.cell?_of_block (w := w) (a := ⟨b, o + i * 2 + 1, none⟩) hbk).trans h1⟩

theorem readgone_any (g : Nat) (k : Int) (S : List UInt8) (w : World) (h : RdRF g k S w) :
    Calls Tryz.prog 60 #[.pointer (some ⟨g, 0, none⟩)] w fun e w' => ∃ A l q c, e = .returned (.slice A q c) ∧ Hid ((l : List Gn).length = q) ∧ q ≤ c ∧ q ≤ 64 ∧ RdG w' A l ∧ fitG l ∧ (∀ a, A = some a → w.heap.size ≤ a.block) ∧ Only g w w' ∧
      ∃ k' S', RdRF g k' S' w' ∧ (k ≠ 0 → k' = k) ∧ (k = 0 → k' = (readG S).2.2 ∧ (k' = 0 → l = (readG S).1 ∧ S' = S.drop (readG S).2.1 ∧ (readG S).2.1 ≤ S.length)) := by
  obtain ⟨S0, n, ⟨A0, c0, hR, HN, hc, hr, hA⟩, hn, h2⟩ := id h
  have HKS := Lib.hid h2
  have hc0 : w.cell? ⟨g, 0, none⟩ = some (.slice A0 n c0) := hR.cell rfl
  have hgl := hR.lt
  have hread := Lib.hid (read15_any S0 n c0 A0 w HN hr (by omega) hc)
  have hle : (readG S0).1.length ≤ 64 ∧ (readG S0).2.1 ≤ 1025 := readG_len
  have HFIT := Lib.hid (@readG_fit S0)
  have hbound := Lib.hid (@readG_le S0)
  clear hr hA h2 hR
  obtain ⟨l, m, e0, HG⟩ : ∃ l m e0, readG S0 = (l, m, e0) := ⟨_, _, _, rfl⟩
  rw [HG] at hread hle HFIT hbound
  dsimp only at hread hle HFIT hbound
  have HG2 := Lib.hid HG
  clear HG
  go_enter Tryz.func60, Tryz.ntmps60
  go_wp2_with fail
  refine hread.out.mono ?_
  rintro e w1 hRR
  obtain ⟨v, rfl, hown, hb⟩ := hRR
  obtain ⟨A, c, rfl, hlc, hrg, hfr⟩ := own_sliceG hown
  have hT := h.below (hb.mono (show g + 1 ≤ w.heap.size by omega))
  have HL : Hid (l.length = l.length) := rfl
  obtain ⟨q, hq⟩ : ∃ q, l.length = q := ⟨_, rfl⟩
  have HQ := Lib.hid hq
  rw [hq] at hlc hle ⊢
  have hO0 := Only.later hb (show g ≤ w.heap.size by omega)
  have HFR : Hid (∀ a, A = some a → w.heap.size ≤ a.block) := hfr
  clear hread hown hb hq HL hfr hc0
  go_wp2_with fail
  refine (keep_any g k e0 S w1 hT).mono ?_
  rintro e w2 ⟨rfl, hT2, hO⟩
  have hrg2 := hrg.only hO (fun a ha => by have := HFR.out a ha; omega)
  replace hO0 := hO0.trans hO
  clear hT hO hrg
  go_wp2_with fail
  refine (next_any g m (keepK k e0) S w2 hT2).mono ?_
  rintro e w3 ⟨A3, q3, c3, rfl, _, _, _, _, hT3, hO⟩
  have hrg3 := hrg2.only hO (fun a ha => by have := HFR.out a ha; omega)
  replace hO0 := hO0.trans hO
  clear hT2 hO hrg2
  go_wp2_with fail
  go_ret
  refine ⟨A, l, q, c, rfl, HQ, hlc, by omega, hrg3, HFIT.out, HFR.out, hO0, _, _, hT3, fun hk => ?_, fun hk => ?_⟩
  · rw [keepK_bad _ hk, nextK_bad _ _ hk]
  · have eS := HKS.out hk
    subst eS
    subst hk
    have hG := HG2.out
    rw [hG]
    dsimp only
    have e1 : keepK 0 e0 = e0 := if_pos rfl
    rw [e1]
    by_cases h0 : e0 = 0
    · subst h0
      have hb := hbound.out rfl
      have : nextK m 0 S0 = (S0.take m, 0, S0.drop m) := by unfold nextK; rw [if_pos rfl, if_neg (by omega)]
      rw [this]
      exact ⟨rfl, fun _ => ⟨rfl, rfl, hb⟩⟩
    · rw [nextK_bad _ _ h0]
      exact ⟨rfl, fun h => absurd h h0⟩
end Go.Proofs.YtknjpmoimjhddaaGreatDoor
/-
  What the reference's Right of layer 16 answers. No conditions but those typed.
-/
namespace Go.Proofs.YtknjpmoimjhddaaGreatDoor
set_option maxRecDepth 100000
open Go.RowKit
set_option linter.unusedSimpArgs false
set_option linter.unusedVariables false

theorem okE_at : ∀ l : List En, okE l = true ↔ ∀ k (h : k < l.length), seedOK l[k] ∧ (0 < k → (l[k - 1]'(by omega)).1 < l[k].1)
  | [] => by simp [okE]
  | [a] => by
    unfold okE
    rw [decide_eq_true_iff]
    constructor
    · intro h k hk
      have : k = 0 := by simpa using hk
      subst this
      exact ⟨h, fun h0 => by omega⟩
    · intro h
      exact (h 0 (by simp)).1
  | a :: b :: l => by
    have ih := okE_at (b :: l)
    unfold okE
    rw [Bool.and_eq_true, Bool.and_eq_true, decide_eq_true_iff, decide_eq_true_iff, ih]
    constructor
    · rintro ⟨h1, h2, h3⟩ k hk
      cases k with
      | zero => exact ⟨h1, fun h0 => by omega⟩
      | succ k =>
        obtain ⟨h4, h5⟩ := h3 k (by simpa using hk)
        refine ⟨h4, fun _ => ?_⟩
        cases k with
        | zero => exact h2
        | succ k => exact h5 (by omega)
    · intro h
      refine ⟨(h 0 (by simp)).1, (h 1 (by simp)).2 (by omega), fun k hk => ?_⟩
      obtain ⟨h4, h5⟩ := h (k + 1) (by simpa using hk)
      refine ⟨h4, fun h0 => ?_⟩
      have h6 := h5 (by omega)
      cases k with
      | zero => omega
      | succ k => exact h6

set_option maxHeartbeats 2000000 in
theorem refrightB_any (v : Nat) (es : List ED) (gs : List Gn) (n ec m gc : Nat) (eA gA : Option Addr) (w : World) (HN : Hid (es.length = n)) (HM : Hid (gs.length = m)) (hre : RdE w eA es) (hrg : RdG w gA gs) (hn : n ≤ 1000000000) (hm : m ≤ 1000000000) (hml : ∀ x ∈ es, x.s.length ≤ 9223372036854775807) :
    Calls Tryz.prog 11 #[aggB v eA n ec gA m gc] w fun e w' => e = .returned (.bool (rightB (conE es) gs)) ∧ Below w.heap.size w w' := by
  obtain ⟨hR, hB⟩ := box_three w 26 (.int .u64 (v : Int)) (.slice eA n ec) (.slice gA m gc)
  obtain ⟨P, hP⟩ : ∃ P, rightB (conE es) gs = P := ⟨_, rfl⟩
  rw [hP]
  unfold rightB at hP
  rw [conE_length, HN.out] at hP
  have HML := Lib.hid hml
  obtain ⟨G, hG⟩ : ∃ G, rightG gs = G := ⟨_, rfl⟩
  rw [hG] at hP
  have HP := Lib.hid hP
  have HRR := Lib.hid (fun W hW => refright15_any gs m gc gA W HM (hrg.keep hW) hm)
  rw [hG] at HRR
  clear hP hml hG
  unfold aggB
  go_enter Tryz.func11, Tryz.ntmps11
  go_upto_region 1 with fail
  generalize (w.alloc (.cells #[.int .u64 (v : Int), .slice eA n ec, .slice gA m gc] 26)) = w1 at hR hB ⊢
  by_cases h64 : n ≤ 64
  · have n64 : ¬ (64 : Int) < (n : Int) := by omega
    have c1 : w1.cell? ⟨w.heap.size, 1, none⟩ = some (.slice eA n ec) := hR.cell rfl
    have c2 : w1.cell? ⟨w.heap.size, 2, none⟩ = some (.slice gA m gc) := hR.cell rfl
    go_wp2_with fail
    refine (HRR.out _ hB).mono ?_
    rintro e w2 ⟨rfl, hb2⟩
    have HB2 := Lib.hid (below_step hB hb2)
    have hR2 := hR.later hb2
    have hre2 := hre.keep HB2.out
    cases G with
    | false =>
      have HPF : Hid (P = false) := by unfold Hid; rw [← HP.out]; simp
      clear c1 c2 hb2 hR2 hre2
      go_wp2_with fail
      go_ret
      exact ⟨by rw [HPF.out]; rfl, HB2.out⟩
    | true =>
      have HPO : Hid (P = okE (conE es)) := by unfold Hid; rw [← HP.out, decide_eq_true h64, Bool.true_and, Bool.true_and]
      clear c1 c2 hb2 hB hR hre hrg
      go_wp2_with fail
      go_loopw [3] (fun i wr => (∃ k : Nat, i = .int .i64 (k : Int) ∧ k ≤ n ∧ ∀ j (h : j < es.length), j < k → seedOK es[j].con ∧ (0 < j → (es[j - 1]'(by omega)).t < es[j].t)) ∧ Below w2.heap.size w2 wr) (fun i _ => n - (intOf i).toNat)
      case atStart => exact ⟨⟨0, rfl, by omega, fun j _ hj => by omega⟩, Below.refl _ _⟩
      case round =>
        obtain ⟨⟨k, rfl, hk, hs⟩, hBr⟩ := hrel
        have hRr := hR2.later hBr
        have HB3 := Lib.hid (below_step HB2.out hBr)
        by_cases hlt : k < n
        · have hkl : k < es.length := by rw [HN.out]; exact hlt
          obtain ⟨b, o, rfl, hb, _, p0, _, p2⟩ := hre2.one hkl
          replace p0 := (hBr.cell (p := ⟨b, o + k * 3, none⟩) hb).trans p0
          replace p2 := (hBr.cell (p := ⟨b, o + k * 3 + 2, none⟩) hb).trans p2
          have HS : Hid (seedOK es[k].con ∧ (0 < k → (es[k - 1]'(by omega)).t < es[k].t) → ∀ j (h : j < es.length), j < k + 1 → seedOK es[j].con ∧ (0 < j → (es[j - 1]'(by omega)).t < es[j].t)) := fun h j hj hjk => by
            by_cases e : j = k
            · subst e; exact h
            · exact hs j hj (by omega)
          have HE : Hid (¬ (seedOK es[k].con ∧ (0 < k → (es[k - 1]'(by omega)).t < es[k].t)) → okE (conE es) = false) := fun h => by
            rw [Bool.eq_false_iff]
            intro hok
            have h1 := (okE_at _).1 hok k (by rw [conE_length]; exact hkl)
            rw [conE_get es k hkl] at h1
            refine h ⟨h1.1, fun h0 => ?_⟩
            have h2 := h1.2 h0
            rw [conE_get es (k - 1) (by omega)] at h2
            exact h2
          have hxl := HML.out _ (List.getElem_mem hkl)
          have i0 : (0 : Int) ≤ (k : Int) := by omega
          have i1 : (k : Int) < (n : Int) := by omega
          have c1w : wr.cell? ⟨w.heap.size, 1, none⟩ = some (.slice (some ⟨b, o, none⟩) n ec) := hRr.cell rfl
          have c1 : ∀ W, Below wr.heap.size wr W → W.cell? ⟨w.heap.size, 1, none⟩ = some (.slice (some ⟨b, o, none⟩) n ec) := fun W hW => (hRr.later hW).cell rfl
          have d2 : ∀ W, Below wr.heap.size wr W → W.cell? ⟨b, o + k * 3 + 2, none⟩ = some es[k].at2 := fun W hW => (hW.cell (p := ⟨b, o + k * 3 + 2, none⟩) (World.block_lt_of_cell? wr _ p2)).trans p2
          have d0 : ∀ W, Below wr.heap.size wr W → W.cell? ⟨b, o + k * 3, none⟩ = some (vNG es[k].t) := fun W hW => (hW.cell (p := ⟨b, o + k * 3, none⟩) (World.block_lt_of_cell? wr _ p0)).trans p0
          unfold ED.at2 at d2
          unfold vNG at d0
          have HSK : Hid (seedOK es[k].con ↔ 1 ≤ es[k].s.length ∧ es[k].s.length ≤ 32) := Iff.rfl
          by_cases hk0 : k = 0
          · subst hk0
            have HS2 : Hid (seedOK es[0].con → ∀ j (h : j < es.length), j < 0 + 1 → seedOK es[j].con ∧ (0 < j → (es[j - 1]'(by omega)).t < es[j].t)) := fun h => HS.out ⟨h, fun h0 => by omega⟩
            have HE2 : Hid (¬ seedOK es[0].con → okE (conE es) = false) := fun h => HE.out (fun h2 => h h2.1)
            rw [HSK.out] at HS2 HE2
            have kk : ¬ (0 : Int) < ((0 : Nat) : Int) := by omega
            generalize es[0].s.length = q at *
            clear hs HS HE p0 p2 HSK
            by_cases hq0 : q = 0
            · subst hq0
              have HPF : Hid (P = false) := HPO.out.trans (HE2.out (by omega))
              go_wp2_with fail
              have hBase := (Below.refl wr.heap.size wr).drew
              refine wp_region_plan (.step 0 false (.step 1 false (.step 2 false (.step 3 false (.step 4 false (.step 5 false (.step 6 false (.step 7 false (.step 8 false (.step 9 false (.step 10 false (.step 11 false (.step 12 false (.step 13 false (.step 14 false (.step 15 false (.step 16 false (.step 17 false (.step 18 false (.step 19 false (.step 20 false (.step 21 false (.step 22 false (.step 23 false (.step 24 false (.step 25 false (.step 26 false (.step 27 false (.step 28 false (.step 29 false (.step 30 false (.step 31 false (.step 32 false (.step 33 false (.step 34 false (.step 35 false (.step 36 false (.step 37 false (.nil))))))))))))))))))))))))))))))))))))))) (by kernel_rfl) (by kernel_rfl) (by rfl) (by kernel_rfl) ?_
              iterate 3 (refine plan_read rfl (by rfl) (v := ?_) ?_ ?_; rotate_left 1; (intro W hW; have hW0 := below_step hBase hW; (try dsimp only at hW); go_simp <;> with_reducible rfl); simp only [List.getElem_toArray, List.getElem_cons_zero, List.getElem_cons_succ, Act.put, List.setIfInBounds_toArray, List.set_cons_zero, List.set_cons_succ])
              iterate 14 (refine plan_skip rfl (by rfl) ?_; simp only [List.getElem_toArray, List.getElem_cons_zero, List.getElem_cons_succ, Act.put, List.setIfInBounds_toArray, List.set_cons_zero, List.set_cons_succ])
              iterate 2 (refine plan_read rfl (by rfl) (v := ?_) ?_ ?_; rotate_left 1; (intro W hW; have hW0 := below_step hBase hW; (try dsimp only at hW); go_simp <;> with_reducible rfl); simp only [List.getElem_toArray, List.getElem_cons_zero, List.getElem_cons_succ, Act.put, List.setIfInBounds_toArray, List.set_cons_zero, List.set_cons_succ])
              iterate 8 (refine plan_read rfl (by rfl) (v := ?_) ?_ ?_; rotate_left 1; (intro W hW; have hW0 := below_step hBase hW; (try dsimp only at hW); go_simp <;> with_reducible rfl); simp only [List.getElem_toArray, List.getElem_cons_zero, List.getElem_cons_succ, Act.put, List.setIfInBounds_toArray, List.set_cons_zero, List.set_cons_succ])
              iterate 2 (refine plan_read rfl (by rfl) (v := ?_) ?_ ?_; rotate_left 1; (intro W hW; have hW0 := below_step hBase hW; (try dsimp only at hW); go_simp <;> with_reducible rfl); simp only [List.getElem_toArray, List.getElem_cons_zero, List.getElem_cons_succ, Act.put, List.setIfInBounds_toArray, List.set_cons_zero, List.set_cons_succ])
              iterate 8 (refine plan_skip rfl (by rfl) ?_; simp only [List.getElem_toArray, List.getElem_cons_zero, List.getElem_cons_succ, Act.put, List.setIfInBounds_toArray, List.set_cons_zero, List.set_cons_succ])
              iterate 1 (refine plan_read rfl (by rfl) (v := ?_) ?_ ?_; rotate_left 1; (intro W hW; have hW0 := below_step hBase hW; (try dsimp only at hW); go_simp <;> with_reducible rfl); simp only [List.getElem_toArray, List.getElem_cons_zero, List.getElem_cons_succ, Act.put, List.setIfInBounds_toArray, List.set_cons_zero, List.set_cons_succ])
              refine plan_done ?_
              have HB4 := Lib.hid (below_step HB3.out hBase)
              clear c1 c1w d0 d2
              go_wp2_with fail
              go_ret
              exact ⟨by rw [HPF.out]; rfl, HB4.out⟩
            · have hqe : ((q : Int) == 0) = false := beq_eq_false_iff_ne.2 (by omega)
              by_cases hq32 : q ≤ 32
              · have HS3 := Lib.hid (HS2.out (by omega))
                have hqg : ¬ (32 : Int) < (q : Int) := by omega
                go_wp2_with fail
                have hBase := (Below.refl wr.heap.size wr).drew
                refine wp_region_plan (.step 0 false (.step 1 false (.step 2 false (.step 3 false (.step 4 false (.step 5 false (.step 6 false (.step 7 false (.step 8 false (.step 9 false (.step 10 false (.step 11 false (.step 12 false (.step 13 false (.step 14 false (.step 15 false (.step 16 false (.step 17 false (.step 18 false (.step 19 false (.step 20 false (.step 21 false (.step 22 false (.step 23 false (.step 24 false (.step 25 false (.step 26 false (.step 27 false (.step 28 false (.step 29 false (.step 30 false (.step 31 false (.step 32 false (.step 33 false (.step 34 false (.step 35 false (.step 36 false (.step 37 false (.nil))))))))))))))))))))))))))))))))))))))) (by kernel_rfl) (by kernel_rfl) (by rfl) (by kernel_rfl) ?_
                iterate 3 (refine plan_read rfl (by rfl) (v := ?_) ?_ ?_; rotate_left 1; (intro W hW; have hW0 := below_step hBase hW; (try dsimp only at hW); go_simp <;> with_reducible rfl); simp only [List.getElem_toArray, List.getElem_cons_zero, List.getElem_cons_succ, Act.put, List.setIfInBounds_toArray, List.set_cons_zero, List.set_cons_succ])
                iterate 14 (refine plan_skip rfl (by rfl) ?_; simp only [List.getElem_toArray, List.getElem_cons_zero, List.getElem_cons_succ, Act.put, List.setIfInBounds_toArray, List.set_cons_zero, List.set_cons_succ])
                iterate 2 (refine plan_read rfl (by rfl) (v := ?_) ?_ ?_; rotate_left 1; (intro W hW; have hW0 := below_step hBase hW; (try dsimp only at hW); go_simp <;> with_reducible rfl); simp only [List.getElem_toArray, List.getElem_cons_zero, List.getElem_cons_succ, Act.put, List.setIfInBounds_toArray, List.set_cons_zero, List.set_cons_succ])
                iterate 8 (refine plan_read rfl (by rfl) (v := ?_) ?_ ?_; rotate_left 1; (intro W hW; have hW0 := below_step hBase hW; (try dsimp only at hW); go_simp <;> with_reducible rfl); simp only [List.getElem_toArray, List.getElem_cons_zero, List.getElem_cons_succ, Act.put, List.setIfInBounds_toArray, List.set_cons_zero, List.set_cons_succ])
                iterate 2 (refine plan_read rfl (by rfl) (v := ?_) ?_ ?_; rotate_left 1; (intro W hW; have hW0 := below_step hBase hW; (try dsimp only at hW); go_simp <;> with_reducible rfl); simp only [List.getElem_toArray, List.getElem_cons_zero, List.getElem_cons_succ, Act.put, List.setIfInBounds_toArray, List.set_cons_zero, List.set_cons_succ])
                iterate 8 (refine plan_read rfl (by rfl) (v := ?_) ?_ ?_; rotate_left 1; (intro W hW; have hW0 := below_step hBase hW; (try dsimp only at hW); go_simp <;> with_reducible rfl); simp only [List.getElem_toArray, List.getElem_cons_zero, List.getElem_cons_succ, Act.put, List.setIfInBounds_toArray, List.set_cons_zero, List.set_cons_succ])
                iterate 1 (refine plan_read rfl (by rfl) (v := ?_) ?_ ?_; rotate_left 1; (intro W hW; have hW0 := below_step hBase hW; (try dsimp only at hW); go_simp <;> with_reducible rfl); simp only [List.getElem_toArray, List.getElem_cons_zero, List.getElem_cons_succ, Act.put, List.setIfInBounds_toArray, List.set_cons_zero, List.set_cons_succ])
                refine plan_done ?_
                have HB4 := Lib.hid (hBr.trans (hBase.mono hBr.size))
                clear c1 c1w d0 d2
                go_wp2_with fail
                go_roundw
                case rel => exact ⟨⟨0 + 1, by go_num, by omega, HS3.out⟩, HB4.out⟩
                case measure => simp [intOf]; omega
              · have HPF : Hid (P = false) := HPO.out.trans (HE2.out (by omega))
                have hqg : (32 : Int) < (q : Int) := by omega
                go_wp2_with fail
                have hBase := (Below.refl wr.heap.size wr).drew
                refine wp_region_plan (.step 0 false (.step 1 false (.step 2 false (.step 3 false (.step 4 false (.step 5 false (.step 6 false (.step 7 false (.step 8 false (.step 9 false (.step 10 false (.step 11 false (.step 12 false (.step 13 false (.step 14 false (.step 15 false (.step 16 false (.step 17 false (.step 18 false (.step 19 false (.step 20 false (.step 21 false (.step 22 false (.step 23 false (.step 24 false (.step 25 false (.step 26 false (.step 27 false (.step 28 false (.step 29 false (.step 30 false (.step 31 false (.step 32 false (.step 33 false (.step 34 false (.step 35 false (.step 36 false (.step 37 false (.nil))))))))))))))))))))))))))))))))))))))) (by kernel_rfl) (by kernel_rfl) (by rfl) (by kernel_rfl) ?_
                iterate 3 (refine plan_read rfl (by rfl) (v := ?_) ?_ ?_; rotate_left 1; (intro W hW; have hW0 := below_step hBase hW; (try dsimp only at hW); go_simp <;> with_reducible rfl); simp only [List.getElem_toArray, List.getElem_cons_zero, List.getElem_cons_succ, Act.put, List.setIfInBounds_toArray, List.set_cons_zero, List.set_cons_succ])
                iterate 14 (refine plan_skip rfl (by rfl) ?_; simp only [List.getElem_toArray, List.getElem_cons_zero, List.getElem_cons_succ, Act.put, List.setIfInBounds_toArray, List.set_cons_zero, List.set_cons_succ])
                iterate 2 (refine plan_read rfl (by rfl) (v := ?_) ?_ ?_; rotate_left 1; (intro W hW; have hW0 := below_step hBase hW; (try dsimp only at hW); go_simp <;> with_reducible rfl); simp only [List.getElem_toArray, List.getElem_cons_zero, List.getElem_cons_succ, Act.put, List.setIfInBounds_toArray, List.set_cons_zero, List.set_cons_succ])
                iterate 8 (refine plan_read rfl (by rfl) (v := ?_) ?_ ?_; rotate_left 1; (intro W hW; have hW0 := below_step hBase hW; (try dsimp only at hW); go_simp <;> with_reducible rfl); simp only [List.getElem_toArray, List.getElem_cons_zero, List.getElem_cons_succ, Act.put, List.setIfInBounds_toArray, List.set_cons_zero, List.set_cons_succ])
                iterate 2 (refine plan_read rfl (by rfl) (v := ?_) ?_ ?_; rotate_left 1; (intro W hW; have hW0 := below_step hBase hW; (try dsimp only at hW); go_simp <;> with_reducible rfl); simp only [List.getElem_toArray, List.getElem_cons_zero, List.getElem_cons_succ, Act.put, List.setIfInBounds_toArray, List.set_cons_zero, List.set_cons_succ])
                iterate 8 (refine plan_read rfl (by rfl) (v := ?_) ?_ ?_; rotate_left 1; (intro W hW; have hW0 := below_step hBase hW; (try dsimp only at hW); go_simp <;> with_reducible rfl); simp only [List.getElem_toArray, List.getElem_cons_zero, List.getElem_cons_succ, Act.put, List.setIfInBounds_toArray, List.set_cons_zero, List.set_cons_succ])
                iterate 1 (refine plan_read rfl (by rfl) (v := ?_) ?_ ?_; rotate_left 1; (intro W hW; have hW0 := below_step hBase hW; (try dsimp only at hW); go_simp <;> with_reducible rfl); simp only [List.getElem_toArray, List.getElem_cons_zero, List.getElem_cons_succ, Act.put, List.setIfInBounds_toArray, List.set_cons_zero, List.set_cons_succ])
                refine plan_done ?_
                have HB4 := Lib.hid (below_step HB3.out hBase)
                clear c1 c1w d0 d2
                go_wp2_with fail
                go_ret
                exact ⟨by rw [HPF.out]; rfl, HB4.out⟩
          · obtain ⟨a, ha⟩ : ∃ a, a = k - 1 := ⟨_, rfl⟩
            have hw : IntKind.i64.wrap ((k : Int) - 1) = (a : Int) := by rw [IntKind.wrap_i64]; omega
            have hka : a < es.length := by omega
            obtain ⟨b', o', e', hb', _, q0, _, _⟩ := hre2.one hka
            injection e' with e'
            injection e' with e1 e2 _
            subst e1 e2
            replace q0 := (hBr.cell (p := ⟨b, o + a * 3, none⟩) hb).trans q0
            have f0 : ∀ W, Below wr.heap.size wr W → W.cell? ⟨b, o + a * 3, none⟩ = some (vNG es[a].t) := fun W hW => (hW.cell (p := ⟨b, o + a * 3, none⟩) (World.block_lt_of_cell? wr _ q0)).trans q0
            unfold vNG at f0
            have HS2 : Hid (seedOK es[k].con → es[a].t < es[k].t → ∀ j (h : j < es.length), j < k + 1 → seedOK es[j].con ∧ (0 < j → (es[j - 1]'(by omega)).t < es[j].t)) := fun h h1 => HS.out ⟨h, fun h0 => by subst ha; exact h1⟩
            have HE2 : Hid (¬ seedOK es[k].con → okE (conE es) = false) := fun h => HE.out (fun h2 => h h2.1)
            have HE3 : Hid (¬ es[a].t < es[k].t → okE (conE es) = false) := fun h => HE.out (fun h2 => h (by subst ha; exact h2.2 (by omega)))
            rw [HSK.out] at HS2 HE2
            have kk : (0 : Int) < (k : Int) := by omega
            have kd : decide ((0 : Int) < (k : Int)) = true := decide_eq_true kk
            have kn : 0 < k := by omega
            have a0 : (0 : Int) ≤ (a : Int) := by omega
            have a1 : (a : Int) < (n : Int) := by omega
            generalize es[k].s.length = q at *
            generalize es[k].t = tk at *
            generalize es[a].t = ta at *
            clear hs HS HE p0 p2 q0 HSK ha
            by_cases hord : ta < tk
            · have hor : ¬ (tk : Int) ≤ (ta : Int) := by omega
              have hon : decide (tk ≤ ta) = false := decide_eq_false (by omega)
              replace HS2 := Lib.hid (fun h => HS2.out h hord)
              by_cases hq0 : q = 0
              · subst hq0
                have HPF : Hid (P = false) := HPO.out.trans (HE2.out (by omega))
                go_wp2_with fail
                have hBase := (Below.refl wr.heap.size wr).drew
                refine wp_region_plan (.step 0 false (.step 1 false (.step 2 false (.step 3 false (.step 4 false (.step 5 false (.step 6 false (.step 7 false (.step 8 false (.step 9 false (.step 10 false (.step 11 false (.step 12 false (.step 13 false (.step 14 false (.step 15 false (.step 16 false (.step 17 false (.step 18 false (.step 19 false (.step 20 false (.step 21 false (.step 22 false (.step 23 false (.step 24 false (.step 25 false (.step 26 false (.step 27 false (.step 28 false (.step 29 false (.step 30 false (.step 31 false (.step 32 false (.step 33 false (.step 34 false (.step 35 false (.step 36 false (.step 37 false (.nil))))))))))))))))))))))))))))))))))))))) (by kernel_rfl) (by kernel_rfl) (by rfl) (by kernel_rfl) ?_
                iterate 3 (refine plan_read rfl (by rfl) (v := ?_) ?_ ?_; rotate_left 1; (intro W hW; have hW0 := below_step hBase hW; (try dsimp only at hW); go_simp <;> with_reducible rfl); simp only [List.getElem_toArray, List.getElem_cons_zero, List.getElem_cons_succ, Act.put, List.setIfInBounds_toArray, List.set_cons_zero, List.set_cons_succ])
                iterate 14 (refine plan_read rfl (by rfl) (v := ?_) ?_ ?_; rotate_left 1; (intro W hW; have hW0 := below_step hBase hW; (try dsimp only at hW); go_simp <;> with_reducible rfl); simp only [List.getElem_toArray, List.getElem_cons_zero, List.getElem_cons_succ, Act.put, List.setIfInBounds_toArray, List.set_cons_zero, List.set_cons_succ])
                iterate 2 (refine plan_read rfl (by rfl) (v := ?_) ?_ ?_; rotate_left 1; (intro W hW; have hW0 := below_step hBase hW; (try dsimp only at hW); go_simp <;> with_reducible rfl); simp only [List.getElem_toArray, List.getElem_cons_zero, List.getElem_cons_succ, Act.put, List.setIfInBounds_toArray, List.set_cons_zero, List.set_cons_succ])
                iterate 8 (refine plan_read rfl (by rfl) (v := ?_) ?_ ?_; rotate_left 1; (intro W hW; have hW0 := below_step hBase hW; (try dsimp only at hW); go_simp <;> with_reducible rfl); simp only [List.getElem_toArray, List.getElem_cons_zero, List.getElem_cons_succ, Act.put, List.setIfInBounds_toArray, List.set_cons_zero, List.set_cons_succ])
                iterate 2 (refine plan_read rfl (by rfl) (v := ?_) ?_ ?_; rotate_left 1; (intro W hW; have hW0 := below_step hBase hW; (try dsimp only at hW); go_simp <;> with_reducible rfl); simp only [List.getElem_toArray, List.getElem_cons_zero, List.getElem_cons_succ, Act.put, List.setIfInBounds_toArray, List.set_cons_zero, List.set_cons_succ])
                iterate 8 (refine plan_skip rfl (by rfl) ?_; simp only [List.getElem_toArray, List.getElem_cons_zero, List.getElem_cons_succ, Act.put, List.setIfInBounds_toArray, List.set_cons_zero, List.set_cons_succ])
                iterate 1 (refine plan_read rfl (by rfl) (v := ?_) ?_ ?_; rotate_left 1; (intro W hW; have hW0 := below_step hBase hW; (try dsimp only at hW); go_simp <;> with_reducible rfl); simp only [List.getElem_toArray, List.getElem_cons_zero, List.getElem_cons_succ, Act.put, List.setIfInBounds_toArray, List.set_cons_zero, List.set_cons_succ])
                refine plan_done ?_
                have HB4 := Lib.hid (below_step HB3.out hBase)
                clear c1 c1w d0 d2 f0
                go_wp2_with fail
                go_ret
                exact ⟨by rw [HPF.out]; rfl, HB4.out⟩
              · have hqe : ((q : Int) == 0) = false := beq_eq_false_iff_ne.2 (by omega)
                by_cases hq32 : q ≤ 32
                · have HS3 := Lib.hid (HS2.out (by omega))
                  have hqg : ¬ (32 : Int) < (q : Int) := by omega
                  go_wp2_with fail
                  have hBase := (Below.refl wr.heap.size wr).drew
                  refine wp_region_plan (.step 0 false (.step 1 false (.step 2 false (.step 3 false (.step 4 false (.step 5 false (.step 6 false (.step 7 false (.step 8 false (.step 9 false (.step 10 false (.step 11 false (.step 12 false (.step 13 false (.step 14 false (.step 15 false (.step 16 false (.step 17 false (.step 18 false (.step 19 false (.step 20 false (.step 21 false (.step 22 false (.step 23 false (.step 24 false (.step 25 false (.step 26 false (.step 27 false (.step 28 false (.step 29 false (.step 30 false (.step 31 false (.step 32 false (.step 33 false (.step 34 false (.step 35 false (.step 36 false (.step 37 false (.nil))))))))))))))))))))))))))))))))))))))) (by kernel_rfl) (by kernel_rfl) (by rfl) (by kernel_rfl) ?_
                  iterate 3 (refine plan_read rfl (by rfl) (v := ?_) ?_ ?_; rotate_left 1; (intro W hW; have hW0 := below_step hBase hW; (try dsimp only at hW); go_simp <;> with_reducible rfl); simp only [List.getElem_toArray, List.getElem_cons_zero, List.getElem_cons_succ, Act.put, List.setIfInBounds_toArray, List.set_cons_zero, List.set_cons_succ])
                  iterate 14 (refine plan_read rfl (by rfl) (v := ?_) ?_ ?_; rotate_left 1; (intro W hW; have hW0 := below_step hBase hW; (try dsimp only at hW); go_simp <;> with_reducible rfl); simp only [List.getElem_toArray, List.getElem_cons_zero, List.getElem_cons_succ, Act.put, List.setIfInBounds_toArray, List.set_cons_zero, List.set_cons_succ])
                  iterate 2 (refine plan_read rfl (by rfl) (v := ?_) ?_ ?_; rotate_left 1; (intro W hW; have hW0 := below_step hBase hW; (try dsimp only at hW); go_simp <;> with_reducible rfl); simp only [List.getElem_toArray, List.getElem_cons_zero, List.getElem_cons_succ, Act.put, List.setIfInBounds_toArray, List.set_cons_zero, List.set_cons_succ])
                  iterate 8 (refine plan_read rfl (by rfl) (v := ?_) ?_ ?_; rotate_left 1; (intro W hW; have hW0 := below_step hBase hW; (try dsimp only at hW); go_simp <;> with_reducible rfl); simp only [List.getElem_toArray, List.getElem_cons_zero, List.getElem_cons_succ, Act.put, List.setIfInBounds_toArray, List.set_cons_zero, List.set_cons_succ])
                  iterate 2 (refine plan_read rfl (by rfl) (v := ?_) ?_ ?_; rotate_left 1; (intro W hW; have hW0 := below_step hBase hW; (try dsimp only at hW); go_simp <;> with_reducible rfl); simp only [List.getElem_toArray, List.getElem_cons_zero, List.getElem_cons_succ, Act.put, List.setIfInBounds_toArray, List.set_cons_zero, List.set_cons_succ])
                  iterate 8 (refine plan_read rfl (by rfl) (v := ?_) ?_ ?_; rotate_left 1; (intro W hW; have hW0 := below_step hBase hW; (try dsimp only at hW); go_simp <;> with_reducible rfl); simp only [List.getElem_toArray, List.getElem_cons_zero, List.getElem_cons_succ, Act.put, List.setIfInBounds_toArray, List.set_cons_zero, List.set_cons_succ])
                  iterate 1 (refine plan_read rfl (by rfl) (v := ?_) ?_ ?_; rotate_left 1; (intro W hW; have hW0 := below_step hBase hW; (try dsimp only at hW); go_simp <;> with_reducible rfl); simp only [List.getElem_toArray, List.getElem_cons_zero, List.getElem_cons_succ, Act.put, List.setIfInBounds_toArray, List.set_cons_zero, List.set_cons_succ])
                  refine plan_done ?_
                  have HB4 := Lib.hid (hBr.trans (hBase.mono hBr.size))
                  clear c1 c1w d0 d2 f0
                  go_wp2_with fail
                  go_roundw
                  case rel => exact ⟨⟨k + 1, by go_num, by omega, HS3.out⟩, HB4.out⟩
                  case measure => simp [intOf]; omega
                · have HPF : Hid (P = false) := HPO.out.trans (HE2.out (by omega))
                  have hqg : (32 : Int) < (q : Int) := by omega
                  go_wp2_with fail
                  have hBase := (Below.refl wr.heap.size wr).drew
                  refine wp_region_plan (.step 0 false (.step 1 false (.step 2 false (.step 3 false (.step 4 false (.step 5 false (.step 6 false (.step 7 false (.step 8 false (.step 9 false (.step 10 false (.step 11 false (.step 12 false (.step 13 false (.step 14 false (.step 15 false (.step 16 false (.step 17 false (.step 18 false (.step 19 false (.step 20 false (.step 21 false (.step 22 false (.step 23 false (.step 24 false (.step 25 false (.step 26 false (.step 27 false (.step 28 false (.step 29 false (.step 30 false (.step 31 false (.step 32 false (.step 33 false (.step 34 false (.step 35 false (.step 36 false (.step 37 false (.nil))))))))))))))))))))))))))))))))))))))) (by kernel_rfl) (by kernel_rfl) (by rfl) (by kernel_rfl) ?_
                  iterate 3 (refine plan_read rfl (by rfl) (v := ?_) ?_ ?_; rotate_left 1; (intro W hW; have hW0 := below_step hBase hW; (try dsimp only at hW); go_simp <;> with_reducible rfl); simp only [List.getElem_toArray, List.getElem_cons_zero, List.getElem_cons_succ, Act.put, List.setIfInBounds_toArray, List.set_cons_zero, List.set_cons_succ])
                  iterate 14 (refine plan_read rfl (by rfl) (v := ?_) ?_ ?_; rotate_left 1; (intro W hW; have hW0 := below_step hBase hW; (try dsimp only at hW); go_simp <;> with_reducible rfl); simp only [List.getElem_toArray, List.getElem_cons_zero, List.getElem_cons_succ, Act.put, List.setIfInBounds_toArray, List.set_cons_zero, List.set_cons_succ])
                  iterate 2 (refine plan_read rfl (by rfl) (v := ?_) ?_ ?_; rotate_left 1; (intro W hW; have hW0 := below_step hBase hW; (try dsimp only at hW); go_simp <;> with_reducible rfl); simp only [List.getElem_toArray, List.getElem_cons_zero, List.getElem_cons_succ, Act.put, List.setIfInBounds_toArray, List.set_cons_zero, List.set_cons_succ])
                  iterate 8 (refine plan_read rfl (by rfl) (v := ?_) ?_ ?_; rotate_left 1; (intro W hW; have hW0 := below_step hBase hW; (try dsimp only at hW); go_simp <;> with_reducible rfl); simp only [List.getElem_toArray, List.getElem_cons_zero, List.getElem_cons_succ, Act.put, List.setIfInBounds_toArray, List.set_cons_zero, List.set_cons_succ])
                  iterate 2 (refine plan_read rfl (by rfl) (v := ?_) ?_ ?_; rotate_left 1; (intro W hW; have hW0 := below_step hBase hW; (try dsimp only at hW); go_simp <;> with_reducible rfl); simp only [List.getElem_toArray, List.getElem_cons_zero, List.getElem_cons_succ, Act.put, List.setIfInBounds_toArray, List.set_cons_zero, List.set_cons_succ])
                  iterate 8 (refine plan_read rfl (by rfl) (v := ?_) ?_ ?_; rotate_left 1; (intro W hW; have hW0 := below_step hBase hW; (try dsimp only at hW); go_simp <;> with_reducible rfl); simp only [List.getElem_toArray, List.getElem_cons_zero, List.getElem_cons_succ, Act.put, List.setIfInBounds_toArray, List.set_cons_zero, List.set_cons_succ])
                  iterate 1 (refine plan_read rfl (by rfl) (v := ?_) ?_ ?_; rotate_left 1; (intro W hW; have hW0 := below_step hBase hW; (try dsimp only at hW); go_simp <;> with_reducible rfl); simp only [List.getElem_toArray, List.getElem_cons_zero, List.getElem_cons_succ, Act.put, List.setIfInBounds_toArray, List.set_cons_zero, List.set_cons_succ])
                  refine plan_done ?_
                  have HB4 := Lib.hid (below_step HB3.out hBase)
                  clear c1 c1w d0 d2 f0
                  go_wp2_with fail
                  go_ret
                  exact ⟨by rw [HPF.out]; rfl, HB4.out⟩
            · have hor : (tk : Int) ≤ (ta : Int) := by omega
              have hon : decide (tk ≤ ta) = true := decide_eq_true (by omega)
              have HPF : Hid (P = false) := HPO.out.trans (HE3.out hord)
              go_wp2_with fail
              have hBase := (Below.refl wr.heap.size wr).drew
              refine wp_region_plan (.step 0 false (.step 1 false (.step 2 false (.step 3 false (.step 4 false (.step 5 false (.step 6 false (.step 7 false (.step 8 false (.step 9 false (.step 10 false (.step 11 false (.step 12 false (.step 13 false (.step 14 false (.step 15 false (.step 16 false (.step 17 false (.step 18 false (.step 19 false (.step 20 false (.step 21 false (.step 22 false (.step 23 false (.step 24 false (.step 25 false (.step 26 false (.step 27 false (.step 28 false (.step 29 false (.step 30 false (.step 31 false (.step 32 false (.step 33 false (.step 34 false (.step 35 false (.step 36 false (.step 37 false (.nil))))))))))))))))))))))))))))))))))))))) (by kernel_rfl) (by kernel_rfl) (by rfl) (by kernel_rfl) ?_
              iterate 3 (refine plan_read rfl (by rfl) (v := ?_) ?_ ?_; rotate_left 1; (intro W hW; have hW0 := below_step hBase hW; (try dsimp only at hW); go_simp <;> with_reducible rfl); simp only [List.getElem_toArray, List.getElem_cons_zero, List.getElem_cons_succ, Act.put, List.setIfInBounds_toArray, List.set_cons_zero, List.set_cons_succ])
              iterate 14 (refine plan_read rfl (by rfl) (v := ?_) ?_ ?_; rotate_left 1; (intro W hW; have hW0 := below_step hBase hW; (try dsimp only at hW); go_simp <;> with_reducible rfl); simp only [List.getElem_toArray, List.getElem_cons_zero, List.getElem_cons_succ, Act.put, List.setIfInBounds_toArray, List.set_cons_zero, List.set_cons_succ])
              iterate 2 (refine plan_read rfl (by rfl) (v := ?_) ?_ ?_; rotate_left 1; (intro W hW; have hW0 := below_step hBase hW; (try dsimp only at hW); go_simp <;> with_reducible rfl); simp only [List.getElem_toArray, List.getElem_cons_zero, List.getElem_cons_succ, Act.put, List.setIfInBounds_toArray, List.set_cons_zero, List.set_cons_succ])
              iterate 8 (refine plan_skip rfl (by rfl) ?_; simp only [List.getElem_toArray, List.getElem_cons_zero, List.getElem_cons_succ, Act.put, List.setIfInBounds_toArray, List.set_cons_zero, List.set_cons_succ])
              iterate 2 (refine plan_read rfl (by rfl) (v := ?_) ?_ ?_; rotate_left 1; (intro W hW; have hW0 := below_step hBase hW; (try dsimp only at hW); go_simp <;> with_reducible rfl); simp only [List.getElem_toArray, List.getElem_cons_zero, List.getElem_cons_succ, Act.put, List.setIfInBounds_toArray, List.set_cons_zero, List.set_cons_succ])
              iterate 8 (refine plan_skip rfl (by rfl) ?_; simp only [List.getElem_toArray, List.getElem_cons_zero, List.getElem_cons_succ, Act.put, List.setIfInBounds_toArray, List.set_cons_zero, List.set_cons_succ])
              iterate 1 (refine plan_read rfl (by rfl) (v := ?_) ?_ ?_; rotate_left 1; (intro W hW; have hW0 := below_step hBase hW; (try dsimp only at hW); go_simp <;> with_reducible rfl); simp only [List.getElem_toArray, List.getElem_cons_zero, List.getElem_cons_succ, Act.put, List.setIfInBounds_toArray, List.set_cons_zero, List.set_cons_succ])
              refine plan_done ?_
              have HB4 := Lib.hid (below_step HB3.out hBase)
              clear c1 c1w d0 d2 f0
              go_wp2_with fail
              go_ret
              exact ⟨by rw [HPF.out]; rfl, HB4.out⟩
        · have HPT : Hid (P = true) := HPO.out.trans ((okE_at _).2 (fun j hj => by
            rw [conE_length] at hj
            have h1 := hs j hj (by have := HN.out; omega)
            rw [conE_get es j hj]
            refine ⟨h1.1, fun h0 => ?_⟩
            rw [conE_get es (j - 1) (by omega)]
            exact h1.2 h0))
          have c1 : wr.cell? ⟨w.heap.size, 1, none⟩ = some (.slice eA n ec) := hRr.cell rfl
          have hkn : ¬ (k : Int) < (n : Int) := by omega
          clear hs
          go_wp2_with fail
          go_ret
          exact ⟨by rw [HPT.out]; rfl, HB3.out⟩
  · have n64 : (64 : Int) < (n : Int) := by omega
    have HPF : Hid (P = false) := by unfold Hid; rw [← HP.out, decide_eq_false h64]; rfl
    have c1 : w1.cell? ⟨w.heap.size, 1, none⟩ = some (.slice eA n ec) := hR.cell rfl
    go_wp2_with fail
    go_ret
    exact ⟨by rw [HPF.out]; rfl, hB⟩
end Go.Proofs.YtknjpmoimjhddaaGreatDoor
