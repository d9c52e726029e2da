/-
  What the reference's call Place of layer 5 answers. No conditions but those typed.
-/
import Derived.Test.YtppdfldmbfddnaaTermMem
import Derived.Test.YtppdfldmbfddnaaWordRef
namespace Go.Proofs.Ytppdfldmbfddnaa
open Go.RowKit
set_option linter.unusedSimpArgs false
set_option linter.unusedVariables false

def PlRel (cs : List Tm) (x : Tm) (w : World) (i : Value) (wr : World) : Prop :=
  ∃ k : Nat, k ≤ cs.length ∧ i = .int .i64 (k : Int) ∧ (∀ j (h : j < k) (h' : j < cs.length), cs[j] ≠ x) ∧ Below w.heap.size w wr
theorem PlRel.next {cs : List Tm} {x : Tm} {k : Nat} (hk : k < cs.length) (h : ∀ j (h : j < k) (h' : j < cs.length), cs[j] ≠ x) (hn : cs[k] ≠ x) : ∀ j (h : j < k + 1) (h' : j < cs.length), cs[j] ≠ x := fun j hj h' => by
  rcases Nat.lt_or_ge j k with h1 | h1
  · exact h j h1 h'
  · have : j = k := by omega
    subst this
    exact hn

set_option maxHeartbeats 1000000 in
theorem refplace_any (ts : List TD) (key msg : List UInt8) (p n m : Nat) (A B C : Option Addr) (c d e : Nat) (w : World) (HP : Hid (ts.length = p)) (HN : Hid (key.length = n)) (HM : Hid (msg.length = m)) (ht : RdT w A ts) (hok : okT w ts) (hk : Rd vB w B key) (hm : Rd vB w C msg) (hp : p ≤ 1000000000) :
    Calls Try.prog 14 #[.slice A p c, .slice B n d, .slice C m e] w fun e w' => e = .returned (.int .i64 (plI (conT ts) (key, msg))) ∧ Below w.heap.size w w' := by
  have e1 := HP.out
  have e2 := HN.out
  have e3 := HM.out
  subst e1 e2 e3
  have HOK := Lib.hid hok
  clear hok HP HN HM
  go_enter Try.func14, Try.ntmps14
  go_wp2_with fail
  go_loopw [7] (fun i wr => PlRel (conT ts) (key, msg) w i wr) (fun i _ => ts.length - (intOf i).toNat)
  case atStart => exact ⟨0, Nat.zero_le _, rfl, fun j h => absurd h (by omega), Below.refl _ _⟩
  case round =>
    obtain ⟨k, hk1, rfl, hbef, hB⟩ := hrel
    by_cases hlt : k < ts.length
    · obtain ⟨blk, o, rfl, hblk, hcell⟩ := ht.at hlt
      have hx := HOK.out ts[k] (List.getElem_mem hlt)
      have hg := conT_get ts k hlt
      have hlc : k < (conT ts).length := by rw [conT_length]; exact hlt
      have HBE : Hid (ts[k].c ≠ (key, msg) → ∀ j (h : j < k + 1) (h' : j < (conT ts).length), (conT ts)[j] ≠ (key, msg)) := fun hn => PlRel.next hlc hbef (by rw [hg]; exact hn)
      have HEQ : Hid (ts[k].c = (key, msg) → plI (conT ts) (key, msg) = (k : Int)) := fun h => by
        have hi := idx_of (key, msg) (conT ts) k (by omega) hbef (.inr ⟨hlc, by rw [hg]; exact h⟩)
        rw [plI_in _ _ ((idx_lt _ _).1 (by omega)), hi]
      obtain ⟨h0, h1⟩ := hcell k hlt
      have hc0 : ∀ W, Below wr.heap.size wr W → W.cell? ⟨blk, o + k * 2, none⟩ = some ts[k].at0 := fun W hW => ((below_step hB hW).cell (p := ⟨blk, o + k * 2, none⟩) hblk).trans h0
      have hc1 : ∀ W, Below wr.heap.size wr W → W.cell? ⟨blk, o + k * 2 + 1, none⟩ = some ts[k].at1 := fun W hW => ((below_step hB hW).cell (p := ⟨blk, o + k * 2 + 1, none⟩) hblk).trans h1
      generalize ts[k] = x at hx HBE HEQ hc0 hc1
      obtain ⟨kA, kc, K, mA, mc, M⟩ := x
      obtain ⟨_, _, hK, hM⟩ := hx
      unfold TD.at0 TD.at1 at *
      unfold TD.c at HBE HEQ
      dsimp only at hK hM HBE HEQ hc0 hc1
      have hs0 : ∀ W, Below wr.heap.size wr W → (convert 23 9 (.slice kA K.length kc)).run Try.prog W = .ok (.string (strL K)) W := run_str_later Try.underlying23 Try.underlying5 Try.underlying9 (hK.keep hB)
      have hs1 : ∀ W, Below wr.heap.size wr W → (convert 23 9 (.slice B key.length d)).run Try.prog W = .ok (.string (strL key)) W := run_str_later Try.underlying23 Try.underlying5 Try.underlying9 (hk.keep hB)
      have hs2 : ∀ W, Below wr.heap.size wr W → (convert 23 9 (.slice mA M.length mc)).run Try.prog W = .ok (.string (strL M)) W := run_str_later Try.underlying23 Try.underlying5 Try.underlying9 (hM.keep hB)
      have hs3 : ∀ W, Below wr.heap.size wr W → (convert 23 9 (.slice C msg.length e)).run Try.prog W = .ok (.string (strL msg)) W := run_str_later Try.underlying23 Try.underlying5 Try.underlying9 (hm.keep hB)
      have b0 := str_beq K key
      have b1 := str_beq M msg
      have i0 : (0 : Int) ≤ (k : Int) := by omega
      have i1 : (k : Int) < (ts.length : Int) := by omega
      have hBase : Below wr.heap.size wr wr.drew := (Below.refl _ _).drew
      have HB := Lib.hid hB
      by_cases ek : K = key
      · have d0 : decide (K = key) = true := by simp [ek]
        rw [d0] at b0
        by_cases em : M = msg
        · have d1 : decide (M = msg) = true := by simp [em]
          rw [d1] at b1
          have HQ := Lib.hid (HEQ.out (by rw [ek, em]))
          generalize strL K = SK at b0 hs0
          generalize strL key = Skey at b0 hs1
          generalize strL M = SM at b1 hs2
          generalize strL msg = Smsg at b1 hs3
          clear hcell h0 h1 hK hM HBE HEQ hbef ht hk hm hg hlc hk1 ek em d0 d1 hB
          go_wp2_with fail
          refine wp_region_plan (.step 0 false (.step 1 false (.step 2 false (.step 3 false (.step 4 false (.step 5 false (.step 6 false (.step 7 false (.step 8 false (.step 9 false (.step 10 false (.step 11 false (.step 12 false (.step 13 false (.step 14 false (.step 15 false (.step 16 false (.step 17 false (.step 18 false (.step 19 false (.nil))))))))))))))))))))) (by kernel_rfl) (by kernel_rfl) (by rfl) (by kernel_rfl) ?_
          iterate 20 (refine plan_read rfl (by rfl) (v := ?_) ?_ ?_; rotate_left 1; (intro W hW; have hW0 := below_step hBase hW; (try dsimp only at hW); go_simp <;> with_reducible rfl); simp only [List.getElem_toArray, List.getElem_cons_zero, List.getElem_cons_succ, Act.put, List.setIfInBounds_toArray, List.set_cons_zero, List.set_cons_succ])
          refine plan_done ?_
          go_wp2_with fail
          go_ret
          exact ⟨by rw [HQ.out]; rfl, HB.out.drew⟩
        · have d1 : decide (M = msg) = false := by simp [em]
          rw [d1] at b1
          have HR : Hid (PlRel (conT ts) (key, msg) w (.int .i64 ((k : Int) + 1)) wr.drew) := ⟨k + 1, hlc, by go_num, HBE.out (fun e => em (Prod.mk.inj e).2), hB.drew⟩
          generalize strL K = SK at b0 hs0
          generalize strL key = Skey at b0 hs1
          generalize strL M = SM at b1 hs2
          generalize strL msg = Smsg at b1 hs3
          clear hcell h0 h1 hK hM HBE HEQ hbef ht hk hm hg hlc hk1 ek em d0 d1 hB
          go_wp2_with fail
          refine wp_region_plan (.step 0 false (.step 1 false (.step 2 false (.step 3 false (.step 4 false (.step 5 false (.step 6 false (.step 7 false (.step 8 false (.step 9 false (.step 10 false (.step 11 false (.step 12 false (.step 13 false (.step 14 false (.step 15 false (.step 16 false (.step 17 false (.step 18 false (.step 19 false (.nil))))))))))))))))))))) (by kernel_rfl) (by kernel_rfl) (by rfl) (by kernel_rfl) ?_
          iterate 20 (refine plan_read rfl (by rfl) (v := ?_) ?_ ?_; rotate_left 1; (intro W hW; have hW0 := below_step hBase hW; (try dsimp only at hW); go_simp <;> with_reducible rfl); simp only [List.getElem_toArray, List.getElem_cons_zero, List.getElem_cons_succ, Act.put, List.setIfInBounds_toArray, List.set_cons_zero, List.set_cons_succ])
          refine plan_done ?_
          go_wp2_with fail
          go_roundw
          case rel => exact HR.out
          case measure => simp [intOf]; omega
      · have d0 : decide (K = key) = false := by simp [ek]
        rw [d0] at b0
        have HR : Hid (PlRel (conT ts) (key, msg) w (.int .i64 ((k : Int) + 1)) wr.drew) := ⟨k + 1, hlc, by go_num, HBE.out (fun e => ek (Prod.mk.inj e).1), hB.drew⟩
        generalize strL K = SK at b0 hs0
        generalize strL key = Skey at b0 hs1
        clear hcell h0 h1 hK hM HBE HEQ hbef ht hk hm hg hlc hk1 ek d0 hB b1
        go_wp2_with fail
        refine wp_region_plan (.step 0 false (.step 1 false (.step 2 false (.step 3 false (.step 4 false (.step 5 false (.step 6 false (.step 7 false (.step 8 false (.step 9 false (.step 10 false (.step 11 false (.step 12 false (.step 13 false (.step 14 false (.step 15 false (.step 16 false (.step 17 false (.step 18 false (.step 19 false (.nil))))))))))))))))))))) (by kernel_rfl) (by kernel_rfl) (by rfl) (by kernel_rfl) ?_
        iterate 10 (refine plan_read rfl (by rfl) (v := ?_) ?_ ?_; rotate_left 1; (intro W hW; have hW0 := below_step hBase hW; (try dsimp only at hW); go_simp <;> with_reducible rfl); simp only [List.getElem_toArray, List.getElem_cons_zero, List.getElem_cons_succ, Act.put, List.setIfInBounds_toArray, List.set_cons_zero, List.set_cons_succ])
        iterate 9 (refine plan_skip rfl (by rfl) ?_; simp only [List.getElem_toArray, List.getElem_cons_zero, List.getElem_cons_succ, Act.put, List.setIfInBounds_toArray, List.set_cons_zero, List.set_cons_succ])
        iterate 1 (refine plan_read rfl (by rfl) (v := ?_) ?_ ?_; rotate_left 1; (intro W hW; have hW0 := below_step hBase hW; (try dsimp only at hW); go_simp <;> with_reducible rfl); simp only [List.getElem_toArray, List.getElem_cons_zero, List.getElem_cons_succ, Act.put, List.setIfInBounds_toArray, List.set_cons_zero, List.set_cons_succ])
        refine plan_done ?_
        go_wp2_with fail
        go_roundw
        case rel => exact HR.out
        case measure => simp [intOf]; omega
    · have hn : plI (conT ts) (key, msg) = -1 := by
        refine plI_out _ _ (fun hx => ?_)
        have h1 := (idx_lt _ _).2 hx
        exact hbef _ (by rw [conT_length] at h1; omega) h1 (idx_get _ _ h1)
      have j1 : ¬ (k : Int) < (ts.length : Int) := by omega
      have HN := Lib.hid hn
      clear hn hbef hk1
      go_wp2_with fail
      go_ret
      exact ⟨by rw [HN.out]; rfl, hB⟩

end Go.Proofs.Ytppdfldmbfddnaa
