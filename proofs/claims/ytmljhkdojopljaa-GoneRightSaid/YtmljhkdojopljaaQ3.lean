/-
  What the reference's Put of layer 15 answers. No conditions but those typed.
-/
import Derived.Test.YtmljhkdojopljaaQ2
import Derived.RangeFuncNested
import Derived.RangeFuncBound
import Derived.RangeFuncCalls
import Derived.RangeFuncLeaves
import Derived.Shelf.Abstract
import Derived.Shelf.RegionOpen
import Derived.WalkKit
import Derived.OwnWalkIn
import Derived.TacticsInMore
import Derived.LoopNIn
import Derived.LoopIn
import Derived.StillTailTactics
import Derived.OrdersIn
import Derived.TacticsIn
import Derived.Deep.DeepCutAuto
import Derived.Lib.SmallJoins
import Derived.Lib.SlBytesConst
import Derived.ProofKit
import Derived.OpenShut
import Derived.Deep.Slices
import Derived.Deep.Strs
import Derived.Test.YtmljhkdojopljaaRows
namespace Go.Proofs.Ytmljhkdojopljaa
set_option maxRecDepth 100000
open Go.RowKit
set_option linter.unusedSimpArgs false
set_option linter.unusedVariables false

/-- A pair in a new block, as a list of one. -/
theorem rdG_one (w : World) (a b : Nat) (t : TypeId) : RdG (w.alloc (.cells #[.int .u64 (a : Int), .int .u64 (b : Int)] t)) (some ⟨w.heap.size, 0, none⟩) [(a, b)] := fun _ => by
  refine ⟨w.heap.size, 0, rfl, fun i hi => ?_⟩
  have hi0 : i = 0 := by simpa using hi
  subst hi0
  have hRn : Row (w.alloc (.cells #[.int .u64 (a : Int), .int .u64 (b : Int)] t)) w.heap.size t [.int .u64 (a : Int), .int .u64 (b : Int)] := Row.new w _ _ _ rfl
  exact ⟨hRn.cell rfl, hRn.cell rfl⟩
def RPut (l : List Gn) (g : Gn) (n : Nat) (w1 : World) (base : Nat) (v i : Value) (wr : World) : Prop :=
  ∃ k : Nat, i = .int .i64 (k : Int) ∧ k ≤ n ∧ (∀ j (h : j < l.length), j < k → ltG l[j] g = true) ∧ wr.ownsRow base 46 2 v k (cellsG (l.take k)) ∧ Below w1.heap.size w1 wr
theorem cellsG_takeS (l : List Gn) (k : Nat) (h : k < l.length) : cellsG (l.take (k + 1)) = cellsG (l.take k) ++ cellsG [l[k]] := by rw [List.take_succ_eq_append_getElem h, cellsG_app]

set_option maxHeartbeats 2000000 in
theorem refput15_any (l : List Gn) (g : Gn) (n c : Nat) (A : Option Addr) (w : World) (HN : Hid (l.length = n)) (hr : RdG w A l) (hn : n ≤ 1000000000) (hc : n ≤ c) :
    Calls Try.prog 22 #[.slice A n c, aggG g] w (RetPut w (putG l g).1 (putG l g).2) := by
  obtain ⟨j0, hj, gz0, gz1, gz2⟩ := info_parts info_gone
  obtain ⟨g0, hg0⟩ : ∃ x, x = g.1 := ⟨_, rfl⟩
  obtain ⟨g1, hg1⟩ : ∃ x, x = g.2 := ⟨_, rfl⟩
  have HE : Hid (g = (g0, g1)) := by unfold Hid; rw [hg0, hg1]
  have hhs := fun W hW => refhas15_any l g n c A W HN (hr.keep hW) hn
  have HHS := Lib.hid hhs
  clear hhs
  unfold aggG vNG at HHS ⊢
  rw [← hg0, ← hg1] at HHS ⊢
  clear hg0 hg1
  obtain ⟨P, hP⟩ : ∃ P, P = putG l g := ⟨_, rfl⟩
  rw [← hP]
  have hR : Row (w.alloc (.cells #[.int .u64 (g0 : Int), .int .u64 (g1 : Int)] 46)) w.heap.size 46 [.int .u64 (g0 : Int), .int .u64 (g1 : Int)] := Row.new w _ _ _ rfl
  have hB0 := below_new (Below.refl _ w) (.cells #[.int .u64 (g0 : Int), .int .u64 (g1 : Int)] 46)
  go_enter Try.func22, Try.ntmps22
  go_upto_region 1 with fail
  generalize w.alloc (.cells #[.int .u64 (g0 : Int), .int .u64 (g1 : Int)] 46) = w1 at hR hB0 ⊢
  have hbg := hR.lt
  obtain ⟨bg, hbgE⟩ : ∃ bg, bg = w.heap.size := ⟨_, rfl⟩
  rw [← hbgE] at hR hbg ⊢
  have HBG := Lib.hid hbgE
  clear hbgE
  go_wp2_with fail
  refine (refright15_any l n c A _ HN (hr.keep hB0) hn).mono ?_
  rintro e w2 ⟨rfl, hb2⟩
  have hB2 := hB0.trans (hb2.mono hB0.size)
  have hR2 := hR.later hb2
  rcases put_cases l g with ⟨hrt, hpt⟩ | ⟨hrt, hm, hpt⟩ | ⟨hrt, hm, h64, hpt⟩ | ⟨hrt, hm, h64, hpt⟩
  · rw [hrt]
    rw [hpt] at hP
    subst hP
    have HB2 := Lib.hid hB2
    clear hb2 hB2 hrt hpt
    go_wp2_with fail
    go_ret2
    exact ⟨_, rfl, World.ownsRow_nil _ _ _ _, HB2.out⟩
  all_goals rw [hrt]
  all_goals rw [hpt] at hP
  all_goals subst hP
  all_goals (have HS : Hid (sortG l = true) := (sort_pair l).2 (right_parts.1 hrt).1)
  all_goals (have hc0 := hR2.cell (i := 0) rfl)
  all_goals (have hc1 := hR2.cell (i := 1) rfl)
  all_goals (have HB2 := Lib.hid hB2)
  all_goals clear hb2 hB2 hrt hpt
  all_goals go_wp2_with fail
  all_goals (refine (HHS.out _ HB2.out).mono ?_)
  all_goals (rintro e w3 ⟨rfl, hb3⟩)
  all_goals (have HB3 := Lib.hid (HB2.out.trans (hb3.mono HB2.out.size)))
  all_goals (have hR3 := hR2.later hb3)
  all_goals clear hc0 hc1 hb3
  · have hh : hasG l g = true := by unfold hasG; exact decide_eq_true hm
    rw [hh]
    have e1 := HN.out
    subst e1
    clear hh hm
    have hown0 : (w3.alloc (.cells #[] 46)).ownsRow w3.heap.size 46 2 (.slice (some ⟨w3.heap.size, 0, none⟩) 0 0) 0 [] := World.ownsRow_made w3 #[] 0 (Nat.le_refl _) (by unfold maxLen; omega) rfl
    have hr0 : RdG (w3.alloc (.cells #[] 46)) A l := (hr.keep HB3.out).keep (below_new (Below.refl _ _) _)
    go_wp2_with (at_builtin; refine wpList_append_rdG _ rfl (.tmp 14) (.tmp 15) 44 rfl w3.heap.size 46 j0 (.agg #[.int .u64 0, .int .u64 0]) 16 Try.underlying44 hj gz0 gz1 gz2 rfl _ _ _ rfl hown0 A l c rfl hr0 (by unfold maxLen; omega) (by omega) (by simp) ?_; intro v1 w4 hown1 hgrow1 _)
    go_ret2
    rw [Nat.zero_add, List.nil_append] at hown1
    exact ⟨_, rfl, ownsRowG_base hown1 HB3.out.size, HB3.out.trans (((below_new (Below.refl _ w3) _).grown hgrow1 (by simp) (fun k hk => (hown0.lt k hk).1)).mono HB3.out.size)⟩
  · have hh : hasG l g = false := by unfold hasG; exact decide_eq_false hm
    rw [hh]
    have e1 : n = 64 := HN.out.symm.trans h64
    subst e1
    clear hh hm h64
    go_wp2_with fail
    go_ret2
    exact ⟨_, rfl, World.ownsRow_nil _ _ _ _, HB3.out⟩
  · have hh : hasG l g = false := by unfold hasG; exact decide_eq_false hm
    rw [hh]
    have hn64 : ((n : Int) == 64) = false := by
      have := HN.out
      simp
      omega
    have HL : Hid (l.length < 64) := h64
    have hn6 : n < 64 := by have := HN.out; omega
    have HB3' := HB3.out
    clear hh hm h64
    go_wp2_with fail
    go_loopw [6, 7] (fun v i wr => RPut l g n w3 w3.heap.size v i wr) (fun _ i _ => n - (intOf i).toNat)
    case atStart => exact ⟨0, rfl, by omega, fun j _ hj => by omega, World.ownsRow_nil _ _ _ _, Below.refl _ _⟩
    case round =>
      obtain ⟨k, rfl, hk, hlo, hown, hB⟩ := hrel
      have hRr := hR3.later hB
      have hBw : Below w.heap.size w wr := HB3.out.trans (hB.mono HB3.out.size)
      have hbw := hBw.size
      by_cases hlt : k < n
      · have hkl : k < l.length := by rw [HN.out]; exact hlt
        obtain ⟨b, o, rfl, hb, hrng, p0, p1⟩ := (hr.keep HB3.out).pair hkl
        replace p0 := (hB.cell (p := ⟨b, o + k * 2, none⟩) hb).trans p0
        replace p1 := (hB.cell (p := ⟨b, o + k * 2 + 1, none⟩) hb).trans p1
        have HT : Hid (ltG l[k] g = true → ∀ j (h : j < l.length), j < k + 1 → ltG l[j] g = true) := fun h => pl_left HS.out hkl h
        have HPL : Hid (ltG l[k] g = false → PlG l g k) := fun h => ⟨hlo, pl_right HS.out hkl h⟩
        have HCE := Lib.hid (cellsG_takeS l k hkl)
        generalize l[k] = x at p0 p1 HT HPL HCE
        obtain ⟨x0, x1⟩ := x
        unfold vNG at p0 p1
        dsimp only at p0 p1
        have d0 : ∀ W, Below wr.heap.size wr W → W.cell? ⟨b, o + k * 2, none⟩ = some (.int .u64 (x0 : Int)) := fun W hW => (hW.cell (p := ⟨b, o + k * 2, none⟩) (World.block_lt_of_cell? wr _ p0)).trans p0
        have d1 : ∀ W, Below wr.heap.size wr W → W.cell? ⟨b, o + k * 2 + 1, none⟩ = some (.int .u64 (x1 : Int)) := fun W hW => (hW.cell (p := ⟨b, o + k * 2 + 1, none⟩) (World.block_lt_of_cell? wr _ p1)).trans p1
        have d2 : ∀ W, Below wr.heap.size wr W → W.cell? ⟨bg, 0, none⟩ = some (.int .u64 (g0 : Int)) := fun W hW => (hRr.later hW).cell rfl
        have d3 : ∀ W, Below wr.heap.size wr W → W.cell? ⟨bg, 1, none⟩ = some (.int .u64 (g1 : Int)) := fun W hW => (hRr.later hW).cell rfl
        have i2 : (0 : Int) ≤ (k : Int) := by omega
        have i3 : (k : Int) < (n : Int) := by omega
        have HB := Lib.hid hB
        have HLO := Lib.hid hlo
        clear hrng hB p0 p1 hlo
        go_wp2_with fail
        have hBase := (Below.refl wr.heap.size wr).drew
        refine wp_region_plan (.step 0 false (.step 1 false (.step 2 false (.step 3 false (.step 4 false (.step 5 false (.step 6 false (.step 7 false (.step 8 false (.step 9 false (.step 10 true (.step 11 false (.nil))))))))))))) (by kernel_rfl) (by kernel_rfl) (by rfl) (by kernel_rfl) ?_
        iterate 10 (refine plan_read rfl (by rfl) (v := ?_) ?_ ?_; rotate_left 1; (intro W hW; have hW0 := below_step hBase hW; (try dsimp only at hW); go_simp <;> with_reducible rfl); simp only [List.getElem_toArray, List.getElem_cons_zero, List.getElem_cons_succ, Act.put, List.setIfInBounds_toArray, List.set_cons_zero, List.set_cons_succ])
        (refine plan_make rfl (by rfl) (fun K hK => ?_); go_simp; (refine (less_any (x0, x1) (g0, g1) _).mono ?_; rintro e₁ w4 ⟨rfl, hbx⟩); refine hK.out _ _ hbx ?_; clear hK K; replace hBase := below_step hBase hbx)
        rw [← HE.out]
        obtain ⟨r, hr0⟩ : ∃ r, ltG (x0, x1) g = r := ⟨_, rfl⟩
        rw [hr0] at HT HPL ⊢
        clear hr0
        have hown4 := ownsRowG_later hown hBase
        have HB4 := Lib.hid (below_step HB.out hBase)
        have hR4 := hRr.later hBase
        have hsz4 : w3.heap.size ≤ w4.heap.size := HB4.out.size
        have e0 := d0 _ hBase
        have e1 := d1 _ hBase
        cases r with
        | true =>
          have HT2 := Lib.hid (HT.out rfl)
          iterate 1 (refine plan_read rfl (by rfl) (v := ?_) ?_ ?_; rotate_left 1; (intro W hW; have hW0 := below_step hBase hW; (try dsimp only at hW); go_simp <;> with_reducible rfl); simp only [List.getElem_toArray, List.getElem_cons_zero, List.getElem_cons_succ, Act.put, List.setIfInBounds_toArray, List.set_cons_zero, List.set_cons_succ])
          refine plan_done ?_
          clear d0 d1 d2 d3
          go_wp2_with (at_builtin; refine wpList_append_rdG _ rfl (.tmp 32) (.tmp 37) 44 rfl w3.heap.size 46 j0 (.agg #[.int .u64 0, .int .u64 0]) 16 Try.underlying44 hj gz0 gz1 gz2 rfl _ _ _ rfl (hown4.alloc _) (some ⟨w4.heap.size, 0, none⟩) [(x0, x1)] 1 rfl (rdG_one _ _ _ _) (by simp; unfold maxLen; omega) (by simp; omega) (by simp; omega) ?_; intro v5 w5 hown5 hgrow5 _)
          have HB5 : Hid (Below w3.heap.size w3 w5) := (below_new HB4.out _).grown hgrow5 (by simp; omega) (fun j hj => (hown4.lt j hj).1)
          go_roundw
          case rel => exact ⟨k + 1, by go_num, by omega, HT2.out, by rw [HCE.out]; exact hown5, HB5.out⟩
          case measure => simp [intOf]; omega
        | false =>
          have HPL2 := Lib.hid (HPL.out rfl)
          iterate 1 (refine plan_read rfl (by rfl) (v := ?_) ?_ ?_; rotate_left 1; (intro W hW; have hW0 := below_step hBase hW; (try dsimp only at hW); go_simp <;> with_reducible rfl); simp only [List.getElem_toArray, List.getElem_cons_zero, List.getElem_cons_succ, Act.put, List.setIfInBounds_toArray, List.set_cons_zero, List.set_cons_succ])
          refine plan_done ?_
          clear d0 d1 d2 d3 e0 e1
          obtain ⟨A2, hcut2, hrd2⟩ := cut_from2 (P := Try.prog) 44 46 Try.underlying44 Try.sizeOf46 (some ⟨b, o, none⟩) n c k hk hc
          have HRD := Lib.hid hrd2
          have HI : Hid (insG l g = l.take k ++ [g] ++ l.drop k) := by
            have := pl_ins HPL2.out (by rw [HN.out]; exact hk)
            unfold Hid
            rw [this]
            simp
          have c0 := hR4.cell (i := 0) rfl
          have c1 := hR4.cell (i := 1) rfl
          have hld : (l.drop k).length = n - k := by rw [List.length_drop, HN.out]
          have HLD := Lib.hid hld
          clear hrd2 hld
          go_wp2_with (first
            | (at_builtin; refine wpList_append_rdG _ rfl (.tmp 41) (.tmp 43) 44 rfl w3.heap.size 46 j0 (.agg #[.int .u64 0, .int .u64 0]) 16 Try.underlying44 hj gz0 gz1 gz2 rfl _ _ _ rfl (hown4.alloc _) (some ⟨w4.heap.size, 0, none⟩) [(g0, g1)] 1 rfl (rdG_one _ _ _ _) (by simp; unfold maxLen; omega) (by simp; omega) (by simp; omega) ?_; intro v5 w5 hown5 hgrow5 _; have hB5 := (below_new HB4.out _).grown hgrow5 (by simp; omega) (fun j hj => (hown4.lt j hj).1))
            | (at_builtin; refine wpList_append_rdG _ rfl (.tmp 45) (.tmp 48) 44 rfl w3.heap.size 46 j0 (.agg #[.int .u64 0, .int .u64 0]) 16 Try.underlying44 hj gz0 gz1 gz2 rfl _ _ _ rfl hown5 A2 (l.drop k) (c - k) (by rw [HLD.out]; rfl) (HRD.out _ l HN.out ((hr.keep HB3.out).keep hB5)) (by rw [HLD.out]; simp; unfold maxLen; omega) (by rw [HLD.out]; simp; omega) hB5.size ?_; intro v6 w6 hown6 hgrow6 _))
          have hB6 := hB5.grown hgrow6 hB5.size (fun j hj => (hown5.lt j hj).1)
          go_ret2
          refine ⟨_, rfl, ?_, HB3.out.trans (hB6.mono HB3.out.size)⟩
          rw [HLD.out, ← HE.out] at hown6
          have hlen : (insG l g).length = k + [g].length + (n - k) := by rw [ins_length, HN.out]; simp; omega
          rw [hlen, HI.out, cellsG_app, cellsG_app]
          exact ownsRowG_base hown6 HB3.out.size
      · have hkn : k = n := by omega
        have HPL2 : Hid (PlG l g k) := ⟨hlo, fun j hj hjk => by have := HN.out; omega⟩
        have j1 : ¬ (k : Int) < (n : Int) := by omega
        have HB4 := Lib.hid hB
        have hsz4 : w3.heap.size ≤ wr.heap.size := hB.size
        have hown4 := hown
        have hR4 := hRr
        clear hlo hown hRr hB
        go_upto_region 9 with fail
        have hBase := (Below.refl wr.heap.size wr).drew
        refine wp_region_plan (.step 0 false (.step 1 false (.step 2 false (.step 3 false (.step 4 false (.step 5 false (.step 6 false (.step 7 false (.step 8 false (.step 9 false (.step 10 true (.step 11 false (.nil))))))))))))) (by kernel_rfl) (by kernel_rfl) (by rfl) (by kernel_rfl) ?_
        iterate 5 (refine plan_read rfl (by rfl) (v := ?_) ?_ ?_; rotate_left 1; (intro W hW; have hW0 := below_step hBase hW; (try dsimp only at hW); go_simp <;> with_reducible rfl); simp only [List.getElem_toArray, List.getElem_cons_zero, List.getElem_cons_succ, Act.put, List.setIfInBounds_toArray, List.set_cons_zero, List.set_cons_succ])
        iterate 6 (refine plan_skip rfl (by rfl) ?_; simp only [List.getElem_toArray, List.getElem_cons_zero, List.getElem_cons_succ, Act.put, List.setIfInBounds_toArray, List.set_cons_zero, List.set_cons_succ])
        iterate 1 (refine plan_read rfl (by rfl) (v := ?_) ?_ ?_; rotate_left 1; (intro W hW; have hW0 := below_step hBase hW; (try dsimp only at hW); go_simp <;> with_reducible rfl); simp only [List.getElem_toArray, List.getElem_cons_zero, List.getElem_cons_succ, Act.put, List.setIfInBounds_toArray, List.set_cons_zero, List.set_cons_succ])
        refine plan_done ?_
        replace hown4 : wr.drew.ownsRow _ _ _ _ _ _ := hown4
        replace hR4 := hR4.drew
        replace HB4 : Hid (Below w3.heap.size w3 wr.drew) := HB4.out.drew
        replace hsz4 : w3.heap.size ≤ wr.drew.heap.size := hsz4
        generalize wr.drew = w4 at hown4 hR4 HB4 hsz4 hBase ⊢
        clear hkn
        obtain ⟨A2, hcut2, hrd2⟩ := cut_from2 (P := Try.prog) 44 46 Try.underlying44 Try.sizeOf46 A n c k hk hc
        have HRD := Lib.hid hrd2
        have HI : Hid (insG l g = l.take k ++ [g] ++ l.drop k) := by
          have := pl_ins HPL2.out (by rw [HN.out]; exact hk)
          unfold Hid
          rw [this]
          simp
        have c0 := hR4.cell (i := 0) rfl
        have c1 := hR4.cell (i := 1) rfl
        have hld : (l.drop k).length = n - k := by rw [List.length_drop, HN.out]
        have HLD := Lib.hid hld
        clear hrd2 hld
        go_wp2_with (first
          | (at_builtin; refine wpList_append_rdG _ rfl (.tmp 41) (.tmp 43) 44 rfl w3.heap.size 46 j0 (.agg #[.int .u64 0, .int .u64 0]) 16 Try.underlying44 hj gz0 gz1 gz2 rfl _ _ _ rfl (hown4.alloc _) (some ⟨w4.heap.size, 0, none⟩) [(g0, g1)] 1 rfl (rdG_one _ _ _ _) (by simp; unfold maxLen; omega) (by simp; omega) (by simp; omega) ?_; intro v5 w5 hown5 hgrow5 _; have hB5 := (below_new HB4.out _).grown hgrow5 (by simp; omega) (fun j hj => (hown4.lt j hj).1))
          | (at_builtin; refine wpList_append_rdG _ rfl (.tmp 45) (.tmp 48) 44 rfl w3.heap.size 46 j0 (.agg #[.int .u64 0, .int .u64 0]) 16 Try.underlying44 hj gz0 gz1 gz2 rfl _ _ _ rfl hown5 A2 (l.drop k) (c - k) (by rw [HLD.out]; rfl) (HRD.out _ l HN.out ((hr.keep HB3.out).keep hB5)) (by rw [HLD.out]; simp; unfold maxLen; omega) (by rw [HLD.out]; simp; omega) hB5.size ?_; intro v6 w6 hown6 hgrow6 _))
        have hB6 := hB5.grown hgrow6 hB5.size (fun j hj => (hown5.lt j hj).1)
        go_ret2
        refine ⟨_, rfl, ?_, HB3.out.trans (hB6.mono HB3.out.size)⟩
        rw [HLD.out, ← HE.out] at hown6
        have hlen : (insG l g).length = k + [g].length + (n - k) := by rw [ins_length, HN.out]; simp; omega
        rw [hlen, HI.out, cellsG_app, cellsG_app]
        exact ownsRowG_base hown6 HB3.out.size
end Go.Proofs.Ytmljhkdojopljaa
/-
  What slices.Chunk answers at slices of bytes, in parts of sixteen that leave nothing: a range over a function; its contract for whatever body keeps the iterator's boxes. Conditions: bounds on lengths, as typed.
-/
namespace Go.Proofs.Ytmljhkdojopljaa
set_option maxRecDepth 100000
open Go.RowKit Go.Shelf
set_option linter.unusedSimpArgs false
set_option linter.unusedVariables false

attribute [local go_sem] Oper.semAt_some

/-- Where a part begins. -/
def chA (A : Option Addr) (i : Nat) : Option Addr := A.map (·.add (i * 1))
abbrev Ck (cnt : Nat) := { j : Nat // j < cnt }
def Ck.enc (A : Option Addr) {cnt : Nat} (x : Ck cnt) : Array Value := #[.slice (chA A (16 * x.1)) 16 16]
def chS {cnt : Nat} (xs : List (Ck cnt)) : Prop := xs.map (·.1) = List.range cnt
def chP {cnt : Nat} (xs : List (Ck cnt)) : Prop := ∃ k, k ≤ cnt ∧ xs.map (·.1) = List.range k

theorem cut_lhm (A : Option Addr) (n c i : Nat) (h : i + 16 ≤ c) (W : World) : (Instr.slice 47 (.slice A n c) (some (.int .i64 (i : Int))) (some (.int .i64 ((i : Int) + 16))) (some (.int .i64 ((i : Int) + 16)))).run Try.prog W = .ok (.slice (chA A i) 16 16) W := by
  have he : Try.prog.elem 47 = 5 := by simp [Program.elem, Try.underlying47]
  have hz : (sizeOf 5).run Try.prog W = .ok 1 W := by kernel_rfl
  rw [run_slice_lhm W 47 A n c (by rw [he]; exact Try.underlying47) .i64 .i64 .i64 (i : Int) ((i : Int) + 16) ((i : Int) + 16) (by omega) (by omega) (by omega) (by omega), he, hz]
  simp only [Result.andThen, sliced, Int.toNat_natCast]
  rw [show ((i : Int) + 16).toNat - i = 16 by omega, if_neg (by omega)]
  rfl

theorem chunk_any (A : Option Addr) (n c : Nat) (w : World) :
    Calls Try.prog 50 #[.slice A n c, .int .i64 16] w fun e w' => e = .returned (.func (.func 64) #[] #[.pointer (some ⟨w.heap.size, 0, none⟩), .pointer (some ⟨w.heap.size + 1, 0, none⟩)]) ∧ w' = (w.alloc (.cells #[.slice A n c] 47)).alloc (.cells #[.int .i64 16] 3) := by
  go_enter Try.func50, Try.ntmps50
  go_wp2_with fail
  go_ret
  exact ⟨rfl, rfl⟩

set_option maxHeartbeats 2000000 in
theorem chunk1_in (n : Nat) (hn : 1 ≤ n) (l Bs Bz cnt len cap : Nat) (A : Option Addr) (Kp : World → World → Prop) (HL : Hid (len = 16 * cnt)) (hlen : len ≤ 140737488351232) (hcap : len ≤ cap) (J Jx : List (Ck cnt) → World → Prop)
    (hY : ∀ pre x W, J pre W → pre.length < cnt → YieldAt Fence.wide (n - 1) Try.prog l (Ck.enc A x) W fun e W' => (e = .returned (.bool true) ∧ J (pre ++ [x]) W' ∧ Kp W W') ∨ (e = .returned (.bool false) ∧ Jx (pre ++ [x]) W'))
    (W : World) (hKr : Kp W W) (hKt : ∀ X Y, Kp W X → Kp X Y → Kp W Y) (hJd : ∀ pre W, J pre W → J pre W.drew) (hKd : ∀ X, Kp W X → Kp W X.drew) (hread : ∀ W', Kp W W' → W'.cell? ⟨Bs, 0, none⟩ = some (.slice A len cap) ∧ W'.cell? ⟨Bz, 0, none⟩ = some (.int .i64 16)) (h0 : J [] W) :
    CallsIn Fence.wide n Try.prog 64 #[.func (.yield l) #[] #[], .pointer (some ⟨Bs, 0, none⟩), .pointer (some ⟨Bz, 0, none⟩)] W fun e W' => (∃ v, e = .returned v) ∧ ((∃ xs, chS xs ∧ J xs W') ∨ (∃ pre, chP pre ∧ Jx pre W')) := by
  refine callsIn_of_wp Try.func64 rfl trivial ?_ rfl
  simp only [Try.ntmps64, List.size_toArray, List.length_cons, List.length_nil, Nat.reduceAdd, Nat.reduceSub, Array.replicate_succ, Array.replicate_zero, List.push_toArray, List.append_toArray, List.nil_append, List.cons_append]
  gi_wp2
  gi_loopw [4] (fun i wr => ∃ k m : Nat, k ≤ cnt ∧ m = 16 * k ∧ i = .int .i64 (m : Int) ∧ (∃ pre : List (Ck cnt), pre.length = k ∧ pre.map (·.1) = List.range k ∧ J pre wr) ∧ Kp W wr)
    (fun i _ => len - (intOf i).toNat)
  case atStart => exact ⟨0, 0, Nat.zero_le _, rfl, rfl, ⟨[], rfl, rfl, h0⟩, hKr⟩
  case round =>
    obtain ⟨k, m, hk, hm, rfl, ⟨pre, hpl, hpm, hJs⟩, hK⟩ := hrel
    obtain ⟨hcb, hcz⟩ := hread wr hK
    by_cases hkc : k = cnt
    · have HPM : Hid (chS pre) := by unfold Hid chS; rw [hpm, hkc]
      have hml : ¬ (m : Int) < (len : Int) := by have := HL.out; omega
      clear hpm hpl hm
      gi_wp2
      go_end0
      exact ⟨⟨_, rfl⟩, .inl ⟨_, HPM.out, hJs⟩⟩
    · have hkl : k < cnt := by omega
      have hml : (m : Int) < (len : Int) := by have := HL.out; omega
      have HM : Hid (m = 16 * k ∧ m + 16 ≤ len) := ⟨hm, by have := HL.out; omega⟩
      have hcut := fun W => cut_lhm A len cap m (by have := HM.out; omega) W
      obtain ⟨A', hcf, _⟩ := cut_from (P := Try.prog) 47 5 Try.underlying47 (fun w => by kernel_rfl) A len cap m (by have := HM.out; omega) hcap
      obtain ⟨fn, tmps, assign, body, hy, hR⟩ := hY pre ⟨k, hkl⟩ wr.drew (hJd _ _ hJs) (by omega)
      unfold Ck.enc at hy
      dsimp only at hy
      rw [← HM.out.1] at hy
      have HPM : Hid ((pre ++ [(⟨k, hkl⟩ : Ck cnt)]).map (·.1) = List.range (k + 1)) := by
        unfold Hid
        rw [List.map_append, hpm, List.range_succ]
        rfl
      have HPL : Hid ((pre ++ [(⟨k, hkl⟩ : Ck cnt)]).length = k + 1) := by
        unfold Hid
        rw [List.length_append, hpl, List.length_singleton]
      have HKD := Lib.hid (hKd _ hK)
      have hKl : ∀ W, Below wr.heap.size wr W → True := fun _ _ => trivial
      have cb : ∀ W, Below wr.heap.size wr W → W.cell? ⟨Bs, 0, none⟩ = some (.slice A len cap) := fun W hW => (hW.cell (p := ⟨Bs, 0, none⟩) (World.block_lt_of_cell? wr _ hcb)).trans hcb
      have cz : ∀ W, Below wr.heap.size wr W → W.cell? ⟨Bz, 0, none⟩ = some (.int .i64 16) := fun W hW => (hW.cell (p := ⟨Bz, 0, none⟩) (World.block_lt_of_cell? wr _ hcz)).trans hcz
      have hmin : ¬ ((len - m : Nat) : Int) < 16 := by have := HM.out; omega
      have hm16 : (m : Int) + 16 ≤ (len : Int) := by have := HM.out; omega
      clear hpm hpl hm hK hJs hcut
      gi_wp2
      refine wpIn_wide.2 ?_
      have hBase := (Below.refl wr.heap.size wr).drew
      refine wp_region_plan (.step 0 false (.step 1 false (.step 2 false (.step 3 false (.step 4 false (.step 5 false (.step 6 false (.nil)))))))) (by kernel_rfl) (by kernel_rfl) (by rfl) (by kernel_rfl) ?_
      iterate 7 (refine plan_read rfl (by rfl) (v := ?_) ?_ ?_; rotate_left 1; (intro W hW; have hW0 := below_step hBase hW; (try dsimp only at hW); go_simp <;> with_reducible rfl); simp only [List.getElem_toArray, List.getElem_cons_zero, List.getElem_cons_succ, Act.put, List.setIfInBounds_toArray, List.set_cons_zero, List.set_cons_succ])
      refine plan_done ?_
      have cb1 := cb _ hBase
      have cz1 := cz _ hBase
      have hcut := cut_lhm A len cap m (by have := HM.out; omega) wr.drew
      generalize wr.drew = wd at hBase hy hR HKD cb1 cz1 hcut ⊢
      clear cb cz hcf
      gi_wp2
      refine hR.mono ?_
      rintro e W3 (⟨rfl, hJ3, hk3⟩ | ⟨rfl, hJx3⟩)
      · have hK3 := hKt _ _ HKD.out hk3
        have cz3 := (hread _ hK3).2
        have HK3 := Lib.hid hK3
        clear cb1 cz1 hcut hy hR hK3
        gi_wp2
        go_roundw
        case rel => exact ⟨k + 1, m + 16, by omega, by have := HM.out; omega, by go_num, ⟨_, HPL.out, HPM.out, hJ3⟩, HK3.out⟩
        case measure => have := HM.out; simp [intOf] <;> omega
      · clear cb1 cz1 hcut hy hR
        gi_wp2
        refine bodyPost_ret (results_none rfl _ _ _) rfl ?_
        exact ⟨⟨_, rfl⟩, .inr ⟨_, ⟨k + 1, by omega, HPM.out⟩, hJx3⟩⟩

theorem chunk_stops (n : Nat) (hn : 1 ≤ n) (Bs Bz cnt len cap : Nat) (A : Option Addr) (Kp : World → World → Prop) (HL : Hid (len = 16 * cnt)) (hlen : len ≤ 140737488351232) (hcap : len ≤ cap) (w : World)
    (hKr : ∀ W, Kp W W) (hKt : ∀ X Y Z, Kp X Y → Kp Y Z → Kp X Z) (hKd : ∀ X, Kp X X.drew) (hread : ∀ W, Below w.heap.size w W → ∀ W', Kp W W' → W'.cell? ⟨Bs, 0, none⟩ = some (.slice A len cap) ∧ W'.cell? ⟨Bz, 0, none⟩ = some (.int .i64 16)) :
    SeqStopsK Fence.wide n Try.prog 64 #[.pointer (some ⟨Bs, 0, none⟩), .pointer (some ⟨Bz, 0, none⟩)] (Ck.enc A (cnt := cnt)) Kp chS chP cnt w := fun l J Jx W hW hJ _ hY h0 =>
  chunk1_in n hn l Bs Bz cnt len cap A Kp HL hlen hcap J Jx hY W (hKr W) (fun X Y h k => hKt _ _ _ h k) (fun pre X h => hJ pre X X.drew none h ⟨rfl, rfl, rfl, Nat.le_refl _, fun _ _ _ => rfl⟩ (fun r e => by cases e)) (fun X h => hKt _ _ _ h (hKd X)) (hread W hW) h0
end Go.Proofs.Ytmljhkdojopljaa
/-
  A region that draws its order, in a loop's round (inside a fence that lets every call by): operations that leave the world as it is, and a tail in one order (no program is named here). No conditions but those typed.
-/
namespace Go.Proofs.Ytmljhkdojopljaa
set_option maxRecDepth 100000
set_option linter.unusedSimpArgs false
set_option linter.unusedVariables false

/-- No operation is a defer statement. -/
def noDefer (ops : List Oper) : Bool := ops.all fun o => match o.op with | .defer _ => false | _ => true
theorem noDefer_at {ops : List Oper} (h : noDefer ops = true) {i : Nat} {o : Oper} (ho : ops[i]? = some o) : ∀ c, o.op ≠ .defer c := by
  intro c hc
  have h1 := List.all_eq_true.1 h o (List.mem_of_getElem? ho)
  rw [hc] at h1
  cases h1

section
variable {P : Program} {ops : Array Oper} {w : World} {md : Region.Mode} {n l₀ : Nat}
theorem wpIn_of_still {o : Oper} {a : Act} {K : Act → Prop} {K' : Act → World → Prop} {Q' : Exit → Act → World → Prop} (hd : ∀ c, o.op ≠ .defer c) (h : ∀ a, K a → K' a w) (hh : o.still P a w K) : o.wpIn (Fence.wide.inRound l₀) n P a w K' Q' := by
  unfold Oper.still at hh
  unfold Oper.wpIn
  refine ⟨fun _ _ => trivial, ?_⟩
  have e : (Fence.wide.inRound l₀).round = some l₀ := rfl
  rw [e, Oper.semAt_some l₀ a.eval o hd]
  generalize (execOp a.eval o).run P w = r at *
  cases r with
  | ok x w' =>
    cases x <;> simp only [Oper.stillUpon] at hh <;> simp only [Oper.uponIn]
    case enter f args =>
      obtain ⟨rfl, v, hc, hn⟩ := hh
      refine ⟨fun h0 => (by cases h0), ?_⟩
      have h2 : Calls P f args w' fun
        | .returned v, w'' => K' (a.put o.dst v) w''
        | .panicked chain, w'' => Q' (.panic chain) a w''
        | .outgrown, _ => LetsOut Q' := hc.mono fun e w'' ⟨he, hw⟩ => by subst he; subst hw; exact h _ hn
      exact CallsIn.inRound l₀ (callsIn_wide.2 h2)
    all_goals (obtain ⟨rfl, h2⟩ := hh; exact h _ h2)
  | halt x w' => simp only [Oper.stillUpon] at hh
theorem wpOpIn_of_stOp {i : Nat} {a : Act} {K : Act → Prop} {K' : Act → World → Prop} {Q' : Exit → Act → World → Prop} (hd : noDefer ops.toList = true) (h : ∀ a, K a → K' a w) (hh : stOp P ops w i K a) : wpOpIn (Fence.wide.inRound l₀) n P ops Q' i K' a w := by
  unfold stOp at hh
  unfold wpOpIn
  split
  · rename_i ho; simp only [ho] at hh; exact h _ hh
  · rename_i o ho
    simp only [ho] at hh
    split
    · rename_i hw; simp only [hw, if_true] at hh; exact wpIn_of_still (noDefer_at hd (i := i) (by simpa using ho)) h hh
    · rename_i hw; simp only [hw] at hh; exact ⟨fun _ _ => trivial, h _ hh⟩
theorem wpAnyIn_of_head {m g : Nat} {L : Array Bool → Act → Prop} {Q' : Exit → Act → World → Prop} (hd : noDefer ops.toList = true) (hL : ∀ listed a, L listed a → wpAnyIn (Fence.wide.inRound l₀) n P md ops Q' g listed a w) :
    ∀ (f : Nat) (listed : Array Bool) (a : Act), wpAnyL P md ops w m L f listed a → wpAnyIn (Fence.wide.inRound l₀) n P md ops Q' (f + g) listed a w
  | 0, listed, a, h => by rw [Nat.zero_add]; exact hL _ _ h
  | f + 1, listed, a, h => by
    rw [show f + 1 + g = (f + g) + 1 by omega]
    exact ⟨fun h0 => absurd h0 h.1, fun i hi => wpOpIn_of_stOp hd (fun a' h' => wpAnyIn_of_head hd hL f _ a' h') (h.2 i hi).2⟩
theorem wpAnyIn_of_seq {F : Fence} {Q' : Exit → Act → World → Prop} : ∀ (l : List Oper) (k : Nat) (listed : Array Bool) (a : Act) (w : World), (∀ j, l[j]? = ops[k + j]?) →
    Region.seqB md ops l.length k listed = true → wpListIn F n P ops Q' l a w → wpAnyIn F n P md ops Q' l.length listed a w
  | [], _, _, _, _, _, hB, h => ⟨by simpa [Region.seqB] using hB, h⟩
  | o :: l, k, listed, a, w, hl, hB, h => by
    have h0 : ops[k]? = some o := by simpa using (hl 0).symm
    simp only [List.length_cons, Region.seqB, Bool.and_eq_true, decide_eq_true_eq] at hB
    refine ⟨fun h1 => (by rw [hB.1] at h1; cases h1), fun i hi => ?_⟩
    rw [hB.1] at hi
    have hik : i = k := by simpa using hi
    subst hik
    have hw : wpOpIn F n P ops Q' i (wpListIn F n P ops Q' l) a w := by unfold wpOpIn; simp only [h0]; exact h
    exact wpOpIn_mono (fun a' w' h' => wpAnyIn_of_seq l (i + 1) _ a' w' (fun j => by have := hl (j + 1); simpa [Nat.add_assoc, Nat.add_comm 1 j] using this) hB.2 h') hw
theorem wpIn_region_still_tail {id : Nat} {Q : Exit → Act → World → Prop} {a : Act} {l : List Oper} (k : Nat) (hm : P.follows .mixedOrders = true) (hB : Region.lexTailB .any l.toArray k = true) (hnd : noDefer l = true)
    (h : wpStill P l.toArray w.drew (fun a' => wpListIn (Fence.wide.inRound l₀) n P l.toArray Q (l.drop k) a' w.drew) (l.take k) a) : (Code.region id l.toArray true).wpIn (Fence.wide.inRound l₀) n P Q a w := by
  simp only [Region.lexTailB, Bool.and_eq_true, decide_eq_true_eq] at hB
  obtain ⟨⟨⟨⟨hsel, hn⟩, hs⟩, hc⟩, hlex⟩ := hB
  have hn' : k < l.length := by simpa using hn
  have htl : (l.take k).length = k := by simp; omega
  have hdl : (l.drop k).length = l.toArray.size - k := by simp
  have inv0 : HeadInv .any l.toArray k (Array.replicate l.toArray.size false) :=
    ⟨by simp, fun j oj _ hl => (by rw [getD_replicate_false] at hl; cases hl), fun t _ ht => getD_in (by simpa using ht) (getD_replicate_false _ _)⟩
  have H := wpAnyL_lex (md := .any) (g := l.toArray.size - k) hsel hs hc hn (l.take k) 0 _ a (fun j hj => by
    have hj' : j < k := by rw [htl] at hj; exact hj
    simp [hj']) (by simpa using htl) inv0 (by rw [htl]; exact hlex) h
  refine wpIn_region_any hm ?_
  have := wpAnyIn_of_head (Q' := Q) (n := n) (l₀ := l₀) (g := l.toArray.size - k) (by simpa using hnd) (fun listed a' hL => by
    have := wpAnyIn_of_seq (F := Fence.wide.inRound l₀) (n := n) (md := .any) (Q' := Q) (l.drop k) k listed a' w.drew (fun j => by simp [List.getElem?_drop]) (by rw [hdl]; exact hL.1) hL.2
    rwa [hdl] at this) _ _ _ H
  rw [htl, show k + (l.toArray.size - k) = l.toArray.size by omega] at this
  exact this
end
end Go.Proofs.Ytmljhkdojopljaa
/-
  What the program's call Read of layer 15 answers. No conditions but those typed.
-/
namespace Go.Proofs.Ytmljhkdojopljaa
set_option maxRecDepth 100000
open Go.RowKit Go.Shelf
set_option linter.unusedSimpArgs false
set_option linter.unusedVariables false

attribute [local go_sem] Oper.semAt_some

/-- The pair at place j. -/
def gnA (b : List UInt8) (j : Nat) : Gn := (valN ((b.drop (16 * j)).take 8), valN ((b.drop (16 * j + 8)).take 8))
theorem take_map : ∀ (n : Nat) (b : List UInt8), takeG n b = (List.range n).map (gnA b)
  | 0, b => rfl
  | n + 1, b => by
    rw [List.range_succ_eq_map, List.map_cons, List.map_map]
    unfold takeG
    rw [take_map n (b.drop 16)]
    congr 1
    apply List.map_congr_left
    intro j _
    unfold gnA
    simp only [Function.comp_apply, List.drop_drop, Nat.mul_succ]
    congr 3 <;> congr 1 <;> omega

theorem number15_any (l : List UInt8) (A : Option Addr) (c : Nat) (w : World) (hr : Rd vB w A l) (HL : Hid (l.length = 8)) (v : Nat) (HV : Hid (valN l = v)) :
    Calls Try.prog 51 #[.slice A 8 c] w fun e w' => e = .returned (.int .u64 (v : Int)) ∧ w' = w := by
  have hg := get_any l A c w hr (by rw [HL.out]; omega)
  have hgr : getR l = (v, 0) := by unfold getR; rw [if_pos HL.out, HV.out]
  rw [hgr, HL.out] at hg
  have HG := Lib.hid hg
  clear hg hgr
  have hv8 : v < 18446744073709551616 := by rw [← HV.out]; exact valN_lt8 l (by rw [HL.out]; omega)
  have HV8 := Lib.hid hv8
  go_enter Try.func51, Try.ntmps51
  go_wp2_with fail
  refine HG.out.mono ?_
  rintro e w1 ⟨rfl, rfl⟩
  go_wp2_with fail
  go_ret
  exact ⟨rfl, rfl⟩

/-- What Read hands back. -/
def RetRd (w : World) (l : List Gn) (n : Nat) (k : Int) (e : Ending) (w' : World) : Prop := ∃ v, e = .returned (.tuple #[v, .int .i64 (n : Int), .int .i64 k]) ∧ w'.ownsRow w.heap.size 46 2 v l.length (cellsG l) ∧ Below w.heap.size w w'
theorem read_none {b : List UInt8} (h : b.length = 0) : readG b = ([], 0, 2) := by unfold readG; rw [if_pos h]
theorem read_many {b : List UInt8} (h : b.length ≠ 0) (h2 : 64 < cntG b) : readG b = ([], 0, 3) := by unfold readG; rw [if_neg h, if_pos h2]
theorem read_short {b : List UInt8} (h : b.length ≠ 0) (h2 : ¬ 64 < cntG b) (h3 : b.length < 1 + 16 * cntG b) : readG b = ([], 0, 2) := by unfold readG; rw [if_neg h, if_neg h2, if_pos h3]
theorem read_list {b : List UInt8} (h : b.length ≠ 0) (h2 : ¬ 64 < cntG b) (h3 : ¬ b.length < 1 + 16 * cntG b) : readG b = if rightG (takeG (cntG b) (b.drop 1)) = true then (takeG (cntG b) (b.drop 1), 1 + 16 * cntG b, 0) else ([], 0, 3) := by unfold readG; rw [if_neg h, if_neg h2, if_neg h3]

/-- What a round keeps: what lay below, and the iterator's own boxes. -/
def KpC (n₀ Bs Bz : Nat) (W W' : World) : Prop := Below n₀ W W' ∧ W'.heap[Bs]? = W.heap[Bs]? ∧ W'.heap[Bz]? = W.heap[Bz]?
theorem KpC.refl (n₀ Bs Bz : Nat) (W : World) : KpC n₀ Bs Bz W W := ⟨Below.refl _ _, rfl, rfl⟩
theorem KpC.drew (n₀ Bs Bz : Nat) (W : World) : KpC n₀ Bs Bz W W.drew := ⟨(Below.refl _ _).drew, rfl, rfl⟩
theorem KpC.trans {n₀ Bs Bz : Nat} {X Y Z : World} (h : KpC n₀ Bs Bz X Y) (k : KpC n₀ Bs Bz Y Z) : KpC n₀ Bs Bz X Z := ⟨h.1.trans k.1, k.2.1.trans h.2.1, k.2.2.trans h.2.2⟩
theorem KpC.own {n₀ Bs Bz : Nat} {w : World} (hn : n₀ ≤ w.heap.size) (hB : Bs < w.heap.size) (hZ : Bz < w.heap.size) (W : World) (l : Nat) (o o' : Obj) (hl : w.heap.size ≤ l) (h : W.heap[l]? = some o) (h1 : o.isCells = false) (h2 : o.isWalk = false) : KpC n₀ Bs Bz W (W.putObj l o') :=
  ⟨belowK_b hn W l o o' hl h h1 h2, World.putObj_heap_other (by omega), World.putObj_heap_other (by omega)⟩
theorem boxed_turnG {W W' : World} {row : Option Nat} {B : Nat} {t : TypeId} {v : Value} (h : Boxed W B t v) (hg : W.grownBy W' row) (hr : ∀ r, row = some r → ∃ o : Obj, W.heap[r]? = some o ∧ o.isCells = false) : Boxed W' B t v := boxed_own B t (fun _ : Unit => v) () W W' row h hg hr
/-- Between two rounds: the row of the pairs that have come, its box, the iterator's boxes. -/
def ReI (w : World) (b : List UInt8) (n₀ Bl Bs Bz : Nat) (s : Value) {cnt : Nat} (pre : List (Ck cnt)) (W : World) : Prop :=
  ((∃ v, Boxed W Bl 44 v ∧ W.ownsRow n₀ 46 2 v pre.length (cellsG (pre.map (fun x => gnA b x.1))) ∧ True) ∧ Boxed W Bs 47 s ∧ Boxed W Bz 3 (.int .i64 16)) ∧ Below n₀ w W
theorem reI_own (w : World) (b : List UInt8) (n₀ Bl Bs Bz : Nat) (s : Value) {cnt : Nat} (B : Nat) (hn : n₀ ≤ w.heap.size) (hB : n₀ ≤ B) : OwnFrom B (ReI w b n₀ Bl Bs Bz s (cnt := cnt)) :=
  OwnFrom.and (Own.from (fun pre A B row hs hg hr => ⟨holdsRow_own n₀ Bl 44 46 2 (fun (p : List (Ck cnt)) => p.length) (fun p => cellsG (p.map (fun x => gnA b x.1))) (fun _ _ => True) pre A B row hs.1 hg hr, boxed_turnG hs.2.1 hg hr, boxed_turnG hs.2.2 hg hr⟩) _) (ownFrom_below hn hB)

set_option maxHeartbeats 2000000 in
theorem read15_short (b : List UInt8) (n c : Nat) (A : Option Addr) (w : World) (HN : Hid (b.length = n)) (hr : Rd vB w A b) (hn : n ≤ 1000000000) (hc : n ≤ c) (HS : Hid (b.length = 0 ∨ 64 < cntG b ∨ b.length < 1 + 16 * cntG b)) :
    Calls Try.prog 26 #[.slice A n c] w (RetRd w (readG b).1 (readG b).2.1 (readG b).2.2) := by
  obtain ⟨P, hP⟩ : ∃ P, P = readG b := ⟨_, rfl⟩
  rw [← hP]
  have hlen := HN.out
  by_cases h0 : n = 0
  · have HP : Hid (P = ([], 0, 2)) := hP.trans (read_none (by omega))
    clear hP
    subst h0
    go_enter Try.func26, Try.ntmps26
    go_wp2_with fail
    go_ret3
    exact ⟨_, by rw [HP.out]; rfl, by rw [HP.out]; exact World.ownsRow_nil _ _ _ _, Below.refl _ _⟩
  · have hb0 : b.length ≠ 0 := by omega
    obtain ⟨blk, o, rfl, hblk, hcell⟩ := hr.at (k := 0) (by omega)
    have hc0 := hcell 0 (by omega)
    have hcnt : cntG b = (b[0]'(by omega)).toNat := by unfold cntG; rw [List.getD_eq_getElem?_getD, List.getElem?_eq_getElem (by omega)]; rfl
    rw [Nat.add_zero] at hc0
    unfold vB at hc0
    rw [← hcnt] at hc0
    have hlt : cntG b < 256 := by rw [hcnt]; exact UInt8.toNat_lt _
    have HC := Lib.hid hcnt
    have z1 : ((n : Int) == 0) = false := beq_eq_false_iff_ne.2 (by omega)
    have hp : (0 : Int) < (n : Int) := by omega
    by_cases h64 : 64 < cntG b
    · have HP : Hid (P = ([], 0, 3)) := hP.trans (read_many hb0 h64)
      clear hP hcell hcnt HS
      generalize cntG b = q at hc0 hlt h64 HC
      go_enter Try.func26, Try.ntmps26
      go_wp2_with fail
      go_ret3
      exact ⟨_, by rw [HP.out]; rfl, by rw [HP.out]; exact World.ownsRow_nil _ _ _ _, Below.refl _ _⟩
    · have hsh : b.length < 1 + 16 * cntG b := by rcases HS.out with h | h | h; exact absurd h hb0; exact absurd h h64; exact h
      have HP : Hid (P = ([], 0, 2)) := hP.trans (read_short hb0 h64 hsh)
      rw [hlen] at hsh
      clear hP hcell hcnt HS
      generalize cntG b = q at hc0 hlt h64 HC hsh
      go_enter Try.func26, Try.ntmps26
      go_wp2_with fail
      go_ret3
      exact ⟨_, by rw [HP.out]; rfl, by rw [HP.out]; exact World.ownsRow_nil _ _ _ _, Below.refl _ _⟩
end Go.Proofs.Ytmljhkdojopljaa
/-
  A region that draws its order, in a loop's round (inside a fence that lets every call by): by a plan, as outside a round (no program is named here). Conditions: as in the plan's own law; no operation is a defer statement.
-/
namespace Go.Proofs.Ytmljhkdojopljaa
set_option maxRecDepth 100000
open Go.RowKit
set_option linter.unusedSimpArgs false
set_option linter.unusedVariables false

/-- Neither a panic nor a way out counts. -/
def NoOut (Q : Exit → Act → World → Prop) : Exit → Act → World → Prop
  | .panic _, _, _ => False
  | .outgrown, _, _ => False
  | e, a, w => Q e a w
theorem noOut_lets {Q : Exit → Act → World → Prop} : ¬ LetsOut (NoOut Q) := fun ⟨_, _, h⟩ => h
theorem rowsIn_of_rows {n l₀ : Nat} {P : Program} {row : String} {args : Array Value} {w : World} {R : Value → World → Prop} (h : Rows P row args w R) : RowsIn (Fence.wide.inRound l₀) n P row args w R :=
  fun c cs _ => let ⟨v, w', r, s⟩ := h c cs; ⟨v, w', r, stepsIn_wide.2 s⟩
section
variable {P : Program} {ops : Array Oper} {n l₀ : Nat} {Q : Exit → Act → World → Prop}
theorem wpIn_of_wp {o : Oper} {a : Act} {w : World} {K K' : Act → World → Prop} (hd : ∀ c, o.op ≠ .defer c) (hK : ∀ a w, K a w → K' a w) (h : o.wp P a w K (NoOut Q)) : o.wpIn (Fence.wide.inRound l₀) n P a w K' Q := by
  unfold Oper.wp at h
  unfold Oper.wpIn
  refine ⟨fun _ _ => trivial, ?_⟩
  have e : (Fence.wide.inRound l₀).round = some l₀ := rfl
  rw [e, Oper.semAt_some l₀ a.eval o hd]
  generalize (execOp a.eval o).run P w = r at *
  cases r with
  | ok x w' =>
    cases x <;> simp only [Oper.upon] at h <;> simp only [Oper.uponIn]
    case enter f args =>
      refine ⟨fun h0 => (by cases h0), ?_⟩
      refine CallsIn.inRound l₀ (callsIn_wide.2 (h.mono fun e w'' he => ?_))
      cases e with
      | returned v => exact hK _ _ he
      | panicked c => exact he.elim
      | outgrown => exact (noOut_lets he).elim
    case row row args => exact ⟨fun h0 => (by cases h0), rowsIn_of_rows (h.mono fun v w'' hv => hK _ _ hv)⟩
    all_goals exact hK _ _ h
  | halt x w' =>
    cases x <;> simp only [Oper.upon] at h <;> simp only [Oper.uponIn]
    case panic v => exact h.elim
theorem wpAnyIn_of_held {S : World → Prop} (hd : noDefer ops.toList = true) : ∀ (fuel : Nat) (listed : Array Bool) (a : Act) (w : World), wpAnyH P .any ops (NoOut Q) S fuel listed a w → wpAnyIn (Fence.wide.inRound l₀) n P .any ops Q fuel listed a w
  | 0, listed, a, w, h => ⟨h.1, h.2⟩
  | fuel + 1, listed, a, w, h => by
    refine ⟨fun h0 => h.1 h0, fun i hi => ?_⟩
    have hi' := h.2 i hi
    unfold wpOp at hi'
    unfold wpOpIn
    split
    · rename_i ho
      simp only [ho] at hi'
      exact wpAnyIn_of_held hd fuel _ a w hi'.2
    · rename_i o ho
      simp only [ho] at hi'
      split
      · rename_i hw
        simp only [hw, if_true] at hi'
        rcases hi' with h1 | ⟨_, h1⟩
        · exact wpIn_of_wp (noDefer_at hd (i := i) (by simpa using ho)) (fun a' w' h' => wpAnyIn_of_held hd fuel _ a' w' h'.2) h1
        · exact (noOut_lets h1).elim
      · rename_i hw
        simp only [hw] at hi'
        exact ⟨fun _ _ => trivial, wpAnyIn_of_held hd fuel _ _ _ hi'.2⟩
theorem wpIn_region_plan_of (S : World → Prop) (plan : Plan) {id : Nat} {a : Act} {w : World} (hS : S w.drew) (hm : P.follows .mixedOrders = true) (hs : Region.noSelect ops = true) (hd : noDefer ops.toList = true) (hlen : plan.size = ops.size) (hp : planOK ops plan (Array.replicate ops.size false) = true)
    (h : wpPlan P ops (NoOut Q) plan S a w.drew) : (Code.region id ops true).wpIn (Fence.wide.inRound l₀) n P Q a w := by
  refine wpIn_region_any hm ?_
  have := wpPlan_held hs (fun _ _ _ _ _ h => h) plan S _ a w.drew hS hp h
  rw [hlen] at this
  exact wpAnyIn_of_held hd _ _ _ _ this
theorem wpIn_region_plan (plan : Plan) {id : Nat} {a : Act} {w : World} (hm : P.follows .mixedOrders = true) (hs : Region.noSelect ops = true) (hd : noDefer ops.toList = true) (hlen : plan.size = ops.size) (hp : planOK ops plan (Array.replicate ops.size false) = true)
    (h : wpPlan P ops (NoOut Q) plan (fun W => Below w.drew.heap.size w.drew W) a w.drew) : (Code.region id ops true).wpIn (Fence.wide.inRound l₀) n P Q a w := wpIn_region_plan_of _ plan (Below.refl _ _) hm hs hd hlen hp h
theorem planIn_done {S : World → Prop} {a : Act} {w : World} (h : Q .normal a w) : wpPlan P ops (NoOut Q) .nil S a w := h
end
end Go.Proofs.Ytmljhkdojopljaa
/-
  What the program's call Read of layer 15 answers, where there are enough bytes: its loop over parts of sixteen. No conditions but those typed.
-/
namespace Go.Proofs.Ytmljhkdojopljaa
set_option maxRecDepth 100000
open Go.RowKit Go.Shelf
set_option linter.unusedSimpArgs false
set_option linter.unusedVariables false

attribute [local go_sem] Oper.semAt_some

theorem Rd.chA {w : World} {A : Option Addr} {l : List UInt8} (h : Rd vB w A l) (k : Nat) : Rd vB w (chA A k) (l.drop k) := by
  have := h.drop k (l.length + k + 1) (by omega)
  rw [if_neg (by omega)] at this
  exact this

theorem own_formG {w : World} {base : Nat} {e : TypeId} {v : Value} {n : Nat} {xs : List Value} (h : w.ownsRow base e 2 v n xs) : ∃ A cap, v = .slice A n cap ∧ n ≤ cap := by
  rcases h.2 with ⟨rfl, rfl⟩ | ⟨g, cap, cur, rfl, _, _, hc, _⟩
  · exact ⟨none, 0, rfl, Nat.le_refl _⟩
  · exact ⟨_, cap, rfl, hc⟩
set_option maxHeartbeats 4000000 in
theorem read15_main (b : List UInt8) (n c : Nat) (A : Option Addr) (w : World) (HN : Hid (b.length = n)) (hr : Rd vB w A b) (hn : n ≤ 1000000000) (hc : n ≤ c) (h0 : b.length ≠ 0) (h64 : ¬ 64 < cntG b) (hen : ¬ b.length < 1 + 16 * cntG b) :
    Calls Try.prog 26 #[.slice A n c] w (RetRd w (readG b).1 (readG b).2.1 (readG b).2.2) := by
  obtain ⟨j0, hj, gz0, gz1, gz2⟩ := info_parts info_gone
  obtain ⟨P, hP⟩ : ∃ P, P = readG b := ⟨_, rfl⟩
  rw [← hP]
  have HP : Hid (P = _) := hP.trans (read_list h0 h64 hen)
  clear hP
  have hlen := HN.out
  obtain ⟨blk, o, rfl, hblk, hcell⟩ := hr.at (k := 0) (by omega)
  have hc0 := hcell 0 (by omega)
  have hcnt : cntG b = (b[0]'(by omega)).toNat := by unfold cntG; rw [List.getD_eq_getElem?_getD, List.getElem?_eq_getElem (by omega)]; rfl
  rw [Nat.add_zero] at hc0
  unfold vB at hc0
  rw [← hcnt] at hc0
  obtain ⟨A1, hA1⟩ : ∃ A1, (if c = 1 then some ⟨blk, o, none⟩ else (some (⟨blk, o, none⟩ : Addr)).map (·.add (1 * 1))) = A1 := ⟨_, rfl⟩
  have hr1 : Rd vB w A1 (b.drop 1) := by rw [← hA1]; exact hr.drop 1 c (by omega)
  have HR1 := Lib.hid hr1
  clear hcell hcnt hr1
  generalize cntG b = q at hc0 h64 hen HP
  have z1 : ((n : Int) == 0) = false := beq_eq_false_iff_ne.2 (by omega)
  have hp : (0 : Int) < (n : Int) := by omega
  obtain ⟨E, hE⟩ : ∃ E : Nat, E = 1 + 16 * q := ⟨_, rfl⟩
  rw [hlen] at hen
  have hEn : E ≤ n := by omega
  have HE := Lib.hid hE
  have hcut : ∀ W, (Instr.slice 47 (.slice (some ⟨blk, o, none⟩) n c) (some (.int .i64 1)) (some (.int .i64 (E : Int))) none).run Try.prog W = .ok (.slice A1 (16 * q) (c - 1)) W := fun W => by
    have := cut_mid (some ⟨blk, o, none⟩) n c 1 (16 * q) (by omega) W
    rw [show ((1 : Nat) : Int) + ((16 * q : Nat) : Int) = (E : Int) by omega] at this
    rw [hA1] at this
    exact this
  have HCUT := Lib.hid hcut
  have d64 : ¬ (64 : Int) < (q : Int) := by omega
  have dn : ¬ (n : Int) < 1 + (q : Int) * 16 := by omega
  have HQ : Hid (q ≤ 64) := by unfold Hid; omega
  have HEN : Hid (E ≤ n) := hEn
  clear hcut hlen h0 hE hA1
  refine (callsIn_wide (n := 3)).1 ?_
  refine callsIn_of_wp_marks Try.func26 rfl trivial ?_ rfl
  simp only [Try.ntmps26, List.size_toArray, List.length_cons, List.length_nil, Nat.reduceAdd, Nat.reduceSub, Array.replicate_succ, Array.replicate_zero, List.push_toArray, List.append_toArray, List.nil_append, List.cons_append]
  refine wpIn_wide.2 ?_
  go_upto_region 9 with fail
  have e1 : (1 + (q : Int) * 16) = (E : Int) := by have := HE.out; omega
  rw [e1]
  clear e1 hc0 z1 d64 dn h64 hen hEn hp
  have hq64 : q ≤ 64 := HQ.out
  go_upto_region 10 with (at_make; refine wpList_make_own _ rfl _ _ 44 rfl w.heap.size 46 j0 (.agg #[.int .u64 0, .int .u64 0]) 2 Try.underlying44 hj gz0 gz1 .i64 .i64 _ q rfl rfl (by omega) (by rw [gz2]; omega) (by unfold maxLen; omega) (Nat.le_refl _) ?_; intro w0 hown0 hgrow0)
  have hB0 : Below w.heap.size w w0 := (Below.refl _ w).grown hgrow0 (Nat.le_refl _) (fun k hk => by cases hk)
  have bL : Boxed (w0.alloc (.cells #[.slice (some ⟨w.heap.size, 0, none⟩) 0 q] 44)) w0.heap.size 44 (.slice (some ⟨w.heap.size, 0, none⟩) 0 q) := Boxed.new _ _ _
  have hown1 := ownsRowG_later hown0 (below_new (Below.refl _ w0) (.cells #[.slice (some ⟨w.heap.size, 0, none⟩) 0 q] 44))
  have hB1 := below_new hB0 (.cells #[.slice (some ⟨w.heap.size, 0, none⟩) 0 q] 44)
  have hBl : w.heap.size ≤ w0.heap.size := hB0.size
  have hsz1 : (w0.alloc (.cells #[.slice (some ⟨w.heap.size, 0, none⟩) 0 q] 44)).heap.size = w0.heap.size + 1 := by simp
  generalize w0.alloc (.cells #[.slice (some ⟨w.heap.size, 0, none⟩) 0 q] 44) = w1 at bL hown1 hB1 hsz1 ⊢
  generalize w0.heap.size = Bl at bL hsz1 hBl ⊢
  have hcu := HCUT.out
  clear hown0 hgrow0 hB0
  go_wp2_with (go_at_call 50; refine (chunk_any _ _ _ _).mono ?_; rintro e w' ⟨rfl, rfl⟩)
  clear hcu
  have bS := (Boxed.new w1 47 (.slice A1 (16 * q) (c - 1))).alloc (.cells #[.int .i64 16] 3)
  have bZ := Boxed.new (w1.alloc (.cells #[.slice A1 (16 * q) (c - 1)] 47)) 3 (.int .i64 16)
  rw [World.size_alloc] at bZ
  replace bL := (bL.alloc (.cells #[.slice A1 (16 * q) (c - 1)] 47)).alloc (.cells #[.int .i64 16] 3)
  have hbn : Below w1.heap.size w1 ((w1.alloc (.cells #[.slice A1 (16 * q) (c - 1)] 47)).alloc (.cells #[.int .i64 16] 3)) := below_new (below_new (Below.refl _ _) _) _
  have hown2 := ownsRowG_later hown1 hbn
  have hB2 := below_step hB1 hbn
  have hsz2 : ((w1.alloc (.cells #[.slice A1 (16 * q) (c - 1)] 47)).alloc (.cells #[.int .i64 16] 3)).heap.size = Bl + 3 := by simp [hsz1]
  rw [hsz1] at bS bZ
  clear hown1 hbn hB1
  generalize ((w1.alloc (.cells #[.slice A1 (16 * q) (c - 1)] 47)).alloc (.cells #[.int .i64 16] 3)) = W0 at bL bS bZ hown2 hB2 hsz2 ⊢
  have HLN : Hid (16 * q = 16 * q) := rfl
  refine (wpIn_wide (n := 3)).1 ?_
  refine wpIn_rangeFunc_ownG rfl (by omega) (gf := 64) (lb := #[.pointer (some ⟨Bl + 1, 0, none⟩), .pointer (some ⟨Bl + 1 + 1, 0, none⟩)]) rfl trivial (enters_of Try.func64 (by kernel_rfl) rfl)
    (chunk_stops _ (by omega) (Bl + 1) (Bl + 1 + 1) q (16 * q) (c - 1) A1 (KpC w.heap.size (Bl + 1) (Bl + 1 + 1)) (Lib.hid rfl) (by have := HQ.out; omega) (by have := HE.out; have := HEN.out; omega) W0 (KpC.refl _ _ _) (fun _ _ _ => KpC.trans) (KpC.drew _ _ _)
      (fun W hW W' hK => ⟨by
        have h1 : W'.heap[Bl + 1]? = W0.heap[Bl + 1]? := hK.2.1.trans (hW.block _ (by omega))
        exact Boxed.cell (t := 47) (h1.trans bS), by
        have h1 : W'.heap[Bl + 1 + 1]? = W0.heap[Bl + 1 + 1]? := hK.2.2.trans (hW.block _ (by omega))
        exact Boxed.cell (t := 3) (h1.trans bZ)⟩))
    (fun h k => KpC.trans h k) (KpC.own (by omega) (by omega) (by omega)) (Below.refl _ _) (fun _ => rfl)
    (ReI w (b.drop 1) w.heap.size Bl (Bl + 1) (Bl + 1 + 1) (.slice A1 (16 * q) (c - 1))) (fun _ _ _ => False) (reI_own w (b.drop 1) w.heap.size Bl (Bl + 1) (Bl + 1 + 1) (.slice A1 (16 * q) (c - 1)) _ (Nat.le_refl _) (by omega)) (fun _ _ _ _ _ hs _ _ => hs)
    ⟨⟨⟨_, bL, hown2, trivial⟩, bS, bZ⟩, hB2⟩
    (fun x => { tmps := #[.slice (some ⟨blk, o, none⟩) n c, undef, .slice none 0 0, .int .i64 0, .int .i64 0, .int .i64 (q : Int), .int .i64 (E : Int), .pointer (some ⟨Bl, 0, none⟩), .slice (chA A1 (16 * x.1)) 16 16, .slice (some ⟨blk, o, none⟩) n c, .int .i64 (n : Int), .bool false, .slice (some ⟨blk, o, none⟩) n c, .pointer (some ⟨blk, o, none⟩), .int .u8 (q : Int), .int .i64 (q : Int), .int .i64 (q : Int), .int .i64 ((q : Int) * 16), .int .i64 (E : Int), .bool false, .int .i64 (q : Int), .bool false, .bool false, .slice (some ⟨blk, o, none⟩) n c, .int .i64 (n : Int), .int .i64 (E : Int), .bool false, .int .i64 (q : Int), .slice (some ⟨w.heap.size, 0, none⟩) 0 q, .slice (some ⟨blk, o, none⟩) n c, .int .i64 (E : Int), .slice A1 (16 * q) (c - 1), .func (.func 64) #[] #[.pointer (some ⟨Bl + 1, 0, none⟩), .pointer (some ⟨Bl + 1 + 1, 0, none⟩)], .slice (chA A1 (16 * x.1)) 16 16, undef, undef, undef, undef, undef, undef, undef, undef, undef, undef, undef, undef, undef, undef, undef], defers := [] }) ?assign ?body ?done ?stop
  case assign =>
    intro l x W K hK
    unfold Ck.enc
    gi_wp2
    exact hK
  case body =>
    rintro l pre x W ⟨⟨⟨v, hv, hown, _⟩, hs, hz⟩, hB⟩ hpl
    have hxq := x.2
    have HXJ : Hid (gnA (b.drop 1) x.1 = gnA (b.drop 1) x.1) := rfl
    have hbl : (b.drop 1).length = n - 1 := by rw [List.length_drop, HN.out]
    have hrW := (HR1.out.keep hB).chA (16 * x.1)
    have hEQ := HE.out
    have hEN := HEN.out
    obtain ⟨L1, hL1⟩ : ∃ L, ((b.drop 1).drop (16 * x.1)).take 8 = L := ⟨_, rfl⟩
    obtain ⟨L2, hL2⟩ : ∃ L, ((b.drop 1).drop (16 * x.1 + 8)).take 8 = L := ⟨_, rfl⟩
    have hn1 : L1.length = 8 := by rw [← hL1, List.length_take, List.length_drop, hbl]; omega
    have hn2 : L2.length = 8 := by rw [← hL2, List.length_take, List.length_drop, hbl]; omega
    obtain ⟨v1, hv1⟩ : ∃ v, valN L1 = v := ⟨_, rfl⟩
    obtain ⟨v2, hv2⟩ : ∃ v, valN L2 = v := ⟨_, rfl⟩
    have HG : Hid (gnA (b.drop 1) x.1 = (v1, v2)) := by unfold Hid gnA; rw [hL1, hL2, hv1, hv2]
    have hr1 : Rd vB W (chA A1 (16 * x.1)) L1 := by rw [← hL1]; exact hrW.take 8
    have hr2 : Rd vB W ((chA A1 (16 * x.1)).map (·.add (8 * 1))) L2 := by
      have h := (hrW.drop 8 10000000000 (by rw [List.length_drop, hbl]; omega)).take 8
      rw [if_neg (by omega), List.drop_drop, hL2] at h
      exact h
    have hcl := hv.cell
    have hcf := hv.frozen
    have hct : ∀ W, (Instr.slice 47 (.slice (chA A1 (16 * x.1)) 16 16) none (some (.int .i64 8)) none).run Try.prog W = .ok (.slice (chA A1 (16 * x.1)) 8 16) W := fun W => run_cut_to (P := Try.prog) 47 5 Try.underlying47 size_uint8 _ 16 16 8 (by omega) W
    have hcg : ∀ W, (Instr.slice 47 (.slice (chA A1 (16 * x.1)) 16 16) (some (.int .i64 8)) none none).run Try.prog W = .ok (.slice ((chA A1 (16 * x.1)).map (·.add (8 * 1))) 8 8) W := fun W => by
      have he : Try.prog.elem 47 = 5 := by simp [Program.elem, Try.underlying47]
      rw [run_slice_l W 47 _ 16 16 (by rw [he]; exact Try.underlying47) .i64 8 (by omega) (by omega), he, size_uint8]
      simp [Result.andThen, sliced]
    generalize (chA A1 (16 * x.1)).map (·.add (8 * 1)) = A3 at hr2 hcg
    generalize chA A1 (16 * x.1) = A2 at hr1 hct hcg hrW ⊢
    have HC1 := Lib.hid (number15_any L1 A2 16 W.drew (hr1.keep (Below.refl _ _).drew) hn1 v1 hv1)
    have HC2 := Lib.hid (number15_any L2 A3 8 W.drew (hr2.keep (Below.refl _ _).drew) hn2 v2 hv2)
    clear hr1 hr2 hrW hL1 hL2 hn1 hn2 hv1 hv2 hbl hEQ hEN bL bS bZ hown2 hB2 HXJ
    gi_wp2
    have hS : True := trivial
    have hclD : W.drew.cell? ⟨Bl, 0, none⟩ = some v := hcl
    have hnew : (W.drew.alloc (.cells #[.int .u64 (v1 : Int), .int .u64 (v2 : Int)] 46)).cell? ⟨Bl, 0, none⟩ = some v := by rw [World.cell?_alloc_lt _ _ _ (World.block_lt_of_cell? _ _ hclD)]; exact hclD
    refine wpIn_region_plan_of (fun _ => True) (.step 1 false (.step 2 false (.step 4 false (.step 5 false (.fork 0 (.step 3 true (.step 6 true (.step 7 false (.step 8 true (.step 9 true (.step 10 true .nil)))))) 3 (.fork 0 (.step 6 true (.step 7 false (.step 8 true (.step 9 true (.step 10 true .nil))))) 6 (.step 7 false (.fork 0 (.step 8 true (.step 9 true (.step 10 true .nil))) 8 (.step 0 true (.step 9 true (.step 10 true .nil))))))))))) trivial (by kernel_rfl) (by kernel_rfl) (by rfl) (by rfl) (by kernel_rfl) ?_
    have hvD : Boxed W.drew Bl 44 v := hv
    have hownD : W.drew.ownsRow w.heap.size 46 2 v pre.length (cellsG (pre.map (fun x => gnA (b.drop 1) x.1))) := hown
    have hsD : Boxed W.drew (Bl + 1) 47 (.slice A1 (16 * q) (c - 1)) := hs
    have hzD : Boxed W.drew (Bl + 1 + 1) 3 (.int .i64 16) := hz
    have HBD : Hid (Below w.heap.size w W.drew) := hB.drew
    have HKD : Hid (KeepsOthers W W.drew) := KeepsOthers.drew W
    have HWD : Hid (Below w.heap.size W W.drew ∧ W.drew.heap[Bl + 1]? = W.heap[Bl + 1]? ∧ W.drew.heap[Bl + 1 + 1]? = W.heap[Bl + 1 + 1]?) := ⟨(Below.refl _ _).drew, rfl, rfl⟩
    clear hcf hcl hv hown hs hz hB
    generalize W.drew = wd at *
    have HG2 : Hid (cellsG ((pre ++ [x]).map (fun x => gnA (b.drop 1) x.1)) = cellsG (pre.map (fun x => gnA (b.drop 1) x.1)) ++ cellsG [(v1, v2)]) := by
      unfold Hid
      rw [List.map_append, cellsG_app, List.map_cons, List.map_nil, HG.out]
    have hpq : pre.length < 64 := by omega
    have hrp : RdG (wd.alloc (.cells #[.int .u64 (v1 : Int), .int .u64 (v2 : Int)] 46)) (some ⟨wd.heap.size, 0, none⟩) [(v1, v2)] := fun _ => by
      refine ⟨wd.heap.size, 0, rfl, fun i hi => ?_⟩
      have hi0 : i = 0 := by simpa using hi
      subst hi0
      have hRn : Row (wd.alloc (.cells #[.int .u64 (v1 : Int), .int .u64 (v2 : Int)] 46)) wd.heap.size 46 [.int .u64 (v1 : Int), .int .u64 (v2 : Int)] := Row.new wd _ _ _ rfl
      exact ⟨hRn.cell rfl, hRn.cell rfl⟩
    have hszd : w.heap.size ≤ wd.heap.size := HBD.out.size
    iterate 4 (refine plan_read rfl (by rfl) (v := ?_) ?_ ?_; rotate_left 1; (intro W hW; go_simp <;> with_reducible rfl); simp only [List.getElem_toArray, List.getElem_cons_zero, List.getElem_cons_succ, Act.put, List.setIfInBounds_toArray, List.set_cons_zero, List.set_cons_succ])
    refine plan_fork rfl rfl (by rfl) (by rfl) (fun K hK => ?_) (fun K hK => ?_)
    · go_simp
      refine hK.out _ _ trivial ?_
      clear hK K
      (refine plan_make_of rfl (by rfl) (fun K hK => ?_); go_simp; (refine HC1.out.mono ?_; rintro e₁ w4 ⟨rfl, h4⟩; replace h4 := h4.symm; subst h4); refine hK.out _ _ hS ?_; clear hK K)
      (refine plan_make_of rfl (by rfl) (fun K hK => ?_); go_simp; (refine HC2.out.mono ?_; rintro e₁ w4 ⟨rfl, h4⟩; replace h4 := h4.symm; subst h4); refine hK.out _ _ hS ?_; clear hK K)
      iterate 1 (refine plan_read rfl (by rfl) (v := ?_) ?_ ?_; rotate_left 1; (intro W hW; go_simp <;> with_reducible rfl); simp only [List.getElem_toArray, List.getElem_cons_zero, List.getElem_cons_succ, Act.put, List.setIfInBounds_toArray, List.set_cons_zero, List.set_cons_succ])
      (refine plan_make_of rfl (by rfl) (fun K hK => ?_); go_simp; skip; refine hK.out _ _ hS ?_; clear hK K)
      refine plan_make_of rfl (by rfl) (fun K hK => ?_)
      refine wp_append_rdG _ (.tmp 34) (.tmp 42) 44 (by rfl) w.heap.size 46 j0 (.agg #[.int .u64 0, .int .u64 0]) 16 Try.underlying44 hj gz0 gz1 gz2 rfl v pre.length _ (by rfl) (hownD.alloc _) (some ⟨wd.heap.size, 0, none⟩) [(v1, v2)] 1 (by rfl) hrp (by simp; unfold maxLen; omega) (by simp; omega) (by simp; omega) ?_
      intro v3 w3 hown3 hgrow3 _
      obtain ⟨hv4, hv5, hr5, hk5, hb5⟩ := hvD.appended (by decide) hownD hszd hBl hown3 hgrow3
      have hs4 := (hsD.alloc (.cells #[.int .u64 (v1 : Int), .int .u64 (v2 : Int)] 46)).kept hgrow3 (hsD.not_row (by decide) hownD)
      have hz4 := (hzD.alloc (.cells #[.int .u64 (v1 : Int), .int .u64 (v2 : Int)] 46)).kept hgrow3 (hzD.not_row (by decide) hownD)
      obtain ⟨A5, c5, hv3E, _⟩ := own_formG hown3
      subst hv3E
      simp only [List.getElem_toArray, List.getElem_cons_zero, List.getElem_cons_succ, Act.put, List.setIfInBounds_toArray, List.set_cons_zero, List.set_cons_succ]
      refine hK.out _ _ trivial ?_
      clear hK K
      have hc9 := hv4.cell
      have hf9 := hv4.frozen
      (refine plan_make_of rfl (by rfl) (fun K hK => ?_); go_simp; skip; refine hK.out _ _ hS ?_; clear hK K)
      refine planIn_done ?_
      gi_wp2
      have hs5 := hs4.other (B' := Bl) (by omega) (.slice A5 (pre.length + 1) c5)
      have hz5 := hz4.other (B' := Bl) (by omega) (.slice A5 (pre.length + 1) c5)
      refine ⟨(HKD.out.trans hk5).from _, ⟨HWD.out.1.trans hb5, ?_, ?_⟩, ⟨⟨_, hv5, ?_, trivial⟩, hs5, hz5⟩, HBD.out.trans hb5⟩
      · exact (show _ = _ from hs5).trans ((show wd.heap[Bl + 1]? = _ from hsD).symm.trans HWD.out.2.1)
      · exact (show _ = _ from hz5).trans ((show wd.heap[Bl + 1 + 1]? = _ from hzD).symm.trans HWD.out.2.2)
      · rw [HG2.out, List.length_append]
        exact hr5
    · go_simp
      refine HC1.out.mono ?_; rintro e₁ w4 ⟨rfl, h4⟩; replace h4 := h4.symm; subst h4
      refine hK.out _ _ trivial ?_
      clear hK K
      refine plan_fork rfl rfl (by rfl) (by rfl) (fun K hK => ?_) (fun K hK => ?_)
      · go_simp
        refine hK.out _ _ trivial ?_
        clear hK K
        (refine plan_make_of rfl (by rfl) (fun K hK => ?_); go_simp; (refine HC2.out.mono ?_; rintro e₁ w4 ⟨rfl, h4⟩; replace h4 := h4.symm; subst h4); refine hK.out _ _ hS ?_; clear hK K)
        iterate 1 (refine plan_read rfl (by rfl) (v := ?_) ?_ ?_; rotate_left 1; (intro W hW; go_simp <;> with_reducible rfl); simp only [List.getElem_toArray, List.getElem_cons_zero, List.getElem_cons_succ, Act.put, List.setIfInBounds_toArray, List.set_cons_zero, List.set_cons_succ])
        (refine plan_make_of rfl (by rfl) (fun K hK => ?_); go_simp; skip; refine hK.out _ _ hS ?_; clear hK K)
        refine plan_make_of rfl (by rfl) (fun K hK => ?_)
        refine wp_append_rdG _ (.tmp 34) (.tmp 42) 44 (by rfl) w.heap.size 46 j0 (.agg #[.int .u64 0, .int .u64 0]) 16 Try.underlying44 hj gz0 gz1 gz2 rfl v pre.length _ (by rfl) (hownD.alloc _) (some ⟨wd.heap.size, 0, none⟩) [(v1, v2)] 1 (by rfl) hrp (by simp; unfold maxLen; omega) (by simp; omega) (by simp; omega) ?_
        intro v3 w3 hown3 hgrow3 _
        obtain ⟨hv4, hv5, hr5, hk5, hb5⟩ := hvD.appended (by decide) hownD hszd hBl hown3 hgrow3
        have hs4 := (hsD.alloc (.cells #[.int .u64 (v1 : Int), .int .u64 (v2 : Int)] 46)).kept hgrow3 (hsD.not_row (by decide) hownD)
        have hz4 := (hzD.alloc (.cells #[.int .u64 (v1 : Int), .int .u64 (v2 : Int)] 46)).kept hgrow3 (hzD.not_row (by decide) hownD)
        obtain ⟨A5, c5, hv3E, _⟩ := own_formG hown3
        subst hv3E
        simp only [List.getElem_toArray, List.getElem_cons_zero, List.getElem_cons_succ, Act.put, List.setIfInBounds_toArray, List.set_cons_zero, List.set_cons_succ]
        refine hK.out _ _ trivial ?_
        clear hK K
        have hc9 := hv4.cell
        have hf9 := hv4.frozen
        (refine plan_make_of rfl (by rfl) (fun K hK => ?_); go_simp; skip; refine hK.out _ _ hS ?_; clear hK K)
        refine planIn_done ?_
        gi_wp2
        have hs5 := hs4.other (B' := Bl) (by omega) (.slice A5 (pre.length + 1) c5)
        have hz5 := hz4.other (B' := Bl) (by omega) (.slice A5 (pre.length + 1) c5)
        refine ⟨(HKD.out.trans hk5).from _, ⟨HWD.out.1.trans hb5, ?_, ?_⟩, ⟨⟨_, hv5, ?_, trivial⟩, hs5, hz5⟩, HBD.out.trans hb5⟩
        · exact (show _ = _ from hs5).trans ((show wd.heap[Bl + 1]? = _ from hsD).symm.trans HWD.out.2.1)
        · exact (show _ = _ from hz5).trans ((show wd.heap[Bl + 1 + 1]? = _ from hzD).symm.trans HWD.out.2.2)
        · rw [HG2.out, List.length_append]
          exact hr5
      · go_simp
        refine HC2.out.mono ?_; rintro e₁ w4 ⟨rfl, h4⟩; replace h4 := h4.symm; subst h4
        refine hK.out _ _ trivial ?_
        clear hK K
        iterate 1 (refine plan_read rfl (by rfl) (v := ?_) ?_ ?_; rotate_left 1; (intro W hW; go_simp <;> with_reducible rfl); simp only [List.getElem_toArray, List.getElem_cons_zero, List.getElem_cons_succ, Act.put, List.setIfInBounds_toArray, List.set_cons_zero, List.set_cons_succ])
        refine plan_fork rfl rfl (by rfl) (by rfl) (fun K hK => ?_) (fun K hK => ?_)
        · go_simp
          refine hK.out _ _ trivial ?_
          clear hK K
          (refine plan_make_of rfl (by rfl) (fun K hK => ?_); go_simp; skip; refine hK.out _ _ hS ?_; clear hK K)
          refine plan_make_of rfl (by rfl) (fun K hK => ?_)
          refine wp_append_rdG _ (.tmp 34) (.tmp 42) 44 (by rfl) w.heap.size 46 j0 (.agg #[.int .u64 0, .int .u64 0]) 16 Try.underlying44 hj gz0 gz1 gz2 rfl v pre.length _ (by rfl) (hownD.alloc _) (some ⟨wd.heap.size, 0, none⟩) [(v1, v2)] 1 (by rfl) hrp (by simp; unfold maxLen; omega) (by simp; omega) (by simp; omega) ?_
          intro v3 w3 hown3 hgrow3 _
          obtain ⟨hv4, hv5, hr5, hk5, hb5⟩ := hvD.appended (by decide) hownD hszd hBl hown3 hgrow3
          have hs4 := (hsD.alloc (.cells #[.int .u64 (v1 : Int), .int .u64 (v2 : Int)] 46)).kept hgrow3 (hsD.not_row (by decide) hownD)
          have hz4 := (hzD.alloc (.cells #[.int .u64 (v1 : Int), .int .u64 (v2 : Int)] 46)).kept hgrow3 (hzD.not_row (by decide) hownD)
          obtain ⟨A5, c5, hv3E, _⟩ := own_formG hown3
          subst hv3E
          simp only [List.getElem_toArray, List.getElem_cons_zero, List.getElem_cons_succ, Act.put, List.setIfInBounds_toArray, List.set_cons_zero, List.set_cons_succ]
          refine hK.out _ _ trivial ?_
          clear hK K
          have hc9 := hv4.cell
          have hf9 := hv4.frozen
          (refine plan_make_of rfl (by rfl) (fun K hK => ?_); go_simp; skip; refine hK.out _ _ hS ?_; clear hK K)
          refine planIn_done ?_
          gi_wp2
          have hs5 := hs4.other (B' := Bl) (by omega) (.slice A5 (pre.length + 1) c5)
          have hz5 := hz4.other (B' := Bl) (by omega) (.slice A5 (pre.length + 1) c5)
          refine ⟨(HKD.out.trans hk5).from _, ⟨HWD.out.1.trans hb5, ?_, ?_⟩, ⟨⟨_, hv5, ?_, trivial⟩, hs5, hz5⟩, HBD.out.trans hb5⟩
          · exact (show _ = _ from hs5).trans ((show wd.heap[Bl + 1]? = _ from hsD).symm.trans HWD.out.2.1)
          · exact (show _ = _ from hz5).trans ((show wd.heap[Bl + 1 + 1]? = _ from hzD).symm.trans HWD.out.2.2)
          · rw [HG2.out, List.length_append]
            exact hr5
        · go_simp
          refine hK.out _ _ trivial ?_
          clear hK K
          (refine plan_make_of rfl (by rfl) (fun K hK => ?_); go_simp; skip; refine hK.out _ _ hS ?_; clear hK K)
          refine plan_make_of rfl (by rfl) (fun K hK => ?_)
          refine wp_append_rdG _ (.tmp 34) (.tmp 42) 44 (by rfl) w.heap.size 46 j0 (.agg #[.int .u64 0, .int .u64 0]) 16 Try.underlying44 hj gz0 gz1 gz2 rfl v pre.length _ (by rfl) (hownD.alloc _) (some ⟨wd.heap.size, 0, none⟩) [(v1, v2)] 1 (by rfl) hrp (by simp; unfold maxLen; omega) (by simp; omega) (by simp; omega) ?_
          intro v3 w3 hown3 hgrow3 _
          obtain ⟨hv4, hv5, hr5, hk5, hb5⟩ := hvD.appended (by decide) hownD hszd hBl hown3 hgrow3
          have hs4 := (hsD.alloc (.cells #[.int .u64 (v1 : Int), .int .u64 (v2 : Int)] 46)).kept hgrow3 (hsD.not_row (by decide) hownD)
          have hz4 := (hzD.alloc (.cells #[.int .u64 (v1 : Int), .int .u64 (v2 : Int)] 46)).kept hgrow3 (hzD.not_row (by decide) hownD)
          obtain ⟨A5, c5, hv3E, _⟩ := own_formG hown3
          subst hv3E
          simp only [List.getElem_toArray, List.getElem_cons_zero, List.getElem_cons_succ, Act.put, List.setIfInBounds_toArray, List.set_cons_zero, List.set_cons_succ]
          refine hK.out _ _ trivial ?_
          clear hK K
          have hc9 := hv4.cell
          have hf9 := hv4.frozen
          (refine plan_make_of rfl (by rfl) (fun K hK => ?_); go_simp; skip; refine hK.out _ _ hS ?_; clear hK K)
          refine planIn_done ?_
          gi_wp2
          have hs5 := hs4.other (B' := Bl) (by omega) (.slice A5 (pre.length + 1) c5)
          have hz5 := hz4.other (B' := Bl) (by omega) (.slice A5 (pre.length + 1) c5)
          refine ⟨(HKD.out.trans hk5).from _, ⟨HWD.out.1.trans hb5, ?_, ?_⟩, ⟨⟨_, hv5, ?_, trivial⟩, hs5, hz5⟩, HBD.out.trans hb5⟩
          · exact (show _ = _ from hs5).trans ((show wd.heap[Bl + 1]? = _ from hsD).symm.trans HWD.out.2.1)
          · exact (show _ = _ from hz5).trans ((show wd.heap[Bl + 1 + 1]? = _ from hzD).symm.trans HWD.out.2.2)
          · rw [HG2.out, List.length_append]
            exact hr5
  case done =>
    rintro D xs W hD hSx ⟨⟨⟨v, hv, hown, _⟩, hs, hz⟩, hB⟩ hDf
    have hxs : xs.map (fun x => gnA (b.drop 1) x.1) = takeG q (b.drop 1) := by
      rw [take_map, ← hSx, List.map_map]
      rfl
    have hxl : xs.length = q := by
      have := congrArg List.length hSx
      simpa using this
    rw [hxs, hxl] at hown
    obtain ⟨hft1, hft2, hft3⟩ := flat_take q (b.drop 1) (by rw [List.length_drop, HN.out]; have := HE.out; have := HEN.out; omega)
    obtain ⟨A5, c5, rfl, hq5⟩ := own_formG hown
    have hrd : RdG W A5 (takeG q (b.drop 1)) := RdG.own hown
    have HRT := Lib.hid (fun W' hW' => right15_any (takeG q (b.drop 1)) q c5 A5 W' hft2 (hrd.keep hW') hft3 (by omega))
    have hcl := hv.cell
    have HOW := Lib.hid hown
    have HBB := Lib.hid hB
    have HT2 := Lib.hid hft2
    have hDl : D < W.heap.size := (Array.getElem?_eq_some_iff.1 hDf).1
    generalize takeG q (b.drop 1) = l at HOW HRT HP hft2 HT2
    have hcl2 : ∀ W', Below W.heap.size W W' → W'.cell? ⟨Bl, 0, none⟩ = some (.slice A5 q c5) := fun W' h => Boxed.cell ((h.block _ (Boxed.lt hv)).trans hv)
    have HCL := Lib.hid hcl2
    obtain ⟨R, hR⟩ : ∃ R, rightG l = R := ⟨_, rfl⟩
    rw [hR] at HRT HP
    clear hv hown hs hz hB hxs hxl hft1 hft3 hrd hft2 hcl2 hR bL bS bZ hown2 hB2
    cases R with
    | false =>
      have HPP : Hid (P = ([], 0, 3)) := HP.out
      gi_wp2
      go_wp2_with fail
      refine (HRT.out _ (Below.refl _ _)).mono ?_
      rintro e w2 ⟨rfl, hb2⟩
      have hDf2 : w2.heap[D]? = some (.deferred (some [])) := (hb2.block D hDl).trans hDf
      have HB2 := Lib.hid hb2
      clear hb2 hcl
      go_wp2_with fail
      refine ⟨by simp, .inl ⟨_, _, rfl, run_takeDeferred hDf2, ?_⟩⟩
      refine ⟨_, results_tmp3 rfl _ _ _, _, by rw [HPP.out]; rfl, by rw [HPP.out]; exact World.ownsRow_nil _ _ _ _, ?_⟩
      exact (HBB.out.trans (HB2.out.mono HBB.out.size)).trans (belowK_b (w := w) (Nat.le_refl _) w2 D _ _ (by have := HBB.out.size; omega) hDf2 rfl rfl)
    | true =>
      have HPP : Hid (P = (l, 1 + 16 * q, 0)) := HP.out
      gi_wp2
      go_wp2_with fail
      refine (HRT.out _ (Below.refl _ _)).mono ?_
      rintro e w2 ⟨rfl, hb2⟩
      have hDf2 : w2.heap[D]? = some (.deferred (some [])) := (hb2.block D hDl).trans hDf
      have hcl3 := HCL.out _ hb2
      have HB2 := Lib.hid hb2
      clear hb2 hcl
      go_wp2_with fail
      refine ⟨by simp, .inl ⟨_, _, rfl, run_takeDeferred hDf2, ?_⟩⟩
      have hown3 := ownsRow_putObj (ownsRowG_later HOW.out HB2.out) (.deferred none) hDf2 rfl
      refine ⟨_, results_tmp3 rfl _ _ _, .slice A5 q c5, by rw [HPP.out, ← HE.out]; rfl, by rw [HPP.out]; dsimp only; rw [HT2.out]; exact hown3, ?_⟩
      exact (HBB.out.trans (HB2.out.mono HBB.out.size)).trans (belowK_b (w := w) (Nat.le_refl _) w2 D _ _ (by have := HBB.out.size; omega) hDf2 rfl rfl)
  case stop =>
    rintro D c pre W _ _ h _
    exact h.elim
end Go.Proofs.Ytmljhkdojopljaa
/-
  What the reference's Read of layer 15 answers. No conditions but those typed.
-/
namespace Go.Proofs.Ytmljhkdojopljaa
set_option maxRecDepth 100000
open Go.RowKit
set_option linter.unusedSimpArgs false
set_option linter.unusedVariables false

theorem takeG_next (k : Nat) (D : List UInt8) : takeG (k + 1) D = takeG k D ++ [gnA D k] := by rw [take_map, take_map, List.range_succ, List.map_append]; rfl
theorem takeG_len (k : Nat) (D : List UInt8) : (takeG k D).length = k := by rw [take_map]; simp

theorem val8_any (l : List UInt8) (A : Option Addr) (c : Nat) (w : World) (hr : Rd vB w A l) (HL : Hid (l.length = 8)) (v : Nat) (HV : Hid (valN l = v)) :
    Calls Try.prog 52 #[.slice A 8 c] w fun e w' => e = .returned (.int .u64 (v : Int)) ∧ w' = w := by
  have h := value_any l A c w hr (by rw [HL.out]; omega)
  have hv8 : valN l < 18446744073709551616 := valN_lt8 l (by rw [HL.out]; omega)
  rw [HL.out, Nat.mod_eq_of_lt hv8, HV.out] at h
  exact h.mono fun e w' ⟨h1, h2⟩ => ⟨h1, h2.symm⟩
def RReadI (D : List UInt8) (q : Nat) (w : World) (v i : Value) (wr : World) : Prop :=
  ∃ k : Nat, i = .int .i64 (k : Int) ∧ k ≤ q ∧ wr.ownsRow w.heap.size 46 2 v k (cellsG (takeG k D)) ∧ Below w.heap.size w wr
/-- What the reference's Read hands back. -/
def RetRr (w : World) (l : List Gn) (n : Nat) (k : Int) (e : Ending) (w' : World) : Prop := ∃ v, e = .returned (.tuple #[v, .int .i64 (n : Int), .int .i64 k]) ∧ w'.ownsRow w.heap.size 46 2 v l.length (cellsG l) ∧ Below w.heap.size w w'

set_option maxHeartbeats 2000000 in
theorem refread15_any (b : List UInt8) (n c : Nat) (A : Option Addr) (w : World) (HN : Hid (b.length = n)) (hr : Rd vB w A b) (hn : n ≤ 1000000000) (hc : n ≤ c) :
    Calls Try.prog 27 #[.slice A n c] w (RetRr w (readG b).1 (readG b).2.1 (readG b).2.2) := by
  obtain ⟨j0, hj, gz0, gz1, gz2⟩ := info_parts info_gone
  obtain ⟨P, hP⟩ : ∃ P, P = readG b := ⟨_, rfl⟩
  rw [← hP]
  have hlen := HN.out
  by_cases h0 : n = 0
  · have HP : Hid (P = ([], 0, 2)) := hP.trans (read_none (by omega))
    clear hP
    subst h0
    go_enter Try.func27, Try.ntmps27
    go_wp2_with fail
    go_ret3
    exact ⟨_, by rw [HP.out]; rfl, by rw [HP.out]; exact World.ownsRow_nil _ _ _ _, Below.refl _ _⟩
  · have hb0 : b.length ≠ 0 := by omega
    obtain ⟨blk, o, rfl, hblk, hcell⟩ := hr.at (k := 0) (by omega)
    have hc0 := hcell 0 (by omega)
    have hcnt : cntG b = (b[0]'(by omega)).toNat := by unfold cntG; rw [List.getD_eq_getElem?_getD, List.getElem?_eq_getElem (by omega)]; rfl
    rw [Nat.add_zero] at hc0
    unfold vB at hc0
    rw [← hcnt] at hc0
    have hlt : cntG b < 256 := by rw [hcnt]; exact UInt8.toNat_lt _
    have z1 : ((n : Int) == 0) = false := beq_eq_false_iff_ne.2 (by omega)
    have hp : (0 : Int) < (n : Int) := by omega
    by_cases h64 : 64 < cntG b
    · have HP : Hid (P = ([], 0, 3)) := hP.trans (read_many hb0 h64)
      clear hP hcell hcnt
      generalize cntG b = q at hc0 hlt h64
      go_enter Try.func27, Try.ntmps27
      go_wp2_with fail
      go_ret3
      exact ⟨_, by rw [HP.out]; rfl, by rw [HP.out]; exact World.ownsRow_nil _ _ _ _, Below.refl _ _⟩
    · by_cases hsh : b.length < 1 + 16 * cntG b
      · have HP : Hid (P = ([], 0, 2)) := hP.trans (read_short hb0 h64 hsh)
        rw [hlen] at hsh
        clear hP hcell hcnt
        generalize cntG b = q at hc0 hlt h64 hsh
        go_enter Try.func27, Try.ntmps27
        go_wp2_with fail
        go_ret3
        exact ⟨_, by rw [HP.out]; rfl, by rw [HP.out]; exact World.ownsRow_nil _ _ _ _, Below.refl _ _⟩
      · have HP : Hid (P = _) := hP.trans (read_list hb0 h64 hsh)
        rw [hlen] at hsh
        clear hP hcell hcnt
        generalize cntG b = q at hc0 hlt h64 hsh HP
        have d64 : ¬ (64 : Int) < (q : Int) := by omega
        have dn : ¬ (n : Int) < 1 + 16 * (q : Int) := by omega
        have HQ : Hid (q ≤ 64) := by unfold Hid; omega
        have HSN : Hid (1 + 16 * q ≤ n) := by unfold Hid; omega
        go_enter Try.func27, Try.ntmps27
        go_wp2_with fail
        clear d64 dn hc0 hsh h64 z1
        go_loopw [6, 7] (fun v i wr => RReadI (b.drop 1) q w v i wr) (fun _ i _ => q - (intOf i).toNat)
        case atStart => exact ⟨0, rfl, by omega, World.ownsRow_nil _ _ _ _, Below.refl _ _⟩
        case round =>
          obtain ⟨k, rfl, hk, hown, hB⟩ := hrel
          by_cases hlt2 : k < q
          · obtain ⟨a, ha⟩ : ∃ a : Nat, a = 1 + 16 * k := ⟨_, rfl⟩
            have hai : (1 : Int) + 16 * (k : Int) = (a : Int) := by omega
            have hk64 := HQ.out
            have hsn := HSN.out
            have han : a + 16 ≤ n := by omega
            have hbw : Below w.heap.size w wr := hB
            have hrw := hr.keep hB
            have hcA : ∀ W, (Instr.slice 47 (.slice (some ⟨blk, o, none⟩) n c) (some (.int .i64 (a : Int))) (some (.int .i64 ((a : Int) + 8))) none).run Try.prog W = .ok (.slice (chA (some ⟨blk, o, none⟩) a) 8 (c - a)) W := fun W => by
              have := cut_mid (some ⟨blk, o, none⟩) n c a 8 (by omega) W
              rw [if_neg (by omega)] at this
              exact this
            have hcB : ∀ W, (Instr.slice 47 (.slice (some ⟨blk, o, none⟩) n c) (some (.int .i64 ((a : Int) + 8))) (some (.int .i64 ((a : Int) + 16))) none).run Try.prog W = .ok (.slice (chA (some ⟨blk, o, none⟩) (a + 8)) 8 (c - (a + 8))) W := fun W => by
              have := cut_mid (some ⟨blk, o, none⟩) n c (a + 8) 8 (by omega) W
              rw [if_neg (by omega), show (((a + 8 : Nat) : Int)) = (a : Int) + 8 by omega, show (a : Int) + 8 + ((8 : Nat) : Int) = (a : Int) + 16 by omega] at this
              exact this
            obtain ⟨L1, hL1⟩ : ∃ L, (b.drop a).take 8 = L := ⟨_, rfl⟩
            obtain ⟨L2, hL2⟩ : ∃ L, (b.drop (a + 8)).take 8 = L := ⟨_, rfl⟩
            have hn1 : L1.length = 8 := by rw [← hL1, List.length_take, List.length_drop]; omega
            have hn2 : L2.length = 8 := by rw [← hL2, List.length_take, List.length_drop]; omega
            obtain ⟨v1, hv1⟩ : ∃ v, valN L1 = v := ⟨_, rfl⟩
            obtain ⟨v2, hv2⟩ : ∃ v, valN L2 = v := ⟨_, rfl⟩
            have HG : Hid (takeG (k + 1) (b.drop 1) = takeG k (b.drop 1) ++ [(v1, v2)]) := by
              unfold Hid
              rw [takeG_next]
              unfold gnA
              rw [List.drop_drop, List.drop_drop, ← ha, show 1 + (16 * k + 8) = a + 8 by omega, hL1, hL2, hv1, hv2]
            have hr1 : Rd vB wr (chA (some ⟨blk, o, none⟩) a) L1 := by rw [← hL1]; exact (hrw.chA a).take 8
            have hr2 : Rd vB wr (chA (some ⟨blk, o, none⟩) (a + 8)) L2 := by rw [← hL2]; exact (hrw.chA (a + 8)).take 8
            generalize chA (some ⟨blk, o, none⟩) a = A1 at hr1 hcA
            generalize chA (some ⟨blk, o, none⟩) (a + 8) = A2 at hr2 hcB
            have HC1 := Lib.hid (val8_any L1 A1 (c - a) wr.drew (hr1.keep (Below.refl _ _).drew) hn1 v1 hv1)
            have HC2 := Lib.hid (val8_any L2 A2 (c - (a + 8)) wr.drew (hr2.keep (Below.refl _ _).drew) hn2 v2 hv2)
            have HB := Lib.hid hB
            have HAI := Lib.hid hai
            clear hr1 hr2 hrw hL1 hL2 hn1 hn2 hv1 hv2 hB ha hai hbw
            go_upto_region 13 with fail
            rw [HAI.out]
            have hBase := (Below.refl wr.heap.size wr).drew
            have w8 : IntKind.i64.wrap ((a : Int) + 8) = (a : Int) + 8 := by rw [IntKind.wrap_i64]; omega
            have w16 : IntKind.i64.wrap ((a : Int) + 16) = (a : Int) + 16 := by rw [IntKind.wrap_i64]; omega
            have hS : True := trivial
            refine wp_region_plan_of (fun _ => True) (.step 0 false (.step 1 false (.step 2 false (.step 3 false (.step 4 false (.step 5 false (.step 7 false (.step 8 false (.step 9 false (.step 10 false (.step 11 false (.step 12 false (.step 6 true (.step 13 true (.step 14 false (.step 15 true (.step 16 true (.step 17 false (.nil))))))))))))))))))) trivial (by kernel_rfl) (by kernel_rfl) (by rfl) (by kernel_rfl) ?_
            iterate 12 (refine plan_read rfl (by rfl) (v := ?_) ?_ ?_; rotate_left 1; (intro W hW; go_simp <;> with_reducible rfl); simp only [List.getElem_toArray, List.getElem_cons_zero, List.getElem_cons_succ, Act.put, List.setIfInBounds_toArray, List.set_cons_zero, List.set_cons_succ])
            have hownD : wr.drew.ownsRow w.heap.size 46 2 _ k (cellsG (takeG k (b.drop 1))) := hown
            have HBD : Hid (Below w.heap.size w wr.drew) := HB.out.drew
            clear hown
            generalize wr.drew = wd at hBase HC1 HC2 hownD HBD ⊢
            (refine plan_make_of rfl (by rfl) (fun K hK => ?_); go_simp; (refine HC1.out.mono ?_; rintro e₁ w4 ⟨rfl, h4⟩; replace h4 := h4.symm; subst h4); refine hK.out _ _ hS ?_; clear hK K)
            (refine plan_make_of rfl (by rfl) (fun K hK => ?_); go_simp; (refine HC2.out.mono ?_; rintro e₁ w4 ⟨rfl, h4⟩; replace h4 := h4.symm; subst h4); refine hK.out _ _ hS ?_; clear hK K)
            iterate 1 (refine plan_read rfl (by rfl) (v := ?_) ?_ ?_; rotate_left 1; (intro W hW; go_simp <;> with_reducible rfl); simp only [List.getElem_toArray, List.getElem_cons_zero, List.getElem_cons_succ, Act.put, List.setIfInBounds_toArray, List.set_cons_zero, List.set_cons_succ])
            (refine plan_make_of rfl (by rfl) (fun K hK => ?_); go_simp; skip; refine hK.out _ _ hS ?_; clear hK K)
            have hszd : w.heap.size ≤ wd.heap.size := HBD.out.size
            refine plan_make_of rfl (by rfl) (fun K hK => ?_)
            refine wp_append_rdG _ (.tmp 32) (.tmp 47) 44 (by rfl) w.heap.size 46 j0 (.agg #[.int .u64 0, .int .u64 0]) 16 Try.underlying44 hj gz0 gz1 gz2 rfl _ _ _ (by rfl) (hownD.alloc _) (some ⟨wd.heap.size, 0, none⟩) [(v1, v2)] 1 (by rfl) (rdG_one _ _ _ _) (by simp; unfold maxLen; omega) (by simp; omega) (by simp; omega) ?_
            intro v5 w5 hown5 hgrow5 _
            have HB5 : Hid (Below w.heap.size w w5) := (below_new HBD.out _).grown hgrow5 (by simp; omega) (fun j hj => (hownD.lt j hj).1)
            simp only [List.getElem_toArray, List.getElem_cons_zero, List.getElem_cons_succ, Act.put, List.setIfInBounds_toArray, List.set_cons_zero, List.set_cons_succ]
            refine hK.out _ _ trivial ?_
            clear hK K
            iterate 1 (refine plan_read rfl (by rfl) (v := ?_) ?_ ?_; rotate_left 1; (intro W hW; go_simp <;> with_reducible rfl); simp only [List.getElem_toArray, List.getElem_cons_zero, List.getElem_cons_succ, Act.put, List.setIfInBounds_toArray, List.set_cons_zero, List.set_cons_succ])
            refine plan_done ?_
            go_wp2_with fail
            go_roundw
            case rel => exact ⟨k + 1, by go_num, by omega, by rw [HG.out, cellsG_app]; exact hown5, HB5.out⟩
            case measure => simp [intOf]; omega
          · have hkq : k = q := by omega
            subst hkq
            have hsn := HSN.out
            obtain ⟨hft1, hft2, hft3⟩ := flat_take k (b.drop 1) (by rw [List.length_drop]; omega)
            obtain ⟨A5, c5, rfl, hq5⟩ := own_formG hown
            have hrd : RdG wr A5 (takeG k (b.drop 1)) := RdG.own hown
            have hrt := refright15_any (takeG k (b.drop 1)) k c5 A5 wr hft2 hrd (by omega)
            have HT2 := Lib.hid hft2
            have HOW := Lib.hid hown
            have HB := Lib.hid hB
            generalize takeG k (b.drop 1) = l at hrt HT2 HOW HP hft2
            obtain ⟨R, hR⟩ : ∃ R, rightG l = R := ⟨_, rfl⟩
            rw [hR] at hrt HP
            have HRT := Lib.hid hrt
            have j1 : ¬ (k : Int) < (k : Int) := by omega
            clear hrt hR hft1 hft2 hft3 hrd hown hB hq5 hk
            cases R with
            | false =>
              have HPP : Hid (P = ([], 0, 3)) := HP.out
              go_wp2_with fail
              refine HRT.out.mono ?_
              rintro e w2 ⟨rfl, hb2⟩
              have HB2 := Lib.hid (below_step HB.out hb2)
              clear hb2
              go_wp2_with fail
              go_ret3
              exact ⟨_, by rw [HPP.out]; rfl, by rw [HPP.out]; exact World.ownsRow_nil _ _ _ _, HB2.out⟩
            | true =>
              have HPP : Hid (P = (l, 1 + 16 * k, 0)) := HP.out
              obtain ⟨E, hE⟩ : ∃ E : Nat, E = 1 + 16 * k := ⟨_, rfl⟩
              have hE2 : (1 : Int) + 16 * (k : Int) = (E : Int) := by omega
              have HE := Lib.hid hE
              have HE2 := Lib.hid hE2
              clear hE hE2
              go_wp2_with fail
              refine HRT.out.mono ?_
              rintro e w2 ⟨rfl, hb2⟩
              have HB2 := Lib.hid (below_step HB.out hb2)
              have HO2 := Lib.hid (ownsRowG_later HOW.out hb2)
              clear hb2
              go_wp2_with fail
              go_ret3
              exact ⟨_, by rw [HPP.out, ← HE.out, ← HE2.out]; rfl, by rw [HPP.out]; dsimp only; rw [HT2.out]; exact HO2.out, HB2.out⟩
end Go.Proofs.Ytmljhkdojopljaa
/-
  What the call awake of layer 15's statements answers: true. No conditions.
-/
namespace Go.Proofs.Ytmljhkdojopljaa
set_option maxRecDepth 100000
open Go.RowKit
set_option linter.unusedSimpArgs false
set_option linter.unusedVariables false

theorem read15_any (b : List UInt8) (n c : Nat) (A : Option Addr) (w : World) (HN : Hid (b.length = n)) (hr : Rd vB w A b) (hn : n ≤ 1000000000) (hc : n ≤ c) :
    Calls Try.prog 26 #[.slice A n c] w (RetRd w (readG b).1 (readG b).2.1 (readG b).2.2) := by
  by_cases h0 : b.length = 0
  · exact read15_short b n c A w HN hr hn hc (Lib.hid (.inl h0))
  · by_cases h64 : 64 < cntG b
    · exact read15_short b n c A w HN hr hn hc (Lib.hid (.inr (.inl h64)))
    · by_cases hs : b.length < 1 + 16 * cntG b
      · exact read15_short b n c A w HN hr hn hc (Lib.hid (.inr (.inr hs)))
      · exact read15_main b n c A w HN hr hn hc h0 h64 hs
def awL : List Gn := [(3, 9), (5, 1)]
theorem aw15_put : putG [(5, 1)] (3, 9) = (awL, 0) := by decide +kernel
theorem aw15_bytes : bytesR awL = (bytesG awL, 0) := bytesR_ok (by decide +kernel)
theorem aw15_len : (bytesG awL).length = 33 := by rw [bytes_length]; rfl
theorem aw15_fit : fitG awL := by unfold fitG awL; decide
theorem aw15_right : rightG awL = true := by decide +kernel
theorem aw15_read : readG (bytesG awL ++ [7]) = (awL, 33, 0) := by rw [readG_bytes [7] aw15_right aw15_fit]; rfl
theorem aw15_b0 : (bytesG awL)[0]'(by rw [aw15_len]; omega) = 2 := by decide +kernel
theorem aw15_b8 : (bytesG awL)[8]'(by rw [aw15_len]; omega) = 3 := by decide +kernel
theorem aw15_h1 : hasG awL (5, 1) = true := by decide +kernel
theorem aw15_h2 : hasG awL (5, 2) = false := by decide +kernel

set_option maxRecDepth 100000 in
set_option maxHeartbeats 2000000 in
theorem awake15_any (w : World) : Calls Try.prog 20 #[] w fun e w' => e = .returned (.bool true) ∧ Below w.heap.size w w' := by
  obtain ⟨i0, hi, hz0, hz1, hz2⟩ := info_parts info_u8
  go_enter Try.func20, Try.ntmps20
  go_wp2_with fail
  have hr0 := rdG_one w 5 1 46
  have hB0 := below_new (Below.refl _ w) (.cells #[.int .u64 5, .int .u64 1] 46)
  refine (put15_any [(5, 1)] (3, 9) 1 1 _ _ (Lib.hid rfl) hr0 (by unfold Hid fitG; decide) (by unfold Hid fitN; decide) (by omega) (by omega)).mono ?_
  rw [aw15_put]
  rintro e w1 ⟨v1, rfl, hown1, hb1⟩
  dsimp only at hown1
  replace hB0 := below_step hB0 hb1
  obtain ⟨A1, c1, rfl, hc1⟩ := own_formG hown1
  have hr1 : RdG w1 A1 awL := RdG.own hown1
  have hc2 : 2 ≤ c1 := hc1
  rw [show awL.length = 2 from rfl]
  clear hown1 hb1 hr0
  go_wp2_with fail
  refine (bytes15_any awL 2 c1 A1 _ (Lib.hid rfl) hr1 (Lib.hid aw15_fit) (by omega)).mono ?_
  rw [aw15_bytes]
  rintro e w2 ⟨v2, rfl, hown2, hb2⟩
  dsimp only at hown2
  replace hB0 := below_step hB0 hb2
  replace hr1 := hr1.keep hb2
  obtain ⟨A2, c3, rfl, hc3⟩ := own_form hown2
  have hr2 : Rd vB w2 A2 (bytesG awL) := Rd.own hown2
  have HL := Lib.hid aw15_len
  rw [aw15_len] at hc3
  rw [aw15_len]
  clear hown2 hb2 hc1
  have hown0 : (w2.alloc (.cells #[] 5)).ownsRow w2.heap.size 5 1 (.slice (some ⟨w2.heap.size, 0, none⟩) 0 0) 0 [] := World.ownsRow_made w2 #[] 0 (Nat.le_refl _) (by unfold maxLen; omega) rfl
  have hbn := below_new (Below.refl _ w2) (.cells #[] 5)
  go_upto_region 3 with fail
  go_wp2_with (first
    | (at_builtin; refine wpList_append_rd _ rfl (.tmp 21) (.tmp 22) 47 rfl w2.heap.size 5 i0 (.int .u8 0) 1 Try.underlying47 hi hz0 hz1 hz2 rfl _ _ _ rfl hown0 A2 (bytesG awL) c3 (by rw [HL.out]; rfl) (hr2.keep hbn) vB_one (by rw [HL.out]; unfold maxLen; omega) (by rw [HL.out]; omega) (by simp) ?_; intro v5 w5 hown5 hgrow5; have hb5 := hbn.grown hgrow5 (by simp) (fun j hj => (hown0.lt j hj).1))
    | (at_builtin; refine wpList_append_rd _ rfl (.tmp 23) (.tmp 24) 47 rfl w2.heap.size 5 i0 (.int .u8 0) 1 Try.underlying47 hi hz0 hz1 hz2 rfl _ _ _ rfl (hown5.alloc _) (some ⟨w5.heap.size, 0, none⟩) [7] 1 rfl (Rd.new w5 [(7 : UInt8)] _ _ rfl) vB_one (by simp only [HL.out, List.length_cons, List.length_nil]; unfold maxLen; omega) (by simp only [HL.out, List.length_cons, List.length_nil]; omega) (by have := hb5.size; simp; omega) ?_; intro v6 w6 hown6 hgrow6; have hb6 := (below_new hb5 _).grown hgrow6 (by have := hb5.size; simp; omega) (fun j hj => (hown5.lt j hj).1)))
  have hlen34 : (bytesG awL ++ [7]).length = 34 := by rw [List.length_append, aw15_len]; rfl
  have hown7 : w6.ownsRow w2.heap.size 5 1 v6 (bytesG awL ++ [7]).length ((bytesG awL ++ [7]).map vB) := by
    rw [List.map_append, List.length_append]
    rw [Nat.zero_add, List.nil_append] at hown6
    exact hown6
  obtain ⟨A6, c6, rfl, hc6, hr6⟩ := own_slice hown7
  rw [hlen34] at hc6
  rw [hlen34]
  have HL34 := Lib.hid hlen34
  replace hr1 := hr1.keep hb6
  replace hr2 := hr2.keep hb6
  replace hB0 := below_step hB0 hb6
  clear hown0 hown5 hown6 hown7 hgrow5 hgrow6 hb5 hb6 hbn hlen34
  refine (read15_any (bytesG awL ++ [7]) 34 c6 A6 _ HL34 hr6 (by omega) hc6).mono ?_
  rw [aw15_read]
  rintro e w7 ⟨v7, rfl, hown8, hb7⟩
  dsimp only at hown8 ⊢
  obtain ⟨A8, c8, rfl, hc8⟩ := own_formG hown8
  have hr8 : RdG w7 A8 awL := RdG.own hown8
  rw [show awL.length = 2 from rfl]
  replace hr1 := hr1.keep hb7
  replace hr2 := hr2.keep hb7
  replace hB0 := below_step hB0 hb7
  clear hown8 hb7 hr6 hc6
  have hrA := hr1
  obtain ⟨ba, oa, rfl, hba, hca⟩ := hr1.at (k := 0) (by decide)
  have ca := (hca 0 (by decide)).1
  obtain ⟨bb, ob, rfl, hbb, hcb⟩ := hr2.at (k := 0) (by rw [HL.out]; omega)
  have cb0 := hcb 0 (by rw [HL.out]; omega)
  have cb8 := hcb 8 (by rw [HL.out]; omega)
  rw [aw15_b0] at cb0
  rw [aw15_b8] at cb8
  have ca' : w7.cell? ⟨ba, oa, none⟩ = some (.int .u64 3) := ca
  have cb0' : w7.cell? ⟨bb, ob, none⟩ = some (.int .u8 2) := cb0
  have cb8' : w7.cell? ⟨bb, ob + 8, none⟩ = some (.int .u8 3) := cb8
  have HRA := Lib.hid hrA
  have HR8 := Lib.hid hr8
  have HB := Lib.hid hB0
  clear ca cb0 cb8 hca hcb hr1 hr2 hrA hr8 hB0
  go_wp2_with fail
  refine (same15_any awL awL 2 2 c1 c8 _ A8 _ (Lib.hid rfl) (Lib.hid rfl) HRA.out HR8.out (by omega)).mono ?_
  rw [decide_eq_true (rfl : awL = awL)]
  rintro e w8 ⟨rfl, hb8⟩
  have HRA2 := Lib.hid (HRA.out.keep hb8)
  have HB2 := Lib.hid (below_step HB.out hb8)
  clear hb8 ca' cb0' cb8'
  go_wp2_with fail
  refine (has15_any awL (5, 1) 2 c1 _ _ (Lib.hid rfl) HRA2.out (by omega)).mono ?_
  rw [aw15_h1]
  rintro e w9 ⟨rfl, hb9⟩
  have HRA3 := Lib.hid (HRA2.out.keep hb9)
  have HB3 := Lib.hid (below_step HB2.out hb9)
  clear hb9
  go_wp2_with fail
  refine (has15_any awL (5, 2) 2 c1 _ _ (Lib.hid rfl) HRA3.out (by omega)).mono ?_
  rw [aw15_h2]
  rintro e w10 ⟨rfl, hb10⟩
  have HRA4 := Lib.hid (HRA3.out.keep hb10)
  have HB4 := Lib.hid (below_step HB3.out hb10)
  clear hb10
  go_wp2_with fail
  refine (right15_any awL 2 c1 _ _ (Lib.hid rfl) HRA4.out (Lib.hid aw15_fit) (by omega)).mono ?_
  rw [aw15_right]
  rintro e w11 ⟨rfl, hb11⟩
  have HB5 := Lib.hid (below_step HB4.out hb11)
  clear hb11
  go_wp2_with fail
  go_ret
  exact ⟨rfl, HB5.out⟩
end Go.Proofs.Ytmljhkdojopljaa
/-
  What comes in, opened by its type's shape (no program is named here): numbers, slices of whatever, arrays, structs. No conditions but those typed.
-/
namespace Go.Proofs.Ytmljhkdojopljaa
set_option maxRecDepth 100000
open Go.RowKit Go.Deep Go.WideShapes Go.ChangeShapes

/-- Cells of type t that can be read as data are a reading R of something. -/
def Opens (P : Program) (t : TypeId) {α : Type} (R : World → List Value → α → Prop) : Prop :=
  ∀ {H : Type} (enc : TypeId × Value → H) (w : World) (base : Nat) (spare : Nat → Bool) (held : Bool) (fuel : Nat) (cs : List Value) (x : DataW H × List MemPlace), DataW.trod enc P w base spare held fuel t cs = some x → ∃ a : α, R w cs a

def RByte : World → List Value → UInt8 → Prop := fun _ cs c => cs = [vB c]
def RWord : World → List Value → UInt32 → Prop := fun _ cs c => cs = [vW c]
def RNum : World → List Value → Nat → Prop := fun _ cs v => cs = [.int .u64 (v : Int)] ∧ v < 18446744073709551616
def RInt : World → List Value → Int → Prop := fun _ cs n => cs = [.int .i64 n] ∧ -9223372036854775808 ≤ n ∧ n ≤ 9223372036854775807
def RBool : World → List Value → Bool → Prop := fun _ cs b => cs = [.bool b]

section
variable {P : Program} {t e : TypeId}
theorem opens_byte (ht : P.underlying t = some (.int .u8)) : Opens P t RByte := fun enc w base spare held fuel cs x h => by
  obtain ⟨n, rfl, _, hw⟩ := DataW.trod_int ht h
  simp [Lit.wf, IntKind.min, IntKind.max, IntKind.signed, IntKind.bits] at hw
  refine ⟨UInt8.ofNat n.toNat, ?_⟩
  unfold RByte vB
  rw [UInt8.toNat_ofNat']
  congr 2
  omega
theorem opens_word (ht : P.underlying t = some (.int .u32)) : Opens P t RWord := fun enc w base spare held fuel cs x h => by
  obtain ⟨n, rfl, _, hw⟩ := DataW.trod_int ht h
  simp [Lit.wf, IntKind.min, IntKind.max, IntKind.signed, IntKind.bits] at hw
  refine ⟨UInt32.ofNat n.toNat, ?_⟩
  unfold RWord vW
  rw [UInt32.toNat_ofNat']
  congr 2
  omega
theorem opens_num (ht : P.underlying t = some (.int .u64)) : Opens P t RNum := fun enc w base spare held fuel cs x h => by
  obtain ⟨n, rfl, _, hw⟩ := DataW.trod_int ht h
  obtain ⟨v, hv, rfl⟩ := u64_of_wf hw
  exact ⟨v, rfl, hv⟩
theorem opens_int (ht : P.underlying t = some (.int .i64)) : Opens P t RInt := fun enc w base spare held fuel cs x h => by
  obtain ⟨n, rfl, _, hw⟩ := DataW.trod_int ht h
  exact ⟨n, rfl, i64_of_wf hw⟩

/-- A slice: its elements, of m cells each, lie one behind the other. -/
def RSlice (m : Nat) {α : Type} (R : World → List Value → α → Prop) : World → List Value → List α → Prop := fun w cs l =>
  ∃ (A : Option Addr) (cap : Nat), cs = [.slice A l.length cap] ∧ l.length ≤ cap ∧ cap ≤ 9223372036854775807 ∧
    (l ≠ [] → ∃ b o, A = some ⟨b, o, none⟩ ∧ ∀ i (h : i < l.length), ∃ ecs : List Value, ecs.length = m ∧ (∀ j (hj : j < ecs.length), w.cell? ⟨b, o + i * m + j, none⟩ = some ecs[j]) ∧ R w ecs l[i])

theorem cells_at {w : World} {base : Nat} {a : Addr} {n : Nat} {cs : List Value} (h : w.cells? base a n = some cs) : cs.length = n ∧ ∀ j (hj : j < cs.length), w.cell? (a.add j) = some cs[j] := by
  obtain ⟨_, hl, hc⟩ := World.cells?_some h
  refine ⟨hl, fun j hj => ?_⟩
  have := hc j (by omega)
  rw [this]
  exact List.getElem?_eq_getElem hj

theorem choose_list {α : Type} (n : Nat) (p : Nat → α → Prop) (h : ∀ i, i < n → ∃ a, p i a) : ∃ l : List α, l.length = n ∧ ∀ i (hi : i < l.length), p i l[i] := by
  induction n with
  | zero => exact ⟨[], rfl, fun i hi => by simp at hi⟩
  | succ n ih =>
    obtain ⟨l, hl, hp⟩ := ih (fun i hi => h i (by omega))
    obtain ⟨a, ha⟩ := h n (by omega)
    refine ⟨l ++ [a], by simp [hl], fun i hi => ?_⟩
    by_cases hin : i < l.length
    · rw [List.getElem_append_left hin]; exact hp i hin
    · have : i = n := by simp at hi; omega
      subst this
      rw [List.getElem_append_right (by omega)]
      simpa [hl] using ha

theorem opens_slice {α : Type} {R : World → List Value → α → Prop} {m : Nat} (ht : P.underlying t = some (.slice e)) (hc : P.cellsOf e = m) (hm : 0 < m) (he : Opens P e R) : Opens P t (RSlice m R) := fun enc w base spare held fuel cs x h => by
  rcases open_slice ht h with ⟨rfl, _⟩ | ⟨a, len, cap, mm, n, D, Pl, rfl, hb, hl, hcap, hmm, rfl, hx⟩
  · exact ⟨[], none, 0, rfl, Nat.le_refl _, by omega, fun h => absurd rfl h⟩
  · have hlm : len ≤ mm := by rw [hmm]; split <;> omega
    unfold maxLen at hcap
    obtain ⟨l, hll, hp⟩ := choose_list len (fun i (y : α) => ∃ ecs : List Value, ecs.length = m ∧ (∀ j (hj : j < ecs.length), w.cell? ((a.add (i * m)).add j) = some ecs[j]) ∧ R w ecs y) (fun i hi => by
      obtain ⟨ecs, h1, h2⟩ := hx i (by omega)
      rw [hc] at h1
      obtain ⟨h3, h4⟩ := cells_at h1
      obtain ⟨y, hy⟩ := he enc w base spare held n ecs _ h2
      exact ⟨y, ecs, h3, h4, hy⟩)
    refine ⟨l, some a, cap, by rw [hll], by omega, by omega, fun hn => ?_⟩
    have h0 : 0 < l.length := by
      rcases Nat.eq_zero_or_pos l.length with h | h
      · exact absurd (List.eq_nil_of_length_eq_zero h) hn
      · exact h
    obtain ⟨b, o, spot⟩ := a
    obtain ⟨ecs, h3, h4, _⟩ := hp 0 h0
    have hc0 := h4 0 (by omega)
    have hspot : spot = none := by simpa [Addr.add] using World.cell?_spot hc0
    subst hspot
    have hadd : ∀ i j, ((⟨b, o, none⟩ : Addr).add i).add j = ⟨b, o + i + j, none⟩ := fun i j => by unfold Addr.add; split <;> split <;> simp_all
    refine ⟨b, o, rfl, fun i hi => ?_⟩
    obtain ⟨ecs, h3, h4, h5⟩ := hp i hi
    exact ⟨ecs, h3, fun j hj => by rw [← hadd]; exact h4 j hj, h5⟩

/-- An array: its elements' cells one behind the other (elements of one cell). -/
def RArr (n : Nat) {α : Type} (R : World → List Value → α → Prop) : World → List Value → List α → Prop := fun w cs l => l.length = n ∧ cs.length = n ∧ ∀ i (h : i < l.length), R w ((cs.drop i).take 1) l[i]
theorem opens_arr {α : Type} {R : World → List Value → α → Prop} {n : Nat} (ht : P.underlying t = some (.array n e)) (hc : P.cellsOf e = 1) (hn : P.cellsOf t = n) (he : Opens P e R) : Opens P t (RArr n R) := fun enc w base spare held fuel cs x h => by
  obtain ⟨xs, m, _, _, hl, hxl, hx⟩ := DataW.trod_array ht h
  obtain ⟨l, hll, hp⟩ := choose_list n (fun i (y : α) => R w ((cs.drop i).take 1) y) (fun i hi => by
    have := hx i hi
    rw [hc, Nat.mul_one, List.getElem?_eq_getElem (by omega)] at this
    exact he enc w base spare held m _ _ this)
  exact ⟨l, hll, by omega, hp⟩

/-- Structs of two to four fields: each field's cells. -/
def RTwo (a0 n0 a1 n1 : Nat) {α β : Type} (R : World → List Value → α → Prop) (S : World → List Value → β → Prop) : World → List Value → α × β → Prop := fun w cs x => cs.length = n0 + n1 ∧ R w ((cs.drop a0).take n0) x.1 ∧ S w ((cs.drop a1).take n1) x.2
def RThree (a0 n0 a1 n1 a2 n2 : Nat) {α β γ : Type} (R : World → List Value → α → Prop) (S : World → List Value → β → Prop) (T : World → List Value → γ → Prop) : World → List Value → α × β × γ → Prop := fun w cs x => cs.length = n0 + n1 + n2 ∧ R w ((cs.drop a0).take n0) x.1 ∧ S w ((cs.drop a1).take n1) x.2.1 ∧ T w ((cs.drop a2).take n2) x.2.2
theorem opens_two {α β : Type} {R : World → List Value → α → Prop} {S : World → List Value → β → Prop} {f0 f1 : Field} {a0 n0 a1 n1 : Nat} (ht : P.underlying t = some (.struct #[f0, f1])) (e0 : f0.offset = a0) (e1 : f1.offset = a1) (c0 : P.cellsOf f0.type = n0) (c1 : P.cellsOf f1.type = n1) (hn : P.cellsOf t = n0 + n1)
    (h0 : Opens P f0.type R) (h1 : Opens P f1.type S) : Opens P t (RTwo a0 n0 a1 n1 R S) := fun enc w base spare held fuel cs x h => by
  obtain ⟨xs, n, _, _, hl, hxl, hx⟩ := DataW.trod_struct ht h
  have k0 := hx 0 f0 rfl
  have k1 := hx 1 f1 rfl
  simp only [List.size_toArray, List.length_cons, List.length_nil, Nat.zero_add, Nat.reduceAdd] at hxl
  rw [List.getElem?_eq_getElem (by omega), e0, c0] at k0
  rw [List.getElem?_eq_getElem (by omega), e1, c1] at k1
  obtain ⟨x0, r0⟩ := h0 enc w base spare held n _ _ k0
  obtain ⟨x1, r1⟩ := h1 enc w base spare held n _ _ k1
  exact ⟨(x0, x1), by omega, r0, r1⟩
theorem opens_three {α β γ : Type} {R : World → List Value → α → Prop} {S : World → List Value → β → Prop} {T : World → List Value → γ → Prop} {f0 f1 f2 : Field} {a0 n0 a1 n1 a2 n2 : Nat} (ht : P.underlying t = some (.struct #[f0, f1, f2])) (e0 : f0.offset = a0) (e1 : f1.offset = a1) (e2 : f2.offset = a2)
    (c0 : P.cellsOf f0.type = n0) (c1 : P.cellsOf f1.type = n1) (c2 : P.cellsOf f2.type = n2) (hn : P.cellsOf t = n0 + n1 + n2) (h0 : Opens P f0.type R) (h1 : Opens P f1.type S) (h2 : Opens P f2.type T) : Opens P t (RThree a0 n0 a1 n1 a2 n2 R S T) := fun enc w base spare held fuel cs x h => by
  obtain ⟨xs, n, _, _, hl, hxl, hx⟩ := DataW.trod_struct ht h
  have k0 := hx 0 f0 rfl
  have k1 := hx 1 f1 rfl
  have k2 := hx 2 f2 rfl
  simp only [List.size_toArray, List.length_cons, List.length_nil, Nat.zero_add, Nat.reduceAdd] at hxl
  rw [List.getElem?_eq_getElem (by omega), e0, c0] at k0
  rw [List.getElem?_eq_getElem (by omega), e1, c1] at k1
  rw [List.getElem?_eq_getElem (by omega), e2, c2] at k2
  obtain ⟨x0, r0⟩ := h0 enc w base spare held n _ _ k0
  obtain ⟨x1, r1⟩ := h1 enc w base spare held n _ _ k1
  obtain ⟨x2, r2⟩ := h2 enc w base spare held n _ _ k2
  exact ⟨(x0, x1, x2), by omega, r0, r1, r2⟩
end

/-! ### Back to the words that the walks go by -/
theorem rd_of_rslice {α : Type} {f : α → Value} {R : World → List Value → α → Prop} {w : World} {cs : List Value} {l : List α} (hR : ∀ ecs x, R w ecs x → ecs = [f x]) (h : RSlice 1 R w cs l) : ∃ A cap, cs = [.slice A l.length cap] ∧ l.length ≤ cap ∧ cap ≤ 9223372036854775807 ∧ Rd f w A l := by
  obtain ⟨A, cap, e, h1, h2, h3⟩ := h
  refine ⟨A, cap, e, h1, h2, fun hn => ?_⟩
  obtain ⟨b, o, rfl, hc⟩ := h3 hn
  refine ⟨b, o, rfl, fun i hi => ?_⟩
  obtain ⟨ecs, _, h5, h6⟩ := hc i hi
  have := hR _ _ h6
  subst this
  have := h5 0 (by simp)
  simpa using this
theorem bytes_of_r {w : World} {cs : List Value} {l : List UInt8} (h : RSlice 1 RByte w cs l) : ∃ A cap, cs = [.slice A l.length cap] ∧ l.length ≤ cap ∧ cap ≤ 9223372036854775807 ∧ Rd vB w A l := rd_of_rslice (fun _ _ h => h) h
theorem words_of_r {w : World} {cs : List Value} {l : List UInt32} (h : RSlice 1 RWord w cs l) : ∃ A cap, cs = [.slice A l.length cap] ∧ l.length ≤ cap ∧ cap ≤ 9223372036854775807 ∧ Rd vW w A l := rd_of_rslice (fun _ _ h => h) h
theorem arr_words {n : Nat} {w : World} {cs : List Value} {l : List UInt32} (h : RArr n RWord w cs l) : cs = l.map vW ∧ l.length = n := by
  obtain ⟨h1, h2, h3⟩ := h
  refine ⟨?_, h1⟩
  apply List.ext_getElem
  · simp; omega
  · intro i hi hi'
    have := h3 i (by omega)
    unfold RWord at this
    have h4 := congrArg (fun l => l[0]?) this
    simp only [List.getElem?_take, List.getElem?_drop, Nat.add_zero, List.getElem?_eq_getElem hi, Nat.zero_lt_one, if_true, List.getElem?_cons_zero, Option.some.injEq] at h4
    rw [h4]
    simp

/-! ### A value and its cells -/
theorem okWide_arr {P : Program} {w : World} {r : Reach} {base n : Nat} {t e : TypeId} {v : Value} (ht : P.underlying t = some (.array n e)) (h : Value.okWide P w r base t v) : ∃ cs, v = .agg cs ∧ cs.size = P.cellsOf t := by
  simp only [Value.okWide, ht] at h
  obtain ⟨cs, h1, h2, _⟩ := h
  exact ⟨cs, h1, h2⟩

end Go.Proofs.Ytmljhkdojopljaa
/-
  A parameter that is a slice of bytes, opened. No conditions.
-/
namespace Go.Proofs.Ytmljhkdojopljaa
set_option maxRecDepth 100000
open Go.RowKit Go.WideShapes
set_option linter.unusedSimpArgs false
set_option linter.unusedVariables false

theorem opens_bytes : Opens Try.prog 47 (RSlice 1 RByte) := opens_slice Try.underlying47 (by kernel_rfl) (by omega) (opens_byte Try.underlying5)
section
variable {H : Type} {enc : TypeId × Value → H} {W : World} {base b1 : Nat} {spare : Nat → Bool} {held : Bool} {r : Reach} {v : Value} {d : DataW H} {p : List MemPlace}
theorem open_bytes (hv : Value.okWide Try.prog W r base 47 v) (ht : DataW.Trod enc Try.prog W b1 spare held 47 v d p) : ∃ (l : List UInt8) (A : Option Addr) (cap : Nat), v = .slice A l.length cap ∧ l.length ≤ cap ∧ cap ≤ 9223372036854775807 ∧ Rd vB W A l := by
  obtain ⟨a, len, cap, rfl⟩ := okWide_slice Try.underlying47 hv
  obtain ⟨fuel, hf⟩ := ht
  obtain ⟨l, hl⟩ := opens_bytes enc W _ _ _ _ _ _ hf
  obtain ⟨A, c, e, h1, h2, h3⟩ := bytes_of_r hl
  simp [Value.cells] at e
  obtain ⟨rfl, rfl, rfl⟩ := e
  exact ⟨l, _, _, rfl, h1, h2, h3⟩
end
end Go.Proofs.Ytmljhkdojopljaa
/-
  Parameters that are what was revoked, or lists of it, opened; what the calls of layer 15 hand back, as slices. No conditions.
-/
namespace Go.Proofs.Ytmljhkdojopljaa
set_option maxRecDepth 100000
open Go.RowKit Go.Deep Go.WideShapes Go.ChangeShapes
set_option linter.unusedSimpArgs false
set_option linter.unusedVariables false

theorem opens_gone : Opens Try.prog 46 (RTwo 0 1 1 1 RNum RNum) := opens_two Try.underlying46 rfl rfl (by kernel_rfl) (by kernel_rfl) (by kernel_rfl) (opens_num Try.underlying22) (opens_num Try.underlying22)
theorem opens_gones : Opens Try.prog 44 (RSlice 2 (RTwo 0 1 1 1 RNum RNum)) := opens_slice Try.underlying44 (by kernel_rfl) (by omega) opens_gone
theorem gone_of_r {w : World} {cs : List Value} {x : Gn} (h : RTwo 0 1 1 1 RNum RNum w cs x) : cs = cellG x ∧ fitN x := by
  obtain ⟨hl, ⟨h0, g0⟩, h1, g1⟩ := h
  refine ⟨?_, g0, g1⟩
  match cs, hl with
  | [a, b], _ =>
    simp at h0 h1
    rw [h0, h1]
    rfl
theorem gones_of_r {w : World} {cs : List Value} {l : List Gn} (h : RSlice 2 (RTwo 0 1 1 1 RNum RNum) w cs l) : ∃ (A : Option Addr) (cap : Nat), cs = [.slice A l.length cap] ∧ l.length ≤ cap ∧ cap ≤ 9223372036854775807 ∧ RdG w A l ∧ fitG l := by
  obtain ⟨A, cap, e, h1, h2, h3⟩ := h
  refine ⟨A, cap, e, h1, h2, fun hn => ?_, fun x hx => ?_⟩
  · obtain ⟨b, o, rfl, hc⟩ := h3 hn
    refine ⟨b, o, rfl, fun i hi => ?_⟩
    obtain ⟨ecs, h4, h5, h6⟩ := hc i hi
    obtain ⟨rfl, _⟩ := gone_of_r h6
    exact ⟨h5 0 (by simp [cellG]), h5 1 (by simp [cellG])⟩
  · obtain ⟨i, hi, rfl⟩ := List.getElem_of_mem hx
    obtain ⟨b, o, rfl, hc⟩ := h3 (by rintro rfl; simp at hi)
    obtain ⟨ecs, h4, h5, h6⟩ := hc i hi
    exact (gone_of_r h6).2
section
variable {H : Type} {enc : TypeId × Value → H} {W : World} {base b1 : Nat} {spare : Nat → Bool} {held : Bool} {r : Reach} {v : Value} {d : DataW H} {p : List MemPlace}
theorem open_gones (hv : Value.okWide Try.prog W r base 44 v) (ht : DataW.Trod enc Try.prog W b1 spare held 44 v d p) : ∃ (l : List Gn) (A : Option Addr) (cap : Nat), v = .slice A l.length cap ∧ l.length ≤ cap ∧ cap ≤ 9223372036854775807 ∧ RdG W A l ∧ fitG l := by
  obtain ⟨a, len, cap, rfl⟩ := okWide_slice Try.underlying44 hv
  obtain ⟨fuel, hf⟩ := ht
  obtain ⟨l, hl⟩ := opens_gones enc W _ _ _ _ _ _ hf
  obtain ⟨A, c, e, h1, h2, h3, h4⟩ := gones_of_r hl
  simp [Value.cells] at e
  obtain ⟨rfl, rfl, rfl⟩ := e
  exact ⟨l, _, _, rfl, h1, h2, h3, h4⟩
theorem open_gone (hv : Value.okWide Try.prog W r base 46 v) (ht : DataW.Trod enc Try.prog W b1 spare held 46 v d p) : ∃ g : Gn, v = aggG g ∧ fitN g := by
  obtain ⟨cs, rfl, _⟩ := okWide_struct Try.underlying46 hv
  obtain ⟨fuel, hf⟩ := ht
  obtain ⟨g, hg⟩ := opens_gone enc W _ _ _ _ _ _ hf
  obtain ⟨e, hfit⟩ := gone_of_r hg
  refine ⟨g, ?_, hfit⟩
  unfold aggG
  congr 1
  apply Array.toList_inj.1
  simp only [Value.cells] at e
  rw [e]
  rfl
end

/-! ### What the calls hand back, as slices -/
def RetPs (w : World) (l : List Gn) (k : Int) (e : Ending) (w' : World) : Prop := ∃ A m c, e = .returned (.tuple #[.slice A m c, .int .i64 k]) ∧ Hid (l.length = m) ∧ m ≤ c ∧ RdG w' A l ∧ Below w.heap.size w w'
theorem RetPut.ps {w : World} {l : List Gn} {k : Int} {e : Ending} {w' : World} (h : RetPut w l k e w') : RetPs w l k e w' := by
  obtain ⟨v, rfl, ho, hb⟩ := h
  obtain ⟨A, c, rfl, hc, hr, _⟩ := own_sliceG ho
  exact ⟨A, _, c, rfl, rfl, hc, hr, hb⟩
def RetBs (w : World) (L : List UInt8) (k : Int) (e : Ending) (w' : World) : Prop := ∃ A m c, e = .returned (.tuple #[.slice A m c, .int .i64 k]) ∧ Hid (L.length = m) ∧ m ≤ c ∧ Rd vB w' A L ∧ Below w.heap.size w w'
theorem RetBy.bs {w : World} {L : List UInt8} {k : Int} {e : Ending} {w' : World} (h : RetBy w L k e w') : RetBs w L k e w' := by
  obtain ⟨v, rfl, ho, hb⟩ := h
  obtain ⟨A, c, rfl, hc, hr⟩ := own_slice ho
  exact ⟨A, _, c, rfl, rfl, hc, hr, hb⟩
def RetRs (w : World) (l : List Gn) (n : Nat) (k : Int) (e : Ending) (w' : World) : Prop := ∃ A m c, e = .returned (.tuple #[.slice A m c, .int .i64 (n : Int), .int .i64 k]) ∧ Hid (l.length = m) ∧ m ≤ c ∧ RdG w' A l ∧ Below w.heap.size w w'
theorem RetRd.rs {w : World} {l : List Gn} {n : Nat} {k : Int} {e : Ending} {w' : World} (h : RetRd w l n k e w') : RetRs w l n k e w' := by
  obtain ⟨v, rfl, ho, hb⟩ := h
  obtain ⟨A, c, rfl, hc, hr, _⟩ := own_sliceG ho
  exact ⟨A, _, c, rfl, rfl, hc, hr, hb⟩
theorem RetRr.rs {w : World} {l : List Gn} {n : Nat} {k : Int} {e : Ending} {w' : World} (h : RetRr w l n k e w') : RetRs w l n k e w' := by
  obtain ⟨v, rfl, ho, hb⟩ := h
  obtain ⟨A, c, rfl, hc, hr, _⟩ := own_sliceG ho
  exact ⟨A, _, c, rfl, rfl, hc, hr, hb⟩
theorem putG_len {l : List Gn} {g : Gn} : (putG l g).1.length ≤ 64 := by
  rcases put_cases l g with ⟨_, e⟩ | ⟨hr, _, e⟩ | ⟨_, _, _, e⟩ | ⟨_, _, h, e⟩ <;> rw [e]
  · simp
  · exact (right_parts.1 hr).2
  · simp
  · show (insG l g).length ≤ 64
    rw [ins_length]
    omega
theorem putG_fit {l : List Gn} {g : Gn} (hl : fitG l) (hg : fitN g) : fitG (putG l g).1 := by
  rcases put_cases l g with ⟨_, e⟩ | ⟨hr, _, e⟩ | ⟨_, _, _, e⟩ | ⟨_, _, h, e⟩ <;> rw [e]
  · exact fun x hx => by cases hx
  · exact hl
  · exact fun x hx => by cases hx
  · intro x hx
    rcases (ins_mem l g x).1 hx with h | rfl
    · exact hl x h
    · exact hg
theorem readG_len {b : List UInt8} : (readG b).1.length ≤ 64 ∧ (readG b).2.1 ≤ 1025 := by
  unfold readG
  split
  · simp
  · split
    · simp
    · split
      · simp
      · split
        · rw [takeG_len]
          constructor
          · omega
          · show 1 + 16 * cntG b ≤ 1025
            omega
        · simp
theorem readG_fit {b : List UInt8} : fitG (readG b).1 := by
  unfold readG
  split
  · exact fun x hx => by cases hx
  · split
    · exact fun x hx => by cases hx
    · split
      · exact fun x hx => by cases hx
      · split
        · exact (flat_take _ _ (by rw [List.length_drop]; omega)).2.2
        · exact fun x hx => by cases hx
end Go.Proofs.Ytmljhkdojopljaa
