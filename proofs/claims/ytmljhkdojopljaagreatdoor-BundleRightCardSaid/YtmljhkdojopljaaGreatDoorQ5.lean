/-
  What the program's calls copied and tagOf of layer 5 answer. No conditions but those typed.
-/
import Derived.Test.YtmljhkdojopljaaGreatDoorQ4
import Derived.Maps.AppendAt
namespace Go.Proofs.YtmljhkdojopljaaGreatDoor
set_option maxRecDepth 100000
open Go.RowKit
set_option linter.unusedSimpArgs false
set_option linter.unusedVariables false

/-- Keys and texts that are not too long. -/
def lenT (cs : List Tm) : Prop := ∀ x ∈ cs, x.1.length ≤ 1000000000 ∧ x.2.length ≤ 1000000000
theorem lenT.nil : lenT [] := fun x hx => by cases hx
theorem lenT.put {cs : List Tm} {key msg : List UInt8} (h : lenT cs) (hk : key.length ≤ 1000000000) (hm : msg.length ≤ 1000000000) : lenT (putT cs (key, msg)) := by
  unfold putT
  split
  · exact h
  · intro x hx
    rcases List.mem_append.1 hx with hx | hx
    · exact h x hx
    · simp at hx
      subst hx
      exact ⟨hk, hm⟩
theorem lenT.short {cs : List Tm} (h : shortT cs = true) : lenT cs := by
  unfold shortT at h
  rw [decide_eq_true_eq] at h
  intro x hx
  have := h.2 x hx
  omega
theorem lenT.at {ts : List TD} (h : lenT (conT ts)) {x : TD} (hx : x ∈ ts) : x.k.length ≤ 1000000000 ∧ x.m.length ≤ 1000000000 := h x.c (List.mem_map_of_mem hx)

/-- A term whose key and text lie in new memory. -/
def TD.new (B : Nat) (x : TD) : Prop := (∀ a, x.kA = some a → B ≤ a.block) ∧ (∀ a, x.mA = some a → B ≤ a.block)
/-- What copied hands back. -/
def CopRes (x : TD) (w : World) (e : Ending) (w' : World) : Prop :=
  ∃ y : TD, e = .returned (.agg #[y.at0, y.at1]) ∧ y.ok w' ∧ y.c = x.c ∧ y.new w.heap.size ∧ Below w.heap.size w w'

set_option maxHeartbeats 1000000 in
theorem copied_any (x : TD) (w : World) (hkr : Rd vB w x.kA x.k) (hmr : Rd vB w x.mA x.m) (hk : x.k.length ≤ 1000000000) (hm : x.m.length ≤ 1000000000) :
    Calls Tryz.prog 125 #[.agg #[x.at0, x.at1]] w (CopRes x w) := by
  obtain ⟨kA, kc, k, mA, mc, m⟩ := x
  unfold TD.at0 TD.at1 at *
  dsimp only at hkr hmr hk hm ⊢
  have hR0 : Row (w.alloc (.cells #[.slice kA k.length kc, .slice mA m.length mc] 113)) w.heap.size 113 [.slice kA k.length kc, .slice mA m.length mc] := Row.new w _ _ _ rfl
  have hB0 := below_new (Below.refl _ w) (.cells #[.slice kA k.length kc, .slice mA m.length mc] 113)
  have hR1 := hR0.alloc (.cells #[.slice none 0 0, .slice none 0 0] 113)
  have hB1 := below_new hB0 (.cells #[.slice none 0 0, .slice none 0 0] 113)
  have hR2 : Row ((w.alloc (.cells #[.slice kA k.length kc, .slice mA m.length mc] 113)).alloc (.cells #[.slice none 0 0, .slice none 0 0] 113)) (w.heap.size + 1) 113 [.slice none 0 0, .slice none 0 0] := Row.new_at _ _ (by simp) _ _ _ rfl
  go_enter Tryz.func125, Tryz.ntmps125
  go_upto_region 1 with fail
  generalize (w.alloc (.cells #[.slice kA k.length kc, .slice mA m.length mc] 113)).alloc (.cells #[.slice none 0 0, .slice none 0 0] 113) = W2 at hR1 hB1 hR2 ⊢
  have hc0 : ∀ W, Below (w.heap.size + 1) W2 W → W.cell? ⟨w.heap.size, 0, none⟩ = some (.slice kA k.length kc) := fun W hW => (hR1.keep hW (by omega)).cell rfl
  have hc1 : ∀ W, Below (w.heap.size + 1) W2 W → W.cell? ⟨w.heap.size, 1, none⟩ = some (.slice mA m.length mc) := fun W hW => (hR1.keep hW (by omega)).cell rfl
  have hlt := hR2.lt
  have hBase : Below (w.heap.size + 1) W2 W2.drew := (Below.refl _ _).drew
  have hk2 : Rd vB W2.drew kA k := hkr.keep hB1.drew
  clear hR0 hB0
  refine wp_region_plan_at (w.heap.size + 1) (.step 0 false (.step 1 false (.step 3 false (.step 4 false (.step 2 true (.step 5 true (.step 6 false (.step 7 true .nil)))))))) (by kernel_rfl) (by kernel_rfl) (by rfl) (by kernel_rfl) ?_
  iterate 4 (refine plan_read rfl (by rfl) (v := ?_) ?_ ?_; rotate_left 1; (intro W hW; have hW0 := Below.trans hBase hW; (try dsimp only at hW); go_simp <;> with_reducible rfl); simp only [List.getElem_toArray, List.getElem_cons_zero, List.getElem_cons_succ, Act.put, List.setIfInBounds_toArray, List.set_cons_zero, List.set_cons_succ])
  (refine plan_make_at rfl (by rfl) (fun K hK => ?_); go_simp; refine (clone_b k kA kc _ hk2 (by omega)).mono ?_; rintro e w3 ⟨A3, c3, rfl, hc3, hr3, hN3, hb3⟩; have hz3 : W2.heap.size ≤ w3.heap.size := hb3.size; refine hK.out _ _ (hb3.mono (Nat.le_of_lt hlt)) ?_; clear hK K; replace hBase := hBase.trans (hb3.mono (Nat.le_of_lt hlt)))
  have hB3 := below_step hB1.drew hb3
  have hR3 := hR2.drew.later hb3
  have hm3 : Rd vB w3 mA m := hmr.keep hB3
  (refine plan_make_at rfl (by rfl) (fun K hK => ?_); go_simp; refine (clone_b m mA mc _ hm3 (by omega)).mono ?_; rintro e w4 ⟨A4, c4, rfl, hc4, hr4, hN4, hb4⟩; have hz4 : w3.heap.size ≤ w4.heap.size := hb4.size; refine hK.out _ _ (hb4.mono (by omega)) ?_; clear hK K; replace hBase := hBase.trans (hb4.mono (by omega)))
  have hB4 := below_step hB3 hb4
  have hR4 := hR3.later hb4
  have hr3' := hr3.keep hb4
  iterate 1 (refine plan_read rfl (by rfl) (v := ?_) ?_ ?_; rotate_left 1; (intro W hW; have hW0 := hBase.trans hW; (try dsimp only at hW); go_simp <;> with_reducible rfl); simp only [List.getElem_toArray, List.getElem_cons_zero, List.getElem_cons_succ, Act.put, List.setIfInBounds_toArray, List.set_cons_zero, List.set_cons_succ])
  (refine plan_make_at rfl (by rfl) (fun K hK => ?_); refine Row.wp_store 113 (.tmp 2) (.tmp 9) rfl rfl [.slice A3 k.length c3, .slice A4 m.length c4] rfl hR4 (by exact size_term) rfl (one_two _ _ rfl rfl) ?_; refine hK.out _ _ (below_setRow (Below.refl _ _) (Nat.le_refl _) _) ?_; clear hK K)
  refine plan_done ?_
  have hd : W2.drew.heap.size = W2.heap.size := rfl
  have hr3'' := hr3'.setRow (g := w.heap.size + 1) [.slice A3 k.length c3, .slice A4 m.length c4].toArray (fun a ha e => by have := hN3 a ha; omega)
  have hr4'' := hr4.setRow (g := w.heap.size + 1) [.slice A3 k.length c3, .slice A4 m.length c4].toArray (fun a ha e => by have := hN4 a ha; omega)
  have hR5 := hR4.setRow [.slice A3 k.length c3, .slice A4 m.length c4]
  have hB5 := below_setRow hB4 (Nat.le_succ w.heap.size) [.slice A3 k.length c3, .slice A4 m.length c4].toArray
  generalize w4.setRow (w.heap.size + 1) [.slice A3 k.length c3, .slice A4 m.length c4].toArray = w5 at hr3'' hr4'' hR5 hB5 ⊢
  go_wp2_with fail
  refine bodyPost_ret (results_cell_row (p := 2) (ty := 113) (by rfl) _ _ (w.heap.size + 1) 113 _ (0, 0) _ (by rfl) (by exact hR5) Tryz.underlying113 (by rfl) (by exact size_term)) (by rfl) ?_
  exact ⟨⟨A3, c3, k, A4, c4, m⟩, rfl, ⟨hc3, hc4, hr3'', hr4''⟩, rfl, ⟨fun a ha => by have := hN3 a ha; omega, fun a ha => by have := hN4 a ha; omega⟩, hB5⟩

theorem tagof_any (q : Nat) (T : List UInt8) (w : World) (hq : q ≤ 1000000000) (HT : Hid (putL (q + 1) = T)) :
    Calls Tryz.prog 127 #[.int .i64 (q : Int)] w fun e w' => ∃ A c, e = .returned (.slice A 8 c) ∧ 8 ≤ c ∧ Rd vB w' A T ∧ Below w.heap.size w w' := by
  have h1 : IntKind.u64.wrap (q : Int) = (q : Int) := by rw [IntKind.wrap_u64]; omega
  have h2 : IntKind.u64.wrap ((q : Int) + 1) = ((q + 1 : Nat) : Int) := by rw [IntKind.wrap_u64]; omega
  go_enter Tryz.func127, Tryz.ntmps127
  go_wp2_with fail
  refine (put_any (q + 1) (by omega) _).mono ?_
  rintro e' w2 ⟨A, c, rfl, hc, hr, hb⟩
  rw [HT.out] at hr
  go_wp2_with fail
  go_ret
  exact ⟨A, c, rfl, hc, hr, hb⟩
end Go.Proofs.YtmljhkdojopljaaGreatDoor
/-
  What the program's own calls of layer 16 answer (landed code) that its Read goes on by: within, counts, count, readEntry, readGone. No conditions but those typed.
-/
namespace Go.Proofs.YtmljhkdojopljaaGreatDoor
set_option maxRecDepth 100000
open Go.RowKit
set_option linter.unusedSimpArgs false
set_option linter.unusedVariables false

/-! ### closures that say how many there may be -/
/-- A closure of within: its two numbers lie below B. -/
def IsW (B lo hi : Nat) (v : Value) (w : World) : Prop := ∃ g1 g2, v = .func (.func 64) #[] #[.pointer (some ⟨g1, 0, none⟩), .pointer (some ⟨g2, 0, none⟩)] ∧ w.cell? ⟨g1, 0, none⟩ = some (.int .i64 (lo : Int)) ∧ w.cell? ⟨g2, 0, none⟩ = some (.int .i64 (hi : Int)) ∧ g1 < B ∧ g2 < B
theorem IsW.below {B n lo hi : Nat} {v : Value} {w w' : World} (h : IsW B lo hi v w) (hb : Below n w w') (hB : B ≤ n) : IsW B lo hi v w' := by
  obtain ⟨g1, g2, rfl, c1, c2, h1, h2⟩ := h
  exact ⟨g1, g2, rfl, (hb.cell (p := ⟨g1, 0, none⟩) (show g1 < n by omega)).trans c1, (hb.cell (p := ⟨g2, 0, none⟩) (show g2 < n by omega)).trans c2, h1, h2⟩
theorem inW_any (lo hi : Nat) (n : Int) (g1 g2 : Nat) (w : World) (c1 : w.cell? ⟨g1, 0, none⟩ = some (.int .i64 (lo : Int))) (c2 : w.cell? ⟨g2, 0, none⟩ = some (.int .i64 (hi : Int))) :
    Calls Tryz.prog 64 #[.int .i64 n, .pointer (some ⟨g1, 0, none⟩), .pointer (some ⟨g2, 0, none⟩)] w fun e w' => e = .returned (.bool (decide ((lo : Int) ≤ n ∧ n ≤ (hi : Int)))) ∧ w = w' := by
  by_cases h1 : (lo : Int) ≤ n
  · by_cases h2 : n ≤ (hi : Int)
    · have hd : Hid (decide ((lo : Int) ≤ n ∧ n ≤ (hi : Int)) = true) := decide_eq_true ⟨h1, h2⟩
      rw [hd.out]
      go_enter Tryz.func64, Tryz.ntmps64
      go_wp2_with fail
      go_ret
      exact ⟨rfl, rfl⟩
    · have hd : Hid (decide ((lo : Int) ≤ n ∧ n ≤ (hi : Int)) = false) := decide_eq_false (fun h => h2 h.2)
      rw [hd.out]
      go_enter Tryz.func64, Tryz.ntmps64
      go_wp2_with fail
      go_ret
      exact ⟨rfl, rfl⟩
  · have hd : Hid (decide ((lo : Int) ≤ n ∧ n ≤ (hi : Int)) = false) := decide_eq_false (fun h => h1 h.1)
    rw [hd.out]
    go_enter Tryz.func64, Tryz.ntmps64
    go_wp2_with fail
    go_ret
    exact ⟨rfl, rfl⟩
theorem within_any (lo hi : Nat) (w : World) :
    Calls Tryz.prog 50 #[.int .i64 (lo : Int), .int .i64 (hi : Int)] w fun e w' => ∃ v, e = .returned v ∧ IsW w'.heap.size lo hi v w' ∧ Below w.heap.size w w' := by
  have hR0 : Row (w.alloc (.cells #[.int .i64 (lo : Int)] 3)) w.heap.size 3 [.int .i64 (lo : Int)] := Row.new w _ _ _ rfl
  have hR1 := hR0.alloc (.cells #[.int .i64 (hi : Int)] 3)
  have hR2 : Row ((w.alloc (.cells #[.int .i64 (lo : Int)] 3)).alloc (.cells #[.int .i64 (hi : Int)] 3)) (w.heap.size + 1) 3 [.int .i64 (hi : Int)] := Row.new_at _ _ (by simp) _ _ _ rfl
  have hB := below_new (below_new (Below.refl _ w) (.cells #[.int .i64 (lo : Int)] 3)) (.cells #[.int .i64 (hi : Int)] 3)
  go_enter Tryz.func50, Tryz.ntmps50
  go_upto_region 1 with fail
  generalize (w.alloc (.cells #[.int .i64 (lo : Int)] 3)).alloc (.cells #[.int .i64 (hi : Int)] 3) = W at hR1 hR2 hB ⊢
  have h1 := hR1.lt
  have h2 := hR2.lt
  go_wp2_with fail
  go_ret
  exact ⟨_, rfl, ⟨_, _, rfl, hR1.cell rfl, hR2.cell rfl, h1, h2⟩, hB⟩
theorem counts_any (w : World) :
    Calls Tryz.prog 31 #[] w fun e w' => ∃ v u, e = .returned (.tuple #[v, u]) ∧ IsW w'.heap.size 0 64 v w' ∧ IsW w'.heap.size 1 32 u w' ∧ Below w.heap.size w w' := by
  go_enter Tryz.func31, Tryz.ntmps31
  go_wp2_with fail
  refine (within_any 0 64 _).mono ?_
  rintro e w1 ⟨v, rfl, hv, hb1⟩
  go_wp2_with fail
  refine (within_any 1 32 _).mono ?_
  rintro e w2 ⟨u, rfl, hu, hb2⟩
  go_wp2_with fail
  go_ret2
  obtain ⟨g1, g2, hv1, c1, c2, h1, h2⟩ := hv.below hb2 (Nat.le_refl _)
  have hs := hb2.size
  exact ⟨v, u, rfl, ⟨g1, g2, hv1, c1, c2, by omega, by omega⟩, hu, below_step hb1 hb2⟩

/-! ### count -/
theorem count_any (g : Nat) (k : Int) (S : List UInt8) (B lo hi : Nat) (v : Value) (w : World) (h : RdRF g k S w) (hv : IsW B lo hi v w) (hB : B ≤ g) :
    Calls Tryz.prog 34 #[.pointer (some ⟨g, 0, none⟩), v] w fun e w' => e = .returned (.int .i64 ((cntK lo hi k S).1 : Int)) ∧ RdRF g (cntK lo hi k S).2.1 (cntK lo hi k S).2.2 w' ∧ Only g w w' := by
  have hO := Lib.hid (one_any g k S w h)
  have hlt := oneK_lt k S
  have HC : Hid (cntK lo hi k S = if lo ≤ (oneK k S).1 ∧ (oneK k S).1 ≤ hi then oneK k S else (0, keepK (oneK k S).2.1 3, (oneK k S).2.2)) := rfl
  obtain ⟨C, hC⟩ : ∃ C, cntK lo hi k S = C := ⟨_, rfl⟩
  rw [hC] at HC ⊢
  clear hC h
  generalize oneK k S = X at hO HC hlt
  obtain ⟨m, k1, S1⟩ := X
  dsimp only at hO HC hlt ⊢
  obtain ⟨g1, g2, rfl, c1, c2, h1, h2⟩ := hv
  have mw : IntKind.i64.wrap (m : Int) = (m : Int) := by rw [IntKind.wrap_i64]; omega
  by_cases hm : lo ≤ m ∧ m ≤ hi
  · have HCC : Hid (C = (m, k1, S1)) := by unfold Hid; rw [HC.out, if_pos hm]
    rw [HCC.out]
    have hd : Hid (decide ((lo : Int) ≤ (m : Int) ∧ (m : Int) ≤ (hi : Int)) = true) := decide_eq_true (by omega)
    clear HC hm HCC
    go_enter Tryz.func34, Tryz.ntmps34
    go_wp2_with fail
    refine hO.out.mono ?_
    rintro e w1 ⟨rfl, hR, hOn⟩
    have d1 := (hOn.below.cell (p := ⟨g1, 0, none⟩) (show g1 < g by omega)).trans c1
    have d2 := (hOn.below.cell (p := ⟨g2, 0, none⟩) (show g2 < g by omega)).trans c2
    go_wp2_with fail
    refine (inW_any lo hi (m : Int) g1 g2 w1 d1 d2).mono ?_
    rw [hd.out]
    rintro e w2 ⟨rfl, rfl⟩
    go_wp2_with fail
    go_ret
    exact ⟨rfl, hR, hOn⟩
  · have HCC : Hid (C = (0, keepK k1 3, S1)) := by unfold Hid; rw [HC.out, if_neg hm]
    rw [HCC.out]
    have hd : Hid (decide ((lo : Int) ≤ (m : Int) ∧ (m : Int) ≤ (hi : Int)) = false) := decide_eq_false (by omega)
    clear HC hm HCC
    go_enter Tryz.func34, Tryz.ntmps34
    go_wp2_with fail
    refine hO.out.mono ?_
    rintro e w1 ⟨rfl, hR, hOn⟩
    have d1 := (hOn.below.cell (p := ⟨g1, 0, none⟩) (show g1 < g by omega)).trans c1
    have d2 := (hOn.below.cell (p := ⟨g2, 0, none⟩) (show g2 < g by omega)).trans c2
    go_wp2_with fail
    refine (inW_any lo hi (m : Int) g1 g2 w1 d1 d2).mono ?_
    rw [hd.out]
    rintro e w2 ⟨rfl, rfl⟩
    go_wp2_with fail
    refine (keep_any g k1 3 S1 w1 hR).mono ?_
    rintro e w3 ⟨rfl, hR2, hO2⟩
    go_wp2_with fail
    go_ret
    exact ⟨rfl, hR2, hOn.trans hO2⟩

/-! ### readEntry -/
theorem cloneE_any (n : Nat) (b : List UInt8) (A : Option Addr) (c : Nat) (w : World) (HN : Hid (b.length = n)) (hr : Rd vB w A b) (hl : n ≤ 70368744177664) :
    Calls Tryz.prog 30 #[.slice A n c] w fun e w' => ∃ A' c', e = .returned (.slice A' n c') ∧ n ≤ c' ∧ Rd vB w' A' b ∧ (∀ a, A' = some a → w.heap.size ≤ a.block) ∧ Below w.heap.size w w' := by
  have e := HN.out
  subst e
  exact clone_b b A c w hr hl
set_option maxHeartbeats 2000000 in
theorem readent_any (g : Nat) (k : Int) (S : List UInt8) (B : Nat) (v : Value) (w : World) (h : RdRF g k S w) (hv : IsW B 1 32 v w) (hB : B ≤ g) :
    Calls Tryz.prog 35 #[.pointer (some ⟨g, 0, none⟩), v] w fun e w' => ∃ A q c, e = .returned (aggN (entK k S).1.1 (entK k S).1.2.1 A q c) ∧ Hid ((entK k S).1.2.2.length = q) ∧ q ≤ c ∧ Rd vB w' A (entK k S).1.2.2 ∧ (∀ a, A = some a → w.heap.size ≤ a.block) ∧ RdRF g (entK k S).2.1 (entK k S).2.2 w' ∧ Only g w w' := by
  obtain ⟨x1, k1, S1, H1⟩ : ∃ x k' S', num8K k S = (x, k', S') := ⟨_, _, _, rfl⟩
  obtain ⟨x2, k2, S2, H2⟩ : ∃ x k' S', num8K k1 S1 = (x, k', S') := ⟨_, _, _, rfl⟩
  obtain ⟨m, k3, S3, H3⟩ : ∃ x k' S', cntK 1 32 k2 S2 = (x, k', S') := ⟨_, _, _, rfl⟩
  obtain ⟨L, k4, S4, H4⟩ : ∃ x k' S', nextK m k3 S3 = (x, k', S') := ⟨_, _, _, rfl⟩
  have HE : Hid (entK k S = ((x1, x2, L), k4, S4)) := by
    unfold Hid entK
    rw [H1]
    dsimp only
    rw [H2]
    dsimp only
    rw [H3]
    dsimp only
    rw [H4]
  rw [HE.out]
  dsimp only
  have hm : m ≤ 32 := by have := cntK_le 1 32 k2 S2; rw [H3] at this; exact this
  replace H1 := Lib.hid H1
  replace H2 := Lib.hid H2
  replace H3 := Lib.hid H3
  replace H4 := Lib.hid H4
  clear HE
  have hgw := h.lt
  obtain ⟨hR0, hB0⟩ := box_three w 35 (.int .u64 0) (.int .u64 0) (.slice none 0 0)
  obtain ⟨hR1, hB1⟩ := box_three (w.alloc (.cells #[.int .u64 0, .int .u64 0, .slice none 0 0] 35)) 35 (.int .u64 0) (.int .u64 0) (.slice none 0 0)
  replace hR0 := hR0.later hB1
  replace hB0 := below_step hB0 hB1
  have hz : (w.alloc (.cells #[.int .u64 0, .int .u64 0, .slice none 0 0] 35)).heap.size = w.heap.size + 1 := by simp
  rw [hz] at hR1
  clear hB1 hz
  go_enter Tryz.func35, Tryz.ntmps35
  go_upto_region 2 with fail
  generalize (w.alloc (.cells #[.int .u64 0, .int .u64 0, .slice none 0 0] 35)).alloc (.cells #[.int .u64 0, .int .u64 0, .slice none 0 0] 35) = W at hR0 hR1 hB0 ⊢
  have hT := h.below (hB0.mono (show g + 1 ≤ w.heap.size by omega))
  have hV := hv.below hB0 (by omega)
  have hO0 : Only g w W := Only.later hB0 (by omega)
  have hne1 : w.heap.size + 1 ≠ g := by omega
  have hne0 : w.heap.size ≠ g := by omega
  have hle1 : g + 1 ≤ w.heap.size + 1 := by omega
  have hBg : B ≤ g + 1 := by omega
  have hB1g : B ≤ w.heap.size + 1 := by omega
  have hn01 : w.heap.size ≠ w.heap.size + 1 := by omega
  clear h hv hB0
  go_wp2_with fail
  refine (number8_any g k S W hT).mono ?_
  rw [H1.out]
  rintro e w1 ⟨rfl, hT1, hO⟩
  dsimp only at hT1 ⊢
  replace hR0 := hR0.only hO hne0
  replace hR1 := hR1.only hO hne1
  replace hV := hV.below hO.below hB
  replace hO0 := hO0.trans hO
  clear hO hT
  have f0 := hR1.frozen 0
  have hT2 := hT1.below ((Below.refl _ w1).setCell (p := ⟨w.heap.size + 1, 0, none⟩) hle1 (.int .u64 (x1 : Int)))
  have hV2 := hV.below ((Below.refl _ w1).setCell (p := ⟨w.heap.size + 1, 0, none⟩) (Nat.le_refl _) (.int .u64 (x1 : Int))) hB1g
  have hR02 := hR0.setCell_other (p := ⟨w.heap.size + 1, 0, none⟩) hn01 (.int .u64 (x1 : Int))
  have hR12 : Row (w1.setCell ⟨w.heap.size + 1, 0, none⟩ (.int .u64 (x1 : Int))) (w.heap.size + 1) 35 [.int .u64 (x1 : Int), .int .u64 0, .slice none 0 0] := hR1.setCell 0 (.int .u64 (x1 : Int))
  have hO2 : Hid (∀ b, b ≠ g → b < w.heap.size → (w1.setCell ⟨w.heap.size + 1, 0, none⟩ (.int .u64 (x1 : Int))).heap[b]? = w.heap[b]?) := fun b h1 h2 => by
    rw [← hO0.other b h1 h2]
    exact ((Below.refl (w.heap.size + 1) w1).setCell (p := ⟨w.heap.size + 1, 0, none⟩) (Nat.le_refl _) _).block b (by omega)
  have hB2 := hO0.below.setCell (p := ⟨w.heap.size + 1, 0, none⟩) (show g ≤ w.heap.size + 1 by omega) (.int .u64 (x1 : Int))
  have c0 : w1.cell? ⟨w.heap.size + 1, 0, none⟩ = some (.int .u64 0) := hR1.cell rfl
  clear hT1 hV hR0 hR1 hO0
  go_upto_region 3 with fail
  generalize w1.setCell ⟨w.heap.size + 1, 0, none⟩ (.int .u64 (x1 : Int)) = W2 at hT2 hV2 hR02 hR12 hO2 hB2 ⊢
  clear c0 f0
  have hO3 : Only g w W2 := ⟨hB2, hO2.out⟩
  clear hO2 hB2
  go_wp2_with fail
  refine (number8_any g k1 S1 W2 hT2).mono ?_
  rw [H2.out]
  rintro e w1 ⟨rfl, hT1, hO⟩
  dsimp only at hT1 ⊢
  replace hR0 := hR02.only hO hne0
  replace hR1 := hR12.only hO hne1
  replace hV := hV2.below hO.below hB
  replace hO0 := hO3.trans hO
  clear hO hT2 hV2 hR02 hR12 hO3
  have f0 := hR1.frozen 1
  have hT2 := hT1.below ((Below.refl _ w1).setCell (p := ⟨w.heap.size + 1, 1, none⟩) hle1 (.int .u64 (x2 : Int)))
  have hV2 := hV.below ((Below.refl _ w1).setCell (p := ⟨w.heap.size + 1, 1, none⟩) (Nat.le_refl _) (.int .u64 (x2 : Int))) hB1g
  have hR02 := hR0.setCell_other (p := ⟨w.heap.size + 1, 1, none⟩) hn01 (.int .u64 (x2 : Int))
  have hR12 : Row (w1.setCell ⟨w.heap.size + 1, 1, none⟩ (.int .u64 (x2 : Int))) (w.heap.size + 1) 35 [.int .u64 (x1 : Int), .int .u64 (x2 : Int), .slice none 0 0] := hR1.setCell 1 (.int .u64 (x2 : Int))
  have hO2 : Hid (∀ b, b ≠ g → b < w.heap.size → (w1.setCell ⟨w.heap.size + 1, 1, none⟩ (.int .u64 (x2 : Int))).heap[b]? = w.heap[b]?) := fun b h1 h2 => by
    rw [← hO0.other b h1 h2]
    exact ((Below.refl (w.heap.size + 1) w1).setCell (p := ⟨w.heap.size + 1, 1, none⟩) (Nat.le_refl _) _).block b (by omega)
  have hB2 := hO0.below.setCell (p := ⟨w.heap.size + 1, 1, none⟩) (show g ≤ w.heap.size + 1 by omega) (.int .u64 (x2 : Int))
  have c0 : w1.cell? ⟨w.heap.size + 1, 1, none⟩ = some (.int .u64 0) := hR1.cell rfl
  clear hT1 hV hR0 hR1 hO0
  go_upto_region 4 with fail
  generalize w1.setCell ⟨w.heap.size + 1, 1, none⟩ (.int .u64 (x2 : Int)) = W2 at hT2 hV2 hR02 hR12 hO2 hB2 ⊢
  clear c0 f0
  have hO3 : Only g w W2 := ⟨hB2, hO2.out⟩
  clear hO2 hB2
  go_wp2_with fail
  refine (count_any g k2 S2 B 1 32 v W2 hT2 hV2 hB).mono ?_
  rw [H3.out]
  rintro e w1 ⟨rfl, hT1, hO⟩
  dsimp only at hT1 ⊢
  replace hR0 := hR02.only hO hne0
  replace hR1 := hR12.only hO hne1
  replace hO0 := hO3.trans hO
  clear hO hT2 hV2 hR02 hR12 hO3
  go_wp2_with fail
  refine (next_any g m k3 S3 w1 hT1).mono ?_
  rw [H4.out]
  rintro e w2 ⟨A, q, c, rfl, HL, hqm, hqc, hr, hT2, hO⟩
  dsimp only at hT2 HL hr ⊢
  replace hR0 := hR0.only hO hne0
  replace hR1 := hR1.only hO hne1
  replace hO0 := hO0.trans hO
  clear hO hT1
  have hlt2 := hR1.lt
  go_wp2_with fail
  refine (cloneE_any q L A c w2 HL hr (by omega)).mono ?_
  rintro e w3 ⟨A3, c3, rfl, hc3, hr3, hA3, hb⟩
  have hsz := hO0.below.size
  replace hT2 := hT2.below (hb.mono (by omega))
  replace hR0 := hR0.later hb
  replace hR1 := hR1.later hb
  replace hO0 := hO0.trans (Only.later hb (by omega))
  clear hb hr
  have HA3 : Hid (∀ a, A3 = some a → w.heap.size + 1 < a.block) := fun a ha => by have := hA3 a ha; omega
  have f0 := hR1.frozen 2
  have c0 : w3.cell? ⟨w.heap.size + 1, 2, none⟩ = some (.slice none 0 0) := hR1.cell rfl
  have hT4 := hT2.below ((Below.refl _ w3).setCell (p := ⟨w.heap.size + 1, 2, none⟩) hle1 (.slice A3 q c3))
  have hR04 := hR0.setCell_other (p := ⟨w.heap.size + 1, 2, none⟩) hn01 (.slice A3 q c3)
  have hR14 : Row (w3.setCell ⟨w.heap.size + 1, 2, none⟩ (.slice A3 q c3)) (w.heap.size + 1) 35 [.int .u64 (x1 : Int), .int .u64 (x2 : Int), .slice A3 q c3] := hR1.setCell 2 (.slice A3 q c3)
  have hr4 : Rd vB (w3.setCell ⟨w.heap.size + 1, 2, none⟩ (.slice A3 q c3)) A3 L := hr3.only ((Only.refl (w.heap.size + 1) w3).setCell 2 (.slice A3 q c3)) (fun _ a ha => by have := HA3.out a ha; omega)
  have hO2 : Hid (∀ b, b ≠ g → b < w.heap.size → (w3.setCell ⟨w.heap.size + 1, 2, none⟩ (.slice A3 q c3)).heap[b]? = w.heap[b]?) := fun b h1 h2 => by
    rw [← hO0.other b h1 h2]
    exact ((Below.refl (w.heap.size + 1) w3).setCell (p := ⟨w.heap.size + 1, 2, none⟩) (Nat.le_refl _) _).block b (by omega)
  have hB2 := hO0.below.setCell (p := ⟨w.heap.size + 1, 2, none⟩) (show g ≤ w.heap.size + 1 by omega) (.slice A3 q c3)
  clear hT2 hR0 hR1 hO0 hr3 hA3
  go_upto_region 5 with fail
  generalize w3.setCell ⟨w.heap.size + 1, 2, none⟩ (.slice A3 q c3) = W4 at hT4 hR04 hR14 hr4 hO2 hB2 ⊢
  clear c0 f0
  go_wp2_with (first
    | (refine wpList_load_part rfl 35 (.tmp 5) rfl (w.heap.size + 1) 0 rfl _ _ hR14 [.int .u64 (x1 : Int), .int .u64 (x2 : Int), .slice A3 q c3] (by rfl) _ Tryz.underlying35 rfl (by exact size_entry) ?_)
    | (refine wpList_store_row rfl 35 (.tmp 4) (.tmp 19) rfl w.heap.size rfl [.int .u64 (x1 : Int), .int .u64 (x2 : Int), .slice A3 q c3] rfl _ _ hR04 (by exact size_entry) rfl (one_three _ _ _ rfl rfl rfl) ?_))
  refine bodyPost_ret (results_cell_row (p := 4) (ty := 35) (by rfl) _ _ w.heap.size 35 _ (0, 0) _ (by rfl) (by exact hR04.setRow _) Tryz.underlying35 (by rfl) (by exact size_entry)) (by rfl) ?_
  have hbs := below_setRow (Below.refl w.heap.size W4) (Nat.le_refl w.heap.size) [.int .u64 (x1 : Int), .int .u64 (x2 : Int), .slice A3 q c3].toArray
  exact ⟨A3, q, c3, rfl, HL, hc3, hr4.setRow _ (fun a ha => by have := HA3.out a ha; omega), (fun a ha => by have := HA3.out a ha; omega), hT4.below (hbs.mono (by omega)), ⟨below_setRow hB2 (by omega) _, fun b h1 h2 => (hbs.block b h2).trans (hO2.out b h1 h2)⟩⟩

/-! ### readGone -/
theorem readG_le {b : List UInt8} (h : (readG b).2.2 = 0) : (readG b).2.1 ≤ b.length := by
  obtain ⟨l, n, e, hG⟩ : ∃ l n e, readG b = (l, n, e) := ⟨_, _, _, rfl⟩
  rw [hG] at h ⊢
  dsimp only at h ⊢
  subst h
  exact (readG_good hG).2.2.1
theorem RdG.only {g : Nat} {w w' : World} {A : Option Addr} {l : List Gn} (h : RdG w A l) (k : Only g w w') (hA : ∀ a, A = some a → a.block ≠ g) : RdG w' A l := fun hn => by
  obtain ⟨b, o, rfl, hc⟩ := h hn
  refine ⟨b, o, rfl, fun i hi => ?_⟩
  obtain ⟨h0, h1⟩ := hc i hi
  have hlt := World.block_lt_of_cell? w _ h0
  have hbk := k.other b (hA _ rfl) hlt
  exact ⟨(World.cell?_of_block (w := w) (a := ⟨b, o + i * 2, none⟩) hbk).trans h0, (World.cell?_of_block (w := w) (a := ⟨b, o + i * 2 + 1, none⟩) hbk).trans h1⟩

theorem readgone_any (g : Nat) (k : Int) (S : List UInt8) (w : World) (h : RdRF g k S w) :
    Calls Tryz.prog 36 #[.pointer (some ⟨g, 0, none⟩)] w fun e w' => ∃ A l q c, e = .returned (.slice A q c) ∧ Hid ((l : List Gn).length = q) ∧ q ≤ c ∧ q ≤ 64 ∧ RdG w' A l ∧ fitG l ∧ (∀ a, A = some a → w.heap.size ≤ a.block) ∧ Only g w w' ∧
      ∃ k' S', RdRF g k' S' w' ∧ (k ≠ 0 → k' = k) ∧ (k = 0 → k' = (readG S).2.2 ∧ (k' = 0 → l = (readG S).1 ∧ S' = S.drop (readG S).2.1 ∧ (readG S).2.1 ≤ S.length)) := by
  obtain ⟨S0, n, ⟨A0, c0, hR, HN, hc, hr, hA⟩, hn, h2⟩ := id h
  have HKS := Lib.hid h2
  have hc0 : w.cell? ⟨g, 0, none⟩ = some (.slice A0 n c0) := hR.cell rfl
  have hgl := hR.lt
  have hread := Lib.hid (read15_any S0 n c0 A0 w HN hr (by omega) hc)
  have hle : (readG S0).1.length ≤ 64 ∧ (readG S0).2.1 ≤ 1025 := readG_len
  have HFIT := Lib.hid (@readG_fit S0)
  have hbound := Lib.hid (@readG_le S0)
  clear hr hA h2 hR
  obtain ⟨l, m, e0, HG⟩ : ∃ l m e0, readG S0 = (l, m, e0) := ⟨_, _, _, rfl⟩
  rw [HG] at hread hle HFIT hbound
  dsimp only at hread hle HFIT hbound
  have HG2 := Lib.hid HG
  clear HG
  go_enter Tryz.func36, Tryz.ntmps36
  go_wp2_with fail
  refine hread.out.mono ?_
  rintro e w1 hRR
  obtain ⟨v, rfl, hown, hb⟩ := hRR
  obtain ⟨A, c, rfl, hlc, hrg, hfr⟩ := own_sliceG hown
  have hT := h.below (hb.mono (show g + 1 ≤ w.heap.size by omega))
  have HL : Hid (l.length = l.length) := rfl
  obtain ⟨q, hq⟩ : ∃ q, l.length = q := ⟨_, rfl⟩
  have HQ := Lib.hid hq
  rw [hq] at hlc hle ⊢
  have hO0 := Only.later hb (show g ≤ w.heap.size by omega)
  have HFR : Hid (∀ a, A = some a → w.heap.size ≤ a.block) := hfr
  clear hread hown hb hq HL hfr hc0
  go_wp2_with fail
  refine (keep_any g k e0 S w1 hT).mono ?_
  rintro e w2 ⟨rfl, hT2, hO⟩
  have hrg2 := hrg.only hO (fun a ha => by have := HFR.out a ha; omega)
  replace hO0 := hO0.trans hO
  clear hT hO hrg
  go_wp2_with fail
  refine (next_any g m (keepK k e0) S w2 hT2).mono ?_
  rintro e w3 ⟨A3, q3, c3, rfl, _, _, _, _, hT3, hO⟩
  have hrg3 := hrg2.only hO (fun a ha => by have := HFR.out a ha; omega)
  replace hO0 := hO0.trans hO
  clear hT2 hO hrg2
  go_wp2_with fail
  go_ret
  refine ⟨A, l, q, c, rfl, HQ, hlc, by omega, hrg3, HFIT.out, HFR.out, hO0, _, _, hT3, fun hk => ?_, fun hk => ?_⟩
  · rw [keepK_bad _ hk, nextK_bad _ _ hk]
  · have eS := HKS.out hk
    subst eS
    subst hk
    have hG := HG2.out
    rw [hG]
    dsimp only
    have e1 : keepK 0 e0 = e0 := if_pos rfl
    rw [e1]
    by_cases h0 : e0 = 0
    · subst h0
      have hb := hbound.out rfl
      have : nextK m 0 S0 = (S0.take m, 0, S0.drop m) := by unfold nextK; rw [if_pos rfl, if_neg (by omega)]
      rw [this]
      exact ⟨rfl, fun _ => ⟨rfl, rfl, hb⟩⟩
    · rw [nextK_bad _ _ h0]
      exact ⟨rfl, fun h => absurd h h0⟩
end Go.Proofs.YtmljhkdojopljaaGreatDoor
/-
  What the reference's Right of layer 16 answers. No conditions but those typed.
-/
namespace Go.Proofs.YtmljhkdojopljaaGreatDoor
set_option maxRecDepth 100000
open Go.RowKit
set_option linter.unusedSimpArgs false
set_option linter.unusedVariables false

theorem okE_at : ∀ l : List En, okE l = true ↔ ∀ k (h : k < l.length), seedOK l[k] ∧ (0 < k → (l[k - 1]'(by omega)).1 < l[k].1)
  | [] => by simp [okE]
  | [a] => by
    unfold okE
    rw [decide_eq_true_iff]
    constructor
    · intro h k hk
      have : k = 0 := by simpa using hk
      subst this
      exact ⟨h, fun h0 => by omega⟩
    · intro h
      exact (h 0 (by simp)).1
  | a :: b :: l => by
    have ih := okE_at (b :: l)
    unfold okE
    rw [Bool.and_eq_true, Bool.and_eq_true, decide_eq_true_iff, decide_eq_true_iff, ih]
    constructor
    · rintro ⟨h1, h2, h3⟩ k hk
      cases k with
      | zero => exact ⟨h1, fun h0 => by omega⟩
      | succ k =>
        obtain ⟨h4, h5⟩ := h3 k (by simpa using hk)
        refine ⟨h4, fun _ => ?_⟩
        cases k with
        | zero => exact h2
        | succ k => exact h5 (by omega)
    · intro h
      refine ⟨(h 0 (by simp)).1, (h 1 (by simp)).2 (by omega), fun k hk => ?_⟩
      obtain ⟨h4, h5⟩ := h (k + 1) (by simpa using hk)
      refine ⟨h4, fun h0 => ?_⟩
      have h6 := h5 (by omega)
      cases k with
      | zero => omega
      | succ k => exact h6

set_option maxHeartbeats 2000000 in
theorem refrightB_any (v : Nat) (es : List ED) (gs : List Gn) (n ec m gc : Nat) (eA gA : Option Addr) (w : World) (HN : Hid (es.length = n)) (HM : Hid (gs.length = m)) (hre : RdE w eA es) (hrg : RdG w gA gs) (hn : n ≤ 1000000000) (hm : m ≤ 1000000000) (hml : ∀ x ∈ es, x.s.length ≤ 9223372036854775807) :
    Calls Tryz.prog 8 #[aggB v eA n ec gA m gc] w fun e w' => e = .returned (.bool (rightB (conE es) gs)) ∧ Below w.heap.size w w' := by
  obtain ⟨hR, hB⟩ := box_three w 26 (.int .u64 (v : Int)) (.slice eA n ec) (.slice gA m gc)
  obtain ⟨P, hP⟩ : ∃ P, rightB (conE es) gs = P := ⟨_, rfl⟩
  rw [hP]
  unfold rightB at hP
  rw [conE_length, HN.out] at hP
  have HML := Lib.hid hml
  obtain ⟨G, hG⟩ : ∃ G, rightG gs = G := ⟨_, rfl⟩
  rw [hG] at hP
  have HP := Lib.hid hP
  have HRR := Lib.hid (fun W hW => refright15_any gs m gc gA W HM (hrg.keep hW) hm)
  rw [hG] at HRR
  clear hP hml hG
  unfold aggB
  go_enter Tryz.func8, Tryz.ntmps8
  go_upto_region 1 with fail
  generalize (w.alloc (.cells #[.int .u64 (v : Int), .slice eA n ec, .slice gA m gc] 26)) = w1 at hR hB ⊢
  by_cases h64 : n ≤ 64
  · have n64 : ¬ (64 : Int) < (n : Int) := by omega
    have c1 : w1.cell? ⟨w.heap.size, 1, none⟩ = some (.slice eA n ec) := hR.cell rfl
    have c2 : w1.cell? ⟨w.heap.size, 2, none⟩ = some (.slice gA m gc) := hR.cell rfl
    go_wp2_with fail
    refine (HRR.out _ hB).mono ?_
    rintro e w2 ⟨rfl, hb2⟩
    have HB2 := Lib.hid (below_step hB hb2)
    have hR2 := hR.later hb2
    have hre2 := hre.keep HB2.out
    cases G with
    | false =>
      have HPF : Hid (P = false) := by unfold Hid; rw [← HP.out]; simp
      clear c1 c2 hb2 hR2 hre2
      go_wp2_with fail
      go_ret
      exact ⟨by rw [HPF.out]; rfl, HB2.out⟩
    | true =>
      have HPO : Hid (P = okE (conE es)) := by unfold Hid; rw [← HP.out, decide_eq_true h64, Bool.true_and, Bool.true_and]
      clear c1 c2 hb2 hB hR hre hrg
      go_wp2_with fail
      go_loopw [3] (fun i wr => (∃ k : Nat, i = .int .i64 (k : Int) ∧ k ≤ n ∧ ∀ j (h : j < es.length), j < k → seedOK es[j].con ∧ (0 < j → (es[j - 1]'(by omega)).t < es[j].t)) ∧ Below w2.heap.size w2 wr) (fun i _ => n - (intOf i).toNat)
      case atStart => exact ⟨⟨0, rfl, by omega, fun j _ hj => by omega⟩, Below.refl _ _⟩
      case round =>
        obtain ⟨⟨k, rfl, hk, hs⟩, hBr⟩ := hrel
        have hRr := hR2.later hBr
        have HB3 := Lib.hid (below_step HB2.out hBr)
        by_cases hlt : k < n
        · have hkl : k < es.length := by rw [HN.out]; exact hlt
          obtain ⟨b, o, rfl, hb, _, p0, _, p2⟩ := hre2.one hkl
          replace p0 := (hBr.cell (p := ⟨b, o + k * 3, none⟩) hb).trans p0
          replace p2 := (hBr.cell (p := ⟨b, o + k * 3 + 2, none⟩) hb).trans p2
          have HS : Hid (seedOK es[k].con ∧ (0 < k → (es[k - 1]'(by omega)).t < es[k].t) → ∀ j (h : j < es.length), j < k + 1 → seedOK es[j].con ∧ (0 < j → (es[j - 1]'(by omega)).t < es[j].t)) := fun h j hj hjk => by
            by_cases e : j = k
            · subst e; exact h
            · exact hs j hj (by omega)
          have HE : Hid (¬ (seedOK es[k].con ∧ (0 < k → (es[k - 1]'(by omega)).t < es[k].t)) → okE (conE es) = false) := fun h => by
            rw [Bool.eq_false_iff]
            intro hok
            have h1 := (okE_at _).1 hok k (by rw [conE_length]; exact hkl)
            rw [conE_get es k hkl] at h1
            refine h ⟨h1.1, fun h0 => ?_⟩
            have h2 := h1.2 h0
            rw [conE_get es (k - 1) (by omega)] at h2
            exact h2
          have hxl := HML.out _ (List.getElem_mem hkl)
          have i0 : (0 : Int) ≤ (k : Int) := by omega
          have i1 : (k : Int) < (n : Int) := by omega
          have c1w : wr.cell? ⟨w.heap.size, 1, none⟩ = some (.slice (some ⟨b, o, none⟩) n ec) := hRr.cell rfl
          have c1 : ∀ W, Below wr.heap.size wr W → W.cell? ⟨w.heap.size, 1, none⟩ = some (.slice (some ⟨b, o, none⟩) n ec) := fun W hW => (hRr.later hW).cell rfl
          have d2 : ∀ W, Below wr.heap.size wr W → W.cell? ⟨b, o + k * 3 + 2, none⟩ = some es[k].at2 := fun W hW => (hW.cell (p := ⟨b, o + k * 3 + 2, none⟩) (World.block_lt_of_cell? wr _ p2)).trans p2
          have d0 : ∀ W, Below wr.heap.size wr W → W.cell? ⟨b, o + k * 3, none⟩ = some (vNG es[k].t) := fun W hW => (hW.cell (p := ⟨b, o + k * 3, none⟩) (World.block_lt_of_cell? wr _ p0)).trans p0
          unfold ED.at2 at d2
          unfold vNG at d0
          have HSK : Hid (seedOK es[k].con ↔ 1 ≤ es[k].s.length ∧ es[k].s.length ≤ 32) := Iff.rfl
          by_cases hk0 : k = 0
          · subst hk0
            have HS2 : Hid (seedOK es[0].con → ∀ j (h : j < es.length), j < 0 + 1 → seedOK es[j].con ∧ (0 < j → (es[j - 1]'(by omega)).t < es[j].t)) := fun h => HS.out ⟨h, fun h0 => by omega⟩
            have HE2 : Hid (¬ seedOK es[0].con → okE (conE es) = false) := fun h => HE.out (fun h2 => h h2.1)
            rw [HSK.out] at HS2 HE2
            have kk : ¬ (0 : Int) < ((0 : Nat) : Int) := by omega
            generalize es[0].s.length = q at *
            clear hs HS HE p0 p2 HSK
            by_cases hq0 : q = 0
            · subst hq0
              have HPF : Hid (P = false) := HPO.out.trans (HE2.out (by omega))
              go_wp2_with fail
              have hBase := (Below.refl wr.heap.size wr).drew
              refine wp_region_plan (.step 0 false (.step 1 false (.step 2 false (.step 3 false (.step 4 false (.step 5 false (.step 6 false (.step 7 false (.step 8 false (.step 9 false (.step 10 false (.step 11 false (.step 12 false (.step 13 false (.step 14 false (.step 15 false (.step 16 false (.step 17 false (.step 18 false (.step 19 false (.step 20 false (.step 21 false (.step 22 false (.step 23 false (.step 24 false (.step 25 false (.step 26 false (.step 27 false (.step 28 false (.step 29 false (.step 30 false (.step 31 false (.step 32 false (.step 33 false (.step 34 false (.step 35 false (.step 36 false (.step 37 false (.nil))))))))))))))))))))))))))))))))))))))) (by kernel_rfl) (by kernel_rfl) (by rfl) (by kernel_rfl) ?_
              iterate 3 (refine plan_read rfl (by rfl) (v := ?_) ?_ ?_; rotate_left 1; (intro W hW; have hW0 := below_step hBase hW; (try dsimp only at hW); go_simp <;> with_reducible rfl); simp only [List.getElem_toArray, List.getElem_cons_zero, List.getElem_cons_succ, Act.put, List.setIfInBounds_toArray, List.set_cons_zero, List.set_cons_succ])
              iterate 14 (refine plan_skip rfl (by rfl) ?_; simp only [List.getElem_toArray, List.getElem_cons_zero, List.getElem_cons_succ, Act.put, List.setIfInBounds_toArray, List.set_cons_zero, List.set_cons_succ])
              iterate 2 (refine plan_read rfl (by rfl) (v := ?_) ?_ ?_; rotate_left 1; (intro W hW; have hW0 := below_step hBase hW; (try dsimp only at hW); go_simp <;> with_reducible rfl); simp only [List.getElem_toArray, List.getElem_cons_zero, List.getElem_cons_succ, Act.put, List.setIfInBounds_toArray, List.set_cons_zero, List.set_cons_succ])
              iterate 8 (refine plan_read rfl (by rfl) (v := ?_) ?_ ?_; rotate_left 1; (intro W hW; have hW0 := below_step hBase hW; (try dsimp only at hW); go_simp <;> with_reducible rfl); simp only [List.getElem_toArray, List.getElem_cons_zero, List.getElem_cons_succ, Act.put, List.setIfInBounds_toArray, List.set_cons_zero, List.set_cons_succ])
              iterate 2 (refine plan_read rfl (by rfl) (v := ?_) ?_ ?_; rotate_left 1; (intro W hW; have hW0 := below_step hBase hW; (try dsimp only at hW); go_simp <;> with_reducible rfl); simp only [List.getElem_toArray, List.getElem_cons_zero, List.getElem_cons_succ, Act.put, List.setIfInBounds_toArray, List.set_cons_zero, List.set_cons_succ])
              iterate 8 (refine plan_skip rfl (by rfl) ?_; simp only [List.getElem_toArray, List.getElem_cons_zero, List.getElem_cons_succ, Act.put, List.setIfInBounds_toArray, List.set_cons_zero, List.set_cons_succ])
              iterate 1 (refine plan_read rfl (by rfl) (v := ?_) ?_ ?_; rotate_left 1; (intro W hW; have hW0 := below_step hBase hW; (try dsimp only at hW); go_simp <;> with_reducible rfl); simp only [List.getElem_toArray, List.getElem_cons_zero, List.getElem_cons_succ, Act.put, List.setIfInBounds_toArray, List.set_cons_zero, List.set_cons_succ])
              refine plan_done ?_
              have HB4 := Lib.hid (below_step HB3.out hBase)
              clear c1 c1w d0 d2
              go_wp2_with fail
              go_ret
              exact ⟨by rw [HPF.out]; rfl, HB4.out⟩
            · have hqe : ((q : Int) == 0) = false := beq_eq_false_iff_ne.2 (by omega)
              by_cases hq32 : q ≤ 32
              · have HS3 := Lib.hid (HS2.out (by omega))
                have hqg : ¬ (32 : Int) < (q : Int) := by omega
                go_wp2_with fail
                have hBase := (Below.refl wr.heap.size wr).drew
                refine wp_region_plan (.step 0 false (.step 1 false (.step 2 false (.step 3 false (.step 4 false (.step 5 false (.step 6 false (.step 7 false (.step 8 false (.step 9 false (.step 10 false (.step 11 false (.step 12 false (.step 13 false (.step 14 false (.step 15 false (.step 16 false (.step 17 false (.step 18 false (.step 19 false (.step 20 false (.step 21 false (.step 22 false (.step 23 false (.step 24 false (.step 25 false (.step 26 false (.step 27 false (.step 28 false (.step 29 false (.step 30 false (.step 31 false (.step 32 false (.step 33 false (.step 34 false (.step 35 false (.step 36 false (.step 37 false (.nil))))))))))))))))))))))))))))))))))))))) (by kernel_rfl) (by kernel_rfl) (by rfl) (by kernel_rfl) ?_
                iterate 3 (refine plan_read rfl (by rfl) (v := ?_) ?_ ?_; rotate_left 1; (intro W hW; have hW0 := below_step hBase hW; (try dsimp only at hW); go_simp <;> with_reducible rfl); simp only [List.getElem_toArray, List.getElem_cons_zero, List.getElem_cons_succ, Act.put, List.setIfInBounds_toArray, List.set_cons_zero, List.set_cons_succ])
                iterate 14 (refine plan_skip rfl (by rfl) ?_; simp only [List.getElem_toArray, List.getElem_cons_zero, List.getElem_cons_succ, Act.put, List.setIfInBounds_toArray, List.set_cons_zero, List.set_cons_succ])
                iterate 2 (refine plan_read rfl (by rfl) (v := ?_) ?_ ?_; rotate_left 1; (intro W hW; have hW0 := below_step hBase hW; (try dsimp only at hW); go_simp <;> with_reducible rfl); simp only [List.getElem_toArray, List.getElem_cons_zero, List.getElem_cons_succ, Act.put, List.setIfInBounds_toArray, List.set_cons_zero, List.set_cons_succ])
                iterate 8 (refine plan_read rfl (by rfl) (v := ?_) ?_ ?_; rotate_left 1; (intro W hW; have hW0 := below_step hBase hW; (try dsimp only at hW); go_simp <;> with_reducible rfl); simp only [List.getElem_toArray, List.getElem_cons_zero, List.getElem_cons_succ, Act.put, List.setIfInBounds_toArray, List.set_cons_zero, List.set_cons_succ])
                iterate 2 (refine plan_read rfl (by rfl) (v := ?_) ?_ ?_; rotate_left 1; (intro W hW; have hW0 := below_step hBase hW; (try dsimp only at hW); go_simp <;> with_reducible rfl); simp only [List.getElem_toArray, List.getElem_cons_zero, List.getElem_cons_succ, Act.put, List.setIfInBounds_toArray, List.set_cons_zero, List.set_cons_succ])
                iterate 8 (refine plan_read rfl (by rfl) (v := ?_) ?_ ?_; rotate_left 1; (intro W hW; have hW0 := below_step hBase hW; (try dsimp only at hW); go_simp <;> with_reducible rfl); simp only [List.getElem_toArray, List.getElem_cons_zero, List.getElem_cons_succ, Act.put, List.setIfInBounds_toArray, List.set_cons_zero, List.set_cons_succ])
                iterate 1 (refine plan_read rfl (by rfl) (v := ?_) ?_ ?_; rotate_left 1; (intro W hW; have hW0 := below_step hBase hW; (try dsimp only at hW); go_simp <;> with_reducible rfl); simp only [List.getElem_toArray, List.getElem_cons_zero, List.getElem_cons_succ, Act.put, List.setIfInBounds_toArray, List.set_cons_zero, List.set_cons_succ])
                refine plan_done ?_
                have HB4 := Lib.hid (hBr.trans (hBase.mono hBr.size))
                clear c1 c1w d0 d2
                go_wp2_with fail
                go_roundw
                case rel => exact ⟨⟨0 + 1, by go_num, by omega, HS3.out⟩, HB4.out⟩
                case measure => simp [intOf]; omega
              · have HPF : Hid (P = false) := HPO.out.trans (HE2.out (by omega))
                have hqg : (32 : Int) < (q : Int) := by omega
                go_wp2_with fail
                have hBase := (Below.refl wr.heap.size wr).drew
                refine wp_region_plan (.step 0 false (.step 1 false (.step 2 false (.step 3 false (.step 4 false (.step 5 false (.step 6 false (.step 7 false (.step 8 false (.step 9 false (.step 10 false (.step 11 false (.step 12 false (.step 13 false (.step 14 false (.step 15 false (.step 16 false (.step 17 false (.step 18 false (.step 19 false (.step 20 false (.step 21 false (.step 22 false (.step 23 false (.step 24 false (.step 25 false (.step 26 false (.step 27 false (.step 28 false (.step 29 false (.step 30 false (.step 31 false (.step 32 false (.step 33 false (.step 34 false (.step 35 false (.step 36 false (.step 37 false (.nil))))))))))))))))))))))))))))))))))))))) (by kernel_rfl) (by kernel_rfl) (by rfl) (by kernel_rfl) ?_
                iterate 3 (refine plan_read rfl (by rfl) (v := ?_) ?_ ?_; rotate_left 1; (intro W hW; have hW0 := below_step hBase hW; (try dsimp only at hW); go_simp <;> with_reducible rfl); simp only [List.getElem_toArray, List.getElem_cons_zero, List.getElem_cons_succ, Act.put, List.setIfInBounds_toArray, List.set_cons_zero, List.set_cons_succ])
                iterate 14 (refine plan_skip rfl (by rfl) ?_; simp only [List.getElem_toArray, List.getElem_cons_zero, List.getElem_cons_succ, Act.put, List.setIfInBounds_toArray, List.set_cons_zero, List.set_cons_succ])
                iterate 2 (refine plan_read rfl (by rfl) (v := ?_) ?_ ?_; rotate_left 1; (intro W hW; have hW0 := below_step hBase hW; (try dsimp only at hW); go_simp <;> with_reducible rfl); simp only [List.getElem_toArray, List.getElem_cons_zero, List.getElem_cons_succ, Act.put, List.setIfInBounds_toArray, List.set_cons_zero, List.set_cons_succ])
                iterate 8 (refine plan_read rfl (by rfl) (v := ?_) ?_ ?_; rotate_left 1; (intro W hW; have hW0 := below_step hBase hW; (try dsimp only at hW); go_simp <;> with_reducible rfl); simp only [List.getElem_toArray, List.getElem_cons_zero, List.getElem_cons_succ, Act.put, List.setIfInBounds_toArray, List.set_cons_zero, List.set_cons_succ])
                iterate 2 (refine plan_read rfl (by rfl) (v := ?_) ?_ ?_; rotate_left 1; (intro W hW; have hW0 := below_step hBase hW; (try dsimp only at hW); go_simp <;> with_reducible rfl); simp only [List.getElem_toArray, List.getElem_cons_zero, List.getElem_cons_succ, Act.put, List.setIfInBounds_toArray, List.set_cons_zero, List.set_cons_succ])
                iterate 8 (refine plan_read rfl (by rfl) (v := ?_) ?_ ?_; rotate_left 1; (intro W hW; have hW0 := below_step hBase hW; (try dsimp only at hW); go_simp <;> with_reducible rfl); simp only [List.getElem_toArray, List.getElem_cons_zero, List.getElem_cons_succ, Act.put, List.setIfInBounds_toArray, List.set_cons_zero, List.set_cons_succ])
                iterate 1 (refine plan_read rfl (by rfl) (v := ?_) ?_ ?_; rotate_left 1; (intro W hW; have hW0 := below_step hBase hW; (try dsimp only at hW); go_simp <;> with_reducible rfl); simp only [List.getElem_toArray, List.getElem_cons_zero, List.getElem_cons_succ, Act.put, List.setIfInBounds_toArray, List.set_cons_zero, List.set_cons_succ])
                refine plan_done ?_
                have HB4 := Lib.hid (below_step HB3.out hBase)
                clear c1 c1w d0 d2
                go_wp2_with fail
                go_ret
                exact ⟨by rw [HPF.out]; rfl, HB4.out⟩
          · obtain ⟨a, ha⟩ : ∃ a, a = k - 1 := ⟨_, rfl⟩
            have hw : IntKind.i64.wrap ((k : Int) - 1) = (a : Int) := by rw [IntKind.wrap_i64]; omega
            have hka : a < es.length := by omega
            obtain ⟨b', o', e', hb', _, q0, _, _⟩ := hre2.one hka
            injection e' with e'
            injection e' with e1 e2 _
            subst e1 e2
            replace q0 := (hBr.cell (p := ⟨b, o + a * 3, none⟩) hb).trans q0
            have f0 : ∀ W, Below wr.heap.size wr W → W.cell? ⟨b, o + a * 3, none⟩ = some (vNG es[a].t) := fun W hW => (hW.cell (p := ⟨b, o + a * 3, none⟩) (World.block_lt_of_cell? wr _ q0)).trans q0
            unfold vNG at f0
            have HS2 : Hid (seedOK es[k].con → es[a].t < es[k].t → ∀ j (h : j < es.length), j < k + 1 → seedOK es[j].con ∧ (0 < j → (es[j - 1]'(by omega)).t < es[j].t)) := fun h h1 => HS.out ⟨h, fun h0 => by subst ha; exact h1⟩
            have HE2 : Hid (¬ seedOK es[k].con → okE (conE es) = false) := fun h => HE.out (fun h2 => h h2.1)
            have HE3 : Hid (¬ es[a].t < es[k].t → okE (conE es) = false) := fun h => HE.out (fun h2 => h (by subst ha; exact h2.2 (by omega)))
            rw [HSK.out] at HS2 HE2
            have kk : (0 : Int) < (k : Int) := by omega
            have kd : decide ((0 : Int) < (k : Int)) = true := decide_eq_true kk
            have kn : 0 < k := by omega
            have a0 : (0 : Int) ≤ (a : Int) := by omega
            have a1 : (a : Int) < (n : Int) := by omega
            generalize es[k].s.length = q at *
            generalize es[k].t = tk at *
            generalize es[a].t = ta at *
            clear hs HS HE p0 p2 q0 HSK ha
            by_cases hord : ta < tk
            · have hor : ¬ (tk : Int) ≤ (ta : Int) := by omega
              have hon : decide (tk ≤ ta) = false := decide_eq_false (by omega)
              replace HS2 := Lib.hid (fun h => HS2.out h hord)
              by_cases hq0 : q = 0
              · subst hq0
                have HPF : Hid (P = false) := HPO.out.trans (HE2.out (by omega))
                go_wp2_with fail
                have hBase := (Below.refl wr.heap.size wr).drew
                refine wp_region_plan (.step 0 false (.step 1 false (.step 2 false (.step 3 false (.step 4 false (.step 5 false (.step 6 false (.step 7 false (.step 8 false (.step 9 false (.step 10 false (.step 11 false (.step 12 false (.step 13 false (.step 14 false (.step 15 false (.step 16 false (.step 17 false (.step 18 false (.step 19 false (.step 20 false (.step 21 false (.step 22 false (.step 23 false (.step 24 false (.step 25 false (.step 26 false (.step 27 false (.step 28 false (.step 29 false (.step 30 false (.step 31 false (.step 32 false (.step 33 false (.step 34 false (.step 35 false (.step 36 false (.step 37 false (.nil))))))))))))))))))))))))))))))))))))))) (by kernel_rfl) (by kernel_rfl) (by rfl) (by kernel_rfl) ?_
                iterate 3 (refine plan_read rfl (by rfl) (v := ?_) ?_ ?_; rotate_left 1; (intro W hW; have hW0 := below_step hBase hW; (try dsimp only at hW); go_simp <;> with_reducible rfl); simp only [List.getElem_toArray, List.getElem_cons_zero, List.getElem_cons_succ, Act.put, List.setIfInBounds_toArray, List.set_cons_zero, List.set_cons_succ])
                iterate 14 (refine plan_read rfl (by rfl) (v := ?_) ?_ ?_; rotate_left 1; (intro W hW; have hW0 := below_step hBase hW; (try dsimp only at hW); go_simp <;> with_reducible rfl); simp only [List.getElem_toArray, List.getElem_cons_zero, List.getElem_cons_succ, Act.put, List.setIfInBounds_toArray, List.set_cons_zero, List.set_cons_succ])
                iterate 2 (refine plan_read rfl (by rfl) (v := ?_) ?_ ?_; rotate_left 1; (intro W hW; have hW0 := below_step hBase hW; (try dsimp only at hW); go_simp <;> with_reducible rfl); simp only [List.getElem_toArray, List.getElem_cons_zero, List.getElem_cons_succ, Act.put, List.setIfInBounds_toArray, List.set_cons_zero, List.set_cons_succ])
                iterate 8 (refine plan_read rfl (by rfl) (v := ?_) ?_ ?_; rotate_left 1; (intro W hW; have hW0 := below_step hBase hW; (try dsimp only at hW); go_simp <;> with_reducible rfl); simp only [List.getElem_toArray, List.getElem_cons_zero, List.getElem_cons_succ, Act.put, List.setIfInBounds_toArray, List.set_cons_zero, List.set_cons_succ])
                iterate 2 (refine plan_read rfl (by rfl) (v := ?_) ?_ ?_; rotate_left 1; (intro W hW; have hW0 := below_step hBase hW; (try dsimp only at hW); go_simp <;> with_reducible rfl); simp only [List.getElem_toArray, List.getElem_cons_zero, List.getElem_cons_succ, Act.put, List.setIfInBounds_toArray, List.set_cons_zero, List.set_cons_succ])
                iterate 8 (refine plan_skip rfl (by rfl) ?_; simp only [List.getElem_toArray, List.getElem_cons_zero, List.getElem_cons_succ, Act.put, List.setIfInBounds_toArray, List.set_cons_zero, List.set_cons_succ])
                iterate 1 (refine plan_read rfl (by rfl) (v := ?_) ?_ ?_; rotate_left 1; (intro W hW; have hW0 := below_step hBase hW; (try dsimp only at hW); go_simp <;> with_reducible rfl); simp only [List.getElem_toArray, List.getElem_cons_zero, List.getElem_cons_succ, Act.put, List.setIfInBounds_toArray, List.set_cons_zero, List.set_cons_succ])
                refine plan_done ?_
                have HB4 := Lib.hid (below_step HB3.out hBase)
                clear c1 c1w d0 d2 f0
                go_wp2_with fail
                go_ret
                exact ⟨by rw [HPF.out]; rfl, HB4.out⟩
              · have hqe : ((q : Int) == 0) = false := beq_eq_false_iff_ne.2 (by omega)
                by_cases hq32 : q ≤ 32
                · have HS3 := Lib.hid (HS2.out (by omega))
                  have hqg : ¬ (32 : Int) < (q : Int) := by omega
                  go_wp2_with fail
                  have hBase := (Below.refl wr.heap.size wr).drew
                  refine wp_region_plan (.step 0 false (.step 1 false (.step 2 false (.step 3 false (.step 4 false (.step 5 false (.step 6 false (.step 7 false (.step 8 false (.step 9 false (.step 10 false (.step 11 false (.step 12 false (.step 13 false (.step 14 false (.step 15 false (.step 16 false (.step 17 false (.step 18 false (.step 19 false (.step 20 false (.step 21 false (.step 22 false (.step 23 false (.step 24 false (.step 25 false (.step 26 false (.step 27 false (.step 28 false (.step 29 false (.step 30 false (.step 31 false (.step 32 false (.step 33 false (.step 34 false (.step 35 false (.step 36 false (.step 37 false (.nil))))))))))))))))))))))))))))))))))))))) (by kernel_rfl) (by kernel_rfl) (by rfl) (by kernel_rfl) ?_
                  iterate 3 (refine plan_read rfl (by rfl) (v := ?_) ?_ ?_; rotate_left 1; (intro W hW; have hW0 := below_step hBase hW; (try dsimp only at hW); go_simp <;> with_reducible rfl); simp only [List.getElem_toArray, List.getElem_cons_zero, List.getElem_cons_succ, Act.put, List.setIfInBounds_toArray, List.set_cons_zero, List.set_cons_succ])
                  iterate 14 (refine plan_read rfl (by rfl) (v := ?_) ?_ ?_; rotate_left 1; (intro W hW; have hW0 := below_step hBase hW; (try dsimp only at hW); go_simp <;> with_reducible rfl); simp only [List.getElem_toArray, List.getElem_cons_zero, List.getElem_cons_succ, Act.put, List.setIfInBounds_toArray, List.set_cons_zero, List.set_cons_succ])
                  iterate 2 (refine plan_read rfl (by rfl) (v := ?_) ?_ ?_; rotate_left 1; (intro W hW; have hW0 := below_step hBase hW; (try dsimp only at hW); go_simp <;> with_reducible rfl); simp only [List.getElem_toArray, List.getElem_cons_zero, List.getElem_cons_succ, Act.put, List.setIfInBounds_toArray, List.set_cons_zero, List.set_cons_succ])
                  iterate 8 (refine plan_read rfl (by rfl) (v := ?_) ?_ ?_; rotate_left 1; (intro W hW; have hW0 := below_step hBase hW; (try dsimp only at hW); go_simp <;> with_reducible rfl); simp only [List.getElem_toArray, List.getElem_cons_zero, List.getElem_cons_succ, Act.put, List.setIfInBounds_toArray, List.set_cons_zero, List.set_cons_succ])
                  iterate 2 (refine plan_read rfl (by rfl) (v := ?_) ?_ ?_; rotate_left 1; (intro W hW; have hW0 := below_step hBase hW; (try dsimp only at hW); go_simp <;> with_reducible rfl); simp only [List.getElem_toArray, List.getElem_cons_zero, List.getElem_cons_succ, Act.put, List.setIfInBounds_toArray, List.set_cons_zero, List.set_cons_succ])
                  iterate 8 (refine plan_read rfl (by rfl) (v := ?_) ?_ ?_; rotate_left 1; (intro W hW; have hW0 := below_step hBase hW; (try dsimp only at hW); go_simp <;> with_reducible rfl); simp only [List.getElem_toArray, List.getElem_cons_zero, List.getElem_cons_succ, Act.put, List.setIfInBounds_toArray, List.set_cons_zero, List.set_cons_succ])
                  iterate 1 (refine plan_read rfl (by rfl) (v := ?_) ?_ ?_; rotate_left 1; (intro W hW; have hW0 := below_step hBase hW; (try dsimp only at hW); go_simp <;> with_reducible rfl); simp only [List.getElem_toArray, List.getElem_cons_zero, List.getElem_cons_succ, Act.put, List.setIfInBounds_toArray, List.set_cons_zero, List.set_cons_succ])
                  refine plan_done ?_
                  have HB4 := Lib.hid (hBr.trans (hBase.mono hBr.size))
                  clear c1 c1w d0 d2 f0
                  go_wp2_with fail
                  go_roundw
                  case rel => exact ⟨⟨k + 1, by go_num, by omega, HS3.out⟩, HB4.out⟩
                  case measure => simp [intOf]; omega
                · have HPF : Hid (P = false) := HPO.out.trans (HE2.out (by omega))
                  have hqg : (32 : Int) < (q : Int) := by omega
                  go_wp2_with fail
                  have hBase := (Below.refl wr.heap.size wr).drew
                  refine wp_region_plan (.step 0 false (.step 1 false (.step 2 false (.step 3 false (.step 4 false (.step 5 false (.step 6 false (.step 7 false (.step 8 false (.step 9 false (.step 10 false (.step 11 false (.step 12 false (.step 13 false (.step 14 false (.step 15 false (.step 16 false (.step 17 false (.step 18 false (.step 19 false (.step 20 false (.step 21 false (.step 22 false (.step 23 false (.step 24 false (.step 25 false (.step 26 false (.step 27 false (.step 28 false (.step 29 false (.step 30 false (.step 31 false (.step 32 false (.step 33 false (.step 34 false (.step 35 false (.step 36 false (.step 37 false (.nil))))))))))))))))))))))))))))))))))))))) (by kernel_rfl) (by kernel_rfl) (by rfl) (by kernel_rfl) ?_
                  iterate 3 (refine plan_read rfl (by rfl) (v := ?_) ?_ ?_; rotate_left 1; (intro W hW; have hW0 := below_step hBase hW; (try dsimp only at hW); go_simp <;> with_reducible rfl); simp only [List.getElem_toArray, List.getElem_cons_zero, List.getElem_cons_succ, Act.put, List.setIfInBounds_toArray, List.set_cons_zero, List.set_cons_succ])
                  iterate 14 (refine plan_read rfl (by rfl) (v := ?_) ?_ ?_; rotate_left 1; (intro W hW; have hW0 := below_step hBase hW; (try dsimp only at hW); go_simp <;> with_reducible rfl); simp only [List.getElem_toArray, List.getElem_cons_zero, List.getElem_cons_succ, Act.put, List.setIfInBounds_toArray, List.set_cons_zero, List.set_cons_succ])
                  iterate 2 (refine plan_read rfl (by rfl) (v := ?_) ?_ ?_; rotate_left 1; (intro W hW; have hW0 := below_step hBase hW; (try dsimp only at hW); go_simp <;> with_reducible rfl); simp only [List.getElem_toArray, List.getElem_cons_zero, List.getElem_cons_succ, Act.put, List.setIfInBounds_toArray, List.set_cons_zero, List.set_cons_succ])
                  iterate 8 (refine plan_read rfl (by rfl) (v := ?_) ?_ ?_; rotate_left 1; (intro W hW; have hW0 := below_step hBase hW; (try dsimp only at hW); go_simp <;> with_reducible rfl); simp only [List.getElem_toArray, List.getElem_cons_zero, List.getElem_cons_succ, Act.put, List.setIfInBounds_toArray, List.set_cons_zero, List.set_cons_succ])
                  iterate 2 (refine plan_read rfl (by rfl) (v := ?_) ?_ ?_; rotate_left 1; (intro W hW; have hW0 := below_step hBase hW; (try dsimp only at hW); go_simp <;> with_reducible rfl); simp only [List.getElem_toArray, List.getElem_cons_zero, List.getElem_cons_succ, Act.put, List.setIfInBounds_toArray, List.set_cons_zero, List.set_cons_succ])
                  iterate 8 (refine plan_read rfl (by rfl) (v := ?_) ?_ ?_; rotate_left 1; (intro W hW; have hW0 := below_step hBase hW; (try dsimp only at hW); go_simp <;> with_reducible rfl); simp only [List.getElem_toArray, List.getElem_cons_zero, List.getElem_cons_succ, Act.put, List.setIfInBounds_toArray, List.set_cons_zero, List.set_cons_succ])
                  iterate 1 (refine plan_read rfl (by rfl) (v := ?_) ?_ ?_; rotate_left 1; (intro W hW; have hW0 := below_step hBase hW; (try dsimp only at hW); go_simp <;> with_reducible rfl); simp only [List.getElem_toArray, List.getElem_cons_zero, List.getElem_cons_succ, Act.put, List.setIfInBounds_toArray, List.set_cons_zero, List.set_cons_succ])
                  refine plan_done ?_
                  have HB4 := Lib.hid (below_step HB3.out hBase)
                  clear c1 c1w d0 d2 f0
                  go_wp2_with fail
                  go_ret
                  exact ⟨by rw [HPF.out]; rfl, HB4.out⟩
            · have hor : (tk : Int) ≤ (ta : Int) := by omega
              have hon : decide (tk ≤ ta) = true := decide_eq_true (by omega)
              have HPF : Hid (P = false) := HPO.out.trans (HE3.out hord)
              go_wp2_with fail
              have hBase := (Below.refl wr.heap.size wr).drew
              refine wp_region_plan (.step 0 false (.step 1 false (.step 2 false (.step 3 false (.step 4 false (.step 5 false (.step 6 false (.step 7 false (.step 8 false (.step 9 false (.step 10 false (.step 11 false (.step 12 false (.step 13 false (.step 14 false (.step 15 false (.step 16 false (.step 17 false (.step 18 false (.step 19 false (.step 20 false (.step 21 false (.step 22 false (.step 23 false (.step 24 false (.step 25 false (.step 26 false (.step 27 false (.step 28 false (.step 29 false (.step 30 false (.step 31 false (.step 32 false (.step 33 false (.step 34 false (.step 35 false (.step 36 false (.step 37 false (.nil))))))))))))))))))))))))))))))))))))))) (by kernel_rfl) (by kernel_rfl) (by rfl) (by kernel_rfl) ?_
              iterate 3 (refine plan_read rfl (by rfl) (v := ?_) ?_ ?_; rotate_left 1; (intro W hW; have hW0 := below_step hBase hW; (try dsimp only at hW); go_simp <;> with_reducible rfl); simp only [List.getElem_toArray, List.getElem_cons_zero, List.getElem_cons_succ, Act.put, List.setIfInBounds_toArray, List.set_cons_zero, List.set_cons_succ])
              iterate 14 (refine plan_read rfl (by rfl) (v := ?_) ?_ ?_; rotate_left 1; (intro W hW; have hW0 := below_step hBase hW; (try dsimp only at hW); go_simp <;> with_reducible rfl); simp only [List.getElem_toArray, List.getElem_cons_zero, List.getElem_cons_succ, Act.put, List.setIfInBounds_toArray, List.set_cons_zero, List.set_cons_succ])
              iterate 2 (refine plan_read rfl (by rfl) (v := ?_) ?_ ?_; rotate_left 1; (intro W hW; have hW0 := below_step hBase hW; (try dsimp only at hW); go_simp <;> with_reducible rfl); simp only [List.getElem_toArray, List.getElem_cons_zero, List.getElem_cons_succ, Act.put, List.setIfInBounds_toArray, List.set_cons_zero, List.set_cons_succ])
              iterate 8 (refine plan_skip rfl (by rfl) ?_; simp only [List.getElem_toArray, List.getElem_cons_zero, List.getElem_cons_succ, Act.put, List.setIfInBounds_toArray, List.set_cons_zero, List.set_cons_succ])
              iterate 2 (refine plan_read rfl (by rfl) (v := ?_) ?_ ?_; rotate_left 1; (intro W hW; have hW0 := below_step hBase hW; (try dsimp only at hW); go_simp <;> with_reducible rfl); simp only [List.getElem_toArray, List.getElem_cons_zero, List.getElem_cons_succ, Act.put, List.setIfInBounds_toArray, List.set_cons_zero, List.set_cons_succ])
              iterate 8 (refine plan_skip rfl (by rfl) ?_; simp only [List.getElem_toArray, List.getElem_cons_zero, List.getElem_cons_succ, Act.put, List.setIfInBounds_toArray, List.set_cons_zero, List.set_cons_succ])
              iterate 1 (refine plan_read rfl (by rfl) (v := ?_) ?_ ?_; rotate_left 1; (intro W hW; have hW0 := below_step hBase hW; (try dsimp only at hW); go_simp <;> with_reducible rfl); simp only [List.getElem_toArray, List.getElem_cons_zero, List.getElem_cons_succ, Act.put, List.setIfInBounds_toArray, List.set_cons_zero, List.set_cons_succ])
              refine plan_done ?_
              have HB4 := Lib.hid (below_step HB3.out hBase)
              clear c1 c1w d0 d2 f0
              go_wp2_with fail
              go_ret
              exact ⟨by rw [HPF.out]; rfl, HB4.out⟩
        · have HPT : Hid (P = true) := HPO.out.trans ((okE_at _).2 (fun j hj => by
            rw [conE_length] at hj
            have h1 := hs j hj (by have := HN.out; omega)
            rw [conE_get es j hj]
            refine ⟨h1.1, fun h0 => ?_⟩
            rw [conE_get es (j - 1) (by omega)]
            exact h1.2 h0))
          have c1 : wr.cell? ⟨w.heap.size, 1, none⟩ = some (.slice eA n ec) := hRr.cell rfl
          have hkn : ¬ (k : Int) < (n : Int) := by omega
          clear hs
          go_wp2_with fail
          go_ret
          exact ⟨by rw [HPT.out]; rfl, HB3.out⟩
  · have n64 : (64 : Int) < (n : Int) := by omega
    have HPF : Hid (P = false) := by unfold Hid; rw [← HP.out, decide_eq_false h64]; rfl
    have c1 : w1.cell? ⟨w.heap.size, 1, none⟩ = some (.slice eA n ec) := hR.cell rfl
    go_wp2_with fail
    go_ret
    exact ⟨by rw [HPF.out]; rfl, hB⟩
end Go.Proofs.YtmljhkdojopljaaGreatDoor
/-
  What the program's Right of layer 16 answers (landed code). No conditions but those typed.
-/
namespace Go.Proofs.YtmljhkdojopljaaGreatDoor
set_option maxRecDepth 100000
open Go.RowKit
set_option linter.unusedSimpArgs false
set_option linter.unusedVariables false

theorem inW_below (lo hi : Nat) (n : Int) (g1 g2 : Nat) (w : World) (c1 : w.cell? ⟨g1, 0, none⟩ = some (.int .i64 (lo : Int))) (c2 : w.cell? ⟨g2, 0, none⟩ = some (.int .i64 (hi : Int))) :
    Calls Tryz.prog 64 #[.int .i64 n, .pointer (some ⟨g1, 0, none⟩), .pointer (some ⟨g2, 0, none⟩)] w fun e w' => e = .returned (.bool (decide ((lo : Int) ≤ n ∧ n ≤ (hi : Int)))) ∧ Below w.heap.size w w' :=
  (inW_any lo hi n g1 g2 w c1 c2).mono fun e w' h => ⟨h.1, h.2 ▸ Below.refl _ _⟩
set_option maxHeartbeats 4000000 in
theorem rightB_any (v : Nat) (es : List ED) (gs : List Gn) (n ec m gc : Nat) (eA gA : Option Addr) (w : World) (HN : Hid (es.length = n)) (HM : Hid (gs.length = m)) (hre : RdE w eA es) (hrg : RdG w gA gs) (HF : Hid (fitG gs)) (hn : n ≤ 1000000000) (hm : m ≤ 1000000000) (hml : ∀ x ∈ es, x.s.length ≤ 9223372036854775807) :
    Calls Tryz.prog 16 #[aggB v eA n ec gA m gc] w fun e w' => e = .returned (.bool (rightB (conE es) gs)) ∧ Below w.heap.size w w' := by
  obtain ⟨hR, hB⟩ := box_three w 26 (.int .u64 (v : Int)) (.slice eA n ec) (.slice gA m gc)
  obtain ⟨P, hP⟩ : ∃ P, rightB (conE es) gs = P := ⟨_, rfl⟩
  rw [hP]
  unfold rightB at hP
  rw [conE_length, HN.out] at hP
  have HML := Lib.hid hml
  obtain ⟨G, hG⟩ : ∃ G, rightG gs = G := ⟨_, rfl⟩
  rw [hG] at hP
  have HP := Lib.hid hP
  have HRR := Lib.hid (fun W hW => right15_any gs m gc gA W HM (hrg.keep hW) HF hm)
  rw [hG] at HRR
  clear hP hml hG
  unfold aggB
  go_enter Tryz.func16, Tryz.ntmps16
  go_upto_region 1 with fail
  generalize (w.alloc (.cells #[.int .u64 (v : Int), .slice eA n ec, .slice gA m gc] 26)) = w1 at hR hB ⊢
  go_wp2_with fail
  refine (counts_any w1).mono ?_
  rintro e w2 ⟨vE, vS, rfl, hWE, hWS, hb⟩
  replace hR := hR.later hb
  replace hB := below_step hB hb
  clear hb
  go_upto_region 2 with fail
  have c1 : w2.cell? ⟨w.heap.size, 1, none⟩ = some (.slice eA n ec) := hR.cell rfl
  have c2 : w2.cell? ⟨w.heap.size, 2, none⟩ = some (.slice gA m gc) := hR.cell rfl
  obtain ⟨g1, g2, rfl, d1, d2, l1, l2⟩ := hWE
  have hin := inW_any 0 64 (n : Int) g1 g2 w2 d1 d2
  by_cases h64 : n ≤ 64
  · have hd : Hid (decide (((0 : Nat) : Int) ≤ (n : Int) ∧ (n : Int) ≤ ((64 : Nat) : Int)) = true) := decide_eq_true (by omega)
    rw [hd.out] at hin
    go_wp2_with fail
    refine hin.mono ?_
    rintro e w3 ⟨rfl, rfl⟩
    go_wp2_with fail
    refine (HRR.out _ hB).mono ?_
    rintro e w4 ⟨rfl, hb⟩
    have HB2 := Lib.hid (below_step hB hb)
    have hR2 := hR.later hb
    have hre2 := hre.keep HB2.out
    cases G with
    | false =>
      have HPF : Hid (P = false) := by unfold Hid; rw [← HP.out]; simp
      clear c1 c2 hb hR2 hre2
      go_wp2_with fail
      go_ret
      exact ⟨by rw [HPF.out]; rfl, HB2.out⟩
    | true =>
      have HPO : Hid (P = okE (conE es)) := by unfold Hid; rw [← HP.out, decide_eq_true h64, Bool.true_and, Bool.true_and]
      have hWS2 := hWS.below hb (Nat.le_refl _)
      clear c1 c2 d1 d2 hb hB hR hre hrg hWS hin
      have k1 : w4.cell? ⟨w.heap.size, 1, none⟩ = some (.slice eA n ec) := hR2.cell rfl
      go_upto_region 5 with fail
      obtain ⟨q1, q2, rfl, d1, d2, l1, l2⟩ := hWS2
      have hl1 : q1 < w4.heap.size := World.block_lt_of_cell? w4 _ d1
      have hl2 : q2 < w4.heap.size := World.block_lt_of_cell? w4 _ d2
      clear k1
      go_loopw [5, 6, 26] (fun _ _ i wr => (∃ k : Nat, i = .int .i64 (k : Int) ∧ k ≤ n ∧ ∀ j (h : j < es.length), j < k → seedOK es[j].con ∧ (0 < j → (es[j - 1]'(by omega)).t < es[j].t)) ∧ Below w4.heap.size w4 wr) (fun _ _ i _ => n - (intOf i).toNat)
      case atStart => exact ⟨⟨0, rfl, by omega, fun j _ hj => by omega⟩, Below.refl _ _⟩
      case round =>
        obtain ⟨⟨k, rfl, hk, hs⟩, hBr⟩ := hrel
        have hRr := hR2.later hBr
        have HB3 := Lib.hid (below_step HB2.out hBr)
        by_cases hlt : k < n
        · have hkl : k < es.length := by rw [HN.out]; exact hlt
          obtain ⟨b, o, rfl, hb, hrng, p0, _, _⟩ := hre2.one hkl
          have hrngW : wr.rangeAt b (o + k * 3) es[k].cells := fun j u hu => (hBr.cell (p := ⟨b, o + k * 3 + j, none⟩) hb).trans (hrng j u hu)
          have HS : Hid (seedOK es[k].con ∧ (0 < k → (es[k - 1]'(by omega)).t < es[k].t) → ∀ j (h : j < es.length), j < k + 1 → seedOK es[j].con ∧ (0 < j → (es[j - 1]'(by omega)).t < es[j].t)) := fun h j hj hjk => by
            by_cases e : j = k
            · subst e; exact h
            · exact hs j hj (by omega)
          have HE : Hid (¬ (seedOK es[k].con ∧ (0 < k → (es[k - 1]'(by omega)).t < es[k].t)) → okE (conE es) = false) := fun h => by
            rw [Bool.eq_false_iff]
            intro hok
            have h1 := (okE_at _).1 hok k (by rw [conE_length]; exact hkl)
            rw [conE_get es k hkl] at h1
            refine h ⟨h1.1, fun h0 => ?_⟩
            have h2 := h1.2 h0
            rw [conE_get es (k - 1) (by omega)] at h2
            exact h2
          have hxl := HML.out _ (List.getElem_mem hkl)
          have i0 : (0 : Int) ≤ (k : Int) := by omega
          have i1 : (k : Int) < (n : Int) := by omega
          have hlr := hBr.size
          have hRn : Row (wr.alloc (.cells #[.int .u64 0, .int .u64 0, .slice none 0 0] 35)) wr.heap.size 35 [.int .u64 0, .int .u64 0, .slice none 0 0] := Row.new wr _ _ _ rfl
          have hRe := hRn.setRow es[k].cells
          have hb6 : Below wr.heap.size wr ((wr.alloc (.cells #[.int .u64 0, .int .u64 0, .slice none 0 0] 35)).setRow wr.heap.size es[k].cells.toArray) := below_setRow (below_new (Below.refl _ _) _) (Nat.le_refl _) _
          have hC3 : es[k].cells = [.int .u64 (es[k].t : Int), .int .u64 (es[k].e : Int), .slice es[k].A es[k].s.length es[k].c] := rfl
          have HSK : Hid (seedOK es[k].con ↔ 1 ≤ es[k].s.length ∧ es[k].s.length ≤ 32) := Iff.rfl
          rw [hC3] at hrngW hRe hb6
          clear hC3 p0 hrng
          obtain ⟨a, ha⟩ : ∃ a, Hid (a = k - 1) := ⟨_, Lib.hid rfl⟩
          have hka : a < es.length := by have := ha.out; omega
          have H0 : Hid (0 < k → wr.cell? ⟨b, o + a * 3, none⟩ = some (.int .u64 (es[a].t : Int)) ∧ (es[a].t < es[k].t → (0 < k → (es[k - 1]'(by omega)).t < es[k].t)) ∧ (¬ es[a].t < es[k].t → ¬ (0 < k → (es[k - 1]'(by omega)).t < es[k].t))) := fun h0 => by
            obtain ⟨b', o', e', hb', _, q0, _, _⟩ := hre2.one hka
            injection e' with e'
            injection e' with e1 e2 _
            subst e1 e2
            refine ⟨(hBr.cell (p := ⟨b, o + a * 3, none⟩) hb).trans q0, fun h _ => by have e := ha.out; subst e; exact h, fun h h2 => h (by have e := ha.out; subst e; exact h2 h0)⟩
          generalize es[k].s.length = q at *
          generalize es[k].t = tk at *
          generalize es[a].t = ta at *
          generalize es[k].e = te at *
          generalize es[k].A = tA at *
          generalize es[k].c = tc at *
          go_upto_region 7 with (first
            | (refine wpList_load_mid rfl 35 (.tmp 29) rfl b (o + k * 3) rfl [.int .u64 (tk : Int), .int .u64 (te : Int), .slice tA q tc] _ hrngW Tryz.underlying35 rfl (by exact size_entry) ?_)
            | (refine wpList_store_row rfl 35 (.tmp 6) (.tmp 30) rfl wr.heap.size rfl [.int .u64 (tk : Int), .int .u64 (te : Int), .slice tA q tc] rfl _ _ hRn (by exact size_entry) rfl (one_three _ _ _ rfl rfl rfl) ?_))
          have hRr6 := hRr.later hb6
          have HB6 := Lib.hid (hBr.trans (hb6.mono hlr))
          have HB7 := Lib.hid (below_step HB2.out HB6.out)
          have hcA : ∀ p, p.block < wr.heap.size → ((wr.alloc (.cells #[.int .u64 0, .int .u64 0, .slice none 0 0] 35)).setRow wr.heap.size [.int .u64 (tk : Int), .int .u64 (te : Int), .slice tA q tc].toArray).cell? p = wr.cell? p := fun p hp => hb6.cell hp
          generalize (wr.alloc (.cells #[.int .u64 0, .int .u64 0, .slice none 0 0] 35)).setRow wr.heap.size [.int .u64 (tk : Int), .int .u64 (te : Int), .slice tA q tc].toArray = w6 at hRe hRr6 HB6 HB7 hcA ⊢
          have hbw : b < wr.heap.size := by omega
          have hl1w : q1 < wr.heap.size := by omega
          have hl2w : q2 < wr.heap.size := by omega
          have hs6 := HB6.out.size
          have e0 : ∀ W, Below w6.heap.size w6 W → W.cell? ⟨wr.heap.size, 0, none⟩ = some (.int .u64 (tk : Int)) := fun W hW => (hRe.later hW).cell rfl
          have e2 : ∀ W, Below w6.heap.size w6 W → W.cell? ⟨wr.heap.size, 2, none⟩ = some (.slice tA q tc) := fun W hW => (hRe.later hW).cell rfl
          have c1 : ∀ W, Below w6.heap.size w6 W → W.cell? ⟨w.heap.size, 1, none⟩ = some (.slice (some ⟨b, o, none⟩) n ec) := fun W hW => (hRr6.later hW).cell rfl
          have hl61 : q1 < w6.heap.size := by omega
          have hl62 : q2 < w6.heap.size := by omega
          have d1w : ∀ W, Below w6.heap.size w6 W → W.cell? ⟨q1, 0, none⟩ = some (.int .i64 ((1 : Nat) : Int)) := fun W hW => ((hW.cell (p := ⟨q1, 0, none⟩) hl61).trans (hcA _ hl1w)).trans ((hBr.cell (p := ⟨q1, 0, none⟩) hl1).trans d1)
          have d2w : ∀ W, Below w6.heap.size w6 W → W.cell? ⟨q2, 0, none⟩ = some (.int .i64 ((32 : Nat) : Int)) := fun W hW => ((hW.cell (p := ⟨q2, 0, none⟩) hl62).trans (hcA _ hl2w)).trans ((hBr.cell (p := ⟨q2, 0, none⟩) hl2).trans d2)
          have f0 : 0 < k → ∀ W, Below w6.heap.size w6 W → W.cell? ⟨b, o + a * 3, none⟩ = some (.int .u64 (ta : Int)) := fun h0 W hW => ((hW.cell (p := ⟨b, o + a * 3, none⟩) (show b < w6.heap.size by omega)).trans (hcA _ hbw)).trans (H0.out h0).1
          clear hs hRe hRr hRr6 hcA hRn hb6 hrngW d1 d2
          have hBase := (Below.refl w6.heap.size w6).drew
          by_cases hq : 1 ≤ q ∧ q ≤ 32
          · have hd : Hid (decide (((1 : Nat) : Int) ≤ (q : Int) ∧ (q : Int) ≤ ((32 : Nat) : Int)) = true) := decide_eq_true (by omega)
            have HSQ := Lib.hid (HSK.out.2 hq)
            clear hq
            by_cases hk0 : 0 < k
            · have f0w := f0 hk0
              obtain ⟨_, h4, h5⟩ := H0.out hk0
              have H4 := Lib.hid h4
              have H5 := Lib.hid h5
              clear f0 H0 h4 h5
              have kk : (0 : Int) < (k : Int) := by omega
              have kd : decide ((0 : Int) < (k : Int)) = true := decide_eq_true kk
              have hw : IntKind.i64.wrap ((k : Int) - 1) = (a : Int) := by have := ha.out; rw [IntKind.wrap_i64]; omega
              have a0 : (0 : Int) ≤ (a : Int) := by omega
              have a1 : (a : Int) < (n : Int) := by have := ha.out; omega
              by_cases hord : ta < tk
              · have hor : ¬ (tk : Int) ≤ (ta : Int) := by omega
                have hon : decide (tk ≤ ta) = false := decide_eq_false (by omega)
                have HS3 := Lib.hid (HS.out ⟨HSQ.out, H4.out hord⟩)
                clear HS HE H4 H5
                refine wp_region_plan (.step 0 false (.step 1 false (.step 2 false (.step 3 false (.step 4 true (.step 5 false (.step 6 false (.step 7 false (.step 8 false (.step 9 false (.step 10 false (.step 11 false (.step 12 false (.step 13 false (.step 14 false (.step 15 false (.step 16 false (.step 17 false (.step 18 false (.step 19 false (.step 20 false (.step 21 false (.nil))))))))))))))))))))))) (by kernel_rfl) (by kernel_rfl) (by rfl) (by kernel_rfl) ?_
                iterate 4 (refine plan_read rfl (by rfl) (v := ?_) ?_ ?_; rotate_left 1; (intro W hW; have hW0 := below_step hBase hW; (try dsimp only at hW); go_simp <;> with_reducible rfl); simp only [List.getElem_toArray, List.getElem_cons_zero, List.getElem_cons_succ, Act.put, List.setIfInBounds_toArray, List.set_cons_zero, List.set_cons_succ])
                (refine plan_make rfl (by rfl) (fun K hK => ?_); go_simp; (refine (inW_below 1 32 (q : Int) q1 q2 _ (d1w _ hBase) (d2w _ hBase)).mono ?_; rw [hd.out]; rintro e' w7 ⟨rfl, hbx⟩); refine hK.out _ _ hbx ?_; clear hK K; replace hBase := below_step hBase hbx)
                iterate 2 (refine plan_read rfl (by rfl) (v := ?_) ?_ ?_; rotate_left 1; (intro W hW; have hW0 := below_step hBase hW; (try dsimp only at hW); go_simp <;> with_reducible rfl); simp only [List.getElem_toArray, List.getElem_cons_zero, List.getElem_cons_succ, Act.put, List.setIfInBounds_toArray, List.set_cons_zero, List.set_cons_succ])
                iterate 3 (refine plan_read rfl (by rfl) (v := ?_) ?_ ?_; rotate_left 1; (intro W hW; have hW0 := below_step hBase hW; (try dsimp only at hW); go_simp <;> with_reducible rfl); simp only [List.getElem_toArray, List.getElem_cons_zero, List.getElem_cons_succ, Act.put, List.setIfInBounds_toArray, List.set_cons_zero, List.set_cons_succ])
                iterate 10 (refine plan_read rfl (by rfl) (v := ?_) ?_ ?_; rotate_left 1; (intro W hW; have hW0 := below_step hBase hW; (try dsimp only at hW); go_simp <;> with_reducible rfl); simp only [List.getElem_toArray, List.getElem_cons_zero, List.getElem_cons_succ, Act.put, List.setIfInBounds_toArray, List.set_cons_zero, List.set_cons_succ])
                iterate 2 (refine plan_read rfl (by rfl) (v := ?_) ?_ ?_; rotate_left 1; (intro W hW; have hW0 := below_step hBase hW; (try dsimp only at hW); go_simp <;> with_reducible rfl); simp only [List.getElem_toArray, List.getElem_cons_zero, List.getElem_cons_succ, Act.put, List.setIfInBounds_toArray, List.set_cons_zero, List.set_cons_succ])
                refine plan_done ?_
                have HB8 := Lib.hid (HB6.out.trans (hBase.mono hs6))
                clear e0 e2 c1 d1w d2w f0w
                go_wp2_with fail
                go_roundw
                case rel => exact ⟨⟨k + 1, by go_num, by omega, HS3.out⟩, HB8.out⟩
                case measure => simp [intOf]; omega
              · have hor : (tk : Int) ≤ (ta : Int) := by omega
                have hon : decide (tk ≤ ta) = true := decide_eq_true (by omega)
                have HPF : Hid (P = false) := HPO.out.trans (HE.out (fun h => H5.out hord h.2))
                clear HS HE H4 H5
                refine wp_region_plan (.step 0 false (.step 1 false (.step 2 false (.step 3 false (.step 4 true (.step 5 false (.step 6 false (.step 7 false (.step 8 false (.step 9 false (.step 10 false (.step 11 false (.step 12 false (.step 13 false (.step 14 false (.step 15 false (.step 16 false (.step 17 false (.step 18 false (.step 19 false (.step 20 false (.step 21 false (.nil))))))))))))))))))))))) (by kernel_rfl) (by kernel_rfl) (by rfl) (by kernel_rfl) ?_
                iterate 4 (refine plan_read rfl (by rfl) (v := ?_) ?_ ?_; rotate_left 1; (intro W hW; have hW0 := below_step hBase hW; (try dsimp only at hW); go_simp <;> with_reducible rfl); simp only [List.getElem_toArray, List.getElem_cons_zero, List.getElem_cons_succ, Act.put, List.setIfInBounds_toArray, List.set_cons_zero, List.set_cons_succ])
                (refine plan_make rfl (by rfl) (fun K hK => ?_); go_simp; (refine (inW_below 1 32 (q : Int) q1 q2 _ (d1w _ hBase) (d2w _ hBase)).mono ?_; rw [hd.out]; rintro e' w7 ⟨rfl, hbx⟩); refine hK.out _ _ hbx ?_; clear hK K; replace hBase := below_step hBase hbx)
                iterate 2 (refine plan_read rfl (by rfl) (v := ?_) ?_ ?_; rotate_left 1; (intro W hW; have hW0 := below_step hBase hW; (try dsimp only at hW); go_simp <;> with_reducible rfl); simp only [List.getElem_toArray, List.getElem_cons_zero, List.getElem_cons_succ, Act.put, List.setIfInBounds_toArray, List.set_cons_zero, List.set_cons_succ])
                iterate 3 (refine plan_read rfl (by rfl) (v := ?_) ?_ ?_; rotate_left 1; (intro W hW; have hW0 := below_step hBase hW; (try dsimp only at hW); go_simp <;> with_reducible rfl); simp only [List.getElem_toArray, List.getElem_cons_zero, List.getElem_cons_succ, Act.put, List.setIfInBounds_toArray, List.set_cons_zero, List.set_cons_succ])
                iterate 10 (refine plan_read rfl (by rfl) (v := ?_) ?_ ?_; rotate_left 1; (intro W hW; have hW0 := below_step hBase hW; (try dsimp only at hW); go_simp <;> with_reducible rfl); simp only [List.getElem_toArray, List.getElem_cons_zero, List.getElem_cons_succ, Act.put, List.setIfInBounds_toArray, List.set_cons_zero, List.set_cons_succ])
                iterate 2 (refine plan_read rfl (by rfl) (v := ?_) ?_ ?_; rotate_left 1; (intro W hW; have hW0 := below_step hBase hW; (try dsimp only at hW); go_simp <;> with_reducible rfl); simp only [List.getElem_toArray, List.getElem_cons_zero, List.getElem_cons_succ, Act.put, List.setIfInBounds_toArray, List.set_cons_zero, List.set_cons_succ])
                refine plan_done ?_
                have HB8 := Lib.hid (below_step HB7.out hBase)
                clear e0 e2 c1 d1w d2w f0w
                go_wp2_with fail
                go_ret
                exact ⟨by rw [HPF.out]; rfl, HB8.out⟩
            · have kk : ¬ (0 : Int) < (k : Int) := by omega
              have kd : decide ((0 : Int) < (k : Int)) = false := decide_eq_false kk
              have HS3 := Lib.hid (HS.out ⟨HSQ.out, fun h => absurd h hk0⟩)
              clear HS HE H0 f0
              refine wp_region_plan (.step 0 false (.step 1 false (.step 2 false (.step 3 false (.step 4 true (.step 5 false (.step 6 false (.step 7 false (.step 8 false (.step 9 false (.step 10 false (.step 11 false (.step 12 false (.step 13 false (.step 14 false (.step 15 false (.step 16 false (.step 17 false (.step 18 false (.step 19 false (.step 20 false (.step 21 false (.nil))))))))))))))))))))))) (by kernel_rfl) (by kernel_rfl) (by rfl) (by kernel_rfl) ?_
              iterate 4 (refine plan_read rfl (by rfl) (v := ?_) ?_ ?_; rotate_left 1; (intro W hW; have hW0 := below_step hBase hW; (try dsimp only at hW); go_simp <;> with_reducible rfl); simp only [List.getElem_toArray, List.getElem_cons_zero, List.getElem_cons_succ, Act.put, List.setIfInBounds_toArray, List.set_cons_zero, List.set_cons_succ])
              (refine plan_make rfl (by rfl) (fun K hK => ?_); go_simp; (refine (inW_below 1 32 (q : Int) q1 q2 _ (d1w _ hBase) (d2w _ hBase)).mono ?_; rw [hd.out]; rintro e' w7 ⟨rfl, hbx⟩); refine hK.out _ _ hbx ?_; clear hK K; replace hBase := below_step hBase hbx)
              iterate 2 (refine plan_read rfl (by rfl) (v := ?_) ?_ ?_; rotate_left 1; (intro W hW; have hW0 := below_step hBase hW; (try dsimp only at hW); go_simp <;> with_reducible rfl); simp only [List.getElem_toArray, List.getElem_cons_zero, List.getElem_cons_succ, Act.put, List.setIfInBounds_toArray, List.set_cons_zero, List.set_cons_succ])
              iterate 3 (refine plan_read rfl (by rfl) (v := ?_) ?_ ?_; rotate_left 1; (intro W hW; have hW0 := below_step hBase hW; (try dsimp only at hW); go_simp <;> with_reducible rfl); simp only [List.getElem_toArray, List.getElem_cons_zero, List.getElem_cons_succ, Act.put, List.setIfInBounds_toArray, List.set_cons_zero, List.set_cons_succ])
              iterate 10 (refine plan_skip rfl (by rfl) ?_; simp only [List.getElem_toArray, List.getElem_cons_zero, List.getElem_cons_succ, Act.put, List.setIfInBounds_toArray, List.set_cons_zero, List.set_cons_succ])
              iterate 2 (refine plan_read rfl (by rfl) (v := ?_) ?_ ?_; rotate_left 1; (intro W hW; have hW0 := below_step hBase hW; (try dsimp only at hW); go_simp <;> with_reducible rfl); simp only [List.getElem_toArray, List.getElem_cons_zero, List.getElem_cons_succ, Act.put, List.setIfInBounds_toArray, List.set_cons_zero, List.set_cons_succ])
              refine plan_done ?_
              have HB8 := Lib.hid (HB6.out.trans (hBase.mono hs6))
              clear e0 e2 c1 d1w d2w
              go_wp2_with fail
              go_roundw
              case rel => exact ⟨⟨k + 1, by go_num, by omega, HS3.out⟩, HB8.out⟩
              case measure => simp [intOf]; omega
          · have hd : Hid (decide (((1 : Nat) : Int) ≤ (q : Int) ∧ (q : Int) ≤ ((32 : Nat) : Int)) = false) := decide_eq_false (by omega)
            have HPF : Hid (P = false) := HPO.out.trans (HE.out (fun h => hq (HSK.out.1 h.1)))
            clear HS HE H0 f0 hq
            refine wp_region_plan (.step 0 false (.step 1 false (.step 2 false (.step 3 false (.step 4 true (.step 5 false (.step 6 false (.step 7 false (.step 8 false (.step 9 false (.step 10 false (.step 11 false (.step 12 false (.step 13 false (.step 14 false (.step 15 false (.step 16 false (.step 17 false (.step 18 false (.step 19 false (.step 20 false (.step 21 false (.nil))))))))))))))))))))))) (by kernel_rfl) (by kernel_rfl) (by rfl) (by kernel_rfl) ?_
            iterate 4 (refine plan_read rfl (by rfl) (v := ?_) ?_ ?_; rotate_left 1; (intro W hW; have hW0 := below_step hBase hW; (try dsimp only at hW); go_simp <;> with_reducible rfl); simp only [List.getElem_toArray, List.getElem_cons_zero, List.getElem_cons_succ, Act.put, List.setIfInBounds_toArray, List.set_cons_zero, List.set_cons_succ])
            (refine plan_make rfl (by rfl) (fun K hK => ?_); go_simp; (refine (inW_below 1 32 (q : Int) q1 q2 _ (d1w _ hBase) (d2w _ hBase)).mono ?_; rw [hd.out]; rintro e' w7 ⟨rfl, hbx⟩); refine hK.out _ _ hbx ?_; clear hK K; replace hBase := below_step hBase hbx)
            iterate 2 (refine plan_read rfl (by rfl) (v := ?_) ?_ ?_; rotate_left 1; (intro W hW; have hW0 := below_step hBase hW; (try dsimp only at hW); go_simp <;> with_reducible rfl); simp only [List.getElem_toArray, List.getElem_cons_zero, List.getElem_cons_succ, Act.put, List.setIfInBounds_toArray, List.set_cons_zero, List.set_cons_succ])
            iterate 14 (refine plan_skip rfl (by rfl) ?_; simp only [List.getElem_toArray, List.getElem_cons_zero, List.getElem_cons_succ, Act.put, List.setIfInBounds_toArray, List.set_cons_zero, List.set_cons_succ])
            iterate 1 (refine plan_read rfl (by rfl) (v := ?_) ?_ ?_; rotate_left 1; (intro W hW; have hW0 := below_step hBase hW; (try dsimp only at hW); go_simp <;> with_reducible rfl); simp only [List.getElem_toArray, List.getElem_cons_zero, List.getElem_cons_succ, Act.put, List.setIfInBounds_toArray, List.set_cons_zero, List.set_cons_succ])
            refine plan_done ?_
            have HB8 := Lib.hid (below_step HB7.out hBase)
            clear e0 e2 c1 d1w d2w
            go_wp2_with fail
            go_ret
            exact ⟨by rw [HPF.out]; rfl, HB8.out⟩
        · have HPT : Hid (P = true) := HPO.out.trans ((okE_at _).2 (fun j hj => by
            rw [conE_length] at hj
            have h1 := hs j hj (by have := HN.out; omega)
            rw [conE_get es j hj]
            refine ⟨h1.1, fun h0 => ?_⟩
            rw [conE_get es (j - 1) (by omega)]
            exact h1.2 h0))
          have hkn : ¬ (k : Int) < (n : Int) := by omega
          clear hs
          go_wp2_with fail
          go_ret
          exact ⟨by rw [HPT.out]; rfl, HB3.out⟩
  · have hd : Hid (decide (((0 : Nat) : Int) ≤ (n : Int) ∧ (n : Int) ≤ ((64 : Nat) : Int)) = false) := decide_eq_false (by omega)
    have HPF : Hid (P = false) := by unfold Hid; rw [← HP.out, decide_eq_false h64]; rfl
    rw [hd.out] at hin
    go_wp2_with fail
    refine hin.mono ?_
    rintro e w3 ⟨rfl, rfl⟩
    go_wp2_with fail
    go_ret
    exact ⟨by rw [HPF.out]; rfl, hB⟩
end Go.Proofs.YtmljhkdojopljaaGreatDoor
/-
  Rows of entries of the call's own, whose seeds lie elsewhere; what is read of entries' bytes, step by step. No conditions but those typed.
-/
namespace Go.Proofs.YtmljhkdojopljaaGreatDoor
set_option maxRecDepth 100000
open Go.RowKit
set_option linter.unusedSimpArgs false
set_option linter.unusedVariables false

def apartD (row : Option Nat) (xs : List ED) : Prop := ∀ y ∈ xs, y.s ≠ [] → ∀ a, y.A = some a → row ≠ some a.block
def newD (B : Nat) (xs : List ED) : Prop := ∀ y ∈ xs, y.s ≠ [] → ∀ a, y.A = some a → B ≤ a.block
theorem Rd.lt_ofD {α : Type} {f : α → Value} {w : World} {A : Option Addr} {L : List α} (h : Rd f w A L) (hn : L ≠ []) {a : Addr} (ha : A = some a) : a.block < w.heap.size := by
  obtain ⟨b, o, e, hb, _⟩ := h.at (k := 0) (by cases L; exact absurd rfl hn; simp)
  rw [ha] at e
  injection e with e
  rw [e]
  exact hb
theorem Rd.grownD {α : Type} {f : α → Value} {w w' : World} {row : Option Nat} {A : Option Addr} {L : List α} (h : Rd f w A L) (hg : w.grownBy w' row) (hA : L ≠ [] → ∀ a, A = some a → row ≠ some a.block) : Rd f w' A L := by
  by_cases e : L = []
  · subst e
    exact Rd.nil
  · exact h.grown hg (hA e)
/-- A row of entries; their seeds lie in memory of the call's own, too, but elsewhere. -/
def OwnE (B : Nat) (t : TypeId) (xs : List ED) (v : Value) (w : World) : Prop := w.ownsRow B t 3 v xs.length (cellsE xs) ∧ okD w xs ∧ apartD v.ownBlock xs ∧ newD B xs
theorem OwnE.nil (B : Nat) (t : TypeId) (w : World) : OwnE B t [] (.slice none 0 0) w := ⟨World.ownsRow_nil _ _ _ _, okD.nil _, (fun y hy => by cases hy), (fun y hy => by cases hy)⟩
theorem OwnE.later {B : Nat} {t : TypeId} {xs : List ED} {v : Value} {w w' : World} (h : OwnE B t xs v w) (hb : Below w.heap.size w w') : OwnE B t xs v w' := ⟨ownsRowE_later h.1 hb, h.2.1.keep hb, h.2.2⟩
theorem OwnE.same {B : Nat} {t : TypeId} {xs : List ED} {v : Value} {w w' : World} (h : OwnE B t xs v w) (hh : ∀ b, B ≤ b → b < w.heap.size → w'.heap[b]? = w.heap[b]?) : OwnE B t xs v w' := by
  refine ⟨ownsRowE_same h.1 hh, fun y hy => ?_, h.2.2⟩
  obtain ⟨h1, h2⟩ := h.2.1 y hy
  refine ⟨h1, fun hn => ?_⟩
  obtain ⟨b, o, e, hc⟩ := h2 hn
  have hB := h.2.2.2 y hy hn _ e
  refine ⟨b, o, e, fun i hi => ?_⟩
  have hci := hc i hi
  exact (World.cell?_of_block (w := w) (a := ⟨b, o + i, none⟩) (hh b hB (World.block_lt_of_cell? w _ hci))).trans hci
theorem OwnE.more {B : Nat} {t : TypeId} {xs : List ED} {y : ED} {v v' : Value} {w w1 w2 w3 : World} (h : OwnE B t xs v w) (hb : Below w.heap.size w w1) (hy : y.ok w1) (hn : y.s ≠ [] → ∀ a, y.A = some a → w.heap.size ≤ a.block) (hBw : B ≤ w.heap.size) (hb2 : Below w1.heap.size w1 w2) (ho : w3.ownsRow B t 3 v' (xs.length + 1) (cellsE xs ++ y.cells)) (hg : w2.grownBy w3 v.ownBlock) (hv : v'.ownBlock = v.ownBlock ∨ v'.ownBlock = some w2.heap.size) : OwnE B t (xs ++ [y]) v' w3 := by
  have hB := below_step hb hb2
  have hok2 : okD w2 (xs ++ [y]) := (h.2.1.keep hB).app (fun z hz => by simp at hz; subst hz; exact hy.keep hb2)
  have hap : apartD v.ownBlock (xs ++ [y]) := fun z hz => by
    rcases List.mem_append.1 hz with hz | hz
    · exact h.2.2.1 z hz
    · simp at hz
      subst hz
      intro hs a ha e
      have h1 := hn hs a ha
      have h2 := (h.1.lt _ e).2
      omega
  refine ⟨by rw [cellsE_snoc, List.length_append]; exact ho, fun z hz => ?_, ?_, fun z hz => ?_⟩
  · obtain ⟨h1, h2⟩ := hok2 z hz
    exact ⟨h1, h2.grownD hg (hap z hz)⟩
  · rcases hv with hv | hv
    · rw [hv]; exact hap
    · rw [hv]
      intro z hz hs a ha e
      have h1 := (hok2 z hz).2.lt_ofD hs ha
      injection e with e
      omega
  · rcases List.mem_append.1 hz with hz | hz
    · exact h.2.2.2 z hz
    · simp at hz
      subst hz
      intro hs a ha
      exact Nat.le_trans hBw (hn hs a ha)
/-- As 'more', where a block of another kind has changed in between. -/
theorem OwnE.more2 {B : Nat} {t : TypeId} {xs : List ED} {y : ED} {v v' : Value} {w w1 w2 w3 : World} (h : OwnE B t xs v w) (h1 : OwnE B t xs v w1) (hy : y.ok w1) (hn : y.s ≠ [] → ∀ a, y.A = some a → w.heap.size ≤ a.block) (hBw : B ≤ w.heap.size) (hb2 : Below w1.heap.size w1 w2) (ho : w3.ownsRow B t 3 v' (xs.length + 1) (cellsE xs ++ y.cells)) (hg : w2.grownBy w3 v.ownBlock) (hv : v'.ownBlock = v.ownBlock ∨ v'.ownBlock = some w2.heap.size) : OwnE B t (xs ++ [y]) v' w3 := by
  have hok2 : okD w2 (xs ++ [y]) := (h1.2.1.keep hb2).app (fun z hz => by simp at hz; subst hz; exact hy.keep hb2)
  have hap : apartD v.ownBlock (xs ++ [y]) := fun z hz => by
    rcases List.mem_append.1 hz with hz | hz
    · exact h.2.2.1 z hz
    · simp at hz
      subst hz
      intro hs a ha e
      have h1 := hn hs a ha
      have h2 := (h.1.lt _ e).2
      omega
  refine ⟨by rw [cellsE_snoc, List.length_append]; exact ho, fun z hz => ?_, ?_, fun z hz => ?_⟩
  · obtain ⟨h1, h2⟩ := hok2 z hz
    exact ⟨h1, h2.grownD hg (hap z hz)⟩
  · rcases hv with hv | hv
    · rw [hv]; exact hap
    · rw [hv]
      intro z hz hs a ha e
      have h1 := (hok2 z hz).2.lt_ofD hs ha
      injection e with e
      omega
  · rcases List.mem_append.1 hz with hz | hz
    · exact h.2.2.2 z hz
    · simp at hz
      subst hz
      intro hs a ha
      exact Nat.le_trans hBw (hn hs a ha)
theorem OwnE.slice {B : Nat} {t : TypeId} {xs : List ED} {v : Value} {w : World} (h : OwnE B t xs v w) : ∃ A cap, v = .slice A xs.length cap ∧ xs.length ≤ cap ∧ RdE w A xs := by
  obtain ⟨A, c, rfl, hc⟩ := own_formE h.1
  exact ⟨A, c, rfl, hc, RdE.own h.1⟩
section
variable {P : Program}
theorem wp_append_own3 (w : World) {o : Oper} {a : Act} {K : Act → World → Prop} {Q : Exit → Act → World → Prop} (s x : Operand) (t : TypeId)
    (ho : o.op = .call { callee := .builtin .append, args := #[s, x], argTypes := #[t, t] })
    (base : Nat) (e : TypeId) (i : TypeInfo) (z : Value) (size bytes : Nat) (ht : P.underlying t = some (.slice e)) (hi : P.info? e = some i) (hz : i.zero = some z)
    (hsize : i.size = size) (hby : i.bytes = bytes) (hzs : z.cells.size = size) (hsp : 0 < size) (v : Value) (n : Nat) (xs : List Value) (hs : a.eval s = v) (hown : w.ownsRow base e size v n xs)
    (ad : Addr) (m c : Nat) (news : List Value) (hx : a.eval x = .slice (some ad) m c) (hl : news.length = m * size) (hnews : ∀ j u, news[j]? = some u → w.cell? (ad.add j) = some u) (h1 : ∀ u ∈ news, u.oneCell' = true)
    (h63 : n + m ≤ maxLen) (hbytes : (n + m) * bytes ≤ 140737488355328) (hbase : base ≤ w.heap.size)
    (h : ∀ v' w', w'.ownsRow base e size v' (n + m) (xs ++ news) → w.grownBy w' v.ownBlock → (v'.ownBlock = v.ownBlock ∨ v'.ownBlock = some w.heap.size) → K (a.put o.dst v') w') : o.wp P a w K Q := by
  obtain ⟨v', w', hr, h2, h3, _, h4⟩ := run_append_own_at (P := P) w base t o.type e i z size bytes ht hi hz hsize hby hzs hsp v n xs hown ad m c news hl hnews h1 h63 hbytes hbase
  unfold Oper.wp execOp
  simp only [ho, resolve, invoke, builtin, Sem.run_bind, Sem.run_pure, Result.andThen_ok, List.map_toArray, List.map_cons, List.map_nil, hs, hx, hr]
  exact h v' w' h2 h3 h4
end

/-! ### What is read of entries' bytes, step by step -/
def preE (C : List En) (R : List En × List UInt8 × Int) : List En × List UInt8 × Int := if R.2.2 = 0 then (C ++ R.1, R.2.1, 0) else ([], [], R.2.2)
theorem readEs_bad : ∀ (n : Nat) (b : List UInt8), (readEs n b).2.2 ≠ 0 → readEs n b = ([], [], (readEs n b).2.2)
  | 0, b, h => absurd rfl h
  | n + 1, b, h => by
    unfold readEs at h ⊢
    split at h
    · rename_i h1
      rw [if_pos h1]
    · rename_i h1
      rw [if_neg h1]
      split at h
      · rename_i h2
        rw [if_pos h2]
      · rename_i h2
        rw [if_neg h2]
        split at h
        · rename_i h3
          rw [if_pos h3]
        · rename_i h3
          rw [if_neg h3]
          split at h
          · exact absurd rfl h
          · rename_i h4
            rw [if_neg h4]
theorem preE_nil (n : Nat) (b : List UInt8) : preE [] (readEs n b) = readEs n b := by
  unfold preE
  split
  · rename_i h
    rw [← h]
    rfl
  · rename_i h
    exact (readEs_bad n b h).symm
theorem preE_pre (C : List En) (x : En) (R : List En × List UInt8 × Int) : preE C (preE [x] R) = preE (C ++ [x]) R := by
  unfold preE
  by_cases h : R.2.2 = 0
  · simp [h]
  · simp [h]
theorem readEs_none (C : List En) (b : List UInt8) : preE C (readEs 0 b) = (C, b, 0) := by simp [preE, readEs]
theorem readEs_s1 (C : List En) (n : Nat) (b : List UInt8) (h : b.length < 17) : preE C (readEs (n + 1) b) = ([], [], 2) := by
  unfold readEs
  rw [if_pos h]
  rfl
theorem readEs_s2 (C : List En) (n : Nat) (b : List UInt8) (h : ¬ b.length < 17) (h2 : (b.getD 16 0).toNat = 0 ∨ 32 < (b.getD 16 0).toNat) : preE C (readEs (n + 1) b) = ([], [], 3) := by
  unfold readEs
  rw [if_neg h, if_pos h2]
  rfl
theorem readEs_s3 (C : List En) (n : Nat) (b : List UInt8) (h : ¬ b.length < 17) (h2 : ¬ ((b.getD 16 0).toNat = 0 ∨ 32 < (b.getD 16 0).toNat)) (h3 : b.length < 17 + (b.getD 16 0).toNat) : preE C (readEs (n + 1) b) = ([], [], 2) := by
  unfold readEs
  rw [if_neg h, if_neg h2, if_pos h3]
  rfl
theorem readEs_s4 (C : List En) (n : Nat) (b : List UInt8) (h : ¬ b.length < 17) (h2 : ¬ ((b.getD 16 0).toNat = 0 ∨ 32 < (b.getD 16 0).toNat)) (h3 : ¬ b.length < 17 + (b.getD 16 0).toNat) : preE C (readEs (n + 1) b) = preE (C ++ [entE b]) (readEs n (b.drop (17 + (b.getD 16 0).toNat))) := by
  rw [← preE_pre]
  congr 1
  conv => lhs; unfold readEs
  rw [if_neg h, if_neg h2, if_neg h3]
  unfold preE
  split
  · rfl
  · rfl
end Go.Proofs.YtmljhkdojopljaaGreatDoor
/-
  A region that draws its order, several of whose operations make memory: each operation by itself, behind those that it waits for, keeps one condition; the orders are not told apart (no program is named here). Conditions: the condition holds at the beginning, and each operation keeps it.
-/
namespace Go.Proofs.YtmljhkdojopljaaGreatDoor
set_option maxRecDepth 100000
open Go.RowKit
set_option linter.unusedSimpArgs false
set_option linter.unusedVariables false

/-- The frame with these slots' values. -/
def puts (a : Act) : List Nat → (Nat → Value) → Act
  | [], _ => a
  | k :: ks, s => puts (a.put (some k) (s k)) ks s
def upd (s : Nat → Value) (k : Nat) (v : Value) : Nat → Value := fun j => if j = k then v else s j
theorem upd_same (s : Nat → Value) (k : Nat) (v : Value) : upd s k v k = v := by simp [upd]
theorem upd_other (s : Nat → Value) (k j : Nat) (v : Value) (h : j ≠ k) : upd s k v j = s j := by simp [upd, h]
/-- Which operations an operation waits for. -/
def depsOf (ops : Array Oper) (i : Nat) : List Nat := ((ops[i]?).map fun o => ((o.after.toList.filter fun e => Region.binds .any e).map (·.on))).getD []
def seen (L : Nat → Bool) (l : List Nat) : Prop := ∀ j ∈ l, L j = true
theorem ready_deps {ops : Array Oper} {listed : Array Bool} {i : Nat} (h : i ∈ Region.ready .any ops listed) : i < ops.size ∧ listed.getD i true = false ∧ seen (fun j => listed.getD j false) (depsOf ops i) := by
  unfold Region.ready at h
  obtain ⟨h1, h2⟩ := List.mem_filter.1 h
  have hi := List.mem_range.1 h1
  rw [Bool.and_eq_true] at h2
  obtain ⟨h2, h3⟩ := h2
  refine ⟨hi, by simpa using h2, fun j hj => ?_⟩
  unfold depsOf at hj
  rw [Array.getElem?_eq_getElem hi] at hj h3
  simp only [Option.map_some, Option.getD_some] at hj h3
  obtain ⟨e, he, rfl⟩ := List.mem_map.1 hj
  obtain ⟨he1, he2⟩ := List.mem_filter.1 he
  have := (Array.all_eq_true'.1 h3) e (Array.mem_toList_iff.1 he1)
  simpa [he2] using this

section
variable {P : Program} {ops : Array Oper} {Q : Exit → Act → World → Prop}
/-- What each operation keeps, as a function of which have come up. -/
theorem free_held (a0 : Act) (dsts : List Nat) (Φ : (Nat → Bool) → (Nat → Value) → World → Prop)
    (step : ∀ (i : Nat) (L : Nat → Bool) (s : Nat → Value) (W : World), i < ops.size → L i = false → seen L (depsOf ops i) → (∀ j, L j = true → seen L (depsOf ops j)) → Φ L s W → ∀ K : Act → World → Prop, Shut (∀ a' s' W', a' = puts a0 dsts s' → Φ (fun j => j == i || L j) s' W' → K a' W') → wpOp P ops Q i K (puts a0 dsts s) W)
    (done : ∀ s W L, (∀ i, i < ops.size → L i = true) → Φ L s W → Q .normal (puts a0 dsts s) W) (hdep : (List.range ops.size).all (fun i => (depsOf ops i).all (fun j => decide (j < i))) = true) :
    ∀ (fuel : Nat) (listed : Array Bool) (L : Nat → Bool) (s : Nat → Value) (W : World), listed.size = ops.size → (∀ i, i < ops.size → L i = listed.getD i false) → ((List.range ops.size).filter (fun i => !listed.getD i true)).length ≤ fuel → (∀ j, L j = true → seen L (depsOf ops j)) → Φ L s W → wpAnyH P .any ops Q (fun _ => True) fuel listed (puts a0 dsts s) W := by
  have none_ready : ∀ (listed : Array Bool), listed.size = ops.size → Region.ready .any ops listed = [] → ∀ i, i < ops.size → listed.getD i false = true := by
    intro listed hsz hr i
    induction i using Nat.strongRecOn with
    | _ i ih =>
      intro hi
      cases hli : listed.getD i false with
      | true => rfl
      | false =>
        have : i ∈ Region.ready .any ops listed := by
          unfold Region.ready
          refine List.mem_filter.2 ⟨List.mem_range.2 hi, ?_⟩
          rw [Bool.and_eq_true]
          have hlt : i < listed.size := by omega
          refine ⟨?_, ?_⟩
          · simp [Array.getD, hlt] at hli ⊢
            exact hli
          · rw [Array.getElem?_eq_getElem hi]
            simp only [Option.map_some, Option.getD_some]
            refine Array.all_eq_true'.2 (fun e he => ?_)
            by_cases hb : Region.binds .any e = true
            · have hmem : e.on ∈ depsOf ops i := by
                unfold depsOf
                rw [Array.getElem?_eq_getElem hi]
                simp only [Option.map_some, Option.getD_some]
                exact List.mem_map.2 ⟨e, List.mem_filter.2 ⟨Array.mem_toList_iff.2 he, hb⟩, rfl⟩
              have hlt2 : e.on < i := by
                have h1 := List.all_eq_true.1 hdep i (List.mem_range.2 hi)
                have h2 := List.all_eq_true.1 h1 _ hmem
                exact of_decide_eq_true h2
              have := ih _ hlt2 (by omega)
              rw [this]
              simp
            · simp [Bool.eq_false_iff.2 hb]
        rw [hr] at this
        cases this
  intro fuel
  induction fuel with
  | zero =>
    intro listed L s W hsz hL hf hcl hΦ
    have hnil : Region.ready .any ops listed = [] := by
      refine List.eq_nil_iff_forall_not_mem.2 (fun i hi => ?_)
      obtain ⟨h1, h2, _⟩ := ready_deps hi
      have : i ∈ (List.range ops.size).filter (fun i => !listed.getD i true) := List.mem_filter.2 ⟨List.mem_range.2 h1, by rw [h2]; rfl⟩
      have hlen := List.length_pos_of_mem this
      omega
    exact ⟨hnil, done s W L (fun i hi => by rw [hL i hi]; exact none_ready listed hsz hnil i hi) hΦ⟩
  | succ fuel ih =>
    intro listed L s W hsz hL hf hcl hΦ
    refine ⟨fun hnil => done s W L (fun i hi => by rw [hL i hi]; exact none_ready listed hsz hnil i hi) hΦ, fun i hi => ?_⟩
    obtain ⟨h1, h2, h3⟩ := ready_deps hi
    have hlt : i < listed.size := by omega
    have hLi : L i = false := by
      rw [hL i h1]
      simp [Array.getD, hlt] at h2 ⊢
      exact h2
    have hd : seen L (depsOf ops i) := fun j hj => by
      have hji : j < i := by
        have h4 := List.all_eq_true.1 hdep i (List.mem_range.2 h1)
        exact of_decide_eq_true (List.all_eq_true.1 h4 _ hj)
      rw [hL j (by omega)]
      exact h3 j hj
    refine step i L s W h1 hLi hd hcl hΦ _ (fun a' s' W' e hΦ' => ⟨trivial, ?_⟩)
    · subst e
      refine ih (listed.setIfInBounds i true) _ s' W' (by simp [hsz]) (fun j hj => ?_) ?_ (fun j hj k hk => ?_) hΦ'
      · have hjl : j < listed.size := by omega
        by_cases e : j = i
        · subst e
          simp [Array.getD, hjl]
        · have e' : (j == i) = false := beq_eq_false_iff_ne.2 e
          have e2 : i ≠ j := fun h => e h.symm
          rw [e', Bool.false_or, hL j hj]
          simp [Array.getD, hjl, Array.getElem_setIfInBounds, e2]
      · have hsub : ((List.range ops.size).filter (fun j => !(listed.setIfInBounds i true).getD j true)).length < ((List.range ops.size).filter (fun j => !listed.getD j true)).length := by
          have e1 : (List.range ops.size).filter (fun j => !(listed.setIfInBounds i true).getD j true) = ((List.range ops.size).filter (fun j => !listed.getD j true)).filter (fun j => !(j == i)) := by
            rw [List.filter_filter]
            refine List.filter_congr (fun j hj => ?_)
            have hjl : j < listed.size := by have := List.mem_range.1 hj; omega
            by_cases e : j = i
            · subst e
              simp [Array.getD, hjl]
            · have e' : (j == i) = false := beq_eq_false_iff_ne.2 e
              have e2 : i ≠ j := fun h => e h.symm
              simp [Array.getD, hjl, Array.getElem_setIfInBounds, e2, e]
          rw [e1]
          have hmem : i ∈ (List.range ops.size).filter (fun j => !listed.getD j true) := List.mem_filter.2 ⟨List.mem_range.2 h1, by rw [h2]; rfl⟩
          refine List.length_filter_lt_length_iff_exists.2 ⟨i, hmem, by simp⟩
        omega
      · have hLk : L k = true := by
          by_cases e : j = i
          · subst e
            exact hd k hk
          · have e' : (j == i) = false := beq_eq_false_iff_ne.2 e
            rw [e', Bool.false_or] at hj
            exact hcl j hj k hk
        rw [hLk, Bool.or_true]
theorem put_self (a : Act) (k : Nat) : a.put (some k) (a.tmps.getD k undef) = a := by
  have e : a.tmps.setIfInBounds k (a.tmps.getD k undef) = a.tmps := by
    apply Array.ext
    · simp
    · intro i h1 h2
      rw [Array.getElem_setIfInBounds]
      split
      · rename_i h
        subst h
        simp [Array.getD, h2]
      · rfl
  unfold Act.put
  dsimp only
  rw [e]
theorem puts_self (a : Act) : ∀ ks, puts a ks (fun k => a.tmps.getD k undef) = a
  | [] => rfl
  | k :: ks => by
    unfold puts
    rw [put_self]
    exact puts_self a ks
theorem wp_region_free (dsts : List Nat) (Φ : (Nat → Bool) → (Nat → Value) → World → Prop) {id : Nat} {a : Act} {w : World} (hm : P.follows .mixedOrders = true) (hdep : (List.range ops.size).all (fun i => (depsOf ops i).all (fun j => decide (j < i))) = true)
    (h0 : Φ (fun _ => false) (fun k => a.tmps.getD k undef) w.drew)
    (step : ∀ (i : Nat) (L : Nat → Bool) (s : Nat → Value) (W : World), i < ops.size → L i = false → seen L (depsOf ops i) → (∀ j, L j = true → seen L (depsOf ops j)) → Φ L s W → ∀ K : Act → World → Prop, Shut (∀ a' s' W', a' = puts a dsts s' → Φ (fun j => j == i || L j) s' W' → K a' W') → wpOp P ops (NoPanic Q) i K (puts a dsts s) W)
    (done : ∀ s W L, (∀ i, i < ops.size → L i = true) → Φ L s W → Q .normal (puts a dsts s) W) : (Code.region id ops true).wp P Q a w := by
  refine wp_region_noPanic (wp_region_held (S := fun _ => True) hm ?_)
  have := free_held (Q := NoPanic Q) a dsts Φ step (fun s W L h1 h2 => done s W L h1 h2) hdep ops.size (Array.replicate ops.size false) (fun _ => false) (fun k => a.tmps.getD k undef) w.drew (by simp) (fun i hi => by simp [Array.getD, hi]) (Nat.le_trans (List.length_filter_le _ _) (by simp)) (fun j hj => by cases hj) h0
  rw [puts_self] at this
  exact this
theorem seen_of {L : Nat → Bool} {l : List Nat} (h : seen L l) (j : Nat) (hj : l.contains j = true) : L j = true := h j (by simpa using hj)
/-- What waits for what has not come up has not come up. -/
theorem not_yet {L : Nat → Bool} (h : ∀ j, L j = true → seen L (depsOf ops j)) (k j : Nat) (hk : (depsOf ops k).contains j = true) (hj : L j = false) : L k = false := by
  cases e : L k with
  | false => rfl
  | true => rw [seen_of (h k e) j hk] at hj; cases hj
/-- One operation that is wanted. -/
theorem free_op {i : Nat} {o : Oper} {a : Act} {w : World} {K : Act → World → Prop} (ho : ops[i]? = some o) (hw : Region.wanted o (yielded ops a.tmps) = true) (h : o.wp P a w K Q) : wpOp P ops Q i K a w := by
  unfold wpOp
  simp only [ho, hw, if_true]
  exact .inl h
end
end Go.Proofs.YtmljhkdojopljaaGreatDoor
/-
  A region that draws its order, whose last operation waits for all the others: by a plan of the others, and then the last one; what the plan leans on need not hold behind the last (no program is named here). Conditions: the plan is one of the operations but the last, which comes behind each of them.
-/
namespace Go.Proofs.YtmljhkdojopljaaGreatDoor
set_option maxRecDepth 100000
open Go.RowKit
set_option linter.unusedSimpArgs false
set_option linter.unusedVariables false

theorem ready_of {ops : Array Oper} {listed : Array Bool} {i : Nat} (hi : i < ops.size) (hlt : i < listed.size) (hl : listed.getD i false = false) (hd : ∀ j ∈ depsOf ops i, listed.getD j false = true) : i ∈ Region.ready .any ops listed := by
  unfold Region.ready
  refine List.mem_filter.2 ⟨List.mem_range.2 hi, ?_⟩
  rw [Bool.and_eq_true]
  refine ⟨?_, ?_⟩
  · simp [Array.getD, hlt] at hl ⊢
    exact hl
  · rw [Array.getElem?_eq_getElem hi]
    simp only [Option.map_some, Option.getD_some]
    refine Array.all_eq_true'.2 (fun e he => ?_)
    by_cases hb : Region.binds .any e = true
    · have hmem : e.on ∈ depsOf ops i := by
        unfold depsOf
        rw [Array.getElem?_eq_getElem hi]
        simp only [Option.map_some, Option.getD_some]
        exact List.mem_map.2 ⟨e, List.mem_filter.2 ⟨Array.mem_toList_iff.2 he, hb⟩, rfl⟩
      rw [hd _ hmem]
      simp
    · simp [Bool.eq_false_iff.2 hb]
theorem none_left {ops : Array Oper} {listed : Array Bool} (hdep : (List.range ops.size).all (fun i => (depsOf ops i).all (fun j => decide (j < i))) = true) (hsz : listed.size = ops.size) (hr : Region.ready .any ops listed = []) : ∀ i, i < ops.size → listed.getD i false = true := by
  intro i
  induction i using Nat.strongRecOn with
  | _ i ih =>
    intro hi
    cases hli : listed.getD i false with
    | true => rfl
    | false =>
      have : i ∈ Region.ready .any ops listed := ready_of hi (by omega) hli (fun j hj => by
        have h1 := List.all_eq_true.1 hdep i (List.mem_range.2 hi)
        have hlt := of_decide_eq_true (List.all_eq_true.1 h1 _ hj)
        exact ih j hlt (by omega))
      rw [hr] at this
      cases this
theorem getD_tf {l : Array Bool} {i : Nat} (h : i < l.size) : l.getD i true = l.getD i false := by simp [Array.getD, h]
/-- All but the last. -/
def initO (ops : Array Oper) : Array Oper := ops.toList.dropLast.toArray
theorem initO_size (ops : Array Oper) : (initO ops).size = ops.size - 1 := by simp [initO]
theorem initO_get (ops : Array Oper) (i : Nat) (h : i < ops.size - 1) : (initO ops)[i]? = ops[i]? := by
  unfold initO
  rw [List.getElem?_toArray, List.getElem?_dropLast, if_pos (by simpa using h), Array.getElem?_toList]
theorem initO_deps (ops : Array Oper) (i : Nat) (h : i < ops.size - 1) : depsOf (initO ops) i = depsOf ops i := by
  unfold depsOf
  rw [initO_get ops i h]
/-- No guard looks at the last operation. -/
def guardsOK (ops : Array Oper) : Bool := ops.toList.all fun o => match o.guard with | none => true | some (j, _) => decide (j < ops.size - 1)
theorem wanted_init (ops : Array Oper) (hg : guardsOK ops = true) (i : Nat) (o : Oper) (ho : ops[i]? = some o) (tmps : Array Value) : Region.wanted o (yielded ops tmps) = Region.wanted o (yielded (initO ops) tmps) := by
  have h := List.all_eq_true.1 hg o (List.mem_of_getElem? (by rw [Array.getElem?_toList]; exact ho))
  unfold Region.wanted
  cases hgd : o.guard with
  | none => rfl
  | some x =>
    obtain ⟨j, b⟩ := x
    rw [hgd] at h
    dsimp only at h ⊢
    have hj := of_decide_eq_true h
    unfold yielded
    rw [initO_get ops j hj]
section
variable {P : Program} {ops : Array Oper} {Q : Exit → Act → World → Prop}
def LastQ (P : Program) (ops : Array Oper) (Q : Exit → Act → World → Prop) : Exit → Act → World → Prop
  | .normal, a, w => wpOp P ops Q (ops.size - 1) (fun a' w' => Q .normal a' w') a w
  | _, _, _ => False
theorem lastQ_lets : ¬ LetsOut (LastQ P ops Q) := fun ⟨_, _, h⟩ => h
theorem wp_of_lastQ {o : Oper} {a : Act} {w : World} {K : Act → World → Prop} (h : o.wp P a w K (LastQ P ops Q)) : o.wp P a w K Q := by
  unfold Oper.wp at *
  generalize (execOp a.eval o).run P w = r at *
  cases r with
  | ok x w' =>
    cases x <;> simp only [Oper.upon] at h ⊢
    case enter f args =>
      refine h.mono fun e w'' he => ?_
      cases e with
      | returned v => exact he
      | panicked c => exact he.elim
      | outgrown => exact (lastQ_lets he).elim
    all_goals exact h
  | halt x w' =>
    cases x <;> simp only [Oper.upon] at h ⊢
    case panic v => exact h.elim
theorem last_held {S : World → Prop} (hg : guardsOK ops = true) (hn : 0 < ops.size) (hdep : (List.range ops.size).all (fun i => (depsOf ops i).all (fun j => decide (j < i))) = true) (hlast : (List.range (ops.size - 1)).all (fun j => (depsOf ops (ops.size - 1)).contains j) = true) :
    ∀ (fuel : Nat) (L M : Array Bool) (a : Act) (w : World), L.size = ops.size → M.size = ops.size - 1 → (∀ i, i < ops.size - 1 → M.getD i false = L.getD i false) → L.getD (ops.size - 1) false = false → wpAnyH P .any (initO ops) (LastQ P ops Q) S fuel M a w → wpAny P .any ops Q (fuel + 1) L a w := by
  have hdi : (List.range (initO ops).size).all (fun i => (depsOf (initO ops) i).all (fun j => decide (j < i))) = true := by
    rw [initO_size]
    refine List.all_eq_true.2 (fun i hi => ?_)
    have hi' := List.mem_range.1 hi
    rw [initO_deps ops i hi']
    exact List.all_eq_true.1 hdep i (List.mem_range.2 (by omega))
  have done : ∀ (fuel : Nat) (L : Array Bool) (a : Act) (w : World), L.size = ops.size → (∀ i, i < ops.size → L.getD i false = true) → Q .normal a w → wpAny P .any ops Q fuel L a w := by
    intro fuel L a w hL hall hq
    have hnil : Region.ready .any ops L = [] := by
      refine List.eq_nil_iff_forall_not_mem.2 (fun i hi => ?_)
      obtain ⟨h1, h2, _⟩ := ready_deps hi
      rw [getD_tf (by omega), hall i h1] at h2
      cases h2
    cases fuel with
    | zero => exact ⟨hnil, hq⟩
    | succ f => exact ⟨fun _ => hq, fun i hi => by rw [hnil] at hi; cases hi⟩
  have final : ∀ (fuel : Nat) (L M : Array Bool) (a : Act) (w : World), L.size = ops.size → M.size = ops.size - 1 → (∀ i, i < ops.size - 1 → M.getD i false = L.getD i false) → L.getD (ops.size - 1) false = false → Region.ready .any (initO ops) M = [] → LastQ P ops Q .normal a w → wpAny P .any ops Q (fuel + 1) L a w := by
    intro fuel L M a w hL hM hLM hl hr hq
    have hall := none_left hdi (by rw [initO_size]; exact hM) hr
    rw [initO_size] at hall
    have hmem : ops.size - 1 ∈ Region.ready .any ops L := ready_of (by omega) (by omega) hl (fun j hj => by
      have h1 := List.all_eq_true.1 hdep (ops.size - 1) (List.mem_range.2 (by omega))
      have hlt := of_decide_eq_true (List.all_eq_true.1 h1 _ hj)
      rw [← hLM j hlt]
      exact hall j hlt)
    refine ⟨fun hnil => (by rw [hnil] at hmem; cases hmem), fun i hi => ?_⟩
    obtain ⟨h1, h2, _⟩ := ready_deps hi
    have hin : i = ops.size - 1 := by
      by_cases e : i = ops.size - 1
      · exact e
      · rw [getD_tf (by omega), ← hLM i (by omega), hall i (by omega)] at h2
        cases h2
    subst hin
    refine wpOp_mono (fun a' w' hq' => done fuel _ a' w' (by simp [hL]) (fun j hj => ?_) hq') hq
    have hjl : j < L.size := by omega
    by_cases e : j = ops.size - 1
    · subst e
      simp [Array.getD, hjl]
    · have e2 : ops.size - 1 ≠ j := fun h => e h.symm
      have := (hLM j (by omega)).symm.trans (hall j (by omega))
      simp [Array.getD, hjl] at this
      simp [Array.getD, hjl, Array.getElem_setIfInBounds, e2, this]
  intro fuel
  induction fuel with
  | zero =>
    intro L M a w hL hM hLM hl h
    exact final 0 L M a w hL hM hLM hl h.1 h.2
  | succ f ih =>
    intro L M a w hL hM hLM hl h
    by_cases hr : Region.ready .any (initO ops) M = []
    · exact final (f + 1) L M a w hL hM hLM hl hr (h.1 hr)
    · obtain ⟨x, hx⟩ := List.exists_mem_of_ne_nil _ hr
      obtain ⟨x1, x2, x3⟩ := ready_deps hx
      rw [initO_size] at x1
      rw [initO_deps ops x x1] at x3
      rw [getD_tf (by omega)] at x2
      have hxr : x ∈ Region.ready .any ops L := ready_of (by omega) (by omega) (by rw [← hLM x x1]; exact x2) (fun j hj => by
        have h1 := List.all_eq_true.1 hdep x (List.mem_range.2 (by omega))
        have hlt := of_decide_eq_true (List.all_eq_true.1 h1 _ hj)
        rw [← hLM j (by omega)]
        exact x3 j hj)
      refine ⟨fun hnil => (by rw [hnil] at hxr; cases hxr), fun i hi => ?_⟩
      obtain ⟨h1, h2, h3⟩ := ready_deps hi
      have hin : i < ops.size - 1 := by
        by_cases e : i = ops.size - 1
        · subst e
          have hxm := List.all_eq_true.1 hlast x (List.mem_range.2 x1)
          have h4 := h3 x (by simpa using hxm)
          dsimp only at h4
          rw [← hLM x x1, x2] at h4
          cases h4
        · omega
      have hii : i ∈ Region.ready .any (initO ops) M := ready_of (by rw [initO_size]; exact hin) (by omega) (by rw [hLM i hin]; rw [getD_tf (by omega)] at h2; exact h2) (fun j hj => by
        rw [initO_deps ops i hin] at hj
        have h5 := List.all_eq_true.1 hdep i (List.mem_range.2 h1)
        have hlt := of_decide_eq_true (List.all_eq_true.1 h5 _ hj)
        rw [hLM j (by omega)]
        exact h3 j hj)
      have hop := h.2 i hii
      have hK : ∀ a' w', (S w' ∧ wpAnyH P .any (initO ops) (LastQ P ops Q) S f (M.setIfInBounds i true) a' w') → wpAny P .any ops Q (f + 1) (L.setIfInBounds i true) a' w' := fun a' w' hk =>
        ih (L.setIfInBounds i true) (M.setIfInBounds i true) a' w' (by simp [hL]) (by simp [hM]) (fun j hj => by
          have hjl : j < L.size := by omega
          have hjm : j < M.size := by omega
          have := hLM j hj
          simp [Array.getD, hjl, hjm] at this
          by_cases e : i = j
          · subst e
            simp [Array.getD, hjl, hjm]
          · simp [Array.getD, hjl, hjm, Array.getElem_setIfInBounds, e, this]) (by
          have hjl : ops.size - 1 < L.size := by omega
          have e : i ≠ ops.size - 1 := by omega
          simp [Array.getD, hjl] at hl
          simp [Array.getD, hjl, Array.getElem_setIfInBounds, e, hl]) hk.2
      unfold wpOp at hop ⊢
      rw [initO_get ops i hin] at hop
      cases hoi : ops[i]? with
      | none =>
        rw [hoi] at hop
        exact hK _ _ hop
      | some o =>
        rw [hoi] at hop
        dsimp only at hop ⊢
        by_cases hw : Region.wanted o (yielded ops a.tmps) = true
        · have hwi : Region.wanted o (yielded (initO ops) a.tmps) = true := by rw [← wanted_init ops hg i o hoi a.tmps]; exact hw
          rw [if_pos hwi] at hop
          rw [if_pos hw]
          rcases hop with h6 | ⟨_, h6⟩
          · exact .inl (wp_of_lastQ (Oper.wp_mono hK h6))
          · exact (lastQ_lets h6).elim
        · have hwi : ¬ Region.wanted o (yielded (initO ops) a.tmps) = true := by rw [← wanted_init ops hg i o hoi a.tmps]; exact hw
          rw [if_neg hwi] at hop
          rw [if_neg hw]
          exact hK _ _ hop
theorem wp_region_last (S : World → Prop) (plan : Plan) {id : Nat} {a : Act} {w : World} (hS : S w.drew) (hm : P.follows .mixedOrders = true) (hs : Region.noSelect (initO ops) = true) (hg : guardsOK ops = true) (hn : 0 < ops.size) (hdep : (List.range ops.size).all (fun i => (depsOf ops i).all (fun j => decide (j < i))) = true) (hlast : (List.range (ops.size - 1)).all (fun j => (depsOf ops (ops.size - 1)).contains j) = true)
    (hlen : plan.size = (initO ops).size) (hp : planOK (initO ops) plan (Array.replicate (initO ops).size false) = true) (h : wpPlan P (initO ops) (LastQ P ops Q) plan S a w.drew) : (Code.region id ops true).wp P Q a w := by
  refine wp_region_any hm ?_
  have h1 := wpPlan_held hs (fun _ _ _ _ _ h => h) plan S _ a w.drew hS hp h
  rw [hlen, initO_size] at h1
  have h2 := last_held (Q := Q) (S := S) hg hn hdep hlast (ops.size - 1) (Array.replicate ops.size false) (Array.replicate (ops.size - 1) false) a w.drew (by simp) (by simp) (fun i hi => by
    have : i < ops.size := by omega
    simp [Array.getD, hi, this]) (by
    have : ops.size - 1 < ops.size := by omega
    simp [Array.getD, this]) h1
  rw [show ops.size - 1 + 1 = ops.size by omega] at h2
  exact h2
/-- Behind the plan: the last operation. -/
theorem planLast_done {S : World → Prop} {a : Act} {w : World} {o : Oper} (ho : ops[ops.size - 1]? = some o) (hw : Region.wanted o (yielded ops a.tmps) = true) (h : o.wp P a w (fun a' w' => Q .normal a' w') Q) : wpPlan P (initO ops) (LastQ P ops Q) .nil S a w := by
  show wpOp P ops Q (ops.size - 1) _ a w
  unfold wpOp
  simp only [ho, hw, if_true]
  exact .inl h
end
end Go.Proofs.YtmljhkdojopljaaGreatDoor
