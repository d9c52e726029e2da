/-
  What the methods of the program's makers of tags answer, and which maker stands behind an engine (layer 6). Condition: the package's table holds sixty-four words (for a Concrete engine's tags).
-/
import Derived.Test.YtmljhkdojopljaaGreatDoorQ8
import Derived.Handy
namespace Go.Proofs.YtmljhkdojopljaaGreatDoor
set_option maxRecDepth 100000
open Go.RowKit
set_option linter.unusedSimpArgs false
set_option linter.unusedVariables false

theorem box_rows (w : World) (t : TypeId) (a b : Value) : Row (w.alloc (.cells #[a, b] t)) w.heap.size t [a, b] ∧ Below w.heap.size w (w.alloc (.cells #[a, b] t)) := ⟨Row.new w _ _ _ rfl, below_new (Below.refl _ _) _⟩
theorem size_engine : (Tryz.prog.info? 48).map (·.size) = some 2 := by kernel_rfl
theorem size_concrete : (Tryz.prog.info? 119).map (·.size) = some 2 := by kernel_rfl
theorem one_pair (a b : Value) (ha : a.oneCell' = true) (hb : b.oneCell' = true) : ∀ v ∈ [a, b], v.oneCell' = true := fun v hv => by
  simp at hv
  rcases hv with rfl | rfl
  · exact ha
  · exact hb
/-- An engine as a value. -/
def vE (K : Int) (A : Option Addr) (p c : Nat) : Value := .agg #[.int .i64 K, .slice A p c]

theorem cright_any (K : Int) (p : Nat) (A : Option Addr) (c : Nat) (w : World) (hp : p ≤ 1000000000) :
    Calls Tryz.prog 97 #[.agg #[.int .i64 K, .slice A p c]] w fun e w' => e = .returned (.bool (decide (p = 0))) ∧ Below w.heap.size w w' := by
  obtain ⟨hR, hB⟩ := box_rows w 119 (.int .i64 K) (.slice A p c)
  have c1 : (w.alloc (.cells #[.int .i64 K, .slice A p c] 119)).cell? ⟨w.heap.size, 1, none⟩ = some (.slice A p c) := hR.cell rfl
  have j0 : ((p : Int) == 0) = decide (p = 0) := by
    by_cases h : p = 0
    · subst h; rfl
    · rw [decide_eq_false h]; simp; omega
  clear hR
  go_enter Tryz.func97, Tryz.ntmps97
  go_wp2_with fail
  go_ret
  exact ⟨rfl, hB⟩
theorem sright_any (ts : List TD) (K : Int) (p : Nat) (A : Option Addr) (c : Nat) (w : World) (HP : Hid (ts.length = p)) (HL : Hid (lenT (conT ts))) (ht : RdT w A ts) (hok : okT w ts) (hp : p ≤ 1000000000) (hc : p ≤ c) :
    Calls Tryz.prog 120 #[.agg #[.int .i64 K, .slice A p c]] w fun e w' => e = .returned (.bool (rightT (conT ts))) ∧ Below w.heap.size w w' := by
  obtain ⟨hR, hB⟩ := box_rows w 120 (.int .i64 K) (.slice A p c)
  have c1 : (w.alloc (.cells #[.int .i64 K, .slice A p c] 120)).cell? ⟨w.heap.size, 1, none⟩ = some (.slice A p c) := hR.cell rfl
  clear hR
  go_enter Tryz.func120, Tryz.ntmps120
  go_wp2_with fail
  refine (right_anyT ts p A c _ HP HL (ht.keep hB) (hok.keep hB) hp hc).mono ?_
  rintro e w' ⟨rfl, hb⟩
  go_wp2_with fail
  go_ret
  exact ⟨rfl, below_step hB hb⟩

theorem clone_at [Inhabited Tab] (n : Nat) (b : List UInt8) (A : Option Addr) (c : Nat) (w : World) (HN : Hid (b.length = n)) (hr : Rd vB w A b) (hl : n ≤ 70368744177664) :
    Calls Tryz.prog 30 #[.slice A n c] w fun e w' => ∃ A' c', e = .returned (.slice A' n c') ∧ n ≤ c' ∧ Rd vB w' A' b ∧ (∀ a, A' = some a → w.heap.size ≤ a.block) ∧ Below w.heap.size w w' := by
  have e := HN.out
  subst e
  exact (clone_b b A c w hr hl).mono fun _ _ h => h

set_option maxHeartbeats 1000000 in
theorem ctag_any [Inhabited Tab] (Kn : Int) (key msg : List UInt8) (p n m : Nat) (A B C : Option Addr) (c d e : Nat) (w : World) (HN : Hid (key.length = n)) (HM : Hid (msg.length = m)) (hk : Rd vB w B key) (hm : Rd vB w C msg) (hn : n ≤ 1000000) (hmm : m ≤ 1000000) (hnd : n ≤ d) (HK : Hid (KTab w)) :
    Calls Tryz.prog 98 #[.agg #[.int .i64 Kn, .slice A p c], .slice B n d, .slice C m e] w fun e w' => ∃ tA tc, e = .returned (.tuple #[.agg #[.int .i64 Kn, .slice none 0 0], .slice tA 8 tc]) ∧ 8 ≤ tc ∧ Rd vB w' tA ((macL key msg).take 8) ∧ Below w.heap.size w w' := by
  obtain ⟨hR0, hB0⟩ := box_rows w 119 (.int .i64 Kn) (.slice A p c)
  have hR1 := hR0.alloc (.cells #[.int .i64 0, .slice none 0 0] 48)
  have hB1 := below_new hB0 (.cells #[.int .i64 0, .slice none 0 0] 48)
  have hR2 : Row ((w.alloc (.cells #[.int .i64 Kn, .slice A p c] 119)).alloc (.cells #[.int .i64 0, .slice none 0 0] 48)) (w.heap.size + 1) 48 [.int .i64 0, .slice none 0 0] := Row.new_at _ _ (by simp) _ _ _ rfl
  go_enter Tryz.func98, Tryz.ntmps98
  go_upto_region 1 with fail
  generalize (w.alloc (.cells #[.int .i64 Kn, .slice A p c] 119)).alloc (.cells #[.int .i64 0, .slice none 0 0] 48) = W2 at hR1 hB1 hR2 ⊢
  have hc0 : ∀ W, Below (w.heap.size + 1) W2 W → W.cell? ⟨w.heap.size, 0, none⟩ = some (.int .i64 Kn) := fun W hW => (hR1.keep hW (by omega)).cell rfl
  have hlt := hR2.lt
  have hBase : Below (w.heap.size + 1) W2 W2.drew := (Below.refl _ _).drew
  have hk2 : Rd vB W2.drew B key := hk.keep hB1.drew
  have hm2 : Rd vB W2.drew C msg := hm.keep hB1.drew
  have HK2 : Hid (KTab W2.drew) := HK.out.keep hB1.drew
  clear hR0 hB0
  refine wp_region_plan_at (w.heap.size + 1) (.step 0 false (.step 1 false (.step 2 false (.step 3 false (.step 4 false (.step 5 false (.step 6 true (.step 7 false (.step 8 true (.step 9 true (.step 10 false .nil))))))))))) (by kernel_rfl) (by kernel_rfl) (by rfl) (by kernel_rfl) ?_
  iterate 6 (refine plan_read rfl (by rfl) (v := ?_) ?_ ?_; rotate_left 1; (intro W hW; have hW0 := Below.trans hBase hW; (try dsimp only at hW); go_simp <;> with_reducible rfl); simp only [List.getElem_toArray, List.getElem_cons_zero, List.getElem_cons_succ, Act.put, List.setIfInBounds_toArray, List.set_cons_zero, List.set_cons_succ])
  (refine plan_make_at rfl (by rfl) (fun K hK => ?_); go_simp; refine (mac_any n m key msg _ _ _ _ _ HN HM hk2 hm2 hnd (by omega) (by omega) HK2).mono ?_; rintro e w3 ⟨A3, c3, rfl, hc3, hr3, hb3⟩; have hz3 : W2.heap.size ≤ w3.heap.size := hb3.size; refine hK.out _ _ (hb3.mono (Nat.le_of_lt hlt)) ?_; clear hK K; replace hBase := hBase.trans (hb3.mono (Nat.le_of_lt hlt)))
  have hB3 := below_step hB1.drew hb3
  have hR3 := hR2.drew.later hb3
  have hcut : ∀ W, (Instr.slice 27 (.slice A3 32 c3) none (some (.int .i64 8)) none).run Tryz.prog W = .ok (.slice A3 8 c3) W := fun W => run_cut_to 27 5 Tryz.underlying27 size_uint8 A3 32 c3 8 (by omega) W
  iterate 1 (refine plan_read rfl (by rfl) (v := ?_) ?_ ?_; rotate_left 1; (intro W hW; have hW0 := Below.trans hBase hW; (try dsimp only at hW); go_simp <;> with_reducible rfl); simp only [List.getElem_toArray, List.getElem_cons_zero, List.getElem_cons_succ, Act.put, List.setIfInBounds_toArray, List.set_cons_zero, List.set_cons_succ])
  have H8 : Hid (((macL key msg).take 8).length = 8) := by unfold Hid; rw [List.length_take, macL_length]; rfl
  have hr8 := hr3.take 8
  obtain ⟨T, hT⟩ : ∃ T, T = (macL key msg).take 8 := ⟨_, rfl⟩
  rw [← hT] at H8 hr8
  have HT := Lib.hid hT
  clear hT
  (refine plan_make_at rfl (by rfl) (fun K hK => ?_); go_simp; refine (clone_at 8 T A3 c3 _ H8 hr8 (by omega)).mono ?_; rintro e w4 ⟨A4, c4, rfl, hc4, hr4, hN4, hb4⟩; have hz4 : w3.heap.size ≤ w4.heap.size := hb4.size; refine hK.out _ _ (hb4.mono (by omega)) ?_; clear hK K; replace hBase := hBase.trans (hb4.mono (by omega)))
  have hB4 := below_step hB3 hb4
  have hR4 := hR3.later hb4
  (refine plan_make_at rfl (by rfl) (fun K hK => ?_); refine Row.wp_store 48 (.tmp 6) (.tmp 11) rfl rfl [.int .i64 Kn, .slice none 0 0] rfl hR4 (by exact size_engine) rfl (one_pair _ _ rfl rfl) ?_; refine hK.out _ _ (below_setRow (Below.refl _ _) (Nat.le_refl _) _) ?_; clear hK K)
  iterate 1 (refine plan_read rfl (by rfl) (v := ?_) ?_ ?_; rotate_left 1; (intro W hW; go_simp <;> with_reducible rfl); simp only [List.getElem_toArray, List.getElem_cons_zero, List.getElem_cons_succ, Act.put, List.setIfInBounds_toArray, List.set_cons_zero, List.set_cons_succ])
  refine plan_done ?_
  have hd : W2.drew.heap.size = W2.heap.size := rfl
  have hr5 := hr4.setRow (g := w.heap.size + 1) [.int .i64 Kn, .slice none 0 0].toArray (fun a ha e => by have := hN4 a ha; omega)
  have hR5 := hR4.setRow [.int .i64 Kn, .slice none 0 0]
  have hB5 := below_setRow hB4 (Nat.le_succ w.heap.size) [.int .i64 Kn, .slice none 0 0].toArray
  generalize w4.setRow (w.heap.size + 1) [.int .i64 Kn, .slice none 0 0].toArray = w5 at hr5 hR5 hB5 ⊢
  go_wp2_with fail
  refine bodyPost_ret (results_row_tmp (p := 6) (u := 7) (ty := 48) (by rfl) _ _ (w.heap.size + 1) 48 _ _ (by rfl) (by exact hR5) Tryz.underlying48 (by rfl) (by exact size_engine)) (by rfl) ?_
  exact ⟨A4, c4, rfl, hc4, by rw [← HT.out]; exact hr5, hB5⟩

set_option maxHeartbeats 1000000 in
theorem stag_any (ts : List TD) (key msg : List UInt8) (p n m : Nat) (A B C : Option Addr) (c d e : Nat) (w : World) (HP : Hid (ts.length = p)) (HN : Hid (key.length = n)) (HM : Hid (msg.length = m)) (HL : Hid (lenT (conT ts))) (ht : RdT w A ts) (hok : okT w ts) (hk : Rd vB w B key) (hm : Rd vB w C msg) (hp : p ≤ 1000000) (hc : p ≤ c) (hn : n ≤ 1000000) (hmm : m ≤ 1000000) :
    Calls Tryz.prog 121 #[.agg #[.int .i64 2, .slice A p c], .slice B n d, .slice C m e] w fun e w' =>
      ∃ (us : List TD) (p : Nat) (A : Option Addr) (c : Nat) (tA : Option Addr) (tc : Nat), e = .returned (.tuple #[.agg #[.int .i64 2, .slice A p c], .slice tA 8 tc]) ∧ Hid (us.length = p) ∧ p ≤ c ∧ 8 ≤ tc ∧ RdT w' A us ∧ okT w' us ∧ Hid (conT us = putT (conT ts) (key, msg)) ∧ Rd vB w' tA (tagT (conT ts) (key, msg)) ∧ Below w.heap.size w w' := by
  obtain ⟨hR0, hB0⟩ := box_rows w 120 (.int .i64 2) (.slice A p c)
  have hR1 := hR0.alloc (.cells #[.int .i64 0, .slice none 0 0] 48)
  have hB1 := below_new hB0 (.cells #[.int .i64 0, .slice none 0 0] 48)
  have hR2 : Row ((w.alloc (.cells #[.int .i64 2, .slice A p c] 120)).alloc (.cells #[.int .i64 0, .slice none 0 0] 48)) (w.heap.size + 1) 48 [.int .i64 0, .slice none 0 0] := Row.new_at _ _ (by simp) _ _ _ rfl
  go_enter Tryz.func121, Tryz.ntmps121
  go_upto_region 1 with fail
  generalize (w.alloc (.cells #[.int .i64 2, .slice A p c] 120)).alloc (.cells #[.int .i64 0, .slice none 0 0] 48) = W2 at hR1 hB1 hR2 ⊢
  have c1 : W2.cell? ⟨w.heap.size, 1, none⟩ = some (.slice A p c) := hR1.cell rfl
  go_wp2_with fail
  refine (put_anyT ts key msg p n m A B C c d e _ HP HN HM HL (ht.keep hB1) (hok.keep hB1) (hk.keep hB1) (hm.keep hB1) (by omega) hc (by omega) (by omega)).mono ?_
  rintro e' w3 ⟨us, q, A1, q1, tA, tc, rfl, HQ, hqc, htc, htu, hoku, HC, hr1, hb1⟩
  replace hR1 := hR1.later hb1
  replace hR2 := hR2.later hb1
  have HB := Lib.hid (below_step hB1 hb1)
  clear c1 hb1 hB1 hB0
  have c0 : w3.cell? ⟨w.heap.size, 0, none⟩ = some (.int .i64 2) := hR1.cell rfl
  go_wp2_with (refine wpList_store_row rfl 48 (.tmp 6) (.tmp 23) rfl (w.heap.size + 1) rfl [.int .i64 2, .slice A1 q q1] rfl _ _ hR2 (by exact size_engine) rfl (one_pair _ _ rfl rfl) ?_)
  refine bodyPost_ret (results_row_tmp (p := 6) (u := 7) (ty := 48) (by rfl) _ _ (w.heap.size + 1) 48 _ _ (by rfl) (by exact hR2.setRow _) Tryz.underlying48 (by rfl) (by exact size_engine)) (by rfl) ?_
  have hnb := two_no_byte 0 (.slice none 0 0) (slice_no_byte none 0 0)
  exact ⟨us, q, A1, q1, tA, tc, rfl, HQ, hqc, htc, htu.setRow_row hR2 _, hoku.setRow_row hR2 hnb _, HC, hr1.setRow_row hR2 hnb _, below_setRow HB.out (by omega) _⟩

theorem cfits_any [Inhabited Tab] (Kn : Int) (key msg tag : List UInt8) (p n m q : Nat) (A B C D : Option Addr) (c d e f : Nat) (w : World) (HN : Hid (key.length = n)) (HM : Hid (msg.length = m)) (HQ : Hid (tag.length = q)) (hk : Rd vB w B key) (hm : Rd vB w C msg) (hg : Rd vB w D tag) (hn : n ≤ 1000000) (hmm : m ≤ 1000000) (hq : q ≤ 1000000) (hnd : n ≤ d) (HK : Hid (KTab w)) :
    Calls Tryz.prog 96 #[.agg #[.int .i64 Kn, .slice A p c], .slice B n d, .slice C m e, .slice D q f] w fun e w' => e = .returned (.bool (decide ((macL key msg).take 8 = tag))) ∧ Below w.heap.size w w' := by
  obtain ⟨hR0, hB0⟩ := box_rows w 119 (.int .i64 Kn) (.slice A p c)
  go_enter Tryz.func96, Tryz.ntmps96
  go_wp2_with (refine wpList_load_part rfl 119 (.tmp 4) rfl w.heap.size 0 rfl _ _ hR0 [.int .i64 Kn, .slice A p c] (by rfl) _ Tryz.underlying119 rfl (by exact size_concrete) ?_)
  refine (ctag_any Kn key msg p n m A B C c d e _ HN HM (hk.keep hB0) (hm.keep hB0) hn hmm hnd (Lib.hid (HK.out.keep hB0))).mono ?_
  rintro e' w3 ⟨tA, tc, rfl, htc, hr, hb⟩
  replace hg := hg.keep (below_step hB0 hb)
  have HB := Lib.hid (below_step hB0 hb)
  have H8 : Hid (((macL key msg).take 8).length = 8) := by unfold Hid; rw [List.length_take, macL_length]; rfl
  obtain ⟨T, hT⟩ : ∃ T, T = (macL key msg).take 8 := ⟨_, rfl⟩
  rw [← hT] at H8 hr
  have HT := Lib.hid hT
  clear hb hB0 hT
  have hR3 : Row (w3.alloc (.cells #[.int .i64 0, .slice none 0 0] 48)) w3.heap.size 48 [.int .i64 0, .slice none 0 0] := Row.new w3 _ _ _ rfl
  go_wp2_with (refine wpList_store_row rfl 48 (.tmp 9) (.tmp 16) rfl w3.heap.size rfl [.int .i64 Kn, .slice none 0 0] rfl _ _ hR3 (by exact size_engine) rfl (one_pair _ _ rfl rfl) ?_)
  have hbn : Below w3.heap.size w3 ((w3.alloc (.cells #[.int .i64 0, .slice none 0 0] 48)).setRow w3.heap.size [.int .i64 Kn, .slice none 0 0].toArray) := below_setRow (below_new (Below.refl _ _) _) (Nat.le_refl _) _
  refine (same_any 8 q T tag tA D tc f _ H8 HQ (hr.keep hbn) (hg.keep hbn) (by omega) (by omega)).mono ?_
  rintro e' w5 ⟨rfl, hb5⟩
  have HE : Hid (sameB T tag = decide (T = tag)) := by
    unfold Hid
    rw [Bool.eq_iff_iff, sameB_iff, decide_eq_true_eq]
  go_wp2_with fail
  go_ret
  exact ⟨by rw [← HT.out, ← HE.out]; rfl, below_step HB.out (below_step hbn hb5)⟩

/-- Whose tag it is: of right terms just of that one whose tag it is. -/
theorem ofT_iff (cs : List Tm) (x y : Tm) (u : Int) (tag : List UInt8) (hr : rightT cs = true) (hl : cs.length ≤ 1000000000) (h : (y, u) = ofT cs tag) : (u = 0 ∧ y = x) ↔ (x ∈ cs ∧ tagT cs x = tag) := by
  constructor
  · rintro ⟨rfl, rfl⟩
    unfold ofT at h
    split at h
    · injection h with _ h
      cases h
    · next h8 =>
      split at h
      · next hv =>
        injection h with h _
        have h8' : tag.length = 8 := Classical.byContradiction h8
        have hlt : valN tag - 1 < cs.length := by omega
        rw [List.getD_eq_getElem?_getD, List.getElem?_eq_getElem hlt, Option.getD_some] at h
        have hi := (right_iff cs).1 hr _ hlt
        rw [← h] at hi
        refine ⟨h ▸ List.getElem_mem hlt, ?_⟩
        unfold tagT
        rw [hi, show valN tag - 1 + 1 = valN tag by omega, putL_valN tag h8']
      · injection h with _ h
        cases h
  · rintro ⟨hx, rfl⟩
    rw [ofT_tag cs x hx hl] at h
    injection h with h1 h2
    exact ⟨h2, h1⟩
theorem ofT_mem (cs : List Tm) (y : Tm) (tag : List UInt8) (h : (y, (0 : Int)) = ofT cs tag) : y ∈ cs := by
  unfold ofT at h
  split at h
  · injection h with _ h
    cases h
  · split at h
    · next hv =>
      injection h with h _
      have hlt : valN tag - 1 < cs.length := by omega
      rw [List.getD_eq_getElem?_getD, List.getElem?_eq_getElem hlt, Option.getD_some] at h
      exact h ▸ List.getElem_mem hlt
    · injection h with _ h
      cases h

set_option maxHeartbeats 1000000 in
theorem sfits_any (Kn : Int) (ts : List TD) (key msg tag : List UInt8) (p n m q : Nat) (A B C D : Option Addr) (c d e f : Nat) (w : World) (HP : Hid (ts.length = p)) (HN : Hid (key.length = n)) (HM : Hid (msg.length = m)) (HQ : Hid (tag.length = q)) (HL : Hid (lenT (conT ts))) (ht : RdT w A ts) (hok : okT w ts) (hk : Rd vB w B key) (hm : Rd vB w C msg) (hg : Rd vB w D tag) (hp : p ≤ 1000000) (hc : p ≤ c) (hn : n ≤ 1000000) (hmm : m ≤ 1000000) (hq : q ≤ 1000000) (HR : Hid (rightT (conT ts) = true)) :
    Calls Tryz.prog 119 #[.agg #[.int .i64 Kn, .slice A p c], .slice B n d, .slice C m e, .slice D q f] w fun e w' => e = .returned (.bool (decide ((key, msg) ∈ conT ts ∧ tagT (conT ts) (key, msg) = tag))) ∧ Below w.heap.size w w' := by
  obtain ⟨hR0, hB0⟩ := box_rows w 120 (.int .i64 Kn) (.slice A p c)
  have c1 : (w.alloc (.cells #[.int .i64 Kn, .slice A p c] 120)).cell? ⟨w.heap.size, 1, none⟩ = some (.slice A p c) := hR0.cell rfl
  go_enter Tryz.func119, Tryz.ntmps119
  go_wp2_with fail
  refine (of_anyT ts tag p q A D c f _ HP HQ HL (ht.keep hB0) (hok.keep hB0) (hg.keep hB0) (by omega) (by omega)).mono ?_
  rintro e' w3 ⟨x, u, rfl, hx, HO, hb⟩
  have HI : Hid ((u = 0 ∧ x.c = (key, msg)) ↔ ((key, msg) ∈ conT ts ∧ tagT (conT ts) (key, msg) = tag)) := ofT_iff (conT ts) (key, msg) x.c u tag HR.out (by rw [conT_length, HP.out]; omega) HO.out
  have HX : Hid (u = 0 → x.k.length ≤ 1000000000 ∧ x.m.length ≤ 1000000000) := fun h => by
    have := HO.out
    rw [h] at this
    exact HL.out x.c (ofT_mem _ _ _ this)
  replace hk := hk.keep (below_step hB0 hb)
  replace hm := hm.keep (below_step hB0 hb)
  have HB := Lib.hid (below_step hB0 hb)
  clear hb hB0 c1 hR0 ht hok hg HO
  have hR3 : Row (w3.alloc (.cells #[.slice none 0 0, .slice none 0 0] 113)) w3.heap.size 113 [.slice none 0 0, .slice none 0 0] := Row.new w3 _ _ _ rfl
  go_upto_region 2 with (refine wpList_store_row rfl 113 (.tmp 9) (.tmp 17) rfl w3.heap.size rfl [x.at0, x.at1] rfl _ _ hR3 (by exact size_term) rfl (one_two _ _ rfl rfl) ?_)
  have hR4 := hR3.setRow [x.at0, x.at1]
  have hbn : Below w3.heap.size w3 ((w3.alloc (.cells #[.slice none 0 0, .slice none 0 0] 113)).setRow w3.heap.size [x.at0, x.at1].toArray) := below_setRow (below_new (Below.refl _ _) _) (Nat.le_refl _) _
  generalize (w3.alloc (.cells #[.slice none 0 0, .slice none 0 0] 113)).setRow w3.heap.size [x.at0, x.at1].toArray = w4 at hR4 hbn ⊢
  replace hk := hk.keep hbn
  replace hm := hm.keep hbn
  replace hx := hx.keep hbn
  replace HB := Lib.hid (below_step HB.out hbn)
  clear hR3 hbn
  generalize w3.heap.size = g at hR4 ⊢
  by_cases hu : u = 0
  · subst hu
    obtain ⟨h1, h2⟩ := HX.out rfl
    obtain ⟨kA, kc, k, mA, mc, m'⟩ := x
    unfold TD.at0 TD.at1 at *
    dsimp only at h1 h2 hR4 ⊢
    obtain ⟨_, _, hxk, hxm⟩ := hx
    dsimp only at hxk hxm
    have k0 : w4.cell? ⟨g, 0, none⟩ = some (.slice kA k.length kc) := hR4.cell rfl
    go_wp2_with fail
    refine (same_any k.length n k key kA B kc d _ (Lib.hid rfl) HN hxk hk h1 (by omega)).mono ?_
    rintro e' w5 ⟨rfl, hb5⟩
    have k1 : w5.cell? ⟨g, 1, none⟩ = some (.slice mA m'.length mc) := (hR4.later hb5).cell rfl
    obtain ⟨b1, hb1⟩ : ∃ b1, sameB k key = b1 := ⟨_, rfl⟩
    rw [hb1]
    cases b1 with
    | false =>
      have hf : Hid (decide ((key, msg) ∈ conT ts ∧ tagT (conT ts) (key, msg) = tag) = false) := decide_eq_false fun h => by
        have h3 := HI.out.2 h
        have h4 : k = key := congrArg Prod.fst h3.2
        rw [(sameB_iff k key).2 h4] at hb1
        cases hb1
      go_wp2_with fail
      go_ret
      exact ⟨by rw [hf.out]; rfl, below_step HB.out hb5⟩
    | true =>
      go_wp2_with fail
      refine (same_any m'.length m m' msg mA C mc e _ (Lib.hid rfl) HM (hxm.keep hb5) (hm.keep hb5) h2 (by omega)).mono ?_
      rintro e' w6 ⟨rfl, hb6⟩
      have HE : Hid (decide ((key, msg) ∈ conT ts ∧ tagT (conT ts) (key, msg) = tag) = sameB m' msg) := by
        unfold Hid
        rw [Bool.eq_iff_iff, decide_eq_true_eq, sameB_iff, ← HI.out]
        have h4 := (sameB_iff k key).1 hb1
        constructor
        · intro h
          exact congrArg Prod.snd h.2
        · intro h
          subst h4 h
          refine ⟨?_, rfl⟩
          trivial
      go_wp2_with fail
      go_ret
      exact ⟨by rw [HE.out]; rfl, below_step HB.out (below_step hb5 hb6)⟩
  · have hu0 : (u == 0) = false := by simp [hu]
    have hf : Hid (decide ((key, msg) ∈ conT ts ∧ tagT (conT ts) (key, msg) = tag) = false) := decide_eq_false fun h => hu (HI.out.2 h).1
    go_wp2_with fail
    go_ret
    exact ⟨by rw [hf.out]; rfl, HB.out⟩
end Go.Proofs.YtmljhkdojopljaaGreatDoor
/-
  What the program's call copied of layer 6 answers: an engine in new memory. No conditions but those typed.
-/
namespace Go.Proofs.YtmljhkdojopljaaGreatDoor
set_option maxRecDepth 100000
open Go.RowKit
set_option linter.unusedSimpArgs false
set_option linter.unusedVariables false

def nilV : Value := .slice none 0 0
theorem make_terms (n : Nat) (hn : n ≤ 1000000) (w : World) : (Instr.makeSlice 46 (.int .i64 (n : Int)) (.int .i64 (n : Int))).run Tryz.prog w = .ok (.slice (some ⟨w.heap.size, 0, none⟩) n n) (w.alloc (.cells (List.replicate (n * 2) nilV).toArray 113)) := by
  obtain ⟨i0, hi, hz0, hz1, hz2⟩ := info_parts info_term
  have e : madeCells (Value.agg #[.slice none 0 0, .slice none 0 0]).cells (n * 2) = (List.replicate (n * 2) nilV).toArray := by
    apply Array.toList_inj.1
    apply List.ext_getElem
    · simp [madeCells]
    · intro i h1 h2
      simp only [madeCells, Value.cells, nilV]
      rcases Nat.mod_two_eq_zero_or_one i with h | h <;> simp [h]
  have := run_makeSlice (P := Tryz.prog) (w := w) 46 113 i0 (.agg #[.slice none 0 0, .slice none 0 0]) Tryz.underlying46 hi hz0 .i64 .i64 (n : Int) (n : Int) (by omega) (Int.le_refl _) (by rw [hz1]; omega) (by rw [hz2]; omega) (by omega)
  rw [hz1, Int.toNat_natCast, e] at this
  exact this

theorem Rd.setCells_row {w : World} {A : Option Addr} {L : List UInt8} (h : Rd vB w A L) {g : Nat} {t : TypeId} {l : List Value} (hR : Row w g t l) (hl : ∀ v ∈ l, ∀ x, v ≠ vB x) (o : Nat) (vs : List Value) : Rd vB (w.setCells g o vs) A L := fun hn => by
  obtain ⟨b, q, rfl, hc⟩ := h hn
  refine ⟨b, q, rfl, fun i hi => ?_⟩
  have hne : b ≠ g := by
    rintro rfl
    have h1 := hc i hi
    rw [hR.cell? (q + i)] at h1
    exact hl _ (List.mem_of_getElem? h1) _ rfl
  exact (World.cell?_setCells_out g vs o w ⟨b, q + i, none⟩ (fun e => absurd e hne)).trans (hc i hi)
theorem okT.setCells_row {w : World} {ts : List TD} (h : okT w ts) {g : Nat} {t : TypeId} {l : List Value} (hR : Row w g t l) (hl : ∀ v ∈ l, ∀ x, v ≠ vB x) (o : Nat) (vs : List Value) : okT (w.setCells g o vs) ts := fun x hx => by
  obtain ⟨h1, h2, h3, h4⟩ := h x hx
  exact ⟨h1, h2, h3.setCells_row hR hl o vs, h4.setCells_row hR hl o vs⟩
/-- The cells of a row of terms, the first of which are laid. -/
def halfT (us : List TD) (p : Nat) : List Value := cellsT us ++ List.replicate ((p - us.length) * 2) nilV
theorem halfT_no_byte (us : List TD) (p : Nat) : ∀ v ∈ halfT us p, ∀ x, v ≠ vB x := fun v hv x => by
  rcases List.mem_append.1 hv with h | h
  · obtain ⟨y, _, hy⟩ := List.mem_flatMap.1 h
    simp [TD.cells, TD.at0, TD.at1] at hy
    rcases hy with rfl | rfl
    · exact slice_no_byte _ _ _ x
    · exact slice_no_byte _ _ _ x
  · rw [(List.mem_replicate.1 h).2]
    exact slice_no_byte _ _ _ x
theorem halfT_length (us : List TD) (p : Nat) (h : us.length ≤ p) : (halfT us p).length = p * 2 := by
  unfold halfT
  rw [List.length_append, cellsT_length, List.length_replicate]
  omega
theorem halfT_next (us : List TD) (y : TD) (p : Nat) (h : us.length < p) : (halfT us p).take (us.length * 2) ++ [y.at0, y.at1] ++ (halfT us p).drop (us.length * 2 + 2) = halfT (us ++ [y]) p := by
  unfold halfT
  rw [List.take_left' (cellsT_length us), ← List.drop_drop, List.drop_left' (cellsT_length us), List.drop_replicate, cellsT_snoc, List.length_append]
  congr 2
  simp
  omega
theorem RdT.row {w : World} {g : Nat} {t : TypeId} {us : List TD} (h : Row w g t (cellsT us)) : RdT w (some ⟨g, 0, none⟩) us := fun _ => by
  refine ⟨g, 0, rfl, fun i hi => ?_⟩
  obtain ⟨g0, g1⟩ := cellsT_get us i hi
  rw [Nat.zero_add]
  exact ⟨h.cell g0, h.cell g1⟩

def CopyRel (K : Int) (ts : List TD) (A : Option Addr) (p c : Nat) (w : World) (i : Value) (wr : World) : Prop :=
  ∃ (k : Nat) (us : List TD), k ≤ p ∧ i = .int .i64 (k : Int) ∧ Hid (us.length = k) ∧ Row wr w.heap.size 48 [.int .i64 K, .slice A p c] ∧ Row wr (w.heap.size + 1) 48 [.int .i64 0, .slice none 0 0] ∧
    Row wr (w.heap.size + 2) 113 (halfT us p) ∧ okT wr us ∧ conT us = (conT ts).take k ∧ Below w.heap.size w wr
def termS (g : Nat) (a b : Value) (W : World) : Prop := W.cell? ⟨g, 0, none⟩ = some a ∧ W.cell? ⟨g, 1, none⟩ = some b

set_option maxHeartbeats 2000000 in
theorem ecopied_any (K : Int) (ts : List TD) (p : Nat) (A : Option Addr) (c : Nat) (w : World) (HP : Hid (ts.length = p)) (HL : Hid (lenT (conT ts))) (ht : RdT w A ts) (hok : okT w ts) (hp : p ≤ 1000000) (hc : p ≤ c) :
    Calls Tryz.prog 43 #[.agg #[.int .i64 K, .slice A p c]] w fun e w' => ∃ (us : List TD) (A' : Option Addr) (c' : Nat), e = .returned (.agg #[.int .i64 K, .slice A' p c']) ∧ Hid (us.length = p) ∧ p ≤ c' ∧ RdT w' A' us ∧ okT w' us ∧ Hid (conT us = conT ts) ∧ Below w.heap.size w w' := by
  obtain ⟨hR0, hB0⟩ := box_rows w 48 (.int .i64 K) (.slice A p c)
  have hR0' := hR0.alloc (.cells #[.int .i64 0, .slice none 0 0] 48)
  have hB1 := below_new hB0 (.cells #[.int .i64 0, .slice none 0 0] 48)
  have hR1 : Row ((w.alloc (.cells #[.int .i64 K, .slice A p c] 48)).alloc (.cells #[.int .i64 0, .slice none 0 0] 48)) (w.heap.size + 1) 48 [.int .i64 0, .slice none 0 0] := Row.new_at _ _ (by simp) _ _ _ rfl
  have hsz : ((w.alloc (.cells #[.int .i64 K, .slice A p c] 48)).alloc (.cells #[.int .i64 0, .slice none 0 0] 48)).heap.size = w.heap.size + 2 := by simp
  have HOK := Lib.hid hok
  clear hok
  go_enter Tryz.func43, Tryz.ntmps43
  go_upto_region 1 with fail
  generalize (w.alloc (.cells #[.int .i64 K, .slice A p c] 48)).alloc (.cells #[.int .i64 0, .slice none 0 0] 48) = W2 at hR0' hB1 hR1 hsz ⊢
  have c1 : W2.cell? ⟨w.heap.size, 1, none⟩ = some (.slice A p c) := hR0'.cell rfl
  have hmk := make_terms p hp W2
  rw [hsz] at hmk
  have hR2 : Row (W2.alloc (.cells (List.replicate (p * 2) nilV).toArray 113)) (w.heap.size + 2) 113 (halfT [] p) := Row.new_at _ _ hsz.symm _ _ _ rfl
  generalize (List.replicate (p * 2) nilV) = X at hmk hR2
  have hR0'' := hR0'.alloc (.cells X.toArray 113)
  have hR1'' := hR1.alloc (.cells X.toArray 113)
  have hB2 := below_new hB1 (.cells X.toArray 113)
  go_upto_region 2 with fail
  clear hmk c1 hR0 hB0 hR0' hR1 hB1 hsz
  generalize W2.alloc (.cells X.toArray 113) = W3 at hR2 hR0'' hR1'' hB2 ⊢
  have c1 : W3.cell? ⟨w.heap.size, 1, none⟩ = some (.slice A p c) := hR0''.cell rfl
  go_wp2_with fail
  go_loopw [13] (fun i wr => CopyRel K ts A p c w i wr) (fun i _ => p - (intOf i).toNat)
  case atStart => exact ⟨0, [], Nat.zero_le _, rfl, Lib.hid rfl, hR0'', hR1'', hR2, (fun x hx => by cases hx), by simp [conT], hB2⟩
  case round =>
    clear hR0'' hR1'' hR2 hB2 c1
    obtain ⟨k, us, hk1, rfl, HU, hR0, hR1, hR2, hus, hcon, hB⟩ := hrel
    have eU := HU.out
    subst eU
    clear HU
    by_cases hlt : us.length < p
    · have hlt' : us.length < ts.length := by rw [HP.out]; exact hlt
      obtain ⟨blk, o, rfl, hblk, hcell⟩ := ht.at hlt'
      have hx := (HOK.out ts[us.length] (List.getElem_mem hlt')).keep hB
      have hlen := lenT.at HL.out (List.getElem_mem hlt')
      have hlc : us.length < (conT ts).length := by rw [conT_length]; exact hlt'
      have HTK : Hid ((conT ts).take (us.length + 1) = conT us ++ [ts[us.length].c]) := by unfold Hid; rw [List.take_succ_eq_append_getElem hlc, conT_get ts _ hlt', hcon]
      obtain ⟨h0, h1⟩ := hcell _ hlt'
      have hc0 : wr.rangeAt blk (o + us.length * 2) [ts[us.length].at0, ts[us.length].at1] := fun j u hu => by
        match j, hu with
        | 0, hu => injection hu with hu; subst hu; exact (hB.cell (p := ⟨blk, o + us.length * 2, none⟩) hblk).trans h0
        | 1, hu => injection hu with hu; subst hu; exact (hB.cell (p := ⟨blk, o + us.length * 2 + 1, none⟩) hblk).trans h1
      generalize ts[us.length] = x at hx hlen HTK hc0
      have i0 : (0 : Int) ≤ (us.length : Int) := by omega
      have i1 : (us.length : Int) < (p : Int) := by omega
      have hRx : Row (wr.alloc (.cells #[.slice none 0 0, .slice none 0 0] 113)) wr.heap.size 113 [.slice none 0 0, .slice none 0 0] := Row.new wr _ _ _ rfl
      have HB := Lib.hid hB
      have HUS := Lib.hid hus
      clear h0 h1 hcell hk1 hB hcon hus
      go_upto_region 5 with (first
        | (refine wpList_load_mid rfl 113 (.tmp 16) rfl blk (o + us.length * 2) rfl [x.at0, x.at1] _ hc0 Tryz.underlying113 rfl (by exact size_term) ?_)
        | (refine wpList_store_row rfl 113 (.tmp 5) (.tmp 17) rfl wr.heap.size rfl [x.at0, x.at1] rfl _ _ hRx (by exact size_term) rfl (one_two _ _ rfl rfl) ?_))
      have hRy := hRx.setRow [x.at0, x.at1]
      have hbn : Below wr.heap.size wr ((wr.alloc (.cells #[.slice none 0 0, .slice none 0 0] 113)).setRow wr.heap.size [x.at0, x.at1].toArray) := below_setRow (below_new (Below.refl _ _) _) (Nat.le_refl _) _
      have hgx := hR2.lt
      generalize (wr.alloc (.cells #[.slice none 0 0, .slice none 0 0] 113)).setRow wr.heap.size [x.at0, x.at1].toArray = w1 at hRy hbn ⊢
      replace hx := hx.keep hbn
      replace hR0 := hR0.later hbn
      replace hR1 := hR1.later hbn
      replace hR2 := hR2.later hbn
      replace HUS := Lib.hid (HUS.out.keep hbn)
      replace HB := Lib.hid (below_step HB.out hbn)
      clear hbn hRx hc0
      generalize hgd : wr.heap.size = g1 at hRy hgx ⊢
      clear hgd
      obtain ⟨kA, kc, kl, mA, mc, ml⟩ := x
      unfold TD.at0 TD.at1 at *
      dsimp only at hlen hRy ⊢
      obtain ⟨hk1, hm1, hxk, hxm⟩ := hx
      dsimp only at hxk hxm
      have hS : termS g1 (.slice kA kl.length kc) (.slice mA ml.length mc) w1.drew := ⟨hRy.drew.cell rfl, hRy.drew.cell rfl⟩
      replace hxk := hxk.keep ((Below.refl w1.heap.size w1).drew)
      replace hxm := hxm.keep ((Below.refl w1.heap.size w1).drew)
      replace hRy := hRy.drew
      replace hR0 := hR0.drew
      replace hR1 := hR1.drew
      replace hR2 := hR2.drew
      replace HUS := Lib.hid (HUS.out.keep ((Below.refl w1.heap.size w1).drew))
      replace HB := Lib.hid HB.out.drew
      refine wp_region_plan_of (termS g1 (.slice kA kl.length kc) (.slice mA ml.length mc)) (.step 0 false (.step 1 false (.step 2 false (.step 3 false (.step 5 false (.step 6 false (.step 4 true (.step 7 true (.step 8 false (.step 9 false (.step 10 true .nil))))))))))) hS (by kernel_rfl) (by kernel_rfl) (by rfl) (by kernel_rfl) ?_
      generalize w1.drew = w1 at *
      iterate 6 (refine plan_read rfl (by rfl) (v := ?_) ?_ ?_; rotate_left 1; (intro W hW; (try dsimp only at hW); obtain ⟨hW0, hW1⟩ := hW; go_simp <;> with_reducible rfl); simp only [List.getElem_toArray, List.getElem_cons_zero, List.getElem_cons_succ, Act.put, List.setIfInBounds_toArray, List.set_cons_zero, List.set_cons_succ])
      refine plan_make_of rfl (by rfl) (fun K hK => ?_)
      go_simp
      refine (clone_at kl.length kl kA kc _ (Lib.hid rfl) hxk (by omega)).mono ?_
      rintro e' w2 ⟨A2, c2, rfl, hc2, hr2, hN2, hb2⟩
      replace hRy := hRy.later hb2
      refine hK.out _ _ ⟨hRy.cell rfl, hRy.cell rfl⟩ ?_
      clear hK K
      refine plan_make_of rfl (by rfl) (fun K hK => ?_)
      go_simp
      refine (clone_at ml.length ml mA mc _ (Lib.hid rfl) (hxm.keep hb2) (by omega)).mono ?_
      rintro e' w3 ⟨A3, c3, rfl, hc3, hr3, hN3, hb3⟩
      replace hRy := hRy.later hb3
      refine hK.out _ _ ⟨hRy.cell rfl, hRy.cell rfl⟩ ?_
      clear hK K
      have hb23 := below_step hb2 hb3
      replace hR0 := hR0.later hb23
      replace hR1 := hR1.later hb23
      replace hR2 := hR2.later hb23
      replace HUS := Lib.hid (HUS.out.keep hb23)
      replace HB := Lib.hid (below_step HB.out hb23)
      replace hr2 := hr2.keep hb3
      clear hb2 hb3 hb23 hxk hxm hN2 hN3 hS
      iterate 2 (refine plan_read rfl (by rfl) (v := ?_) ?_ ?_; rotate_left 1; (intro W hW; (try dsimp only at hW); obtain ⟨hW0, hW1⟩ := hW; go_simp <;> with_reducible rfl); simp only [List.getElem_toArray, List.getElem_cons_zero, List.getElem_cons_succ, Act.put, List.setIfInBounds_toArray, List.set_cons_zero, List.set_cons_succ])
      have hth : w3.there (w.heap.size + 2) (us.length * 2) 2 := fun j hj => by
        have hl := halfT_length us p (by omega)
        exact ⟨by rw [hR2.cell? (us.length * 2 + j), List.getElem?_eq_getElem (by omega)]; rfl, hR2.frozen _⟩
      have hnb := halfT_no_byte us p
      have hnx := halfT_next us ⟨A2, c2, kl, A3, c3, ml⟩ p hlt
      have hR2' := hR2.setCells [.slice A2 kl.length c2, .slice A3 ml.length c3] (us.length * 2) (by rw [halfT_length us p (by omega)]; simp; omega)
      have hus' : okT (w3.setCells (w.heap.size + 2) (us.length * 2) [.slice A2 kl.length c2, .slice A3 ml.length c3]) (us ++ [⟨A2, c2, kl, A3, c3, ml⟩]) :=
        (HUS.out.setCells_row hR2 hnb _ _).app (fun z hz => by
          simp at hz
          subst hz
          exact ⟨hc2, hc3, hr2.setCells_row hR2 hnb _ _, hr3.setCells_row hR2 hnb _ _⟩)
      have HREL : Hid (CopyRel K ts (some ⟨blk, o, none⟩) p c w (.int .i64 ((us.length : Int) + 1)) (w3.setCells (w.heap.size + 2) (us.length * 2) [.slice A2 kl.length c2, .slice A3 ml.length c3])) :=
        ⟨us.length + 1, us ++ [⟨A2, c2, kl, A3, c3, ml⟩], by omega, by go_num, by unfold Hid; simp, hR0.setCells_other (by omega) _ _, hR1.setCells_other (by omega) _ _, by rw [← hnx]; exact hR2', hus', by rw [conT_snoc, HTK.out]; rfl, below_setCells (by omega) _ _ HB.out⟩
      refine plan_make_of rfl (by rfl) (fun K hK => ?_)
      refine wp_store_mid 113 (.tmp 27) (.tmp 26) rfl (w.heap.size + 2) (us.length * 2) #[.slice A2 kl.length c2, .slice A3 ml.length c3] rfl rfl hth (by exact size_term) (by exact all_oneCell_toArray (one_two _ _ rfl rfl)) ?_
      refine hK.out _ _ ⟨(hRy.setCells_other (by omega) _ _).cell rfl, (hRy.setCells_other (by omega) _ _).cell rfl⟩ ?_
      clear hK K hus' hR2' hnx hnb hth HUS hR0 hR1 hR2 hRy hr2 hr3
      refine plan_done ?_
      go_wp2_with fail
      go_roundw
      case rel => exact HREL.out
      case measure => simp [intOf]; omega
    · have hul : us.length = p := by omega
      have hcu : conT us = conT ts := by rw [hcon, hul, ← HP.out, ← conT_length, List.take_length]
      have hh : halfT us p = cellsT us := by unfold halfT; rw [hul]; simp
      rw [hh] at hR2
      have c0 : wr.cell? ⟨w.heap.size, 0, none⟩ = some (.int .i64 K) := hR0.cell rfl
      have hrt : RdT wr (some ⟨w.heap.size + 2, 0, none⟩) us := RdT.row hR2
      have i1 : ¬ (us.length : Int) < (p : Int) := by omega
      have HB := Lib.hid hB
      have HC := Lib.hid hcu
      have HUL := Lib.hid hul
      clear hcu hh hcon hul hB hk1
      go_wp2_with (refine wpList_store_row rfl 48 (.tmp 2) (.tmp 32) rfl (w.heap.size + 1) rfl [.int .i64 K, .slice (some ⟨w.heap.size + 2, 0, none⟩) p p] rfl _ _ hR1 (by exact size_engine) rfl (one_pair _ _ rfl rfl) ?_)
      refine bodyPost_ret (results_cell_row (p := 2) (ty := 48) (by rfl) _ _ (w.heap.size + 1) 48 _ (0, 0) _ (by rfl) (by exact hR1.setRow _) Tryz.underlying48 (by rfl) (by exact size_engine)) (by rfl) ?_
      have hnb := two_no_byte 0 (.slice none 0 0) (slice_no_byte none 0 0)
      exact ⟨us, _, p, rfl, HUL, Nat.le_refl _, hrt.setRow_row hR1 _, hus.setRow_row hR1 hnb _, HC, below_setRow HB.out (by omega) _⟩
end Go.Proofs.YtmljhkdojopljaaGreatDoor
/-
  What the program's calls of layer 6 answer: New, Right, Tag, Fits. Condition: the package's table holds sixty-four words (for tags).
-/
namespace Go.Proofs.YtmljhkdojopljaaGreatDoor
set_option maxRecDepth 100000
open Go.RowKit
set_option linter.unusedSimpArgs false
set_option linter.unusedVariables false

/-- Three results, the first of them a whole block. -/
theorem results_row_tmp2 {P : Program} {fn : Func} {p u v : Tmp} {ty : TypeId} (h : fn.results = #[.cell p ty, .tmp u, .tmp v]) (tmps : Array Value) (w : World) (g : Nat) (t : TypeId) (l : List Value) (d : TypeDesc) (hp : tmps.getD p undef = .pointer (some ⟨g, 0, none⟩)) (hg : Row w g t l)
    (hu : P.underlying ty = some d) (hd : d.isRow = true) (hi : (P.info? ty).map (·.size) = some l.length) : (results fn tmps).run P w = .ok (.tuple #[.agg l.toArray, tmps.getD u undef, tmps.getD v undef]) w := by
  have e : (results fn tmps).run P w = ((asAddr (tmps.getD p undef)).run P w).andThen fun a w₁ => ((loadVar ty a).run P w₁).andThen fun x w₂ => .ok (.tuple #[x, tmps.getD u undef, tmps.getD v undef]) w₂ := by
    simp only [results, h]
    simp [Sem.run_bind, Result.andThen]
  rw [e, hp]
  simp only [asAddr, Sem.run_pure, Result.andThen_ok, hg.loadVar (P := P) ty d hu hd hi]
theorem maker_one (A : Option Addr) (c : Nat) (w : World) :
    Calls Tryz.prog 47 #[.agg #[.int .i64 1, .slice A 0 c]] w fun e w' => e = .returned (.tuple #[.iface 119 (.agg #[.int .i64 1, .slice A 0 c]), .bool true]) ∧ Below w.heap.size w w' := by
  obtain ⟨hR, hB⟩ := box_rows w 48 (.int .i64 1) (.slice A 0 c)
  have c0 : (w.alloc (.cells #[.int .i64 1, .slice A 0 c] 48)).cell? ⟨w.heap.size, 0, none⟩ = some (.int .i64 1) := hR.cell rfl
  go_enter Tryz.func47, Tryz.ntmps47
  go_wp2_with (refine wpList_load_part rfl 48 (.tmp 1) rfl w.heap.size 0 rfl _ _ hR [.int .i64 1, .slice A 0 c] (by rfl) _ Tryz.underlying48 rfl (by exact size_engine) ?_)
  refine (cright_any 1 0 A c _ (by omega)).mono ?_
  rintro e w' ⟨rfl, hb⟩
  have hd : decide ((0 : Nat) = 0) = true := rfl
  rw [hd]
  go_wp2_with fail
  go_ret2
  exact ⟨rfl, below_step hB hb⟩
theorem maker_two (ts : List TD) (p : Nat) (A : Option Addr) (c : Nat) (w : World) (HP : Hid (ts.length = p)) (HL : Hid (lenT (conT ts))) (ht : RdT w A ts) (hok : okT w ts) (hp : p ≤ 1000000000) (hc : p ≤ c) (HR : Hid (rightT (conT ts) = true)) :
    Calls Tryz.prog 47 #[.agg #[.int .i64 2, .slice A p c]] w fun e w' => e = .returned (.tuple #[.iface 120 (.agg #[.int .i64 2, .slice A p c]), .bool true]) ∧ Below w.heap.size w w' := by
  obtain ⟨hR, hB⟩ := box_rows w 48 (.int .i64 2) (.slice A p c)
  have c0 : (w.alloc (.cells #[.int .i64 2, .slice A p c] 48)).cell? ⟨w.heap.size, 0, none⟩ = some (.int .i64 2) := hR.cell rfl
  go_enter Tryz.func47, Tryz.ntmps47
  go_wp2_with (refine wpList_load_part rfl 48 (.tmp 1) rfl w.heap.size 0 rfl _ _ hR [.int .i64 2, .slice A p c] (by rfl) _ Tryz.underlying48 rfl (by exact size_engine) ?_)
  refine (sright_any ts 2 p A c _ HP HL (ht.keep hB) (hok.keep hB) hp hc).mono ?_
  rintro e w' ⟨rfl, hb⟩
  rw [HR.out]
  go_wp2_with fail
  go_ret2
  exact ⟨rfl, below_step hB hb⟩
theorem maker_bad (K : Int) (ts : List TD) (p : Nat) (A : Option Addr) (c : Nat) (w : World) (HP : Hid (ts.length = p)) (HL : Hid (lenT (conT ts))) (ht : RdT w A ts) (hok : okT w ts) (hp : p ≤ 1000000000) (hc : p ≤ c) (HR : Hid (rightE K (conT ts) = false)) :
    Calls Tryz.prog 47 #[.agg #[.int .i64 K, .slice A p c]] w fun e w' => e = .returned (.tuple #[.nilIface, .bool false]) ∧ Below w.heap.size w w' := by
  obtain ⟨hR, hB⟩ := box_rows w 48 (.int .i64 K) (.slice A p c)
  have c0 : (w.alloc (.cells #[.int .i64 K, .slice A p c] 48)).cell? ⟨w.heap.size, 0, none⟩ = some (.int .i64 K) := hR.cell rfl
  by_cases h1 : K = 1
  · subst h1
    have h0 : p ≠ 0 := fun h => by
      have e : conT ts = [] := List.length_eq_zero_iff.1 (by rw [conT_length, HP.out, h])
      have := HR.out
      rw [e, rightE_one] at this
      cases this
    have hd : Hid (decide (p = 0) = false) := decide_eq_false h0
    go_enter Tryz.func47, Tryz.ntmps47
    go_wp2_with (refine wpList_load_part rfl 48 (.tmp 1) rfl w.heap.size 0 rfl _ _ hR [.int .i64 1, .slice A p c] (by rfl) _ Tryz.underlying48 rfl (by exact size_engine) ?_)
    refine (cright_any 1 p A c _ hp).mono ?_
    rintro e w' ⟨rfl, hb⟩
    rw [hd.out]
    go_wp2_with fail
    go_ret2
    exact ⟨rfl, below_step hB hb⟩
  · have k1 : (K == 1) = false := by simp [h1]
    by_cases h2 : K = 2
    · subst h2
      have HF : Hid (rightT (conT ts) = false) := by
        have := HR.out
        unfold rightE at this
        unfold Hid
        simpa using this
      go_enter Tryz.func47, Tryz.ntmps47
      go_wp2_with (refine wpList_load_part rfl 48 (.tmp 1) rfl w.heap.size 0 rfl _ _ hR [.int .i64 2, .slice A p c] (by rfl) _ Tryz.underlying48 rfl (by exact size_engine) ?_)
      refine (sright_any ts 2 p A c _ HP HL (ht.keep hB) (hok.keep hB) hp hc).mono ?_
      rintro e w' ⟨rfl, hb⟩
      rw [HF.out]
      go_wp2_with fail
      go_ret2
      exact ⟨rfl, below_step hB hb⟩
    · have k2 : (K == 2) = false := by simp [h2]
      go_enter Tryz.func47, Tryz.ntmps47
      go_wp2_with fail
      go_ret2
      exact ⟨rfl, hB⟩

theorem rightE_any (K : Int) (ts : List TD) (p : Nat) (A : Option Addr) (c : Nat) (w : World) (HP : Hid (ts.length = p)) (HL : Hid (lenT (conT ts))) (ht : RdT w A ts) (hok : okT w ts) (hp : p ≤ 1000000) (hc : p ≤ c) :
    Calls Tryz.prog 21 #[.agg #[.int .i64 K, .slice A p c]] w fun e w' => e = .returned (.bool (rightE K (conT ts))) ∧ Below w.heap.size w w' := by
  obtain ⟨hR, hB⟩ := box_rows w 48 (.int .i64 K) (.slice A p c)
  have hm : Calls Tryz.prog 47 #[.agg #[.int .i64 K, .slice A p c]] (w.alloc (.cells #[.int .i64 K, .slice A p c] 48)) fun e w' => ∃ v, e = .returned (.tuple #[v, .bool (rightE K (conT ts))]) ∧ Below (w.alloc (.cells #[.int .i64 K, .slice A p c] 48)).heap.size (w.alloc (.cells #[.int .i64 K, .slice A p c] 48)) w' := by
    by_cases hr : rightE K (conT ts) = true
    · rw [hr]
      rcases rightE_cases hr with ⟨rfl, h0⟩ | ⟨rfl, hT⟩
      · have e0 : p = 0 := by rw [← HP.out, ← conT_length, h0]; rfl
        subst e0
        exact (maker_one A c _).mono fun e w' ⟨he, hb⟩ => ⟨_, he, hb⟩
      · exact (maker_two ts p A c _ HP HL (ht.keep hB) (hok.keep hB) (by omega) hc (Lib.hid hT)).mono fun e w' ⟨he, hb⟩ => ⟨_, he, hb⟩
    · rw [Bool.eq_false_iff.2 hr]
      exact (maker_bad K ts p A c _ HP HL (ht.keep hB) (hok.keep hB) (by omega) hc (Lib.hid (Bool.eq_false_iff.2 hr))).mono fun e w' ⟨he, hb⟩ => ⟨_, he, hb⟩
  generalize rightE K (conT ts) = r at hm ⊢
  go_enter Tryz.func21, Tryz.ntmps21
  go_wp2_with (refine wpList_load_part rfl 48 (.tmp 1) rfl w.heap.size 0 rfl _ _ hR [.int .i64 K, .slice A p c] (by rfl) _ Tryz.underlying48 rfl (by exact size_engine) ?_)
  refine hm.mono ?_
  rintro e w' ⟨v, rfl, hb⟩
  clear hm
  go_wp2_with fail
  go_ret
  exact ⟨rfl, below_step hB hb⟩
/-- What a tag's call hands back, by an engine that is right, and by another one. -/
def TagGood [Inhabited Tab] (K : Int) (ts : List TD) (x : Tm) (w : World) (e : Ending) (w' : World) : Prop :=
  ∃ (us : List TD) (p : Nat) (A : Option Addr) (c : Nat) (tA : Option Addr) (tc : Nat), e = .returned (.tuple #[.agg #[.int .i64 K, .slice A p c], .slice tA 8 tc, .int .i64 0]) ∧ Hid (us.length = p) ∧ p ≤ c ∧ 8 ≤ tc ∧ RdT w' A us ∧ okT w' us ∧ Hid (conT us = termsE K (conT ts) x) ∧ Rd vB w' tA (bytesE K (conT ts) x) ∧ Below w.heap.size w w'
def TagBad (K : Int) (ts : List TD) (w : World) (e : Ending) (w' : World) : Prop :=
  ∃ (us : List TD) (p : Nat) (A : Option Addr) (c : Nat) (tA : Option Addr) (tc : Nat), e = .returned (.tuple #[.agg #[.int .i64 K, .slice A p c], .slice tA 0 tc, .int .i64 1]) ∧ Hid (us.length = p) ∧ p ≤ c ∧ RdT w' A us ∧ okT w' us ∧ Hid (conT us = conT ts) ∧ Below w.heap.size w w'
theorem tagE_good [Inhabited Tab] (K : Int) (ts : List TD) (key msg : List UInt8) (p n m : Nat) (A B C : Option Addr) (c d e : Nat) (w : World) (HP : Hid (ts.length = p)) (HL : Hid (lenT (conT ts))) (HN : Hid (key.length = n)) (HM : Hid (msg.length = m)) (ht : RdT w A ts) (hok : okT w ts) (hk : Rd vB w B key) (hm : Rd vB w C msg) (hp : p ≤ 1000000) (hc : p ≤ c) (hn : n ≤ 1000000) (hmm : m ≤ 1000000) (hnd : n ≤ d) (hme : m ≤ e) (HR : Hid (rightE K (conT ts) = true)) (HK : Hid (KTab w)) :
    Calls Tryz.prog 57 #[.agg #[.int .i64 K, .slice A p c], .slice B n d, .slice C m e] w (TagGood K ts (key, msg) w) := by
  obtain ⟨hR, hB0⟩ := box_rows w 48 (.int .i64 K) (.slice A p c)
  have hR1 := hR.alloc (.cells #[.int .i64 0, .slice none 0 0] 48)
  have hB := below_new hB0 (.cells #[.int .i64 0, .slice none 0 0] 48)
  have hR2 : Row ((w.alloc (.cells #[.int .i64 K, .slice A p c] 48)).alloc (.cells #[.int .i64 0, .slice none 0 0] 48)) (w.heap.size + 1) 48 [.int .i64 0, .slice none 0 0] := Row.new_at _ _ (by simp) _ _ _ rfl
  replace ht := ht.keep hB
  replace hok := hok.keep hB
  replace hk := hk.keep hB
  replace hm := hm.keep hB
  replace HK := Lib.hid (HK.out.keep hB)
  clear hR hB0
  go_enter Tryz.func57, Tryz.ntmps57
  go_upto_region 1 with fail
  generalize (w.alloc (.cells #[.int .i64 K, .slice A p c] 48)).alloc (.cells #[.int .i64 0, .slice none 0 0] 48) = W2 at hR1 hR2 hB ht hok hk hm HK ⊢
  have hnb := two_no_byte 0 (.slice none 0 0) (slice_no_byte none 0 0)
  rcases rightE_cases HR.out with ⟨rfl, h0⟩ | ⟨rfl, hT⟩
  · have e0 : p = 0 := by rw [← HP.out, ← conT_length, h0]; rfl
    have e1 : ts = [] := List.length_eq_zero_iff.1 (by rw [HP.out, e0])
    subst e0 e1
    clear h0
    go_upto_region 2 with (first | (refine wpList_load_part rfl 48 (.tmp 3) rfl w.heap.size 0 rfl _ _ hR1 [.int .i64 1, .slice A 0 c] (by rfl) _ Tryz.underlying48 rfl (by exact size_engine) ?_) | (go_at_call 47; refine (maker_one A c _).mono ?_; rintro e' w3 ⟨rfl, hb⟩))
    replace hR2 := hR2.later hb
    replace hk := hk.keep hb
    replace hm := hm.keep hb
    replace HK := Lib.hid (HK.out.keep hb)
    replace hB := below_step hB hb
    clear hb hR1 ht hok
    go_wp2_with fail
    refine (ctag_any 1 key msg 0 n m A B C c d e _ HN HM hk hm hn hmm hnd HK).mono ?_
    rintro e' w4 ⟨tA, tc, rfl, htc, hr, hb⟩
    replace hR2 := hR2.later hb
    have HB := Lib.hid (below_step hB hb)
    clear hb hB hk hm
    have hR3 : Row (w4.alloc (.cells #[.int .i64 0, .slice none 0 0] 48)) w4.heap.size 48 [.int .i64 0, .slice none 0 0] := Row.new w4 _ _ _ rfl
    go_upto_region 5 with (refine wpList_store_row rfl 48 (.tmp 11) (.tmp 27) rfl w4.heap.size rfl [.int .i64 1, .slice none 0 0] rfl _ _ hR3 (by exact size_engine) rfl (one_pair _ _ rfl rfl) ?_)
    have hR4 := hR3.setRow [.int .i64 1, .slice none 0 0]
    have hbn : Below w4.heap.size w4 ((w4.alloc (.cells #[.int .i64 0, .slice none 0 0] 48)).setRow w4.heap.size [.int .i64 1, .slice none 0 0].toArray) := below_setRow (below_new (Below.refl _ _) _) (Nat.le_refl _) _
    generalize (w4.alloc (.cells #[.int .i64 0, .slice none 0 0] 48)).setRow w4.heap.size [.int .i64 1, .slice none 0 0].toArray = w5 at hR4 hbn ⊢
    replace hR2 := hR2.later hbn
    replace hr := hr.keep hbn
    replace HB := Lib.hid (below_step HB.out hbn)
    clear hR3 hbn
    generalize w4.heap.size = g at hR4 ⊢
    go_wp2_with (first | (refine wpList_load_part rfl 48 (.tmp 11) rfl g 0 rfl _ _ hR4 [.int .i64 1, .slice none 0 0] (by rfl) _ Tryz.underlying48 rfl (by exact size_engine) ?_) | (refine wpList_store_row rfl 48 (.tmp 6) (.tmp 29) rfl (w.heap.size + 1) rfl [.int .i64 1, .slice none 0 0] rfl _ _ hR2 (by exact size_engine) rfl (one_pair _ _ rfl rfl) ?_))
    refine bodyPost_ret (results_row_tmp2 (p := 6) (u := 7) (v := 8) (ty := 48) (by rfl) _ _ (w.heap.size + 1) 48 _ _ (by rfl) (by exact hR2.setRow _) Tryz.underlying48 (by rfl) (by exact size_engine)) (by rfl) ?_
    exact ⟨[], 0, none, 0, tA, tc, rfl, Lib.hid rfl, Nat.le_refl _, htc, RdT.nil, (fun x hx => by cases hx), rfl, hr.setRow_row hR2 hnb _, below_setRow HB.out (by omega) _⟩
  · go_upto_region 2 with (first | (refine wpList_load_part rfl 48 (.tmp 3) rfl w.heap.size 0 rfl _ _ hR1 [.int .i64 2, .slice A p c] (by rfl) _ Tryz.underlying48 rfl (by exact size_engine) ?_) | (go_at_call 47; refine (maker_two ts p A c _ HP HL ht hok (by omega) hc (Lib.hid hT)).mono ?_; rintro e' w3 ⟨rfl, hb⟩))
    replace hR2 := hR2.later hb
    replace ht := ht.keep hb
    replace hok := hok.keep hb
    replace hk := hk.keep hb
    replace hm := hm.keep hb
    replace hB := below_step hB hb
    clear hb hR1
    go_wp2_with fail
    refine (stag_any ts key msg p n m A B C c d e _ HP HN HM HL ht hok hk hm hp hc hn hmm).mono ?_
    rintro e' w4 ⟨us, q, A', c', tA, tc, rfl, HQ, hqc, htc, htu, hoku, HC, hr, hb⟩
    replace hR2 := hR2.later hb
    have HB := Lib.hid (below_step hB hb)
    clear hb hB hk hm ht hok
    have hR3 : Row (w4.alloc (.cells #[.int .i64 0, .slice none 0 0] 48)) w4.heap.size 48 [.int .i64 0, .slice none 0 0] := Row.new w4 _ _ _ rfl
    go_upto_region 5 with (refine wpList_store_row rfl 48 (.tmp 11) (.tmp 27) rfl w4.heap.size rfl [.int .i64 2, .slice A' q c'] rfl _ _ hR3 (by exact size_engine) rfl (one_pair _ _ rfl rfl) ?_)
    have hR4 := hR3.setRow [.int .i64 2, .slice A' q c']
    have hbn : Below w4.heap.size w4 ((w4.alloc (.cells #[.int .i64 0, .slice none 0 0] 48)).setRow w4.heap.size [.int .i64 2, .slice A' q c'].toArray) := below_setRow (below_new (Below.refl _ _) _) (Nat.le_refl _) _
    generalize (w4.alloc (.cells #[.int .i64 0, .slice none 0 0] 48)).setRow w4.heap.size [.int .i64 2, .slice A' q c'].toArray = w5 at hR4 hbn ⊢
    replace hR2 := hR2.later hbn
    replace hr := hr.keep hbn
    replace htu := htu.keep hbn
    replace hoku := hoku.keep hbn
    replace HB := Lib.hid (below_step HB.out hbn)
    clear hR3 hbn
    generalize w4.heap.size = g at hR4 ⊢
    go_wp2_with (first | (refine wpList_load_part rfl 48 (.tmp 11) rfl g 0 rfl _ _ hR4 [.int .i64 2, .slice A' q c'] (by rfl) _ Tryz.underlying48 rfl (by exact size_engine) ?_) | (refine wpList_store_row rfl 48 (.tmp 6) (.tmp 29) rfl (w.heap.size + 1) rfl [.int .i64 2, .slice A' q c'] rfl _ _ hR2 (by exact size_engine) rfl (one_pair _ _ rfl rfl) ?_))
    refine bodyPost_ret (results_row_tmp2 (p := 6) (u := 7) (v := 8) (ty := 48) (by rfl) _ _ (w.heap.size + 1) 48 _ _ (by rfl) (by exact hR2.setRow _) Tryz.underlying48 (by rfl) (by exact size_engine)) (by rfl) ?_
    exact ⟨us, q, A', c', tA, tc, rfl, HQ, hqc, htc, htu.setRow_row hR2 _, hoku.setRow_row hR2 hnb _, HC, hr.setRow_row hR2 hnb _, below_setRow HB.out (by omega) _⟩
theorem tagE_bad [Inhabited Tab] (K : Int) (ts : List TD) (key msg : List UInt8) (p n m : Nat) (A B C : Option Addr) (c d e : Nat) (w : World) (HP : Hid (ts.length = p)) (HL : Hid (lenT (conT ts))) (ht : RdT w A ts) (hok : okT w ts) (hp : p ≤ 1000000) (hc : p ≤ c) (HR : Hid (rightE K (conT ts) = false)) (HK : Hid (KTab w)) :
    Calls Tryz.prog 57 #[.agg #[.int .i64 K, .slice A p c], .slice B n d, .slice C m e] w (TagBad K ts w) := by
  obtain ⟨hR, hB0⟩ := box_rows w 48 (.int .i64 K) (.slice A p c)
  have hR1 := hR.alloc (.cells #[.int .i64 0, .slice none 0 0] 48)
  have hB := below_new hB0 (.cells #[.int .i64 0, .slice none 0 0] 48)
  have hR2 : Row ((w.alloc (.cells #[.int .i64 K, .slice A p c] 48)).alloc (.cells #[.int .i64 0, .slice none 0 0] 48)) (w.heap.size + 1) 48 [.int .i64 0, .slice none 0 0] := Row.new_at _ _ (by simp) _ _ _ rfl
  replace ht := ht.keep hB
  replace hok := hok.keep hB
  clear hR hB0
  go_enter Tryz.func57, Tryz.ntmps57
  go_upto_region 1 with fail
  generalize (w.alloc (.cells #[.int .i64 K, .slice A p c] 48)).alloc (.cells #[.int .i64 0, .slice none 0 0] 48) = W2 at hR1 hR2 hB ht hok ⊢
  go_wp2_with (refine wpList_load_part rfl 48 (.tmp 3) rfl w.heap.size 0 rfl _ _ hR1 [.int .i64 K, .slice A p c] (by rfl) _ Tryz.underlying48 rfl (by exact size_engine) ?_)
  refine (maker_bad K ts p A c _ HP HL ht hok (by omega) hc HR).mono ?_
  rintro e' w3 ⟨rfl, hb⟩
  replace hR1 := hR1.later hb
  replace hR2 := hR2.later hb
  replace ht := ht.keep hb
  replace hok := hok.keep hb
  replace hB := below_step hB hb
  clear hb
  go_wp2_with (refine wpList_load_part rfl 48 (.tmp 3) rfl w.heap.size 0 rfl _ _ hR1 [.int .i64 K, .slice A p c] (by rfl) _ Tryz.underlying48 rfl (by exact size_engine) ?_)
  refine (ecopied_any K ts p A c _ HP HL ht hok hp hc).mono ?_
  rintro e' w4 ⟨us, A', c', rfl, HU, hpc, hrt, hus, HC, hb⟩
  replace hR2 := hR2.later hb
  have HB := Lib.hid (below_step hB hb)
  clear hb hB hR1 ht hok
  go_wp2_with (refine wpList_store_row rfl 48 (.tmp 6) (.tmp 21) rfl (w.heap.size + 1) rfl [.int .i64 K, .slice A' p c'] rfl _ _ hR2 (by exact size_engine) rfl (one_pair _ _ rfl rfl) ?_)
  refine bodyPost_ret (results_row_tmp2 (p := 6) (u := 7) (v := 8) (ty := 48) (by rfl) _ _ (w.heap.size + 1) 48 _ _ (by rfl) (by exact hR2.setRow _) Tryz.underlying48 (by rfl) (by exact size_engine)) (by rfl) ?_
  have hnb := two_no_byte 0 (.slice none 0 0) (slice_no_byte none 0 0)
  exact ⟨us, p, A', c', none, 0, rfl, HU, hpc, hrt.setRow_row hR2 _, hus.setRow_row hR2 hnb _, HC, below_setRow HB.out (by omega) _⟩
theorem fitsE_any [Inhabited Tab] (K : Int) (ts : List TD) (key msg tag : List UInt8) (p n m q : Nat) (A B C D : Option Addr) (c d e f : Nat) (w : World) (HP : Hid (ts.length = p)) (HL : Hid (lenT (conT ts))) (HN : Hid (key.length = n)) (HM : Hid (msg.length = m)) (HQ : Hid (tag.length = q)) (ht : RdT w A ts) (hok : okT w ts) (hk : Rd vB w B key) (hm : Rd vB w C msg) (hg : Rd vB w D tag) (hp : p ≤ 1000000) (hc : p ≤ c) (hn : n ≤ 1000000) (hmm : m ≤ 1000000) (hq : q ≤ 1000000) (hnd : n ≤ d) (hme : m ≤ e) (hqf : q ≤ f) (HK : Hid (KTab w)) :
    Calls Tryz.prog 59 #[.agg #[.int .i64 K, .slice A p c], .slice B n d, .slice C m e, .slice D q f] w fun e w' => e = .returned (.bool (fitsE K (conT ts) (key, msg) tag)) ∧ Below w.heap.size w w' := by
  obtain ⟨hR, hB⟩ := box_rows w 48 (.int .i64 K) (.slice A p c)
  replace ht := ht.keep hB
  replace hok := hok.keep hB
  replace hk := hk.keep hB
  replace hm := hm.keep hB
  replace hg := hg.keep hB
  replace HK := Lib.hid (HK.out.keep hB)
  obtain ⟨r, hr⟩ : ∃ r, rightE K (conT ts) = r := ⟨_, rfl⟩
  cases r with
  | false =>
    have HF : Hid (fitsE K (conT ts) (key, msg) tag = false) := fitsE_wrong _ _ hr
    go_enter Tryz.func59, Tryz.ntmps59
    go_wp2_with (refine wpList_load_part rfl 48 (.tmp 4) rfl w.heap.size 0 rfl _ _ hR [.int .i64 K, .slice A p c] (by rfl) _ Tryz.underlying48 rfl (by exact size_engine) ?_)
    refine (maker_bad K ts p A c _ HP HL ht hok (by omega) hc (Lib.hid hr)).mono ?_
    rintro e' w3 ⟨rfl, hb⟩
    go_wp2_with fail
    go_ret
    exact ⟨by rw [HF.out]; rfl, below_step hB hb⟩
  | true =>
    rcases rightE_cases hr with ⟨rfl, h0⟩ | ⟨rfl, hT⟩
    · have e0 : p = 0 := by rw [← HP.out, ← conT_length, h0]; rfl
      have HF : Hid (fitsE 1 (conT ts) (key, msg) tag = decide ((macL key msg).take 8 = tag)) := by
        unfold Hid fitsE bytesE
        rw [hr]
        simp
      subst e0
      go_enter Tryz.func59, Tryz.ntmps59
      go_upto_region 2 with (first | (refine wpList_load_part rfl 48 (.tmp 4) rfl w.heap.size 0 rfl _ _ hR [.int .i64 1, .slice A 0 c] (by rfl) _ Tryz.underlying48 rfl (by exact size_engine) ?_) | (go_at_call 47; refine (maker_one A c _).mono ?_; rintro e' w3 ⟨rfl, hb⟩))
      replace hk := hk.keep hb
      replace hm := hm.keep hb
      replace hg := hg.keep hb
      replace HK := Lib.hid (HK.out.keep hb)
      replace hB := below_step hB hb
      clear hb hr ht hok h0
      go_wp2_with fail
      refine (cfits_any 1 key msg tag 0 n m q A B C D c d e f _ HN HM HQ hk hm hg hn hmm hq hnd HK).mono ?_
      rintro e' w4 ⟨rfl, hb⟩
      rw [← HF.out]
      go_wp2_with fail
      go_ret
      exact ⟨rfl, below_step hB hb⟩
    · have HF : Hid (fitsE 2 (conT ts) (key, msg) tag = decide ((key, msg) ∈ conT ts ∧ tagT (conT ts) (key, msg) = tag)) := by
        unfold Hid fitsE bytesE
        rw [hr]
        simp [Bool.decide_and]
      go_enter Tryz.func59, Tryz.ntmps59
      go_upto_region 2 with (first | (refine wpList_load_part rfl 48 (.tmp 4) rfl w.heap.size 0 rfl _ _ hR [.int .i64 2, .slice A p c] (by rfl) _ Tryz.underlying48 rfl (by exact size_engine) ?_) | (go_at_call 47; refine (maker_two ts p A c _ HP HL ht hok (by omega) hc (Lib.hid hT)).mono ?_; rintro e' w3 ⟨rfl, hb⟩))
      replace ht := ht.keep hb
      replace hok := hok.keep hb
      replace hk := hk.keep hb
      replace hm := hm.keep hb
      replace hg := hg.keep hb
      replace hB := below_step hB hb
      clear hb hr
      have HT := Lib.hid hT
      clear hT
      go_wp2_with fail
      refine (sfits_any 2 ts key msg tag p n m q A B C D c d e f _ HP HN HM HQ HL ht hok hk hm hg hp hc hn hmm hq HT).mono ?_
      rintro e' w4 ⟨rfl, hb⟩
      rw [← HF.out]
      go_wp2_with fail
      go_ret
      exact ⟨rfl, below_step hB hb⟩

end Go.Proofs.YtmljhkdojopljaaGreatDoor
/-
  Layer 14 as plain functions: an activation's bytes, and which activation any bytes are opened to, by whatever fits; sealed and opened; cut, and with more behind. No conditions but those typed.
-/
namespace Go.Proofs.YtmljhkdojopljaaGreatDoor
set_option maxRecDepth 100000
set_option linter.unusedVariables false
set_option linter.unusedSimpArgs false

/-- An activation's bytes. -/
def actB (t e d : Nat) (s : List UInt8) : List UInt8 := 65 :: (putL t ++ (putL e ++ (putL d ++ (UInt8.ofNat s.length :: s))))
abbrev ResA := Int × Nat × Nat × Nat × List UInt8
/-- How many bytes the Seed has, as told. -/
def seedN (b : List UInt8) : Nat := (b.getD 25 0).toNat
/-- Why the bytes are of no such form (0: they are). -/
def formA (b : List UInt8) : Int :=
  if b.length = 0 then 2 else if b.getD 0 0 ≠ 65 then 3 else if b.length < 26 then 2 else if seedN b = 0 ∨ 32 < seedN b then 3
  else if b.length < 34 + seedN b then 2 else if 34 + seedN b < b.length then 4 else 0
def textA (b : List UInt8) : List UInt8 := b.take (26 + seedN b)
def tagA (b : List UInt8) : List UInt8 := b.drop (26 + seedN b)
def valA (b : List UInt8) : ResA := (0, valN ((b.drop 1).take 8), valN ((b.drop 9).take 8), valN ((b.drop 17).take 8), (b.drop 26).take (seedN b))
/-- Which activation the bytes are opened to: the code, and it. -/
def openA (F : List UInt8 → List UInt8 → Bool) (b : List UInt8) : ResA :=
  if formA b = 0 then (if F (textA b) (tagA b) = true then valA b else (5, 0, 0, 0, [])) else (formA b, 0, 0, 0, [])
theorem act_length (t e d : Nat) (s : List UInt8) : (actB t e d s).length = 26 + s.length := by
  unfold actB
  simp only [List.length_cons, List.length_append, putL_dig, dig_length]
  omega
theorem formA_code (b : List UInt8) : 0 ≤ formA b ∧ formA b ≤ 4 := by
  unfold formA
  repeat' split
  all_goals omega
theorem openA_bad {F : List UInt8 → List UInt8 → Bool} {b : List UInt8} (h : (openA F b).1 ≠ 0) : openA F b = ((openA F b).1, 0, 0, 0, []) := by
  unfold openA at h ⊢
  split
  · rename_i h1
    rw [if_pos h1] at h
    split
    · rename_i h2
      rw [if_pos h2] at h
      exact absurd rfl h
    · rfl
  · rfl
theorem openA_code (F : List UInt8 → List UInt8 → Bool) (b : List UInt8) : 0 ≤ (openA F b).1 ∧ (openA F b).1 ≤ 5 := by
  have := formA_code b
  unfold openA
  split
  · split
    · exact ⟨Int.le_refl 0, (by decide : (0 : Int) ≤ 5)⟩
    · exact ⟨(by decide : (0 : Int) ≤ 5), Int.le_refl 5⟩
  · dsimp only
    omega
/-- The parts of what begins as an activation's bytes do. -/
theorem act_at0 (t e d : Nat) (s r : List UInt8) : (actB t e d s ++ r).getD 0 0 = 65 := rfl
theorem act_seed (t e d : Nat) (s r : List UInt8) (hs : s.length ≤ 32) : seedN (actB t e d s ++ r) = s.length := by
  have e1 : actB t e d s ++ r = (65 :: (putL t ++ (putL e ++ putL d))) ++ (UInt8.ofNat s.length :: (s ++ r)) := by
    unfold actB
    simp only [List.cons_append, List.append_assoc]
  have e2 : (65 :: (putL t ++ (putL e ++ putL d)) : List UInt8).length = 25 := by
    simp only [List.length_cons, List.length_append, putL_dig, dig_length]
  unfold seedN
  rw [e1, List.getD_eq_getElem?_getD, List.getElem?_append_right (by omega), e2]
  show (UInt8.ofNat s.length).toNat = _
  rw [UInt8.toNat_ofNat']
  omega
theorem drop_add {a r : List UInt8} {n m : Nat} (h : a.length = n) : (a ++ r).drop (n + m) = r.drop m := by
  subst h
  rw [List.drop_append]
  have : a.drop (a.length + m) = [] := List.drop_of_length_le (by omega)
  rw [this, List.nil_append, Nat.add_sub_cancel_left]
theorem take_add {a r : List UInt8} {n : Nat} (h : a.length = n) : (a ++ r).take n = a := by
  subst h
  rw [List.take_left]
theorem act_text {t e d : Nat} {s : List UInt8} (h2 : s.length ≤ 32) (r : List UInt8) : textA (actB t e d s ++ r) = actB t e d s := by
  unfold textA
  rw [act_seed t e d s r h2, take_add (act_length t e d s)]
theorem act_tag {t e d : Nat} {s : List UInt8} (h2 : s.length ≤ 32) (r : List UInt8) : tagA (actB t e d s ++ r) = r := by
  unfold tagA
  rw [act_seed t e d s r h2]
  have := drop_add (m := 0) (r := r) (act_length t e d s)
  rwa [List.drop_zero, Nat.add_zero] at this
section
variable {t e d : Nat} {s tag : List UInt8} (ht : t < 18446744073709551616) (he : e < 18446744073709551616) (hd : d < 18446744073709551616) (h1 : 1 ≤ s.length) (h2 : s.length ≤ 32)
theorem act_drops (r : List UInt8) : (actB t e d s ++ r).drop 1 = putL t ++ (putL e ++ (putL d ++ (UInt8.ofNat s.length :: (s ++ r)))) ∧ (actB t e d s ++ r).drop 9 = putL e ++ (putL d ++ (UInt8.ofNat s.length :: (s ++ r))) ∧
    (actB t e d s ++ r).drop 17 = putL d ++ (UInt8.ofNat s.length :: (s ++ r)) ∧ (actB t e d s ++ r).drop 26 = s ++ r := by
  have l8 : ∀ v, (putL v).length = 8 := fun v => by rw [putL_dig, dig_length]
  have e0 : actB t e d s ++ r = [65] ++ (putL t ++ (putL e ++ (putL d ++ (UInt8.ofNat s.length :: (s ++ r))))) := by
    unfold actB
    simp only [List.cons_append, List.append_assoc, List.nil_append]
  have d1 : (actB t e d s ++ r).drop 1 = putL t ++ (putL e ++ (putL d ++ (UInt8.ofNat s.length :: (s ++ r)))) := by rw [e0]; rfl
  have d9 : (actB t e d s ++ r).drop 9 = putL e ++ (putL d ++ (UInt8.ofNat s.length :: (s ++ r))) := by
    rw [e0]
    show (putL t ++ _).drop (8 + 0) = _
    rw [drop_add (l8 t), List.drop_zero]
  have d17 : (actB t e d s ++ r).drop 17 = putL d ++ (UInt8.ofNat s.length :: (s ++ r)) := by
    rw [e0]
    show (putL t ++ _).drop (8 + (8 + 0)) = _
    rw [drop_add (l8 t), drop_add (l8 e), List.drop_zero]
  refine ⟨d1, d9, d17, ?_⟩
  rw [e0]
  show (putL t ++ _).drop (8 + (8 + (8 + 1))) = _
  rw [drop_add (l8 t), drop_add (l8 e), drop_add (l8 d)]
  rfl
theorem act_val {t e d : Nat} {s : List UInt8} (ht : t < 18446744073709551616) (he : e < 18446744073709551616) (hd : d < 18446744073709551616) (h2 : s.length ≤ 32) (r : List UInt8) : valA (actB t e d s ++ r) = (0, t, e, d, s) := by
  obtain ⟨d1, d9, d17, d26⟩ := act_drops (t := t) (e := e) (d := d) (s := s) r
  have l8 : ∀ v, (putL v).length = 8 := fun v => by rw [putL_dig, dig_length]
  unfold valA
  rw [d1, d9, d17, d26, act_seed t e d s r h2, take_add (l8 t), take_add (l8 e), take_add (l8 d), take_add rfl, valN_putL t ht, valN_putL e he, valN_putL d hd]
include h1 h2
theorem act_form (r : List UInt8) : formA (actB t e d s ++ r) = if r.length < 8 then 2 else if 8 < r.length then 4 else 0 := by
  have hl := act_length t e d s
  have hs := act_seed t e d s r h2
  have hll : (actB t e d s ++ r).length = 26 + s.length + r.length := by rw [List.length_append, hl]
  unfold formA
  rw [hs, hll, act_at0, if_neg (by omega), if_neg (by simp), if_neg (by omega), if_neg (by omega)]
  by_cases h8 : r.length < 8
  · rw [if_pos (by omega), if_pos h8]
  · rw [if_neg (by omega), if_neg h8]
    by_cases h9 : 8 < r.length
    · rw [if_pos (by omega), if_pos h9]
    · rw [if_neg (by omega), if_neg h9]
include ht he hd
/-- What was sealed is opened as it was. -/
theorem open_seal (F : List UInt8 → List UInt8 → Bool) (h8 : tag.length = 8) (hF : F (actB t e d s) tag = true) : openA F (actB t e d s ++ tag) = (0, t, e, d, s) := by
  have hf : formA (actB t e d s ++ tag) = 0 := by rw [act_form h1 h2, if_neg (by omega), if_neg (by omega)]
  unfold openA
  rw [hf, if_pos rfl, act_text h2, act_tag h2, if_pos hF, act_val ht he hd h2]
end
/-- What is opened is the sealed bytes of that. -/
theorem open_good (F : List UInt8 → List UInt8 → Bool) (b : List UInt8) (t e d : Nat) (s : List UInt8) (h : openA F b = (0, t, e, d, s)) :
    ∃ tag, b = actB t e d s ++ tag ∧ tag.length = 8 ∧ F (actB t e d s) tag = true ∧ 1 ≤ s.length ∧ s.length ≤ 32 ∧ t < 18446744073709551616 ∧ e < 18446744073709551616 ∧ d < 18446744073709551616 := by
  unfold openA at h
  split at h
  · rename_i h0
    split at h
    · rename_i hF
      unfold formA at h0
      split at h0
      · omega
      · rename_i hl0
        split at h0
        · omega
        · rename_i h65
          split at h0
          · omega
          · rename_i h26
            split at h0
            · omega
            · rename_i hn
              split at h0
              · omega
              · rename_i ha
                split at h0
                · omega
                · rename_i hb
                  have hlen : b.length = 34 + seedN b := by omega
                  unfold valA at h
                  simp only [Prod.mk.injEq, true_and] at h
                  obtain ⟨e1, e2, e3, e4⟩ := h
                  have hsl : s.length = seedN b := by rw [← e4, List.length_take, List.length_drop]; omega
                  have l1 : ((b.drop 1).take 8).length = 8 := by rw [List.length_take, List.length_drop]; omega
                  have l2 : ((b.drop 9).take 8).length = 8 := by rw [List.length_take, List.length_drop]; omega
                  have l3 : ((b.drop 17).take 8).length = 8 := by rw [List.length_take, List.length_drop]; omega
                  have p1 : putL t = (b.drop 1).take 8 := by rw [← e1, putL_dig, dig_valN _ 8 l1]
                  have p2 : putL e = (b.drop 9).take 8 := by rw [← e2, putL_dig, dig_valN _ 8 l2]
                  have p3 : putL d = (b.drop 17).take 8 := by rw [← e3, putL_dig, dig_valN _ 8 l3]
                  have h65' : b.getD 0 0 = 65 := Classical.byContradiction h65
                  have htext : textA b = actB t e d s := by
                    unfold textA actB
                    rw [p1, p2, p3, hsl, show seedN b = (b.getD 25 0).toNat from rfl, UInt8.ofNat_toNat, ← e4]
                    have c0 : b = b.getD 0 0 :: b.drop 1 := by
                      cases b with
                      | nil => simp at hl0
                      | cons x b => rfl
                    have c25 : (b.drop 17).drop 8 = b.getD 25 0 :: b.drop 26 := by
                      rw [List.drop_drop, List.drop_eq_getElem_cons (by omega)]
                      congr 1
                      rw [List.getD_eq_getElem?_getD, List.getElem?_eq_getElem (by omega)]
                      rfl
                    have q17 : b.drop 17 = (b.drop 17).take 8 ++ (b.getD 25 0 :: b.drop 26) := by rw [← c25, List.take_append_drop]
                    have q9 : b.drop 9 = (b.drop 9).take 8 ++ b.drop 17 := by
                      have := (List.take_append_drop 8 (b.drop 9)).symm
                      rwa [List.drop_drop] at this
                    have q1 : b.drop 1 = (b.drop 1).take 8 ++ b.drop 9 := by
                      have := (List.take_append_drop 8 (b.drop 1)).symm
                      rwa [List.drop_drop] at this
                    have hfull : b = 65 :: ((b.drop 1).take 8 ++ ((b.drop 9).take 8 ++ ((b.drop 17).take 8 ++ (b.getD 25 0 :: b.drop 26)))) := by
                      rw [← q17, ← q9, ← q1, ← h65']
                      exact c0
                    have hN : (b.getD 25 0).toNat = seedN b := rfl
                    rw [hN]
                    generalize (b.drop 1).take 8 = x1 at *
                    generalize (b.drop 9).take 8 = x2 at *
                    generalize (b.drop 17).take 8 = x3 at *
                    generalize b.drop 26 = x4 at *
                    generalize b.getD 25 0 = x5 at *
                    generalize seedN b = m at *
                    conv => lhs; rw [hfull]
                    rw [show 26 + m = (25 + m) + 1 by omega, List.take_succ_cons]
                    congr 1
                    rw [List.take_append, List.take_of_length_le (by omega), l1]
                    congr 1
                    rw [List.take_append, List.take_of_length_le (by omega), l2]
                    congr 1
                    rw [List.take_append, List.take_of_length_le (by omega), l3]
                    congr 1
                    rw [show 25 + m - 8 - 8 - 8 = m + 1 by omega, List.take_succ_cons]
                  refine ⟨tagA b, ?_, ?_, by rw [← htext]; exact hF, by omega, by omega, ?_, ?_, ?_⟩
                  · rw [← htext]
                    exact (List.take_append_drop _ b).symm
                  · unfold tagA
                    rw [List.length_drop]
                    omega
                  · rw [← e1]; exact valN_lt8 _ (by omega)
                  · rw [← e2]; exact valN_lt8 _ (by omega)
                  · rw [← e3]; exact valN_lt8 _ (by omega)
    · simp only [Prod.mk.injEq] at h
      omega
  · rename_i h0
    simp only [Prod.mk.injEq] at h
    exact absurd h.1 h0
/-- Cut anywhere it is too short. -/
theorem open_cut (F : List UInt8 → List UInt8 → Bool) (t e d : Nat) (s tag : List UInt8) (h1 : 1 ≤ s.length) (h2 : s.length ≤ 32) (h8 : tag.length = 8) (k : Nat) (hk : k < (actB t e d s ++ tag).length) : openA F ((actB t e d s ++ tag).take k) = (2, 0, 0, 0, []) := by
  have hl := act_length t e d s
  have hll : (actB t e d s ++ tag).length = 26 + s.length + 8 := by rw [List.length_append, hl, h8]
  have hf : formA ((actB t e d s ++ tag).take k) = 2 := by
    have hkl : ((actB t e d s ++ tag).take k).length = k := by rw [List.length_take]; omega
    rcases Nat.eq_zero_or_pos k with hk0 | hk0
    · subst hk0
      rfl
    · by_cases h26 : k < 26
      · unfold formA
        rw [hkl, if_neg (by omega)]
        have h0 : ((actB t e d s ++ tag).take k).getD 0 0 = 65 := by
          rw [List.getD_eq_getElem?_getD, List.getElem?_take, if_pos hk0]
          rfl
        rw [h0, if_neg (by simp), if_pos h26]
      · have hs : seedN ((actB t e d s ++ tag).take k) = s.length := by
          have := act_seed t e d s tag h2
          unfold seedN at this ⊢
          rw [List.getD_eq_getElem?_getD, List.getElem?_take, if_pos (by omega), ← List.getD_eq_getElem?_getD]
          exact this
        have h0 : ((actB t e d s ++ tag).take k).getD 0 0 = 65 := by
          rw [List.getD_eq_getElem?_getD, List.getElem?_take, if_pos hk0]
          rfl
        unfold formA
        rw [hs, hkl, h0, if_neg (by omega), if_neg (by simp), if_neg (by omega), if_neg (by omega), if_pos (by omega)]
  unfold openA
  rw [hf, if_neg (by decide)]
theorem open_more (F : List UInt8 → List UInt8 → Bool) (t e d : Nat) (s tag : List UInt8) (h1 : 1 ≤ s.length) (h2 : s.length ≤ 32) (h8 : tag.length = 8) (c : UInt8) : openA F (actB t e d s ++ tag ++ [c]) = (4, 0, 0, 0, []) := by
  have hf : formA (actB t e d s ++ tag ++ [c]) = 4 := by
    rw [List.append_assoc, act_form h1 h2, if_neg (by rw [List.length_append]; omega), if_pos (by rw [List.length_append, List.length_singleton]; omega)]
  unfold openA
  rw [hf, if_neg (by decide)]
theorem act_inj {t e d t' e' d' : Nat} {s s' : List UInt8} (ht : t < 18446744073709551616) (he : e < 18446744073709551616) (hd : d < 18446744073709551616) (ht' : t' < 18446744073709551616) (he' : e' < 18446744073709551616) (hd' : d' < 18446744073709551616) (h1 : 1 ≤ s.length) (h2 : s.length ≤ 32) (h1' : 1 ≤ s'.length) (h2' : s'.length ≤ 32) (h : actB t e d s = actB t' e' d' s') : t = t' ∧ e = e' ∧ d = d' ∧ s = s' := by
  have v := act_val ht he hd h2 []
  rw [List.append_nil, h, ← List.append_nil (actB t' e' d' s'), act_val ht' he' hd' h2' []] at v
  simp only [Prod.mk.injEq, true_and] at v
  obtain ⟨rfl, rfl, rfl, rfl⟩ := v
  exact ⟨rfl, rfl, rfl, rfl⟩
end Go.Proofs.YtmljhkdojopljaaGreatDoor
/-
  What the program's package seal answers (landed code): Fault, Put, Check. Condition: the package's table holds sixty-four words (for tags).
-/
namespace Go.Proofs.YtmljhkdojopljaaGreatDoor
set_option maxRecDepth 100000
open Go.RowKit
set_option linter.unusedSimpArgs false
set_option linter.unusedVariables false

theorem faultA_any (k : Int) (w : World) :
    Calls Tryz.prog 44 #[.int .i64 k] w fun e w' => ∃ g, e = .returned (errV g) ∧ Flt w' g 4 k ∧ Below w.heap.size w w' ∧ w.heap.size ≤ g := by
  go_enter Tryz.func44, Tryz.ntmps44
  go_wp2_with fail
  go_ret
  exact ⟨_, rfl, Row.new w _ _ _ rfl, below_new (Below.refl _ _) _, Nat.le_refl _⟩

theorem errV_inj {g g' : Nat} (h : errV g = errV g') : g = g' := by
  unfold errV at h
  simp at h
  exact h

/-- Blocks of unlike types are unlike. -/
theorem Row.ne_type {w : World} {g g' : Nat} {t t' : TypeId} {l l' : List Value} (h : Row w g t l) (k : Row w g' t' l') (ht : t ≠ t') : g ≠ g' := fun e => by
  subst e
  have := h.symm.trans k
  simp at this
  exact ht this.2
theorem Flt.ne_engine {W : World} {f g : Nat} {s k : Int} {l : List Value} (h : Flt W f s k) (hg : Row W g 48 l) : f ≠ g := Row.ne_type h hg (by decide)

/-! ### Put -/
/-- Three results, the first of them a whole block. -/
def SealBad (K : Int) (ts : List TD) (w : World) (e : Ending) (w' : World) : Prop :=
  ∃ (us : List TD) (p : Nat) (A : Option Addr) (c g : Nat) (tA : Option Addr) (tc : Nat), e = .returned (.tuple #[.agg #[.int .i64 K, .slice A p c], .slice tA 0 tc, errV g]) ∧ Hid (us.length = p) ∧ p ≤ c ∧ RdT w' A us ∧ okT w' us ∧ Hid (conT us = conT ts) ∧ Flt w' g 4 1 ∧ Below w.heap.size w w'
/-- Put hands back the engine behind the tag, the bytes with the tag behind them, and no error. -/
def PutGood [Inhabited Tab] (K : Int) (ts : List TD) (key x : List UInt8) (w : World) (e₁ : Ending) (w' : World) : Prop :=
  ∃ (us : List TD) (p : Nat) (A : Option Addr) (c n : Nat) (tA : Option Addr) (tc : Nat), e₁ = .returned (.tuple #[.agg #[.int .i64 K, .slice A p c], .slice tA n tc, .nilIface]) ∧ Hid (us.length = p) ∧ p ≤ c ∧ RdT w' A us ∧ okT w' us ∧ Hid (conT us = termsE K (conT ts) (key, x)) ∧ Hid ((x ++ bytesE K (conT ts) (key, x)).length = n) ∧ n ≤ tc ∧ Rd vB w' tA (x ++ bytesE K (conT ts) (key, x)) ∧ Below w.heap.size w w'
set_option maxHeartbeats 4000000 in
theorem putE_bad [Inhabited Tab] (K : Int) (ts : List TD) (key x : List UInt8) (p n len : Nat) (A B D : Option Addr) (c bd f : Nat) (w : World) (HP : Hid (ts.length = p)) (HL : Hid (lenT (conT ts))) (ht : RdT w A ts) (hok : okT w ts) (hp : p ≤ 1000000) (hc : p ≤ c) (HR : Hid (rightE K (conT ts) = false)) (HK : Hid (KTab w)) :
    Calls Tryz.prog 45 #[.agg #[.int .i64 K, .slice A p c], .slice B n bd, .slice D len f] w (SealBad K ts w) := by
  obtain ⟨hR, hB0⟩ := box_rows w 48 (.int .i64 K) (.slice A p c)
  have hR1 := hR.alloc (.cells #[.int .i64 0, .slice none 0 0] 48)
  have hR2 : Row ((w.alloc (.cells #[.int .i64 K, .slice A p c] 48)).alloc (.cells #[.int .i64 0, .slice none 0 0] 48)) (w.heap.size + 1) 48 [.int .i64 0, .slice none 0 0] := Row.new_at _ _ (by simp) _ _ _ rfl
  have hB := below_new hB0 (.cells #[.int .i64 0, .slice none 0 0] 48)
  replace ht := ht.keep hB
  replace hok := hok.keep hB
  replace HK := Lib.hid (HK.out.keep hB)
  clear hR hB0
  go_enter Tryz.func45, Tryz.ntmps45
  go_upto_region 1 with fail
  generalize (w.alloc (.cells #[.int .i64 K, .slice A p c] 48)).alloc (.cells #[.int .i64 0, .slice none 0 0] 48) = W2 at hR1 hR2 hB ht hok HK ⊢
  go_wp2_with (refine wpList_load_part rfl 48 (.tmp 3) rfl w.heap.size 0 rfl _ _ hR1 [.int .i64 K, .slice A p c] (by rfl) _ Tryz.underlying48 rfl (by exact size_engine) ?_)
  refine (tagE_bad K ts key x p n len A B D c bd f _ HP HL ht hok hp hc HR HK).mono ?_
  rintro e' w4 ⟨us, q, A', c', tA, tc, rfl, HU, hpc, hrt, hus, HC, hb⟩
  replace hR2 := hR2.later hb
  replace hB := below_step hB hb
  clear hb hR1 ht hok HK
  have hR3 : Row (w4.alloc (.cells #[.int .i64 0, .slice none 0 0] 48)) w4.heap.size 48 [.int .i64 0, .slice none 0 0] := Row.new w4 _ _ _ rfl
  go_upto_region 2 with (refine wpList_store_row rfl 48 (.tmp 9) (.tmp 17) rfl w4.heap.size rfl [.int .i64 K, .slice A' q c'] rfl _ _ hR3 (by exact size_engine) rfl (one_pair _ _ rfl rfl) ?_)
  have hR4 := hR3.setRow [.int .i64 K, .slice A' q c']
  have hbn : Below w4.heap.size w4 ((w4.alloc (.cells #[.int .i64 0, .slice none 0 0] 48)).setRow w4.heap.size [.int .i64 K, .slice A' q c'].toArray) := below_setRow (below_new (Below.refl _ _) _) (Nat.le_refl _) _
  have hlt := hR2.lt
  generalize (w4.alloc (.cells #[.int .i64 0, .slice none 0 0] 48)).setRow w4.heap.size [.int .i64 K, .slice A' q c'].toArray = w5 at hR4 hbn ⊢
  replace hR2 := hR2.later hbn
  replace hrt := hrt.keep hbn
  replace hus := hus.keep hbn
  replace hB := below_step hB hbn
  clear hbn
  clear hR3
  generalize w4.heap.size = g4 at hR4 hlt ⊢
  go_upto_region 3 with fail
  have hS : termS g4 (.int .i64 K) (.slice A' q c') w5.drew := ⟨hR4.drew.cell rfl, hR4.drew.cell rfl⟩
  replace hR2 := hR2.drew
  replace hR4 := hR4.drew
  replace hrt := hrt.keep ((Below.refl w5.heap.size w5).drew)
  replace hus := hus.keep ((Below.refl w5.heap.size w5).drew)
  replace hB := hB.drew
  refine wp_region_plan_of (termS g4 (.int .i64 K) (.slice A' q c')) (.step 0 false (.step 1 false (.step 2 true (.step 3 true (.step 4 false (.step 5 false (.nil))))))) hS (by kernel_rfl) (by kernel_rfl) (by rfl) (by kernel_rfl) ?_
  generalize w5.drew = w6 at *
  iterate 2 (refine plan_read rfl (by rfl) (v := ?_) ?_ ?_; rotate_left 1; (intro W hW; (try dsimp only at hW); obtain ⟨hW0, hW1⟩ := hW; go_simp <;> with_reducible rfl); simp only [List.getElem_toArray, List.getElem_cons_zero, List.getElem_cons_succ, Act.put, List.setIfInBounds_toArray, List.set_cons_zero, List.set_cons_succ])
  (refine plan_make_of rfl (by rfl) (fun K hK => ?_); go_simp; refine (faultA_any 1 w6).mono ?_; rintro e' w7 ⟨g, rfl, hF, hb, hgg⟩; refine hK.out _ _ ⟨(hR4.later hb).cell rfl, (hR4.later hb).cell rfl⟩ ?_; clear hK K)
  have hlt2 := hR2.lt
  replace hR2 := hR2.later hb
  replace hR4 := hR4.later hb
  replace hB := below_step hB hb
  replace hrt := hrt.keep hb
  replace hus := hus.keep hb
  clear hb
  (refine plan_make_of rfl (by rfl) (fun K hK => ?_); refine Row.wp_store 48 (.tmp 6) (.tmp 22) rfl rfl [.int .i64 _, .slice A' q c'] rfl hR2 (by exact size_engine) rfl (one_pair _ _ rfl rfl) ?_; refine hK.out _ _ ⟨(hR4.setRow_other (by omega) _).cell rfl, (hR4.setRow_other (by omega) _).cell rfl⟩ ?_; clear hK K)
  iterate 2 (refine plan_read rfl (by rfl) (v := ?_) ?_ ?_; rotate_left 1; (intro W hW; (try dsimp only at hW); obtain ⟨hW0, hW1⟩ := hW; go_simp <;> with_reducible rfl); simp only [List.getElem_toArray, List.getElem_cons_zero, List.getElem_cons_succ, Act.put, List.setIfInBounds_toArray, List.set_cons_zero, List.set_cons_succ])
  refine plan_done ?_
  have hnb := two_no_byte 0 (.slice none 0 0) (slice_no_byte none 0 0)
  have hrt' := hrt.setRow_row hR2 [.int .i64 K, .slice A' q c'].toArray
  have hus' := hus.setRow_row hR2 hnb [.int .i64 K, .slice A' q c'].toArray
  have hF' : Flt (w7.setRow (w.heap.size + 1) [.int .i64 K, .slice A' q c'].toArray) g 4 1 := Row.setRow_other hF (by omega) _
  have hR5 := hR2.setRow [.int .i64 K, .slice A' q c']
  have hB5 := below_setRow hB (Nat.le_add_right _ 1) [.int .i64 K, .slice A' q c'].toArray
  generalize w7.setRow (w.heap.size + 1) [.int .i64 K, .slice A' q c'].toArray = w8 at hrt' hus' hF' hR5 hB5 ⊢
  go_wp2_with fail
  refine bodyPost_ret (results_row_tmp2 (p := 6) (u := 7) (v := 8) (ty := 48) (by rfl) _ _ (w.heap.size + 1) 48 _ _ (by rfl) (by exact hR5) Tryz.underlying48 (by rfl) (by exact size_engine)) (by rfl) ?_
  exact ⟨us, q, A', c', g, none, 0, rfl, HU, hpc, hrt', hus', HC, hF', hB5⟩
set_option maxHeartbeats 4000000 in
theorem putE_good [Inhabited Tab] (K : Int) (ts : List TD) (key x : List UInt8) (p n len : Nat) (A B D : Option Addr) (c bd f : Nat) (w : World) (HP : Hid (ts.length = p)) (HL : Hid (lenT (conT ts))) (ht : RdT w A ts) (hok : okT w ts) (hp : p ≤ 1000000) (hc : p ≤ c)
    (HN : Hid (key.length = n)) (hrk : Rd vB w B key) (hn : n ≤ 1000000) (hnb : n ≤ bd) (HX : Hid (x.length = len)) (hrx : Rd vB w D x) (hlx : len ≤ 1000000) (hxf : len ≤ f) (HR : Hid (rightE K (conT ts) = true)) (HK : Hid (KTab w)) :
    Calls Tryz.prog 45 #[.agg #[.int .i64 K, .slice A p c], .slice B n bd, .slice D len f] w (PutGood K ts key x w) := by
  obtain ⟨hR, hB0⟩ := box_rows w 48 (.int .i64 K) (.slice A p c)
  have hR1 := hR.alloc (.cells #[.int .i64 0, .slice none 0 0] 48)
  have hR2 : Row ((w.alloc (.cells #[.int .i64 K, .slice A p c] 48)).alloc (.cells #[.int .i64 0, .slice none 0 0] 48)) (w.heap.size + 1) 48 [.int .i64 0, .slice none 0 0] := Row.new_at _ _ (by simp) _ _ _ rfl
  have hB := below_new hB0 (.cells #[.int .i64 0, .slice none 0 0] 48)
  replace ht := ht.keep hB
  replace hok := hok.keep hB
  replace hrk := hrk.keep hB
  replace hrx := hrx.keep hB
  replace HK := Lib.hid (HK.out.keep hB)
  clear hR hB0
  go_enter Tryz.func45, Tryz.ntmps45
  go_upto_region 1 with fail
  generalize (w.alloc (.cells #[.int .i64 K, .slice A p c] 48)).alloc (.cells #[.int .i64 0, .slice none 0 0] 48) = W2 at hR1 hR2 hB ht hok hrk hrx HK ⊢
  have HTL := Lib.hid (bytesE_length K (conT ts) (key, x))
  go_wp2_with (refine wpList_load_part rfl 48 (.tmp 3) rfl w.heap.size 0 rfl _ _ hR1 [.int .i64 K, .slice A p c] (by rfl) _ Tryz.underlying48 rfl (by exact size_engine) ?_)
  refine (tagE_good K ts key x p n len A B D c bd f _ HP HL HN HX ht hok hrk hrx hp hc hn hlx hnb hxf HR HK).mono ?_
  rintro e' w4 ⟨us, q, A', c', tA, tc, rfl, HU, hpc, htc, hrt, hus, HC, hrg, hb⟩
  replace hR2 := hR2.later hb
  replace hrx := hrx.keep hb
  replace hB := below_step hB hb
  clear hb hR1 ht hok HK hrk
  have hR3 : Row (w4.alloc (.cells #[.int .i64 0, .slice none 0 0] 48)) w4.heap.size 48 [.int .i64 0, .slice none 0 0] := Row.new w4 _ _ _ rfl
  go_upto_region 2 with (refine wpList_store_row rfl 48 (.tmp 9) (.tmp 17) rfl w4.heap.size rfl [.int .i64 K, .slice A' q c'] rfl _ _ hR3 (by exact size_engine) rfl (one_pair _ _ rfl rfl) ?_)
  have hR4 := hR3.setRow [.int .i64 K, .slice A' q c']
  have hbn : Below w4.heap.size w4 ((w4.alloc (.cells #[.int .i64 0, .slice none 0 0] 48)).setRow w4.heap.size [.int .i64 K, .slice A' q c'].toArray) := below_setRow (below_new (Below.refl _ _) _) (Nat.le_refl _) _
  have hlt := hR2.lt
  generalize (w4.alloc (.cells #[.int .i64 0, .slice none 0 0] 48)).setRow w4.heap.size [.int .i64 K, .slice A' q c'].toArray = w5 at hR4 hbn ⊢
  replace hR2 := hR2.later hbn
  replace hrt := hrt.keep hbn
  replace hus := hus.keep hbn
  replace hrx := hrx.keep hbn
  replace hrg := hrg.keep hbn
  replace hB := below_step hB hbn
  clear hbn
  clear hR3
  generalize w4.heap.size = g4 at hR4 hlt ⊢
  go_upto_region 4 with fail
  have hS : termS g4 (.int .i64 K) (.slice A' q c') w5.drew := ⟨hR4.drew.cell rfl, hR4.drew.cell rfl⟩
  replace hR2 := hR2.drew
  replace hR4 := hR4.drew
  replace hrt := hrt.keep ((Below.refl w5.heap.size w5).drew)
  replace hus := hus.keep ((Below.refl w5.heap.size w5).drew)
  replace hrx := hrx.keep ((Below.refl w5.heap.size w5).drew)
  replace hrg := hrg.keep ((Below.refl w5.heap.size w5).drew)
  replace hB := hB.drew
  obtain ⟨T, hT⟩ : ∃ T, bytesE K (conT ts) (key, x) = T := ⟨_, rfl⟩
  have HT := Lib.hid hT
  rw [hT] at hrg HTL
  obtain ⟨Z, hZ⟩ : ∃ Z, x ++ T = Z := ⟨_, rfl⟩
  have HXZ : Hid (Z = x ++ T) := hZ.symm
  have HZL : Hid (Z.length = len + 8) := by unfold Hid; rw [← hZ, List.length_append, HX.out, HTL.out]
  clear hT hZ
  refine wp_region_plan_of (termS g4 (.int .i64 K) (.slice A' q c')) (.step 0 false (.step 1 false (.step 2 false (.step 3 true (.step 4 true (.step 5 true (.step 6 false (.step 7 false (.nil))))))))) hS (by kernel_rfl) (by kernel_rfl) (by rfl) (by kernel_rfl) ?_
  generalize w5.drew = w6 at *
  iterate 3 (refine plan_read rfl (by rfl) (v := ?_) ?_ ?_; rotate_left 1; (intro W hW; (try dsimp only at hW); obtain ⟨hW0, hW1⟩ := hW; go_simp <;> with_reducible rfl); simp only [List.getElem_toArray, List.getElem_cons_zero, List.getElem_cons_succ, Act.put, List.setIfInBounds_toArray, List.set_cons_zero, List.set_cons_succ])
  have hP : Rd vPart (w6.alloc (.cells #[.slice D len f, .slice tA 8 tc] 27)) (some ⟨w6.heap.size, 0, none⟩) [⟨D, f, x⟩, ⟨tA, tc, T⟩] := Rd.new_at w6 _ rfl _ _ _ (by simp [vPart, HX.out, HTL.out])
  have hb3 := below_new (Below.refl _ w6) (.cells #[.slice D len f, .slice tA 8 tc] 27)
  have hlt2 := hR2.lt
  (refine plan_make_of rfl (by rfl) (fun K hK => ?_); go_simp; refine hK.out _ _ ⟨(hR4.later hb3).cell rfl, (hR4.later hb3).cell rfl⟩ ?_; clear hK K)
  replace hR2 := hR2.later hb3
  replace hR4 := hR4.later hb3
  replace hB := below_step hB hb3
  replace hrt := hrt.keep hb3
  replace hus := hus.keep hb3
  replace hrx := hrx.keep hb3
  replace hrg := hrg.keep hb3
  have hsz : w6.heap.size < (w6.alloc (.cells #[.slice D len f, .slice tA 8 tc] 27)).heap.size := by simp
  generalize (w6.alloc (.cells #[.slice D len f, .slice tA 8 tc] 27)) = w7 at *
  (refine plan_make_of rfl (by rfl) (fun K hK => ?_); go_simp; refine (concat_two x T Z D tA f tc _ _ _ HXZ hP hrx hrg (by rw [HZL.out]; omega)).mono ?_; rintro e' w8 ⟨A8, c8, rfl, hc8, hr8, hN8, hb8⟩; refine hK.out _ _ ⟨(hR4.later hb8).cell rfl, (hR4.later hb8).cell rfl⟩ ?_; clear hK K)
  rw [HZL.out] at hc8
  replace hR2 := hR2.later hb8
  replace hR4 := hR4.later hb8
  replace hB := below_step hB hb8
  replace hrt := hrt.keep hb8
  replace hus := hus.keep hb8
  clear hb3 hP
  (refine plan_make_of rfl (by rfl) (fun K hK => ?_); refine Row.wp_store 48 (.tmp 6) (.tmp 25) rfl rfl [.int .i64 _, .slice A' q c'] rfl hR2 (by exact size_engine) rfl (one_pair _ _ rfl rfl) ?_; refine hK.out _ _ ⟨(hR4.setRow_other (by omega) _).cell rfl, (hR4.setRow_other (by omega) _).cell rfl⟩ ?_; clear hK K)
  iterate 2 (refine plan_read rfl (by rfl) (v := ?_) ?_ ?_; rotate_left 1; (intro W hW; (try dsimp only at hW); obtain ⟨hW0, hW1⟩ := hW; go_simp <;> with_reducible rfl); simp only [List.getElem_toArray, List.getElem_cons_zero, List.getElem_cons_succ, Act.put, List.setIfInBounds_toArray, List.set_cons_zero, List.set_cons_succ])
  refine plan_done ?_
  have hnb := two_no_byte 0 (.slice none 0 0) (slice_no_byte none 0 0)
  have hrt' := hrt.setRow_row hR2 [.int .i64 K, .slice A' q c'].toArray
  have hus' := hus.setRow_row hR2 hnb [.int .i64 K, .slice A' q c'].toArray
  have hr9 := hr8.setRow_row hR2 hnb [.int .i64 K, .slice A' q c'].toArray
  have hR5 := hR2.setRow [.int .i64 K, .slice A' q c']
  have hB5 := below_setRow hB (Nat.le_add_right _ 1) [.int .i64 K, .slice A' q c'].toArray
  generalize w8.setRow (w.heap.size + 1) [.int .i64 K, .slice A' q c'].toArray = w9 at hrt' hus' hr9 hR5 hB5 ⊢
  go_wp2_with fail
  refine bodyPost_ret (results_row_tmp2 (p := 6) (u := 7) (v := 8) (ty := 48) (by rfl) _ _ (w.heap.size + 1) 48 _ _ (by rfl) (by exact hR5) Tryz.underlying48 (by rfl) (by exact size_engine)) (by rfl) ?_
  unfold PutGood
  rw [HT.out, ← HXZ.out, HZL.out]
  exact ⟨us, q, A', c', len + 8, A8, c8, rfl, HU, hpc, hrt', hus', HC, Lib.hid rfl, hc8, hr9, hB5⟩

/-! ### Check -/
/-- What is wrong with the tag behind the first bytes, if something is. -/
def checkE [Inhabited Tab] (K : Int) (cs : List Tm) (key b : List UInt8) (q : Nat) : Int := if b.length < q + 8 then 2 else if q + 8 < b.length then 4 else if fitsE K cs (key, b.take q) (b.drop q) = true then 0 else 5
theorem check_len [Inhabited Tab] {Kn : Int} {cs : List Tm} {key b : List UInt8} {q : Nat} (h : checkE Kn cs key b q = 0) : b.length = q + 8 := by
  unfold checkE at h
  split at h
  · omega
  · split at h
    · omega
    · omega
set_option maxHeartbeats 4000000 in
theorem checkE_any [Inhabited Tab] (Kn : Int) (ts : List TD) (key b : List UInt8) (p n len q : Nat) (A B D : Option Addr) (c bd f : Nat) (w : World) (HP : Hid (ts.length = p)) (HL : Hid (lenT (conT ts))) (ht : RdT w A ts) (hok : okT w ts) (hp : p ≤ 1000000) (hc : p ≤ c)
    (HN : Hid (key.length = n)) (hrk : Rd vB w B key) (hn : n ≤ 1000000) (hnb : n ≤ bd) (HB : Hid (b.length = len)) (hrb : Rd vB w D b) (hf : len ≤ f) (hl : len ≤ 1000000) (hq : q ≤ 1000000) (HK : Hid (KTab w)) :
    Calls Tryz.prog 46 #[.agg #[.int .i64 Kn, .slice A p c], .slice B n bd, .slice D len f, .int .i64 (q : Int)] w fun e w' => ∃ ev, e = .returned ev ∧ ErrV w' ev 4 (checkE Kn (conT ts) key b q) ∧ Below w.heap.size w w' ∧ ∀ g, ev = errV g → w.heap.size ≤ g := by
  obtain ⟨X, hX⟩ : ∃ X, checkE Kn (conT ts) key b q = X := ⟨_, rfl⟩
  rw [hX]
  unfold checkE at hX
  rw [HB.out] at hX
  obtain ⟨hR, hB⟩ := box_rows w 48 (.int .i64 Kn) (.slice A p c)
  replace ht := ht.keep hB
  replace hok := hok.keep hB
  replace hrk := hrk.keep hB
  replace hrb := hrb.keep hB
  replace HK := Lib.hid (HK.out.keep hB)
  go_enter Tryz.func46, Tryz.ntmps46
  go_upto_region 1 with fail
  generalize (w.alloc (.cells #[.int .i64 Kn, .slice A p c] 48)) = W2 at hR hB ht hok hrk hrb HK ⊢
  by_cases h1 : len < q + 8
  · rw [if_pos h1] at hX
    subst hX
    have z1 : (len : Int) < (q : Int) + 8 := by omega
    clear ht hok hrk hrb HK
    go_wp2_with fail
    refine (faultA_any 2 _).mono ?_
    rintro e' w5 ⟨g5, rfl, hF, hb, hgg⟩
    have hgB := hB.size
    go_wp2_with fail
    go_ret
    exact ⟨_, rfl, .inr ⟨by decide, g5, rfl, hF⟩, below_step hB hb, fun g hg => by have := errV_inj hg; omega⟩
  · rw [if_neg h1] at hX
    have z1 : ¬ (len : Int) < (q : Int) + 8 := by omega
    by_cases h2 : q + 8 < len
    · rw [if_pos h2] at hX
      subst hX
      have z2 : (q : Int) + 8 < (len : Int) := by omega
      clear ht hok hrk hrb HK
      go_wp2_with fail
      refine (faultA_any 4 _).mono ?_
      rintro e' w5 ⟨g5, rfl, hF, hb, hgg⟩
      have hgB := hB.size
      go_wp2_with fail
      go_ret
      exact ⟨_, rfl, .inr ⟨by decide, g5, rfl, hF⟩, below_step hB hb, fun g hg => by have := errV_inj hg; omega⟩
    · rw [if_neg h2] at hX
      have z2 : ¬ (q : Int) + 8 < (len : Int) := by omega
      have hlen : len = q + 8 := by omega
      obtain ⟨F, hF⟩ : ∃ F, fitsE Kn (conT ts) (key, b.take q) (b.drop q) = F := ⟨_, rfl⟩
      rw [hF] at hX
      have HF := Lib.hid hF
      have HX := Lib.hid hX
      have hrx : Rd vB W2 D (b.take q) := hrb.take _
      have HXL : Hid ((b.take q).length = q) := by unfold Hid; rw [List.length_take, HB.out]; omega
      have HGL : Hid ((b.drop q).length = 8) := by unfold Hid; rw [List.length_drop, HB.out]; omega
      have hcut1 := run_cut_to (P := Tryz.prog) 27 5 Tryz.underlying27 size_uint8 D len f q (by omega)
      obtain ⟨D2, hcut2, hdr⟩ := cut_from 27 5 Tryz.underlying27 size_uint8 D len f q (by omega) hf
      have hrg := hdr vB W2 b HB.out hrb
      rw [show len - q = 8 by omega] at hcut2
      have hf8 : 8 ≤ f - q := by omega
      have hqf : q ≤ f := by omega
      generalize b.take q = x at hrx HXL HF
      generalize b.drop q = g at hrg HGL HF
      have HLEN := Lib.hid hlen
      clear hdr hX hF h1 h2 hrb
      have k0 : (0 : Int) ≤ (q : Int) := by omega
      have k1 : (q : Int) ≤ (len : Int) := by omega
      clear hlen
      go_upto_region 6 with fail
      have hBase : Below W2.heap.size W2 W2.drew := (Below.refl _ _).drew
      have p0 : ∀ W, Below W2.heap.size W2 W → W.cell? ⟨w.heap.size, 0, none⟩ = some (.int .i64 Kn) := fun W hW => (hR.later hW).cell rfl
      have p1 : ∀ W, Below W2.heap.size W2 W → W.cell? ⟨w.heap.size, 1, none⟩ = some (.slice A p c) := fun W hW => (hR.later hW).cell rfl
      refine wp_region_plan (.step 0 false (.step 1 false (.step 2 false (.step 3 false (.step 4 false (.step 5 false (.step 6 false (.step 7 false (.step 8 true (.step 9 false (.step 10 false (.nil)))))))))))) (by kernel_rfl) (by kernel_rfl) (by rfl) (by kernel_rfl) ?_
      iterate 8 (refine plan_read rfl (by rfl) (v := ?_) ?_ ?_; rotate_left 1; (intro W hW; have hW0 := below_step hBase hW; (try dsimp only at hW); go_simp <;> with_reducible rfl); simp only [List.getElem_toArray, List.getElem_cons_zero, List.getElem_cons_succ, Act.put, List.setIfInBounds_toArray, List.set_cons_zero, List.set_cons_succ])
      (refine plan_make rfl (by rfl) (fun K hK => ?_); go_simp; (refine (fitsE_any Kn ts key x g p n q 8 A B D D2 c bd f (f - q) _ HP HL HN HXL HGL (ht.keep hBase) (hok.keep hBase) (hrk.keep hBase) (hrx.keep hBase) (hrg.keep hBase) hp hc hn hq (by omega) hnb hqf hf8 (Lib.hid (HK.out.keep hBase))).mono ?_; rintro e' w4 ⟨rfl, hbx⟩); refine hK.out _ _ hbx ?_; clear hK K; replace hBase := below_step hBase hbx)
      rw [HF.out]
      iterate 2 (refine plan_read rfl (by rfl) (v := ?_) ?_ ?_; rotate_left 1; (intro W hW; have hW0 := below_step hBase hW; (try dsimp only at hW); go_simp <;> with_reducible rfl); simp only [List.getElem_toArray, List.getElem_cons_zero, List.getElem_cons_succ, Act.put, List.setIfInBounds_toArray, List.set_cons_zero, List.set_cons_succ])
      refine plan_done ?_
      replace hB := below_step hB hBase
      clear p0 p1 hBase hcut1 hcut2 hrg hrk ht hok hR HK hrx
      cases F with
      | true =>
        have eX : X = 0 := HX.out.symm
        subst eX
        clear HX HF
        go_wp2_with fail
        go_ret
        exact ⟨_, rfl, .inl ⟨rfl, rfl⟩, hB, fun g hg => by cases hg⟩
      | false =>
        have eX : X = 5 := HX.out.symm
        subst eX
        clear HX HF
        go_wp2_with fail
        refine (faultA_any 5 w4).mono ?_
        rintro e' w5 ⟨g5, rfl, hF, hb, hgg⟩
        have hgB := hB.size
        go_wp2_with fail
        go_ret
        exact ⟨_, rfl, .inr ⟨by decide, g5, rfl, hF⟩, below_step hB hb, fun g hg => by have := errV_inj hg; omega⟩
end Go.Proofs.YtmljhkdojopljaaGreatDoor
/-
  What the program's Seal of layer 16 answers (landed code). Condition: the package's table holds sixty-four words (for tags).
-/
namespace Go.Proofs.YtmljhkdojopljaaGreatDoor
set_option maxRecDepth 100000
open Go.RowKit
set_option linter.unusedSimpArgs false
set_option linter.unusedVariables false

theorem bytesB_le {v : Nat} {es : List En} {gs : List Gn} (h : rightB es gs = true) : (bytesB v es gs).length ≤ 4500 := by
  obtain ⟨h1, h2, h3⟩ := right_b.1 h
  have h4 := okE_all h3
  have h5 := flatE_short es (fun x hx => (h4 x hx).2)
  have h6 := (right_parts.1 h2).2
  rw [bytesB_length, bytes_length]
  omega
set_option maxHeartbeats 2000000 in
theorem sealB_no (K : Int) (ts : List TD) (key : List UInt8) (p n : Nat) (A B : Option Addr) (c bd : Nat) (v ne ec ng gc : Nat) (es : List ED) (gs : List Gn) (eA gA : Option Addr) (w : World) (HP : Hid (ts.length = p)) (HL : Hid (lenT (conT ts))) (ht : RdT w A ts) (hok : okT w ts) (hp : p ≤ 1000000) (hc : p ≤ c) (HEN : Hid (es.length = ne)) (HGN : Hid (gs.length = ng)) (hre : RdE w eA es) (hoe : okD w es) (hrg : RdG w gA gs) (hv : v < 18446744073709551616) (hfe : fitE (conE es)) (HF : Hid (fitG gs)) (hne : ne ≤ 1000000000) (hng : ng ≤ 1000000000) (hml : ∀ x ∈ es, x.s.length ≤ 9223372036854775807) (hok2 : rightB (conE es) gs = false) :
    Calls Tryz.prog 19 #[.agg #[.int .i64 K, .slice A p c], .slice B n bd, aggB v eA ne ec gA ng gc] w (SealBad K ts w) := by
  obtain ⟨hR, hB0⟩ := box_rows w 48 (.int .i64 K) (.slice A p c)
  obtain ⟨hRa, hBa⟩ := box_three (w.alloc (.cells #[.int .i64 K, .slice A p c] 48)) 26 (.int .u64 (v : Int)) (.slice eA ne ec) (.slice gA ng gc)
  have hR1 := hR.later hBa
  have hB1 := below_step hB0 hBa
  have hz : (w.alloc (.cells #[.int .i64 K, .slice A p c] 48)).heap.size = w.heap.size + 1 := by simp
  rw [hz] at hRa
  have hR2 : Row (((w.alloc (.cells #[.int .i64 K, .slice A p c] 48)).alloc (.cells #[.int .u64 (v : Int), .slice eA ne ec, .slice gA ng gc] 26)).alloc (.cells #[.int .i64 0, .slice none 0 0] 48)) (w.heap.size + 2) 48 [.int .i64 0, .slice none 0 0] := Row.new_at _ _ (by simp) _ _ _ rfl
  replace hR1 := hR1.alloc (.cells #[.int .i64 0, .slice none 0 0] 48)
  replace hRa := hRa.alloc (.cells #[.int .i64 0, .slice none 0 0] 48)
  have hB := below_new hB1 (.cells #[.int .i64 0, .slice none 0 0] 48)
  replace ht := ht.keep hB
  replace hok := hok.keep hB
  have HOK := Lib.hid hok2
  have HML := Lib.hid hml
  clear hok2 hml
  replace hre := hre.keep hB
  replace hrg := hrg.keep hB
  clear hR hB0 hBa hB1 hz
  unfold aggB
  go_enter Tryz.func19, Tryz.ntmps19
  go_upto_region 1 with fail
  generalize ((w.alloc (.cells #[.int .i64 K, .slice A p c] 48)).alloc (.cells #[.int .u64 (v : Int), .slice eA ne ec, .slice gA ng gc] 26)).alloc (.cells #[.int .i64 0, .slice none 0 0] 48) = W2 at hR1 hR2 hRa hB ht hok hre hrg ⊢
  go_upto_region 2 with (first | (refine wpList_load_part rfl 26 (.tmp 5) rfl (w.heap.size + 1) 0 rfl _ _ hRa (cellsB v eA ne ec gA ng gc) (by rfl) _ Tryz.underlying26 rfl (by exact size_bundle) ?_) | (go_at_call 9; refine (bytesB_no v es gs ne ec ng gc eA gA _ HEN HGN hre hrg HF hne hng HML.out HOK.out).mono ?_; rintro e₁ w3 ⟨bA, bn, bc, rfl, HBN, hbc, hbr, hb⟩))
  replace hR1 := hR1.later hb
  replace hR2 := hR2.later hb
  replace ht := ht.keep hb
  replace hok := hok.keep hb
  replace hB := below_step hB hb
  clear hb hRa
  go_upto_region 3 with fail
  go_wp2_with (refine wpList_load_part rfl 48 (.tmp 3) rfl w.heap.size 0 rfl _ _ hR1 [.int .i64 K, .slice A p c] (by rfl) _ Tryz.underlying48 rfl (by exact size_engine) ?_)
  refine (ecopied_any K ts p A c _ HP HL ht hok hp hc).mono ?_
  rintro e' w4 ⟨us, A', c', rfl, HU, hpc, hrt, hus, HC, hb⟩
  replace hR2 := hR2.later hb
  replace hB := below_step hB hb
  clear hb hR1 ht hok
  go_wp2_with fail
  refine (faultA_any 1 w4).mono ?_
  rintro e' w5 ⟨g, rfl, hF, hb, hgg⟩
  have hlt := hR2.lt
  replace hR2 := hR2.later hb
  replace hB := below_step hB hb
  replace hrt := hrt.keep hb
  replace hus := hus.keep hb
  clear hb
  go_wp2_with (refine wpList_store_row rfl 48 (.tmp 6) (.tmp 19) rfl (w.heap.size + 2) rfl [.int .i64 K, .slice A' p c'] rfl _ _ hR2 (by exact size_engine) rfl (one_pair _ _ rfl rfl) ?_)
  refine bodyPost_ret (results_row_tmp2 (p := 6) (u := 7) (v := 8) (ty := 48) (by rfl) _ _ (w.heap.size + 2) 48 _ _ (by rfl) (by exact hR2.setRow _) Tryz.underlying48 (by rfl) (by exact size_engine)) (by rfl) ?_
  have hnb := two_no_byte 0 (.slice none 0 0) (slice_no_byte none 0 0)
  exact ⟨us, p, A', c', g, none, 0, rfl, HU, hpc, hrt.setRow_row hR2 _, hus.setRow_row hR2 hnb _, HC, Row.setRow_other hF (by omega) _, below_setRow hB (by omega) _⟩
set_option maxHeartbeats 4000000 in
theorem sealB_bad [Inhabited Tab] (K : Int) (ts : List TD) (key : List UInt8) (p n : Nat) (A B : Option Addr) (c bd : Nat) (v ne ec ng gc : Nat) (es : List ED) (gs : List Gn) (eA gA : Option Addr) (w : World) (HP : Hid (ts.length = p)) (HL : Hid (lenT (conT ts))) (ht : RdT w A ts) (hok : okT w ts) (hp : p ≤ 1000000) (hc : p ≤ c)
    (HEN : Hid (es.length = ne)) (HGN : Hid (gs.length = ng)) (hre : RdE w eA es) (hoe : okD w es) (hrg : RdG w gA gs) (hv : v < 18446744073709551616) (hfe : fitE (conE es)) (HF : Hid (fitG gs)) (hne : ne ≤ 1000000000) (hng : ng ≤ 1000000000) (hml : ∀ x ∈ es, x.s.length ≤ 9223372036854775807) (hok2 : rightB (conE es) gs = true) (HR : Hid (rightE K (conT ts) = false)) (HK : Hid (KTab w)) :
    Calls Tryz.prog 19 #[.agg #[.int .i64 K, .slice A p c], .slice B n bd, aggB v eA ne ec gA ng gc] w (SealBad K ts w) := by
  obtain ⟨hR, hB0⟩ := box_rows w 48 (.int .i64 K) (.slice A p c)
  obtain ⟨hRa, hBa⟩ := box_three (w.alloc (.cells #[.int .i64 K, .slice A p c] 48)) 26 (.int .u64 (v : Int)) (.slice eA ne ec) (.slice gA ng gc)
  have hR1 := hR.later hBa
  have hB1 := below_step hB0 hBa
  have hz : (w.alloc (.cells #[.int .i64 K, .slice A p c] 48)).heap.size = w.heap.size + 1 := by simp
  rw [hz] at hRa
  have hR2 : Row (((w.alloc (.cells #[.int .i64 K, .slice A p c] 48)).alloc (.cells #[.int .u64 (v : Int), .slice eA ne ec, .slice gA ng gc] 26)).alloc (.cells #[.int .i64 0, .slice none 0 0] 48)) (w.heap.size + 2) 48 [.int .i64 0, .slice none 0 0] := Row.new_at _ _ (by simp) _ _ _ rfl
  replace hR1 := hR1.alloc (.cells #[.int .i64 0, .slice none 0 0] 48)
  replace hRa := hRa.alloc (.cells #[.int .i64 0, .slice none 0 0] 48)
  have hB := below_new hB1 (.cells #[.int .i64 0, .slice none 0 0] 48)
  replace ht := ht.keep hB
  replace hok := hok.keep hB
  have HOK := Lib.hid hok2
  have HML := Lib.hid hml
  clear hok2 hml
  replace hre := hre.keep hB
  replace hoe := hoe.keep hB
  replace hrg := hrg.keep hB
  replace HK := Lib.hid (HK.out.keep hB)
  clear hR hB0 hBa hB1 hz
  unfold aggB
  go_enter Tryz.func19, Tryz.ntmps19
  go_upto_region 1 with fail
  generalize ((w.alloc (.cells #[.int .i64 K, .slice A p c] 48)).alloc (.cells #[.int .u64 (v : Int), .slice eA ne ec, .slice gA ng gc] 26)).alloc (.cells #[.int .i64 0, .slice none 0 0] 48) = W2 at hR1 hR2 hRa hB ht hok hre hoe hrg HK ⊢
  go_upto_region 2 with (first | (refine wpList_load_part rfl 26 (.tmp 5) rfl (w.heap.size + 1) 0 rfl _ _ hRa (cellsB v eA ne ec gA ng gc) (by rfl) _ Tryz.underlying26 rfl (by exact size_bundle) ?_) | (go_at_call 9; refine (bytesB_ok v es gs ne ec ng gc eA gA _ HEN HGN hre hoe hrg hv hfe HF HOK.out).mono ?_; rintro e₁ w3 ⟨bA, bn, bc, rfl, HBN, hbc, hbr, hb⟩))
  replace hR1 := hR1.later hb
  replace hR2 := hR2.later hb
  replace ht := ht.keep hb
  replace hok := hok.keep hb
  replace HK := Lib.hid (HK.out.keep hb)
  replace hB := below_step hB hb
  clear hb hRa
  go_upto_region 4 with fail
  go_wp2_with (refine wpList_load_part rfl 48 (.tmp 3) rfl w.heap.size 0 rfl _ _ hR1 [.int .i64 K, .slice A p c] (by rfl) _ Tryz.underlying48 rfl (by exact size_engine) ?_)
  refine (putE_bad K ts key (bytesB v (conE es) gs) p n bn A B bA c bd bc _ HP HL ht hok hp hc HR HK).mono ?_
  rintro e' w4 ⟨us, q, A', c', g, tA, tc, rfl, HU, hpc, hrt, hus, HC, hF, hb⟩
  have hlt := hR2.lt
  replace hR2 := hR2.later hb
  replace hB := below_step hB hb
  have hgne : g ≠ w.heap.size + 2 := hF.ne_engine hR2
  clear hb hR1 ht hok HK hbr
  have hnb := two_no_byte 0 (.slice none 0 0) (slice_no_byte none 0 0)
  go_wp2_with (refine wpList_store_row rfl 48 (.tmp 6) (.tmp 26) rfl (w.heap.size + 2) rfl [.int .i64 K, .slice A' q c'] rfl _ _ hR2 (by exact size_engine) rfl (one_pair _ _ rfl rfl) ?_)
  refine bodyPost_ret (results_row_tmp2 (p := 6) (u := 7) (v := 8) (ty := 48) (by rfl) _ _ (w.heap.size + 2) 48 _ _ (by rfl) (by exact hR2.setRow _) Tryz.underlying48 (by rfl) (by exact size_engine)) (by rfl) ?_
  exact ⟨us, q, A', c', g, tA, tc, rfl, HU, hpc, hrt.setRow_row hR2 _, hus.setRow_row hR2 hnb _, HC, Row.setRow_other hF hgne _, below_setRow hB (by omega) _⟩
set_option maxHeartbeats 4000000 in
theorem sealB_good [Inhabited Tab] (K : Int) (ts : List TD) (key : List UInt8) (p n : Nat) (A B : Option Addr) (c bd : Nat) (v ne ec ng gc : Nat) (es : List ED) (gs : List Gn) (eA gA : Option Addr) (w : World) (HP : Hid (ts.length = p)) (HL : Hid (lenT (conT ts))) (ht : RdT w A ts) (hok : okT w ts) (hp : p ≤ 1000000) (hc : p ≤ c)
    (HEN : Hid (es.length = ne)) (HGN : Hid (gs.length = ng)) (hre : RdE w eA es) (hoe : okD w es) (hrg : RdG w gA gs) (hv : v < 18446744073709551616) (hfe : fitE (conE es)) (HF : Hid (fitG gs)) (hne : ne ≤ 1000000000) (hng : ng ≤ 1000000000) (hml : ∀ x ∈ es, x.s.length ≤ 9223372036854775807) (hok2 : rightB (conE es) gs = true) (HN : Hid (key.length = n)) (hrk : Rd vB w B key) (hn : n ≤ 1000000) (hnb : n ≤ bd) (HR : Hid (rightE K (conT ts) = true)) (HK : Hid (KTab w)) :
    Calls Tryz.prog 19 #[.agg #[.int .i64 K, .slice A p c], .slice B n bd, aggB v eA ne ec gA ng gc] w (PutGood K ts key (bytesB v (conE es) gs) w) := by
  obtain ⟨hR, hB0⟩ := box_rows w 48 (.int .i64 K) (.slice A p c)
  obtain ⟨hRa, hBa⟩ := box_three (w.alloc (.cells #[.int .i64 K, .slice A p c] 48)) 26 (.int .u64 (v : Int)) (.slice eA ne ec) (.slice gA ng gc)
  have hR1 := hR.later hBa
  have hB1 := below_step hB0 hBa
  have hz : (w.alloc (.cells #[.int .i64 K, .slice A p c] 48)).heap.size = w.heap.size + 1 := by simp
  rw [hz] at hRa
  have hR2 : Row (((w.alloc (.cells #[.int .i64 K, .slice A p c] 48)).alloc (.cells #[.int .u64 (v : Int), .slice eA ne ec, .slice gA ng gc] 26)).alloc (.cells #[.int .i64 0, .slice none 0 0] 48)) (w.heap.size + 2) 48 [.int .i64 0, .slice none 0 0] := Row.new_at _ _ (by simp) _ _ _ rfl
  replace hR1 := hR1.alloc (.cells #[.int .i64 0, .slice none 0 0] 48)
  replace hRa := hRa.alloc (.cells #[.int .i64 0, .slice none 0 0] 48)
  have hB := below_new hB1 (.cells #[.int .i64 0, .slice none 0 0] 48)
  replace ht := ht.keep hB
  replace hok := hok.keep hB
  have HOK := Lib.hid hok2
  have HML := Lib.hid hml
  clear hok2 hml
  replace hre := hre.keep hB
  replace hoe := hoe.keep hB
  replace hrg := hrg.keep hB
  replace hrk := hrk.keep hB
  replace HK := Lib.hid (HK.out.keep hB)
  clear hR hB0 hBa hB1 hz
  unfold aggB
  go_enter Tryz.func19, Tryz.ntmps19
  go_upto_region 1 with fail
  generalize ((w.alloc (.cells #[.int .i64 K, .slice A p c] 48)).alloc (.cells #[.int .u64 (v : Int), .slice eA ne ec, .slice gA ng gc] 26)).alloc (.cells #[.int .i64 0, .slice none 0 0] 48) = W2 at hR1 hR2 hRa hB ht hok hre hoe hrg hrk HK ⊢
  go_upto_region 2 with (first | (refine wpList_load_part rfl 26 (.tmp 5) rfl (w.heap.size + 1) 0 rfl _ _ hRa (cellsB v eA ne ec gA ng gc) (by rfl) _ Tryz.underlying26 rfl (by exact size_bundle) ?_) | (go_at_call 9; refine (bytesB_ok v es gs ne ec ng gc eA gA _ HEN HGN hre hoe hrg hv hfe HF HOK.out).mono ?_; rintro e₁ w3 ⟨bA, bn, bc, rfl, HBN, hbc, hbr, hb⟩))
  replace hR1 := hR1.later hb
  replace hR2 := hR2.later hb
  replace ht := ht.keep hb
  replace hok := hok.keep hb
  replace HK := Lib.hid (HK.out.keep hb)
  replace hrk := hrk.keep hb
  replace hB := below_step hB hb
  clear hb hRa
  go_upto_region 4 with fail
  go_wp2_with (refine wpList_load_part rfl 48 (.tmp 3) rfl w.heap.size 0 rfl _ _ hR1 [.int .i64 K, .slice A p c] (by rfl) _ Tryz.underlying48 rfl (by exact size_engine) ?_)
  have hbl : bn ≤ 5000 := by have := HBN.out; have := bytesB_le HOK.out (v := v); omega
  refine (putE_good K ts key (bytesB v (conE es) gs) p n bn A B bA c bd bc _ HP HL ht hok hp hc HN hrk hn hnb HBN hbr (by omega) hbc HR HK).mono ?_
  rintro e' w4 ⟨us, q, A', c', n4, tA, tc, rfl, HU, hpc, hrt, hus, HC, HZ, hn4, hr8, hb⟩
  replace hR2 := hR2.later hb
  replace hB := below_step hB hb
  clear hb hR1 ht hok HK hbr hrk
  have hnb2 := two_no_byte 0 (.slice none 0 0) (slice_no_byte none 0 0)
  go_wp2_with (refine wpList_store_row rfl 48 (.tmp 6) (.tmp 26) rfl (w.heap.size + 2) rfl [.int .i64 K, .slice A' q c'] rfl _ _ hR2 (by exact size_engine) rfl (one_pair _ _ rfl rfl) ?_)
  refine bodyPost_ret (results_row_tmp2 (p := 6) (u := 7) (v := 8) (ty := 48) (by rfl) _ _ (w.heap.size + 2) 48 _ _ (by rfl) (by exact hR2.setRow _) Tryz.underlying48 (by rfl) (by exact size_engine)) (by rfl) ?_
  exact ⟨us, q, A', c', n4, tA, tc, rfl, HU, hpc, hrt.setRow_row hR2 _, hus.setRow_row hR2 hnb2 _, HC, HZ, hn4, hr8.setRow_row hR2 hnb2 _, below_setRow hB (by omega) _⟩

/-- What Seal hands back, in both ways. -/
def PutH [Inhabited Tab] (K : Int) (cs vs : List Tm) (key x : List UInt8) (ok : Bool) (X : List UInt8) (ev : Value) (W : World) : Prop :=
  (ev = .nilIface ∧ rightE K cs = true ∧ ok = true ∧ vs = termsE K cs (key, x) ∧ X = x ++ bytesE K cs (key, x)) ∨ ((∃ g, ev = errV g ∧ Flt W g 4 1) ∧ ¬ (rightE K cs = true ∧ ok = true) ∧ vs = cs ∧ X = [])
def PutA [Inhabited Tab] (K : Int) (ts : List TD) (key x : List UInt8) (ok : Bool) (w : World) (e₁ : Ending) (w' : World) : Prop :=
  ∃ (us : List TD) (p : Nat) (A : Option Addr) (c n : Nat) (tA : Option Addr) (tc : Nat) (X : List UInt8) (ev : Value), e₁ = .returned (.tuple #[.agg #[.int .i64 K, .slice A p c], .slice tA n tc, ev]) ∧ Hid (us.length = p) ∧ p ≤ c ∧ RdT w' A us ∧ okT w' us ∧ Hid (X.length = n) ∧ n ≤ tc ∧ Rd vB w' tA X ∧ Hid (PutH K (conT ts) (conT us) key x ok X ev w') ∧ Below w.heap.size w w'
theorem sealB_any [Inhabited Tab] (K : Int) (ts : List TD) (key : List UInt8) (p n : Nat) (A B : Option Addr) (c bd : Nat) (v ne ec ng gc : Nat) (es : List ED) (gs : List Gn) (eA gA : Option Addr) (w : World) (HP : Hid (ts.length = p)) (HL : Hid (lenT (conT ts))) (ht : RdT w A ts) (hok : okT w ts) (hp : p ≤ 1000000) (hc : p ≤ c)
    (HEN : Hid (es.length = ne)) (HGN : Hid (gs.length = ng)) (hre : RdE w eA es) (hoe : okD w es) (hrg : RdG w gA gs) (hv : v < 18446744073709551616) (hfe : fitE (conE es)) (HF : Hid (fitG gs)) (hne : ne ≤ 1000000000) (hng : ng ≤ 1000000000) (hml : ∀ x ∈ es, x.s.length ≤ 9223372036854775807) (HN : Hid (key.length = n)) (hrk : Rd vB w B key) (hn : n ≤ 1000000) (hnb : n ≤ bd) (HK : Hid (KTab w)) :
    Calls Tryz.prog 19 #[.agg #[.int .i64 K, .slice A p c], .slice B n bd, aggB v eA ne ec gA ng gc] w (PutA K ts key (bytesB v (conE es) gs) (rightB (conE es) gs) w) := by
  cases h : rightB (conE es) gs with
  | true =>
    cases hR : rightE K (conT ts) with
    | true =>
      refine (sealB_good K ts key p n A B c bd v ne ec ng gc es gs eA gA w HP HL ht hok hp hc HEN HGN hre hoe hrg hv hfe HF hne hng hml h HN hrk hn hnb (Lib.hid hR) HK).mono ?_
      rintro e₁ w' ⟨us, q, A', c', n', tA, tc, rfl, h1, h2, h3, h4, h5, h6, h7, h8, h9⟩
      exact ⟨us, q, A', c', n', tA, tc, _, _, rfl, h1, h2, h3, h4, h6, h7, h8, .inl ⟨rfl, hR, rfl, h5.out, rfl⟩, h9⟩
    | false =>
      refine (sealB_bad K ts key p n A B c bd v ne ec ng gc es gs eA gA w HP HL ht hok hp hc HEN HGN hre hoe hrg hv hfe HF hne hng hml h (Lib.hid hR) HK).mono ?_
      rintro e₁ w' ⟨us, q, A', c', g, tA, tc, rfl, h1, h2, h3, h4, h5, h6, h7⟩
      exact ⟨us, q, A', c', 0, tA, tc, [], _, rfl, h1, h2, h3, h4, Lib.hid rfl, Nat.zero_le _, Rd.nil, .inr ⟨⟨g, rfl, h6⟩, fun hh => absurd (hR.symm.trans hh.1) Bool.false_ne_true, h5.out, rfl⟩, h7⟩
  | false =>
    refine (sealB_no K ts key p n A B c bd v ne ec ng gc es gs eA gA w HP HL ht hok hp hc HEN HGN hre hoe hrg hv hfe HF hne hng hml h).mono ?_
    rintro e₁ w' ⟨us, q, A', c', g, tA, tc, rfl, h1, h2, h3, h4, h5, h6, h7⟩
    exact ⟨us, q, A', c', 0, tA, tc, [], _, rfl, h1, h2, h3, h4, Lib.hid rfl, Nat.zero_le _, Rd.nil, .inr ⟨⟨g, rfl, h6⟩, fun hh => Bool.false_ne_true hh.2, h5.out, rfl⟩, h7⟩
end Go.Proofs.YtmljhkdojopljaaGreatDoor
