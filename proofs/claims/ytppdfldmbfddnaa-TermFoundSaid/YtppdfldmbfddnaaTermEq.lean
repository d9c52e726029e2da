/-
  What bytes.Equal, bytes.Clone and the program's calls copied and tagOf of layer 5 answer. No conditions but those typed.
-/
import Derived.Test.YtppdfldmbfddnaaTermRight0
import Derived.Test.YtppdfldmbfddnaaTermOf
namespace Go.Proofs.Ytppdfldmbfddnaa
open Go.RowKit
set_option linter.unusedSimpArgs false
set_option linter.unusedVariables false

/-- Keys and texts that are not too long. -/
def lenT (cs : List Tm) : Prop := ∀ x ∈ cs, x.1.length ≤ 1000000000 ∧ x.2.length ≤ 1000000000
theorem lenT.nil : lenT [] := fun x hx => by cases hx
theorem lenT.put {cs : List Tm} {key msg : List UInt8} (h : lenT cs) (hk : key.length ≤ 1000000000) (hm : msg.length ≤ 1000000000) : lenT (putT cs (key, msg)) := by
  unfold putT
  split
  · exact h
  · intro x hx
    rcases List.mem_append.1 hx with hx | hx
    · exact h x hx
    · simp at hx
      subst hx
      exact ⟨hk, hm⟩
theorem lenT.short {cs : List Tm} (h : shortT cs = true) : lenT cs := by
  unfold shortT at h
  rw [decide_eq_true_eq] at h
  intro x hx
  have := h.2 x hx
  omega
theorem lenT.at {ts : List TD} (h : lenT (conT ts)) {x : TD} (hx : x ∈ ts) : x.k.length ≤ 1000000000 ∧ x.m.length ≤ 1000000000 := h x.c (List.mem_map_of_mem hx)

theorem equal_any (a b : List UInt8) (n m : Nat) (A B : Option Addr) (c d : Nat) (w : World) (HN : Hid (a.length = n)) (HM : Hid (b.length = m)) (ha : Rd vB w A a) (hb : Rd vB w B b) :
    Calls Try.prog 22 #[.slice A n c, .slice B m d] w fun e w' => e = .returned (.bool (decide (a = b))) ∧ w = w' := by
  have s0 : (convert 23 9 (.slice A n c)).run Try.prog w = .ok (.string (strL a)) w := run_str _ _ _ _ Try.underlying23 Try.underlying5 Try.underlying9 _ a _ _ HN.out ha
  have s1 : (convert 23 9 (.slice B m d)).run Try.prog w = .ok (.string (strL b)) w := run_str _ _ _ _ Try.underlying23 Try.underlying5 Try.underlying9 _ b _ _ HM.out hb
  have b0 := str_beq a b
  obtain ⟨r, hr⟩ : ∃ r, r = decide (a = b) := ⟨_, rfl⟩
  rw [← hr] at b0 ⊢
  generalize strL a = SA at s0 b0
  generalize strL b = SB at s1 b0
  clear hr ha hb
  go_enter Try.func22, Try.ntmps22
  go_wp2_with fail
  go_ret
  exact ⟨rfl, rfl⟩

theorem clone_b (b : List UInt8) (A : Option Addr) (c : Nat) (w : World) (hr : Rd vB w A b) (hl : b.length ≤ 70368744177664) : Calls Try.prog 23 #[.slice A b.length c] w (RetN vB w b) := by
  obtain ⟨i0, hi, hz0, hz1, hz2⟩ := info_parts info_u8
  cases A with
  | none =>
    have hb : b = [] := by
      by_cases h : b = []
      · exact h
      · obtain ⟨_, _, e, _⟩ := hr h
        cases e
    subst hb
    have hnil : ∀ W, (binOp .eql 23 (.slice none 0 c) (.slice none 0 0)).run Try.prog W = .ok (.bool true) W := fun W => Lib.run_eql_slice_nil W _ _ none 0 c 0 0 Try.underlying23
    go_enter Try.func23, Try.ntmps23
    go_wp2_with fail
    go_ret
    exact ⟨none, 0, rfl, Nat.le_refl _, Rd.nil, (fun a h => by cases h), Below.refl _ _⟩
  | some a =>
    have hnil : ∀ W, (binOp .eql 23 (.slice (some a) b.length c) (.slice none 0 0)).run Try.prog W = .ok (.bool false) W := fun W => Lib.run_eql_slice_nil W _ _ (some a) b.length c 0 0 Try.underlying23
    have hown0 : (w.alloc (.cells #[] 5)).ownsRow w.heap.size 5 1 (.slice (some ⟨w.heap.size, 0, none⟩) 0 0) 0 [] := World.ownsRow_made w #[] 0 (Nat.le_refl _) (by unfold maxLen; omega) rfl
    have hr0 : Rd vB (w.alloc (.cells #[] 5)) (some a) b := hr.keep (below_new (Below.refl _ _) _)
    go_enter Try.func23, Try.ntmps23
    go_wp2_with (at_builtin; refine wpList_append_rd _ rfl (.tmp 5) (.tmp 6) 23 rfl w.heap.size 5 i0 (.int .u8 0) 1 Try.underlying23 hi hz0 hz1 hz2 rfl _ _ _ rfl hown0 (some a) b c rfl hr0 vB_one (by unfold maxLen; omega) (by omega) (by simp) ?_; intro v1 w1 hown1 hgrow1)
    go_ret
    rw [Nat.zero_add, List.nil_append] at hown1
    exact RetN.own hown1 ((below_new (Below.refl _ w) _).grown hgrow1 (by simp) (fun k hk => (hown0.lt k hk).1))

/-- A term whose key and text lie in new memory. -/
def TD.new (B : Nat) (x : TD) : Prop := (∀ a, x.kA = some a → B ≤ a.block) ∧ (∀ a, x.mA = some a → B ≤ a.block)
/-- What copied hands back. -/
def CopRes (x : TD) (w : World) (e : Ending) (w' : World) : Prop :=
  ∃ y : TD, e = .returned (.agg #[y.at0, y.at1]) ∧ y.ok w' ∧ y.c = x.c ∧ y.new w.heap.size ∧ Below w.heap.size w w'

set_option maxHeartbeats 1000000 in
theorem copied_any (x : TD) (w : World) (hkr : Rd vB w x.kA x.k) (hmr : Rd vB w x.mA x.m) (hk : x.k.length ≤ 1000000000) (hm : x.m.length ≤ 1000000000) :
    Calls Try.prog 16 #[.agg #[x.at0, x.at1]] w (CopRes x w) := by
  obtain ⟨kA, kc, k, mA, mc, m⟩ := x
  unfold TD.at0 TD.at1 at *
  dsimp only at hkr hmr hk hm ⊢
  have hR0 : Row (w.alloc (.cells #[.slice kA k.length kc, .slice mA m.length mc] 29)) w.heap.size 29 [.slice kA k.length kc, .slice mA m.length mc] := Row.new w _ _ _ rfl
  have hB0 := below_new (Below.refl _ w) (.cells #[.slice kA k.length kc, .slice mA m.length mc] 29)
  have hR1 := hR0.alloc (.cells #[.slice none 0 0, .slice none 0 0] 29)
  have hB1 := below_new hB0 (.cells #[.slice none 0 0, .slice none 0 0] 29)
  have hR2 : Row ((w.alloc (.cells #[.slice kA k.length kc, .slice mA m.length mc] 29)).alloc (.cells #[.slice none 0 0, .slice none 0 0] 29)) (w.heap.size + 1) 29 [.slice none 0 0, .slice none 0 0] := Row.new_at _ _ (by simp) _ _ _ rfl
  go_enter Try.func16, Try.ntmps16
  go_upto_region 1 with fail
  generalize (w.alloc (.cells #[.slice kA k.length kc, .slice mA m.length mc] 29)).alloc (.cells #[.slice none 0 0, .slice none 0 0] 29) = W2 at hR1 hB1 hR2 ⊢
  have hc0 : ∀ W, Below (w.heap.size + 1) W2 W → W.cell? ⟨w.heap.size, 0, none⟩ = some (.slice kA k.length kc) := fun W hW => (hR1.keep hW (by omega)).cell rfl
  have hc1 : ∀ W, Below (w.heap.size + 1) W2 W → W.cell? ⟨w.heap.size, 1, none⟩ = some (.slice mA m.length mc) := fun W hW => (hR1.keep hW (by omega)).cell rfl
  have hlt := hR2.lt
  have hBase : Below (w.heap.size + 1) W2 W2.drew := (Below.refl _ _).drew
  have hk2 : Rd vB W2.drew kA k := hkr.keep hB1.drew
  clear hR0 hB0
  refine wp_region_plan_at (w.heap.size + 1) (.step 0 false (.step 1 false (.step 3 false (.step 4 false (.step 2 true (.step 5 true (.step 6 false (.step 7 true .nil)))))))) (by kernel_rfl) (by kernel_rfl) (by rfl) (by kernel_rfl) ?_
  iterate 4 (refine plan_read rfl (by rfl) (v := ?_) ?_ ?_; rotate_left 1; (intro W hW; have hW0 := Below.trans hBase hW; (try dsimp only at hW); go_simp <;> with_reducible rfl); simp only [List.getElem_toArray, List.getElem_cons_zero, List.getElem_cons_succ, Act.put, List.setIfInBounds_toArray, List.set_cons_zero, List.set_cons_succ])
  (refine plan_make_at rfl (by rfl) (fun K hK => ?_); go_simp; refine (clone_b k kA kc _ hk2 (by omega)).mono ?_; rintro e w3 ⟨A3, c3, rfl, hc3, hr3, hN3, hb3⟩; have hz3 : W2.heap.size ≤ w3.heap.size := hb3.size; refine hK.out _ _ (hb3.mono (Nat.le_of_lt hlt)) ?_; clear hK K; replace hBase := hBase.trans (hb3.mono (Nat.le_of_lt hlt)))
  have hB3 := below_step hB1.drew hb3
  have hR3 := hR2.drew.later hb3
  have hm3 : Rd vB w3 mA m := hmr.keep hB3
  (refine plan_make_at rfl (by rfl) (fun K hK => ?_); go_simp; refine (clone_b m mA mc _ hm3 (by omega)).mono ?_; rintro e w4 ⟨A4, c4, rfl, hc4, hr4, hN4, hb4⟩; have hz4 : w3.heap.size ≤ w4.heap.size := hb4.size; refine hK.out _ _ (hb4.mono (by omega)) ?_; clear hK K; replace hBase := hBase.trans (hb4.mono (by omega)))
  have hB4 := below_step hB3 hb4
  have hR4 := hR3.later hb4
  have hr3' := hr3.keep hb4
  iterate 1 (refine plan_read rfl (by rfl) (v := ?_) ?_ ?_; rotate_left 1; (intro W hW; have hW0 := hBase.trans hW; (try dsimp only at hW); go_simp <;> with_reducible rfl); simp only [List.getElem_toArray, List.getElem_cons_zero, List.getElem_cons_succ, Act.put, List.setIfInBounds_toArray, List.set_cons_zero, List.set_cons_succ])
  (refine plan_make_at rfl (by rfl) (fun K hK => ?_); refine Row.wp_store 29 (.tmp 2) (.tmp 9) rfl rfl [.slice A3 k.length c3, .slice A4 m.length c4] rfl hR4 (by exact size_term) rfl (one_two _ _ rfl rfl) ?_; refine hK.out _ _ (below_setRow (Below.refl _ _) (Nat.le_refl _) _) ?_; clear hK K)
  refine plan_done ?_
  have hd : W2.drew.heap.size = W2.heap.size := rfl
  have hr3'' := hr3'.setRow (g := w.heap.size + 1) [.slice A3 k.length c3, .slice A4 m.length c4].toArray (fun a ha e => by have := hN3 a ha; omega)
  have hr4'' := hr4.setRow (g := w.heap.size + 1) [.slice A3 k.length c3, .slice A4 m.length c4].toArray (fun a ha e => by have := hN4 a ha; omega)
  have hR5 := hR4.setRow [.slice A3 k.length c3, .slice A4 m.length c4]
  have hB5 := below_setRow hB4 (Nat.le_succ w.heap.size) [.slice A3 k.length c3, .slice A4 m.length c4].toArray
  generalize w4.setRow (w.heap.size + 1) [.slice A3 k.length c3, .slice A4 m.length c4].toArray = w5 at hr3'' hr4'' hR5 hB5 ⊢
  go_wp2_with fail
  refine bodyPost_ret (results_cell_row (p := 2) (ty := 29) (by rfl) _ _ (w.heap.size + 1) 29 _ (0, 0) _ (by rfl) (by exact hR5) Try.underlying29 (by rfl) (by exact size_term)) (by rfl) ?_
  exact ⟨⟨A3, c3, k, A4, c4, m⟩, rfl, ⟨hc3, hc4, hr3'', hr4''⟩, rfl, ⟨fun a ha => by have := hN3 a ha; omega, fun a ha => by have := hN4 a ha; omega⟩, hB5⟩

theorem tagof_any (q : Nat) (T : List UInt8) (w : World) (hq : q ≤ 1000000000) (HT : Hid (putL (q + 1) = T)) :
    Calls Try.prog 17 #[.int .i64 (q : Int)] w fun e w' => ∃ A c, e = .returned (.slice A 8 c) ∧ 8 ≤ c ∧ Rd vB w' A T ∧ Below w.heap.size w w' := by
  have h1 : IntKind.u64.wrap (q : Int) = (q : Int) := by rw [IntKind.wrap_u64]; omega
  have h2 : IntKind.u64.wrap ((q : Int) + 1) = ((q + 1 : Nat) : Int) := by rw [IntKind.wrap_u64]; omega
  go_enter Try.func17, Try.ntmps17
  go_wp2_with fail
  refine (put_any (q + 1) (by omega) _).mono ?_
  rintro e' w2 ⟨A, c, rfl, hc, hr, hb⟩
  rw [HT.out] at hr
  go_wp2_with fail
  go_ret
  exact ⟨A, c, rfl, hc, hr, hb⟩
end Go.Proofs.Ytppdfldmbfddnaa
