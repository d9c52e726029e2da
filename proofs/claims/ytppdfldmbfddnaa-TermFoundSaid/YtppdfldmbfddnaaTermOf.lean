/-
  What the reference's call Of of layer 5 answers. No conditions but those typed.
-/
import Derived.Test.YtppdfldmbfddnaaTermPut
namespace Go.Proofs.Ytppdfldmbfddnaa
open Go.RowKit
set_option linter.unusedSimpArgs false
set_option linter.unusedVariables false

/-- What Of hands back. -/
def OfRes (ts : List TD) (tag : List UInt8) (w : World) (e : Ending) (w' : World) : Prop :=
  ∃ (x : TD) (u : Int), e = .returned (.tuple #[.agg #[x.at0, x.at1], .int .i64 u]) ∧ x.ok w' ∧ Hid ((x.c, u) = ofT (conT ts) tag) ∧ Below w.heap.size w w'
/-- .. and it is one of those that came in, or none. -/
def OfResS (ts : List TD) (tag : List UInt8) (w : World) (e : Ending) (w' : World) : Prop :=
  ∃ (x : TD) (u : Int), e = .returned (.tuple #[.agg #[x.at0, x.at1], .int .i64 u]) ∧ (x ∈ ts ∨ x = ⟨none, 0, [], none, 0, []⟩) ∧ Hid ((x.c, u) = ofT (conT ts) tag) ∧ Below w.heap.size w w'
def noTD : TD := ⟨none, 0, [], none, 0, []⟩
theorem noTD_ok (w : World) : noTD.ok w := ⟨Nat.le_refl _, Nat.le_refl _, Rd.nil, Rd.nil⟩
theorem OfResS.ok {ts : List TD} {w : World} {x : TD} (hok : okT w ts) (h : x ∈ ts ∨ x = ⟨none, 0, [], none, 0, []⟩) : x.ok w := by
  rcases h with h | rfl
  · exact hok x h
  · exact noTD_ok w
theorem OfResS.res {ts : List TD} {tag : List UInt8} {w w' : World} {e : Ending} (hok : okT w ts) (h : OfResS ts tag w e w') : OfRes ts tag w e w' := by
  obtain ⟨x, u, he, hx, HO, hb⟩ := h
  exact ⟨x, u, he, (OfResS.ok hok hx).keep hb, HO, hb⟩
theorem ofT_bad (cs : List Tm) (tag : List UInt8) (h : tag.length ≠ 8) : ofT cs tag = (([], []), 1) := if_pos h
theorem ofT_none (cs : List Tm) (tag : List UInt8) (h : tag.length = 8) (hn : ∀ j, j < cs.length → putL (j + 1) ≠ tag) (hl : cs.length ≤ 1000000000) : ofT cs tag = (([], []), 7) := by
  unfold ofT
  rw [if_neg (by simp [h]), if_neg]
  rintro ⟨h1, h2⟩
  refine hn (valN tag - 1) (by omega) ?_
  rw [show valN tag - 1 + 1 = valN tag by omega, putL_valN tag h]
theorem ofT_at (cs : List Tm) (tag : List UInt8) (h : tag.length = 8) (k : Nat) (hk : k < cs.length) (he : putL (k + 1) = tag) (hl : cs.length ≤ 1000000000) : ofT cs tag = (cs[k], 0) := by
  have e : valN tag = k + 1 := (putL_eq (k + 1) tag h (by omega)).1 he
  unfold ofT
  rw [if_neg (by simp [h]), e, if_pos (by omega), Nat.add_sub_cancel, List.getD_eq_getElem?_getD, List.getElem?_eq_getElem hk]
  rfl
theorem refput_ati (V : Int) (v : Nat) (l : List UInt8) (hV : V = (v : Int)) (hv : v < 18446744073709551616) (HL : Hid (putL v = l)) (w : World) :
    Calls Try.prog 18 #[.int .u64 V] w fun e w' => ∃ A c, e = .returned (.slice A 8 c) ∧ 8 ≤ c ∧ Rd vB w' A l ∧ Below w.heap.size w w' := by
  subst hV
  exact refput_at v l hv HL w
def OfRel (ts : List TD) (tag : List UInt8) (w : World) (i : Value) (wr : World) : Prop :=
  ∃ k : Nat, k ≤ ts.length ∧ i = .int .i64 (k : Int) ∧ (∀ j, j < k → putL (j + 1) ≠ tag) ∧ Row wr w.heap.size 29 [.slice none 0 0, .slice none 0 0] ∧ Below w.heap.size w wr
theorem size_term : (Try.prog.info? 29).map (·.size) = some 2 := by kernel_rfl
theorem one_two (a b : Value) (ha : a.oneCell' = true) (hb : b.oneCell' = true) : ∀ v ∈ [a, b], v.oneCell' = true := fun v hv => by
  simp at hv
  rcases hv with rfl | rfl
  · exact ha
  · exact hb

set_option maxRecDepth 100000 in
set_option maxHeartbeats 1000000 in
theorem refof_any (ts : List TD) (tag : List UInt8) (p n : Nat) (A B : Option Addr) (c d : Nat) (w : World) (HP : Hid (ts.length = p)) (HN : Hid (tag.length = n)) (ht : RdT w A ts) (hok : okT w ts) (hg : Rd vB w B tag) (hp : p ≤ 1000000000) :
    Calls Try.prog 10 #[.slice A p c, .slice B n d] w (OfResS ts tag w) := by
  have e1 := HP.out
  have e2 := HN.out
  subst e1 e2
  have HOK := Lib.hid hok
  clear hok HP HN
  have hR0 : Row (w.alloc (.cells #[.slice none 0 0, .slice none 0 0] 29)) w.heap.size 29 [.slice none 0 0, .slice none 0 0] := Row.new w _ _ _ rfl
  have hB0 := below_new (Below.refl _ w) (.cells #[.slice none 0 0, .slice none 0 0] 29)
  by_cases h8 : tag.length = 8
  · have g8 : ¬ (tag.length : Int) ≠ 8 := by omega
    have g8' : ((tag.length : Int) != 8) = false := by simp; omega
    have H8 := Lib.hid h8
    go_enter Try.func10, Try.ntmps10
    go_wp2_with fail
    clear g8 g8'
    go_loopw [6] (fun i wr => OfRel ts tag w i wr) (fun i _ => ts.length - (intOf i).toNat)
    case atStart => exact ⟨0, Nat.zero_le _, rfl, fun j h => absurd h (by omega), hR0, hB0⟩
    case round =>
      clear hR0 hB0 h8
      obtain ⟨k, hk1, rfl, hbef, hR, hB⟩ := hrel
      by_cases hlt : k < ts.length
      · have i0 : (0 : Int) ≤ (k : Int) := by omega
        have i1 : (k : Int) < (ts.length : Int) := by omega
        have hkv : IntKind.i64.wrap ((k : Int) + 1) = (k : Int) + 1 := by rw [IntKind.wrap_i64]; omega
        have hkw : IntKind.u64.wrap ((k : Int) + 1) = ((k + 1 : Nat) : Int) := by rw [IntKind.wrap_u64]; omega
        have hBase : Below wr.heap.size wr wr.drew := (Below.refl _ _).drew
        have hs1 : ∀ W, Below wr.heap.size wr W → (convert 23 9 (.slice B tag.length d)).run Try.prog W = .ok (.string (strL tag)) W := run_str_later Try.underlying23 Try.underlying5 Try.underlying9 (hg.keep hB)
        obtain ⟨l, hl⟩ : ∃ l, l = putL (k + 1) := ⟨_, rfl⟩
        have hl8 : l.length = 8 := by rw [hl]; rfl
        have b0 := str_beq l tag
        have HL : Hid (putL (k + 1) = l) := hl.symm
        have HL8 := Lib.hid hl8
        by_cases e : l = tag
        · have d0 : decide (l = tag) = true := by simp [e]
          rw [d0] at b0
          obtain ⟨blk, o, rfl, hblk, hcell⟩ := ht.at hlt
          obtain ⟨h0, h1⟩ := hcell k hlt
          have hx : ts[k] ∈ ts ∨ ts[k] = (⟨none, 0, [], none, 0, []⟩ : TD) := .inl (List.getElem_mem hlt)
          have HO : Hid ((ts[k].c, (0 : Int)) = ofT (conT ts) tag) := by
            unfold Hid
            rw [ofT_at (conT ts) tag H8.out k (by rw [conT_length]; exact hlt) (by rw [← hl]; exact e) (by rw [conT_length]; exact hp), conT_get ts k hlt]
          have hc0 : w.rangeAt blk (o + k * 2) [ts[k].at0, ts[k].at1] := fun j u hu => by
            match j, hu with
            | 0, hu => injection hu with hu; subst hu; exact h0
            | 1, hu => injection hu with hu; subst hu; exact h1
          generalize ts[k] = x at hx HO hc0
          have HC0 := Lib.hid hc0
          have HX := Lib.hid hx
          have HRr := Lib.hid hR
          clear h0 h1 hcell hl e d0 hl8 hbef hk1 hc0 hx hR hg
          generalize hS : strL tag = ST at b0 hs1
          clear hS
          go_wp2_with fail
          refine wp_region_plan (.step 0 false (.step 1 false (.step 2 false (.step 5 false (.step 6 false (.step 3 true (.step 4 false (.step 7 false (.nil))))))))) (by kernel_rfl) (by kernel_rfl) (by rfl) (by kernel_rfl) ?_
          iterate 5 (refine plan_read rfl (by rfl) (v := ?_) ?_ ?_; rotate_left 1; (intro W hW; have hW0 := below_step hBase hW; (try dsimp only at hW); go_simp <;> with_reducible rfl); simp only [List.getElem_toArray, List.getElem_cons_zero, List.getElem_cons_succ, Act.put, List.setIfInBounds_toArray, List.set_cons_zero, List.set_cons_succ])
          (refine plan_make rfl (by rfl) (fun K hK => ?_); go_simp; (refine (refput_ati _ (k + 1) l (by omega) (by omega) HL _).mono ?_; rintro e' w2 ⟨tA, tc, rfl, htc, htr, hbx⟩); refine hK.out _ _ hbx ?_; clear hK K; replace hBase := below_step hBase hbx)
          have hs2 : ∀ W, Below w2.heap.size w2 W → (convert 23 9 (.slice tA 8 tc)).run Try.prog W = .ok (.string (strL l)) W := fun W hW => run_str W _ _ _ Try.underlying23 Try.underlying5 Try.underlying9 tA l 8 tc HL8.out (htr.keep hW)
          generalize strL l = SL at b0 hs2
          iterate 2 (refine plan_read rfl (by rfl) (v := ?_) ?_ ?_; rotate_left 1; (intro W hW; have hW0 := below_step hBase hW; (try dsimp only at hW); go_simp <;> with_reducible rfl); simp only [List.getElem_toArray, List.getElem_cons_zero, List.getElem_cons_succ, Act.put, List.setIfInBounds_toArray, List.set_cons_zero, List.set_cons_succ])
          refine plan_done ?_
          have hR2 := HRr.out.later hBase
          have hB2 := below_step hB hBase
          have hc2 : w2.rangeAt blk (o + k * 2) [x.at0, x.at1] := rangeAt_keep HC0.out hB2 hblk
          clear HRr hB hBase hs1 hs2 htr
          go_wp2_with (first
            | (refine wpList_load_mid rfl 29 (.tmp 27) rfl blk (o + k * 2) rfl [x.at0, x.at1] _ hc2 Try.underlying29 rfl (by exact size_term) ?_)
            | (refine wpList_store_row rfl 29 (.tmp 4) (.tmp 28) rfl w.heap.size rfl [x.at0, x.at1] rfl _ _ hR2 (by exact size_term) rfl (one_two _ _ rfl rfl) ?_))
          refine bodyPost_ret (results_row_tmp (p := 4) (u := 5) (ty := 29) (by rfl) _ _ w.heap.size 29 _ _ (by rfl) (by exact hR2.setRow _) Try.underlying29 (by rfl) (by exact size_term)) (by rfl) ?_
          exact ⟨x, 0, rfl, HX.out, HO, below_setRow hB2 (Nat.le_refl _) _⟩
        · have d0 : decide (l = tag) = false := by simp [e]
          rw [d0] at b0
          have HBE : Hid (∀ j, j < k + 1 → putL (j + 1) ≠ tag) := fun j hj => by
            rcases Nat.lt_or_ge j k with h1 | h1
            · exact hbef j h1
            · have : j = k := by omega
              subst this
              rw [← hl]
              exact e
          clear hl e d0 hl8 hbef hk1
          generalize hS : strL tag = ST at b0 hs1
          clear hS
          go_wp2_with fail
          refine wp_region_plan (.step 0 false (.step 1 false (.step 2 false (.step 5 false (.step 6 false (.step 3 true (.step 4 false (.step 7 false (.nil))))))))) (by kernel_rfl) (by kernel_rfl) (by rfl) (by kernel_rfl) ?_
          iterate 5 (refine plan_read rfl (by rfl) (v := ?_) ?_ ?_; rotate_left 1; (intro W hW; have hW0 := below_step hBase hW; (try dsimp only at hW); go_simp <;> with_reducible rfl); simp only [List.getElem_toArray, List.getElem_cons_zero, List.getElem_cons_succ, Act.put, List.setIfInBounds_toArray, List.set_cons_zero, List.set_cons_succ])
          (refine plan_make rfl (by rfl) (fun K hK => ?_); go_simp; (refine (refput_ati _ (k + 1) l (by omega) (by omega) HL _).mono ?_; rintro e' w2 ⟨tA, tc, rfl, htc, htr, hbx⟩); refine hK.out _ _ hbx ?_; clear hK K; replace hBase := below_step hBase hbx)
          have hs2 : ∀ W, Below w2.heap.size w2 W → (convert 23 9 (.slice tA 8 tc)).run Try.prog W = .ok (.string (strL l)) W := fun W hW => run_str W _ _ _ Try.underlying23 Try.underlying5 Try.underlying9 tA l 8 tc HL8.out (htr.keep hW)
          generalize strL l = SL at b0 hs2
          iterate 2 (refine plan_read rfl (by rfl) (v := ?_) ?_ ?_; rotate_left 1; (intro W hW; have hW0 := below_step hBase hW; (try dsimp only at hW); go_simp <;> with_reducible rfl); simp only [List.getElem_toArray, List.getElem_cons_zero, List.getElem_cons_succ, Act.put, List.setIfInBounds_toArray, List.set_cons_zero, List.set_cons_succ])
          refine plan_done ?_
          have HR : Hid (OfRel ts tag w (.int .i64 ((k : Int) + 1)) w2) := ⟨k + 1, hlt, by go_num, HBE.out, hR.later hBase, below_step hB hBase⟩
          clear hR hB hBase hs1 hs2 htr HBE
          go_wp2_with fail
          go_roundw
          case rel => exact HR.out
          case measure => simp [intOf]; omega
      · have j1 : ¬ (k : Int) < (ts.length : Int) := by omega
        have HO : Hid ((noTD.c, (7 : Int)) = ofT (conT ts) tag) := by
          unfold Hid
          rw [ofT_none (conT ts) tag H8.out (fun j hj => hbef j (by rw [conT_length] at hj; omega)) (by rw [conT_length]; exact hp)]
          rfl
        clear hbef hk1
        go_wp2_with (refine wpList_store_row rfl 29 (.tmp 4) (.tmp 29) rfl w.heap.size rfl [.slice none 0 0, .slice none 0 0] rfl _ _ hR (by exact size_term) rfl (one_two _ _ rfl rfl) ?_)
        refine bodyPost_ret (results_row_tmp (p := 4) (u := 5) (ty := 29) (by rfl) _ _ w.heap.size 29 _ _ (by rfl) (by exact hR.setRow _) Try.underlying29 (by rfl) (by exact size_term)) (by rfl) ?_
        exact ⟨noTD, 7, rfl, (.inr rfl), HO, below_setRow hB (Nat.le_refl _) _⟩
  · have g8 : ((tag.length : Int) != 8) = true := by simp; omega
    have g8' : ¬ (tag.length : Int) = 8 := by omega
    have HO : Hid ((noTD.c, (1 : Int)) = ofT (conT ts) tag) := by unfold Hid; rw [ofT_bad _ _ h8]; rfl
    go_enter Try.func10, Try.ntmps10
    go_wp2_with (refine wpList_store_row rfl 29 (.tmp 4) (.tmp 10) rfl w.heap.size rfl [.slice none 0 0, .slice none 0 0] rfl _ _ hR0 (by exact size_term) rfl (one_two _ _ rfl rfl) ?_)
    refine bodyPost_ret (results_row_tmp (p := 4) (u := 5) (ty := 29) (by rfl) _ _ w.heap.size 29 _ _ (by rfl) (by exact hR0.setRow _) Try.underlying29 (by rfl) (by exact size_term)) (by rfl) ?_
    exact ⟨noTD, 1, rfl, (.inr rfl), HO, below_setRow hB0 (Nat.le_refl _) _⟩
end Go.Proofs.Ytppdfldmbfddnaa
