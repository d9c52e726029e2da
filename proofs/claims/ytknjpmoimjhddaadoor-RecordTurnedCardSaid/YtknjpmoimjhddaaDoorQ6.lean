/-
  What the program's call Open of layer 14 answers (landed code). Condition: the package's table holds sixty-four words (for tags).
-/
import Derived.Test.YtknjpmoimjhddaaDoorQ5
import Derived.Deep.DeepCutAuto
import Derived.Lib.SmallJoins
import Derived.Lib.SlBytesConst
namespace Go.Proofs.YtknjpmoimjhddaaDoor
set_option maxRecDepth 100000
open Go.RowKit
set_option linter.unusedSimpArgs false
set_option linter.unusedVariables false

/-! ### Open -/
def RetAct (w : World) (X : ResA) (e₁ : Ending) (w' : World) : Prop :=
  ∃ A n k ev, e₁ = .returned (.tuple #[aggP X.2.1 X.2.2.1 X.2.2.2.1 A n k, ev]) ∧ Hid (X.2.2.2.2.length = n) ∧ n ≤ k ∧ Rd vB w' A X.2.2.2.2 ∧ Below w.heap.size w w' ∧ ErrV w' ev 4 X.1
theorem retact_no {w w' : World} {X : ResA} {k : Int} {g : Nat} (hX : Hid (X = (k, 0, 0, 0, []))) (hk : k ≠ 0) (hF : Flt w' g 4 k) (hb : Below w.heap.size w w') : RetAct w X (.returned (.tuple #[aggP 0 0 0 none 0 0, errV g])) w' := by
  rw [hX.out]
  exact ⟨none, 0, 0, _, rfl, Lib.hid rfl, Nat.le_refl _, Rd.nil, hb, .inr ⟨hk, g, rfl, hF⟩⟩
theorem act_part (b : List UInt8) (m : Nat) (h : 26 + m ≤ b.length) : ((b.take (26 + m)).drop 1).take 8 = (b.drop 1).take 8 ∧ ((b.take (26 + m)).drop 9).take 8 = (b.drop 9).take 8 ∧ ((b.take (26 + m)).drop 17).take 8 = (b.drop 17).take 8 ∧ (b.take (26 + m)).drop 26 = (b.drop 26).take m := by
  refine ⟨?_, ?_, ?_, ?_⟩
  all_goals rw [List.drop_take]
  all_goals first | (rw [List.take_take]; congr 1; omega) | (congr 1; omega)
theorem open_end [Inhabited Tab] (Kn : Int) (cs : List Tm) (key b : List UInt8) : openE Kn cs key b = if (endA b).2 ≠ 0 then ((endA b).2, 0, 0, 0, []) else if checkE Kn cs key b (endA b).1 ≠ 0 then (checkE Kn cs key b (endA b).1, 0, 0, 0, []) else valA b := by
  unfold openE openA formA endA checkE textA tagA
  by_cases h0 : b.length = 0
  · simp [h0]
  · rw [if_neg h0, if_neg h0]
    by_cases h1 : b.getD 0 0 ≠ 65
    · rw [if_pos h1, if_pos h1]
      simp
    · rw [if_neg h1, if_neg h1]
      by_cases h2 : b.length < 26
      · rw [if_pos h2, if_pos h2]
        simp
      · rw [if_neg h2, if_neg h2]
        by_cases h3 : seedN b = 0 ∨ 32 < seedN b
        · rw [if_pos h3, if_pos h3]
          simp
        · rw [if_neg h3, if_neg h3]
          dsimp only
          rw [if_neg (not_not_intro rfl), show 26 + seedN b + 8 = 34 + seedN b by omega]
          by_cases h4 : b.length < 34 + seedN b
          · rw [if_pos h4, if_pos h4]
            simp
          · rw [if_neg h4, if_neg h4]
            by_cases h5 : 34 + seedN b < b.length
            · rw [if_pos h5, if_pos h5]
              simp
            · rw [if_neg h5, if_neg h5, if_pos rfl]
              by_cases h6 : fitsE Kn cs (key, b.take (26 + seedN b)) (b.drop (26 + seedN b)) = true
              · rw [if_pos h6, if_pos h6, if_neg (not_not_intro rfl)]
              · rw [if_neg h6, if_neg h6, if_pos (by decide)]
theorem check_zero [Inhabited Tab] {Kn : Int} {cs : List Tm} {key b : List UInt8} {q : Nat} (h : checkE Kn cs key b q = 0) : b.length = q + 8 := by
  unfold checkE at h
  split at h
  · omega
  · split at h
    · omega
    · omega
theorem endA_zero {b : List UInt8} (h : (endA b).2 = 0) : (endA b).1 = 26 + seedN b ∧ 1 ≤ seedN b ∧ seedN b ≤ 32 := by
  unfold endA at h ⊢
  split at h
  · simp at h
  · rename_i h1
    split at h
    · simp at h
    · rename_i h2
      split at h
      · simp at h
      · rename_i h3
        split at h
        · simp at h
        · rename_i h4
          rw [if_neg h1, if_neg h2, if_neg h3, if_neg h4]
          exact ⟨rfl, by omega, by omega⟩
theorem formA_zero {b : List UInt8} (h : formA b = 0) : b.length = 34 + seedN b ∧ 1 ≤ seedN b ∧ seedN b ≤ 32 := by
  unfold formA at h
  split at h
  · omega
  · split at h
    · omega
    · split at h
      · omega
      · split at h
        · omega
        · split at h
          · omega
          · split at h
            · omega
            · omega
theorem act_no_byte : ∀ u ∈ ([.int .u64 0, .int .u64 0, .int .u64 0, .slice none 0 0] : List Value), ∀ x, u ≠ vB x := fun u hu x e => by
  subst e
  simp [vB] at hu
set_option maxHeartbeats 8000000 in
theorem open_any [Inhabited Tab] (Kn : Int) (ts : List TD) (key b : List UInt8) (p n len : Nat) (A B D : Option Addr) (c bd f : Nat) (w : World) (HP : Hid (ts.length = p)) (HL : Hid (lenT (conT ts))) (ht : RdT w A ts) (hok : okT w ts) (hp : p ≤ 1000000) (hc : p ≤ c)
    (HN : Hid (key.length = n)) (hrk : Rd vB w B key) (hn : n ≤ 1000000) (hnb : n ≤ bd) (HB : Hid (b.length = len)) (hrb : Rd vB w D b) (hf : len ≤ f) (hl : len ≤ 1000000) (HK : Hid (KTab w)) :
    Calls Tryd.prog 10 #[.agg #[.int .i64 Kn, .slice A p c], .slice B n bd, .slice D len f] w (RetAct w (openE Kn (conT ts) key b)) := by
  obtain ⟨X, hX⟩ : ∃ X, openE Kn (conT ts) key b = X := ⟨_, rfl⟩
  rw [hX]
  replace hX := Lib.hid hX
  obtain ⟨hR, hB0⟩ := box_rows w 24 (.int .i64 Kn) (.slice A p c)
  obtain ⟨hRa, hBa⟩ := box_pay (w.alloc (.cells #[.int .i64 Kn, .slice A p c] 24)) 28 (.int .u64 0) (.int .u64 0) (.int .u64 0) (.slice none 0 0)
  have hR1 := hR.later hBa
  have hB := below_step hB0 hBa
  have hz : (w.alloc (.cells #[.int .i64 Kn, .slice A p c] 24)).heap.size = w.heap.size + 1 := by simp
  rw [hz] at hRa
  replace ht := ht.keep hB
  replace hok := hok.keep hB
  replace hrk := hrk.keep hB
  replace hrb := hrb.keep hB
  replace HK := Lib.hid (HK.out.keep hB)
  clear hR hB0 hBa hz
  go_enter Tryd.func10, Tryd.ntmps10
  go_upto_region 1 with fail
  generalize (w.alloc (.cells #[.int .i64 Kn, .slice A p c] 24)).alloc (.cells #[.int .u64 0, .int .u64 0, .int .u64 0, .slice none 0 0] 28) = W2 at hR1 hRa hB ht hok hrk hrb HK ⊢
  have HXE := Lib.hid (hX.out.symm.trans (open_end Kn (conT ts) key b))
  have HEZ := Lib.hid (@endA_zero b)
  go_wp2_with fail
  refine (endRec_any b len D f W2 HB hrb hl).mono ?_
  rintro e₁ w3 ⟨rfl, hb⟩
  replace hR1 := hR1.later hb
  replace hRa := hRa.later hb
  replace ht := ht.keep hb
  replace hok := hok.keep hb
  replace hrk := hrk.keep hb
  replace hrb := hrb.keep hb
  replace HK := Lib.hid (HK.out.keep hb)
  replace hB := below_step hB hb
  clear hb
  generalize endA b = E at HXE HEZ ⊢
  obtain ⟨q, kE⟩ := E
  dsimp only at HXE HEZ ⊢
  by_cases h0 : kE = 0
  · subst h0
    have HX2 : Hid (X = if checkE Kn (conT ts) key b q ≠ 0 then (checkE Kn (conT ts) key b q, 0, 0, 0, []) else valA b) := HXE.out
    have HZ := Lib.hid (HEZ.out rfl)
    have hq6 : q ≤ 1000000 := by have := HZ.out; omega
    clear HXE HEZ
    go_upto_region 4 with fail
    go_wp2_with (refine wpList_load_part rfl 24 (.tmp 3) rfl w.heap.size 0 rfl _ _ hR1 [.int .i64 Kn, .slice A p c] (by rfl) _ Tryd.underlying24 rfl (by exact size_engine) ?_)
    refine (checkE_any Kn ts key b p n len q A B D c bd f _ HP HL ht hok hp hc HN hrk hn hnb HB hrb hf hl hq6 HK).mono ?_
    rintro e₁ w4 ⟨ev, rfl, hE, hb, hgE⟩
    have hlt := hRa.lt
    replace hRa := hRa.later hb
    replace hrb := hrb.keep hb
    replace hB := below_step hB hb
    clear hb
    clear hR1 ht hok hrk HK
    have HCZ := Lib.hid (@check_zero _ Kn (conT ts) key b q)
    generalize checkE Kn (conT ts) key b q = kC at HX2 hE HCZ
    go_upto_region 5 with fail
    rcases hE with ⟨hk, rfl⟩ | ⟨hk, g5, rfl, hF⟩
    · subst hk
      have HX : Hid (X = valA b) := HX2.out
      have hlen := HCZ.out rfl
      rw [HB.out] at hlen
      obtain ⟨hq, hm1, hm2⟩ := HZ.out
      have HV : Hid (valA b = (0, valN (((b.take q).drop 1).take 8), valN (((b.take q).drop 9).take 8), valN (((b.take q).drop 17).take 8), (b.take q).drop 26)) := by
        obtain ⟨a1, a2, a3, a4⟩ := act_part b (seedN b) (by rw [HB.out]; omega)
        unfold Hid valA
        rw [hq, a1, a2, a3, a4]
      have hrx : Rd vB w4 D (b.take q) := hrb.take _
      obtain ⟨m, hm⟩ : ∃ m, seedN b = m := ⟨_, rfl⟩
      rw [hm] at hq hm1 hm2
      have HXL : Hid ((b.take q).length = q) := by unfold Hid; rw [List.length_take, HB.out]; omega
      generalize valA b = v at HX HV
      generalize b.take q = x at HV hrx HXL
      have HQ : Hid (q = m + 26) := by unfold Hid; omega
      have hcut1 := run_cut_to (P := Tryd.prog) 25 5 Tryd.underlying25 size_uint8 D len f q (by omega)
      have k0 : (0 : Int) ≤ (q : Int) := by omega
      have k1 : (q : Int) ≤ (len : Int) := by omega
      have hqf : q ≤ f := by omega
      have hm9 : m ≤ 900000 := by omega
      clear hlen hq hm1 hm2 hm HX2 hrb hX HCZ HZ
      go_wp2_with fail
      refine (readA_any x q m D f w4 HXL HQ hrx hqf hm9).mono ?_
      rintro e' w5 ⟨A5, c5, rfl, hc5, hr5, hb⟩
      have HX26 : Hid ((x.drop 26).length = m) := by unfold Hid; rw [List.length_drop, HXL.out, HQ.out]; omega
      have HXF : Hid (X = (0, valN ((x.drop 1).take 8), valN ((x.drop 9).take 8), valN ((x.drop 17).take 8), x.drop 26)) := HX.out.trans HV.out
      replace hRa := hRa.later hb
      replace hB := below_step hB hb
      clear hb hrx HX HV
      unfold aggP
      obtain ⟨v1, hv1⟩ : ∃ v, valN ((x.drop 1).take 8) = v := ⟨_, rfl⟩
      obtain ⟨v2, hv2⟩ : ∃ v, valN ((x.drop 9).take 8) = v := ⟨_, rfl⟩
      obtain ⟨v3, hv3⟩ : ∃ v, valN ((x.drop 17).take 8) = v := ⟨_, rfl⟩
      rw [hv1, hv2, hv3] at HXF ⊢
      generalize x.drop 26 = y at HXF hr5 HX26
      clear hv1 hv2 hv3
      go_wp2_with (refine wpList_store_row rfl 28 (.tmp 6) (.tmp 33) rfl (w.heap.size + 1) rfl [.int .u64 (v1 : Int), .int .u64 (v2 : Int), .int .u64 (v3 : Int), .slice A5 m c5] rfl _ _ hRa (by exact size_act) rfl (one_four _ _ _ _ rfl rfl rfl rfl) ?_)
      refine bodyPost_ret (results_row_tmp (p := 6) (u := 7) (ty := 28) (by rfl) _ _ (w.heap.size + 1) 28 _ _ (by rfl) (by exact hRa.setRow _) Tryd.underlying28 (by rfl) (by exact size_act)) (by rfl) ?_
      rw [HXF.out]
      exact ⟨A5, m, c5, .nilIface, rfl, HX26, hc5, hr5.setRow_row hRa act_no_byte _, below_setRow hB (by omega) _, .inl ⟨rfl, rfl⟩⟩
    · have HX : Hid (X = (kC, 0, 0, 0, [])) := by unfold Hid; rw [HX2.out, if_pos hk]
      have hgg := hgE g5 rfl
      have hgne : g5 ≠ w.heap.size + 1 := Row.ne_type hF hRa (by decide)
      clear HX2 hrb hX
      go_wp2_with (refine wpList_store_row rfl 28 (.tmp 6) (.tmp 28) rfl (w.heap.size + 1) rfl [.int .u64 0, .int .u64 0, .int .u64 0, .slice none 0 0] rfl _ _ hRa (by exact size_act) rfl (one_four _ _ _ _ rfl rfl rfl rfl) ?_)
      refine bodyPost_ret (results_row_tmp (p := 6) (u := 7) (ty := 28) (by rfl) _ _ (w.heap.size + 1) 28 _ _ (by rfl) (by exact hRa.setRow _) Tryd.underlying28 (by rfl) (by exact size_act)) (by rfl) ?_
      exact retact_no HX hk (Row.setRow_other hF hgne _) (below_setRow hB (by omega) _)
  · have HX : Hid (X = (kE, 0, 0, 0, [])) := by unfold Hid; rw [HXE.out, if_pos h0]
    have hq1 : (kE == 0) = false := beq_eq_false_iff_ne.2 h0
    have hq2 : (kE != 0) = true := by rw [bne, hq1]; rfl
    clear hX hrk hrb ht hok hR1 HK HXE HEZ
    go_wp2_with fail
    refine (faultA_any kE w3).mono ?_
    rintro e' w5 ⟨g5, rfl, hF, hb, hgg⟩
    have hlt := hRa.lt
    replace hRa := hRa.later hb
    replace hB := below_step hB hb
    clear hb
    go_wp2_with (refine wpList_store_row rfl 28 (.tmp 6) (.tmp 18) rfl (w.heap.size + 1) rfl [.int .u64 0, .int .u64 0, .int .u64 0, .slice none 0 0] rfl _ _ hRa (by exact size_act) rfl (one_four _ _ _ _ rfl rfl rfl rfl) ?_)
    refine bodyPost_ret (results_row_tmp (p := 6) (u := 7) (ty := 28) (by rfl) _ _ (w.heap.size + 1) 28 _ _ (by rfl) (by exact hRa.setRow _) Tryd.underlying28 (by rfl) (by exact size_act)) (by rfl) ?_
    exact retact_no HX h0 (Row.setRow_other hF (by omega) _) (below_setRow hB (by omega) _)
end Go.Proofs.YtknjpmoimjhddaaDoor
/-
  What the reference's call Same of layer 14 answers. No conditions but those typed.
-/
namespace Go.Proofs.YtknjpmoimjhddaaDoor
set_option maxRecDepth 100000
open Go.RowKit
set_option linter.unusedSimpArgs false
set_option linter.unusedVariables false

set_option maxRecDepth 100000 in
set_option maxHeartbeats 1000000 in
theorem refsame_act (t e c t' e' c' : Nat) (g g' : List UInt8) (n n' : Nat) (A A' : Option Addr) (k k' : Nat) (w : World) (HN : Hid (g.length = n)) (HN' : Hid (g'.length = n')) (hr : Rd vB w A g) (hr' : Rd vB w A' g') :
    Calls Tryd.prog 11 #[aggP t e c A n k, aggP t' e' c' A' n' k'] w fun e₁ w' => e₁ = .returned (.bool (sameF t e c g t' e' c' g')) ∧ Below w.heap.size w w' := by
  obtain ⟨hR0, hB0⟩ := box_pay w 28 (.int .u64 (t : Int)) (.int .u64 (e : Int)) (.int .u64 (c : Int)) (.slice A n k)
  obtain ⟨hR1, hB1⟩ := box_pay (w.alloc (.cells #[.int .u64 (t : Int), .int .u64 (e : Int), .int .u64 (c : Int), .slice A n k] 28)) 28 (.int .u64 (t' : Int)) (.int .u64 (e' : Int)) (.int .u64 (c' : Int)) (.slice A' n' k')
  replace hR0 := hR0.later hB1
  have hsz : (w.alloc (.cells #[.int .u64 (t : Int), .int .u64 (e : Int), .int .u64 (c : Int), .slice A n k] 28)).heap.size = w.heap.size + 1 := by simp
  rw [hsz] at hR1
  have hB := below_step hB0 hB1
  replace hr := hr.keep hB
  replace hr' := hr'.keep hB
  obtain ⟨E, hE⟩ : ∃ E, sameF t e c g t' e' c' g' = E := ⟨_, rfl⟩
  rw [hE]
  unfold aggP
  go_enter Tryd.func11, Tryd.ntmps11
  go_upto_region 1 with fail
  generalize (w.alloc (.cells #[.int .u64 (t : Int), .int .u64 (e : Int), .int .u64 (c : Int), .slice A n k] 28)).alloc (.cells #[.int .u64 (t' : Int), .int .u64 (e' : Int), .int .u64 (c' : Int), .slice A' n' k'] 28) = W at hR0 hR1 hB hr hr' ⊢
  have c0 : W.cell? ⟨w.heap.size, 0, none⟩ = some (.int .u64 (t : Int)) := hR0.cell rfl
  have c1 : W.cell? ⟨w.heap.size, 1, none⟩ = some (.int .u64 (e : Int)) := hR0.cell rfl
  have c2 : W.cell? ⟨w.heap.size, 2, none⟩ = some (.int .u64 (c : Int)) := hR0.cell rfl
  have c3 : W.cell? ⟨w.heap.size, 3, none⟩ = some (.slice A n k) := hR0.cell rfl
  have d0 : W.cell? ⟨w.heap.size + 1, 0, none⟩ = some (.int .u64 (t' : Int)) := hR1.cell rfl
  have d1 : W.cell? ⟨w.heap.size + 1, 1, none⟩ = some (.int .u64 (e' : Int)) := hR1.cell rfl
  have d2 : W.cell? ⟨w.heap.size + 1, 2, none⟩ = some (.int .u64 (c' : Int)) := hR1.cell rfl
  have d3 : W.cell? ⟨w.heap.size + 1, 3, none⟩ = some (.slice A' n' k') := hR1.cell rfl
  clear hR0 hR1 hB0 hB1 hsz
  by_cases h0 : t = t'
  · subst h0
    by_cases h1 : e = e'
    · subst h1
      by_cases h2 : c = c'
      · subst h2
        have hs1 : (convert 25 9 (.slice A n k)).run Tryd.prog W = .ok (.string (strL g)) W := run_str W _ _ _ Tryd.underlying25 Tryd.underlying5 Tryd.underlying9 A g n k HN.out hr
        have hs2 : (convert 25 9 (.slice A' n' k')).run Tryd.prog W = .ok (.string (strL g')) W := run_str W _ _ _ Tryd.underlying25 Tryd.underlying5 Tryd.underlying9 A' g' n' k' HN'.out hr'
        have hst : ((strL g).toList == (strL g').toList) = E := by
          rw [strL_toList, strL_toList, ← hE]
          unfold sameF
          rw [Bool.eq_iff_iff, beq_iff_eq, decide_eq_true_iff]
          simp
        clear hE
        go_wp2_with fail
        go_ret
        exact ⟨rfl, hB⟩
      · have eE : E = false := by rw [← hE]; unfold sameF; exact decide_eq_false (fun h => h2 h.2.2.1)
        have hne : ((c : Int) == (c' : Int)) = false := beq_eq_false_iff_ne.2 (by omega)
        clear hE
        subst eE
        go_wp2_with fail
        go_ret
        exact ⟨rfl, hB⟩
    · have eE : E = false := by rw [← hE]; unfold sameF; exact decide_eq_false (fun h => h1 h.2.1)
      have hne : ((e : Int) == (e' : Int)) = false := beq_eq_false_iff_ne.2 (by omega)
      clear hE
      subst eE
      go_wp2_with fail
      go_ret
      exact ⟨rfl, hB⟩
  · have eE : E = false := by rw [← hE]; unfold sameF; exact decide_eq_false (fun h => h0 h.1)
    have hne : ((t : Int) == (t' : Int)) = false := beq_eq_false_iff_ne.2 (by omega)
    clear hE
    subst eE
    go_wp2_with fail
    go_ret
    exact ⟨rfl, hB⟩

end Go.Proofs.YtknjpmoimjhddaaDoor
/-
  A literal's bytes, converted to their own type: a row with a frozen mark reads as the bytes did (no program is named here). No conditions but those typed.
-/
namespace Go.Proofs.YtknjpmoimjhddaaDoor
set_option maxRecDepth 100000
open Go.RowKit

theorem Rd.new_fr {α : Type} {f : α → Value} (w : World) (g : Nat) (hg : g = w.heap.size) (l : List α) (cs : Array Value) (e : TypeId) (fr : Nat × Nat) (h : cs = (l.map f).toArray) : Rd f (w.alloc (.cells cs e fr)) (some ⟨g, 0, none⟩) l := fun _ => by
  subst hg
  refine ⟨w.heap.size, 0, rfl, fun i hi => ?_⟩
  subst h
  rw [cell_of_row _ w.heap.size (0 + i) _ e fr (heap_alloc_new w _)]
  simp [hi]
end Go.Proofs.YtknjpmoimjhddaaDoor
/-
  What the call awake of layer 14's statements answers: true; and small. Conditions: the package's table holds sixty-four words (for tags); errors.errorType holds the handle of the type error (EtC).
-/
namespace Go.Proofs.YtknjpmoimjhddaaDoor
set_option maxRecDepth 100000
open Go.RowKit
set_option linter.unusedSimpArgs false
set_option linter.unusedVariables false

def rK : List UInt8 := [107, 101, 121]
def rZ : List UInt8 := [107, 101, 122]
def rS : List UInt8 := [65, 0, 0, 0, 0, 0, 0, 0, 1, 0, 0, 0, 0, 0, 0, 0, 2, 0, 0, 0, 0, 0, 0, 0, 3, 1, 9, 0, 0, 0, 0, 0, 0, 0, 1]
theorem rw_seal [Inhabited Tab] : sealE 2 [] rK 1 2 3 [9] = rS := by
  unfold sealE
  rw [bytesE, if_pos rfl]
  decide +kernel
theorem rw_right : rightE 2 [] = true := by decide +kernel
theorem rw_open [Inhabited Tab] : openE 2 (termsE 2 [] (rK, actB 1 2 3 [9])) rK rS = (0, 1, 2, 3, [9]) := by
  rw [← rw_seal]
  exact openE_made (by decide) (by decide) (by decide) (by decide) (by decide) rw_right
theorem rw_shut [Inhabited Tab] : openE 2 (termsE 2 [] (rK, actB 1 2 3 [9])) rZ rS = (5, 0, 0, 0, []) := by
  rw [← rw_seal]
  exact openE_unfit (by decide) (by decide) (by
    have e : termsE 2 [] (rK, actB 1 2 3 [9]) = [(rK, actB 1 2 3 [9])] := by decide +kernel
    rw [e]
    intro h
    have := List.mem_singleton.1 h
    injection this with this _
    exact absurd this (by decide))
theorem rw_lenT : lenT (termsE 2 [] (rK, actB 1 2 3 [9])) := lenT.nil.put (by decide) (by decide)
theorem okT_nilR (w : World) : okT w [] := fun x hx => by cases hx
theorem rec_cells {w : World} {A : Option Addr} (h : Rd vB w A rS) : ∃ g o, A = some ⟨g, o, none⟩ ∧ ∀ W, Below w.heap.size w W → W.cell? ⟨g, o, none⟩ = some (.int .u8 65) ∧ W.cell? ⟨g, o + 34, none⟩ = some (.int .u8 1) := by
  obtain ⟨g, o, rfl, hg, hc⟩ := h.at (k := 0) (by decide)
  refine ⟨g, o, rfl, fun W hW => ⟨(hW.cell (p := ⟨g, o, none⟩) hg).trans (hc 0 (by decide)), (hW.cell (p := ⟨g, o + 34, none⟩) hg).trans (hc 34 (by decide))⟩⟩

set_option maxHeartbeats 8000000 in
theorem awake14_any [Inhabited Tab] (w : World) (HK : Hid (KTab w)) (hg : EtC w) : Calls Tryd.prog 7 #[] w fun e w' => e = .returned (.bool true) ∧ Below w.heap.size w w' := by
  go_enter Tryd.func7, Tryd.ntmps7
  go_upto_region 1 with fail
  have hr9 : Rd vB (w.alloc (.cells #[.int .u8 9] 5)) (some ⟨w.heap.size, 0, none⟩) [9] := Rd.new w [9] _ _ rfl
  have hb9 := below_new (Below.refl _ w) (.cells #[.int .u8 9] 5)
  have hRn : Row ((w.alloc (.cells #[.int .u8 9] 5)).alloc (.cells #[.int .u64 0, .int .u64 0, .int .u64 0, .slice none 0 0] 28)) (w.heap.size + 1) 28 [.int .u64 0, .int .u64 0, .int .u64 0, .slice none 0 0] := Row.new_at _ _ (by simp) _ _ _ rfl
  have hb10 := below_new hb9 (.cells #[.int .u64 0, .int .u64 0, .int .u64 0, .slice none 0 0] 28)
  have hb11 := below_new (Below.refl _ (w.alloc (.cells #[.int .u8 9] 5))) (.cells #[.int .u64 0, .int .u64 0, .int .u64 0, .slice none 0 0] 28)
  go_upto_region 2 with (refine wpList_store_row rfl 28 (.tmp 1) (.tmp 12) rfl (w.heap.size + 1) rfl [.int .u64 1, .int .u64 2, .int .u64 3, .slice (some ⟨w.heap.size, 0, none⟩) 1 1] rfl _ _ hRn (by exact size_act) rfl (one_four _ _ _ _ rfl rfl rfl rfl) ?_)
  have hRa := hRn.setRow [.int .u64 1, .int .u64 2, .int .u64 3, .slice (some ⟨w.heap.size, 0, none⟩) 1 1]
  have hr9' : Rd vB (((w.alloc (.cells #[.int .u8 9] 5)).alloc (.cells #[.int .u64 0, .int .u64 0, .int .u64 0, .slice none 0 0] 28)).setRow (w.heap.size + 1) [.int .u64 1, .int .u64 2, .int .u64 3, .slice (some ⟨w.heap.size, 0, none⟩) 1 1].toArray) (some ⟨w.heap.size, 0, none⟩) [9] := (hr9.keep hb11).setRow_row hRn act_no_byte _
  have hB := below_setRow hb10 (Nat.le_add_right _ 1) [.int .u64 1, .int .u64 2, .int .u64 3, .slice (some ⟨w.heap.size, 0, none⟩) 1 1].toArray
  generalize ((w.alloc (.cells #[.int .u8 9] 5)).alloc (.cells #[.int .u64 0, .int .u64 0, .int .u64 0, .slice none 0 0] 28)).setRow (w.heap.size + 1) [.int .u64 1, .int .u64 2, .int .u64 3, .slice (some ⟨w.heap.size, 0, none⟩) 1 1].toArray = w1 at hRa hr9' hB ⊢
  clear hr9 hb9 hRn hb10 hb11
  replace HK := Lib.hid (HK.out.keep hB)
  replace hg := hg.later hB
  generalize hga : w.heap.size + 1 = ga at hRa ⊢
  clear hga
  have hcv := Lib.run_convert_bytes_const (P := Tryd.prog) w1 25 5 #[.int .u8 107, .int .u8 101, .int .u8 121] 3 3 Tryd.underlying25 Tryd.underlying5
  have hk0 : Rd vB (w1.alloc (.cells #[.int .u8 107, .int .u8 101, .int .u8 121] 5 (3, 4))) (some ⟨w1.heap.size, 0, none⟩) rK := Rd.new_fr w1 _ rfl _ _ _ _ rfl
  have hbk := below_new (Below.refl _ w1) (.cells #[.int .u8 107, .int .u8 101, .int .u8 121] 5 (3, 4))
  have hRa1 := hRa.later hbk
  go_wp2_with (refine wpList_load_part rfl 28 (.tmp 1) rfl ga 0 rfl _ _ hRa1 [.int .u64 1, .int .u64 2, .int .u64 3, .slice (some ⟨w.heap.size, 0, none⟩) 1 1] (by rfl) _ Tryd.underlying28 rfl (by exact size_act) ?_)
  clear hcv hRa1
  refine (seal_good 2 [] rK 0 3 none (some ⟨w1.heap.size, 0, none⟩) 0 3 1 2 3 [9] 1 (some ⟨w.heap.size, 0, none⟩) 1 _ (Lib.hid rfl) (Lib.hid lenT.nil) RdT.nil (okT_nilR _) (by omega) (by omega) (by omega) (by omega) (by omega) (Lib.hid rfl) (hr9'.keep hbk) (by omega) (by omega) (by omega) (Lib.hid rfl) hk0 (by omega) (by omega) (Lib.hid rw_right) (Lib.hid (HK.out.keep hbk))).mono ?_
  rintro e' w2 ⟨us, p, A2, c2, n, tA, tc, rfl, HP, hpc, htu, hoku, HC, HSL, hntc, hrt, hb⟩
  rw [show conT [] = [] from rfl] at HC HSL hrt
  rw [rw_seal] at HSL hrt
  have en : n = 35 := HSL.out.symm
  subst en
  replace hb := below_step hbk hb
  replace hRa := hRa.later hb
  replace hr9' := hr9'.keep hb
  replace HK := Lib.hid (HK.out.keep hb)
  replace hg := hg.later hb
  replace hB := below_step hB hb
  clear hb hbk hk0
  have hRn : Row (w2.alloc (.cells #[.int .i64 0, .slice none 0 0] 24)) w2.heap.size 24 [.int .i64 0, .slice none 0 0] := Row.new w2 _ _ _ rfl
  go_upto_region 3 with (refine wpList_store_row rfl 24 (.tmp 2) (.tmp 19) rfl w2.heap.size rfl [.int .i64 2, .slice A2 p c2] rfl _ _ hRn (by exact size_engine) rfl (one_pair _ _ rfl rfl) ?_)
  have hRe := hRn.setRow [.int .i64 2, .slice A2 p c2]
  have hbn : Below w2.heap.size w2 ((w2.alloc (.cells #[.int .i64 0, .slice none 0 0] 24)).setRow w2.heap.size [.int .i64 2, .slice A2 p c2].toArray) := below_setRow (below_new (Below.refl _ _) _) (Nat.le_refl _) _
  generalize (w2.alloc (.cells #[.int .i64 0, .slice none 0 0] 24)).setRow w2.heap.size [.int .i64 2, .slice A2 p c2].toArray = w3 at hRe hbn ⊢
  replace hRa := hRa.later hbn
  replace hr9' := hr9'.keep hbn
  replace htu := htu.keep hbn
  replace hoku := hoku.keep hbn
  replace hrt := hrt.keep hbn
  replace HK := Lib.hid (HK.out.keep hbn)
  replace hg := hg.later hbn
  replace hB := below_step hB hbn
  clear hbn hRn
  generalize w2.heap.size = ge at hRe ⊢
  have hp1 : p ≤ 1 := by
    have := congrArg List.length HC.out
    rw [conT_length, HP.out] at this
    have h2 := termsE_le (K := 2) (cs := []) (rK, actB 1 2 3 [9])
    rw [← this] at h2
    simpa using h2
  have HLT : Hid (lenT (conT us)) := by unfold Hid; rw [HC.out]; exact rw_lenT
  have HO1 : Hid (openE 2 (conT us) rK rS = (0, 1, 2, 3, [9])) := by unfold Hid; rw [HC.out]; exact rw_open
  have HO2 : Hid (openE 2 (conT us) rZ rS = (5, 0, 0, 0, [])) := by unfold Hid; rw [HC.out]; exact rw_shut
  clear HC
  have hcv := Lib.run_convert_bytes_const (P := Tryd.prog) w3 25 5 #[.int .u8 107, .int .u8 101, .int .u8 121] 3 3 Tryd.underlying25 Tryd.underlying5
  have hk0 : Rd vB (w3.alloc (.cells #[.int .u8 107, .int .u8 101, .int .u8 121] 5 (3, 4))) (some ⟨w3.heap.size, 0, none⟩) rK := Rd.new_fr w3 _ rfl _ _ _ _ rfl
  have hbk := below_new (Below.refl _ w3) (.cells #[.int .u8 107, .int .u8 101, .int .u8 121] 5 (3, 4))
  go_wp2_with (refine wpList_load_part rfl 24 (.tmp 2) rfl ge 0 rfl _ _ hRe [.int .i64 2, .slice A2 p c2] (by rfl) _ Tryd.underlying24 rfl (by exact size_engine) ?_)
  clear hcv
  refine (open_any 2 us rK rS p 3 35 A2 (some ⟨w3.heap.size, 0, none⟩) tA c2 3 tc _ HP HLT (htu.keep hbk) (hoku.keep hbk) (by omega) hpc (Lib.hid rfl) hk0 (by omega) (by omega) (Lib.hid rfl) (hrt.keep hbk) hntc (by omega) (Lib.hid (HK.out.keep hbk))).mono ?_
  rw [HO1.out]
  rintro e' w4 ⟨A4, n4, k4, ev4, rfl, HN4, hk4, hr4, hb, hE4⟩
  dsimp only at HN4 hr4 hE4 ⊢
  have en4 : n4 = 1 := HN4.out.symm
  subst en4
  have eev : ev4 = .nilIface := by rcases hE4 with ⟨_, h⟩ | ⟨h, _⟩; exact h; exact absurd rfl h
  subst eev
  replace hb := below_step hbk hb
  replace hRa := hRa.later hb
  replace hRe := hRe.later hb
  replace hr9' := hr9'.keep hb
  replace htu := htu.keep hb
  replace hoku := hoku.keep hb
  replace hrt := hrt.keep hb
  replace HK := Lib.hid (HK.out.keep hb)
  replace hg := hg.later hb
  replace hB := below_step hB hb
  clear hb hbk hk0 hE4
  have hRn : Row (w4.alloc (.cells #[.int .u64 0, .int .u64 0, .int .u64 0, .slice none 0 0] 28)) w4.heap.size 28 [.int .u64 0, .int .u64 0, .int .u64 0, .slice none 0 0] := Row.new w4 _ _ _ rfl
  go_upto_region 4 with (refine wpList_store_row rfl 28 (.tmp 5) (.tmp 28) rfl w4.heap.size rfl [.int .u64 1, .int .u64 2, .int .u64 3, .slice A4 1 k4] rfl _ _ hRn (by exact size_act) rfl (one_four _ _ _ _ rfl rfl rfl rfl) ?_)
  have hRc := hRn.setRow [.int .u64 1, .int .u64 2, .int .u64 3, .slice A4 1 k4]
  have hbn : Below w4.heap.size w4 ((w4.alloc (.cells #[.int .u64 0, .int .u64 0, .int .u64 0, .slice none 0 0] 28)).setRow w4.heap.size [.int .u64 1, .int .u64 2, .int .u64 3, .slice A4 1 k4].toArray) := below_setRow (below_new (Below.refl _ _) _) (Nat.le_refl _) _
  generalize (w4.alloc (.cells #[.int .u64 0, .int .u64 0, .int .u64 0, .slice none 0 0] 28)).setRow w4.heap.size [.int .u64 1, .int .u64 2, .int .u64 3, .slice A4 1 k4].toArray = w5 at hRc hbn ⊢
  replace hRa := hRa.later hbn
  replace hRe := hRe.later hbn
  replace hr9' := hr9'.keep hbn
  replace hr4 := hr4.keep hbn
  replace htu := htu.keep hbn
  replace hoku := hoku.keep hbn
  replace hrt := hrt.keep hbn
  replace HK := Lib.hid (HK.out.keep hbn)
  replace hg := hg.later hbn
  replace hB := below_step hB hbn
  clear hbn hRn
  generalize w4.heap.size = gc at hRc ⊢
  have hcv := Lib.run_convert_bytes_const (P := Tryd.prog) w5 25 5 #[.int .u8 107, .int .u8 101, .int .u8 122] 3 3 Tryd.underlying25 Tryd.underlying5
  have hk0 : Rd vB (w5.alloc (.cells #[.int .u8 107, .int .u8 101, .int .u8 122] 5 (3, 4))) (some ⟨w5.heap.size, 0, none⟩) rZ := Rd.new_fr w5 _ rfl _ _ _ _ rfl
  have hbk := below_new (Below.refl _ w5) (.cells #[.int .u8 107, .int .u8 101, .int .u8 122] 5 (3, 4))
  go_wp2_with (refine wpList_load_part rfl 24 (.tmp 2) rfl ge 0 rfl _ _ hRe [.int .i64 2, .slice A2 p c2] (by rfl) _ Tryd.underlying24 rfl (by exact size_engine) ?_)
  clear hcv
  refine (open_any 2 us rZ rS p 3 35 A2 (some ⟨w5.heap.size, 0, none⟩) tA c2 3 tc _ HP HLT (htu.keep hbk) (hoku.keep hbk) (by omega) hpc (Lib.hid rfl) hk0 (by omega) (by omega) (Lib.hid rfl) (hrt.keep hbk) hntc (by omega) (Lib.hid (HK.out.keep hbk))).mono ?_
  rw [HO2.out]
  rintro e' w6 ⟨A6, n6, k6, ev6, rfl, HN6, hk6, hr6, hb, hE6⟩
  dsimp only at HN6 hr6 hE6 ⊢
  have en6 : n6 = 0 := HN6.out.symm
  subst en6
  obtain ⟨g6, rfl, hF⟩ : ∃ g, ev6 = errV g ∧ Flt w6 g 4 5 := by rcases hE6 with ⟨h, _⟩ | ⟨_, g, h1, h2⟩; exact absurd h (by decide); exact ⟨g, h1, h2⟩
  replace hb := below_step hbk hb
  replace hRa := hRa.later hb
  replace hRc := hRc.later hb
  replace hr9' := hr9'.keep hb
  replace hr4 := hr4.keep hb
  replace hrt := hrt.keep hb
  replace hg := hg.later hb
  replace hB := below_step hB hb
  clear hb hbk hk0 hE6 hr6 hRe htu hoku HK HLT HO1 HO2
  have hRn : Row (w6.alloc (.cells #[.int .u64 0, .int .u64 0, .int .u64 0, .slice none 0 0] 28)) w6.heap.size 28 [.int .u64 0, .int .u64 0, .int .u64 0, .slice none 0 0] := Row.new w6 _ _ _ rfl
  go_upto_region 5 with (refine wpList_store_row rfl 28 (.tmp 7) (.tmp 36) rfl w6.heap.size rfl [.int .u64 0, .int .u64 0, .int .u64 0, .slice A6 0 k6] rfl _ _ hRn (by exact size_act) rfl (one_four _ _ _ _ rfl rfl rfl rfl) ?_)
  have hbn : Below w6.heap.size w6 ((w6.alloc (.cells #[.int .u64 0, .int .u64 0, .int .u64 0, .slice none 0 0] 28)).setRow w6.heap.size [.int .u64 0, .int .u64 0, .int .u64 0, .slice A6 0 k6].toArray) := below_setRow (below_new (Below.refl _ _) _) (Nat.le_refl _) _
  generalize (w6.alloc (.cells #[.int .u64 0, .int .u64 0, .int .u64 0, .slice none 0 0] 28)).setRow w6.heap.size [.int .u64 0, .int .u64 0, .int .u64 0, .slice A6 0 k6].toArray = w7 at hbn ⊢
  replace hRa := hRa.later hbn
  replace hRc := hRc.later hbn
  replace hr9' := hr9'.keep hbn
  replace hr4 := hr4.keep hbn
  replace hrt := hrt.keep hbn
  replace hg := hg.later hbn
  replace hF := hF.later hbn
  replace hB := below_step hB hbn
  clear hbn hRn
  go_wp2_with fail
  refine (told_flt g6 4 5 w7 hg hF).mono ?_
  rintro e' w8 ⟨rfl, hb⟩
  replace hRa := hRa.later hb
  replace hRc := hRc.later hb
  replace hr9' := hr9'.keep hb
  replace hr4 := hr4.keep hb
  replace hrt := hrt.keep hb
  replace hB := below_step hB hb
  clear hb hg hF
  obtain ⟨gx, ox, rfl, hx⟩ := rec_cells hrt
  obtain ⟨hx0, hx34⟩ := hx w8 (Below.refl _ _)
  have a0 : w8.cell? ⟨ga, 0, none⟩ = some (.int .u64 1) := hRa.cell rfl
  have a1 : w8.cell? ⟨ga, 1, none⟩ = some (.int .u64 2) := hRa.cell rfl
  have a2 : w8.cell? ⟨ga, 2, none⟩ = some (.int .u64 3) := hRa.cell rfl
  have a3 : w8.cell? ⟨ga, 3, none⟩ = some (.slice (some ⟨w.heap.size, 0, none⟩) 1 1) := hRa.cell rfl
  have d0 : w8.cell? ⟨gc, 0, none⟩ = some (.int .u64 1) := hRc.cell rfl
  have d1 : w8.cell? ⟨gc, 1, none⟩ = some (.int .u64 2) := hRc.cell rfl
  have d2 : w8.cell? ⟨gc, 2, none⟩ = some (.int .u64 3) := hRc.cell rfl
  have d3 : w8.cell? ⟨gc, 3, none⟩ = some (.slice A4 1 k4) := hRc.cell rfl
  go_wp2_with fail
  refine (refsame_act 1 2 3 1 2 3 [9] [9] 1 1 _ A4 1 k4 w8 (Lib.hid rfl) (Lib.hid rfl) hr9' hr4).mono ?_
  rw [same_selfP]
  rintro e' w9 ⟨rfl, hb⟩
  replace hRa := hRa.later hb
  replace hB := below_step hB hb
  clear a0 a1 a2 a3 d0 d1 d2 d3 hx0 hx34
  have a0 : w9.cell? ⟨ga, 0, none⟩ = some (.int .u64 1) := hRa.cell rfl
  have a1 : w9.cell? ⟨ga, 1, none⟩ = some (.int .u64 2) := hRa.cell rfl
  have a2 : w9.cell? ⟨ga, 2, none⟩ = some (.int .u64 3) := hRa.cell rfl
  have a3 : w9.cell? ⟨ga, 3, none⟩ = some (.slice (some ⟨w.heap.size, 0, none⟩) 1 1) := hRa.cell rfl
  go_wp2_with fail
  refine (rightA_any 1 2 3 1 (some ⟨w.heap.size, 0, none⟩) 1 w9).mono ?_
  rw [show decide (1 ≤ 1 ∧ 1 ≤ 32) = true from by decide]
  rintro e' w10 ⟨rfl, hb2⟩
  go_wp2_with fail
  go_ret
  exact ⟨rfl, below_step hB hb2⟩
end Go.Proofs.YtknjpmoimjhddaaDoor
/-
  What comes in at the laws of layer 14: small; Seal, in both ways. Conditions: the package's table holds sixty-four words (for tags).
-/
namespace Go.Proofs.YtknjpmoimjhddaaDoor
set_option maxRecDepth 100000
open Go.RowKit
set_option linter.unusedSimpArgs false
set_option linter.unusedVariables false

def smallE (cs : List Tm) (n m : Nat) : Bool := shortT cs && (decide (n ≤ 300) && decide (m ≤ 300))
theorem small_any (K : Int) (ts : List TD) (p n m : Nat) (A B D : Option Addr) (c bd f : Nat) (w : World) (HP : Hid (ts.length = p)) (ht : RdT w A ts) (hml : ∀ x ∈ ts, x.k.length ≤ 9223372036854775807 ∧ x.m.length ≤ 9223372036854775807) (hp : p ≤ 9223372036854775807) (hn : n ≤ 9223372036854775807) (hm : m ≤ 9223372036854775807) :
    Calls Tryd.prog 8 #[.agg #[.int .i64 K, .slice A p c], .slice B n bd, .slice D m f] w fun e w' => e = .returned (.bool (smallE (conT ts) n m)) ∧ Below w.heap.size w w' := by
  obtain ⟨hR, hB⟩ := box_rows w 24 (.int .i64 K) (.slice A p c)
  replace ht := ht.keep hB
  obtain ⟨R, hR'⟩ : ∃ R, smallE (conT ts) n m = R := ⟨_, rfl⟩
  rw [hR']
  unfold smallE at hR'
  obtain ⟨S, hS⟩ : ∃ S, shortT (conT ts) = S := ⟨_, rfl⟩
  have HS := Lib.hid hS
  rw [hS] at hR'
  have HR' := Lib.hid hR'
  clear hS hR'
  go_enter Tryd.func8, Tryd.ntmps8
  go_upto_region 1 with fail
  generalize (w.alloc (.cells #[.int .i64 K, .slice A p c] 24)) = w1 at hR hB ht ⊢
  have c0 : w1.cell? ⟨w.heap.size, 1, none⟩ = some (.slice A p c) := hR.cell rfl
  go_wp2_with fail
  refine (refshort_any ts p A c _ HP ht hml hp).mono ?_
  rintro e' w3 ⟨rfl, rfl⟩
  rw [HS.out]
  cases S with
  | false =>
    have eR : R = false := HR'.out.symm
    subst eR
    clear HR'
    go_wp2_with fail
    go_ret
    exact ⟨rfl, hB⟩
  | true =>
    by_cases h1 : n ≤ 300
    · have g1 : decide ((n : Int) ≤ 300) = true := decide_eq_true (by omega)
      have z1 : (n : Int) ≤ 300 := by omega
      by_cases h2 : m ≤ 300
      · have g2 : decide ((m : Int) ≤ 300) = true := decide_eq_true (by omega)
        have z2 : (m : Int) ≤ 300 := by omega
        have eR : R = true := by rw [← HR'.out, decide_eq_true h1, decide_eq_true h2]; rfl
        subst eR
        clear h1 h2 HR'
        go_wp2_with fail
        go_ret
        exact ⟨rfl, hB⟩
      · have g2 : decide ((m : Int) ≤ 300) = false := decide_eq_false (by omega)
        have z2 : ¬ (m : Int) ≤ 300 := by omega
        have eR : R = false := by rw [← HR'.out, decide_eq_true h1, decide_eq_false h2]; rfl
        subst eR
        clear h1 h2 HR'
        go_wp2_with fail
        go_ret
        exact ⟨rfl, hB⟩
    · have g1 : decide ((n : Int) ≤ 300) = false := decide_eq_false (by omega)
      have z1 : ¬ (n : Int) ≤ 300 := by omega
      have eR : R = false := by rw [← HR'.out, decide_eq_false h1]; rfl
      subst eR
      clear h1 HR'
      go_wp2_with fail
      go_ret
      exact ⟨rfl, hB⟩

def SealH [Inhabited Tab] (K : Int) (cs vs : List Tm) (key : List UInt8) (t e d : Nat) (s : List UInt8) (m : Nat) (X : List UInt8) (ev : Value) (W : World) : Prop :=
  (ev = .nilIface ∧ rightE K cs = true ∧ 1 ≤ m ∧ m ≤ 32 ∧ vs = termsE K cs (key, actB t e d s) ∧ X = sealE K cs key t e d s) ∨ ((∃ g, ev = errV g ∧ Flt W g 4 1) ∧ ¬ (rightE K cs = true ∧ 1 ≤ m ∧ m ≤ 32) ∧ vs = cs ∧ X = [])
def SealA [Inhabited Tab] (K : Int) (ts : List TD) (key : List UInt8) (t e d : Nat) (s : List UInt8) (m : Nat) (w : World) (e₁ : Ending) (w' : World) : Prop :=
  ∃ (us : List TD) (p : Nat) (A : Option Addr) (c n : Nat) (tA : Option Addr) (tc : Nat) (X : List UInt8) (ev : Value), e₁ = .returned (.tuple #[.agg #[.int .i64 K, .slice A p c], .slice tA n tc, ev]) ∧ Hid (us.length = p) ∧ p ≤ c ∧ RdT w' A us ∧ okT w' us ∧ Hid (X.length = n) ∧ n ≤ tc ∧ Rd vB w' tA X ∧ Hid (SealH K (conT ts) (conT us) key t e d s m X ev w') ∧ Below w.heap.size w w'
theorem seal_any [Inhabited Tab] (K : Int) (ts : List TD) (key : List UInt8) (p n : Nat) (A B : Option Addr) (c bd : Nat) (t e d : Nat) (s : List UInt8) (m : Nat) (C : Option Addr) (cd : Nat) (w : World) (HP : Hid (ts.length = p)) (HL : Hid (lenT (conT ts))) (ht : RdT w A ts) (hok : okT w ts) (hp : p ≤ 1000000) (hc : p ≤ c)
    (hht : t < 18446744073709551616) (hhe : e < 18446744073709551616) (hhd : d < 18446744073709551616) (HS : Hid (s.length = m)) (hrs : Rd vB w C s) (hmd : m ≤ cd) (HN : Hid (key.length = n)) (hrk : Rd vB w B key) (hn : n ≤ 1000000) (hnb : n ≤ bd) (HK : Hid (KTab w)) :
    Calls Tryd.prog 9 #[.agg #[.int .i64 K, .slice A p c], .slice B n bd, aggP t e d C m cd] w (SealA K ts key t e d s m w) := by
  by_cases h : 1 ≤ m ∧ m ≤ 32
  · cases hR : rightE K (conT ts) with
    | true =>
      refine (seal_good K ts key p n A B c bd t e d s m C cd w HP HL ht hok hp hc hht hhe hhd HS hrs hmd h.1 h.2 HN hrk hn hnb (Lib.hid hR) HK).mono ?_
      rintro e₁ w' ⟨us, q, A', c', n', tA, tc, rfl, h1, h2, h3, h4, h5, h6, h7, h8, h9⟩
      exact ⟨us, q, A', c', n', tA, tc, _, _, rfl, h1, h2, h3, h4, h6, h7, h8, .inl ⟨rfl, hR, h.1, h.2, h5.out, rfl⟩, h9⟩
    | false =>
      refine (seal_bad K ts key p n A B c bd t e d s m C cd w HP HL ht hok hp hc hht hhe hhd HS hrs hmd h.1 h.2 (Lib.hid hR) HK).mono ?_
      rintro e₁ w' ⟨us, q, A', c', g, tA, tc, rfl, h1, h2, h3, h4, h5, h6, h7⟩
      exact ⟨us, q, A', c', 0, tA, tc, [], _, rfl, h1, h2, h3, h4, Lib.hid rfl, Nat.zero_le _, Rd.nil, .inr ⟨⟨g, rfl, h6⟩, fun hh => absurd (hR.symm.trans hh.1) Bool.false_ne_true, h5.out, rfl⟩, h7⟩
  · refine (seal_no K ts key p n A B c bd t e d m C cd w HP HL ht hok hp hc h).mono ?_
    rintro e₁ w' ⟨us, q, A', c', g, tA, tc, rfl, h1, h2, h3, h4, h5, h6, h7⟩
    exact ⟨us, q, A', c', 0, tA, tc, [], _, rfl, h1, h2, h3, h4, Lib.hid rfl, Nat.zero_le _, Rd.nil, .inr ⟨⟨g, rfl, h6⟩, fun hh => h hh.2, h5.out, rfl⟩, h7⟩
end Go.Proofs.YtknjpmoimjhddaaDoor
/-
  A region that draws its order, several of whose operations make memory: each operation by itself, behind those that it waits for, keeps one condition; the orders are not told apart (no program is named here). Conditions: the condition holds at the beginning, and each operation keeps it.
-/
namespace Go.Proofs.YtknjpmoimjhddaaDoor
set_option maxRecDepth 100000
open Go.RowKit
set_option linter.unusedSimpArgs false
set_option linter.unusedVariables false

/-- The frame with these slots' values. -/
def puts (a : Act) : List Nat → (Nat → Value) → Act
  | [], _ => a
  | k :: ks, s => puts (a.put (some k) (s k)) ks s
def upd (s : Nat → Value) (k : Nat) (v : Value) : Nat → Value := fun j => if j = k then v else s j
theorem upd_same (s : Nat → Value) (k : Nat) (v : Value) : upd s k v k = v := by simp [upd]
theorem upd_other (s : Nat → Value) (k j : Nat) (v : Value) (h : j ≠ k) : upd s k v j = s j := by simp [upd, h]
/-- Which operations an operation waits for. -/
def depsOf (ops : Array Oper) (i : Nat) : List Nat := ((ops[i]?).map fun o => ((o.after.toList.filter fun e => Region.binds .any e).map (·.on))).getD []
def seen (L : Nat → Bool) (l : List Nat) : Prop := ∀ j ∈ l, L j = true
theorem ready_deps {ops : Array Oper} {listed : Array Bool} {i : Nat} (h : i ∈ Region.ready .any ops listed) : i < ops.size ∧ listed.getD i true = false ∧ seen (fun j => listed.getD j false) (depsOf ops i) := by
  unfold Region.ready at h
  obtain ⟨h1, h2⟩ := List.mem_filter.1 h
  have hi := List.mem_range.1 h1
  rw [Bool.and_eq_true] at h2
  obtain ⟨h2, h3⟩ := h2
  refine ⟨hi, by simpa using h2, fun j hj => ?_⟩
  unfold depsOf at hj
  rw [Array.getElem?_eq_getElem hi] at hj h3
  simp only [Option.map_some, Option.getD_some] at hj h3
  obtain ⟨e, he, rfl⟩ := List.mem_map.1 hj
  obtain ⟨he1, he2⟩ := List.mem_filter.1 he
  have := (Array.all_eq_true'.1 h3) e (Array.mem_toList_iff.1 he1)
  simpa [he2] using this

section
variable {P : Program} {ops : Array Oper} {Q : Exit → Act → World → Prop}
/-- What each operation keeps, as a function of which have come up. -/
theorem free_held (a0 : Act) (dsts : List Nat) (Φ : (Nat → Bool) → (Nat → Value) → World → Prop)
    (step : ∀ (i : Nat) (L : Nat → Bool) (s : Nat → Value) (W : World), i < ops.size → L i = false → seen L (depsOf ops i) → (∀ j, L j = true → seen L (depsOf ops j)) → Φ L s W → ∀ K : Act → World → Prop, Shut (∀ a' s' W', a' = puts a0 dsts s' → Φ (fun j => j == i || L j) s' W' → K a' W') → wpOp P ops Q i K (puts a0 dsts s) W)
    (done : ∀ s W L, (∀ i, i < ops.size → L i = true) → Φ L s W → Q .normal (puts a0 dsts s) W) (hdep : (List.range ops.size).all (fun i => (depsOf ops i).all (fun j => decide (j < i))) = true) :
    ∀ (fuel : Nat) (listed : Array Bool) (L : Nat → Bool) (s : Nat → Value) (W : World), listed.size = ops.size → (∀ i, i < ops.size → L i = listed.getD i false) → ((List.range ops.size).filter (fun i => !listed.getD i true)).length ≤ fuel → (∀ j, L j = true → seen L (depsOf ops j)) → Φ L s W → wpAnyH P .any ops Q (fun _ => True) fuel listed (puts a0 dsts s) W := by
  have none_ready : ∀ (listed : Array Bool), listed.size = ops.size → Region.ready .any ops listed = [] → ∀ i, i < ops.size → listed.getD i false = true := by
    intro listed hsz hr i
    induction i using Nat.strongRecOn with
    | _ i ih =>
      intro hi
      cases hli : listed.getD i false with
      | true => rfl
      | false =>
        have : i ∈ Region.ready .any ops listed := by
          unfold Region.ready
          refine List.mem_filter.2 ⟨List.mem_range.2 hi, ?_⟩
          rw [Bool.and_eq_true]
          have hlt : i < listed.size := by omega
          refine ⟨?_, ?_⟩
          · simp [Array.getD, hlt] at hli ⊢
            exact hli
          · rw [Array.getElem?_eq_getElem hi]
            simp only [Option.map_some, Option.getD_some]
            refine Array.all_eq_true'.2 (fun e he => ?_)
            by_cases hb : Region.binds .any e = true
            · have hmem : e.on ∈ depsOf ops i := by
                unfold depsOf
                rw [Array.getElem?_eq_getElem hi]
                simp only [Option.map_some, Option.getD_some]
                exact List.mem_map.2 ⟨e, List.mem_filter.2 ⟨Array.mem_toList_iff.2 he, hb⟩, rfl⟩
              have hlt2 : e.on < i := by
                have h1 := List.all_eq_true.1 hdep i (List.mem_range.2 hi)
                have h2 := List.all_eq_true.1 h1 _ hmem
                exact of_decide_eq_true h2
              have := ih _ hlt2 (by omega)
              rw [this]
              simp
            · simp [Bool.eq_false_iff.2 hb]
        rw [hr] at this
        cases this
  intro fuel
  induction fuel with
  | zero =>
    intro listed L s W hsz hL hf hcl hΦ
    have hnil : Region.ready .any ops listed = [] := by
      refine List.eq_nil_iff_forall_not_mem.2 (fun i hi => ?_)
      obtain ⟨h1, h2, _⟩ := ready_deps hi
      have : i ∈ (List.range ops.size).filter (fun i => !listed.getD i true) := List.mem_filter.2 ⟨List.mem_range.2 h1, by rw [h2]; rfl⟩
      have hlen := List.length_pos_of_mem this
      omega
    exact ⟨hnil, done s W L (fun i hi => by rw [hL i hi]; exact none_ready listed hsz hnil i hi) hΦ⟩
  | succ fuel ih =>
    intro listed L s W hsz hL hf hcl hΦ
    refine ⟨fun hnil => done s W L (fun i hi => by rw [hL i hi]; exact none_ready listed hsz hnil i hi) hΦ, fun i hi => ?_⟩
    obtain ⟨h1, h2, h3⟩ := ready_deps hi
    have hlt : i < listed.size := by omega
    have hLi : L i = false := by
      rw [hL i h1]
      simp [Array.getD, hlt] at h2 ⊢
      exact h2
    have hd : seen L (depsOf ops i) := fun j hj => by
      have hji : j < i := by
        have h4 := List.all_eq_true.1 hdep i (List.mem_range.2 h1)
        exact of_decide_eq_true (List.all_eq_true.1 h4 _ hj)
      rw [hL j (by omega)]
      exact h3 j hj
    refine step i L s W h1 hLi hd hcl hΦ _ (fun a' s' W' e hΦ' => ⟨trivial, ?_⟩)
    · subst e
      refine ih (listed.setIfInBounds i true) _ s' W' (by simp [hsz]) (fun j hj => ?_) ?_ (fun j hj k hk => ?_) hΦ'
      · have hjl : j < listed.size := by omega
        by_cases e : j = i
        · subst e
          simp [Array.getD, hjl]
        · have e' : (j == i) = false := beq_eq_false_iff_ne.2 e
          have e2 : i ≠ j := fun h => e h.symm
          rw [e', Bool.false_or, hL j hj]
          simp [Array.getD, hjl, Array.getElem_setIfInBounds, e2]
      · have hsub : ((List.range ops.size).filter (fun j => !(listed.setIfInBounds i true).getD j true)).length < ((List.range ops.size).filter (fun j => !listed.getD j true)).length := by
          have e1 : (List.range ops.size).filter (fun j => !(listed.setIfInBounds i true).getD j true) = ((List.range ops.size).filter (fun j => !listed.getD j true)).filter (fun j => !(j == i)) := by
            rw [List.filter_filter]
            refine List.filter_congr (fun j hj => ?_)
            have hjl : j < listed.size := by have := List.mem_range.1 hj; omega
            by_cases e : j = i
            · subst e
              simp [Array.getD, hjl]
            · have e' : (j == i) = false := beq_eq_false_iff_ne.2 e
              have e2 : i ≠ j := fun h => e h.symm
              simp [Array.getD, hjl, Array.getElem_setIfInBounds, e2, e]
          rw [e1]
          have hmem : i ∈ (List.range ops.size).filter (fun j => !listed.getD j true) := List.mem_filter.2 ⟨List.mem_range.2 h1, by rw [h2]; rfl⟩
          refine List.length_filter_lt_length_iff_exists.2 ⟨i, hmem, by simp⟩
        omega
      · have hLk : L k = true := by
          by_cases e : j = i
          · subst e
            exact hd k hk
          · have e' : (j == i) = false := beq_eq_false_iff_ne.2 e
            rw [e', Bool.false_or] at hj
            exact hcl j hj k hk
        rw [hLk, Bool.or_true]
theorem put_self (a : Act) (k : Nat) : a.put (some k) (a.tmps.getD k undef) = a := by
  have e : a.tmps.setIfInBounds k (a.tmps.getD k undef) = a.tmps := by
    apply Array.ext
    · simp
    · intro i h1 h2
      rw [Array.getElem_setIfInBounds]
      split
      · rename_i h
        subst h
        simp [Array.getD, h2]
      · rfl
  unfold Act.put
  dsimp only
  rw [e]
theorem puts_self (a : Act) : ∀ ks, puts a ks (fun k => a.tmps.getD k undef) = a
  | [] => rfl
  | k :: ks => by
    unfold puts
    rw [put_self]
    exact puts_self a ks
theorem wp_region_free (dsts : List Nat) (Φ : (Nat → Bool) → (Nat → Value) → World → Prop) {id : Nat} {a : Act} {w : World} (hm : P.follows .mixedOrders = true) (hdep : (List.range ops.size).all (fun i => (depsOf ops i).all (fun j => decide (j < i))) = true)
    (h0 : Φ (fun _ => false) (fun k => a.tmps.getD k undef) w.drew)
    (step : ∀ (i : Nat) (L : Nat → Bool) (s : Nat → Value) (W : World), i < ops.size → L i = false → seen L (depsOf ops i) → (∀ j, L j = true → seen L (depsOf ops j)) → Φ L s W → ∀ K : Act → World → Prop, Shut (∀ a' s' W', a' = puts a dsts s' → Φ (fun j => j == i || L j) s' W' → K a' W') → wpOp P ops (NoPanic Q) i K (puts a dsts s) W)
    (done : ∀ s W L, (∀ i, i < ops.size → L i = true) → Φ L s W → Q .normal (puts a dsts s) W) : (Code.region id ops true).wp P Q a w := by
  refine wp_region_noPanic (wp_region_held (S := fun _ => True) hm ?_)
  have := free_held (Q := NoPanic Q) a dsts Φ step (fun s W L h1 h2 => done s W L h1 h2) hdep ops.size (Array.replicate ops.size false) (fun _ => false) (fun k => a.tmps.getD k undef) w.drew (by simp) (fun i hi => by simp [Array.getD, hi]) (Nat.le_trans (List.length_filter_le _ _) (by simp)) (fun j hj => by cases hj) h0
  rw [puts_self] at this
  exact this
theorem seen_of {L : Nat → Bool} {l : List Nat} (h : seen L l) (j : Nat) (hj : l.contains j = true) : L j = true := h j (by simpa using hj)
/-- What waits for what has not come up has not come up. -/
theorem not_yet {L : Nat → Bool} (h : ∀ j, L j = true → seen L (depsOf ops j)) (k j : Nat) (hk : (depsOf ops k).contains j = true) (hj : L j = false) : L k = false := by
  cases e : L k with
  | false => rfl
  | true => rw [seen_of (h k e) j hk] at hj; cases hj
/-- One operation that is wanted. -/
theorem free_op {i : Nat} {o : Oper} {a : Act} {w : World} {K : Act → World → Prop} (ho : ops[i]? = some o) (hw : Region.wanted o (yielded ops a.tmps) = true) (h : o.wp P a w K Q) : wpOp P ops Q i K a w := by
  unfold wpOp
  simp only [ho, hw, if_true]
  exact .inl h
end
end Go.Proofs.YtknjpmoimjhddaaDoor
/-
  What the drawn region of the law RecordBack keeps that makes 'append(append([]byte{}, x...), cut)' and opens it: a condition for each operation (XFree). No conditions but those typed.
-/
namespace Go.Proofs.YtknjpmoimjhddaaDoor
set_option maxRecDepth 100000
open Go.RowKit
set_option linter.unusedSimpArgs false
set_option linter.unusedVariables false

def zeroA : List Value := [.int .u64 0, .int .u64 0, .int .u64 0, .slice none 0 0]
/-- Which slots hold what, as soon as their operation has come up. -/
structure Back11 (w0 : World) (E key xv : Value) (X : List UInt8) (q0 : Nat) (y : UInt8) (L : Nat → Bool) (s : Nat → Value) (W : World) : Prop where
  bel : Below w0.heap.size w0 W
  f0 : L 0 = true → s 90 = E
  f1 : L 1 = true → s 91 = key
  f2 : L 2 = true → L 4 = false → ∃ g, s 92 = .slice (some ⟨g, 0, none⟩) 0 0 ∧ g < W.heap.size ∧ W.ownsRow w0.heap.size 5 1 (.slice (some ⟨g, 0, none⟩) 0 0) 0 []
  f3 : L 3 = true → s 93 = xv
  f4 : L 4 = true → L 7 = false → ∃ v, s 94 = v ∧ W.ownsRow w0.heap.size 5 1 v X.length (X.map vB)
  f5 : L 5 = true → s 95 = .int .u8 (q0 : Int)
  f6 : L 6 = true → L 7 = false → ∃ g, s 96 = .slice (some ⟨g, 0, none⟩) 1 1 ∧ g < W.heap.size ∧ Rd vB W (some ⟨g, 0, none⟩) [y] ∧ (L 2 = true → L 4 = false → s 92 ≠ .slice (some ⟨g, 0, none⟩) 0 0) ∧ (L 4 = true → (s 94).ownBlock ≠ some g)
  f7 : L 7 = true → ∃ A c, s 97 = .slice A (X.length + 1) c ∧ X.length + 1 ≤ c ∧ Rd vB W A (X ++ [y])
  f8 : L 8 = true → ∃ A k v, s 98 = .tuple #[aggP 0 0 0 A 0 k, errV v] ∧ Flt W v 4 4
  f9 : L 9 = true → ∃ A k v, s 89 = .tuple #[aggP 0 0 0 A 0 k, errV v] ∧ Flt W v 4 4
  f10 : L 10 = true → ∃ A k, s 99 = aggP 0 0 0 A 0 k
  f11 : L 11 = true → ∃ v, s 100 = errV v ∧ Flt W v 4 4
  f12 : L 12 = true → L 13 = false → ∃ g, s 18 = .pointer (some ⟨g, 0, none⟩) ∧ w0.heap.size ≤ g ∧ Row W g 28 zeroA
  f14 : L 14 = true → ∃ v, s 19 = errV v ∧ Flt W v 4 4
section
variable {w0 : World} {E key xv : Value} {X : List UInt8} {q0 : Nat} {y : UInt8} {L : Nat → Bool} {s : Nat → Value} {W W' : World}
theorem Back11.later (h : Back11 w0 E key xv X q0 y L s W) (hb : Below W.heap.size W W') : Back11 w0 E key xv X q0 y L s W' where
  bel := below_step h.bel hb
  f0 := h.f0
  f1 := h.f1
  f2 := fun a b => let ⟨g, e, hg, ho⟩ := h.f2 a b; ⟨g, e, Nat.lt_of_lt_of_le hg hb.size, ownsRow_later ho hb⟩
  f3 := h.f3
  f4 := fun a b => let ⟨v, e, ho⟩ := h.f4 a b; ⟨v, e, ownsRow_later ho hb⟩
  f5 := h.f5
  f6 := fun a b => let ⟨g, e, hg, hr, h1, h2⟩ := h.f6 a b; ⟨g, e, Nat.lt_of_lt_of_le hg hb.size, hr.keep hb, h1, h2⟩
  f7 := fun a => let ⟨A, c, e, hc, hr⟩ := h.f7 a; ⟨A, c, e, hc, hr.keep hb⟩
  f8 := fun a => let ⟨A, k, v, e, hF⟩ := h.f8 a; ⟨A, k, v, e, hF.later hb⟩
  f9 := fun a => let ⟨A, k, v, e, hF⟩ := h.f9 a; ⟨A, k, v, e, hF.later hb⟩
  f10 := h.f10
  f11 := fun a => let ⟨v, e, hF⟩ := h.f11 a; ⟨v, e, hF.later hb⟩
  f12 := fun a b => let ⟨g, e, hg, hR⟩ := h.f12 a b; ⟨g, e, hg, hR.later hb⟩
  f14 := fun a => let ⟨v, e, hF⟩ := h.f14 a; ⟨v, e, hF.later hb⟩
end
theorem flt_not_act {W : World} {f g : Nat} {a b : Int} (hF : Flt W f a b) (hR : Row W g 28 zeroA) : f ≠ g := fun e => by
  subst e
  have h1 : W.cell? ⟨f, 0, none⟩ = some (.int .i64 a) := Row.cell hF rfl
  have h2 : W.cell? ⟨f, 0, none⟩ = some (.int .u64 0) := hR.cell rfl
  rw [h1] at h2
  injection h2 with h2
  injection h2 with h2
  cases h2
/-- A row of the call's own that is grown is no activation's block. -/
theorem own_not_act {W : World} {base n g : Nat} {v : Value} {xs : List Value} {l : List Value} (ho : W.ownsRow base 5 1 v n xs) (hR : Row W g 28 l) : v.ownBlock ≠ some g := fun e => by
  rcases ho.2 with ⟨rfl, _⟩ | ⟨g', cap, cur, rfl, _, hc, _⟩
  · cases e
  · have e' : g' = g := Option.some.inj e
    subst e'
    have h2 : W.heap[g']? = some (.cells l.toArray 28) := hR
    rw [hc] at h2
    injection h2 with h2
    injection h2 with _ h2 _
    exact absurd h2 (by decide)
end Go.Proofs.YtknjpmoimjhddaaDoor
/-
  The walk of the law RecordBack: what was sealed is opened as it was; what is opened, and sealed again, has the same bytes; cut, or with more behind, it isn't opened. Conditions: the package's table holds sixty-four words (for tags); errors.errorType holds the handle of the type error (EtC).
-/
namespace Go.Proofs.YtknjpmoimjhddaaDoor
set_option maxRecDepth 100000
open Go.RowKit
set_option linter.unusedSimpArgs false
set_option linter.unusedVariables false

theorem smallE_true {cs : List Tm} {n m : Nat} (h : shortT cs = true) (hn : n ≤ 300) (hm : m ≤ 300) : smallE cs n m = true := by
  unfold smallE
  rw [h, decide_eq_true hn, decide_eq_true hm]
  rfl
theorem short_p {ts : List TD} {p : Nat} (HP : Hid (ts.length = p)) (h : shortT (conT ts) = true) : p ≤ 400 := by
  unfold shortT at h
  rw [decide_eq_true_eq, conT_length, HP.out] at h
  exact h.1
theorem termsE_len {K : Int} {cs : List Tm} {key msg : List UInt8} (h : lenT cs) (hk : key.length ≤ 1000000000) (hm : msg.length ≤ 1000000000) : lenT (termsE K cs (key, msg)) := by
  unfold termsE
  split
  · exact h.put hk hm
  · exact h

set_option maxHeartbeats 16000000 in
theorem recback_core [Inhabited Tab] (Kn : Int) (ts : List TD) (key s b : List UInt8) (p n m nb : Nat) (A B C D : Option Addr) (c bd cd f : Nat) (t e d : Nat) (q0 : Nat) (w : World) (HP : Hid (ts.length = p)) (hT : RdT w A ts) (hok : okT w ts) (hml : ∀ x ∈ ts, x.k.length ≤ 9223372036854775807 ∧ x.m.length ≤ 9223372036854775807) (hc : p ≤ c)
    (HN : Hid (key.length = n)) (hrk : Rd vB w B key) (hnb : n ≤ bd) (hht : t < 18446744073709551616) (hhe : e < 18446744073709551616) (hhd : d < 18446744073709551616) (HS : Hid (s.length = m)) (hrs : Rd vB w C s) (hmd : m ≤ cd) (HB : Hid (b.length = nb)) (hrb : Rd vB w D b) (hf : nb ≤ f)
    (HSH : Hid (shortT (conT ts) = true)) (hn3 : n ≤ 300) (hm3 : m ≤ 300) (hb3 : nb ≤ 300) (hq0 : q0 < 256) (HK : Hid (KTab w)) (hg : EtC w) :
    Calls Tryd.prog 3 #[.agg #[.int .i64 Kn, .slice A p c], .slice B n bd, aggP t e d C m cd, .slice D nb f, .int .u8 (q0 : Int)] w fun e₁ w' => e₁ = .returned (.bool true) ∧ Below w.heap.size w w' := by
  have hp : p ≤ 400 := short_p HP HSH.out
  have HLT : Hid (lenT (conT ts)) := lenT.short HSH.out
  have HSM : Hid (smallE (conT ts) n nb = true) := smallE_true HSH.out hn3 hb3
  have HML := Lib.hid hml
  have HTB := Lib.hid (And.intro hht (And.intro hhe hhd))
  clear hml hht hhe hhd
  obtain ⟨i0, hi, hz0, hz1, hz2⟩ := info_parts info_u8
  obtain ⟨hR, hB0⟩ := box_rows w 24 (.int .i64 Kn) (.slice A p c)
  obtain ⟨hRa, hBa⟩ := box_pay (w.alloc (.cells #[.int .i64 Kn, .slice A p c] 24)) 28 (.int .u64 (t : Int)) (.int .u64 (e : Int)) (.int .u64 (d : Int)) (.slice C m cd)
  replace hR := hR.later hBa
  have hBB := below_step hB0 hBa
  have hz : (w.alloc (.cells #[.int .i64 Kn, .slice A p c] 24)).heap.size = w.heap.size + 1 := by simp
  rw [hz] at hRa
  replace hT := hT.keep hBB
  replace hok := hok.keep hBB
  replace hrk := hrk.keep hBB
  replace hrs := hrs.keep hBB
  replace hrb := hrb.keep hBB
  replace HK := Lib.hid (HK.out.keep hBB)
  replace hg := hg.later hBB
  clear hB0 hBa hz
  unfold aggP
  go_enter Tryd.func3, Tryd.ntmps3
  go_upto_region 1 with fail
  generalize (w.alloc (.cells #[.int .i64 Kn, .slice A p c] 24)).alloc (.cells #[.int .u64 (t : Int), .int .u64 (e : Int), .int .u64 (d : Int), .slice C m cd] 28) = W0 at hR hRa hBB hT hok hrk hrs hrb HK hg ⊢
  go_wp2_with fail
  refine (awake14_any _ HK hg).mono ?_
  rintro e₁ w1 ⟨rfl, hb⟩
  replace hR := hR.later hb
  replace hRa := hRa.later hb
  replace hT := hT.keep hb
  replace hok := hok.keep hb
  replace hrk := hrk.keep hb
  replace hrs := hrs.keep hb
  replace hrb := hrb.keep hb
  replace HK := Lib.hid (HK.out.keep hb)
  replace hg := hg.later hb
  replace hBB := below_step hBB hb
  clear hb
  go_wp2_with (refine wpList_load_part rfl 24 (.tmp 5) rfl w.heap.size 0 rfl _ _ hR [.int .i64 Kn, .slice A p c] (by rfl) _ Tryd.underlying24 rfl (by exact size_engine) ?_)
  refine (small_any Kn ts p n nb A B D c bd f _ HP hT HML.out (by omega) (by omega) (by omega)).mono ?_
  rw [HSM.out]
  rintro e₁ w2 ⟨rfl, hb⟩
  replace hR := hR.later hb
  replace hRa := hRa.later hb
  replace hT := hT.keep hb
  replace hok := hok.keep hb
  replace hrk := hrk.keep hb
  replace hrs := hrs.keep hb
  replace hrb := hrb.keep hb
  replace HK := Lib.hid (HK.out.keep hb)
  replace hg := hg.later hb
  replace hBB := below_step hBB hb
  clear hb
  have c3 : w2.cell? ⟨w.heap.size + 1, 3, none⟩ = some (.slice C m cd) := hRa.cell rfl
  have g3 : decide ((300 : Int) < (m : Int)) = false := decide_eq_false (by omega)
  have n3 : ¬ 300 < m := by omega
  go_upto_region 5 with fail
  clear c3 g3 n3
  go_wp2_with (first | (refine wpList_load_part rfl 24 (.tmp 5) rfl w.heap.size 0 rfl _ _ hR [.int .i64 Kn, .slice A p c] (by rfl) _ Tryd.underlying24 rfl (by exact size_engine) ?_) | (refine wpList_load_part rfl 28 (.tmp 7) rfl (w.heap.size + 1) 0 rfl _ _ hRa (cellsP t e d C m cd) (by rfl) _ Tryd.underlying28 rfl (by exact size_act) ?_))
  refine (seal_any Kn ts key p n A B c bd t e d s m C cd _ HP HLT hT hok (by omega) hc HTB.out.1 HTB.out.2.1 HTB.out.2.2 HS hrs hmd HN hrk (by omega) hnb HK).mono ?_
  rintro e₁ w3 ⟨us, p2, A2, c2, n2, tA, tc, X, ev, rfl, HP2, hpc2, htu, hoku, HX, hntc, hrx, HSE, hb⟩
  replace hR := hR.later hb
  replace hRa := hRa.later hb
  replace hT := hT.keep hb
  replace hok := hok.keep hb
  replace hrk := hrk.keep hb
  replace hrs := hrs.keep hb
  replace hrb := hrb.keep hb
  replace HK := Lib.hid (HK.out.keep hb)
  replace hg := hg.later hb
  replace hBB := below_step hBB hb
  clear hb
  have hRn : Row (w3.alloc (.cells #[.int .i64 0, .slice none 0 0] 24)) w3.heap.size 24 [.int .i64 0, .slice none 0 0] := Row.new w3 _ _ _ rfl
  go_upto_region 6 with (refine wpList_store_row rfl 24 (.tmp 11) (.tmp 47) rfl w3.heap.size rfl [.int .i64 Kn, .slice A2 p2 c2] rfl _ _ hRn (by exact size_engine) rfl (one_pair _ _ rfl rfl) ?_)
  have hRe := hRn.setRow [.int .i64 Kn, .slice A2 p2 c2]
  have hbn : Below w3.heap.size w3 ((w3.alloc (.cells #[.int .i64 0, .slice none 0 0] 24)).setRow w3.heap.size [.int .i64 Kn, .slice A2 p2 c2].toArray) := below_setRow (below_new (Below.refl _ _) _) (Nat.le_refl _) _
  generalize (w3.alloc (.cells #[.int .i64 0, .slice none 0 0] 24)).setRow w3.heap.size [.int .i64 Kn, .slice A2 p2 c2].toArray = w4 at hRe hbn ⊢
  replace hR := hR.later hbn
  replace hRa := hRa.later hbn
  replace hT := hT.keep hbn
  replace hok := hok.keep hbn
  replace hrk := hrk.keep hbn
  replace hrs := hrs.keep hbn
  replace hrb := hrb.keep hbn
  replace htu := htu.keep hbn
  replace hoku := hoku.keep hbn
  replace hrx := hrx.keep hbn
  replace HK := Lib.hid (HK.out.keep hbn)
  replace hg := hg.later hbn
  replace hBB := below_step hBB hbn
  clear hbn hRn
  generalize w3.heap.size = ge at hRe ⊢
  obtain ⟨E0, HE0⟩ : ∃ E : Bool, Hid ((E = true → ev = .nilIface) ∧ (E = false → ∃ g, ev = errV g)) := by
    rcases HSE.out with ⟨h, _⟩ | ⟨⟨g, h, _⟩, _⟩
    · exact ⟨true, Lib.hid ⟨fun _ => h, (fun h => by cases h)⟩⟩
    · exact ⟨false, Lib.hid ⟨(fun h => by cases h), fun _ => ⟨g, h⟩⟩⟩
  go_cut [51] (fun v wx => v = .bool E0 ∧ w4 = wx)
  case first =>
    cases E0 with
    | true =>
      have h := HE0.out.1 rfl
      subst h
      clear HE0 HSE
      go_wp2_with fail
      go_meet
      case rel => exact ⟨rfl, rfl⟩
    | false =>
      obtain ⟨g, h⟩ := HE0.out.2 rfl
      subst h
      clear HE0 HSE
      go_wp2_with fail
      go_meet
      case rel => exact ⟨rfl, rfl⟩
  case rest =>
  obtain ⟨rfl, rfl⟩ := hcut
  go_upto_if 51 with fail
  go_cut [] (fun wx => Below w4.heap.size w4 wx)
  case first =>
    rcases HSE.out with ⟨hev, hre, hm1, hm2, hus, hXX⟩ | ⟨⟨g0, hev, _⟩, hnot, hus, hXX⟩
    · have hE : E0 = true := by
        cases E0 with
        | true => rfl
        | false =>
          obtain ⟨g, h⟩ := HE0.out.2 rfl
          rw [h] at hev
          cases hev
      subst hE
      subst hev
      have HXL : Hid (X.length = 34 + m) := by unfold Hid; rw [hXX, sealE_length, HS.out]
      have en2 : n2 = 34 + m := HX.out.symm.trans HXL.out
      subst en2
      have hs1 : 1 ≤ s.length := by rw [HS.out]; exact hm1
      have hs2 : s.length ≤ 32 := by rw [HS.out]; exact hm2
      have HO1 : Hid (openE Kn (conT us) key X = (0, t, e, d, s)) := by
        unfold Hid
        rw [hus, hXX]
        exact openE_made hs1 hs2 HTB.out.1 HTB.out.2.1 HTB.out.2.2 hre
      have HO2 : Hid (∀ k, k < 34 + m → openE Kn (conT us) key (X.take k) = (2, 0, 0, 0, [])) := fun k hk => by
        rw [hXX]
        exact openE_cut hs1 hs2 (conT us) k (by rw [HS.out]; exact hk)
      have HO3 : Hid (∀ z, openE Kn (conT us) key (X ++ [z]) = (4, 0, 0, 0, [])) := fun z => by
        rw [hXX]
        exact openE_more hs1 hs2 (conT us) z
      have HLU : Hid (lenT (conT us)) := by
        unfold Hid
        rw [hus]
        exact termsE_len HLT.out (by rw [HN.out]; omega) (by rw [act_length, HS.out]; omega)
      have hp2 : p2 ≤ 401 := by
        have h1 := congrArg List.length hus
        rw [conT_length, HP2.out] at h1
        have h2 := termsE_le (K := Kn) (cs := conT ts) (key, actB t e d s)
        rw [← h1, conT_length, HP.out] at h2
        omega
      clear hus hXX hre hs1 hs2 HSE HE0 hR hT hok hrb hBB
      go_wp2_with (refine wpList_load_part rfl 24 (.tmp 11) rfl ge 0 rfl _ _ hRe [.int .i64 Kn, .slice A2 p2 c2] (by rfl) _ Tryd.underlying24 rfl (by exact size_engine) ?_)
      refine (open_any Kn us key X p2 n (34 + m) A2 B tA c2 bd tc _ HP2 HLU htu hoku (by omega) hpc2 HN hrk (by omega) hnb HXL hrx hntc (by omega) HK).mono ?_
      rw [HO1.out]
      rintro e₁ w5 ⟨A5, n5, k5, ev5, rfl, HN5, hk5, hr5, hb, hE5⟩
      dsimp only at HN5 hr5 hE5 ⊢
      have en5 : n5 = m := HN5.out.symm.trans HS.out
      subst en5
      have eev : ev5 = .nilIface := by rcases hE5 with ⟨_, h⟩ | ⟨h, _⟩; exact h; exact absurd rfl h
      subst eev
      replace hRa := hRa.later hb
      replace hRe := hRe.later hb
      replace hrk := hrk.keep hb
      replace hrs := hrs.keep hb
      replace htu := htu.keep hb
      replace hoku := hoku.keep hb
      replace hrx := hrx.keep hb
      replace HK := Lib.hid (HK.out.keep hb)
      replace hg := hg.later hb
      have hBB := hb
      clear hb hE5 HO1
      have hRn : Row (w5.alloc (.cells #[.int .u64 0, .int .u64 0, .int .u64 0, .slice none 0 0] 28)) w5.heap.size 28 [.int .u64 0, .int .u64 0, .int .u64 0, .slice none 0 0] := Row.new w5 _ _ _ rfl
      go_upto_region 8 with (refine wpList_store_row rfl 28 (.tmp 14) (.tmp 57) rfl w5.heap.size rfl [.int .u64 (t : Int), .int .u64 (e : Int), .int .u64 (d : Int), .slice A5 n5 k5] rfl _ _ hRn (by exact size_act) rfl (one_four _ _ _ _ rfl rfl rfl rfl) ?_)
      have hRc := hRn.setRow [.int .u64 (t : Int), .int .u64 (e : Int), .int .u64 (d : Int), .slice A5 n5 k5]
      have hbn : Below w5.heap.size w5 ((w5.alloc (.cells #[.int .u64 0, .int .u64 0, .int .u64 0, .slice none 0 0] 28)).setRow w5.heap.size [.int .u64 (t : Int), .int .u64 (e : Int), .int .u64 (d : Int), .slice A5 n5 k5].toArray) := below_setRow (below_new (Below.refl _ _) _) (Nat.le_refl _) _
      generalize (w5.alloc (.cells #[.int .u64 0, .int .u64 0, .int .u64 0, .slice none 0 0] 28)).setRow w5.heap.size [.int .u64 (t : Int), .int .u64 (e : Int), .int .u64 (d : Int), .slice A5 n5 k5].toArray = w6 at hRc hbn ⊢
      replace hRa := hRa.later hbn
      replace hRe := hRe.later hbn
      replace hrk := hrk.keep hbn
      replace hrs := hrs.keep hbn
      replace hr5 := hr5.keep hbn
      replace htu := htu.keep hbn
      replace hoku := hoku.keep hbn
      replace hrx := hrx.keep hbn
      replace HK := Lib.hid (HK.out.keep hbn)
      replace hg := hg.later hbn
      replace hBB := below_step hBB hbn
      clear hbn hRn
      generalize w5.heap.size = gc at hRc ⊢
      have a0 : w6.cell? ⟨w.heap.size + 1, 0, none⟩ = some (.int .u64 (t : Int)) := hRa.cell rfl
      have a1 : w6.cell? ⟨w.heap.size + 1, 1, none⟩ = some (.int .u64 (e : Int)) := hRa.cell rfl
      have a2 : w6.cell? ⟨w.heap.size + 1, 2, none⟩ = some (.int .u64 (d : Int)) := hRa.cell rfl
      have a3 : w6.cell? ⟨w.heap.size + 1, 3, none⟩ = some (.slice C n5 cd) := hRa.cell rfl
      have d0 : w6.cell? ⟨gc, 0, none⟩ = some (.int .u64 (t : Int)) := hRc.cell rfl
      have d1 : w6.cell? ⟨gc, 1, none⟩ = some (.int .u64 (e : Int)) := hRc.cell rfl
      have d2 : w6.cell? ⟨gc, 2, none⟩ = some (.int .u64 (d : Int)) := hRc.cell rfl
      have d3 : w6.cell? ⟨gc, 3, none⟩ = some (.slice A5 n5 k5) := hRc.cell rfl
      go_wp2_with fail
      refine (refsame_act t e d t e d s s n5 n5 C A5 cd k5 w6 HS HN5 hrs hr5).mono ?_
      rw [same_selfP]
      rintro e₁ w7 ⟨rfl, hb⟩
      clear a0 a1 a2 a3 d0 d1 d2 d3 hRc hr5 hrs
      replace hRa := hRa.later hb
      replace hRe := hRe.later hb
      replace hrk := hrk.keep hb
      replace htu := htu.keep hb
      replace hoku := hoku.keep hb
      replace hrx := hrx.keep hb
      replace HK := Lib.hid (HK.out.keep hb)
      replace hg := hg.later hb
      replace hBB := below_step hBB hb
      clear hb
      have a3 : w7.cell? ⟨w.heap.size + 1, 3, none⟩ = some (.slice C n5 cd) := hRa.cell rfl
      go_upto_region 10 with fail
      clear a3 hRa
      obtain ⟨M, hM⟩ : ∃ M, M = 34 + n5 := ⟨_, rfl⟩
      rw [← hM] at HXL HO2 hntc ⊢
      have hM1 : 35 ≤ M := by omega
      have hM2 : M ≤ 66 := by omega
      have HMM := Lib.hid hM
      clear hM HX
      go_cut [17] (fun v wx => (∃ g, v = errV g ∧ Flt wx g 4 2) ∧ Below w7.heap.size w7 wx)
      case first =>
        obtain ⟨zq, hzq⟩ : ∃ zq, zq = q0 % M := ⟨_, rfl⟩
        have hzM : zq < M := by rw [hzq]; exact Nat.mod_lt _ (by omega)
        have m1 : (q0 : Int) % (M : Int) = (zq : Int) := by rw [hzq]; omega
        have m2 : (q0 : Int).tmod (M : Int) = (zq : Int) := by rw [Int.tmod_eq_emod_of_nonneg (by omega)]; exact m1
        have hM0 : M ≠ 0 := by omega
        have m5 : IntKind.i64.wrap (q0 : Int) = (q0 : Int) := by rw [IntKind.wrap_i64]; omega
        have hcutX : ∀ W, (Instr.slice 25 (.slice tA M tc) none (some (.int .i64 (zq : Int))) none).run Tryd.prog W = .ok (.slice tA zq tc) W := fun W => run_cut_to 25 5 Tryd.underlying25 size_uint8 tA M tc zq (by omega) W
        have HZ := Lib.hid (HO2.out zq hzM)
        have HZL : Hid ((X.take zq).length = zq) := by unfold Hid; rw [List.length_take, HXL.out]; omega
        replace hrx := hrx.take zq
        generalize X.take zq = Z at HZ HZL hrx
        have hzt : zq ≤ tc := by omega
        have hz6 : zq ≤ 66 := by omega
        clear hzq hzM hntc HO2 HO3 HXL
        have hbd := (Below.refl w7.heap.size w7).drew
        replace hRe := hRe.drew
        replace hrk := hrk.keep hbd
        replace htu := htu.keep hbd
        replace hoku := hoku.keep hbd
        replace hrx := hrx.keep hbd
        replace HK := Lib.hid (HK.out.keep hbd)
        have hS : termS ge (.int .i64 Kn) (.slice A2 p2 c2) w7.drew := ⟨hRe.cell rfl, hRe.cell rfl⟩
        refine wp_region_plan_of (termS ge (.int .i64 Kn) (.slice A2 p2 c2)) (.step 0 false (.step 1 false (.step 2 false (.step 3 false (.step 4 false (.step 5 false (.step 6 false (.step 7 false (.step 8 false (.fork 9 (.step 10 false (.step 11 false (.step 12 false (.step 13 true (.step 14 true (.step 15 false .nil)))))) 13 (.step 9 true (.step 10 false (.step 11 false (.step 12 false (.step 14 true (.step 15 false .nil)))))))))))))))) hS (by kernel_rfl) (by kernel_rfl) (by rfl) (by kernel_rfl) ?_
        generalize w7.drew = w8 at *
        iterate 9 (refine plan_read rfl (by rfl) (v := ?_) ?_ ?_; rotate_left 1; (intro W hW; (try dsimp only at hW); obtain ⟨hW0, hW1⟩ := hW; go_simp <;> with_reducible rfl); simp only [List.getElem_toArray, List.getElem_cons_zero, List.getElem_cons_succ, Act.put, List.setIfInBounds_toArray, List.set_cons_zero, List.set_cons_succ])
        refine plan_fork rfl rfl (by rfl) (by rfl) (fun K hK => ?_) (fun K hK => ?_)
        · go_simp
          refine (open_any Kn us key Z p2 n zq A2 B tA c2 bd tc _ HP2 HLU htu hoku (by omega) hpc2 HN hrk (by omega) hnb HZL hrx hzt (by omega) HK).mono ?_
          rw [HZ.out]
          rintro e₁ w9 ⟨A9, n9, k9, ev9, rfl, HN9, hk9, hr9, hb, hE9⟩
          dsimp only at HN9 hr9 hE9 ⊢
          obtain ⟨g9, rfl, hF⟩ : ∃ g, ev9 = errV g ∧ Flt w9 g 4 2 := by rcases hE9 with ⟨h, _⟩ | ⟨_, g, h1, h2⟩; exact absurd h (by decide); exact ⟨g, h1, h2⟩
          replace hRe := hRe.later hb
          refine hK.out _ _ ⟨hRe.cell rfl, hRe.cell rfl⟩ ?_
          clear hK K
          iterate 3 (refine plan_read rfl (by rfl) (v := ?_) ?_ ?_; rotate_left 1; (intro W hW; (try dsimp only at hW); obtain ⟨hW0, hW1⟩ := hW; go_simp <;> with_reducible rfl); simp only [List.getElem_toArray, List.getElem_cons_zero, List.getElem_cons_succ, Act.put, List.setIfInBounds_toArray, List.set_cons_zero, List.set_cons_succ])
          have hRn : Row (w9.alloc (.cells #[.int .u64 0, .int .u64 0, .int .u64 0, .slice none 0 0] 28)) w9.heap.size 28 [.int .u64 0, .int .u64 0, .int .u64 0, .slice none 0 0] := Row.new w9 _ _ _ rfl
          have hb2 := below_new (Below.refl _ w9) (.cells #[.int .u64 0, .int .u64 0, .int .u64 0, .slice none 0 0] 28)
          have hlt := hRe.lt
          have hfl := Row.lt hF
          (refine plan_make_of rfl (by rfl) (fun K hK => ?_); go_simp; refine hK.out _ _ ⟨(hRe.later hb2).cell rfl, (hRe.later hb2).cell rfl⟩ ?_; clear hK K)
          replace hRe := hRe.later hb2
          have hF2 := hF.later hb2
          (refine plan_make_of rfl (by rfl) (fun K hK => ?_); refine Row.wp_store 28 (.tmp 16) (.tmp 87) rfl rfl [.int .u64 0, .int .u64 0, .int .u64 0, .slice A9 n9 k9] rfl hRn (by exact size_act) rfl (one_four _ _ _ _ rfl rfl rfl rfl) ?_; refine hK.out _ _ ⟨(hRe.setRow_other (by omega) _).cell rfl, (hRe.setRow_other (by omega) _).cell rfl⟩ ?_; clear hK K)
          iterate 1 (refine plan_read rfl (by rfl) (v := ?_) ?_ ?_; rotate_left 1; (intro W hW; (try dsimp only at hW); obtain ⟨hW0, hW1⟩ := hW; go_simp <;> with_reducible rfl); simp only [List.getElem_toArray, List.getElem_cons_zero, List.getElem_cons_succ, Act.put, List.setIfInBounds_toArray, List.set_cons_zero, List.set_cons_succ])
          refine plan_done ?_
          go_wp2_with fail
          go_meet
          case rel => exact ⟨⟨g9, rfl, Row.setRow_other hF2 (by omega) _⟩, below_setRow (below_step (below_step hbd hb) hb2) (by have := hb.size; have := hbd.size; omega) _⟩
        · go_simp
          have hRn : Row (w8.alloc (.cells #[.int .u64 0, .int .u64 0, .int .u64 0, .slice none 0 0] 28)) w8.heap.size 28 [.int .u64 0, .int .u64 0, .int .u64 0, .slice none 0 0] := Row.new w8 _ _ _ rfl
          have hb2 := below_new (Below.refl _ w8) (.cells #[.int .u64 0, .int .u64 0, .int .u64 0, .slice none 0 0] 28)
          have hlt := hRe.lt
          refine hK.out _ _ ⟨(hRe.later hb2).cell rfl, (hRe.later hb2).cell rfl⟩ ?_
          clear hK K
          replace hRe := hRe.later hb2
          replace hrk := hrk.keep hb2
          replace htu := htu.keep hb2
          replace hoku := hoku.keep hb2
          replace hrx := hrx.keep hb2
          replace HK := Lib.hid (HK.out.keep hb2)
          generalize (w8.alloc (.cells #[.int .u64 0, .int .u64 0, .int .u64 0, .slice none 0 0] 28)) = w10 at *
          (refine plan_make_of rfl (by rfl) (fun K hK => ?_); go_simp; refine (open_any Kn us key Z p2 n zq A2 B tA c2 bd tc _ HP2 HLU htu hoku (by omega) hpc2 HN hrk (by omega) hnb HZL hrx hzt (by omega) HK).mono ?_; rw [HZ.out]; rintro e₁ w9 ⟨A9, n9, k9, ev9, rfl, HN9, hk9, hr9, hb, hE9⟩; dsimp only at HN9 hr9 hE9 ⊢; refine hK.out _ _ ⟨(hRe.later hb).cell rfl, (hRe.later hb).cell rfl⟩ ?_; clear hK K)
          obtain ⟨g9, rfl, hF⟩ : ∃ g, ev9 = errV g ∧ Flt w9 g 4 2 := by rcases hE9 with ⟨h, _⟩ | ⟨_, g, h1, h2⟩; exact absurd h (by decide); exact ⟨g, h1, h2⟩
          replace hRe := hRe.later hb
          replace hRn := hRn.later hb
          have hne := flt_not_act hF hRn
          iterate 3 (refine plan_read rfl (by rfl) (v := ?_) ?_ ?_; rotate_left 1; (intro W hW; (try dsimp only at hW); obtain ⟨hW0, hW1⟩ := hW; go_simp <;> with_reducible rfl); simp only [List.getElem_toArray, List.getElem_cons_zero, List.getElem_cons_succ, Act.put, List.setIfInBounds_toArray, List.set_cons_zero, List.set_cons_succ])
          (refine plan_make_of rfl (by rfl) (fun K hK => ?_); refine Row.wp_store 28 (.tmp 16) (.tmp 87) rfl rfl [.int .u64 0, .int .u64 0, .int .u64 0, .slice A9 n9 k9] rfl hRn (by exact size_act) rfl (one_four _ _ _ _ rfl rfl rfl rfl) ?_; refine hK.out _ _ ⟨(hRe.setRow_other (by omega) _).cell rfl, (hRe.setRow_other (by omega) _).cell rfl⟩ ?_; clear hK K)
          iterate 1 (refine plan_read rfl (by rfl) (v := ?_) ?_ ?_; rotate_left 1; (intro W hW; (try dsimp only at hW); obtain ⟨hW0, hW1⟩ := hW; go_simp <;> with_reducible rfl); simp only [List.getElem_toArray, List.getElem_cons_zero, List.getElem_cons_succ, Act.put, List.setIfInBounds_toArray, List.set_cons_zero, List.set_cons_succ])
          refine plan_done ?_
          go_wp2_with fail
          go_meet
          case rel => exact ⟨⟨g9, rfl, Row.setRow_other hF hne _⟩, below_setRow (below_step (below_step hbd hb2) hb) (by have := hbd.size; omega) _⟩
      case rest =>
      obtain ⟨⟨ga, rfl, hFa⟩, hb⟩ := hcut
      replace hRe := hRe.later hb
      replace hrk := hrk.keep hb
      replace htu := htu.keep hb
      replace hoku := hoku.keep hb
      replace hrx := hrx.keep hb
      replace HK := Lib.hid (HK.out.keep hb)
      replace hg := hg.later hb
      replace hBB := below_step hBB hb
      clear hb HO2
      go_upto_region 11 with fail
      go_cut [19] (fun v wx => (∃ g, v = errV g ∧ Flt wx g 4 4) ∧ Below wc.heap.size wc wx)
      case first =>
        obtain ⟨y, hy⟩ : ∃ y : UInt8, (y.toNat : Int) = (q0 : Int) := ⟨UInt8.ofNat q0, by rw [UInt8.toNat_ofNat']; omega⟩
        have HO := Lib.hid (HO3.out y)
        have HZL : Hid ((X ++ [y]).length = X.length + 1) := by unfold Hid; rw [List.length_append]; rfl
        have hMX : X.length = M := HXL.out
        have HY := Lib.hid hy
        have hRe0 := hRe
        have HRD := Lib.hid (And.intro hrk (And.intro htu (And.intro hoku hrx)))
        clear hFa hg hBB hRe hrk htu hoku hrx hy
        refine wp_region_free [89, 90, 91, 92, 93, 94, 95, 96, 97, 98, 99, 100, 18, 19] (Back11 wc (.agg #[.int .i64 Kn, .slice A2 p2 c2]) (.slice B n bd) (.slice tA M tc) X q0 y) (by rfl) (by kernel_rfl) ?_ ?_ ?_
        · exact { bel := (Below.refl _ _).drew, f0 := fun a => (by cases a), f1 := fun a => (by cases a), f2 := fun a => (by cases a), f3 := fun a => (by cases a), f4 := fun a => (by cases a), f5 := fun a => (by cases a), f6 := fun a => (by cases a), f7 := fun a => (by cases a), f8 := fun a => (by cases a), f9 := fun a => (by cases a), f10 := fun a => (by cases a), f11 := fun a => (by cases a), f12 := fun a => (by cases a), f14 := fun a => (by cases a) }
        · intro i L s W hI hL hd hcl hΦ K hK
          have h15 : i < 15 := hI
          rcases (by omega : i = 0 ∨ i = 1 ∨ i = 2 ∨ i = 3 ∨ i = 4 ∨ i = 5 ∨ i = 6 ∨ i = 7 ∨ i = 8 ∨ i = 9 ∨ i = 10 ∨ i = 11 ∨ i = 12 ∨ i = 13 ∨ i = 14) with rfl | rfl | rfl | rfl | rfl | rfl | rfl | rfl | rfl | rfl | rfl | rfl | rfl | rfl | rfl
          · refine free_op rfl (by rfl) ?_
            simp only [puts, Act.put, List.setIfInBounds_toArray, List.set_cons_zero, List.set_cons_succ]
            have q0' : W.cell? ⟨ge, 0, none⟩ = some (.int .i64 Kn) := (hRe0.later hΦ.bel).cell rfl
            have q1' : W.cell? ⟨ge, 1, none⟩ = some (.slice A2 p2 c2) := (hRe0.later hΦ.bel).cell rfl
            go_simp
            refine hK.out _ (upd s 90 (.agg #[.int .i64 Kn, .slice A2 p2 c2])) _ (by simp [puts, Act.put, upd]) ?_
            exact { bel := hΦ.bel, f0 := fun _ => rfl, f1 := hΦ.f1, f2 := hΦ.f2, f3 := hΦ.f3, f4 := hΦ.f4, f5 := hΦ.f5, f6 := hΦ.f6, f7 := hΦ.f7, f8 := hΦ.f8, f9 := hΦ.f9, f10 := hΦ.f10, f11 := hΦ.f11, f12 := hΦ.f12, f14 := hΦ.f14 }
          · refine free_op rfl (by rfl) ?_
            simp only [puts, Act.put, List.setIfInBounds_toArray, List.set_cons_zero, List.set_cons_succ]
            go_simp
            refine hK.out _ (upd s 91 (.slice B n bd)) _ (by simp [puts, Act.put, upd]) ?_
            exact { bel := hΦ.bel, f0 := hΦ.f0, f1 := fun _ => rfl, f2 := hΦ.f2, f3 := hΦ.f3, f4 := hΦ.f4, f5 := hΦ.f5, f6 := hΦ.f6, f7 := hΦ.f7, f8 := hΦ.f8, f9 := hΦ.f9, f10 := hΦ.f10, f11 := hΦ.f11, f12 := hΦ.f12, f14 := hΦ.f14 }
          · refine free_op rfl (by rfl) ?_
            simp only [puts, Act.put, List.setIfInBounds_toArray, List.set_cons_zero, List.set_cons_succ]
            have n4 := not_yet hcl 4 2 (by kernel_rfl) hL
            have n7 := not_yet hcl 7 4 (by kernel_rfl) n4
            have hbn := below_new (Below.refl _ W) (.cells #[] 5)
            have hsz : W.heap.size < (W.alloc (.cells #[] 5)).heap.size := by simp
            have hown : (W.alloc (.cells #[] 5)).ownsRow wc.heap.size 5 1 (.slice (some ⟨W.heap.size, 0, none⟩) 0 0) 0 [] := own_base (World.ownsRow_made W #[] 0 (Nat.le_refl _) (by unfold maxLen; omega) rfl) hΦ.bel.size
            have hlt := fun a b => (hΦ.f6 a b)
            replace hΦ := hΦ.later hbn
            go_simp
            refine hK.out _ (upd s 92 (.slice (some ⟨W.heap.size, 0, none⟩) 0 0)) _ (by simp [puts, Act.put, upd]) ?_
            exact { bel := hΦ.bel, f0 := hΦ.f0, f1 := hΦ.f1, f2 := fun _ _ => ⟨_, rfl, hsz, hown⟩, f3 := hΦ.f3, f4 := hΦ.f4, f5 := hΦ.f5, f6 := fun a b => let ⟨g, e1, h1, h2, h3, h4⟩ := hΦ.f6 a b; ⟨g, e1, h1, h2, fun _ _ e => by (have h5 := hlt a b; obtain ⟨g', e2, h6, _⟩ := h5; rw [e1] at e2; have e3 : upd s 92 (.slice (some ⟨W.heap.size, 0, none⟩) 0 0) 92 = (.slice (some ⟨W.heap.size, 0, none⟩) 0 0) := upd_same _ _ _; rw [e3] at e; injection e with e; injection e2 with e2; injection e with e; injection e2 with e2; injection e with e _ _; injection e2 with e2 _ _; omega), h4⟩, f7 := hΦ.f7, f8 := hΦ.f8, f9 := hΦ.f9, f10 := hΦ.f10, f11 := hΦ.f11, f12 := hΦ.f12, f14 := hΦ.f14 }
          · refine free_op rfl (by rfl) ?_
            simp only [puts, Act.put, List.setIfInBounds_toArray, List.set_cons_zero, List.set_cons_succ]
            go_simp
            refine hK.out _ (upd s 93 (.slice tA M tc)) _ (by simp [puts, Act.put, upd]) ?_
            exact { bel := hΦ.bel, f0 := hΦ.f0, f1 := hΦ.f1, f2 := hΦ.f2, f3 := fun _ => rfl, f4 := hΦ.f4, f5 := hΦ.f5, f6 := hΦ.f6, f7 := hΦ.f7, f8 := hΦ.f8, f9 := hΦ.f9, f10 := hΦ.f10, f11 := hΦ.f11, f12 := hΦ.f12, f14 := hΦ.f14 }
          · have d2 := seen_of hd 2 (by kernel_rfl)
            have d3 := seen_of hd 3 (by kernel_rfl)
            refine free_op rfl (by rfl) ?_
            simp only [puts, Act.put, List.setIfInBounds_toArray, List.set_cons_zero, List.set_cons_succ]
            have n7 := not_yet hcl 7 4 (by kernel_rfl) hL
            have n8 := not_yet hcl 8 7 (by kernel_rfl) n7
            have n9 := not_yet hcl 9 8 (by kernel_rfl) n8
            have n10 := not_yet hcl 10 9 (by kernel_rfl) n9
            have n11 := not_yet hcl 11 9 (by kernel_rfl) n9
            have n14 := not_yet hcl 14 11 (by kernel_rfl) n11
            obtain ⟨g2, e92, hg2, hown⟩ := hΦ.f2 d2 hL
            have e93 := hΦ.f3 d3
            rw [e92, e93]
            have hrX := HRD.out.2.2.2.keep hΦ.bel
            have hbs := hΦ.bel.size
            refine wp_append_apart _ (.tmp 92) (.tmp 93) 25 (by rfl) wc.heap.size 5 i0 (.int .u8 0) 1 Tryd.underlying25 hi hz0 hz1 hz2 rfl (.slice (some ⟨g2, 0, none⟩) 0 0) 0 [] (by rfl) hown tA X tc (by rw [hMX]; rfl) hrX vB_one (by rw [hMX]; unfold maxLen; omega) (by rw [hMX]; omega) hbs ?_
            intro v4 w4 hown4 hgrow4 hat4
            rw [Nat.zero_add, List.nil_append] at hown4
            have hbel4 : Below wc.heap.size wc w4 := hΦ.bel.grown hgrow4 hbs (fun k hk => (hown.lt k hk).1)
            simp only [puts, Act.put, List.setIfInBounds_toArray, List.set_cons_zero, List.set_cons_succ]
            refine hK.out _ (upd s 94 v4) _ (by simp [puts, Act.put, upd, e92, e93]) ?_
            exact { bel := hbel4, f0 := hΦ.f0, f1 := hΦ.f1, f2 := fun _ a => (by cases a), f3 := hΦ.f3, f4 := fun _ _ => ⟨v4, rfl, hown4⟩, f5 := hΦ.f5, f6 := fun a b => let ⟨g, e1, h1, h2, h3, h4⟩ := hΦ.f6 a b; ⟨g, e1, Nat.lt_of_lt_of_le h1 hgrow4.size, h2.grown hgrow4 (fun a ha e => by (injection ha with ha; subst ha; have e5 : g2 = g := Option.some.inj e; subst e5; exact h3 d2 hL e92)), fun _ a => (by cases a), fun _ e => by (have e3 : upd s 94 v4 94 = v4 := upd_same _ _ _; rw [e3] at e; rcases hat4 with h5 | h5; (have e5 : g2 = g := Option.some.inj (h5.symm.trans e); subst e5; exact h3 d2 hL e92); (have e5 : W.heap.size = g := Option.some.inj (h5.symm.trans e); omega))⟩, f7 := fun a => absurd (n7.symm.trans a) Bool.false_ne_true, f8 := fun a => absurd (n8.symm.trans a) Bool.false_ne_true, f9 := fun a => absurd (n9.symm.trans a) Bool.false_ne_true, f10 := fun a => absurd (n10.symm.trans a) Bool.false_ne_true, f11 := fun a => absurd (n11.symm.trans a) Bool.false_ne_true, f12 := fun a b => let ⟨g, e1, h1, h2⟩ := hΦ.f12 a b; ⟨g, e1, h1, h2.grown hgrow4 (own_not_act hown h2)⟩, f14 := fun a => absurd (n14.symm.trans a) Bool.false_ne_true }
          · refine free_op rfl (by rfl) ?_
            simp only [puts, Act.put, List.setIfInBounds_toArray, List.set_cons_zero, List.set_cons_succ]
            go_simp
            refine hK.out _ (upd s 95 (.int .u8 (q0 : Int))) _ (by simp [puts, Act.put, upd]) ?_
            exact { bel := hΦ.bel, f0 := hΦ.f0, f1 := hΦ.f1, f2 := hΦ.f2, f3 := hΦ.f3, f4 := hΦ.f4, f5 := fun _ => rfl, f6 := hΦ.f6, f7 := hΦ.f7, f8 := hΦ.f8, f9 := hΦ.f9, f10 := hΦ.f10, f11 := hΦ.f11, f12 := hΦ.f12, f14 := hΦ.f14 }
          · have d5 := seen_of hd 5 (by kernel_rfl)
            refine free_op rfl (by rfl) ?_
            simp only [puts, Act.put, List.setIfInBounds_toArray, List.set_cons_zero, List.set_cons_succ]
            have e95 := hΦ.f5 d5
            rw [e95]
            have hbn := below_new (Below.refl _ W) (.cells #[.int .u8 (q0 : Int)] 5)
            have hsz : W.heap.size < (W.alloc (.cells #[.int .u8 (q0 : Int)] 5)).heap.size := by simp
            have hry : Rd vB (W.alloc (.cells #[.int .u8 (q0 : Int)] 5)) (some ⟨W.heap.size, 0, none⟩) [y] := Rd.new W [y] _ _ (by simp [vB, HY.out])
            have k2 := fun a b => (hΦ.f2 a b)
            have k4 := fun a b => (hΦ.f4 a b)
            replace hΦ := hΦ.later hbn
            go_simp
            refine hK.out _ (upd s 96 (.slice (some ⟨W.heap.size, 0, none⟩) 1 1)) _ (by simp [puts, Act.put, upd, e95]) ?_
            exact { bel := hΦ.bel, f0 := hΦ.f0, f1 := hΦ.f1, f2 := hΦ.f2, f3 := hΦ.f3, f4 := hΦ.f4, f5 := hΦ.f5, f6 := fun _ n7 => ⟨W.heap.size, rfl, hsz, hry, fun a b e => by (obtain ⟨g', e2, h6, _⟩ := k2 a b; have e4 : s 92 = .slice (some ⟨W.heap.size, 0, none⟩) 0 0 := e; rw [e4] at e2; injection e2 with e2; injection e2 with e2; injection e2 with e2 _ _; omega), fun a e => by (obtain ⟨v, e2, h6⟩ := k4 a n7; have e4 : (s 94).ownBlock = some W.heap.size := e; rw [e2] at e4; have := (h6.lt _ e4).2; omega)⟩, f7 := hΦ.f7, f8 := hΦ.f8, f9 := hΦ.f9, f10 := hΦ.f10, f11 := hΦ.f11, f12 := hΦ.f12, f14 := hΦ.f14 }
          · have d4 := seen_of hd 4 (by kernel_rfl)
            have d6 := seen_of hd 6 (by kernel_rfl)
            refine free_op rfl (by rfl) ?_
            simp only [puts, Act.put, List.setIfInBounds_toArray, List.set_cons_zero, List.set_cons_succ]
            have n8 := not_yet hcl 8 7 (by kernel_rfl) hL
            have n9 := not_yet hcl 9 8 (by kernel_rfl) n8
            have n10 := not_yet hcl 10 9 (by kernel_rfl) n9
            have n11 := not_yet hcl 11 9 (by kernel_rfl) n9
            have n14 := not_yet hcl 14 11 (by kernel_rfl) n11
            have d2 := seen_of (hcl 4 d4) 2 (by kernel_rfl)
            obtain ⟨v4, e94, hown⟩ := hΦ.f4 d4 hL
            obtain ⟨g6, e96, hg6, hry, _, h46⟩ := hΦ.f6 d6 hL
            have hbs := hΦ.bel.size
            replace h46 := h46 d4
            rw [e94] at h46
            rw [e94, e96]
            refine wp_append_apart _ (.tmp 94) (.tmp 96) 25 (by rfl) wc.heap.size 5 i0 (.int .u8 0) 1 Tryd.underlying25 hi hz0 hz1 hz2 rfl v4 X.length (X.map vB) (by rfl) hown (some ⟨g6, 0, none⟩) [y] 1 (by rfl) hry vB_one (by show X.length + 1 ≤ maxLen; rw [hMX]; unfold maxLen; omega) (by show (X.length + 1) * 1 ≤ _; rw [hMX]; omega) hbs ?_
            intro v7 w7 hown7 hgrow7 hat7
            rw [← List.map_append] at hown7
            have hown7' : w7.ownsRow wc.heap.size 5 1 v7 (X ++ [y]).length ((X ++ [y]).map vB) := by rw [HZL.out]; exact hown7
            obtain ⟨A7, c7, rfl, hc7, hr7⟩ := own_slice hown7'
            rw [HZL.out] at hc7
            have hbel7 : Below wc.heap.size wc w7 := hΦ.bel.grown hgrow7 hbs (fun k hk => (hown.lt k hk).1)
            simp only [puts, Act.put, List.setIfInBounds_toArray, List.set_cons_zero, List.set_cons_succ]
            rw [HZL.out]
            refine hK.out _ (upd s 97 (.slice A7 (X.length + 1) c7)) _ (by simp [puts, Act.put, upd, e94, e96]) ?_
            exact { bel := hbel7, f0 := hΦ.f0, f1 := hΦ.f1, f2 := fun _ a => absurd (d4.symm.trans a) (by decide), f3 := hΦ.f3, f4 := fun _ a => (by cases a), f5 := hΦ.f5, f6 := fun _ a => (by cases a), f7 := fun _ => ⟨A7, c7, rfl, hc7, hr7⟩, f8 := fun a => absurd (n8.symm.trans a) Bool.false_ne_true, f9 := fun a => absurd (n9.symm.trans a) Bool.false_ne_true, f10 := fun a => absurd (n10.symm.trans a) Bool.false_ne_true, f11 := fun a => absurd (n11.symm.trans a) Bool.false_ne_true, f12 := fun a b => let ⟨g, e1, h1, h2⟩ := hΦ.f12 a b; ⟨g, e1, h1, h2.grown hgrow7 (own_not_act hown h2)⟩, f14 := fun a => absurd (n14.symm.trans a) Bool.false_ne_true }
          · have d0 := seen_of hd 0 (by kernel_rfl)
            have d1 := seen_of hd 1 (by kernel_rfl)
            have d7 := seen_of hd 7 (by kernel_rfl)
            refine free_op rfl (by rfl) ?_
            simp only [puts, Act.put, List.setIfInBounds_toArray, List.set_cons_zero, List.set_cons_succ]
            have e90 := hΦ.f0 d0
            have e91 := hΦ.f1 d1
            obtain ⟨A7, c7, e97, hc7, hr7⟩ := hΦ.f7 d7
            rw [e90, e91, e97]
            rw [hMX] at hc7 ⊢
            go_simp
            have hb0 := hΦ.bel
            refine (open_any Kn us key (X ++ [y]) p2 n (M + 1) A2 B A7 c2 bd c7 W HP2 HLU (HRD.out.2.1.keep hb0) (HRD.out.2.2.1.keep hb0) (by omega) hpc2 HN (HRD.out.1.keep hb0) (by omega) hnb (by rw [← hMX]; exact HZL) hr7 hc7 (by omega) (Lib.hid (HK.out.keep hb0))).mono ?_
            rw [HO.out]
            rintro e₁ w9 ⟨A9, n9, k9, ev9, rfl, HN9, hk9, hr9, hb, hE9⟩
            dsimp only at HN9 hr9 hE9 ⊢
            have en9 : n9 = 0 := HN9.out.symm
            subst en9
            obtain ⟨g9, rfl, hF⟩ : ∃ g, ev9 = errV g ∧ Flt w9 g 4 4 := by rcases hE9 with ⟨h, _⟩ | ⟨_, g, h1, h2⟩; exact absurd h (by decide); exact ⟨g, h1, h2⟩
            replace hΦ := hΦ.later hb
            refine hK.out _ (upd s 98 (.tuple #[aggP 0 0 0 A9 0 k9, errV g9])) _ (by simp [puts, Act.put, upd, e90, e91, e97, hMX]) ?_
            exact { bel := hΦ.bel, f0 := hΦ.f0, f1 := hΦ.f1, f2 := hΦ.f2, f3 := hΦ.f3, f4 := hΦ.f4, f5 := hΦ.f5, f6 := hΦ.f6, f7 := hΦ.f7, f8 := fun _ => ⟨A9, k9, g9, rfl, hF⟩, f9 := hΦ.f9, f10 := hΦ.f10, f11 := hΦ.f11, f12 := hΦ.f12, f14 := hΦ.f14 }
          · have d8 := seen_of hd 8 (by kernel_rfl)
            refine free_op rfl (by rfl) ?_
            simp only [puts, Act.put, List.setIfInBounds_toArray, List.set_cons_zero, List.set_cons_succ]
            obtain ⟨A9, k9, v9, e98, hF⟩ := hΦ.f8 d8
            rw [e98]
            go_simp
            refine hK.out _ (upd s 89 (.tuple #[aggP 0 0 0 A9 0 k9, errV v9])) _ (by simp [puts, Act.put, upd, e98]) ?_
            exact { bel := hΦ.bel, f0 := hΦ.f0, f1 := hΦ.f1, f2 := hΦ.f2, f3 := hΦ.f3, f4 := hΦ.f4, f5 := hΦ.f5, f6 := hΦ.f6, f7 := hΦ.f7, f8 := hΦ.f8, f9 := fun _ => ⟨A9, k9, v9, rfl, hF⟩, f10 := hΦ.f10, f11 := hΦ.f11, f12 := hΦ.f12, f14 := hΦ.f14 }
          · have d9 := seen_of hd 9 (by kernel_rfl)
            refine free_op rfl (by rfl) ?_
            simp only [puts, Act.put, List.setIfInBounds_toArray, List.set_cons_zero, List.set_cons_succ]
            obtain ⟨A9, k9, v9, e89, hF⟩ := hΦ.f9 d9
            rw [e89]
            go_simp
            refine hK.out _ (upd s 99 (aggP 0 0 0 A9 0 k9)) _ (by simp [puts, Act.put, upd, e89]) ?_
            exact { bel := hΦ.bel, f0 := hΦ.f0, f1 := hΦ.f1, f2 := hΦ.f2, f3 := hΦ.f3, f4 := hΦ.f4, f5 := hΦ.f5, f6 := hΦ.f6, f7 := hΦ.f7, f8 := hΦ.f8, f9 := hΦ.f9, f10 := fun _ => ⟨A9, k9, rfl⟩, f11 := hΦ.f11, f12 := hΦ.f12, f14 := hΦ.f14 }
          · have d9 := seen_of hd 9 (by kernel_rfl)
            refine free_op rfl (by rfl) ?_
            simp only [puts, Act.put, List.setIfInBounds_toArray, List.set_cons_zero, List.set_cons_succ]
            obtain ⟨A9, k9, v9, e89, hF⟩ := hΦ.f9 d9
            rw [e89]
            go_simp
            refine hK.out _ (upd s 100 (errV v9)) _ (by simp [puts, Act.put, upd, e89]) ?_
            exact { bel := hΦ.bel, f0 := hΦ.f0, f1 := hΦ.f1, f2 := hΦ.f2, f3 := hΦ.f3, f4 := hΦ.f4, f5 := hΦ.f5, f6 := hΦ.f6, f7 := hΦ.f7, f8 := hΦ.f8, f9 := hΦ.f9, f10 := hΦ.f10, f11 := fun _ => ⟨v9, rfl, hF⟩, f12 := hΦ.f12, f14 := hΦ.f14 }
          · refine free_op rfl (by rfl) ?_
            simp only [puts, Act.put, List.setIfInBounds_toArray, List.set_cons_zero, List.set_cons_succ]
            have hbn := below_new (Below.refl _ W) (.cells #[.int .u64 0, .int .u64 0, .int .u64 0, .slice none 0 0] 28)
            have hRn : Row (W.alloc (.cells #[.int .u64 0, .int .u64 0, .int .u64 0, .slice none 0 0] 28)) W.heap.size 28 zeroA := Row.new W _ _ _ rfl
            have hsz := hΦ.bel.size
            replace hΦ := hΦ.later hbn
            go_simp
            refine hK.out _ (upd s 18 (.pointer (some ⟨W.heap.size, 0, none⟩))) _ (by simp [puts, Act.put, upd]) ?_
            exact { bel := hΦ.bel, f0 := hΦ.f0, f1 := hΦ.f1, f2 := hΦ.f2, f3 := hΦ.f3, f4 := hΦ.f4, f5 := hΦ.f5, f6 := hΦ.f6, f7 := hΦ.f7, f8 := hΦ.f8, f9 := hΦ.f9, f10 := hΦ.f10, f11 := hΦ.f11, f12 := fun _ _ => ⟨_, rfl, hsz, hRn⟩, f14 := hΦ.f14 }
          · have d10 := seen_of hd 10 (by kernel_rfl)
            have d12 := seen_of hd 12 (by kernel_rfl)
            refine free_op rfl (by rfl) ?_
            simp only [puts, Act.put, List.setIfInBounds_toArray, List.set_cons_zero, List.set_cons_succ]
            obtain ⟨A9, k9, e99⟩ := hΦ.f10 d10
            obtain ⟨g, e18, hg0, hRz⟩ := hΦ.f12 d12 hL
            have d9 := seen_of (hcl 10 d10) 9 (by kernel_rfl)
            have d8 := seen_of (hcl 9 d9) 8 (by kernel_rfl)
            have d7 := seen_of (hcl 8 d8) 7 (by kernel_rfl)
            have d4 := seen_of (hcl 7 d7) 4 (by kernel_rfl)
            rw [e18, e99]
            refine Row.wp_store 28 (.tmp 18) (.tmp 99) rfl rfl [.int .u64 0, .int .u64 0, .int .u64 0, .slice A9 0 k9] rfl hRz (by exact size_act) rfl (one_four _ _ _ _ rfl rfl rfl rfl) ?_
            refine hK.out _ s _ (by simp [puts, Act.put, e18, e99]) ?_
            exact { bel := below_setRow hΦ.bel hg0 _, f0 := hΦ.f0, f1 := hΦ.f1, f2 := fun _ a => absurd (d4.symm.trans a) (by decide), f3 := hΦ.f3, f4 := fun _ a => absurd (d7.symm.trans a) (by decide), f5 := hΦ.f5, f6 := fun _ a => absurd (d7.symm.trans a) (by decide), f7 := fun a => let ⟨A, c, e, hc, hr⟩ := hΦ.f7 a; ⟨A, c, e, hc, hr.setRow_row hRz act_no_byte _⟩, f8 := fun a => let ⟨A, k, v, e, hF⟩ := hΦ.f8 a; ⟨A, k, v, e, Row.setRow_other hF (flt_not_act hF hRz) _⟩, f9 := fun a => let ⟨A, k, v, e, hF⟩ := hΦ.f9 a; ⟨A, k, v, e, Row.setRow_other hF (flt_not_act hF hRz) _⟩, f10 := hΦ.f10, f11 := fun a => let ⟨v, e, hF⟩ := hΦ.f11 a; ⟨v, e, Row.setRow_other hF (flt_not_act hF hRz) _⟩, f12 := fun _ a => (by cases a), f14 := fun a => let ⟨v, e, hF⟩ := hΦ.f14 a; ⟨v, e, Row.setRow_other hF (flt_not_act hF hRz) _⟩ }
          · have d11 := seen_of hd 11 (by kernel_rfl)
            refine free_op rfl (by rfl) ?_
            simp only [puts, Act.put, List.setIfInBounds_toArray, List.set_cons_zero, List.set_cons_succ]
            obtain ⟨v, e100, hF⟩ := hΦ.f11 d11
            rw [e100]
            go_simp
            refine hK.out _ (upd s 19 (errV v)) _ (by simp [puts, Act.put, upd, e100]) ?_
            exact { bel := hΦ.bel, f0 := hΦ.f0, f1 := hΦ.f1, f2 := hΦ.f2, f3 := hΦ.f3, f4 := hΦ.f4, f5 := hΦ.f5, f6 := hΦ.f6, f7 := hΦ.f7, f8 := hΦ.f8, f9 := hΦ.f9, f10 := hΦ.f10, f11 := hΦ.f11, f12 := hΦ.f12, f14 := fun _ => ⟨v, rfl, hF⟩ }
        · intro s W L hall hΦ
          obtain ⟨v, e19, hF⟩ := hΦ.f14 (hall 14 (show 14 < 15 by omega))
          have hbel := hΦ.bel
          clear hΦ hall
          simp only [puts, Act.put, List.setIfInBounds_toArray, List.set_cons_zero, List.set_cons_succ]
          rw [e19]
          go_wp2_with fail
          go_meet
          case rel => exact ⟨⟨v, rfl, hF⟩, hbel⟩
      case rest =>
      obtain ⟨⟨gb, rfl, hFb⟩, hb⟩ := hcut
      replace hg := hg.later hb
      replace hFa := hFa.later hb
      replace hBB := below_step hBB hb
      clear hb HO3 hRe hrk htu hoku hrx HK
      go_wp2_with fail
      refine (told_flt ga 4 2 _ hg hFa).mono ?_
      rintro e₁ w12 ⟨rfl, hb⟩
      replace hg := hg.later hb
      replace hFb := hFb.later hb
      replace hBB := below_step hBB hb
      clear hb
      go_wp2_with fail
      refine (told_flt gb 4 4 _ hg hFb).mono ?_
      rintro e₁ w13 ⟨rfl, hb⟩
      replace hBB := below_step hBB hb
      clear hb hg hFa hFb
      go_wp2_with fail
      have eM := HMM.out
      subst eM
      go_meet
      case rel => exact hBB
    · have hE : E0 = false := by
        cases E0 with
        | false => rfl
        | true =>
          have h := HE0.out.1 rfl
          rw [h] at hev
          cases hev
      subst hE
      have HNOT := Lib.hid hnot
      clear hnot hus hXX HSE HE0 hev hrx htu hoku hRe hrk hrs hrb HK hg
      go_wp2_with (refine wpList_load_part rfl 28 (.tmp 7) rfl (w.heap.size + 1) 0 rfl _ _ hRa (cellsP t e d C m cd) (by rfl) _ Tryd.underlying28 rfl (by exact size_act) ?_)
      refine (rightA_any t e d m C cd w4).mono ?_
      by_cases hmm : 1 ≤ m ∧ m ≤ 32
      · have HRF : Hid (rightE Kn (conT ts) = false) := by
          unfold Hid
          cases h : rightE Kn (conT ts) with
          | false => rfl
          | true => exact absurd ⟨h, hmm⟩ HNOT.out
        rw [decide_eq_true hmm]
        rintro e₁ w5 ⟨rfl, hb⟩
        have q0 : w5.cell? ⟨w.heap.size, 0, none⟩ = some (.int .i64 Kn) := (hR.later hb).cell rfl
        have q1 : w5.cell? ⟨w.heap.size, 1, none⟩ = some (.slice A p c) := (hR.later hb).cell rfl
        go_wp2_with fail
        refine (rightE_any Kn ts p A c w5 HP HLT (hT.keep hb) (hok.keep hb) (by omega) hc).mono ?_
        rw [HRF.out]
        rintro e₁ w6 ⟨rfl, hb2⟩
        clear q0 q1
        go_wp2_with fail
        go_meet
        case rel => exact below_step hb hb2
      · rw [decide_eq_false hmm]
        rintro e₁ w5 ⟨rfl, hb⟩
        go_wp2_with fail
        go_meet
        case rel => exact hb
  case rest =>
  replace hR := hR.later hcut
  replace hT := hT.keep hcut
  replace hok := hok.keep hcut
  replace hrk := hrk.keep hcut
  replace hrb := hrb.keep hcut
  replace HK := Lib.hid (HK.out.keep hcut)
  replace hg := hg.later hcut
  replace hBB := below_step hBB hcut
  clear hcut HSE HE0 hrx htu hoku hRe hRa hrs HX
  have HBK : Hid (∀ t2 e2 d2 s2, openE Kn (conT ts) key b = (0, t2, e2, d2, s2) → rightE Kn (conT ts) = true ∧ sealE Kn (conT ts) key t2 e2 d2 s2 = b ∧ 1 ≤ s2.length ∧ s2.length ≤ 32 ∧ t2 < 18446744073709551616 ∧ e2 < 18446744073709551616 ∧ d2 < 18446744073709551616) := fun t2 e2 d2 s2 h => openE_back h
  have HBD : Hid ((openE Kn (conT ts) key b).1 ≠ 0 → openE Kn (conT ts) key b = ((openE Kn (conT ts) key b).1, 0, 0, 0, [])) := openE_bad
  obtain ⟨kd, t2, e2, d2, s2, hO⟩ : ∃ kd t2 e2 d2 s2, openE Kn (conT ts) key b = (kd, t2, e2, d2, s2) := ⟨_, _, _, _, _, rfl⟩
  have HO := Lib.hid hO
  rw [hO] at HBD
  clear hO
  go_wp2_with (refine wpList_load_part rfl 24 (.tmp 5) rfl w.heap.size 0 rfl _ _ hR [.int .i64 Kn, .slice A p c] (by rfl) _ Tryd.underlying24 rfl (by exact size_engine) ?_)
  refine (open_any Kn ts key b p n nb A B D c bd f _ HP HLT hT hok (by omega) hc HN hrk (by omega) hnb HB hrb hf (by omega) HK).mono ?_
  rw [HO.out]
  rintro e₁ w5 ⟨A5, n5, k5, ev5, rfl, HN5, hk5, hr5, hb, hE5⟩
  dsimp only at HN5 hr5 hE5 ⊢
  replace hR := hR.later hb
  replace hT := hT.keep hb
  replace hok := hok.keep hb
  replace hrk := hrk.keep hb
  replace hrb := hrb.keep hb
  replace HK := Lib.hid (HK.out.keep hb)
  replace hBB := below_step hBB hb
  clear hb hg
  have hRn : Row (w5.alloc (.cells #[.int .u64 0, .int .u64 0, .int .u64 0, .slice none 0 0] 28)) w5.heap.size 28 [.int .u64 0, .int .u64 0, .int .u64 0, .slice none 0 0] := Row.new w5 _ _ _ rfl
  go_upto_region 19 with (refine wpList_store_row rfl 28 (.tmp 24) (.tmp 136) rfl w5.heap.size rfl [.int .u64 (t2 : Int), .int .u64 (e2 : Int), .int .u64 (d2 : Int), .slice A5 n5 k5] rfl _ _ hRn (by exact size_act) rfl (one_four _ _ _ _ rfl rfl rfl rfl) ?_)
  have hRc := hRn.setRow [.int .u64 (t2 : Int), .int .u64 (e2 : Int), .int .u64 (d2 : Int), .slice A5 n5 k5]
  have hbn : Below w5.heap.size w5 ((w5.alloc (.cells #[.int .u64 0, .int .u64 0, .int .u64 0, .slice none 0 0] 28)).setRow w5.heap.size [.int .u64 (t2 : Int), .int .u64 (e2 : Int), .int .u64 (d2 : Int), .slice A5 n5 k5].toArray) := below_setRow (below_new (Below.refl _ _) _) (Nat.le_refl _) _
  generalize (w5.alloc (.cells #[.int .u64 0, .int .u64 0, .int .u64 0, .slice none 0 0] 28)).setRow w5.heap.size [.int .u64 (t2 : Int), .int .u64 (e2 : Int), .int .u64 (d2 : Int), .slice A5 n5 k5].toArray = w6 at hRc hbn ⊢
  replace hR := hR.later hbn
  replace hT := hT.keep hbn
  replace hok := hok.keep hbn
  replace hrk := hrk.keep hbn
  replace hrb := hrb.keep hbn
  replace hr5 := hr5.keep hbn
  replace HK := Lib.hid (HK.out.keep hbn)
  replace hBB := below_step hBB hbn
  clear hbn hRn
  generalize w5.heap.size = gc at hRc ⊢
  rcases hE5 with ⟨hk0, rfl⟩ | ⟨hk0, g5, rfl, _⟩
  · subst hk0
    obtain ⟨hre, hse, hs1, hs2, ht2, he2, hd2⟩ := HBK.out _ _ _ _ HO.out
    have en5 := HN5.out
    have HSE := Lib.hid hse
    have HRE := Lib.hid hre
    have hn1 : 1 ≤ n5 := by omega
    have hn2 : n5 ≤ 32 := by omega
    clear hse hre HBK HBD HO hs1 hs2 en5
    go_wp2_with (first | (refine wpList_load_part rfl 24 (.tmp 5) rfl w.heap.size 0 rfl _ _ hR [.int .i64 Kn, .slice A p c] (by rfl) _ Tryd.underlying24 rfl (by exact size_engine) ?_) | (refine wpList_load_part rfl 28 (.tmp 24) rfl gc 0 rfl _ _ hRc (cellsP t2 e2 d2 A5 n5 k5) (by rfl) _ Tryd.underlying28 rfl (by exact size_act) ?_))
    refine (seal_good Kn ts key p n A B c bd t2 e2 d2 s2 n5 A5 k5 _ HP HLT hT hok (by omega) hc ht2 he2 hd2 HN5 hr5 hk5 hn1 hn2 HN hrk (by omega) hnb HRE HK).mono ?_
    rintro e₁ w7 ⟨us3, p3, A3, c3, n3, tA3, tc3, rfl, HP3, hpc3, htu3, hoku3, HC3, HL3, hntc3, hrx3, hb⟩
    rw [HSE.out] at HL3 hrx3
    have en3 : n3 = nb := HL3.out.symm.trans HB.out
    subst en3
    replace hRc := hRc.later hb
    replace hrb := hrb.keep hb
    replace hBB := below_step hBB hb
    clear hb htu3 hoku3 HC3 hR hT hok hrk hr5 HK HSE HRE
    have hRn : Row (w7.alloc (.cells #[.int .i64 0, .slice none 0 0] 24)) w7.heap.size 24 [.int .i64 0, .slice none 0 0] := Row.new w7 _ _ _ rfl
    go_upto_region 22 with (refine wpList_store_row rfl 24 (.tmp 26) (.tmp 148) rfl w7.heap.size rfl [.int .i64 Kn, .slice A3 p3 c3] rfl _ _ hRn (by exact size_engine) rfl (one_pair _ _ rfl rfl) ?_)
    have hbn : Below w7.heap.size w7 ((w7.alloc (.cells #[.int .i64 0, .slice none 0 0] 24)).setRow w7.heap.size [.int .i64 Kn, .slice A3 p3 c3].toArray) := below_setRow (below_new (Below.refl _ _) _) (Nat.le_refl _) _
    generalize (w7.alloc (.cells #[.int .i64 0, .slice none 0 0] 24)).setRow w7.heap.size [.int .i64 Kn, .slice A3 p3 c3].toArray = w8 at hbn ⊢
    replace hRc := hRc.later hbn
    replace hrb := hrb.keep hbn
    replace hrx3 := hrx3.keep hbn
    replace hBB := below_step hBB hbn
    clear hbn hRn
    have d0 : w8.cell? ⟨gc, 0, none⟩ = some (.int .u64 (t2 : Int)) := hRc.cell rfl
    have d1 : w8.cell? ⟨gc, 1, none⟩ = some (.int .u64 (e2 : Int)) := hRc.cell rfl
    have d2' : w8.cell? ⟨gc, 2, none⟩ = some (.int .u64 (d2 : Int)) := hRc.cell rfl
    have d3 : w8.cell? ⟨gc, 3, none⟩ = some (.slice A5 n5 k5) := hRc.cell rfl
    go_wp2_with fail
    refine (rightA_any t2 e2 d2 n5 A5 k5 w8).mono ?_
    rw [decide_eq_true (⟨hn1, hn2⟩ : 1 ≤ n5 ∧ n5 ≤ 32)]
    rintro e₁ w9 ⟨rfl, hb⟩
    clear d0 d1 d2' d3 hRc
    have hs1 := strBz (c := tc3) n3 HB (hrx3.keep hb) w9 (Below.refl _ _)
    have hs2 := strBz (c := f) n3 HB (hrb.keep hb) w9 (Below.refl _ _)
    have hst : ((strL b).toList == (strL b).toList) = true := str_sameB b b true (by simp)
    generalize strL b = S0 at hs1 hs2 hst
    replace hBB := below_step hBB hb
    clear hb hrx3 hrb
    go_wp2_with fail
    go_ret
    exact ⟨rfl, hBB⟩
  · obtain ⟨rfl, rfl, rfl, rfl⟩ : t2 = 0 ∧ e2 = 0 ∧ d2 = 0 ∧ s2 = [] := by
      have := HBD.out hk0
      simpa using this
    have en5 : n5 = 0 := HN5.out.symm
    subst en5
    clear HBK HBD HO hR hT hok hrk hrb HK
    go_wp2_with (refine wpList_load_part rfl 28 (.tmp 24) rfl gc 0 rfl _ _ hRc (cellsP 0 0 0 A5 0 k5) (by rfl) _ Tryd.underlying28 rfl (by exact size_act) ?_)
    refine (refsame_act 0 0 0 0 0 0 [] [] 0 0 A5 none k5 0 w6 HN5 (Lib.hid rfl) hr5 Rd.nil).mono ?_
    rw [same_selfP]
    rintro e₁ w7 ⟨rfl, hb⟩
    go_wp2_with fail
    go_ret
    exact ⟨rfl, below_step hBB hb⟩
end Go.Proofs.YtknjpmoimjhddaaDoor
