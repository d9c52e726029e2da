/-
  What the reference's calls Gen, Turned, Error, Signs and Fine of layer 9 answer. No conditions but those typed.
-/
import Derived.Test.YtfpoedapeoimbaaSolMath
import Derived.Test.YtfpoedapeoimbaaPolyMul
namespace Go.Proofs.Ytfpoedapeoimbaa
set_option maxRecDepth 100000
open Go.RowKit
set_option linter.unusedSimpArgs false
set_option linter.unusedVariables false

/-! ### Gen -/
def GenRel (n : Nat) (w : World) (g i : Value) (wr : World) : Prop :=
  ∃ (j : Nat) (A : Option Addr) (k c : Nat), j ≤ n ∧ i = .int .i64 ((j : Int) + 1) ∧ g = .slice A k c ∧ Hid ((genL j).length = k) ∧ k ≤ c ∧ Rd vB wr A (genL j) ∧ Below w.heap.size w wr
theorem refexp_at (V : Int) (k : Nat) (w : World) (hV : V = (k : Int)) (hk : k < 255) :
    Calls Try.prog 25 #[.int .i64 V] w fun e w' => e = .returned (.int .u8 ((powB 2 k).toNat : Int)) ∧ w = w' := by
  subst hV
  rw [← powZ_two k hk]
  exact refexp_any (k : Int) w
set_option maxHeartbeats 2000000 in
theorem refgen_any (n : Nat) (w : World) (hn : n ≤ 64) :
    Calls Try.prog 11 #[.int .i64 (n : Int)] w (RetQ w (genL n)) := by
  go_enter Try.func11, Try.ntmps11
  go_wp2_with fail
  go_loopw [3, 4] (fun g i wr => GenRel n w g i wr) (fun _ i _ => n + 1 - (intOf i).toNat)
  case atStart => exact ⟨0, some ⟨w.heap.size, 0, none⟩, 1, 1, Nat.zero_le _, rfl, rfl, rfl, Nat.le_refl _, Rd.new w [1] _ _ rfl, below_new (Below.refl _ _) _⟩
  case round =>
    obtain ⟨j, A, k, c, hj, rfl, rfl, HK, hc, hr, hb⟩ := hrel
    by_cases h : j < n
    · have j1 : (j : Int) + 1 ≤ (n : Int) := by omega
      have HKJ : Hid (k ≤ 100) := by unfold Hid; rw [← HK.out, (gen_is j).1]; omega
      go_wp2_with fail
      refine (refexp_at _ (j + 1) _ (by omega) (by omega)).mono ?_
      rintro e w1 ⟨rfl, rfl⟩
      obtain ⟨x, hx⟩ : ∃ x, powB 2 (j + 1) = x := ⟨_, rfl⟩
      rw [hx]
      have hg : genL (j + 1) = plainL (mulL (genL j) [x, 1]) := by rw [← hx]; rfl
      obtain ⟨p', hp'⟩ : ∃ p', genL (j + 1) = p' := ⟨_, rfl⟩
      rw [hp'] at hg
      have HG := Lib.hid hg
      have HP' := Lib.hid hp'
      clear hx hg hp'
      generalize genL j = p at HK hr HG
      go_wp2_with fail
      have hl : Rd vB (wr.alloc (.cells #[.int .u8 (x.toNat : Int), .int .u8 1] 5)) (some ⟨wr.heap.size, 0, none⟩) [x, 1] := Rd.new wr [x, 1] _ _ rfl
      refine (refmulP_any p [x, 1] k 2 A _ c _ _ HK (Lib.hid rfl) (hr.keep (below_new (Below.refl _ _) _)) hl (by have := HKJ.out; omega) (by omega)).mono ?_
      rintro e w2 ⟨A2, n2, c2, rfl, HN2, hc2, hr2, hb2⟩
      rw [← HG.out] at HN2 hr2
      have hB := below_step (below_new hb _) hb2
      clear hb hb2 hl hr HK HG
      go_wp2_with fail
      go_roundw
      case rel => exact ⟨j + 1, A2, n2, c2, h, by go_num, rfl, by rw [HP'.out]; exact HN2, hc2, by rw [HP'.out]; exact hr2, hB⟩
      case measure => simp [intOf] <;> omega
    · have j1 : ¬ (j : Int) + 1 ≤ (n : Int) := by omega
      have ej : j = n := by omega
      subst ej
      go_wp2_with fail
      go_ret
      exact ⟨A, k, c, rfl, HK, hc, hr, hb⟩

/-! ### Turned -/
def TurRel (b : List UInt8) (w : World) (v i : Value) (wr : World) : Prop :=
  ∃ k : Nat, k ≤ b.length ∧ i = .int .i64 ((b.length : Int) - 1 - (k : Int)) ∧ wr.ownsRow w.heap.size 5 1 v k ((b.reverse.take k).map vB) ∧ Below w.heap.size w wr
theorem rev_take (b : List UInt8) (k : Nat) (h : k < b.length) : b.reverse.take (k + 1) = b.reverse.take k ++ [b[b.length - 1 - k]'(by omega)] := by
  rw [List.take_succ_eq_append_getElem (by rw [List.length_reverse]; exact h), List.getElem_reverse]
set_option maxHeartbeats 2000000 in
theorem refturned_any (b : List UInt8) (n : Nat) (A : Option Addr) (c : Nat) (w : World) (HN : Hid (b.length = n)) (hr : Rd vB w A b) (hn : n ≤ 1000000) :
    Calls Try.prog 27 #[.slice A n c] w (RetQ w b.reverse) := by
  obtain ⟨i0, hi, hz0, hz1, hz2⟩ := info_parts info_u8
  have e1 := HN.out
  subst e1
  go_enter Try.func27, Try.ntmps27
  go_wp2_with fail
  go_loopw [3, 4] (fun v i wr => TurRel b w v i wr) (fun _ i _ => (intOf i + 1).toNat)
  case atStart => exact ⟨0, Nat.zero_le _, by go_num, World.ownsRow_nil _ _ _ _, Below.refl _ _⟩
  case round =>
    obtain ⟨k, hk, rfl, hown, hbel⟩ := hrel
    by_cases h : k < b.length
    · obtain ⟨m, hm⟩ : ∃ m, m = b.length - 1 - k := ⟨_, rfl⟩
      have hml : m < b.length := by omega
      obtain ⟨g, o, rfl, hb, hcell⟩ := hr.at hml
      have hc0 : wr.cell? ⟨g, o + m, none⟩ = some (.int .u8 (b[m].toNat : Int)) := (hbel.cell (p := ⟨g, o + m, none⟩) hb).trans (hcell m hml)
      have HE := Lib.hid (rev_take b k h)
      have hidx : (b.length : Int) - 1 - (k : Int) = (m : Int) := by omega
      obtain ⟨y, hy⟩ : ∃ y, b[m] = y := ⟨_, rfl⟩
      have hy2 : b[b.length - 1 - k]'(by omega) = y := by subst hm; exact hy
      rw [hy2] at HE
      rw [hy] at hc0
      rw [hidx]
      have i0' : (0 : Int) ≤ (m : Int) := by omega
      have i1 : (m : Int) < (b.length : Int) := by omega
      have hle := hbel.size
      have HM := Lib.hid hm
      clear hcell hy hy2 hm hidx
      go_wp2_with (at_builtin; refine wpList_append_own _ rfl _ _ 22 rfl w.heap.size 5 i0 (.int .u8 0) 1 1 Try.underlying22 hi hz0 hz1 hz2 rfl (by decide) _ _ _ rfl (hown.alloc _) ⟨wr.heap.size, 0, none⟩ 1 1 [.int .u8 (y.toNat : Int)] rfl rfl (cell_one_new _ _ _) (by intro u hu; simp at hu; subst hu; rfl) (by unfold maxLen; omega) (by omega) (by simp; omega) ?_; intro v' w1 hown' hgrow' _)
      have hB1 : Below w.heap.size w w1 := (hbel.alloc hbel.size _).grown hgrow' (by simp; omega) (fun g hk => (hown.lt g hk).1)
      have HR : Hid (TurRel b w v' (.int .i64 ((m : Int) - 1)) w1) := ⟨k + 1, h, by have := HM.out; rw [show (m : Int) - 1 = (b.length : Int) - 1 - ((k + 1 : Nat) : Int) by omega], by rw [HE.out, List.map_append]; exact hown', hB1⟩
      clear hown' hgrow' hown hbel hB1
      go_wp2_with fail
      go_roundw
      case rel => exact HR.out
      case measure => simp [intOf] <;> omega
    · have ek : k = b.length := by omega
      subst ek
      have j1 : ¬ (0 : Int) ≤ (b.length : Int) - 1 - (b.length : Int) := by omega
      rw [List.take_of_length_le (by rw [List.length_reverse]; exact Nat.le_refl _)] at hown
      go_wp2_with fail
      go_ret
      exact RetQ.own (by rw [List.length_reverse]) hown hbel

/-! ### Error -/
theorem referror_any (n : Nat) (k : Int) (A : Option Addr) (c : Nat) (w : World) (hn : n ≤ 1000000) :
    Calls Try.prog 12 #[.slice A n c, .int .i64 k] w fun e w' => e = .returned (.int .i64 (errS n k)) ∧ w = w' := by
  have HE : Hid (errS n k = if k < 1 ∨ 64 < k then 1 else if (n : Int) < k then 2 else if 255 < n then 4 else 0) := rfl
  rw [HE.out]
  by_cases h1 : k < 1
  · rw [if_pos (.inl h1)]
    go_enter Try.func12, Try.ntmps12
    go_wp2_with fail
    go_ret
    exact ⟨rfl, rfl⟩
  · by_cases h2 : 64 < k
    · rw [if_pos (.inr h2)]
      go_enter Try.func12, Try.ntmps12
      go_wp2_with fail
      go_ret
      exact ⟨rfl, rfl⟩
    · rw [if_neg (by omega)]
      by_cases h3 : (n : Int) < k
      · rw [if_pos h3]
        go_enter Try.func12, Try.ntmps12
        go_wp2_with fail
        go_ret
        exact ⟨rfl, rfl⟩
      · rw [if_neg h3]
        by_cases h4 : 255 < n
        · rw [if_pos h4]
          have h4' : (255 : Int) < (n : Int) := by omega
          go_enter Try.func12, Try.ntmps12
          go_wp2_with fail
          go_ret
          exact ⟨rfl, rfl⟩
        · rw [if_neg h4]
          have h4' : ¬ (255 : Int) < (n : Int) := by omega
          go_enter Try.func12, Try.ntmps12
          go_wp2_with fail
          go_ret
          exact ⟨rfl, rfl⟩
end Go.Proofs.Ytfpoedapeoimbaa
