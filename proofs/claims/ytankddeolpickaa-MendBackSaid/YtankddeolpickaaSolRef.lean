/-
  What the reference's calls Gen, Turned, Error, Signs and Fine of layer 9 answer. No conditions but those typed.
-/
import Derived.Test.YtankddeolpickaaSolMath
import Derived.Test.YtankddeolpickaaPolyMul
namespace Go.Proofs.Ytankddeolpickaa
set_option maxRecDepth 100000
open Go.RowKit
set_option linter.unusedSimpArgs false
set_option linter.unusedVariables false

/-! ### Gen -/
def GenRel (n : Nat) (w : World) (g i : Value) (wr : World) : Prop :=
  ∃ (j : Nat) (A : Option Addr) (k c : Nat), j ≤ n ∧ i = .int .i64 ((j : Int) + 1) ∧ g = .slice A k c ∧ Hid ((genL j).length = k) ∧ k ≤ c ∧ Rd vB wr A (genL j) ∧ Below w.heap.size w wr
theorem refexp_at (V : Int) (k : Nat) (w : World) (hV : V = (k : Int)) (hk : k < 255) :
    Calls Try.prog 47 #[.int .i64 V] w fun e w' => e = .returned (.int .u8 ((powB 2 k).toNat : Int)) ∧ w = w' := by
  subst hV
  rw [← powZ_two k hk]
  exact refexp_any (k : Int) w
/-! ### Turned -/
def TurRel (b : List UInt8) (w : World) (v i : Value) (wr : World) : Prop :=
  ∃ k : Nat, k ≤ b.length ∧ i = .int .i64 ((b.length : Int) - 1 - (k : Int)) ∧ wr.ownsRow w.heap.size 5 1 v k ((b.reverse.take k).map vB) ∧ Below w.heap.size w wr
theorem rev_take (b : List UInt8) (k : Nat) (h : k < b.length) : b.reverse.take (k + 1) = b.reverse.take k ++ [b[b.length - 1 - k]'(by omega)] := by
  rw [List.take_succ_eq_append_getElem (by rw [List.length_reverse]; exact h), List.getElem_reverse]
set_option maxHeartbeats 2000000 in
theorem refturned_any (b : List UInt8) (n : Nat) (A : Option Addr) (c : Nat) (w : World) (HN : Hid (b.length = n)) (hr : Rd vB w A b) (hn : n ≤ 1000000) :
    Calls Try.prog 46 #[.slice A n c] w (RetQ w b.reverse) := by
  obtain ⟨i0, hi, hz0, hz1, hz2⟩ := info_parts info_u8
  have e1 := HN.out
  subst e1
  go_enter Try.func46, Try.ntmps46
  go_wp2_with fail
  go_loopw [3, 4] (fun v i wr => TurRel b w v i wr) (fun _ i _ => (intOf i + 1).toNat)
  case atStart => exact ⟨0, Nat.zero_le _, by go_num, World.ownsRow_nil _ _ _ _, Below.refl _ _⟩
  case round =>
    obtain ⟨k, hk, rfl, hown, hbel⟩ := hrel
    by_cases h : k < b.length
    · obtain ⟨m, hm⟩ : ∃ m, m = b.length - 1 - k := ⟨_, rfl⟩
      have hml : m < b.length := by omega
      obtain ⟨g, o, rfl, hb, hcell⟩ := hr.at hml
      have hc0 : wr.cell? ⟨g, o + m, none⟩ = some (.int .u8 (b[m].toNat : Int)) := (hbel.cell (p := ⟨g, o + m, none⟩) hb).trans (hcell m hml)
      have HE := Lib.hid (rev_take b k h)
      have hidx : (b.length : Int) - 1 - (k : Int) = (m : Int) := by omega
      obtain ⟨y, hy⟩ : ∃ y, b[m] = y := ⟨_, rfl⟩
      have hy2 : b[b.length - 1 - k]'(by omega) = y := by subst hm; exact hy
      rw [hy2] at HE
      rw [hy] at hc0
      rw [hidx]
      have i0' : (0 : Int) ≤ (m : Int) := by omega
      have i1 : (m : Int) < (b.length : Int) := by omega
      have hle := hbel.size
      have HM := Lib.hid hm
      clear hcell hy hy2 hm hidx
      go_wp2_with (at_builtin; refine wpList_append_own _ rfl _ _ 22 rfl w.heap.size 5 i0 (.int .u8 0) 1 1 Try.underlying22 hi hz0 hz1 hz2 rfl (by decide) _ _ _ rfl (hown.alloc _) ⟨wr.heap.size, 0, none⟩ 1 1 [.int .u8 (y.toNat : Int)] rfl rfl (cell_one_new _ _ _) (by intro u hu; simp at hu; subst hu; rfl) (by unfold maxLen; omega) (by omega) (by simp; omega) ?_; intro v' w1 hown' hgrow' _)
      have hB1 : Below w.heap.size w w1 := (hbel.alloc hbel.size _).grown hgrow' (by simp; omega) (fun g hk => (hown.lt g hk).1)
      have HR : Hid (TurRel b w v' (.int .i64 ((m : Int) - 1)) w1) := ⟨k + 1, h, by have := HM.out; rw [show (m : Int) - 1 = (b.length : Int) - 1 - ((k + 1 : Nat) : Int) by omega], by rw [HE.out, List.map_append]; exact hown', hB1⟩
      clear hown' hgrow' hown hbel hB1
      go_wp2_with fail
      go_roundw
      case rel => exact HR.out
      case measure => simp [intOf] <;> omega
    · have ek : k = b.length := by omega
      subst ek
      have j1 : ¬ (0 : Int) ≤ (b.length : Int) - 1 - (b.length : Int) := by omega
      rw [List.take_of_length_le (by rw [List.length_reverse]; exact Nat.le_refl _)] at hown
      go_wp2_with fail
      go_ret
      exact RetQ.own (by rw [List.length_reverse]) hown hbel

/-! ### Error -/
theorem referror_any (n : Nat) (k : Int) (A : Option Addr) (c : Nat) (w : World) (hn : n ≤ 1000000) :
    Calls Try.prog 17 #[.slice A n c, .int .i64 k] w fun e w' => e = .returned (.int .i64 (errS n k)) ∧ w = w' := by
  have HE : Hid (errS n k = if k < 1 ∨ 64 < k then 1 else if (n : Int) < k then 2 else if 255 < n then 4 else 0) := rfl
  rw [HE.out]
  by_cases h1 : k < 1
  · rw [if_pos (.inl h1)]
    go_enter Try.func17, Try.ntmps17
    go_wp2_with fail
    go_ret
    exact ⟨rfl, rfl⟩
  · by_cases h2 : 64 < k
    · rw [if_pos (.inr h2)]
      go_enter Try.func17, Try.ntmps17
      go_wp2_with fail
      go_ret
      exact ⟨rfl, rfl⟩
    · rw [if_neg (by omega)]
      by_cases h3 : (n : Int) < k
      · rw [if_pos h3]
        go_enter Try.func17, Try.ntmps17
        go_wp2_with fail
        go_ret
        exact ⟨rfl, rfl⟩
      · rw [if_neg h3]
        by_cases h4 : 255 < n
        · rw [if_pos h4]
          have h4' : (255 : Int) < (n : Int) := by omega
          go_enter Try.func17, Try.ntmps17
          go_wp2_with fail
          go_ret
          exact ⟨rfl, rfl⟩
        · rw [if_neg h4]
          have h4' : ¬ (255 : Int) < (n : Int) := by omega
          go_enter Try.func17, Try.ntmps17
          go_wp2_with fail
          go_ret
          exact ⟨rfl, rfl⟩
end Go.Proofs.Ytankddeolpickaa
