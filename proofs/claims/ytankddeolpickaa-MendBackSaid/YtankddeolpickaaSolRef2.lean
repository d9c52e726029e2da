/-
  What the reference's calls Signs and Fine of layer 9 answer. No conditions but those typed.
-/
import Derived.Test.YtankddeolpickaaSolRef
namespace Go.Proofs.Ytankddeolpickaa
set_option maxRecDepth 100000
open Go.RowKit
set_option linter.unusedSimpArgs false
set_option linter.unusedVariables false

def sigF (b : List UInt8) (i : Nat) : UInt8 := valB b (powB 2 (i + 1))
theorem range_snoc {α : Type} (f : Nat → α) (n : Nat) : (List.range (n + 1)).map f = (List.range n).map f ++ [f n] := by rw [List.range_succ, List.map_append]; rfl
theorem tab_range (f : Nat → UInt8) : ∀ n, tabL f n = (List.range n).map f
  | 0 => rfl
  | n + 1 => by rw [tabL, tab_range f n, range_snoc]
theorem signs_tab (b : List UInt8) (n : Nat) : tabL (sigF b) n = signsL b n := tab_range _ n

set_option maxHeartbeats 2000000 in
theorem refsigns_any (b : List UInt8) (len n : Nat) (A : Option Addr) (c : Nat) (w : World) (HN : Hid (b.length = len)) (hr : Rd vB w A b) (hl : len ≤ 100000) (hn : n ≤ 64) :
    Calls Try.prog 34 #[.slice A len c, .int .i64 (n : Int)] w (RetQ w (signsL b n)) := by
  obtain ⟨i0, hi, hz0, hz1, hz2⟩ := info_parts info_u8
  have HL : Hid (tabL (sigF b) n = signsL b n) := signs_tab b n
  go_enter Try.func34, Try.ntmps34
  go_wp2_with fail
  go_loopw [5, 6] (fun v i wr => TabRel (sigF b) 1 n w v i wr) (fun _ i _ => n + 1 - (intOf i).toNat)
  case atStart => exact ⟨0, Nat.zero_le _, rfl, World.ownsRow_nil _ _ _ _, Below.refl _ _⟩
  case round =>
    obtain ⟨k, hk, rfl, hown, hbel⟩ := hrel
    by_cases h : k < n
    · have j1 : ((k + 1 : Nat) : Int) ≤ (n : Int) := by omega
      have HX : Hid (sigF b k = evalL b.reverse (powB 2 (k + 1))) := rfl
      go_wp2_with fail
      refine (refturned_any b len A c _ HN (hr.keep hbel) (by omega)).mono ?_
      rintro e w1 ⟨A1, n1, c1, rfl, HN1, hc1, hr1, hb1⟩
      have e1 : n1 = len := by rw [← HN1.out, List.length_reverse, HN.out]
      subst e1
      go_wp2_with fail
      refine (refexp_at _ (k + 1) _ rfl (by omega)).mono ?_
      rintro e w2 ⟨rfl, rfl⟩
      generalize powB 2 (k + 1) = x at HX ⊢
      go_wp2_with fail
      refine (refeval_any b.reverse x n1 A1 c1 _ HN1 hr1 (by omega)).mono ?_
      rintro e w2 ⟨rfl, rfl⟩
      generalize evalL b.reverse x = y at HX ⊢
      have hown2 := ownsRow_later hown hb1
      have hbw := below_step hbel hb1
      have hle := hbw.size
      clear hown hbel hb1 hr1
      go_wp2_with (at_builtin; refine wpList_append_own _ rfl _ _ 22 rfl w.heap.size 5 i0 (.int .u8 0) 1 1 Try.underlying22 hi hz0 hz1 hz2 rfl (by decide) _ _ _ rfl (hown2.alloc _) ⟨w1.heap.size, 0, none⟩ 1 1 [.int .u8 (y.toNat : Int)] rfl rfl (cell_one_new _ _ _) (by intro u hu; simp at hu; subst hu; rfl) (by unfold maxLen; omega) (by omega) (by simp; omega) ?_; intro v' w3 hown' hgrow' _)
      have HR : Hid (TabRel (sigF b) 1 n w v' (.int .i64 (((k + 1 : Nat) : Int) + 1)) w3) := tab_round (lo := 1) h hown2 hbw HX.out hgrow' hown'
      clear hown' hgrow' hown2 hbw
      go_wp2_with fail
      go_roundw
      case rel => exact HR.out
      case measure => simp [intOf] <;> omega
    · have j1 : ¬ ((k + 1 : Nat) : Int) ≤ (n : Int) := by omega
      have ek : k = n := by omega
      subst ek
      rw [HL.out] at hown
      go_wp2_with fail
      go_ret
      exact RetQ.own (signs_length b k) hown hbel

/-! ### Fine -/
theorem all_false_at (l : List UInt8) (k : Nat) (h : k < l.length) (hx : l[k] ≠ 0) : l.all (· == 0) = false := by
  rw [List.all_eq_false]
  exact ⟨l[k], List.getElem_mem h, by simpa using hx⟩
theorem all_true_of (l : List UInt8) (h : ∀ i (hi : i < l.length), l[i] = 0) : l.all (· == 0) = true := by
  rw [List.all_eq_true]
  intro x hx
  obtain ⟨i, hi, e⟩ := List.getElem_of_mem hx
  rw [← e, h i hi]
  rfl
def FinRel (l : List UInt8) (i : Value) : Prop := ∃ j : Nat, j ≤ l.length ∧ i = .int .i64 (j : Int) ∧ ∀ q (hq : q < l.length), q < j → l[q] = 0
theorem errS_cases (n : Nat) (k : Int) : errS n k = 0 → ∃ m : Nat, k = (m : Int) ∧ 1 ≤ m ∧ m ≤ 64 ∧ m ≤ n ∧ n ≤ 255 := by
  unfold errS
  intro h
  split at h
  · omega
  · split at h
    · omega
    · split at h
      · omega
      · exact ⟨k.toNat, by omega, by omega, by omega, by omega, by omega⟩
set_option maxHeartbeats 2000000 in
theorem reffine_any (b : List UInt8) (len : Nat) (k : Int) (A : Option Addr) (c : Nat) (w : World) (HN : Hid (b.length = len)) (hr : Rd vB w A b) (hl : len ≤ 100000) :
    Calls Try.prog 18 #[.slice A len c, .int .i64 k] w fun e w' => e = .returned (.bool (fineS b k)) ∧ Below w.heap.size w w' := by
  by_cases h0 : errS len k = 0
  · obtain ⟨m, rfl, h1, h2, h3, h4⟩ := errS_cases len k h0
    have HF : Hid (fineS b (m : Int) = (signsL b m).all (· == 0)) := by
      unfold Hid fineS
      rw [HN.out, h0]
      rfl
    have H0 := Lib.hid h0
    rw [HF.out]
    clear h0 h1 h3
    go_enter Try.func18, Try.ntmps18
    go_wp2_with fail
    refine (referror_any len (m : Int) A c _ (by omega)).mono ?_
    rintro e w1 ⟨rfl, rfl⟩
    rw [H0.out]
    go_wp2_with fail
    refine (refsigns_any b len m A c _ HN hr (by omega) h2).mono ?_
    rintro e w1 ⟨A1, n1, c1, rfl, HN1, hc1, hr1, hb1⟩
    have e1 : n1 = m := by rw [← HN1.out, signs_length]
    subst e1
    generalize hs : signsL b n1 = l at HN1 hr1
    have HS := Lib.hid hs
    clear hs
    have e2 := HN1.out
    subst e2
    go_wp2_with fail
    go_loopw [6] (fun i wr => FinRel l i ∧ w1 = wr) (fun i _ => l.length - (intOf i).toNat)
    case atStart => exact ⟨⟨0, Nat.zero_le _, rfl, fun q _ h => absurd h (by omega)⟩, rfl⟩
    case round =>
      obtain ⟨⟨j, hj, rfl, hz⟩, rfl⟩ := hrel
      have HZ := Lib.hid hz
      clear hz
      have i0 : (0 : Int) ≤ (j : Int) := by omega
      by_cases h : j < l.length
      · obtain ⟨g, o, rfl, hb, hcell⟩ := hr1.at h
        have hc0 := hcell j h
        unfold vB at hc0
        have j1 : (j : Int) < (l.length : Int) := by omega
        by_cases hx : l[j] = 0
        · rw [hx] at hc0
          have hc0' : w1.cell? ⟨g, o + j, none⟩ = some (.int .u8 0) := hc0
          have HR : Hid (FinRel l (.int .i64 ((j : Int) + 1))) := ⟨j + 1, h, by go_num, fun q hq hq2 => by
            rcases Nat.lt_or_ge q j with e | e
            · exact HZ.out q hq e
            · have : q = j := by omega
              subst this
              exact hx⟩
          clear hcell hc0 hx
          go_wp2_with fail
          go_roundw
          case rel => exact ⟨HR.out, trivial⟩
          case measure => simp [intOf] <;> omega
        · have HA := Lib.hid (all_false_at l j h hx)
          have hne : ((l[j].toNat : Int) == 0) = false := by
            have : l[j].toNat ≠ 0 := fun e => hx (UInt8.toNat_inj.1 e)
            simp
            omega
          generalize l[j] = x at hc0 hne
          clear hcell hx
          go_wp2_with fail
          go_ret
          exact ⟨by rw [HS.out, HA.out]; rfl, hb1⟩
      · have j1 : ¬ (j : Int) < (l.length : Int) := by omega
        have HA := Lib.hid (all_true_of l (fun i hi => HZ.out i hi (by omega)))
        go_wp2_with fail
        go_ret
        exact ⟨by rw [HS.out, HA.out]; rfl, hb1⟩
  · have HF : Hid (fineS b k = false) := by
      unfold Hid fineS
      rw [HN.out, decide_eq_false h0]
      rfl
    rw [HF.out]
    have hne : (errS len k == 0) = false := beq_eq_false_iff_ne.2 h0
    have HE := Lib.hid hne
    clear h0 hne
    go_enter Try.func18, Try.ntmps18
    go_wp2_with fail
    refine (referror_any len k A c _ (by omega)).mono ?_
    rintro e w1 ⟨rfl, rfl⟩
    have hne := HE.out
    generalize errS len k = z at hne
    go_wp2_with fail
    go_ret
    exact ⟨rfl, Below.refl _ _⟩
end Go.Proofs.Ytankddeolpickaa
