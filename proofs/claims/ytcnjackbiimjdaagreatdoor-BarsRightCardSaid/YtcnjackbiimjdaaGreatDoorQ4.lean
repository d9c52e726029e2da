/-
  What the reference's calls Signs and Fine of layer 9 answer. No conditions but those typed.
-/
import Derived.Test.YtcnjackbiimjdaaGreatDoorQ3
import Derived.Laws.Concat
import Derived.Laws.Strings
import Derived.Deep.DeepCutAuto
import Derived.Maps.AppendAt
import Derived.Lib.AppendZeros
namespace Go.Proofs.YtcnjackbiimjdaaGreatDoor
set_option maxRecDepth 100000
open Go.RowKit
set_option linter.unusedSimpArgs false
set_option linter.unusedVariables false

def sigF (b : List UInt8) (i : Nat) : UInt8 := valB b (powB 2 (i + 1))
theorem range_snoc {α : Type} (f : Nat → α) (n : Nat) : (List.range (n + 1)).map f = (List.range n).map f ++ [f n] := by rw [List.range_succ, List.map_append]; rfl
theorem tab_range (f : Nat → UInt8) : ∀ n, tabL f n = (List.range n).map f
  | 0 => rfl
  | n + 1 => by rw [tabL, tab_range f n, range_snoc]
theorem signs_tab (b : List UInt8) (n : Nat) : tabL (sigF b) n = signsL b n := tab_range _ n

set_option maxHeartbeats 2000000 in
theorem refsigns_any (b : List UInt8) (len n : Nat) (A : Option Addr) (c : Nat) (w : World) (HN : Hid (b.length = len)) (hr : Rd vB w A b) (hl : len ≤ 100000) (hn : n ≤ 64) :
    Calls Tryz.prog 85 #[.slice A len c, .int .i64 (n : Int)] w (RetQ w (signsL b n)) := by
  obtain ⟨i0, hi, hz0, hz1, hz2⟩ := info_parts info_u8
  have HL : Hid (tabL (sigF b) n = signsL b n) := signs_tab b n
  go_enter Tryz.func85, Tryz.ntmps85
  go_wp2_with fail
  go_loopw [5, 6] (fun v i wr => TabRel (sigF b) 1 n w v i wr) (fun _ i _ => n + 1 - (intOf i).toNat)
  case atStart => exact ⟨0, Nat.zero_le _, rfl, World.ownsRow_nil _ _ _ _, Below.refl _ _⟩
  case round =>
    obtain ⟨k, hk, rfl, hown, hbel⟩ := hrel
    by_cases h : k < n
    · have j1 : ((k + 1 : Nat) : Int) ≤ (n : Int) := by omega
      have HX : Hid (sigF b k = evalL b.reverse (powB 2 (k + 1))) := rfl
      go_wp2_with fail
      refine (refturned_any b len A c _ HN (hr.keep hbel) (by omega)).mono ?_
      rintro e w1 ⟨A1, n1, c1, rfl, HN1, hc1, hr1, hb1⟩
      have e1 : n1 = len := by rw [← HN1.out, List.length_reverse, HN.out]
      subst e1
      go_wp2_with fail
      refine (refexp_at _ (k + 1) _ rfl (by omega)).mono ?_
      rintro e w2 ⟨rfl, rfl⟩
      generalize powB 2 (k + 1) = x at HX ⊢
      go_wp2_with fail
      refine (refeval_any b.reverse x n1 A1 c1 _ HN1 hr1 (by omega)).mono ?_
      rintro e w2 ⟨rfl, rfl⟩
      generalize evalL b.reverse x = y at HX ⊢
      have hown2 := ownsRow_later hown hb1
      have hbw := below_step hbel hb1
      have hle := hbw.size
      clear hown hbel hb1 hr1
      go_wp2_with (at_builtin; refine wpList_append_own _ rfl _ _ 23 rfl w.heap.size 5 i0 (.int .u8 0) 1 1 Tryz.underlying23 hi hz0 hz1 hz2 rfl (by decide) _ _ _ rfl (hown2.alloc _) ⟨w1.heap.size, 0, none⟩ 1 1 [.int .u8 (y.toNat : Int)] rfl rfl (cell_one_new _ _ _) (by intro u hu; simp at hu; subst hu; rfl) (by unfold maxLen; omega) (by omega) (by simp; omega) ?_; intro v' w3 hown' hgrow' _)
      have HR : Hid (TabRel (sigF b) 1 n w v' (.int .i64 (((k + 1 : Nat) : Int) + 1)) w3) := tab_round (lo := 1) h hown2 hbw HX.out hgrow' hown'
      clear hown' hgrow' hown2 hbw
      go_wp2_with fail
      go_roundw
      case rel => exact HR.out
      case measure => simp [intOf] <;> omega
    · have j1 : ¬ ((k + 1 : Nat) : Int) ≤ (n : Int) := by omega
      have ek : k = n := by omega
      subst ek
      rw [HL.out] at hown
      go_wp2_with fail
      go_ret
      exact RetQ.own (signs_length b k) hown hbel

/-! ### Fine -/
theorem all_false_at (l : List UInt8) (k : Nat) (h : k < l.length) (hx : l[k] ≠ 0) : l.all (· == 0) = false := by
  rw [List.all_eq_false]
  exact ⟨l[k], List.getElem_mem h, by simpa using hx⟩
theorem all_true_of (l : List UInt8) (h : ∀ i (hi : i < l.length), l[i] = 0) : l.all (· == 0) = true := by
  rw [List.all_eq_true]
  intro x hx
  obtain ⟨i, hi, e⟩ := List.getElem_of_mem hx
  rw [← e, h i hi]
  rfl
def FinRel (l : List UInt8) (i : Value) : Prop := ∃ j : Nat, j ≤ l.length ∧ i = .int .i64 (j : Int) ∧ ∀ q (hq : q < l.length), q < j → l[q] = 0
theorem errS_cases (n : Nat) (k : Int) : errS n k = 0 → ∃ m : Nat, k = (m : Int) ∧ 1 ≤ m ∧ m ≤ 64 ∧ m ≤ n ∧ n ≤ 255 := by
  unfold errS
  intro h
  split at h
  · omega
  · split at h
    · omega
    · split at h
      · omega
      · exact ⟨k.toNat, by omega, by omega, by omega, by omega, by omega⟩
set_option maxHeartbeats 2000000 in
theorem reffine_any (b : List UInt8) (len : Nat) (k : Int) (A : Option Addr) (c : Nat) (w : World) (HN : Hid (b.length = len)) (hr : Rd vB w A b) (hl : len ≤ 100000) :
    Calls Tryz.prog 54 #[.slice A len c, .int .i64 k] w fun e w' => e = .returned (.bool (fineS b k)) ∧ Below w.heap.size w w' := by
  by_cases h0 : errS len k = 0
  · obtain ⟨m, rfl, h1, h2, h3, h4⟩ := errS_cases len k h0
    have HF : Hid (fineS b (m : Int) = (signsL b m).all (· == 0)) := by
      unfold Hid fineS
      rw [HN.out, h0]
      rfl
    have H0 := Lib.hid h0
    rw [HF.out]
    clear h0 h1 h3
    go_enter Tryz.func54, Tryz.ntmps54
    go_wp2_with fail
    refine (referror_any len (m : Int) A c _ (by omega)).mono ?_
    rintro e w1 ⟨rfl, rfl⟩
    rw [H0.out]
    go_wp2_with fail
    refine (refsigns_any b len m A c _ HN hr (by omega) h2).mono ?_
    rintro e w1 ⟨A1, n1, c1, rfl, HN1, hc1, hr1, hb1⟩
    have e1 : n1 = m := by rw [← HN1.out, signs_length]
    subst e1
    generalize hs : signsL b n1 = l at HN1 hr1
    have HS := Lib.hid hs
    clear hs
    have e2 := HN1.out
    subst e2
    go_wp2_with fail
    go_loopw [6] (fun i wr => FinRel l i ∧ w1 = wr) (fun i _ => l.length - (intOf i).toNat)
    case atStart => exact ⟨⟨0, Nat.zero_le _, rfl, fun q _ h => absurd h (by omega)⟩, rfl⟩
    case round =>
      obtain ⟨⟨j, hj, rfl, hz⟩, rfl⟩ := hrel
      have HZ := Lib.hid hz
      clear hz
      have i0 : (0 : Int) ≤ (j : Int) := by omega
      by_cases h : j < l.length
      · obtain ⟨g, o, rfl, hb, hcell⟩ := hr1.at h
        have hc0 := hcell j h
        unfold vB at hc0
        have j1 : (j : Int) < (l.length : Int) := by omega
        by_cases hx : l[j] = 0
        · rw [hx] at hc0
          have hc0' : w1.cell? ⟨g, o + j, none⟩ = some (.int .u8 0) := hc0
          have HR : Hid (FinRel l (.int .i64 ((j : Int) + 1))) := ⟨j + 1, h, by go_num, fun q hq hq2 => by
            rcases Nat.lt_or_ge q j with e | e
            · exact HZ.out q hq e
            · have : q = j := by omega
              subst this
              exact hx⟩
          clear hcell hc0 hx
          go_wp2_with fail
          go_roundw
          case rel => exact ⟨HR.out, trivial⟩
          case measure => simp [intOf] <;> omega
        · have HA := Lib.hid (all_false_at l j h hx)
          have hne : ((l[j].toNat : Int) == 0) = false := by
            have : l[j].toNat ≠ 0 := fun e => hx (UInt8.toNat_inj.1 e)
            simp
            omega
          generalize l[j] = x at hc0 hne
          clear hcell hx
          go_wp2_with fail
          go_ret
          exact ⟨by rw [HS.out, HA.out]; rfl, hb1⟩
      · have j1 : ¬ (j : Int) < (l.length : Int) := by omega
        have HA := Lib.hid (all_true_of l (fun i hi => HZ.out i hi (by omega)))
        go_wp2_with fail
        go_ret
        exact ⟨by rw [HS.out, HA.out]; rfl, hb1⟩
  · have HF : Hid (fineS b k = false) := by
      unfold Hid fineS
      rw [HN.out, decide_eq_false h0]
      rfl
    rw [HF.out]
    have hne : (errS len k == 0) = false := beq_eq_false_iff_ne.2 h0
    have HE := Lib.hid hne
    clear h0 hne
    go_enter Tryz.func54, Tryz.ntmps54
    go_wp2_with fail
    refine (referror_any len k A c _ (by omega)).mono ?_
    rintro e w1 ⟨rfl, rfl⟩
    have hne := HE.out
    generalize errS len k = z at hne
    go_wp2_with fail
    go_ret
    exact ⟨rfl, Below.refl _ _⟩
end Go.Proofs.YtcnjackbiimjdaaGreatDoor
/-
  Layer 13 as plain functions: a payload's barcode, what any bytes are read as; spoilt, and read back. No conditions but those typed.
-/
namespace Go.Proofs.YtcnjackbiimjdaaGreatDoor
set_option maxRecDepth 100000
set_option linter.unusedVariables false
set_option linter.unusedSimpArgs false

/-- What is ahead of the checks. -/
def dataL (m : List UInt8) : List UInt8 := m.take (m.length - 10)
/-- A payload's barcode. -/
def barL (t e c : Nat) (tag : List UInt8) : List UInt8 := putS (putT (writeF t e c tag)) 10
/-- What stuffed bytes with their mended places are read as. -/
def gotL (d : List UInt8) (n : Nat) : (Int × Nat × Nat × Nat × List UInt8) × Nat × Int :=
  if putT (candL d) = d then (if (readF (candL d)).1 = 0 then (readF (candL d), n, 0) else (readF (candL d), 0, 3)) else ((3, 0, 0, 0, []), 0, 2)
/-- What bytes are read as: the code and the payload, in how many places they were mended, and the step. -/
noncomputable def barsL (b : List UInt8) : (Int × Nat × Nat × Nat × List UInt8) × Nat × Int :=
  if (mendS b 10).2.2 = 0 then gotL (dataL (mendS b 10).1) (mendS b 10).2.1 else (((mendS b 10).2.2, 0, 0, 0, []), 0, 1)

/-! ### Codes -/
theorem errS_pos (len : Nat) (n : Int) : 0 ≤ errS len n ∧ errS len n ≤ 4 := by
  unfold errS
  split
  · omega
  · split
    · omega
    · split <;> omega
theorem mendS_code (b : List UInt8) (n : Int) : 0 ≤ (mendS b n).2.2 ∧ (mendS b n).2.2 ≤ 6 := by
  have h := errS_pos b.length n
  unfold mendS
  split
  · split
    · constructor <;> simp
    · constructor <;> simp
  · dsimp only
    omega
theorem readN_code (b : List UInt8) : 0 ≤ (readN b).1 ∧ (readN b).1 ≤ 4 := by
  cases b with
  | nil => exact ⟨by decide, by decide⟩
  | cons n r =>
    rw [readN_cons]
    split
    · constructor <;> simp
    · split
      · constructor <;> simp
      · split
        · constructor <;> simp
        · constructor <;> simp
theorem readF_code (b : List UInt8) : 0 ≤ (readF b).1 ∧ (readF b).1 ≤ 4 := by
  cases b with
  | nil => exact ⟨by decide, by decide⟩
  | cons x r =>
    rw [readF_cons]
    split
    · constructor <;> simp
    · unfold readB
      split
      · unfold readE
        split
        · unfold readC
          split
          · unfold readT
            split
            · constructor <;> simp
            · split
              · constructor <;> simp
              · constructor <;> simp
          · exact readN_code _
        · exact readN_code _
      · exact readN_code _
theorem readF_bad (b : List UInt8) (h : (readF b).1 ≠ 0) : readF b = ((readF b).1, 0, 0, 0, []) := by
  cases b with
  | nil => rfl
  | cons x r =>
    rw [readF_cons] at h ⊢
    split
    · rfl
    · rename_i hx
      rw [if_neg hx] at h
      unfold readB at h ⊢
      split
      · rename_i h1
        rw [if_pos h1] at h
        unfold readE at h ⊢
        split
        · rename_i h2
          rw [if_pos h2] at h
          unfold readC at h ⊢
          split
          · rename_i h3
            rw [if_pos h3] at h
            unfold readT at h ⊢
            split
            · rfl
            · rename_i h4
              rw [if_neg h4] at h
              split
              · rfl
              · rename_i h5
                rw [if_neg h5] at h
                exact absurd rfl h
          · rfl
        · rfl
      · rfl

/-! ### Barcodes -/
section
variable {t e c : Nat} {tag : List UInt8}
theorem stuffed_length (h8 : tag.length = 8) : 12 ≤ (putT (writeF t e c tag)).length ∧ (putT (writeF t e c tag)).length ≤ 42 := by
  have h1 := write_length t e c tag h8
  have h2 := put_length (writeF t e c tag)
  omega
theorem bar_length (h8 : tag.length = 8) : 22 ≤ (barL t e c tag).length ∧ (barL t e c tag).length ≤ 52 := by
  have := stuffed_length (t := t) (e := e) (c := c) h8
  unfold barL
  rw [putS_length _ _ (by decide)]
  omega
theorem bar_fine : fineP (barL t e c tag) 10 := putS_fine _ _ (by decide)
theorem bar_data : dataL (barL t e c tag) = putT (writeF t e c tag) := by
  have h := putS_length (putT (writeF t e c tag)) 10 (by decide)
  unfold dataL barL
  rw [h, Nat.add_sub_cancel]
  unfold putS
  rw [List.take_left]
variable (ht : t < 18446744073709551616) (he : e < 18446744073709551616) (hc : c < 18446744073709551616)
include ht he hc
theorem got_bar (h8 : tag.length = 8) (n : Nat) : gotL (putT (writeF t e c tag)) n = ((0, t, e, c, tag), n, 0) := by
  unfold gotL
  rw [cand_put, if_pos rfl, read_write ht he hc h8, if_pos rfl]
/-- Spoilt in a few places, it is read as it was. -/
theorem bars_near (h8 : tag.length = 8) (x : List UInt8) (hx : x.length = (barL t e c tag).length) (hd : difL x (barL t e c tag) ≤ 5) : barsL x = ((0, t, e, c, tag), difL x (barL t e c tag), 0) := by
  have hl := bar_length (t := t) (e := e) (c := c) h8
  have h0 : errS x.length ((10 : Nat) : Int) = 0 := by
    unfold errS
    rw [if_neg (by omega), if_neg (by omega), if_neg (by omega)]
  have hm := mendS_near h0 (by omega) (⟨hx.symm, bar_fine, by omega⟩ : Near x 10 (barL t e c tag))
  have hm' : mendS x 10 = (barL t e c tag, difL x (barL t e c tag), 0) := hm
  unfold barsL
  rw [hm', if_pos rfl]
  dsimp only
  rw [bar_data, got_bar ht he hc h8]
end
theorem bar_inj {t e c t' e' c' : Nat} {tag tag' : List UInt8} (ht : t < 18446744073709551616) (he : e < 18446744073709551616) (hc : c < 18446744073709551616) (ht' : t' < 18446744073709551616) (he' : e' < 18446744073709551616) (hc' : c' < 18446744073709551616) (h8 : tag.length = 8) (h8' : tag'.length = 8) :
    barL t e c tag = barL t' e' c' tag' ↔ t = t' ∧ e = e' ∧ c = c' ∧ tag = tag' := by
  constructor
  · intro h
    have h1 := congrArg dataL h
    rw [bar_data, bar_data] at h1
    exact (write_inj ht he hc ht' he' hc' h8 h8').1 (put_inj h1)
  · rintro ⟨rfl, rfl, rfl, rfl⟩
    rfl
/-- What bytes are read as: a payload, whose barcode they are near to; or a fault. -/
theorem bars_cases (b : List UInt8) :
    (∃ t e c tag n, barsL b = ((0, t, e, c, tag), n, 0) ∧ tag.length = 8 ∧ t < 18446744073709551616 ∧ e < 18446744073709551616 ∧ c < 18446744073709551616 ∧ (barL t e c tag).length = b.length ∧ difL b (barL t e c tag) = n ∧ n ≤ 5) ∨
    ∃ k s : Int, barsL b = ((k, 0, 0, 0, []), 0, s) ∧ 0 < k ∧ k ≤ 6 ∧ 1 ≤ s ∧ s ≤ 3 := by
  by_cases h0 : (mendS b 10).2.2 = 0
  · have he : errS b.length 10 = 0 := by
      refine Classical.byContradiction fun h => ?_
      rw [mendS_bad h] at h0
      exact h h0
    obtain ⟨m, e1, h1, h2, h3, h4⟩ := errS_cases b.length 10 he
    obtain rfl : m = 10 := by omega
    by_cases ha : ∃ a, Near b 10 a
    · obtain ⟨a, ha⟩ := ha
      have hm := mendS_near (n := 10) he h4 ha
      have hm' : mendS b 10 = (a, difL b a, 0) := hm
      have hb : barsL b = gotL (dataL a) (difL b a) := by
        unfold barsL
        rw [hm', if_pos rfl]
      rw [hb]
      unfold gotL
      by_cases hp : putT (candL (dataL a)) = dataL a
      · rw [if_pos hp]
        by_cases hf : (readF (candL (dataL a))).1 = 0
        · rw [if_pos hf]
          left
          obtain ⟨k, t, e, c, tag, hF⟩ : ∃ k t e c tag, readF (candL (dataL a)) = (k, t, e, c, tag) := ⟨_, _, _, _, _, rfl⟩
          rw [hF] at hf
          have hk : k = 0 := hf
          subst hk
          obtain ⟨hw, h8, ht, he', hc⟩ := read_good _ t e c tag hF
          have hbar : barL t e c tag = a := by
            unfold barL
            rw [← hw, hp]
            have hs : a = dataL a ++ a.drop (a.length - 10) := by unfold dataL; rw [List.take_append_drop]
            have hal := ha.1
            have hdl : (dataL a).length = a.length - 10 := by unfold dataL; rw [List.length_take]; omega
            have := putS_only (dataL a) (a.drop (a.length - 10)) 10 (by decide) (by rw [List.length_drop]; omega) (by omega) (by rw [← hs]; exact ha.2.1)
            rw [← this, ← hs]
          refine ⟨t, e, c, tag, difL b a, by rw [hF], h8, ht, he', hc, by rw [hbar]; exact ha.1, by rw [hbar], ?_⟩
          have := ha.2.2
          omega
        · rw [if_neg hf, readF_bad _ hf]
          have := readF_code (candL (dataL a))
          exact .inr ⟨_, _, rfl, by omega, by omega, by decide, by decide⟩
      · rw [if_neg hp]
        exact .inr ⟨_, _, rfl, by decide, by decide, by decide, by decide⟩
    · have hm := mendS_many (n := 10) he (fun a h => ha ⟨a, h⟩)
      have hm' : mendS b 10 = ([], 0, 6) := hm
      rw [hm'] at h0
      exact absurd h0 (by decide)
  · have := mendS_code b 10
    unfold barsL
    rw [if_neg h0]
    exact .inr ⟨_, _, rfl, by omega, by omega, by decide, by decide⟩
/-- What is mended has its checks. -/
theorem mend_length (b : List UInt8) (h : (mendS b 10).2.2 = 0) : 10 ≤ (mendS b 10).1.length ∧ (mendS b 10).1.length = b.length ∧ b.length ≤ 255 := by
  have he : errS b.length 10 = 0 := by
    refine Classical.byContradiction fun h' => ?_
    rw [mendS_bad h'] at h
    exact h' h
  obtain ⟨m, e1, h1, h2, h3, h4⟩ := errS_cases b.length 10 he
  obtain rfl : m = 10 := by omega
  by_cases ha : ∃ a, Near b 10 a
  · obtain ⟨a, ha⟩ := ha
    have hm := mendS_near (n := 10) he h4 ha
    have hm' : mendS b 10 = (a, difL b a, 0) := hm
    rw [hm']
    have := ha.1
    exact ⟨by show 10 ≤ a.length; omega, ha.1, h4⟩
  · have hm := mendS_many (n := 10) he (fun a h => ha ⟨a, h⟩)
    have hm' : mendS b 10 = ([], 0, 6) := hm
    rw [hm'] at h
    exact absurd h (by decide)
end Go.Proofs.YtcnjackbiimjdaaGreatDoor
/-
  What the reference's calls Rot, Value, FromLeast, Put and Bytes answer: the same as the program's, for whatever is given.
-/
namespace Go.Proofs.YtcnjackbiimjdaaGreatDoor
set_option maxRecDepth 100000
open Go.RowKit

theorem wordsL_length (l : List UInt8) : 4 * (wordsL l).length ≤ l.length := by
  have := congrArg List.length (bytesL_wordsL l)
  rw [bytesL_length, List.length_take] at this
  omega
theorem rot_one (x : UInt32) : (rotR x 1).toNat = x.toNat / 2 + x.toNat % 2 * 2147483648 := by
  have hx := u32_lt x
  have e : (rotR x 1).toNat = (x.toBitVec >>> 1 ||| x.toBitVec <<< 31).toNat := by
    show (x.toBitVec.rotateRight 1).toNat = _
    rw [BitVec.rotateRight_def]
  rw [e, BitVec.toNat_or, BitVec.toNat_shiftLeft, BitVec.toNat_ushiftRight, Nat.shiftLeft_eq, Nat.shiftRight_eq_div_pow]
  show x.toNat / 2 ^ 1 ||| x.toNat * 2 ^ 31 % 2 ^ 32 = _
  have e2 : x.toNat * 2 ^ 31 % 2 ^ 32 = 2 ^ 31 * (x.toNat % 2) := by omega
  rw [e2, Nat.or_comm, ← Nat.two_pow_add_eq_or_of_lt (by omega)]
  omega
theorem rot_next (x : UInt32) (k : Nat) : rotR x (k + 1) = rotR (rotR x k) 1 := (rotR_rotR x k 1).symm
theorem rot_even (x y : UInt32) (h : x.toNat % 2 = 0) (e : y = rotR x 1) : y.toNat = x.toNat / 2 := by
  rw [e, rot_one]
  omega
theorem rot_odd (x y : UInt32) (h : x.toNat % 2 = 1) (e : y = rotR x 1) : y.toNat = x.toNat / 2 + 2147483648 := by
  rw [e, rot_one]
  omega

def RotRel (x : UInt32) (n : Nat) (u i : Value) : Prop := ∃ k : Nat, k ≤ n ∧ i = .int .i64 k ∧ u = .int .u32 ((rotR x k).toNat : Int)



theorem value_step (a c : Nat) : IntKind.u64.wrap (IntKind.u64.wrap (256 * ((a : Int) % 18446744073709551616)) + (c : Int)) = (((a * 256 + c) % 18446744073709551616 : Nat) : Int) := by
  rw [IntKind.wrap_u64, IntKind.wrap_u64]
  omega
def ValueRel (l : List UInt8) (v i : Value) : Prop := ∃ k : Nat, k ≤ l.length ∧ i = .int .i64 k ∧ v = .int .u64 ((valN (l.take k) % 18446744073709551616 : Nat) : Int)

theorem value_any (l : List UInt8) (A : Option Addr) (cap : Nat) (w : World) (hr : Rd vB w A l) (hl : l.length ≤ 9223372036854775807) :
    Calls Tryz.prog 56 #[.slice A l.length cap] w fun e w' => e = .returned (.int .u64 ((valN l % 18446744073709551616 : Nat) : Int)) ∧ w = w' := by
  go_enter Tryz.func56, Tryz.ntmps56
  go_wp2
  go_loop [3, 4] (fun v i => ValueRel l v i) (fun _ i => l.length - (intOf i).toNat)
  case atStart => exact ⟨0, Nat.zero_le _, rfl, rfl⟩
  case round =>
    obtain ⟨k, hk, rfl, rfl⟩ := hrel
    by_cases hlt : k < l.length
    · obtain ⟨b, o, rfl, hb, hcell⟩ := hr.at hlt
      have hc : w.cell? ⟨b, o + k, none⟩ = some (.int .u8 (l[k].toNat : Int)) := hcell k hlt
      have hb8 : l[k].toNat < 256 := l[k].toNat_lt
      have HT : Hid _ := valN_take l k hlt
      generalize l[k] = c at hc hb8 HT
      clear hcell hr
      go_wp2
      go_round
      case rel =>
        refine ⟨k + 1, by omega, by go_num, ?_⟩
        rw [HT.out, value_step]
      case measure => simp [intOf]; omega
    · have hk' : k = l.length := by omega
      have HK : Hid (l.take k = l) := by rw [hk']; exact List.take_length
      clear hk'
      go_wp2
      go_ret
      exact ⟨ret_int (by rw [HK.out]), rfl⟩


theorem refput_cells (v : Nat) (hv : v < 18446744073709551616) :
    #[Value.int IntKind.u8 ((v : Int) / 256 / 256 / 256 / 256 / 256 / 256 / 256 % 256), Value.int IntKind.u8 ((v : Int) / 256 / 256 / 256 / 256 / 256 / 256 % 256), Value.int IntKind.u8 ((v : Int) / 256 / 256 / 256 / 256 / 256 % 256), Value.int IntKind.u8 ((v : Int) / 256 / 256 / 256 / 256 % 256),
      Value.int IntKind.u8 ((v : Int) / 256 / 256 / 256 % 256), Value.int IntKind.u8 ((v : Int) / 256 / 256 % 256), Value.int IntKind.u8 ((v : Int) / 256 % 256), Value.int IntKind.u8 ((v : Int) % 256)] = ((putL v).map vB).toArray := by
  rw [← put_cells v hv]
  have e7 : (v : Int) / 256 / 256 / 256 / 256 / 256 / 256 / 256 % 256 = (v : Int) / 72057594037927936 := by omega
  have e6 : (v : Int) / 256 / 256 / 256 / 256 / 256 / 256 % 256 = (v : Int) / 281474976710656 % 256 := by omega
  have e5 : (v : Int) / 256 / 256 / 256 / 256 / 256 % 256 = (v : Int) / 1099511627776 % 256 := by omega
  have e4 : (v : Int) / 256 / 256 / 256 / 256 % 256 = (v : Int) / 4294967296 % 256 := by omega
  have e3 : (v : Int) / 256 / 256 / 256 % 256 = (v : Int) / 16777216 % 256 := by omega
  have e2 : (v : Int) / 256 / 256 % 256 = (v : Int) / 65536 % 256 := by omega
  rw [e7, e6, e5, e4, e3, e2]

theorem refput_any (v : Nat) (hv : v < 18446744073709551616) (w : World) :
    Calls Tryz.prog 75 #[.int .u64 (v : Int)] w (RetS vB w (putL v)) := by
  have hmk : ∀ w, (Instr.makeSlice 23 (.int .i64 8) (.int .i64 8)).run Tryz.prog w = .ok (.slice (some ⟨w.heap.size, 0, none⟩) 8 8) (w.alloc (.cells #[.int .u8 0, .int .u8 0, .int .u8 0, .int .u8 0, .int .u8 0, .int .u8 0, .int .u8 0, .int .u8 0] 5)) := fun _ => by kernel_rfl
  go_enter Tryz.func75, Tryz.ntmps75
  go_wp2
  refine wp_loop_rounds 9 ?_
  iterate 9 (rw [rounds_succ]; go_wp2)
  go_ret
  exact ⟨_, 8, rfl, Nat.le_refl _, Rd.new _ _ _ _ (refput_cells v hv), (Below.refl _ _).alloc (Nat.le_refl _) _⟩


end Go.Proofs.YtcnjackbiimjdaaGreatDoor
/-
  What the reference's call Least answers, for any number: the same as the program's.
-/
namespace Go.Proofs.YtcnjackbiimjdaaGreatDoor
set_option maxRecDepth 100000
open Go.RowKit

def RefLeastRel (L : List UInt8) (w : World) (s : Value) : Prop := ∃ (M : List UInt8) (b o cap : Nat), s = .slice (some ⟨b, o, none⟩) M.length cap ∧ M.length ≤ cap ∧ M.length ≤ 8 ∧ Rd vB w (some ⟨b, o, none⟩) M ∧ L.dropWhile (· == 0) = M.dropWhile (· == 0)

theorem refput_some (v : Nat) (hv : v < 18446744073709551616) (w : World) :
    Calls Tryz.prog 75 #[.int .u64 (v : Int)] w fun e w' => ∃ b o cap, e = .returned (.slice (some ⟨b, o, none⟩) (putL v).length cap) ∧ (putL v).length ≤ cap ∧ Rd vB w' (some ⟨b, o, none⟩) (putL v) ∧ Below w.heap.size w w' :=
  (refput_any v hv w).mono fun _ _ ⟨A, cap, he, hc, hr, hb⟩ => by
    obtain ⟨b, o, rfl, hcell⟩ := hr (by simp [putL])
    exact ⟨b, o, cap, he, hc, hr, hb⟩

theorem own_base {w : World} {base b' : Nat} {e : TypeId} {v : Value} {n : Nat} {xs : List Value} (h : w.ownsRow base e 1 v n xs) (hb : b' ≤ base) : w.ownsRow b' e 1 v n xs :=
  ⟨h.1, h.2.imp id fun ⟨g, cap, cur, h1, h2, h3⟩ => ⟨g, cap, cur, h1, Nat.le_trans hb h2, h3⟩⟩
/-- In memory of the call's own. -/
theorem refleast_own (v : Nat) (hv : v < 18446744073709551616) (w : World) :
    Calls Tryz.prog 40 #[.int .u64 (v : Int)] w (RetO 5 vB w (leastL v)) := by
  obtain ⟨i0, hi, hz0, hz1, hz2⟩ := info_parts info_u8
  have H8 : Hid (∀ L, L = putL v → L.length = 8) := by rintro L rfl; rfl
  have HL : Hid (∀ L, L = putL v → leastL v = L.dropWhile (· == 0)) := by rintro L rfl; rfl
  go_enter Tryz.func40, Tryz.ntmps40
  go_wp2_with (go_at_call 75; refine (refput_some v hv _).mono ?_; rintro e w1 ⟨b0, o0, cap, rfl, hcap, hrd, hbel⟩)
  obtain ⟨L, e⟩ : ∃ L, L = putL v := ⟨_, rfl⟩
  have h8 := H8.out L e
  have HL' := Lib.hid (HL.out L e)
  rw [← e] at hcap hrd ⊢
  clear HL H8 e
  go_loop [3] (fun s => RefLeastRel L w1 s) (fun s => sliceLen s)
  case atStart => exact ⟨L, b0, o0, cap, rfl, hcap, by omega, hrd, rfl⟩
  case round =>
    obtain ⟨M, b, o, cap1, rfl, hcap1, hm8, hrd1, hdw⟩ := hrel
    have HD := Lib.hid hdw
    clear hdw h8 hrd hcap
    cases M with
    | nil =>
      have HF : Hid (leastL v = []) := by unfold Hid; rw [HL'.out, HD.out]; rfl
      go_wp2_with fail
      go_ret
      rw [HF.out]
      have hown0 : (w1.alloc (.cells #[] 5)).ownsRow w1.heap.size 5 1 (.slice (some ⟨w1.heap.size, 0, none⟩) 0 0) 0 [] := World.ownsRow_made w1 #[] 0 (Nat.le_refl _) (by unfold maxLen; omega) rfl
      exact ⟨_, rfl, own_base hown0 hbel.size, below_new hbel _⟩
    | cons c M =>
      have hc := hrd1 (by simp)
      obtain ⟨b', o', e', hcell⟩ := hc
      injection e' with e'
      injection e' with e1 e2 _
      subst e1 e2
      have hc := hcell 0 (by simp)
      simp only [List.getElem_cons_zero, Nat.add_zero, vB] at hc
      by_cases hz : c = 0
      · subst hz
        have hc' : w1.cell? ⟨b, o, none⟩ = some (.int .u8 0) := hc
        have hrd2 : Rd vB w1 (if cap1 = 1 then some ⟨b, o, none⟩ else some ⟨b, o + 1, none⟩) M := by
          have := hrd1.drop 1 cap1 hcap1
          simpa [Addr.add] using this
        have hM : M.length + 1 ≤ cap1 := by simpa using hcap1
        have hM8 : M.length + 1 ≤ 8 := by simpa using hm8
        have HD' : Hid (L.dropWhile (· == 0) = M.dropWhile (· == 0)) := by
          unfold Hid
          rw [HD.out, List.dropWhile_cons, if_pos (by rfl)]
        clear hc hcell hrd1 hcap1 hm8
        by_cases h1 : cap1 = 1
        · subst h1
          obtain rfl : M = [] := List.eq_nil_of_length_eq_zero (by omega)
          go_wp2_with fail
          go_round
          case rel => exact ⟨[], _, _, 0, rfl, by simp, by simp, Rd.nil, HD'.out⟩
          case measure => simp [sliceLen]
        · rw [if_neg h1] at hrd2
          go_wp2_with fail
          go_round
          case rel => exact ⟨M, _, _, cap1 - 1, rfl, by omega, by omega, hrd2, HD'.out⟩
          case measure => simp [sliceLen]
      · have hne : ((c.toNat : Int) == 0) = false := by
          have : c.toNat ≠ 0 := fun h => hz (UInt8.toNat_inj.1 h)
          simp
          omega
        have HF : Hid (leastL v = c :: M) := by
          unfold Hid
          rw [HL'.out, HD.out, List.dropWhile_cons, if_neg (by simpa using hz)]
        clear hz hcell
        have hM8 : M.length + 1 ≤ 8 := by simpa using hm8
        have hr2 : Rd vB (w1.alloc (.cells #[] 5)) (some ⟨b, o, none⟩) (c :: M) := hrd1.keep (below_new (Below.refl _ _) _)
        have hnews := hr2.news
        have hone : ∀ u ∈ (c :: M).map vB, u.oneCell' = true := by
          intro u hu
          simp only [List.mem_map] at hu
          obtain ⟨x, _, rfl⟩ := hu
          rfl
        have hown0 : (w1.alloc (.cells #[] 5)).ownsRow w1.heap.size 5 1 (.slice (some ⟨w1.heap.size, 0, none⟩) 0 0) 0 [] := World.ownsRow_made w1 #[] 0 (Nat.le_refl _) (by unfold maxLen; omega) rfl
        have HN := Lib.hid hnews
        have HO := Lib.hid hone
        clear hnews hone hrd1 hr2 hm8
        go_wp2_with (at_builtin; refine wpList_append_own _ rfl _ _ 23 rfl w1.heap.size 5 i0 (.int .u8 0) 1 1 Tryz.underlying23 hi hz0 hz1 hz2 rfl (by decide) _ _ _ rfl hown0 ⟨b, o, none⟩ (M.length + 1) cap1 ((c :: M).map vB) rfl (by simp) HN.out HO.out (by unfold maxLen; omega) (by omega) (by simp) ?_; intro v' w2 hown' hgrow' _)
        go_ret
        rw [HF.out]
        refine ⟨_, rfl, own_base (base := w1.heap.size) (by simpa using hown') hbel.size, below_step hbel ?_⟩
        exact (below_new (Below.refl _ _) _).grown hgrow' (by simp) (fun g hk => (hown0.lt g hk).1)

theorem refleast_any (v : Nat) (hv : v < 18446744073709551616) (w : World) :
    Calls Tryz.prog 40 #[.int .u64 (v : Int)] w (RetS vB w (leastL v)) := (refleast_own v hv w).mono fun _ _ h => h.ret
end Go.Proofs.YtcnjackbiimjdaaGreatDoor
/-
  A string as a list of bytes: its length, one byte of it, the end of it, two held together (no program is named here). No conditions but those typed.
-/
namespace Go.Proofs.YtcnjackbiimjdaaGreatDoor
set_option maxRecDepth 100000
open Go.RowKit
set_option linter.unusedSimpArgs false

def strL (l : List UInt8) : ByteArray := ⟨l.toArray⟩
theorem strL_size (l : List UInt8) : (strL l).size = l.length := by simp [strL, ByteArray.size]
theorem strL_toList (l : List UInt8) : (strL l).toList = l := by unfold strL; exact ByteArray.toList_mk l
theorem strL_append (a b : List UInt8) : strL a ++ strL b = strL (a ++ b) := by
  unfold strL
  apply ByteArray.ext
  rw [ByteArray.data_append]
  simp
theorem strL_inj {a b : List UInt8} (h : strL a = strL b) : a = b := by
  have := congrArg ByteArray.toList h
  rwa [strL_toList, strL_toList] at this
theorem strL_drop (l : List UInt8) (k : Nat) : (strL l).extract k (strL l).size = strL (l.drop k) := by
  apply ByteArray.ext
  rw [ByteArray.data_extract, strL_size]
  simp [strL]
  exact List.take_of_length_le (by simp)
theorem run_index_strL {P : Program} (t : TypeId) (l : List UInt8) (i : Nat) (h : i < l.length) (ht : P.underlying t = some .string) (w : World) :
    (Instr.index t (.string (strL l)) (.int .i64 (i : Int))).run P w = .ok (.int .u8 (l[i].toNat : Int)) w := by
  rw [run_index_string w t (strL l) .i64 (i : Int) ht, dif_pos (by rw [strL_size]; omega)]
  simp [strL, ByteArray.getElem_eq_getElem_data]
theorem run_slice_strL {P : Program} (t : TypeId) (l : List UInt8) (k : Nat) (h : k ≤ l.length) (ht : P.underlying t = some .string) (w : World) :
    (Instr.slice t (.string (strL l)) (some (.int .i64 (k : Int))) none none).run P w = .ok (.string (strL (l.drop k))) w := by
  rw [run_slice_string_l w t (strL l) ht .i64 (k : Int) (by omega) (by rw [strL_size]; omega), Int.toNat_natCast, strL_drop]
end Go.Proofs.YtcnjackbiimjdaaGreatDoor
/-
  What the reference's calls Same, Msg and Write of layer 12 answer. No conditions but those typed.
-/
namespace Go.Proofs.YtcnjackbiimjdaaGreatDoor
set_option maxRecDepth 100000
open Go.RowKit
set_option linter.unusedSimpArgs false
set_option linter.unusedVariables false

/-- A payload as its cells. -/
def cellsP (t e c : Nat) (A : Option Addr) (n k : Nat) : List Value := [.int .u64 (t : Int), .int .u64 (e : Int), .int .u64 (c : Int), .slice A n k]
def aggP (t e c : Nat) (A : Option Addr) (n k : Nat) : Value := .agg #[.int .u64 (t : Int), .int .u64 (e : Int), .int .u64 (c : Int), .slice A n k]
theorem box_pay (w : World) (ty : TypeId) (a b c d : Value) : Row (w.alloc (.cells #[a, b, c, d] ty)) w.heap.size ty [a, b, c, d] ∧ Below w.heap.size w (w.alloc (.cells #[a, b, c, d] ty)) := ⟨Row.new w ty _ _ rfl, below_new (Below.refl _ _) _⟩
def sameF (t e c : Nat) (g : List UInt8) (t' e' c' : Nat) (g' : List UInt8) : Bool := decide (t = t' ∧ e = e' ∧ c = c' ∧ g = g')
/-- A call that hands back a list of bytes. -/
def RetZ (w : World) (l : List UInt8) (e : Ending) (w' : World) : Prop := ∃ A n c, e = .returned (.slice A n c) ∧ Hid (l.length = n) ∧ n ≤ c ∧ Rd vB w' A l ∧ Below w.heap.size w w'
theorem RetZ.own {w w' : World} {l : List UInt8} {base : Nat} {e : TypeId} {v : Value} {n : Nat} (hn : l.length = n) (h : w'.ownsRow base e 1 v n (l.map vB)) (hb : Below w.heap.size w w') : RetZ w l (.returned v) w' := by
  subst hn
  obtain ⟨A, c, rfl, hc, hr⟩ := own_slice h
  exact ⟨A, l.length, c, rfl, rfl, hc, hr, hb⟩

set_option maxRecDepth 100000 in
set_option maxHeartbeats 1000000 in
theorem refsame_pay (t e c t' e' c' : Nat) (g g' : List UInt8) (n n' : Nat) (A A' : Option Addr) (k k' : Nat) (w : World) (HN : Hid (g.length = n)) (HN' : Hid (g'.length = n')) (hr : Rd vB w A g) (hr' : Rd vB w A' g') :
    Calls Tryz.prog 10 #[aggP t e c A n k, aggP t' e' c' A' n' k'] w fun e₁ w' => e₁ = .returned (.bool (sameF t e c g t' e' c' g')) ∧ Below w.heap.size w w' := by
  obtain ⟨hR0, hB0⟩ := box_pay w 25 (.int .u64 (t : Int)) (.int .u64 (e : Int)) (.int .u64 (c : Int)) (.slice A n k)
  obtain ⟨hR1, hB1⟩ := box_pay (w.alloc (.cells #[.int .u64 (t : Int), .int .u64 (e : Int), .int .u64 (c : Int), .slice A n k] 25)) 25 (.int .u64 (t' : Int)) (.int .u64 (e' : Int)) (.int .u64 (c' : Int)) (.slice A' n' k')
  replace hR0 := hR0.later hB1
  have hsz : (w.alloc (.cells #[.int .u64 (t : Int), .int .u64 (e : Int), .int .u64 (c : Int), .slice A n k] 25)).heap.size = w.heap.size + 1 := by simp
  rw [hsz] at hR1
  have hB := below_step hB0 hB1
  replace hr := hr.keep hB
  replace hr' := hr'.keep hB
  obtain ⟨E, hE⟩ : ∃ E, sameF t e c g t' e' c' g' = E := ⟨_, rfl⟩
  rw [hE]
  unfold aggP
  go_enter Tryz.func10, Tryz.ntmps10
  go_upto_region 1 with fail
  generalize (w.alloc (.cells #[.int .u64 (t : Int), .int .u64 (e : Int), .int .u64 (c : Int), .slice A n k] 25)).alloc (.cells #[.int .u64 (t' : Int), .int .u64 (e' : Int), .int .u64 (c' : Int), .slice A' n' k'] 25) = W at hR0 hR1 hB hr hr' ⊢
  have c0 : W.cell? ⟨w.heap.size, 0, none⟩ = some (.int .u64 (t : Int)) := hR0.cell rfl
  have c1 : W.cell? ⟨w.heap.size, 1, none⟩ = some (.int .u64 (e : Int)) := hR0.cell rfl
  have c2 : W.cell? ⟨w.heap.size, 2, none⟩ = some (.int .u64 (c : Int)) := hR0.cell rfl
  have c3 : W.cell? ⟨w.heap.size, 3, none⟩ = some (.slice A n k) := hR0.cell rfl
  have d0 : W.cell? ⟨w.heap.size + 1, 0, none⟩ = some (.int .u64 (t' : Int)) := hR1.cell rfl
  have d1 : W.cell? ⟨w.heap.size + 1, 1, none⟩ = some (.int .u64 (e' : Int)) := hR1.cell rfl
  have d2 : W.cell? ⟨w.heap.size + 1, 2, none⟩ = some (.int .u64 (c' : Int)) := hR1.cell rfl
  have d3 : W.cell? ⟨w.heap.size + 1, 3, none⟩ = some (.slice A' n' k') := hR1.cell rfl
  clear hR0 hR1 hB0 hB1 hsz
  by_cases h0 : t = t'
  · subst h0
    by_cases h1 : e = e'
    · subst h1
      by_cases h2 : c = c'
      · subst h2
        have hs1 : (convert 23 9 (.slice A n k)).run Tryz.prog W = .ok (.string (strL g)) W := run_str W _ _ _ Tryz.underlying23 Tryz.underlying5 Tryz.underlying9 A g n k HN.out hr
        have hs2 : (convert 23 9 (.slice A' n' k')).run Tryz.prog W = .ok (.string (strL g')) W := run_str W _ _ _ Tryz.underlying23 Tryz.underlying5 Tryz.underlying9 A' g' n' k' HN'.out hr'
        have hst : ((strL g).toList == (strL g').toList) = E := by
          rw [strL_toList, strL_toList, ← hE]
          unfold sameF
          rw [Bool.eq_iff_iff, beq_iff_eq, decide_eq_true_iff]
          simp
        clear hE
        go_wp2_with fail
        go_ret
        exact ⟨rfl, hB⟩
      · have eE : E = false := by rw [← hE]; unfold sameF; exact decide_eq_false (fun h => h2 h.2.2.1)
        have hne : ((c : Int) == (c' : Int)) = false := beq_eq_false_iff_ne.2 (by omega)
        clear hE
        subst eE
        go_wp2_with fail
        go_ret
        exact ⟨rfl, hB⟩
    · have eE : E = false := by rw [← hE]; unfold sameF; exact decide_eq_false (fun h => h1 h.2.1)
      have hne : ((e : Int) == (e' : Int)) = false := beq_eq_false_iff_ne.2 (by omega)
      clear hE
      subst eE
      go_wp2_with fail
      go_ret
      exact ⟨rfl, hB⟩
  · have eE : E = false := by rw [← hE]; unfold sameF; exact decide_eq_false (fun h => h0 h.1)
    have hne : ((t : Int) == (t' : Int)) = false := beq_eq_false_iff_ne.2 (by omega)
    clear hE
    subst eE
    go_wp2_with fail
    go_ret
    exact ⟨rfl, hB⟩

/-! ### Msg -/
theorem own_lit (w : World) (e : TypeId) (l : List Value) (cs : Array Value) (h : cs = l.toArray) (hm : l.length ≤ maxLen) : (w.alloc (.cells cs e)).ownsRow w.heap.size e 1 (.slice (some ⟨w.heap.size, 0, none⟩) l.length l.length) l.length l :=
  ⟨by simp, .inr ⟨w.heap.size, l.length, cs, rfl, Nat.le_refl _, heap_alloc_new w _, Nat.le_refl _, hm, by subst h; simp, by subst h; simp⟩⟩
theorem refput_at (v : Nat) (hv : v < 18446744073709551616) (w : World) : Calls Tryz.prog 75 #[.int .u64 (v : Int)] w fun e w' => ∃ A c, e = .returned (.slice A 8 c) ∧ 8 ≤ c ∧ Rd vB w' A (putL v) ∧ Below w.heap.size w w' :=
  (refput_any v hv w).mono fun e w' ⟨A, c, h1, h2, h3, h4⟩ => ⟨A, c, h1, h2, h3, h4⟩
end Go.Proofs.YtcnjackbiimjdaaGreatDoor
/-
  append of what reads as a list onto a row of the call's own: the row's block behind it is the one it was, or a new one; blocks known whole stay (no program is named here). No conditions but those typed.
-/
namespace Go.Proofs.YtcnjackbiimjdaaGreatDoor
set_option maxRecDepth 100000
open Go.RowKit

theorem Row.grown {w w' : World} {g : Nat} {t : TypeId} {l : List Value} {row : Option Nat} (h : Row w g t l) (hg : w.grownBy w' row) (hn : row ≠ some g) : Row w' g t l :=
  (hg.block g h.lt (fun e => hn e.symm)).trans h
/-- Apart from a block that was there. -/
theorem apart_of {w : World} {v v' : Value} {g : Nat} (h : v.ownBlock ≠ some g) (hg : g < w.heap.size) (hat : v'.ownBlock = v.ownBlock ∨ v'.ownBlock = some w.heap.size) : v'.ownBlock ≠ some g := by
  rcases hat with e | e
  · rw [e]; exact h
  · rw [e]
    intro h
    injection h with h
    omega
section
variable {P : Program} (w : World)
theorem run_append_apart {α : Type} {f : α → Value} (base : Nat) (t ty e : TypeId) (i : TypeInfo) (z : Value) (bytes : Nat) (ht : P.underlying t = some (.slice e)) (hi : P.info? e = some i) (hz : i.zero = some z)
    (hsize : i.size = 1) (hby : i.bytes = bytes) (hzs : z.cells.size = 1) (v : Value) (n : Nat) (xs : List Value) (hown : w.ownsRow base e 1 v n xs)
    (A : Option Addr) (l : List α) (c : Nat) (hr : Rd f w A l) (h1 : ∀ x, (f x).oneCell' = true)
    (h63 : n + l.length ≤ maxLen) (hbytes : (n + l.length) * bytes ≤ 140737488355328) (hbase : base ≤ w.heap.size) :
    ∃ v' w', (Builtin.append_ #[t, t] ty #[v, .slice A l.length c]).run P w = .ok v' w' ∧ w'.ownsRow base e 1 v' (n + l.length) (xs ++ l.map f) ∧ w.grownBy w' v.ownBlock ∧ (v'.ownBlock = v.ownBlock ∨ v'.ownBlock = some w.heap.size) := by
  have hone : ∀ u ∈ l.map f, u.oneCell' = true := by
    intro u hu
    simp only [List.mem_map] at hu
    obtain ⟨x, _, rfl⟩ := hu
    exact h1 x
  by_cases hl : l = []
  · subst hl
    cases A with
    | none => exact ⟨v, w, run_append_nothing_of w base t ty e i ht hi v n xs hown c, by simpa using hown, ⟨rfl, rfl, rfl, Nat.le_refl _, fun _ _ _ => rfl⟩, .inl rfl⟩
    | some ad =>
      obtain ⟨v', w', hrun, h2, h3, _, h4⟩ := run_append_own_at (P := P) w base t ty e i z 1 bytes ht hi hz hsize hby hzs (by omega) v n xs hown ad 0 c [] rfl (fun j u h => by simp at h) (fun u h => by simp at h) h63 hbytes hbase
      exact ⟨v', w', hrun, h2, h3, h4⟩
  · obtain ⟨b, o, rfl, _⟩ := hr hl
    obtain ⟨v', w', hrun, h2, h3, _, h4⟩ := run_append_own_at (P := P) w base t ty e i z 1 bytes ht hi hz hsize hby hzs (by omega) v n xs hown ⟨b, o, none⟩ l.length c (l.map f) (by simp) hr.news hone h63 hbytes hbase
    exact ⟨v', w', hrun, h2, h3, h4⟩

theorem wp_append_apart {α : Type} {f : α → Value} {o : Oper} {a : Act} {K : Act → World → Prop} {Q : Exit → Act → World → Prop} (s x : Operand) (t : TypeId)
    (ho : o.op = .call { callee := .builtin .append, args := #[s, x], argTypes := #[t, t] })
    (base : Nat) (e : TypeId) (i : TypeInfo) (z : Value) (bytes : Nat) (ht : P.underlying t = some (.slice e)) (hi : P.info? e = some i) (hz : i.zero = some z)
    (hsize : i.size = 1) (hby : i.bytes = bytes) (hzs : z.cells.size = 1) (v : Value) (n : Nat) (xs : List Value) (hs : a.eval s = v) (hown : w.ownsRow base e 1 v n xs)
    (A : Option Addr) (l : List α) (c : Nat) (hx : a.eval x = .slice A l.length c) (hr : Rd f w A l) (h1 : ∀ x, (f x).oneCell' = true)
    (h63 : n + l.length ≤ maxLen) (hbytes : (n + l.length) * bytes ≤ 140737488355328) (hbase : base ≤ w.heap.size)
    (h : ∀ v' w', w'.ownsRow base e 1 v' (n + l.length) (xs ++ l.map f) → w.grownBy w' v.ownBlock → (v'.ownBlock = v.ownBlock ∨ v'.ownBlock = some w.heap.size) → K (a.put o.dst v') w') : o.wp P a w K Q := by
  obtain ⟨v', w', hr, h2, h3, h4⟩ := run_append_apart (P := P) w base t o.type e i z bytes ht hi hz hsize hby hzs v n xs hown A l c hr h1 h63 hbytes hbase
  unfold Oper.wp execOp
  simp only [ho, resolve, invoke, builtin, Sem.run_bind, Sem.run_pure, Result.andThen_ok, List.map_toArray, List.map_cons, List.map_nil, hs, hx, hr]
  exact h v' w' h2 h3 h4

theorem wpList_append_apart {α : Type} {f : α → Value} {ops : Array Oper} {rest : List Oper} {o : Oper} {a : Act} {Q : Exit → Act → World → Prop} (hgd : o.guard = none) (s x : Operand) (t : TypeId)
    (ho : o.op = .call { callee := .builtin .append, args := #[s, x], argTypes := #[t, t] })
    (base : Nat) (e : TypeId) (i : TypeInfo) (z : Value) (bytes : Nat) (ht : P.underlying t = some (.slice e)) (hi : P.info? e = some i) (hz : i.zero = some z)
    (hsize : i.size = 1) (hby : i.bytes = bytes) (hzs : z.cells.size = 1) (v : Value) (n : Nat) (xs : List Value) (hs : a.eval s = v) (hown : w.ownsRow base e 1 v n xs)
    (A : Option Addr) (l : List α) (c : Nat) (hx : a.eval x = .slice A l.length c) (hr : Rd f w A l) (h1 : ∀ x, (f x).oneCell' = true)
    (h63 : n + l.length ≤ maxLen) (hbytes : (n + l.length) * bytes ≤ 140737488355328) (hbase : base ≤ w.heap.size)
    (h : ∀ v' w', w'.ownsRow base e 1 v' (n + l.length) (xs ++ l.map f) → w.grownBy w' v.ownBlock → (v'.ownBlock = v.ownBlock ∨ v'.ownBlock = some w.heap.size) → wpList P ops Q rest (a.put o.dst v') w') : wpList P ops Q (o :: rest) a w :=
  wpList_plain hgd fun _ hK => wp_append_apart w s x t ho base e i z bytes ht hi hz hsize hby hzs v n xs hs hown A l c hx hr h1 h63 hbytes hbase fun v' w' h2 h3 h4 => hK _ _ (h v' w' h2 h3 h4)
end
end Go.Proofs.YtcnjackbiimjdaaGreatDoor
/-
  What the reference's call Write of layer 12 answers. No conditions but those typed.
-/
namespace Go.Proofs.YtcnjackbiimjdaaGreatDoor
set_option maxRecDepth 100000
open Go.RowKit
set_option linter.unusedSimpArgs false
set_option linter.unusedVariables false

def preF (N : List Nat) (i : Nat) : List UInt8 := 87 :: (N.take i).flatMap numF
theorem pre_next (N : List Nat) (i : Nat) (h : i < N.length) : preF N (i + 1) = preF N i ++ numF N[i] := by
  unfold preF
  rw [List.take_succ_eq_append_getElem h, List.flatMap_append, List.cons_append]
  simp
theorem pre_length (N : List Nat) (i : Nat) : (preF N i).length ≤ 1 + 9 * i := by
  induction i with
  | zero => simp [preF]
  | succ i ih =>
    rcases Nat.lt_or_ge i N.length with h | h
    · rw [pre_next N i h, List.length_append]
      have := (num_length N[i]).2
      omega
    · have e : preF N (i + 1) = preF N i := by unfold preF; rw [List.take_of_length_le (by omega), List.take_of_length_le h]
      rw [e]
      omega
theorem pre_write (t e c : Nat) (tag : List UInt8) : preF [t, e, c] 3 ++ tag = writeF t e c tag := by simp [preF, writeF]
def uV (x : Nat) : Value := .int .u64 (x : Int)
def WrR (N : List Nat) (cp : List Value) (w : World) (v iv : Value) (wr : World) : Prop :=
  ∃ i : Nat, i ≤ 3 ∧ iv = .int .i64 (i : Int) ∧ wr.ownsRow (w.heap.size + 1) 5 1 v (preF N i).length ((preF N i).map vB) ∧ v.ownBlock ≠ some (w.heap.size + 2) ∧ Row wr w.heap.size 25 cp ∧ Row wr (w.heap.size + 2) 22 (N.map uV) ∧ Below w.heap.size w wr

set_option maxRecDepth 100000 in
set_option maxHeartbeats 2000000 in
theorem refwriteF_any (t e c : Nat) (tag : List UInt8) (n : Nat) (A : Option Addr) (k : Nat) (w : World) (ht : t < 18446744073709551616) (he : e < 18446744073709551616) (hc : c < 18446744073709551616) (HN : Hid (tag.length = n)) (hr : Rd vB w A tag) (hn : n ≤ 100000) :
    Calls Tryz.prog 18 #[aggP t e c A n k] w (RetZ w (writeF t e c tag)) := by
  obtain ⟨i0, hi, hz0, hz1, hz2⟩ := info_parts info_u8
  obtain ⟨hR0, hB0⟩ := box_pay w 25 (.int .u64 (t : Int)) (.int .u64 (e : Int)) (.int .u64 (c : Int)) (.slice A n k)
  have hsz : (w.alloc (.cells #[.int .u64 (t : Int), .int .u64 (e : Int), .int .u64 (c : Int), .slice A n k] 25)).heap.size = w.heap.size + 1 := by simp
  have HALL : Hid (∀ x ∈ [t, e, c], x < 18446744073709551616) := fun x hx => by
    simp at hx
    rcases hx with rfl | rfl | rfl <;> assumption
  unfold aggP
  go_enter Tryz.func18, Tryz.ntmps18
  go_upto_region 1 with fail
  generalize (w.alloc (.cells #[.int .u64 (t : Int), .int .u64 (e : Int), .int .u64 (c : Int), .slice A n k] 25)) = W0 at hR0 hB0 hsz ⊢
  have hown0 := own_lit W0 5 ([(87 : UInt8)].map vB) #[.int .u8 87] rfl (by unfold maxLen; simp)
  have hbn := below_new (Below.refl W0.heap.size W0) (.cells #[.int .u8 87] 5)
  have hs1 : (W0.alloc (.cells #[.int .u8 87] 5)).heap.size = w.heap.size + 2 := by simp; omega
  rw [hsz] at hown0
  replace hR0 := hR0.later hbn
  replace hB0 := below_step hB0 hbn
  go_upto_region 2 with fail
  generalize W0.alloc (.cells #[.int .u8 87] 5) = W1 at hown0 hR0 hB0 hs1 ⊢
  have c0 : W1.cell? ⟨w.heap.size, 0, none⟩ = some (.int .u64 (t : Int)) := hR0.cell rfl
  have c1 : W1.cell? ⟨w.heap.size, 1, none⟩ = some (.int .u64 (e : Int)) := hR0.cell rfl
  have c2 : W1.cell? ⟨w.heap.size, 2, none⟩ = some (.int .u64 (c : Int)) := hR0.cell rfl
  have hR2 : Row (W1.alloc (.cells #[.int .u64 (t : Int), .int .u64 (e : Int), .int .u64 (c : Int)] 22)) (w.heap.size + 2) 22 ([t, e, c].map uV) := Row.new_at _ _ hs1.symm _ _ _ rfl
  have hbn2 := below_new (Below.refl W1.heap.size W1) (.cells #[.int .u64 (t : Int), .int .u64 (e : Int), .int .u64 (c : Int)] 22)
  replace hown0 := ownsRow_later hown0 hbn2
  replace hR0 := hR0.later hbn2
  replace hB0 := below_step hB0 hbn2
  clear hbn hbn2
  go_upto_region 3 with fail
  generalize W1.alloc (.cells #[.int .u64 (t : Int), .int .u64 (e : Int), .int .u64 (c : Int)] 22) = W2 at hown0 hR0 hR2 hB0 ⊢
  have HPW : Hid (preF [t, e, c] 3 ++ tag = writeF t e c tag) := pre_write t e c tag
  clear c0 c1 c2 hs1 hsz ht he hc
  have hN3 : [t, e, c].length = 3 := rfl
  generalize [t, e, c] = N at hR2 HALL HPW hN3
  go_wp2_with fail
  go_loopw [3, 5] (fun v iv wr => WrR N [.int .u64 (t : Int), .int .u64 (e : Int), .int .u64 (c : Int), .slice A n k] w v iv wr) (fun _ i _ => 3 - (intOf i).toNat)
  case atStart => exact ⟨0, by omega, rfl, hown0, by simp [Value.ownBlock], hR0, hR2, hB0⟩
  case round =>
    clear hown0 hR0 hR2 hB0
    obtain ⟨i, hi3, rfl, hown, hap, hRp, hRn, hbel⟩ := hrel
    have hpl := pre_length N i
    by_cases h : i < 3
    · have hiN : i < N.length := by omega
      have HPN := Lib.hid (pre_next N i hiN)
      have hx := HALL.out N[i] (List.getElem_mem hiN)
      have hcell : wr.cell? ⟨w.heap.size + 2, i, none⟩ = some (.int .u64 (N[i] : Int)) := hRn.cell (by simp [hiN, uV])
      have i1 : (i : Int) < 3 := by omega
      have i0' : (0 : Int) ≤ (i : Int) := by omega
      generalize N[i] = x at hx hcell HPN
      have HX := Lib.hid hx
      generalize preF N i = P at hown hpl HPN
      clear hx
      go_wp2_with fail
      refine (refleast_own x HX.out _).mono ?_
      rintro ee w1 ⟨vx, rfl, hownx, hb1⟩
      obtain ⟨A1, c1, rfl, hc1, hr1⟩ := own_slice hownx
      have hA1 : ∀ a, A1 = some a → wr.heap.size ≤ a.block := fun a ha => (hownx.lt a.block (by rw [ha]; rfl)).1
      have hvb : ∀ b, Value.ownBlock u3 = some b → b < wr.heap.size := fun b hb => (hown.lt b hb).2
      clear hownx
      have hll := leastL_length x
      have HNM : Hid (numF x = UInt8.ofNat (leastL x).length :: leastL x) := rfl
      generalize leastL x = L at hc1 hr1 hll HNM
      obtain ⟨m, hm⟩ : ∃ m, L.length = m := ⟨_, rfl⟩
      have hy : (UInt8.ofNat m).toNat = m := by rw [UInt8.toNat_ofNat']; omega
      have HM := Lib.hid hm
      rw [hm] at hc1 hll HNM ⊢
      generalize UInt8.ofNat m = y at hy HNM
      have hyi : IntKind.u8.wrap (m : Int) = (y.toNat : Int) := by rw [IntKind.wrap_u8', hy]; omega
      have hyj : (m : Int) % 256 = (y.toNat : Int) := by rw [hy]; omega
      have hown1 := ownsRow_later hown hb1
      have hRp1 := hRp.later hb1
      have hRn1 := hRn.later hb1
      have hB1 := below_step hbel hb1
      have hsz1 := hB1.size
      have hgl := hRn.lt
      have hs11 := hb1.size
      have hry : Rd vB (w1.alloc (.cells #[.int .u8 (y.toNat : Int)] 5)) (some ⟨w1.heap.size, 0, none⟩) [y] := Rd.new w1 [y] _ _ rfl
      have hbn := below_new (Below.refl w1.heap.size w1) (.cells #[.int .u8 (y.toNat : Int)] 5)
      have hbs := hbn.size
      replace hown1 := ownsRow_later hown1 hbn
      replace hRp1 := hRp1.later hbn
      replace hRn1 := hRn1.later hbn
      replace hr1 := hr1.keep hbn
      replace hB1 := below_step hB1 hbn
      clear hown hRp hRn hbel hb1 hbn hm hy hcell
      go_upto_region 8 with (at_builtin; refine wpList_append_apart _ rfl (.tmp 24) (.tmp 28) 23 rfl (w.heap.size + 1) 5 i0 (.int .u8 0) 1 Tryz.underlying23 hi hz0 hz1 hz2 rfl _ _ _ rfl hown1 _ ([y]) 1 rfl hry vB_one (by show P.length + 1 ≤ maxLen; unfold maxLen; omega) (by show (P.length + 1) * 1 ≤ _; omega) (by omega) ?_; intro v3 w3 hown3 hgrow3 hat3)
      have hap3 := apart_of hap (by omega) hat3
      have hB3 : Below w.heap.size w w3 := hB1.grown hgrow3 (by omega) (fun k hk => by have := (hown1.lt k hk).1; omega)
      have hRp3 := hRp1.grown hgrow3 (fun e => by have := (hown1.lt _ e).1; omega)
      have hRn3 := hRn1.grown hgrow3 hap
      have hr3 := hr1.grown hgrow3 (fun a ha e => by have h1 := hA1 a ha; have h2 := hvb _ e; omega)
      have hA1v : ∀ a, A1 = some a → Value.ownBlock v3 ≠ some a.block ∨ True := fun _ _ => .inr trivial
      clear hown1 hgrow3 hRp1 hRn1 hr1 hB1 hA1v
      have e1 : P.length + [y].length = (P ++ [y]).length := by rw [List.length_append]
      have e2 : P.map vB ++ [y].map vB = (P ++ [y]).map vB := by rw [List.map_append]
      rw [e1, e2] at hown3
      have hP1 : (P ++ [y]).length ≤ 100 := by rw [List.length_append]; simp; omega
      have HPP : Hid (preF N (i + 1) = (P ++ [y]) ++ L) := by unfold Hid; rw [HPN.out, HNM.out]; simp
      generalize P ++ [y] = P1 at hown3 hP1 HPP
      have hgl3 := hRn3.lt
      clear e1 e2 hap
      go_wp2_with (at_builtin; refine wpList_append_apart _ rfl (.tmp 30) (.tmp 31) 23 rfl (w.heap.size + 1) 5 i0 (.int .u8 0) 1 Tryz.underlying23 hi hz0 hz1 hz2 rfl _ _ _ rfl hown3 A1 L c1 (by rw [HM.out]; rfl) hr3 vB_one (by rw [HM.out]; unfold maxLen; omega) (by rw [HM.out]; omega) (by omega) ?_; intro v4 w4 hown4 hgrow4 hat4)
      have hB4 : Below w.heap.size w w4 := hB3.grown hgrow4 hB3.size (fun k hk => by have := (hown3.lt k hk).1; omega)
      have HREL : Hid (WrR N [.int .u64 (t : Int), .int .u64 (e : Int), .int .u64 (c : Int), .slice A n k] w v4 (.int .i64 ((i : Int) + 1)) w4) :=
        ⟨i + 1, by omega, by go_num, by rw [HPP.out, List.length_append, List.map_append]; exact hown4, apart_of hap3 hgl3 hat4, hRp3.grown hgrow4 (fun e => by have := (hown3.lt _ e).1; omega), hRn3.grown hgrow4 hap3, hB4⟩
      clear hown4 hgrow4 hown3 hB4 hB3 hRp3 hRn3
      go_wp2_with fail
      go_roundw
      case rel => exact HREL.out
      case measure => simp [intOf] <;> omega
    · have ei : i = 3 := by omega
      subst ei
      have hcell : wr.cell? ⟨w.heap.size, 3, none⟩ = some (.slice A n k) := hRp.cell rfl
      have hrt := hr.keep hbel
      have hs := hRn.lt
      have i1 : ¬ (3 : Int) < 3 := by omega
      generalize preF N 3 = P at hown hpl HPW
      go_wp2_with (at_builtin; refine wpList_append_apart _ rfl (.tmp 33) (.tmp 35) 23 rfl (w.heap.size + 1) 5 i0 (.int .u8 0) 1 Tryz.underlying23 hi hz0 hz1 hz2 rfl _ _ _ rfl hown A tag k (by rw [HN.out]; rfl) hrt vB_one (by rw [HN.out]; unfold maxLen; omega) (by rw [HN.out]; omega) (by omega) ?_; intro v4 w4 hown4 hgrow4 hat4)
      go_ret
      have hB4 : Below w.heap.size w w4 := hbel.grown hgrow4 hbel.size (fun k hk => by have := (hown.lt k hk).1; omega)
      rw [← HPW.out]
      rw [← List.map_append] at hown4
      exact RetZ.own (by rw [List.length_append]) hown4 hB4
end Go.Proofs.YtcnjackbiimjdaaGreatDoor
/-
  What bytes.Clone, slices.Clone, slices.Grow (of nil) and slices.Concat answer at lists of bytes: new memory that reads as the bytes did. Conditions: bounds on lengths, as typed.
-/
namespace Go.Proofs.YtcnjackbiimjdaaGreatDoor
set_option maxRecDepth 100000
open Go.RowKit
set_option linter.unusedSimpArgs false

/-- What a call that hands back a slice in new memory says of it. -/
def RetN {α : Type} (f : α → Value) (w : World) (l : List α) (e : Ending) (w' : World) : Prop :=
  ∃ A cap, e = .returned (.slice A l.length cap) ∧ l.length ≤ cap ∧ Rd f w' A l ∧ (∀ a, A = some a → w.heap.size ≤ a.block) ∧ Below w.heap.size w w'
theorem RetN.own {α : Type} {f : α → Value} {w w' : World} {l : List α} {e : TypeId} {v : Value} (h : w'.ownsRow w.heap.size e 1 v l.length (l.map f)) (hb : Below w.heap.size w w') : RetN f w l (.returned v) w' := by
  rcases h.2 with ⟨rfl, h0⟩ | ⟨g, cap, cur, rfl, hg, _, hc, _⟩
  · have hl : l = [] := List.eq_nil_of_length_eq_zero h0
    subst hl
    exact ⟨none, 0, rfl, Nat.le_refl _, Rd.nil, (fun a h => by cases h), hb⟩
  · exact ⟨_, cap, rfl, hc, Rd.own h, (fun a ha => by injection ha with ha; subst ha; exact hg), hb⟩
theorem RetN.ret {α : Type} {f : α → Value} {w w' : World} {l : List α} {e : Ending} (h : RetN f w l e w') : RetS f w l e w' := by
  obtain ⟨A, cap, h1, h2, h3, _, h5⟩ := h
  exact ⟨A, cap, h1, h2, h3, h5⟩

theorem clone_own (b : List UInt8) (A : Option Addr) (c : Nat) (w : World) (hr : Rd vB w A b) (hl : b.length ≤ 70368744177664) : Calls Tryz.prog 43 #[.slice A b.length c] w (RetO 5 vB w b) := by
  obtain ⟨i0, hi, hz0, hz1, hz2⟩ := info_parts info_u8
  cases A with
  | none =>
    have hb : b = [] := by
      by_cases h : b = []
      · exact h
      · obtain ⟨_, _, e, _⟩ := hr h
        cases e
    subst hb
    have hnil : ∀ W, (binOp .eql 23 (.slice none 0 c) (.slice none 0 0)).run Tryz.prog W = .ok (.bool true) W := fun W => Lib.run_eql_slice_nil W _ _ none 0 c 0 0 Tryz.underlying23
    go_enter Tryz.func43, Tryz.ntmps43
    go_wp2_with fail
    go_ret
    exact ⟨_, rfl, World.ownsRow_nil _ _ _ _, Below.refl _ _⟩
  | some a =>
    have hnil : ∀ W, (binOp .eql 23 (.slice (some a) b.length c) (.slice none 0 0)).run Tryz.prog W = .ok (.bool false) W := fun W => Lib.run_eql_slice_nil W _ _ (some a) b.length c 0 0 Tryz.underlying23
    have hown0 : (w.alloc (.cells #[] 5)).ownsRow w.heap.size 5 1 (.slice (some ⟨w.heap.size, 0, none⟩) 0 0) 0 [] := World.ownsRow_made w #[] 0 (Nat.le_refl _) (by unfold maxLen; omega) rfl
    have hr0 : Rd vB (w.alloc (.cells #[] 5)) (some a) b := hr.keep (below_new (Below.refl _ _) _)
    go_enter Tryz.func43, Tryz.ntmps43
    go_wp2_with (at_builtin; refine wpList_append_rd _ rfl (.tmp 5) (.tmp 6) 23 rfl w.heap.size 5 i0 (.int .u8 0) 1 Tryz.underlying23 hi hz0 hz1 hz2 rfl _ _ _ rfl hown0 (some a) b c rfl hr0 vB_one (by unfold maxLen; omega) (by omega) (by simp) ?_; intro v1 w1 hown1 hgrow1)
    go_ret
    rw [Nat.zero_add, List.nil_append] at hown1
    exact ⟨_, rfl, hown1, (below_new (Below.refl _ w) _).grown hgrow1 (by simp) (fun k hk => (hown0.lt k hk).1)⟩
theorem clone_b (b : List UInt8) (A : Option Addr) (c : Nat) (w : World) (hr : Rd vB w A b) (hl : b.length ≤ 70368744177664) : Calls Tryz.prog 43 #[.slice A b.length c] w (RetN vB w b) :=
  (clone_own b A c w hr hl).mono fun e w' ⟨v, he, ho, hb⟩ => by subst he; exact RetN.own ho hb



/-- A part of what is put together: its memory, its room, its bytes. -/
structure Part where
  A : Option Addr
  cap : Nat
  l : List UInt8
def vPart (p : Part) : Value := .slice p.A p.l.length p.cap
def flatL (ps : List Part) : List UInt8 := ps.flatMap (·.l)
theorem flatL_take (ps : List Part) (k : Nat) (h : k < ps.length) : flatL (ps.take (k + 1)) = flatL (ps.take k) ++ ps[k].l := by
  unfold flatL
  rw [List.take_succ_eq_append_getElem h, List.flatMap_append]
  simp
theorem flatL_le (ps : List Part) (k : Nat) : (flatL (ps.take k)).length ≤ (flatL ps).length := by
  conv => rhs; rw [← List.take_append_drop k ps]
  unfold flatL
  rw [List.flatMap_append, List.length_append]
  omega



end Go.Proofs.YtcnjackbiimjdaaGreatDoor
/-
  What the program's calls Right, Write and Msg of layer 12 answer (landed code). No conditions but those typed.
-/
namespace Go.Proofs.YtcnjackbiimjdaaGreatDoor
set_option maxRecDepth 100000
open Go.RowKit
set_option linter.unusedSimpArgs false
set_option linter.unusedVariables false

theorem size_pay' : (Tryz.prog.info? 25).map (·.size) = some 4 := by kernel_rfl
/-- A call that hands back a list of bytes and an error. -/
def RetV (w : World) (l : List UInt8) (k : Int) (e : Ending) (w' : World) : Prop := ∃ A n c, e = .returned (.tuple #[.slice A n c, .int .i64 k]) ∧ Hid (l.length = n) ∧ n ≤ c ∧ Rd vB w' A l ∧ Below w.heap.size w w'

/-! ### Least, in memory of the call's own -/
def LeastOwn (B : Nat) (L : List UInt8) (w : World) (s : Value) : Prop := ∃ (M : List UInt8) (A : Option Addr) (cap : Nat), s = .slice A M.length cap ∧ M.length ≤ cap ∧ M.length ≤ 8 ∧ Rd vB w A M ∧ L.dropWhile (· == 0) = M.dropWhile (· == 0) ∧ (∀ a, A = some a → B ≤ a.block)
theorem put_new (v : Nat) (hv : v < 18446744073709551616) (w : World) :
    Calls Tryz.prog 57 #[.int .u64 (v : Int)] w (RetN vB w (putL v)) := by
  have hmk : ∀ w, (Instr.makeSlice 23 (.int .i64 8) (.int .i64 8)).run Tryz.prog w = .ok (.slice (some ⟨w.heap.size, 0, none⟩) 8 8) (w.alloc (.cells #[.int .u8 0, .int .u8 0, .int .u8 0, .int .u8 0, .int .u8 0, .int .u8 0, .int .u8 0, .int .u8 0] 5)) := fun _ => by kernel_rfl
  go_enter Tryz.func57, Tryz.ntmps57
  go_wp2
  refine wp_loop_rounds 9 ?_
  iterate 9 (rw [rounds_succ]; go_wp2)
  go_ret
  exact ⟨_, 8, rfl, Nat.le_refl _, Rd.new _ _ _ _ (put_cells v hv), (fun a ha => by injection ha with ha; subst ha; exact Nat.le_refl _), (Below.refl _ _).alloc (Nat.le_refl _) _⟩
theorem least_new (v : Nat) (hv : v < 18446744073709551616) (w : World) :
    Calls Tryz.prog 26 #[.int .u64 (v : Int)] w (RetN vB w (leastL v)) := by
  have H8 : Hid (∀ L, L = putL v → L.length = 8) := by rintro L rfl; rfl
  have HL : Hid (∀ L, L = putL v → leastL v = L.dropWhile (· == 0)) := by rintro L rfl; rfl
  go_enter Tryz.func26, Tryz.ntmps26
  go_wp2_with (go_at_call 57; refine (put_new v hv _).mono ?_; rintro e w1 ⟨A, cap, rfl, hcap, hrd, hown, hbel⟩)
  obtain ⟨L, e⟩ : ∃ L, L = putL v := ⟨_, rfl⟩
  have h8 := H8.out L e
  have HL' := Lib.hid (HL.out L e)
  rw [← e] at hcap hrd ⊢
  clear HL H8 e
  go_loop [3] (fun s => LeastOwn w.heap.size L w1 s) (fun s => sliceLen s)
  case atStart => exact ⟨L, A, cap, rfl, hcap, by omega, hrd, rfl, hown⟩
  case round =>
    obtain ⟨M, A1, cap1, rfl, hcap1, hm8, hrd1, hdw, hown1⟩ := hrel
    have HD := Lib.hid hdw
    clear hdw h8 hrd hcap hown
    cases M with
    | nil =>
      have HO := Lib.hid hown1
      clear hown1
      go_wp2
      go_ret
      exact ⟨A1, cap1, by rw [HL'.out, HD.out]; rfl, by rw [HL'.out, HD.out]; simp, by rw [HL'.out, HD.out]; exact Rd.nil, HO.out, hbel⟩
    | cons c M =>
      obtain ⟨b, o, rfl, hb, hcell⟩ := hrd1.at (k := 0) (by simp)
      have hc := hcell 0 (by simp)
      simp only [List.getElem_cons_zero, Nat.add_zero, vB] at hc
      have HO : Hid (w.heap.size ≤ b) := hown1 _ rfl
      clear hown1
      by_cases hz : c = 0
      · subst hz
        have hc' : w1.cell? ⟨b, o, none⟩ = some (.int .u8 0) := hc
        have hrd2 : Rd vB w1 (if cap1 = 1 then some ⟨b, o, none⟩ else some ⟨b, o + 1, none⟩) M := by
          have := hrd1.drop 1 cap1 hcap1
          simpa [Addr.add] using this
        have hM : M.length + 1 ≤ cap1 := by simpa using hcap1
        have hM8 : M.length + 1 ≤ 8 := by simpa using hm8
        have HD' : Hid (L.dropWhile (· == 0) = M.dropWhile (· == 0)) := by
          unfold Hid
          rw [HD.out, List.dropWhile_cons, if_pos (by rfl)]
        clear hc hcell hrd1 hcap1 hm8
        go_wp2
        go_round
        case rel => exact ⟨M, _, cap1 - 1, rfl, by omega, by omega, hrd2, HD'.out, fun a ha => by split at ha <;> (injection ha with ha; subst ha; exact HO.out)⟩
        case measure => simp [sliceLen]
      · have hne : ((c.toNat : Int) == 0) = false := by
          have : c.toNat ≠ 0 := fun h => hz (UInt8.toNat_inj.1 h)
          simp
          omega
        have HF : Hid (L.dropWhile (· == 0) = c :: M) := by
          unfold Hid
          rw [HD.out, List.dropWhile_cons, if_neg (by simpa using hz)]
        clear hz hcell
        go_wp2
        go_ret
        exact ⟨_, cap1, by rw [HL'.out, HF.out]; rfl, by rw [HL'.out, HF.out]; exact hcap1, by rw [HL'.out, HF.out]; exact hrd1, (fun a ha => by injection ha with ha; subst ha; exact HO.out), hbel⟩

/-! ### Right -/
theorem rightP_any (t e c : Nat) (tag : List UInt8) (n : Nat) (A : Option Addr) (k : Nat) (w : World) (HN : Hid (tag.length = n)) (hr : Rd vB w A tag) (hk : n ≤ k) (hn : n ≤ 100000) :
    Calls Tryz.prog 25 #[aggP t e c A n k] w fun e₁ w' => e₁ = .returned (.bool (decide (n = 8))) ∧ Below w.heap.size w w' := by
  obtain ⟨hR0, hB0⟩ := box_pay w 25 (.int .u64 (t : Int)) (.int .u64 (e : Int)) (.int .u64 (c : Int)) (.slice A n k)
  have hd : ((n : Int) == 8) = decide (n = 8) := by
    by_cases h : n = 8
    · subst h; rfl
    · rw [decide_eq_false h]; exact beq_eq_false_iff_ne.2 (by omega)
  rw [← hd]
  clear hd
  unfold aggP
  go_enter Tryz.func25, Tryz.ntmps25
  go_upto_region 1 with fail
  generalize (w.alloc (.cells #[.int .u64 (t : Int), .int .u64 (e : Int), .int .u64 (c : Int), .slice A n k] 25)) = W0 at hR0 hB0 ⊢
  have c3 : W0.cell? ⟨w.heap.size, 3, none⟩ = some (.slice A n k) := hR0.cell rfl
  go_wp2_with fail
  go_ret
  exact ⟨rfl, hB0⟩

/-! ### Write -/
theorem writeP_no (t e c : Nat) (tag : List UInt8) (n : Nat) (A : Option Addr) (k : Nat) (w : World) (ht : t < 18446744073709551616) (he : e < 18446744073709551616) (hc : c < 18446744073709551616) (HN : Hid (tag.length = n)) (hr : Rd vB w A tag) (hk : n ≤ k) (hn : n ≤ 100000) (h8 : n ≠ 8) :
    Calls Tryz.prog 11 #[aggP t e c A n k] w (RetV w [] 1) := by
  obtain ⟨hR0, hB0⟩ := box_pay w 25 (.int .u64 (t : Int)) (.int .u64 (e : Int)) (.int .u64 (c : Int)) (.slice A n k)
  unfold aggP
  go_enter Tryz.func11, Tryz.ntmps11
  go_upto_region 1 with fail
  generalize (w.alloc (.cells #[.int .u64 (t : Int), .int .u64 (e : Int), .int .u64 (c : Int), .slice A n k] 25)) = W0 at hR0 hB0 ⊢
  go_wp2_with (refine wpList_load_part rfl 25 (.tmp 1) rfl w.heap.size 0 rfl _ _ hR0 [.int .u64 (t : Int), .int .u64 (e : Int), .int .u64 (c : Int), .slice A n k] (by rfl) _ Tryz.underlying25 rfl (by exact size_pay') ?_)
  refine (rightP_any t e c tag n A k _ HN (hr.keep hB0) hk hn).mono ?_
  rw [decide_eq_false h8]
  rintro e₁ w1 ⟨rfl, hb⟩
  go_wp2_with fail
  go_ret2
  exact ⟨none, 0, 0, rfl, Lib.hid rfl, Nat.le_refl _, Rd.nil, below_step hB0 hb⟩
theorem index_three (N : List Nat) (a b c : Nat) (hN : N = [a, b, c]) (i : Nat) (h : i < N.length) (W : World) : (Instr.index 66 (.agg #[.int .u64 (a : Int), .int .u64 (b : Int), .int .u64 (c : Int)]) (.int .i64 (i : Int))).run Tryz.prog W = .ok (.int .u64 (N[i] : Int)) W := by
  subst hN
  have hi : i = 0 ∨ i = 1 ∨ i = 2 := by simp at h; omega
  rcases hi with rfl | rfl | rfl
  · exact ((by kernel_rfl : (Instr.index 66 (.agg #[.int .u64 (a : Int), .int .u64 (b : Int), .int .u64 (c : Int)]) (.int .i64 0)).run Tryz.prog W = .ok (.int .u64 (a : Int)) W))
  · exact ((by kernel_rfl : (Instr.index 66 (.agg #[.int .u64 (a : Int), .int .u64 (b : Int), .int .u64 (c : Int)]) (.int .i64 1)).run Tryz.prog W = .ok (.int .u64 (b : Int)) W))
  · exact ((by kernel_rfl : (Instr.index 66 (.agg #[.int .u64 (a : Int), .int .u64 (b : Int), .int .u64 (c : Int)]) (.int .i64 2)).run Tryz.prog W = .ok (.int .u64 (c : Int)) W))
def WrV (N : List Nat) (cp : List Value) (w : World) (v iv : Value) (wr : World) : Prop :=
  ∃ i : Nat, i ≤ 3 ∧ iv = .int .i64 (i : Int) ∧ wr.ownsRow (w.heap.size + 1) 5 1 v (preF N i).length ((preF N i).map vB) ∧ Row wr w.heap.size 25 cp ∧ Below w.heap.size w wr
set_option maxRecDepth 100000 in
set_option maxHeartbeats 2000000 in
theorem writeP_ok (t e c : Nat) (tag : List UInt8) (A : Option Addr) (k : Nat) (w : World) (ht : t < 18446744073709551616) (he : e < 18446744073709551616) (hc : c < 18446744073709551616) (HN : Hid (tag.length = 8)) (hr : Rd vB w A tag) (hk : 8 ≤ k) :
    Calls Tryz.prog 11 #[aggP t e c A 8 k] w (RetV w (writeF t e c tag) 0) := by
  obtain ⟨i0, hi, hz0, hz1, hz2⟩ := info_parts info_u8
  obtain ⟨hR0, hB0⟩ := box_pay w 25 (.int .u64 (t : Int)) (.int .u64 (e : Int)) (.int .u64 (c : Int)) (.slice A 8 k)
  have HALL : Hid (∀ x ∈ [t, e, c], x < 18446744073709551616) := fun x hx => by
    simp at hx
    rcases hx with rfl | rfl | rfl <;> assumption
  unfold aggP
  go_enter Tryz.func11, Tryz.ntmps11
  go_upto_region 1 with fail
  generalize (w.alloc (.cells #[.int .u64 (t : Int), .int .u64 (e : Int), .int .u64 (c : Int), .slice A 8 k] 25)) = W0 at hR0 hB0 ⊢
  go_wp2_with (refine wpList_load_part rfl 25 (.tmp 1) rfl w.heap.size 0 rfl _ _ hR0 [.int .u64 (t : Int), .int .u64 (e : Int), .int .u64 (c : Int), .slice A 8 k] (by rfl) _ Tryz.underlying25 rfl (by exact size_pay') ?_)
  refine (rightP_any t e c tag 8 A k _ HN (hr.keep hB0) hk (by omega)).mono ?_
  rw [show decide ((8 : Nat) = 8) = true from rfl]
  rintro e₁ W1 ⟨rfl, hb⟩
  replace hR0 := hR0.later hb
  replace hB0 := below_step hB0 hb
  clear hb
  go_upto_region 3 with fail
  have hgl0 := hR0.lt
  have hown0 : (W1.alloc (.cells #[.int .u8 87] 5)).ownsRow (w.heap.size + 1) 5 1 (.slice (some ⟨W1.heap.size, 0, none⟩) 1 1) 1 ([(87 : UInt8)].map vB) := own_base (own_lit W1 5 ([(87 : UInt8)].map vB) #[.int .u8 87] rfl (by unfold maxLen; simp)) (by omega)
  have hbn := below_new (Below.refl W1.heap.size W1) (.cells #[.int .u8 87] 5)
  replace hR0 := hR0.later hbn
  replace hB0 := below_step hB0 hbn
  go_upto_region 4 with fail
  generalize W1.alloc (.cells #[.int .u8 87] 5) = W2 at hown0 hR0 hB0 ⊢
  have c0 : W2.cell? ⟨w.heap.size, 0, none⟩ = some (.int .u64 (t : Int)) := hR0.cell rfl
  have c1 : W2.cell? ⟨w.heap.size, 1, none⟩ = some (.int .u64 (e : Int)) := hR0.cell rfl
  have c2 : W2.cell? ⟨w.heap.size, 2, none⟩ = some (.int .u64 (c : Int)) := hR0.cell rfl
  generalize W1.heap.size = g1 at *
  clear hbn hgl0
  go_wp2_with fail
  clear c0 c1 c2
  have HPW : Hid (preF [t, e, c] 3 ++ tag = writeF t e c tag) := pre_write t e c tag
  obtain ⟨N, hN⟩ : ∃ N, N = [t, e, c] := ⟨_, rfl⟩
  have HIX := Lib.hid (index_three N t e c hN)
  have hN3 : N.length = 3 := by rw [hN]; rfl
  rw [← hN] at HALL HPW
  have HPR : Hid (w.heap.size ≤ W2.heap.size) := hB0.size
  have hown0' : W2.ownsRow (w.heap.size + 1) 5 1 (.slice (some ⟨g1, 0, none⟩) 1 1) (preF N 0).length ((preF N 0).map vB) := by
    have : preF N 0 = [87] := by simp [preF]
    rw [this]
    exact hown0
  clear hN hown0
  go_loopw [4, 19] (fun v iv wr => WrV N [.int .u64 (t : Int), .int .u64 (e : Int), .int .u64 (c : Int), .slice A 8 k] w v iv wr) (fun _ i _ => 3 - (intOf i).toNat)
  case atStart => exact ⟨0, by omega, rfl, hown0', hR0, hB0⟩
  case round =>
    clear hown0' hR0 hB0
    obtain ⟨i, hi3, rfl, hown, hRp, hbel⟩ := hrel
    have hpl := pre_length N i
    by_cases h : i < 3
    · have hiN : i < N.length := by omega
      have HPN := Lib.hid (pre_next N i hiN)
      have hx := HALL.out N[i] (List.getElem_mem hiN)
      have hix := HIX.out i hiN
      have i1 : (i : Int) < 3 := by omega
      have i0' : (0 : Int) ≤ (i : Int) := by omega
      generalize N[i] = x at hx hix HPN
      have HX := Lib.hid hx
      generalize preF N i = P at hown hpl HPN
      clear hx
      go_wp2_with fail
      refine (least_new x HX.out _).mono ?_
      rintro ee w1 ⟨A1, c1, rfl, hc1, hr1, hA1, hb1⟩
      have hvb : ∀ b, Value.ownBlock u4 = some b → b < wr.heap.size := fun b hb => (hown.lt b hb).2
      have hll := leastL_length x
      have HNM : Hid (numF x = UInt8.ofNat (leastL x).length :: leastL x) := rfl
      generalize leastL x = L at hc1 hr1 hll HNM ⊢
      obtain ⟨m, hm⟩ : ∃ m, L.length = m := ⟨_, rfl⟩
      have hy : (UInt8.ofNat m).toNat = m := by rw [UInt8.toNat_ofNat']; omega
      have HM := Lib.hid hm
      rw [hm] at hc1 hll HNM ⊢
      generalize UInt8.ofNat m = y at hy HNM
      have hyi : IntKind.u8.wrap (m : Int) = (y.toNat : Int) := by rw [IntKind.wrap_u8', hy]; omega
      have hyj : (m : Int) % 256 = (y.toNat : Int) := by rw [hy]; omega
      have hown1 := ownsRow_later hown hb1
      have hRp1 := hRp.later hb1
      have hB1 := below_step hbel hb1
      have hsz1 := hB1.size
      have hgl := hRp.lt
      have hs11 := hb1.size
      have hry : Rd vB (w1.alloc (.cells #[.int .u8 (y.toNat : Int)] 5)) (some ⟨w1.heap.size, 0, none⟩) [y] := Rd.new w1 [y] _ _ rfl
      have hbn := below_new (Below.refl w1.heap.size w1) (.cells #[.int .u8 (y.toNat : Int)] 5)
      have hbs := hbn.size
      replace hown1 := ownsRow_later hown1 hbn
      replace hRp1 := hRp1.later hbn
      replace hr1 := hr1.keep hbn
      replace hB1 := below_step hB1 hbn
      clear hown hRp hbel hb1 hbn hm hy
      go_upto_region 9 with (at_builtin; refine wpList_append_apart _ rfl (.tmp 24) (.tmp 28) 23 rfl (w.heap.size + 1) 5 i0 (.int .u8 0) 1 Tryz.underlying23 hi hz0 hz1 hz2 rfl _ _ _ rfl hown1 _ ([y]) 1 rfl hry vB_one (by show P.length + 1 ≤ maxLen; unfold maxLen; omega) (by show (P.length + 1) * 1 ≤ _; omega) (by omega) ?_; intro v3 w3 hown3 hgrow3 hat3)
      have hB3 : Below w.heap.size w w3 := hB1.grown hgrow3 (by omega) (fun k hk => by have := (hown1.lt k hk).1; omega)
      have hRp3 := hRp1.grown hgrow3 (fun e => by have := (hown1.lt _ e).1; omega)
      have hr3 := hr1.grown hgrow3 (fun a ha e => by have h1 := hA1 a ha; have h2 := hvb _ e; omega)
      clear hown1 hgrow3 hRp1 hr1 hB1
      have e1 : P.length + [y].length = (P ++ [y]).length := by rw [List.length_append]
      have e2 : P.map vB ++ [y].map vB = (P ++ [y]).map vB := by rw [List.map_append]
      rw [e1, e2] at hown3
      have hP1 : (P ++ [y]).length ≤ 100 := by rw [List.length_append]; simp; omega
      have HPP : Hid (preF N (i + 1) = (P ++ [y]) ++ L) := by unfold Hid; rw [HPN.out, HNM.out]; simp
      generalize P ++ [y] = P1 at hown3 hP1 HPP
      clear e1 e2
      have hgl3 := hRp3.lt
      go_wp2_with (at_builtin; refine wpList_append_apart _ rfl (.tmp 30) (.tmp 31) 23 rfl (w.heap.size + 1) 5 i0 (.int .u8 0) 1 Tryz.underlying23 hi hz0 hz1 hz2 rfl _ _ _ rfl hown3 A1 L c1 (by rw [HM.out]; rfl) hr3 vB_one (by rw [HM.out]; unfold maxLen; omega) (by rw [HM.out]; omega) (by omega) ?_; intro v4 w4 hown4 hgrow4 hat4)
      have hB4 : Below w.heap.size w w4 := hB3.grown hgrow4 hB3.size (fun k hk => by have := (hown3.lt k hk).1; omega)
      have HREL : Hid (WrV N [.int .u64 (t : Int), .int .u64 (e : Int), .int .u64 (c : Int), .slice A 8 k] w v4 (.int .i64 ((i : Int) + 1)) w4) :=
        ⟨i + 1, by omega, by go_num, by rw [HPP.out, List.length_append, List.map_append]; exact hown4, hRp3.grown hgrow4 (fun e => by have := (hown3.lt _ e).1; omega), hB4⟩
      clear hown4 hgrow4 hown3 hB4 hB3 hRp3
      go_wp2_with fail
      go_roundw
      case rel => exact HREL.out
      case measure => simp [intOf] <;> omega
    · have ei : i = 3 := by omega
      subst ei
      have hcell : wr.cell? ⟨w.heap.size, 3, none⟩ = some (.slice A 8 k) := hRp.cell rfl
      have hrt := hr.keep hbel
      have i1 : ¬ (3 : Int) < 3 := by omega
      have hs := hbel.size
      have hgl := hRp.lt
      generalize preF N 3 = P at hown hpl HPW
      go_wp2_with (at_builtin; refine wpList_append_apart _ rfl (.tmp 34) (.tmp 36) 23 rfl (w.heap.size + 1) 5 i0 (.int .u8 0) 1 Tryz.underlying23 hi hz0 hz1 hz2 rfl _ _ _ rfl hown A tag k (by rw [HN.out]; rfl) hrt vB_one (by rw [HN.out]; unfold maxLen; omega) (by rw [HN.out]; omega) (by omega) ?_; intro v4 w4 hown4 hgrow4 hat4)
      have hB4 : Below w.heap.size w w4 := hbel.grown hgrow4 hbel.size (fun k hk => by have := (hown.lt k hk).1; omega)
      rw [← List.map_append, ← List.length_append, HPW.out] at hown4
      obtain ⟨A4, c4, rfl, hc4, hr4⟩ := own_slice hown4
      clear hown4 hgrow4
      go_wp2_with fail
      go_ret2
      exact ⟨A4, _, c4, rfl, Lib.hid rfl, hc4, hr4, hB4⟩

/-! ### Msg -/
def mreF (N : List Nat) (i : Nat) : List UInt8 := 67 :: (N.take i).flatMap putL
theorem mre_next (N : List Nat) (i : Nat) (h : i < N.length) : mreF N (i + 1) = mreF N i ++ putL N[i] := by
  unfold mreF
  rw [List.take_succ_eq_append_getElem h, List.flatMap_append, List.cons_append]
  simp
theorem mre_length (N : List Nat) (i : Nat) : (mreF N i).length ≤ 1 + 8 * i := by
  induction i with
  | zero => simp [mreF]
  | succ i ih =>
    rcases Nat.lt_or_ge i N.length with h | h
    · rw [mre_next N i h, List.length_append, putL_len]
      omega
    · have e : mreF N (i + 1) = mreF N i := by unfold mreF; rw [List.take_of_length_le (by omega), List.take_of_length_le h]
      rw [e]
      omega
def MsV (N : List Nat) (w : World) (v iv : Value) (wr : World) : Prop :=
  ∃ i : Nat, i ≤ 3 ∧ iv = .int .i64 (i : Int) ∧ wr.ownsRow w.heap.size 5 1 v (mreF N i).length ((mreF N i).map vB) ∧ Below w.heap.size w wr
theorem put_at (v : Nat) (hv : v < 18446744073709551616) (w : World) : Calls Tryz.prog 57 #[.int .u64 (v : Int)] w fun e w' => ∃ A c, e = .returned (.slice A 8 c) ∧ 8 ≤ c ∧ Rd vB w' A (putL v) ∧ Below w.heap.size w w' :=
  (put_new v hv w).mono fun e w' ⟨A, c, h1, h2, h3, _, h4⟩ => ⟨A, c, h1, h2, h3, h4⟩
end Go.Proofs.YtcnjackbiimjdaaGreatDoor
/-
  What the reference's call Read of layer 12 answers. No conditions but those typed.
-/
namespace Go.Proofs.YtcnjackbiimjdaaGreatDoor
set_option maxRecDepth 100000
open Go.RowKit
set_option linter.unusedSimpArgs false
set_option linter.unusedVariables false

theorem info_u64 : (Tryz.prog.info? 22).map (fun i => (i.zero, i.size, i.bytes)) = some (some (.int .u64 0), 1, 8) := by kernel_rfl
theorem size_pay : (Tryz.prog.info? 25).map (·.size) = some 4 := by kernel_rfl
theorem one_four (a b c d : Value) (ha : a.oneCell' = true) (hb : b.oneCell' = true) (hc : c.oneCell' = true) (hd : d.oneCell' = true) : ∀ v ∈ [a, b, c, d], v.oneCell' = true := fun v hv => by
  simp at hv
  rcases hv with rfl | rfl | rfl | rfl <;> assumption
abbrev ResF := Int × Nat × Nat × Nat × List UInt8
def contF : Nat → List Nat → List UInt8 → ResF
  | 0, v, r => readT (v.getD 0 0) (v.getD 1 0) (v.getD 2 0) r
  | k + 1, v, r => if (readN r).1 = 0 then contF k (v ++ [(readN r).2.1]) (readN r).2.2 else ((readN r).1, 0, 0, 0, [])
theorem cont_succ (k : Nat) (v : List Nat) (r : List UInt8) : contF (k + 1) v r = if (readN r).1 = 0 then contF k (v ++ [(readN r).2.1]) (readN r).2.2 else ((readN r).1, 0, 0, 0, []) := rfl
theorem cut_mid (A : Option Addr) (n cap lo m : Nat) (h : lo + m ≤ cap) (W : World) : (Instr.slice 23 (.slice A n cap) (some (.int .i64 (lo : Int))) (some (.int .i64 ((lo : Int) + (m : Int)))) none).run Tryz.prog W = .ok (.slice (if cap = lo then A else A.map (·.add (lo * 1))) m (cap - lo)) W := by
  have he : Tryz.prog.elem 23 = 5 := by simp [Program.elem, Tryz.underlying23]
  rw [run_slice_lh W 23 A n cap (by rw [he]; exact Tryz.underlying23) .i64 .i64 (lo : Int) ((lo : Int) + (m : Int)) (by omega) (by omega) (by omega), he, size_uint8]
  simp only [Result.andThen, sliced, Int.toNat_natCast]
  rw [show ((lo : Int) + (m : Int)).toNat - lo = m by omega]
theorem value_at (l : List UInt8) (m : Nat) (A : Option Addr) (cap : Nat) (w : World) (HL : Hid (l.length = m)) (hr : Rd vB w A l) (hm : m ≤ 8) :
    Calls Tryz.prog 56 #[.slice A m cap] w fun e w' => e = .returned (.int .u64 (valN l : Int)) ∧ w = w' := by
  have e := HL.out
  subst e
  have hv := valN_lt8 l hm
  rw [show (valN l : Int) = ((valN l % 18446744073709551616 : Nat) : Int) by rw [Nat.mod_eq_of_lt hv]]
  exact value_any l A cap w hr (by omega)
theorem cont_read (r : List UInt8) : contF 3 [] r = readB r := by
  simp only [readB, readE, readC, contF]
  rfl
/-- A call that hands back a payload and an error. -/
def RetPay (w : World) (F : ResF) (e : Ending) (w' : World) : Prop := ∃ A n k, e = .returned (.tuple #[aggP F.2.1 F.2.2.1 F.2.2.2.1 A n k, .int .i64 F.1]) ∧ Hid (F.2.2.2.2.length = n) ∧ n ≤ k ∧ Rd vB w' A F.2.2.2.2 ∧ Below w.heap.size w w'
def threeP (g o : Nat) (a b c : Value) (W : World) : Prop := W.cell? ⟨g, o, none⟩ = some a ∧ (W.cell? ⟨g, o + 1, none⟩ = some b ∧ W.cell? ⟨g, o + 2, none⟩ = some c)
def RdR (b : List UInt8) (F : ResF) (w : World) (at' v iv : Value) (wr : World) : Prop :=
  ∃ (i p : Nat) (N : List Nat), i ≤ 3 ∧ N.length = i ∧ p ≤ b.length ∧ iv = .int .i64 (i : Int) ∧ at' = .int .i64 (p : Int) ∧ Hid (contF (3 - i) N (b.drop p) = F) ∧ wr.ownsRow (w.heap.size + 1) 22 1 v i (N.map uV) ∧ Row wr w.heap.size 25 [.int .u64 0, .int .u64 0, .int .u64 0, .slice none 0 0] ∧ Below w.heap.size w wr

set_option maxRecDepth 100000 in
set_option maxHeartbeats 4000000 in
theorem refreadF_any (b : List UInt8) (n : Nat) (A : Option Addr) (c : Nat) (w : World) (HN : Hid (b.length = n)) (hr : Rd vB w A b) (hc : n ≤ c) (hn : n ≤ 100000) :
    Calls Tryz.prog 24 #[.slice A n c] w (RetPay w (readF b)) := by
  obtain ⟨i0, hi, hz0, hz1, hz2⟩ := info_parts info_u64
  obtain ⟨i8, hi8, hy0, hy1, hy2⟩ := info_parts info_u8
  obtain ⟨F, hF0⟩ : ∃ F, readF b = F := ⟨_, rfl⟩
  rw [hF0]
  obtain ⟨hR0, hB0⟩ := box_pay w 25 (.int .u64 0) (.int .u64 0) (.int .u64 0) (.slice none 0 0)
  have e1 := HN.out
  subst e1
  go_enter Tryz.func24, Tryz.ntmps24
  go_upto_region 1 with fail
  generalize (w.alloc (.cells #[.int .u64 0, .int .u64 0, .int .u64 0, .slice none 0 0] 25)) = W0 at hR0 hB0 ⊢
  by_cases h0 : b.length = 0
  · have hb0 : b = [] := List.eq_nil_of_length_eq_zero h0
    have l0 : ((b.length : Int) == 0) = true := beq_iff_eq.2 (by omega)
    have hF : F = (2, 0, 0, 0, []) := by rw [← hF0, hb0]; rfl
    subst hF
    go_wp2_with (refine wpList_store_row rfl 25 (.tmp 2) (.tmp 11) rfl w.heap.size rfl [.int .u64 0, .int .u64 0, .int .u64 0, .slice none 0 0] rfl _ _ hR0 (by exact size_pay) rfl (one_four _ _ _ _ rfl rfl rfl rfl) ?_)
    refine bodyPost_ret (results_row_tmp (p := 2) (u := 3) (ty := 25) (by rfl) _ _ w.heap.size 25 _ _ (by rfl) (by exact hR0.setRow _) Tryz.underlying25 (by rfl) (by exact size_pay)) (by rfl) ?_
    exact ⟨none, 0, 0, rfl, Lib.hid rfl, Nat.le_refl _, Rd.nil, below_setRow hB0 (Nat.le_refl _) _⟩
  · obtain ⟨x, r, hb⟩ : ∃ x r, b = x :: r := by
      cases b with
      | nil => exact absurd rfl h0
      | cons x r => exact ⟨x, r, rfl⟩
    have hbl : 0 < b.length := by omega
    obtain ⟨g, o, rfl, hg, hcell⟩ := hr.at hbl
    have hx0 : W0.cell? ⟨g, o, none⟩ = some (.int .u8 (x.toNat : Int)) := by
      have := hcell 0 hbl
      rw [show b[0] = x by simp [hb]] at this
      exact (hB0.cell (p := ⟨g, o, none⟩) hg).trans this
    have l0 : ((b.length : Int) == 0) = false := beq_eq_false_iff_ne.2 (by omega)
    have l1 : (0 : Int) < (b.length : Int) := by omega
    have hrF : F = if x ≠ 87 then (3, 0, 0, 0, []) else readB r := by rw [← hF0, hb, readF_cons]
    have hdr : b.drop 1 = r := by rw [hb]; rfl
    have hbne : b ≠ [] := by rw [hb]; simp
    clear hb hF0
    by_cases h87 : x = 87
    · subst h87
      have hx1 : W0.cell? ⟨g, o, none⟩ = some (.int .u8 87) := hx0
      have HST : Hid (contF (3 - 0) [] (b.drop 1) = F) := by unfold Hid; rw [hdr, cont_read, hrF, if_neg (by simp)]
      have HCL := Lib.hid hcell
      clear hx0 hrF hdr hcell
      go_wp2_with fail
      go_loopw [4, 5, 6] (fun at' v iv wr => RdR b F w at' v iv wr) (fun _ _ i _ => 3 - (intOf i).toNat)
      case atStart => exact ⟨0, 1, [], by omega, rfl, by omega, rfl, rfl, HST, World.ownsRow_nil _ _ _ _, hR0, hB0⟩
      case round =>
        clear hR0 hB0 hx1
        obtain ⟨i, p, N, hi3, hNl, hp, rfl, rfl, HF, hown, hRp, hbel⟩ := hrel
        have hgp := hRp.lt
        by_cases h : i < 3
        · have hFF := HF.out
          rw [show 3 - i = (2 - i) + 1 by omega, cont_succ] at hFF
          have i1 : (i : Int) < 3 := by omega
          by_cases hpl : p < b.length
          · obtain ⟨y, hy⟩ : ∃ y, b[p] = y := ⟨_, rfl⟩
            have hdp : b.drop p = y :: b.drop (p + 1) := by rw [← hy]; exact List.drop_eq_getElem_cons hpl
            have hSl : (b.drop (p + 1)).length = b.length - (p + 1) := List.length_drop
            have hcy : wr.cell? ⟨g, o + p, none⟩ = some (.int .u8 (y.toNat : Int)) := by rw [← hy]; exact (hbel.cell (p := ⟨g, o + p, none⟩) hg).trans (HCL.out p hpl)
            have hdd : ∀ q, (b.drop (p + 1)).drop q = b.drop (p + 1 + q) := fun q => List.drop_drop
            have hhd : ∀ z, b[p + 1]? = some z → (b.drop (p + 1)).head? = some z := fun z hz => by rw [List.head?_drop, hz]
            rw [hdp, readN_cons] at hFF
            have hmid : ∀ m', Rd vB wr (if c = p + 1 then some ⟨g, o, none⟩ else (some (⟨g, o, none⟩ : Addr)).map (·.add ((p + 1) * 1))) ((b.drop (p + 1)).take m') := fun m' => by
              have := (hr.keep hbel).mid (p + 1) (p + 1 + m') c hc
              rwa [show p + 1 + m' - (p + 1) = m' by omega] at this
            have hsl := fun m' h W => cut_mid (some ⟨g, o, none⟩) b.length c (p + 1) m' h W
            obtain ⟨q, hq⟩ : ∃ q, q = p + 1 := ⟨_, rfl⟩
            rw [← hq] at hFF hSl hdd hhd hmid hsl
            generalize b.drop q = S at hFF hSl hdd hhd hmid
            generalize (if c = q then some (⟨g, o, none⟩ : Addr) else (some (⟨g, o, none⟩ : Addr)).map (·.add (q * 1))) = A' at hmid hsl
            have hyl := y.toNat_lt
            generalize y.toNat = m at hFF hcy hyl
            have p1 : (p : Int) < (b.length : Int) := by omega
            have p0 : (0 : Int) ≤ (p : Int) := by omega
            have mw : True → IntKind.i64.wrap (m : Int) = (m : Int) := fun _ => by rw [IntKind.wrap_i64]; omega
            clear hy hdp
            by_cases h8 : 8 < m
            · have m8 : (8 : Int) < (m : Int) := by omega
              rw [if_pos h8] at hFF
              have hF : F = (4, 0, 0, 0, []) := by rw [← hFF]; rfl
              subst hF
              go_wp2_with (refine wpList_store_row rfl 25 (.tmp 2) (.tmp 35) rfl w.heap.size rfl [.int .u64 0, .int .u64 0, .int .u64 0, .slice none 0 0] rfl _ _ hRp (by exact size_pay) rfl (one_four _ _ _ _ rfl rfl rfl rfl) ?_)
              refine bodyPost_ret (results_row_tmp (p := 2) (u := 3) (ty := 25) (by rfl) _ _ w.heap.size 25 _ _ (by rfl) (by exact hRp.setRow _) Tryz.underlying25 (by rfl) (by exact size_pay)) (by rfl) ?_
              exact ⟨none, 0, 0, rfl, Lib.hid rfl, Nat.le_refl _, Rd.nil, below_setRow hbel (Nat.le_refl _) _⟩
            · rw [if_neg h8] at hFF
              have m8 : ¬ (8 : Int) < (m : Int) := by omega
              by_cases hs : S.length < m
              · rw [if_pos hs] at hFF
                have ms : (b.length : Int) - ((p : Int) + 1) < (m : Int) := by omega
                have hF : F = (2, 0, 0, 0, []) := by rw [← hFF]; rfl
                subst hF
                go_wp2_with (refine wpList_store_row rfl 25 (.tmp 2) (.tmp 42) rfl w.heap.size rfl [.int .u64 0, .int .u64 0, .int .u64 0, .slice none 0 0] rfl _ _ hRp (by exact size_pay) rfl (one_four _ _ _ _ rfl rfl rfl rfl) ?_)
                refine bodyPost_ret (results_row_tmp (p := 2) (u := 3) (ty := 25) (by rfl) _ _ w.heap.size 25 _ _ (by rfl) (by exact hRp.setRow _) Tryz.underlying25 (by rfl) (by exact size_pay)) (by rfl) ?_
                exact ⟨none, 0, 0, rfl, Lib.hid rfl, Nat.le_refl _, Rd.nil, below_setRow hbel (Nat.le_refl _) _⟩
              · rw [if_neg hs] at hFF
                have ms : ¬ (b.length : Int) - ((p : Int) + 1) < (m : Int) := by omega
                have hpq : (p : Int) + 1 = (q : Int) := by omega
                have q0 : (0 : Int) ≤ (q : Int) := by omega
                by_cases hm0 : m = 0
                · have hz3 : ¬ (0 < m ∧ S.head? = some (0 : UInt8)) := fun h => by omega
                  rw [if_neg hz3] at hFF
                  have m0 : ¬ (0 : Int) < (m : Int) := by omega
                  have m00 : decide ((0 : Int) < (m : Int)) = false := decide_eq_false m0
                  have HM0 := Lib.hid hm0
                  clear hm0
                  rw [if_pos rfl] at hFF
                  have hLl : (S.take m).length = m := by rw [List.length_take]; omega
                  have HNX0 : Hid (contF (3 - (i + 1)) (N ++ [valN (S.take m)]) (b.drop (q + m)) = F) := by unfold Hid; rw [show 3 - (i + 1) = 2 - i by omega, ← hdd m]; exact hFF
                  obtain ⟨V, hV⟩ : ∃ V, valN (S.take m) = V := ⟨_, rfl⟩
                  have hV64 : V < 18446744073709551616 := by rw [← hV]; exact valN_lt8 _ (by omega)
                  have HNX : Hid (contF (3 - (i + 1)) (N ++ [V]) (b.drop (q + m)) = F) := by rw [← hV]; exact HNX0
                  have hrd := hmid m
                  generalize S.take m = L at hLl hV hrd
                  have HLL := Lib.hid hLl
                  have HV := Lib.hid hV
                  have s1 : (q : Int) + (m : Int) ≤ (c : Int) := by omega
                  have s2 : q + m ≤ c := by omega
                  have hsx := hsl m s2
                  have hsz := hbel.size
                  clear hFF HNX0 hV hLl hmid hdd hhd hs hsl
                  clear hq hz3
                  go_wp2_with fail
                  refine (value_at L m A' (c - q) _ HLL hrd (by omega)).mono ?_
                  rintro ee w7 ⟨rfl, rfl⟩
                  rw [HV.out]
                  go_wp2_with (at_builtin; refine wpList_append_own _ rfl _ _ 89 rfl (w.heap.size + 1) 22 i0 (.int .u64 0) 1 8 Tryz.underlying89 hi hz0 hz1 hz2 rfl (by decide) _ _ _ rfl (hown.alloc _) ⟨wr.heap.size, 0, none⟩ 1 1 [.int .u64 (V : Int)] rfl rfl (cell_one_new _ _ _) (by intro u hu; simp at hu; subst hu; rfl) (by unfold maxLen; omega) (by omega) (by simp; omega) ?_; intro v' w8 hown' hgrow' _)
                  have hB8 : Below w.heap.size w w8 := (hbel.alloc hbel.size _).grown hgrow' (by simp; omega) (fun k hk => by have := (hown.lt k hk).1; omega)
                  have hR8 : Row w8 w.heap.size 25 [.int .u64 0, .int .u64 0, .int .u64 0, .slice none 0 0] := (hRp.alloc (.cells #[.int .u64 (V : Int)] 22)).grown hgrow' (fun e => by have := (hown.lt _ e).1; omega)
                  have HREL : Hid (RdR b F w (.int .i64 ((q : Int) + (m : Int))) v' (.int .i64 ((i : Int) + 1)) w8) := ⟨i + 1, q + m, N ++ [V], by omega, by rw [List.length_append, hNl]; rfl, by omega, by go_num, by go_num, HNX, by rw [List.map_append]; exact hown', hR8, hB8⟩
                  clear hown' hgrow' hown hbel hB8 hRp hR8
                  go_wp2_with fail
                  go_roundw
                  case rel => exact HREL.out
                  case measure => simp [intOf] <;> omega
                · have hq1 : q < b.length := by omega
                  obtain ⟨z, hz⟩ : ∃ z, b[q] = z := ⟨_, rfl⟩
                  have hcz : wr.cell? ⟨g, o + q, none⟩ = some (.int .u8 (z.toNat : Int)) := by rw [← hz]; exact (hbel.cell (p := ⟨g, o + q, none⟩) hg).trans (HCL.out q hq1)
                  have m0 : (0 : Int) < (m : Int) := by omega
                  have m00 : decide ((0 : Int) < (m : Int)) = true := decide_eq_true m0
                  have q1 : (q : Int) < (b.length : Int) := by omega
                  rw [hhd z (by rw [List.getElem?_eq_getElem hq1, hz])] at hFF
                  by_cases hz0' : z = 0
                  · have hz2 : 0 < m ∧ some z = some (0 : UInt8) := ⟨by omega, by rw [hz0']⟩
                    rw [if_pos hz2] at hFF
                    have hcz0 : wr.cell? ⟨g, o + q, none⟩ = some (.int .u8 0) := by rw [hcz, hz0']; rfl
                    clear hcz hq
                    have hF : F = (3, 0, 0, 0, []) := by rw [← hFF]; rfl
                    subst hF
                    go_wp2_with (refine wpList_store_row rfl 25 (.tmp 2) (.tmp 52) rfl w.heap.size rfl [.int .u64 0, .int .u64 0, .int .u64 0, .slice none 0 0] rfl _ _ hRp (by exact size_pay) rfl (one_four _ _ _ _ rfl rfl rfl rfl) ?_)
                    refine bodyPost_ret (results_row_tmp (p := 2) (u := 3) (ty := 25) (by rfl) _ _ w.heap.size 25 _ _ (by rfl) (by exact hRp.setRow _) Tryz.underlying25 (by rfl) (by exact size_pay)) (by rfl) ?_
                    exact ⟨none, 0, 0, rfl, Lib.hid rfl, Nat.le_refl _, Rd.nil, below_setRow hbel (Nat.le_refl _) _⟩
                  · have hz3 : ¬ (0 < m ∧ some z = some (0 : UInt8)) := fun h => hz0' (Option.some.inj h.2)
                    rw [if_neg hz3] at hFF
                    have t0 : z.toNat ≠ 0 := fun e => hz0' (UInt8.toNat_inj.1 e)
                    generalize z.toNat = t at hcz t0
                    have t1 : ((t : Int) == 0) = false := beq_eq_false_iff_ne.2 (by omega)
                    rw [if_pos rfl] at hFF
                    have hLl : (S.take m).length = m := by rw [List.length_take]; omega
                    have HNX0 : Hid (contF (3 - (i + 1)) (N ++ [valN (S.take m)]) (b.drop (q + m)) = F) := by unfold Hid; rw [show 3 - (i + 1) = 2 - i by omega, ← hdd m]; exact hFF
                    obtain ⟨V, hV⟩ : ∃ V, valN (S.take m) = V := ⟨_, rfl⟩
                    have hV64 : V < 18446744073709551616 := by rw [← hV]; exact valN_lt8 _ (by omega)
                    have HNX : Hid (contF (3 - (i + 1)) (N ++ [V]) (b.drop (q + m)) = F) := by rw [← hV]; exact HNX0
                    have hrd := hmid m
                    generalize S.take m = L at hLl hV hrd
                    have HLL := Lib.hid hLl
                    have HV := Lib.hid hV
                    have s1 : (q : Int) + (m : Int) ≤ (c : Int) := by omega
                    have s2 : q + m ≤ c := by omega
                    have hsx := hsl m s2
                    have hsz := hbel.size
                    clear hFF HNX0 hV hLl hmid hdd hhd hs hsl
                    clear hq hz3 hz
                    go_wp2_with fail
                    refine (value_at L m A' (c - q) _ HLL hrd (by omega)).mono ?_
                    rintro ee w7 ⟨rfl, rfl⟩
                    rw [HV.out]
                    go_wp2_with (at_builtin; refine wpList_append_own _ rfl _ _ 89 rfl (w.heap.size + 1) 22 i0 (.int .u64 0) 1 8 Tryz.underlying89 hi hz0 hz1 hz2 rfl (by decide) _ _ _ rfl (hown.alloc _) ⟨wr.heap.size, 0, none⟩ 1 1 [.int .u64 (V : Int)] rfl rfl (cell_one_new _ _ _) (by intro u hu; simp at hu; subst hu; rfl) (by unfold maxLen; omega) (by omega) (by simp; omega) ?_; intro v' w8 hown' hgrow' _)
                    have hB8 : Below w.heap.size w w8 := (hbel.alloc hbel.size _).grown hgrow' (by simp; omega) (fun k hk => by have := (hown.lt k hk).1; omega)
                    have hR8 : Row w8 w.heap.size 25 [.int .u64 0, .int .u64 0, .int .u64 0, .slice none 0 0] := (hRp.alloc (.cells #[.int .u64 (V : Int)] 22)).grown hgrow' (fun e => by have := (hown.lt _ e).1; omega)
                    have HREL : Hid (RdR b F w (.int .i64 ((q : Int) + (m : Int))) v' (.int .i64 ((i : Int) + 1)) w8) := ⟨i + 1, q + m, N ++ [V], by omega, by rw [List.length_append, hNl]; rfl, by omega, by go_num, by go_num, HNX, by rw [List.map_append]; exact hown', hR8, hB8⟩
                    clear hown' hgrow' hown hbel hB8 hRp hR8
                    go_wp2_with fail
                    go_roundw
                    case rel => exact HREL.out
                    case measure => simp [intOf] <;> omega
          · have hdp : b.drop p = [] := List.drop_of_length_le (by omega)
            rw [hdp] at hFF
            have p1 : ¬ (p : Int) < (b.length : Int) := by omega
            have p2 : (b.length : Int) ≤ (p : Int) := by omega
            have hF : F = (2, 0, 0, 0, []) := by rw [← hFF]; rfl
            subst hF
            go_wp2_with (refine wpList_store_row rfl 25 (.tmp 2) (.tmp 25) rfl w.heap.size rfl [.int .u64 0, .int .u64 0, .int .u64 0, .slice none 0 0] rfl _ _ hRp (by exact size_pay) rfl (one_four _ _ _ _ rfl rfl rfl rfl) ?_)
            refine bodyPost_ret (results_row_tmp (p := 2) (u := 3) (ty := 25) (by rfl) _ _ w.heap.size 25 _ _ (by rfl) (by exact hRp.setRow _) Tryz.underlying25 (by rfl) (by exact size_pay)) (by rfl) ?_
            exact ⟨none, 0, 0, rfl, Lib.hid rfl, Nat.le_refl _, Rd.nil, below_setRow hbel (Nat.le_refl _) _⟩
        · have ei : i = 3 := by omega
          subst ei
          have i1 : ¬ (3 : Int) < 3 := by omega
          have hSl : (b.drop p).length = b.length - p := List.length_drop
          have hFF : readT (N.getD 0 0) (N.getD 1 0) (N.getD 2 0) (b.drop p) = F := HF.out
          unfold readT at hFF
          have p0 : (0 : Int) ≤ (p : Int) := by omega
          have pl : (p : Int) ≤ (b.length : Int) := by omega
          by_cases h8 : b.length - p < 8
          · rw [if_pos (by omega)] at hFF
            have m8 : (b.length : Int) - (p : Int) < 8 := by omega
            have hF : F = (2, 0, 0, 0, []) := hFF.symm
            subst hF
            go_wp2_with (refine wpList_store_row rfl 25 (.tmp 2) (.tmp 71) rfl w.heap.size rfl [.int .u64 0, .int .u64 0, .int .u64 0, .slice none 0 0] rfl _ _ hRp (by exact size_pay) rfl (one_four _ _ _ _ rfl rfl rfl rfl) ?_)
            refine bodyPost_ret (results_row_tmp (p := 2) (u := 3) (ty := 25) (by rfl) _ _ w.heap.size 25 _ _ (by rfl) (by exact hRp.setRow _) Tryz.underlying25 (by rfl) (by exact size_pay)) (by rfl) ?_
            exact ⟨none, 0, 0, rfl, Lib.hid rfl, Nat.le_refl _, Rd.nil, below_setRow hbel (Nat.le_refl _) _⟩
          · rw [if_neg (by omega)] at hFF
            have m8 : ¬ (b.length : Int) - (p : Int) < 8 := by omega
            by_cases h9 : 8 < b.length - p
            · rw [if_pos (by omega)] at hFF
              have m9 : (8 : Int) < (b.length : Int) - (p : Int) := by omega
              have hF : F = (4, 0, 0, 0, []) := hFF.symm
              subst hF
              go_wp2_with (refine wpList_store_row rfl 25 (.tmp 2) (.tmp 77) rfl w.heap.size rfl [.int .u64 0, .int .u64 0, .int .u64 0, .slice none 0 0] rfl _ _ hRp (by exact size_pay) rfl (one_four _ _ _ _ rfl rfl rfl rfl) ?_)
              refine bodyPost_ret (results_row_tmp (p := 2) (u := 3) (ty := 25) (by rfl) _ _ w.heap.size 25 _ _ (by rfl) (by exact hRp.setRow _) Tryz.underlying25 (by rfl) (by exact size_pay)) (by rfl) ?_
              exact ⟨none, 0, 0, rfl, Lib.hid rfl, Nat.le_refl _, Rd.nil, below_setRow hbel (Nat.le_refl _) _⟩
            · rw [if_neg (by omega)] at hFF
              have m9 : ¬ (8 : Int) < (b.length : Int) - (p : Int) := by omega
              obtain ⟨t, e, d, rfl⟩ : ∃ t e d, N = [t, e, d] := by
                match N, hNl with
                | [t, e, d], _ => exact ⟨t, e, d, rfl⟩
              have hFF' : (0, t, e, d, b.drop p) = F := hFF
              have hol := hown.lt
              obtain ⟨Al, cl, rfl, hcl, hrl⟩ := own_slice (l := [t, e, d]) hown
              obtain ⟨gl, ol, rfl, hgl, hcl'⟩ := hrl.at (show 0 < [t, e, d].length by simp)
              have hglb := (hol gl rfl).1
              have k0 : wr.cell? ⟨gl, ol, none⟩ = some (.int .u64 (t : Int)) := hcl' 0 (by simp)
              have k1 : wr.cell? ⟨gl, ol + 1, none⟩ = some (.int .u64 (e : Int)) := hcl' 1 (by simp)
              have k2 : wr.cell? ⟨gl, ol + 2, none⟩ = some (.int .u64 (d : Int)) := hcl' 2 (by simp)
              obtain ⟨A', hsl, hcut⟩ := cut_from (P := Tryz.prog) 23 5 Tryz.underlying23 size_uint8 (some ⟨g, o, none⟩) b.length c p (by omega) (by omega)
              have hrd := hcut vB wr b rfl (hr.keep hbel)
              have hb8 : b.length - p = 8 := by omega
              rw [hb8] at hsl
              generalize b.drop p = S at hrd hFF' hSl
              subst hFF'
              have HS8 : Hid (S.length = 8) := by unfold Hid; omega
              clear hcut hcl' hrl hown hol hFF HF hSl h8 h9 hcl HCL hr
              go_upto_region 26 with fail
              have hS : threeP gl ol (.int .u64 (t : Int)) (.int .u64 (e : Int)) (.int .u64 (d : Int)) wr.drew := ⟨k0, k1, k2⟩
              have hRp' := hRp.drew
              have hrd' := hrd.keep (Below.refl wr.heap.size wr).drew
              have hbel' := hbel.drew
              have hgl' : gl < wr.drew.heap.size := hgl
              have hRp0 : w.heap.size < wr.drew.heap.size := hRp.lt
              refine wp_region_plan_of (threeP gl ol (.int .u64 (t : Int)) (.int .u64 (e : Int)) (.int .u64 (d : Int))) (.step 0 false (.step 1 false (.step 2 false (.step 3 false (.step 4 false (.step 5 false (.step 6 false (.step 7 false (.step 8 false (.step 10 false (.step 11 false (.step 12 false (.step 9 true (.step 13 true (.step 14 false (.step 15 true (.step 16 false (.nil)))))))))))))))))) hS (by kernel_rfl) (by kernel_rfl) (by rfl) (by kernel_rfl) ?_
              clear hRp hrd hbel k0 k1 k2 hgl
              generalize wr.drew = wv at *
              iterate 12 (refine plan_read rfl (by rfl) (v := ?_) ?_ ?_; rotate_left 1; (intro W hW; (try dsimp only at hW); obtain ⟨hW0, hW1⟩ := hW; go_simp <;> with_reducible rfl); simp only [List.getElem_toArray, List.getElem_cons_zero, List.getElem_cons_succ, Act.put, List.setIfInBounds_toArray, List.set_cons_zero, List.set_cons_succ])
              refine plan_make_of rfl (by rfl) (fun K hK => ?_)
              go_simp
              have hbn := below_new (Below.refl wv.heap.size wv) (.cells #[] 5)
              refine hK.out _ _ ⟨(hbn.cell (p := ⟨gl, ol, none⟩) hgl').trans hS.1, (hbn.cell (p := ⟨gl, ol + 1, none⟩) hgl').trans hS.2.1, (hbn.cell (p := ⟨gl, ol + 2, none⟩) hgl').trans hS.2.2⟩ ?_
              clear hK K
              have hown0 : (wv.alloc (.cells #[] 5)).ownsRow wv.heap.size 5 1 (.slice (some ⟨wv.heap.size, 0, none⟩) 0 0) 0 [] := World.ownsRow_made wv #[] 0 (Nat.le_refl _) (by unfold maxLen; omega) rfl
              refine plan_make_of rfl (by rfl) (fun K hK => ?_)
              refine wp_append_rd _ (.tmp 87) (.tmp 90) 23 rfl wv.heap.size 5 i8 (.int .u8 0) 1 Tryz.underlying23 hi8 hy0 hy1 hy2 rfl _ _ _ rfl hown0 A' S (c - p) (by rw [HS8.out]; rfl) (hrd'.keep hbn) vB_one (by rw [HS8.out]; unfold maxLen; omega) (by rw [HS8.out]; omega) (by simp) ?_
              intro v7 w7 hown7 hgrow7
              have hb7 : Below wv.heap.size wv w7 := hbn.grown hgrow7 (by simp) (fun k hk => (hown0.lt k hk).1)
              have hS7 : threeP gl ol (.int .u64 (t : Int)) (.int .u64 (e : Int)) (.int .u64 (d : Int)) w7 := ⟨(hb7.cell (p := ⟨gl, ol, none⟩) hgl').trans hS.1, (hb7.cell (p := ⟨gl, ol + 1, none⟩) hgl').trans hS.2.1, (hb7.cell (p := ⟨gl, ol + 2, none⟩) hgl').trans hS.2.2⟩
              refine hK.out _ _ hS7 ?_
              clear hK K
              rw [Nat.zero_add, List.nil_append] at hown7
              obtain ⟨A7, c7, rfl, hc7, hr7⟩ := own_slice hown7
              rw [HS8.out] at hc7 ⊢
              have hA7 := hown7.lt
              have hR7 := hRp'.later hb7
              have hB7 := below_step hbel' hb7
              simp only [List.getElem_toArray, List.getElem_cons_zero, List.getElem_cons_succ, Act.put, List.setIfInBounds_toArray, List.set_cons_zero, List.set_cons_succ]
              clear hown0 hown7 hgrow7 hbn hrd' hRp' hbel'
              iterate 1 (refine plan_read rfl (by rfl) (v := ?_) ?_ ?_; rotate_left 1; (intro W hW; (try dsimp only at hW); obtain ⟨hW0, hW1⟩ := hW; go_simp <;> with_reducible rfl); simp only [List.getElem_toArray, List.getElem_cons_zero, List.getElem_cons_succ, Act.put, List.setIfInBounds_toArray, List.set_cons_zero, List.set_cons_succ])
              have hne : ∀ q : Nat, (⟨gl, q, none⟩ : Addr).block ≠ w.heap.size := fun q => by show gl ≠ w.heap.size; omega
              have hcs : ∀ (q : Nat) (cs : Array Value), (w7.setRow w.heap.size cs).cell? ⟨gl, q, none⟩ = w7.cell? ⟨gl, q, none⟩ := fun q cs => cell_setRow_other w7 w.heap.size cs ⟨gl, q, none⟩ (hne q)
              refine plan_make_of rfl (by rfl) (fun K hK => ?_)
              refine hR7.wp_store 25 (.tmp 2) (.tmp 92) rfl rfl [.int .u64 (t : Int), .int .u64 (e : Int), .int .u64 (d : Int), .slice A7 8 c7] rfl (by exact size_pay) rfl (one_four _ _ _ _ rfl rfl rfl rfl) ?_
              refine hK.out _ _ ⟨(hcs ol _).trans hS7.1, (hcs (ol + 1) _).trans hS7.2.1, (hcs (ol + 2) _).trans hS7.2.2⟩ ?_
              clear hK K hcs hne
              simp only [List.getElem_toArray, List.getElem_cons_zero, List.getElem_cons_succ, Act.put, List.setIfInBounds_toArray, List.set_cons_zero, List.set_cons_succ]
              iterate 1 (refine plan_read rfl (by rfl) (v := ?_) ?_ ?_; rotate_left 1; (intro W hW; (try dsimp only at hW); obtain ⟨hW0, hW1⟩ := hW; go_simp <;> with_reducible rfl); simp only [List.getElem_toArray, List.getElem_cons_zero, List.getElem_cons_succ, Act.put, List.setIfInBounds_toArray, List.set_cons_zero, List.set_cons_succ])
              refine plan_done ?_
              clear hS hS7
              go_wp2_with fail
              refine bodyPost_ret (results_row_tmp (p := 2) (u := 3) (ty := 25) (by rfl) _ _ w.heap.size 25 _ _ (by rfl) (by exact hR7.setRow _) Tryz.underlying25 (by rfl) (by exact size_pay)) (by rfl) ?_
              have hbl7 : w.heap.size < wv.heap.size := hRp0
              exact ⟨A7, 8, c7, rfl, HS8, hc7, hr7.setRow _ (fun a ha => by have := (hA7 a.block (by rw [ha]; rfl)).1; omega), below_setRow hB7 (Nat.le_refl _) _⟩
    · have hF3 : F = (3, 0, 0, 0, []) := by rw [hrF, if_pos h87]
      have hx2 : x.toNat ≠ 87 := fun e => h87 (UInt8.toNat_inj.1 e)
      have hx3 : ((x.toNat : Int) == 87) = false := beq_eq_false_iff_ne.2 (by omega)
      have hx4 : ((x.toNat : Int) != 87) = true := by rw [bne, hx3]; rfl
      generalize x.toNat = xn at hx0 hx2 hx3 hx4
      clear hrF hdr hcell h87
      have hF : F = (3, 0, 0, 0, []) := hF3
      subst hF
      go_wp2_with (refine wpList_store_row rfl 25 (.tmp 2) (.tmp 16) rfl w.heap.size rfl [.int .u64 0, .int .u64 0, .int .u64 0, .slice none 0 0] rfl _ _ hR0 (by exact size_pay) rfl (one_four _ _ _ _ rfl rfl rfl rfl) ?_)
      refine bodyPost_ret (results_row_tmp (p := 2) (u := 3) (ty := 25) (by rfl) _ _ w.heap.size 25 _ _ (by rfl) (by exact hR0.setRow _) Tryz.underlying25 (by rfl) (by exact size_pay)) (by rfl) ?_
      exact ⟨none, 0, 0, rfl, Lib.hid rfl, Nat.le_refl _, Rd.nil, below_setRow hB0 (Nat.le_refl _) _⟩
end Go.Proofs.YtcnjackbiimjdaaGreatDoor
