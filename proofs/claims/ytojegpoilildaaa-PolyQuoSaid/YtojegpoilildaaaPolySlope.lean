/-
  What the reference's calls Slope and Quo of layer 8 answer. No conditions but those typed.
-/
import Derived.Test.YtojegpoilildaaaPolyMul
namespace Go.Proofs.Ytojegpoilildaaa
set_option maxRecDepth 100000
open Go.RowKit
set_option linter.unusedSimpArgs false
set_option linter.unusedVariables false

def addN (x : UInt8) : Nat → UInt8
  | 0 => 0
  | n + 1 => xorB (addN x n) x
theorem addN_parity (x : UInt8) : ∀ n, addN x n = if n % 2 = 0 then 0 else x
  | 0 => rfl
  | n + 1 => by
    rw [addN, addN_parity x n]
    by_cases h : n % 2 = 0
    · rw [if_pos h, if_neg (by omega)]
      exact UInt8.zero_xor
    · rw [if_neg h, if_pos (by omega)]
      exact UInt8.xor_self
theorem slope_addN (p : List UInt8) (k : Nat) : co (slopeL p) k = addN (co p (k + 1)) (k + 1) := by
  rw [co_slope, addN_parity]
  by_cases h : k % 2 = 0
  · rw [if_pos h, if_neg (by omega)]
  · rw [if_neg h, if_pos (by omega)]
theorem slope_length (p : List UInt8) (k : Nat) (h : p.length ≤ k + 1) : co (slopeL p) k = 0 := by
  rw [co_slope, co_ge p (k + 1) h]
  split <;> rfl
theorem slope_tab (p : List UInt8) : plainL (tabL (co (slopeL p)) (p.length - 1)) = plainL (slopeL p) := plain_congr fun k => by
  rw [co_tab]
  split
  · rfl
  · rw [slope_length p k (by omega)]

set_option maxHeartbeats 2000000 in
theorem refslope_any (p : List UInt8) (n : Nat) (A : Option Addr) (c : Nat) (w : World) (HN : Hid (p.length = n)) (hp : Rd vB w A p) (hn : n ≤ 100000) :
    Calls Try.prog 19 #[.slice A n c] w (RetQ w (plainL (slopeL p))) := by
  obtain ⟨i0, hi, hz0, hz1, hz2⟩ := info_parts info_u8
  have HF : Hid (∀ k, co (slopeL p) k = addN (co p (k + 1)) (k + 1)) := slope_addN p
  have HL : Hid (plainL (tabL (co (slopeL p)) (n - 1)) = plainL (slopeL p)) := by unfold Hid; rw [← HN.out]; exact slope_tab p
  generalize slopeL p = R at HF HL ⊢
  go_enter Try.func19, Try.ntmps19
  go_wp2_with fail
  go_loopw [3, 4] (fun v i wr => TabRel (co R) 1 (n - 1) w v i wr) (fun _ i _ => n - (intOf i).toNat)
  case atStart => exact ⟨0, Nat.zero_le _, rfl, World.ownsRow_nil _ _ _ _, Below.refl _ _⟩
  case round =>
    obtain ⟨k, hk, rfl, hown1, hbel1⟩ := hrel
    have hle := hbel1.size
    have hcast : ((k + 1 : Nat) : Int) = (k : Int) + 1 := by omega
    rw [hcast]
    by_cases h : k < n - 1
    · have HX := Lib.hid (HF.out k)
      have j1 : (k : Int) + 1 < (n : Int) := by omega
      have hk0 : (0 : Int) ≤ (k : Int) + 1 := by omega
      have hip : k + 1 < p.length := by rw [HN.out]; omega
      obtain ⟨b, o, rfl, hb, hcell⟩ := hp.at hip
      have hco := co_lt p (k + 1) hip
      have hc0 : ∀ W, Below w.heap.size w W → W.cell? ⟨b, o + (k + 1), none⟩ = some (.int .u8 (p[k + 1].toNat : Int)) := fun W hW => (hW.cell (p := ⟨b, o + (k + 1), none⟩) hb).trans (hcell (k + 1) hip)
      obtain ⟨y, hy⟩ : ∃ y, p[k + 1] = y := ⟨_, rfl⟩
      rw [hy] at hc0 hco
      rw [hco] at HX
      clear hy hco hcell
      go_wp2_with fail
      go_loopw [5, 6] (fun v i wx => InRel (addN y) (k + 1) wr v i wx) (fun _ i _ => k + 1 - (intOf i).toNat)
      case atStart => exact ⟨0, Nat.zero_le _, rfl, rfl, Below.refl _ _⟩
      case round =>
        obtain ⟨i, hik, rfl, rfl, hB⟩ := hrel
        have hbw := below_step hbel1 hB
        have i0' : (0 : Int) ≤ (i : Int) := by omega
        by_cases hlt : i < k + 1
        · have g1 : (i : Int) < (k : Int) + 1 := by omega
          have hc1 := hc0 _ hbw
          have hxr := u8_xor_b (addN y i) y
          have HS : Hid (addN y (i + 1) = xorB (addN y i) y) := rfl
          generalize addN y i = V at HS hxr ⊢
          generalize xorB V y = X at HS hxr
          have HR : Hid (InRel (addN y) (k + 1) _ (.int .u8 (X.toNat : Int)) (.int .i64 ((i : Int) + 1)) wr) := ⟨i + 1, hlt, by go_num, by rw [HS.out], hB⟩
          have hkk : (0 : Int) ≤ (k : Int) := by omega
          clear hown1 hbel1 HX hB hbw hlt HS hc0
          go_wp2_with fail
          go_roundw
          case rel => exact HR.out
          case measure => simp [intOf]; omega
        · have hie : i = k + 1 := by omega
          subst hie
          obtain ⟨X, hX⟩ : ∃ X, addN y (k + 1) = X := ⟨_, rfl⟩
          rw [hX] at HX ⊢
          have hown2 := ownsRow_later hown1 hB
          have hle2 := hbw.size
          have g1' : ¬ (((k + 1 : Nat) : Int)) < (k : Int) + 1 := by omega
          have h2 : (k : Int) + 1 + 1 = ((k + 1 + 1 : Nat) : Int) := by omega
          have H2 := Lib.hid h2
          clear hX hown1 hc0 hik h2
          go_wp2_with (at_builtin; refine wpList_append_own _ rfl _ _ 22 rfl w.heap.size 5 i0 (.int .u8 0) 1 1 Try.underlying22 hi hz0 hz1 hz2 rfl (by decide) _ _ _ rfl (hown2.alloc _) ⟨wr.heap.size, 0, none⟩ 1 1 [.int .u8 (X.toNat : Int)] rfl rfl (cell_one_new _ _ _) (by intro u hu; simp at hu; subst hu; rfl) (by unfold maxLen; omega) (by omega) (by simp; omega) ?_; intro v' w1 hown' hgrow' _)
          go_roundw
          case rel => have := tab_round (lo := 1) h hown2 hbw HX.out hgrow' hown'; exact this
          case measure => simp [intOf]; omega
    · have j1 : ¬ (k : Int) + 1 < (n : Int) := by omega
      obtain ⟨l, hl⟩ : ∃ l, l = tabL (co R) k := ⟨_, rfl⟩
      have HLen : Hid (l.length = k) := by unfold Hid; rw [hl]; exact tab_length _ _
      have hkm : k = n - 1 := by omega
      have HPl : Hid (plainL l = plainL R) := by unfold Hid; rw [hl, hkm]; exact HL.out
      rw [← hl] at hown1
      have hk2 : k ≤ 200000 := by omega
      clear hkm
      have hown2 := hown1
      rw [← HLen.out] at hown2
      obtain ⟨A1, c1, hv1, hc1, hr1⟩ := own_slice hown2
      rw [HLen.out] at hc1 hv1
      subst hv1
      clear hown1 hown2 hl
      go_wp2_with fail
      refine (refplain_any l k A1 c1 _ HLen hr1 hc1 (by omega)).mono ?_
      rintro e w1 ⟨A2, n2, c2, rfl, HN2, hc2, hr2, hb2⟩
      rw [HPl.out] at HN2 hr2
      go_wp2_with fail
      go_ret
      exact ⟨A2, n2, c2, rfl, HN2, hc2, hr2, below_step hbel1 hb2⟩
end Go.Proofs.Ytojegpoilildaaa
