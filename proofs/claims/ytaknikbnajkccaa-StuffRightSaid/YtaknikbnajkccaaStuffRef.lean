/-
  What the reference's calls Bits and value of layer 11 answer. No conditions but those typed.
-/
import Derived.Test.YtaknikbnajkccaaStuffMath
import Derived.Test.YtaknikbnajkccaaOwn
import Derived.Test.YtaknikbnajkccaaWordWords
import Derived.WalkKit
import Derived.WalkSpells
import Derived.LoopTactic
import Derived.Lib.Hide
namespace Go.Proofs.Ytaknikbnajkccaa
set_option maxRecDepth 100000
open Go.RowKit
set_option linter.unusedSimpArgs false
set_option linter.unusedVariables false

/-- A call that hands back a list of bytes. -/
def RetY (w : World) (l : List UInt8) (e : Ending) (w' : World) : Prop := ∃ A n c, e = .returned (.slice A n c) ∧ Hid (l.length = n) ∧ n ≤ c ∧ Rd vB w' A l ∧ Below w.heap.size w w'
theorem RetY.own {w w' : World} {l : List UInt8} {base : Nat} {e : TypeId} {v : Value} {n : Nat} (hn : l.length = n) (h : w'.ownsRow base e 1 v n (l.map vB)) (hb : Below w.heap.size w w') : RetY w l (.returned v) w' := by
  subst hn
  obtain ⟨A, c, rfl, hc, hr⟩ := own_slice h
  exact ⟨A, l.length, c, rfl, rfl, hc, hr, hb⟩
def oneL (l : List Bool) : List UInt8 := l.map oneB
theorem one_append (a b : List Bool) : oneL (a ++ b) = oneL a ++ oneL b := List.map_append
theorem one_length (a : List Bool) : (oneL a).length = a.length := List.length_map _

/-! ### Bits -/
theorem bit_table : ∀ j, j < 8 → ∀ c, c < 256 → c / (128 / 2 ^ j) % 2 = (oneB ((bits8 (UInt8.ofNat c)).getD j false)).toNat := by decide +kernel
theorem bit_div (c : UInt8) (j : Nat) (hj : j < 8) : c.toNat / (128 / 2 ^ j) % 2 = (oneB ((bits8 c).getD j false)).toNat := by
  have := bit_table j hj c.toNat c.toNat_lt
  rwa [UInt8.ofNat_toNat] at this
theorem bits_take (c : UInt8) (j : Nat) (hj : j < 8) : (bits8 c).take (j + 1) = (bits8 c).take j ++ [(bits8 c).getD j false] := by
  have hl : j < (bits8 c).length := hj
  rw [List.take_succ_eq_append_getElem hl]
  congr 2
  rw [List.getD_eq_getElem?_getD, List.getElem?_eq_getElem hl]
  rfl
theorem bits_snoc (b : List UInt8) (k : Nat) (h : k < b.length) : bitsL (b.take (k + 1)) = bitsL (b.take k) ++ bits8 b[k] := by
  unfold bitsL
  rw [List.take_succ_eq_append_getElem h, List.flatMap_append]
  simp
def BitR (b : List UInt8) (w : World) (v i : Value) (wr : World) : Prop :=
  ∃ k : Nat, k ≤ b.length ∧ i = .int .i64 (k : Int) ∧ wr.ownsRow w.heap.size 5 1 v (8 * k) ((oneL (bitsL (b.take k))).map vB) ∧ Below w.heap.size w wr
def BitI (P : List Bool) (c : UInt8) (q : Nat) (w : World) (v n : Value) (wr : World) : Prop :=
  ∃ j : Nat, j ≤ 8 ∧ n = .int .i64 ((128 / 2 ^ j : Nat) : Int) ∧ wr.ownsRow w.heap.size 5 1 v (q + j) ((oneL (P ++ (bits8 c).take j)).map vB) ∧ Below w.heap.size w wr
theorem half_table : ∀ j, j < 8 → 128 / 2 ^ j / 2 = 128 / 2 ^ (j + 1) ∧ 0 < 128 / 2 ^ j ∧ 128 / 2 ^ j ≤ 128 := by decide +kernel

set_option maxHeartbeats 2000000 in
theorem refbits_any (b : List UInt8) (n : Nat) (A : Option Addr) (c : Nat) (w : World) (HN : Hid (b.length = n)) (hr : Rd vB w A b) (hn : n ≤ 1000000) :
    Calls Try.prog 12 #[.slice A n c] w (RetY w (oneL (bitsL b))) := by
  obtain ⟨i0, hi, hz0, hz1, hz2⟩ := info_parts info_u8
  have e1 := HN.out
  subst e1
  go_enter Try.func12, Try.ntmps12
  go_wp2_with fail
  go_loopw [3, 4] (fun v i wr => BitR b w v i wr) (fun _ i _ => b.length - (intOf i).toNat)
  case atStart => exact ⟨0, Nat.zero_le _, rfl, World.ownsRow_nil _ _ _ _, Below.refl _ _⟩
  case round =>
    obtain ⟨k, hk, rfl, hown, hbel⟩ := hrel
    by_cases h : k < b.length
    · obtain ⟨g, o, rfl, hg, hcell⟩ := hr.at h
      have hc0 : ∀ W, Below w.heap.size w W → W.cell? ⟨g, o + k, none⟩ = some (.int .u8 (b[k].toNat : Int)) := fun W hW => (hW.cell (p := ⟨g, o + k, none⟩) hg).trans (hcell k h)
      have HC0 := Lib.hid hc0
      have HSN := Lib.hid (bits_snoc b k h)
      generalize b[k] = y at HC0 HSN
      have k1 : (k : Int) < (b.length : Int) := by omega
      have k0 : (0 : Int) ≤ (k : Int) := by omega
      generalize hP : bitsL (b.take k) = P at HSN hown
      have HP := Lib.hid hP
      clear hcell hc0 hP
      go_wp2_with fail
      go_loopw [3, 5] (fun v n wx => BitI P y (8 * k) w v n wx) (fun _ n _ => (intOf n).toNat)
      case atStart => exact ⟨0, by omega, rfl, by rw [List.take_zero, List.append_nil]; exact hown, hbel⟩
      case round =>
        clear hown hbel
        obtain ⟨j, hj, rfl, hown, hbel⟩ := hrel
        by_cases hj8 : j < 8
        · obtain ⟨t1, t2, t3⟩ := half_table j hj8
          have hbd := bit_div y j hj8
          have HBT := Lib.hid (bits_take y j hj8)
          have hyl := y.toNat_lt
          have hc1 := HC0.out wr hbel
          have HT1 := Lib.hid t1
          clear t1
          generalize 128 / 2 ^ j = m at t2 t3 hbd HT1 ⊢
          generalize (bits8 y).getD j false = x at hbd HBT
          have ho : (oneB x).toNat < 2 := by cases x <;> decide
          obtain ⟨ox, hox⟩ : ∃ ox, oneB x = ox := ⟨_, rfl⟩
          have HOX := Lib.hid hox
          rw [hox] at hbd ho
          clear hox
          obtain ⟨r, hr⟩ : ∃ r, ox.toNat = r := ⟨_, rfl⟩
          have HRX := Lib.hid hr
          rw [hr] at hbd ho
          clear hr
          have m0 : (0 : Int) < (m : Int) := by omega
          have m3 : ((m : Int) == 0) = false := beq_eq_false_iff_ne.2 (by omega)
          have m4 : IntKind.i64.wrap (y.toNat : Int) = (y.toNat : Int) := by rw [IntKind.wrap_i64]; omega
          have m5 : IntKind.u8.wrap (r : Int) = (r : Int) := by rw [IntKind.wrap_u8']; omega
          have m7 : (r : Int) % 256 = (r : Int) := by omega
          have hle := hbel.size
          obtain ⟨z, hz⟩ : ∃ z, z = y.toNat / m := ⟨_, rfl⟩
          rw [← hz] at hbd
          have hzl : z ≤ 255 := by have := Nat.div_le_self y.toNat m; omega
          have md : True → (y.toNat : Int) / (m : Int) = (z : Int) := fun _ => by rw [hz, Int.natCast_ediv]
          have m1 : True → (z : Int) % 2 = (r : Int) := fun _ => by rw [← hbd]; rfl
          have m2 : True → (z : Int).tmod 2 = (r : Int) := fun _ => (Int.tmod_eq_emod_of_nonneg (Int.natCast_nonneg z)).trans (m1 trivial)
          clear hbd hz
          go_wp2_with (at_builtin; refine wpList_append_own _ rfl _ _ 22 rfl w.heap.size 5 i0 (.int .u8 0) 1 1 Try.underlying22 hi hz0 hz1 hz2 rfl (by decide) _ _ _ rfl (hown.alloc _) ⟨wr.heap.size, 0, none⟩ 1 1 [.int .u8 (r : Int)] rfl rfl (cell_one_new _ _ _) (by intro u hu; simp at hu; subst hu; rfl) (by unfold maxLen; omega) (by omega) (by simp; omega) ?_; intro v' w1 hown' hgrow' _)
          have hB1 : Below w.heap.size w w1 := (hbel.alloc hbel.size _).grown hgrow' (by simp; omega) (fun g hk => (hown.lt g hk).1)
          have hon : w1.ownsRow w.heap.size 5 1 v' (8 * k + (j + 1)) ((oneL (P ++ (bits8 y).take (j + 1))).map vB) := by
            rw [HBT.out, ← List.append_assoc, one_append, List.map_append]
            have e : (oneL [x]).map vB = [.int .u8 (r : Int)] := by rw [← HRX.out, ← HOX.out]; rfl
            rw [e]
            exact hown'
          have HR : Hid (BitI P y (8 * k) w v' (.int .i64 ((m / 2 : Nat) : Int)) w1) := ⟨j + 1, by omega, by rw [HT1.out], hon, hB1⟩
          obtain ⟨hf, hhf⟩ : ∃ hf, hf = m / 2 := ⟨_, rfl⟩
          rw [← hhf] at HR
          clear hown' hgrow' hown hbel hB1 hon md m1 m2 m5 m7 m3 m4
          have d1 : (m : Int).tdiv 2 = (hf : Int) := by rw [Int.tdiv_eq_ediv_of_nonneg (by omega)]; omega
          have d2 : IntKind.i64.wrap (hf : Int) = (hf : Int) := by rw [IntKind.wrap_i64]; omega
          have d3 : (m : Int) / 2 = (hf : Int) := by omega
          have d4 : hf < m := by omega
          clear hhf
          go_wp2_with fail
          go_roundw
          case rel => rw [d3]; exact HR.out
          case measure => simp [intOf] <;> omega
        · have ej : j = 8 := by omega
          subst ej
          have e0 : ((128 / 2 ^ 8 : Nat) : Int) = 0 := by decide
          rw [e0]
          have HR : Hid (BitR b w u3 (.int .i64 ((k : Int) + 1)) wr) := ⟨k + 1, h, by go_num, by rw [HSN.out]; exact hown, hbel⟩
          clear hown hbel
          go_wp2_with fail
          go_roundw
          case rel => exact HR.out
          case measure => simp [intOf] <;> omega
    · have ek : k = b.length := by omega
      subst ek
      have k1 : ¬ (b.length : Int) < (b.length : Int) := by omega
      rw [List.take_length] at hown
      go_wp2_with fail
      go_ret
      exact RetY.own (by rw [one_length, bits_length]) hown hbel
end Go.Proofs.Ytaknikbnajkccaa
