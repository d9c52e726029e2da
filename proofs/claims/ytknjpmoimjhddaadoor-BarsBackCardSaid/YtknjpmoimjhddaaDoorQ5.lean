/-
  What the program's calls of layer 4 answer: Code, Digits, Unlike (and its unlike), Same. No conditions but those typed.
-/
import Derived.Test.YtknjpmoimjhddaaDoorQ4
import Derived.Deep.QuietTactic
import Derived.Handy
namespace Go.Proofs.YtknjpmoimjhddaaDoor
set_option maxRecDepth 100000
open Go.RowKit
set_option linter.unusedSimpArgs false
set_option linter.unusedVariables false

theorem wordsL_four (M : List UInt8) (h : M.length = 4) : wordsL M = [UInt32.ofNat (valN M)] := by
  match M, h with
  | [a, b, c, d], _ => rfl
theorem words_four (M : List UInt8) (A : Option Addr) (cap : Nat) (w : World) (v : Nat) (HM : Hid (M.length = 4)) (HV : Hid (valN M = v)) (hr : Rd vB w A M) (hc : 4 ≤ cap) :
    Calls Tryd.prog 136 #[.slice A 4 cap] w fun e w' => ∃ b o c, e = .returned (.slice (some ⟨b, o, none⟩) 1 c) ∧ w'.cell? ⟨b, o, none⟩ = some (.int .u32 (v : Int)) ∧ Below w.heap.size w w' := by
  have e := HM.out
  have h := words_any M A cap w hr (by omega) (by omega)
  rw [e] at h
  refine h.mono ?_
  rintro e' w' ⟨A', c, rfl, _, hr', hb⟩
  rw [wordsL_four M e] at hr' ⊢
  obtain ⟨b, o, rfl, _, hcell⟩ := hr'.at (k := 0) (by simp)
  refine ⟨b, o, c, rfl, ?_, hb⟩
  have := hcell 0 (by simp)
  rw [Nat.add_zero] at this
  rw [this]
  have hv := valN_lt M
  rw [e, HV.out] at hv
  simp only [List.getElem_cons_zero, vW, HV.out, UInt32.toNat_ofNat']
  rw [Nat.mod_eq_of_lt (by omega)]

/-! ### Digits -/
def DRel (code n : Nat) (w : World) (c i : Value) (wr : World) : Prop :=
  ∃ (q k : Nat) (j : Int) (X : List Value), q + k = n ∧ j + 1 = (q : Int) ∧ X.length = q ∧ i = .int .i64 j ∧ c = .int .u32 ((code / 10 ^ k : Nat) : Int) ∧ Row wr w.heap.size 5 (X ++ (digL code k).map vB) ∧ Below w.heap.size w wr

theorem make_bytes (n : Nat) (hn : n ≤ 1000000) : ∃ X : List Value, X.length = n ∧ ∀ w, (Instr.makeSlice 25 (.int .i64 (n : Int)) (.int .i64 (n : Int))).run Tryd.prog w = .ok (.slice (some ⟨w.heap.size, 0, none⟩) n n) (w.alloc (.cells X.toArray 5)) := by
  obtain ⟨i0, hi, hz0, hz1, hz2⟩ := info_parts info_u8
  refine ⟨(madeCells (Value.int .u8 0).cells (n * i0.size)).toList, ?_, fun w => ?_⟩
  · rw [hz1, Nat.mul_one, Array.length_toList, size_madeCells]
  · have := run_makeSlice (P := Tryd.prog) (w := w) 25 5 i0 (.int .u8 0) Tryd.underlying25 hi hz0 .i64 .i64 (n : Int) (n : Int) (by omega) (Int.le_refl _) (by rw [hz1]; omega) (by rw [hz2]; omega) (by omega)
    simpa using this

/-! ### Unlike -/
theorem unlike_one (x y : UInt8) (w : World) :
    Calls Tryd.prog 126 #[.int .u8 (x.toNat : Int), .int .u8 (y.toNat : Int)] w fun e w' => e = .returned (.int .i64 ((if x = y then 0 else 1 : Nat) : Int)) ∧ w = w' := by
  have hx := u8_xor_b x y
  have hz : (((xorB x y).toNat : Int) + 255) / 256 = ((if x = y then 0 else 1 : Nat) : Int) := by
    have h8 : (xorB x y).toNat < 256 := (xorB x y).toNat_lt
    by_cases h : x = y
    · subst h
      rw [if_pos rfl]
      have : xorB x x = 0 := UInt8.xor_self
      rw [this]
      rfl
    · rw [if_neg h]
      have : (xorB x y).toNat ≠ 0 := fun e => h (by
        have e0 : x ^^^ y = 0 := UInt8.toNat_inj.1 e
        exact UInt8.xor_eq_zero_iff.1 e0)
      omega
  have h8 : (xorB x y).toNat < 256 := (xorB x y).toNat_lt
  generalize (if x = y then 0 else 1 : Nat) = d at hz ⊢
  generalize xorB x y = t at hx hz h8
  go_enter Tryd.func126, Tryd.ntmps126
  go_wp2_with fail
  go_ret
  exact ⟨rfl, rfl⟩

def URel (a b : List UInt8) (w : World) (n i : Value) (wr : World) : Prop :=
  ∃ k : Nat, k ≤ a.length ∧ i = .int .i64 (k : Int) ∧ n = .int .i64 (((b.length - a.length) + unlikeL (a.take k) (b.take k) : Nat) : Int) ∧ Below w.heap.size w wr
theorem unlike_more : ∀ a b : List UInt8, a.length ≤ b.length → unlikeL a b = (b.length - a.length) + unlikeL a (b.take a.length)
  | [], b, _ => by simp [unlikeL]
  | x :: a, [], h => by simp at h
  | x :: a, y :: b, h => by
    have ih := unlike_more a b (by simpa using h)
    rw [List.length_cons, List.length_cons, List.take_succ_cons, unlikeL, unlikeL, ih]
    omega

set_option maxHeartbeats 1000000 in
theorem unlike_up (a b : List UInt8) (A B : Option Addr) (c d : Nat) (w : World) (ha : Rd vB w A a) (hb : Rd vB w B b) (hle : a.length ≤ b.length) (hbl : b.length ≤ 1000000000) :
    Calls Tryd.prog 122 #[.slice A a.length c, .slice B b.length d] w fun e w' => e = .returned (.int .i64 (unlikeL a b : Int)) ∧ Below w.heap.size w w' := by
  have g0 : ¬ b.length < a.length := by omega
  have s0 : (b.length : Int) - (a.length : Int) = ((b.length - a.length : Nat) : Int) := by omega
  have HM := Lib.hid (unlike_more a b (by omega))
  have s1 : b.length - a.length ≤ 1000000000 := by omega
  go_enter Tryd.func122, Tryd.ntmps122
  go_wp2_with fail
  clear s0
  go_loopw [5, 21] (fun n i wr => URel a b w n i wr) (fun _ i _ => a.length - (intOf i).toNat)
  case atStart => exact ⟨0, Nat.zero_le _, rfl, by simp [unlikeL], Below.refl _ _⟩
  case round =>
    obtain ⟨k, hk, rfl, rfl, hB⟩ := hrel
    have hu := unlike_le (a.take k) (b.take k)
    rw [List.length_take, List.length_take] at hu
    by_cases h1 : k < a.length
    · have h2 : k < b.length := by omega
      have HT := Lib.hid (unlike_take a b k (.inl h1))
      obtain ⟨bl1, o1, rfl, hb1, hcell1⟩ := ha.at h1
      obtain ⟨bl2, o2, rfl, hb2, hcell2⟩ := hb.at h2
      have hc1 : wr.cell? ⟨bl1, o1 + k, none⟩ = some (.int .u8 (a[k].toNat : Int)) := (hB.cell (p := ⟨bl1, o1 + k, none⟩) hb1).trans (hcell1 k h1)
      have hc2 : wr.cell? ⟨bl2, o2 + k, none⟩ = some (.int .u8 (b[k].toNat : Int)) := (hB.cell (p := ⟨bl2, o2 + k, none⟩) hb2).trans (hcell2 k h2)
      have HT' : Hid (unlikeL (a.take (k + 1)) (b.take (k + 1)) = unlikeL (a.take k) (b.take k) + if a[k] = b[k] then 0 else 1) := by
        unfold Hid
        rw [HT.out, List.getElem?_eq_getElem h1, List.getElem?_eq_getElem h2]
        simp
      generalize a[k] = x at hc1 HT'
      generalize b[k] = y at hc2 HT'
      obtain ⟨t, ht⟩ : ∃ t : Nat, t = if x = y then 0 else 1 := ⟨_, rfl⟩
      have ht1 : t ≤ 1 := by rw [ht]; split <;> omega
      have HU : ∀ w, Calls Tryd.prog 126 #[.int .u8 (x.toNat : Int), .int .u8 (y.toNat : Int)] w fun e w' => e = .returned (.int .i64 (t : Int)) ∧ w' = w := fun w => by rw [ht]; exact (unlike_one x y w).mono fun _ _ h => ⟨h.1, h.2.symm⟩
      rw [← ht] at HT'
      have HR : Hid (∀ W, Below wr.heap.size wr W → URel a b w (.int .i64 ((((b.length - a.length) + unlikeL (a.take k) (b.take k) : Nat) : Int) + (t : Int))) (.int .i64 ((k : Int) + 1)) W) := fun W hW => ⟨k + 1, by omega, by go_num, by rw [HT'.out]; congr 1; omega, below_step hB hW⟩
      have i0 : (0 : Int) ≤ (k : Int) := by omega
      have j1 : (k : Int) < (a.length : Int) := by omega
      have j2 : (k : Int) < (b.length : Int) := by omega
      have hs : (b.length - a.length) + unlikeL (a.take k) (b.take k) ≤ 2000000000 := by omega
      generalize (b.length - a.length) + unlikeL (a.take k) (b.take k) = s at HR hs ⊢
      have hw1 : IntKind.i64.wrap ((s : Int) + (t : Int)) = (s : Int) + (t : Int) := by rw [IntKind.wrap_i64]; omega
      clear hcell1 hcell2 HT HT' ha hb hk hB ht hu HM
      go_wp2_with fail
      go_quiet (first | (go_at_call 126; refine Calls.quiet_of_same (HU _)))
      go_wp2_with fail
      go_roundw
      case rel => exact HR.out _ (below_drewN (Below.refl _ _) _)
      case measure => simp [intOf]; omega
    · have e : k = a.length := by omega
      have HE : Hid ((b.length - a.length) + unlikeL (a.take k) (b.take k) = unlikeL a b) := by unfold Hid; rw [HM.out, e, List.take_of_length_le (Nat.le_refl _)]
      have j1 : ¬ (k : Int) < (a.length : Int) := by omega
      rw [HE.out]
      clear HE hu HM hk e
      go_wp2_with fail
      go_ret
      exact ⟨rfl, hB⟩
set_option maxHeartbeats 1000000 in
theorem unlike_down (a b : List UInt8) (A B : Option Addr) (c d : Nat) (w : World) (ha : Rd vB w A a) (hb : Rd vB w B b) (hle : a.length < b.length) (hbl : b.length ≤ 1000000000) :
    Calls Tryd.prog 122 #[.slice B b.length d, .slice A a.length c] w fun e w' => e = .returned (.int .i64 (unlikeL a b : Int)) ∧ Below w.heap.size w w' := by
  have s0 : (b.length : Int) - (a.length : Int) = ((b.length - a.length : Nat) : Int) := by omega
  have HM := Lib.hid (unlike_more a b (by omega))
  have s1 : b.length - a.length ≤ 1000000000 := by omega
  go_enter Tryd.func122, Tryd.ntmps122
  go_wp2_with fail
  clear s0
  go_loopw [5, 21] (fun n i wr => URel a b w n i wr) (fun _ i _ => a.length - (intOf i).toNat)
  case atStart => exact ⟨0, Nat.zero_le _, rfl, by simp [unlikeL], Below.refl _ _⟩
  case round =>
    obtain ⟨k, hk, rfl, rfl, hB⟩ := hrel
    have hu := unlike_le (a.take k) (b.take k)
    rw [List.length_take, List.length_take] at hu
    by_cases h1 : k < a.length
    · have h2 : k < b.length := by omega
      have HT := Lib.hid (unlike_take a b k (.inl h1))
      obtain ⟨bl1, o1, rfl, hb1, hcell1⟩ := ha.at h1
      obtain ⟨bl2, o2, rfl, hb2, hcell2⟩ := hb.at h2
      have hc1 : wr.cell? ⟨bl1, o1 + k, none⟩ = some (.int .u8 (a[k].toNat : Int)) := (hB.cell (p := ⟨bl1, o1 + k, none⟩) hb1).trans (hcell1 k h1)
      have hc2 : wr.cell? ⟨bl2, o2 + k, none⟩ = some (.int .u8 (b[k].toNat : Int)) := (hB.cell (p := ⟨bl2, o2 + k, none⟩) hb2).trans (hcell2 k h2)
      have HT' : Hid (unlikeL (a.take (k + 1)) (b.take (k + 1)) = unlikeL (a.take k) (b.take k) + if a[k] = b[k] then 0 else 1) := by
        unfold Hid
        rw [HT.out, List.getElem?_eq_getElem h1, List.getElem?_eq_getElem h2]
        simp
      generalize a[k] = x at hc1 HT'
      generalize b[k] = y at hc2 HT'
      obtain ⟨t, ht⟩ : ∃ t : Nat, t = if x = y then 0 else 1 := ⟨_, rfl⟩
      have ht1 : t ≤ 1 := by rw [ht]; split <;> omega
      have HU : ∀ w, Calls Tryd.prog 126 #[.int .u8 (x.toNat : Int), .int .u8 (y.toNat : Int)] w fun e w' => e = .returned (.int .i64 (t : Int)) ∧ w' = w := fun w => by rw [ht]; exact (unlike_one x y w).mono fun _ _ h => ⟨h.1, h.2.symm⟩
      rw [← ht] at HT'
      have HR : Hid (∀ W, Below wr.heap.size wr W → URel a b w (.int .i64 ((((b.length - a.length) + unlikeL (a.take k) (b.take k) : Nat) : Int) + (t : Int))) (.int .i64 ((k : Int) + 1)) W) := fun W hW => ⟨k + 1, by omega, by go_num, by rw [HT'.out]; congr 1; omega, below_step hB hW⟩
      have i0 : (0 : Int) ≤ (k : Int) := by omega
      have j1 : (k : Int) < (a.length : Int) := by omega
      have j2 : (k : Int) < (b.length : Int) := by omega
      have hs : (b.length - a.length) + unlikeL (a.take k) (b.take k) ≤ 2000000000 := by omega
      generalize (b.length - a.length) + unlikeL (a.take k) (b.take k) = s at HR hs ⊢
      have hw1 : IntKind.i64.wrap ((s : Int) + (t : Int)) = (s : Int) + (t : Int) := by rw [IntKind.wrap_i64]; omega
      clear hcell1 hcell2 HT HT' ha hb hk hB ht hu HM
      go_wp2_with fail
      go_quiet (first | (go_at_call 126; refine Calls.quiet_of_same (HU _)))
      go_wp2_with fail
      go_roundw
      case rel => exact HR.out _ (below_drewN (Below.refl _ _) _)
      case measure => simp [intOf]; omega
    · have e : k = a.length := by omega
      have HE : Hid ((b.length - a.length) + unlikeL (a.take k) (b.take k) = unlikeL a b) := by unfold Hid; rw [HM.out, e, List.take_of_length_le (Nat.le_refl _)]
      have j1 : ¬ (k : Int) < (a.length : Int) := by omega
      rw [HE.out]
      clear HE hu HM hk e
      go_wp2_with fail
      go_ret
      exact ⟨rfl, hB⟩
theorem unlike_any (n m : Nat) (a b : List UInt8) (A B : Option Addr) (c d : Nat) (w : World) (HN : Hid (a.length = n)) (HM : Hid (b.length = m)) (ha : Rd vB w A a) (hb : Rd vB w B b) (hal : n ≤ 1000000000) (hbl : m ≤ 1000000000) :
    Calls Tryd.prog 122 #[.slice A n c, .slice B m d] w fun e w' => e = .returned (.int .i64 (unlikeL a b : Int)) ∧ Below w.heap.size w w' := by
  have e1 := HN.out
  have e2 := HM.out
  subst e1 e2
  by_cases h : a.length ≤ b.length
  · exact unlike_up a b A B c d w ha hb h hbl
  · rw [unlike_symm]
    exact unlike_down b a B A d c w hb ha (by omega) hal
/-- Are two lists the same? -/
def sameB (a b : List UInt8) : Bool := decide (unlikeL a b = 0)
theorem sameB_iff (a b : List UInt8) : sameB a b = true ↔ a = b := by rw [sameB, decide_eq_true_eq, unlike_zero]
theorem same_any (n m : Nat) (a b : List UInt8) (A B : Option Addr) (c d : Nat) (w : World) (HN : Hid (a.length = n)) (HM : Hid (b.length = m)) (ha : Rd vB w A a) (hb : Rd vB w B b) (hal : n ≤ 1000000000) (hbl : m ≤ 1000000000) :
    Calls Tryd.prog 120 #[.slice A n c, .slice B m d] w fun e w' => e = .returned (.bool (sameB a b)) ∧ Below w.heap.size w w' := by
  have HS : Hid (sameB a b = decide (unlikeL a b = 0)) := rfl
  go_enter Tryd.func120, Tryd.ntmps120
  go_wp2_with fail
  refine (unlike_any n m a b A B c d _ HN HM ha hb hal hbl).mono ?_
  rintro e w' ⟨rfl, hb⟩
  have h0 : ((unlikeL a b : Int) == 0) = sameB a b := by
    rw [HS.out]
    by_cases h : unlikeL a b = 0
    · simp [h]
    · simp [h]
  clear HS
  go_wp2_with fail
  go_ret
  exact ⟨rfl, hb⟩
end Go.Proofs.YtknjpmoimjhddaaDoor
/-
  What the program's calls turned, Block and Mac of layer 3 answer. Condition: the package's table holds the sixty-four constants.
-/
namespace Go.Proofs.YtknjpmoimjhddaaDoor
set_option maxRecDepth 100000
open Go.RowKit
set_option linter.unusedSimpArgs false
set_option linter.unusedVariables false

/-- A call that hands back n bytes. -/
def RetL (n : Nat) (w : World) (l : List UInt8) (e : Ending) (w' : World) : Prop := ∃ A cap, e = .returned (.slice A n cap) ∧ n ≤ cap ∧ Rd vB w' A l ∧ Below w.heap.size w w'
theorem RetL.of {n : Nat} {w w' : World} {l : List UInt8} {e : Ending} (hl : l.length = n) (h : RetS vB w l e w') : RetL n w l e w' := by
  obtain ⟨A, c, he, hc, hr, hb⟩ := h
  rw [hl] at he hc
  exact ⟨A, c, he, hc, hr, hb⟩

theorem sum_at [Inhabited Tab] (n : Nat) (b : List UInt8) (A : Option Addr) (c : Nat) (w : World) (HN : Hid (b.length = n)) (hr : Rd vB w A b) (hc : n ≤ c) (hn : n ≤ 9223372036854775807) (HK : Hid (KTab w)) :
    Calls Tryd.prog 124 #[.slice A n c] w (RetL 32 w (sumL b)) := by
  have e := HN.out
  subst e
  exact (sum_any b A c w hr hc hn HK).mono fun _ _ h => RetL.of (sumL_length b) h

/-! ### turned -/
def TurnRel (x : UInt8) (b : List UInt8) (w : World) (i : Value) (wr : World) : Prop :=
  ∃ k : Nat, k ≤ 64 ∧ i = .int .i64 (k : Int) ∧ Row wr w.heap.size 5 ((turnL x (b.take k) ++ List.replicate (64 - k) 0).map vB) ∧ Below w.heap.size w wr
theorem turn_set (x : UInt8) (b : List UInt8) (k : Nat) (h : b.length = 64) (hk : k < 64) :
    ((turnL x (b.take k) ++ List.replicate (64 - k) 0).map vB).set k (vB (xorB (b[k]'(by omega)) x)) = (turnL x (b.take (k + 1)) ++ List.replicate (64 - (k + 1)) 0).map vB := by
  have hl : (turnL x (b.take k)).length = k := by rw [turnL_length, List.length_take]; omega
  rw [← List.map_set, List.set_append_right _ _ (by omega), hl, Nat.sub_self, show 64 - k = (64 - (k + 1)) + 1 by omega, List.replicate_succ, List.set_cons_zero, turnL_take x b k (by omega), List.append_assoc]
  rfl

set_option maxHeartbeats 1000000 in
theorem turned_any8 (x : UInt8) (b : List UInt8) (A : Option Addr) (c : Nat) (w : World) (H : Hid (b.length = 64)) (hr : Rd vB w A b) :
    Calls Tryd.prog 125 #[.slice A 64 c, .int .u8 (x.toNat : Int)] w (RetL 64 w (turnL x b)) := by
  have hmk : ∀ w, (Instr.makeSlice 25 (.int .i64 64) (.int .i64 64)).run Tryd.prog w = .ok (.slice (some ⟨w.heap.size, 0, none⟩) 64 64) (w.alloc (.cells (List.replicate 64 (.int .u8 0)).toArray 5)) := fun _ => by kernel_rfl
  go_enter Tryd.func125, Tryd.ntmps125
  go_wp2_with fail
  have hR0 : Row (w.alloc (.cells (List.replicate 64 (.int .u8 0)).toArray 5)) w.heap.size 5 (List.replicate 64 (.int .u8 0)) := Row.new w _ _ _ rfl
  have hB0 : Below w.heap.size w (w.alloc (.cells (List.replicate 64 (.int .u8 0)).toArray 5)) := below_new (Below.refl _ _) _
  clear hmk
  go_loopw [13] (fun i wr => TurnRel x b w i wr) (fun i _ => 64 - (intOf i).toNat)
  case atStart => exact ⟨0, by omega, rfl, by simpa [turnL, vB] using hR0, hB0⟩
  case round =>
    clear hR0 hB0
    obtain ⟨k, hk, rfl, hR, hB⟩ := hrel
    by_cases hlt : k < 64
    · have hkb : k < b.length := by have := H.out; omega
      obtain ⟨blk, o, rfl, hb, hcell⟩ := hr.at hkb
      have hc0 : wr.cell? ⟨blk, o + k, none⟩ = some (.int .u8 (b[k].toNat : Int)) := (hB.cell (p := ⟨blk, o + k, none⟩) hb).trans (hcell k hkb)
      have HS := Lib.hid (turn_set x b k H.out hlt)
      have hxor := u8_xor_b b[k] x
      generalize b[k] = y at hc0 HS hxor
      have hkl : k < ((turnL x (b.take k) ++ List.replicate (64 - k) 0).map vB).length := by rw [List.length_map, List.length_append, turnL_length, List.length_take, List.length_replicate]; omega
      obtain ⟨vk, hcn⟩ : ∃ v, wr.cell? ⟨w.heap.size, k, none⟩ = some v := ⟨_, hR.cell (List.getElem?_eq_getElem hkl)⟩
      have hfz : wr.frozen? ⟨w.heap.size, k, none⟩ = false := hR.frozen _
      have i1 : (0 : Int) ≤ (k : Int) := by omega
      have i2 : (k : Int) < 64 := by omega
      have HRel : Hid (TurnRel x b w (.int .i64 ((k : Int) + 1)) (wr.setCell ⟨w.heap.size, k, none⟩ (.int .u8 ((xorB y x).toNat : Int)))) :=
        ⟨k + 1, by omega, by go_num, by have := hR.setCell k (vB (xorB y x)); rw [HS.out] at this; exact this, hB.setCell (by simp) _⟩
      clear hcell hR hB HS hkl hr hkb
      go_wp2_with fail
      go_roundw
      case rel => exact HRel.out
      case measure => simp [intOf]; omega
    · have hk64 : k = 64 := by omega
      subst hk64
      have HT : Hid ((turnL x (b.take 64) ++ List.replicate (64 - 64) 0) = turnL x b) := by
        unfold Hid
        rw [List.take_of_length_le (by have := H.out; omega)]
        simp
      rw [HT.out] at hR
      go_wp2_with fail
      go_ret
      exact ⟨some ⟨w.heap.size, 0, none⟩, 64, rfl, Nat.le_refl _, hR.rd, hB⟩

/-! ### Block -/
theorem fill_row (k : List UInt8) : (k.map vB ++ (List.replicate 64 (Value.int .u8 0)).drop k.length).toArray = ((fillK k).map vB).toArray := by
  rw [List.drop_replicate, fillK, List.map_append, List.map_replicate]
  rfl

set_option maxHeartbeats 1000000 in
theorem hblock_any [Inhabited Tab] (n : Nat) (key : List UInt8) (A : Option Addr) (c : Nat) (w : World) (HN : Hid (key.length = n)) (hr : Rd vB w A key) (hc : n ≤ c) (hl : n ≤ 9223372036854775807) (HK : Hid (KTab w)) :
    Calls Tryd.prog 123 #[.slice A n c] w (RetL 64 w (hblk key)) := by
  have hmk : ∀ w, (Instr.makeSlice 25 (.int .i64 64) (.int .i64 64)).run Tryd.prog w = .ok (.slice (some ⟨w.heap.size, 0, none⟩) 64 64) (w.alloc (.cells (List.replicate 64 (.int .u8 0)).toArray 5)) := fun _ => by kernel_rfl
  by_cases h64 : 64 < n
  · have hgt : (64 : Int) < (n : Int) := by omega
    have HE : Hid (hblk key = fillK (sumL key)) := hblk_long key (by rw [HN.out]; exact h64)
    have H32 : Hid ((sumL key).length = 32) := sumL_length key
    go_enter Tryd.func123, Tryd.ntmps123
    go_wp2_with fail
    refine (sum_at n key _ _ _ HN hr hc hl HK).mono ?_
    rintro e w1 ⟨A1, c1, rfl, hc1, hr1, hb1⟩
    generalize sumL key = K at hr1 HE H32
    have hB := below_new hb1 (.cells (List.replicate 64 (.int .u8 0)).toArray 5)
    go_wp2_with (refine wpList_copy_row rfl (.tmp 10) (.tmp 11) 25 25 rfl 5 Tryd.underlying25 (by kernel_rfl) w1.heap.size 0 64 64 A1 K c1 rfl (by rw [H32.out]; rfl) (List.replicate 64 (.int .u8 0)) 5 (by exact Row.new_at _ _ (by simp) _ _ _ rfl) (by exact hr1.keep (below_new (Below.refl _ _) _)) vB_one (by rw [H32.out]; omega) (by rw [H32.out]; simp) ?_)
    go_ret
    have hR : Row (w1.alloc (.cells (List.replicate 64 (.int .u8 0)).toArray 5)) w1.heap.size 5 (List.replicate 64 (.int .u8 0)) := Row.new w1 _ _ _ rfl
    rw [HE.out]
    exact ⟨some ⟨w1.heap.size, 0, none⟩, 64, rfl, Nat.le_refl _, (Row.setRow_at hR _ _ (fill_row K)).rd, below_setRow hB hb1.size _⟩
  · have hgt : ¬ (64 : Int) < (n : Int) := by omega
    have HE : Hid (hblk key = fillK key) := hblk_short key (by rw [HN.out]; omega)
    have hB := below_new (Below.refl _ w) (.cells (List.replicate 64 (.int .u8 0)).toArray 5)
    go_enter Tryd.func123, Tryd.ntmps123
    go_wp2_with (refine wpList_copy_row rfl (.tmp 10) (.tmp 11) 25 25 rfl 5 Tryd.underlying25 (by kernel_rfl) w.heap.size 0 64 64 A key c rfl (by rw [HN.out]; rfl) (List.replicate 64 (.int .u8 0)) 5 (by exact Row.new_at _ _ (by simp) _ _ _ rfl) (by exact hr.keep (below_new (Below.refl _ _) _)) vB_one (by rw [HN.out]; omega) (by rw [HN.out]; simp; omega) ?_)
    go_ret
    have hR : Row (w.alloc (.cells (List.replicate 64 (.int .u8 0)).toArray 5)) w.heap.size 5 (List.replicate 64 (.int .u8 0)) := Row.new w _ _ _ rfl
    rw [HE.out]
    exact ⟨some ⟨w.heap.size, 0, none⟩, 64, rfl, Nat.le_refl _, (Row.setRow_at hR _ _ (fill_row key)).rd, below_setRow hB (Nat.le_refl _) _⟩

/-! ### Mac -/
set_option maxHeartbeats 1000000 in
theorem mac_any [Inhabited Tab] (n m : Nat) (key msg : List UInt8) (A B : Option Addr) (c d : Nat) (w : World) (HN : Hid (key.length = n)) (HM : Hid (msg.length = m)) (hr : Rd vB w A key) (hm : Rd vB w B msg) (hc : n ≤ c) (hl : n ≤ 35184372088832) (hml : m ≤ 35184372088832) (HK : Hid (KTab w)) :
    Calls Tryd.prog 121 #[.slice A n c, .slice B m d] w (RetL 32 w (macL key msg)) := by
  obtain ⟨I, hI⟩ : ∃ I, I = turnL 54 (hblk key) ++ msg := ⟨_, rfl⟩
  obtain ⟨O, hO⟩ : ∃ O, O = turnL 92 (hblk key) ++ sumL I := ⟨_, rfl⟩
  have HE : Hid (macL key msg = sumL O) := by unfold Hid macL; rw [hO, hI]
  have HIl : Hid (I.length = 64 + m) := by unfold Hid; rw [hI, List.length_append, turnL_length, hblk_length, HM.out]
  have HOl : Hid (O.length = 96) := by unfold Hid; rw [hO, List.length_append, turnL_length, hblk_length, sumL_length]
  have HI := Lib.hid hI
  have HO := Lib.hid hO
  have HB64 : Hid ((hblk key).length = 64) := hblk_length key
  have HT1 : Hid ((turnL 54 (hblk key)).length = 64) := by unfold Hid; rw [turnL_length]; exact hblk_length key
  have HT2 : Hid ((turnL 92 (hblk key)).length = 64) := by unfold Hid; rw [turnL_length]; exact hblk_length key
  have HS32 : Hid ((sumL I).length = 32) := sumL_length I
  clear hI hO
  go_enter Tryd.func121, Tryd.ntmps121
  go_wp2_with fail
  refine (hblock_any n key _ _ _ HN hr hc (by omega) HK).mono ?_
  rintro e w1 ⟨A1, c1, rfl, hc1, hr1, hB⟩
  generalize hblk key = Bk at hr1 HB64 HI HO HT1 HT2
  go_wp2_with fail
  refine (turned_any8 54 Bk _ _ _ HB64 hr1).mono ?_
  rintro e w2 ⟨A2, c2, rfl, hc2, hr2, hb2⟩
  generalize turnL 54 Bk = T1 at hr2 HI HT1
  replace hr1 := hr1.keep hb2
  replace hB := below_step hB hb2
  clear hb2
  go_wp2_with fail
  have hP : Rd vPart (w2.alloc (.cells #[.slice A2 64 c2, .slice B m d] 25)) (some ⟨w2.heap.size, 0, none⟩) [⟨A2, c2, T1⟩, ⟨B, d, msg⟩] := Rd.new_at w2 _ rfl _ _ _ (by simp [vPart, HT1.out, HM.out])
  have hb3 := below_new (Below.refl _ w2) (.cells #[.slice A2 64 c2, .slice B m d] 25)
  refine (concat_two T1 msg I A2 B c2 d _ _ _ HI hP (hr2.keep hb3) (hm.keep (below_step hB hb3)) (by rw [HIl.out]; omega)).mono ?_
  rintro e w3 ⟨A3, c3, rfl, hc3, hr3, hN3, hb4⟩
  rw [HIl.out] at hc3 ⊢
  replace hr1 := hr1.keep (below_step hb3 hb4)
  replace hB := below_step (below_step hB hb3) hb4
  clear hP hb3 hb4 hN3 hr2 hc2
  go_wp2_with fail
  refine (sum_at (64 + m) I _ _ _ HIl hr3 hc3 (by omega) (Lib.hid (HK.out.keep hB))).mono ?_
  rintro e w4 ⟨A4, c4, rfl, hc4, hr4, hb5⟩
  generalize sumL I = Sm at hr4 HO HS32
  replace hr1 := hr1.keep hb5
  replace hB := below_step hB hb5
  clear hb5 hr3
  go_wp2_with fail
  refine (turned_any8 92 Bk _ _ _ HB64 hr1).mono ?_
  rintro e w5 ⟨A5, c5, rfl, hc5, hr5, hb6⟩
  generalize turnL 92 Bk = T2 at hr5 HO HT2
  replace hr4 := hr4.keep hb6
  replace hB := below_step hB hb6
  clear hb6 hr1
  go_wp2_with fail
  have hP : Rd vPart (w5.alloc (.cells #[.slice A5 64 c5, .slice A4 32 c4] 25)) (some ⟨w5.heap.size, 0, none⟩) [⟨A5, c5, T2⟩, ⟨A4, c4, Sm⟩] := Rd.new_at w5 _ rfl _ _ _ (by simp [vPart, HT2.out, HS32.out])
  have hb7 := below_new (Below.refl _ w5) (.cells #[.slice A5 64 c5, .slice A4 32 c4] 25)
  refine (concat_two T2 Sm O A5 A4 c5 c4 _ _ _ HO hP (hr5.keep hb7) (hr4.keep hb7) (by rw [HOl.out]; omega)).mono ?_
  rintro e w6 ⟨A6, c6, rfl, hc6, hr6, hN6, hb8⟩
  rw [HOl.out] at hc6 ⊢
  replace hB := below_step (below_step hB hb7) hb8
  clear hP hb7 hb8 hN6 hr5 hr4
  go_wp2_with fail
  refine (sum_at 96 O _ _ _ HOl hr6 hc6 (by omega) (Lib.hid (HK.out.keep hB))).mono ?_
  rintro e w7 ⟨A7, c7, rfl, hc7, hr7, hb9⟩
  go_wp2_with fail
  go_ret
  rw [HE.out]
  exact ⟨A7, c7, rfl, hc7, hr7, below_step hB hb9⟩

end Go.Proofs.YtknjpmoimjhddaaDoor
/-
  What the methods of the program's makers of tags answer, and which maker stands behind an engine (layer 6). Condition: the package's table holds sixty-four words (for a Concrete engine's tags).
-/
namespace Go.Proofs.YtknjpmoimjhddaaDoor
set_option maxRecDepth 100000
open Go.RowKit
set_option linter.unusedSimpArgs false
set_option linter.unusedVariables false

theorem box_rows (w : World) (t : TypeId) (a b : Value) : Row (w.alloc (.cells #[a, b] t)) w.heap.size t [a, b] ∧ Below w.heap.size w (w.alloc (.cells #[a, b] t)) := ⟨Row.new w _ _ _ rfl, below_new (Below.refl _ _) _⟩
theorem size_engine : (Tryd.prog.info? 24).map (·.size) = some 2 := by kernel_rfl
theorem size_concrete : (Tryd.prog.info? 108).map (·.size) = some 2 := by kernel_rfl
theorem one_pair (a b : Value) (ha : a.oneCell' = true) (hb : b.oneCell' = true) : ∀ v ∈ [a, b], v.oneCell' = true := fun v hv => by
  simp at hv
  rcases hv with rfl | rfl
  · exact ha
  · exact hb
/-- An engine as a value. -/
def vE (K : Int) (A : Option Addr) (p c : Nat) : Value := .agg #[.int .i64 K, .slice A p c]

theorem cright_any (K : Int) (p : Nat) (A : Option Addr) (c : Nat) (w : World) (hp : p ≤ 1000000000) :
    Calls Tryd.prog 118 #[.agg #[.int .i64 K, .slice A p c]] w fun e w' => e = .returned (.bool (decide (p = 0))) ∧ Below w.heap.size w w' := by
  obtain ⟨hR, hB⟩ := box_rows w 108 (.int .i64 K) (.slice A p c)
  have c1 : (w.alloc (.cells #[.int .i64 K, .slice A p c] 108)).cell? ⟨w.heap.size, 1, none⟩ = some (.slice A p c) := hR.cell rfl
  have j0 : ((p : Int) == 0) = decide (p = 0) := by
    by_cases h : p = 0
    · subst h; rfl
    · rw [decide_eq_false h]; simp; omega
  clear hR
  go_enter Tryd.func118, Tryd.ntmps118
  go_wp2_with fail
  go_ret
  exact ⟨rfl, hB⟩
theorem sright_any (ts : List TD) (K : Int) (p : Nat) (A : Option Addr) (c : Nat) (w : World) (HP : Hid (ts.length = p)) (HL : Hid (lenT (conT ts))) (ht : RdT w A ts) (hok : okT w ts) (hp : p ≤ 1000000000) (hc : p ≤ c) :
    Calls Tryd.prog 141 #[.agg #[.int .i64 K, .slice A p c]] w fun e w' => e = .returned (.bool (rightT (conT ts))) ∧ Below w.heap.size w w' := by
  obtain ⟨hR, hB⟩ := box_rows w 109 (.int .i64 K) (.slice A p c)
  have c1 : (w.alloc (.cells #[.int .i64 K, .slice A p c] 109)).cell? ⟨w.heap.size, 1, none⟩ = some (.slice A p c) := hR.cell rfl
  clear hR
  go_enter Tryd.func141, Tryd.ntmps141
  go_wp2_with fail
  refine (right_anyT ts p A c _ HP HL (ht.keep hB) (hok.keep hB) hp hc).mono ?_
  rintro e w' ⟨rfl, hb⟩
  go_wp2_with fail
  go_ret
  exact ⟨rfl, below_step hB hb⟩

theorem clone_at [Inhabited Tab] (n : Nat) (b : List UInt8) (A : Option Addr) (c : Nat) (w : World) (HN : Hid (b.length = n)) (hr : Rd vB w A b) (hl : n ≤ 70368744177664) :
    Calls Tryd.prog 39 #[.slice A n c] w fun e w' => ∃ A' c', e = .returned (.slice A' n c') ∧ n ≤ c' ∧ Rd vB w' A' b ∧ (∀ a, A' = some a → w.heap.size ≤ a.block) ∧ Below w.heap.size w w' := by
  have e := HN.out
  subst e
  exact (clone_b b A c w hr hl).mono fun _ _ h => h

set_option maxHeartbeats 1000000 in
theorem ctag_any [Inhabited Tab] (Kn : Int) (key msg : List UInt8) (p n m : Nat) (A B C : Option Addr) (c d e : Nat) (w : World) (HN : Hid (key.length = n)) (HM : Hid (msg.length = m)) (hk : Rd vB w B key) (hm : Rd vB w C msg) (hn : n ≤ 1000000) (hmm : m ≤ 1000000) (hnd : n ≤ d) (HK : Hid (KTab w)) :
    Calls Tryd.prog 119 #[.agg #[.int .i64 Kn, .slice A p c], .slice B n d, .slice C m e] w fun e w' => ∃ tA tc, e = .returned (.tuple #[.agg #[.int .i64 Kn, .slice none 0 0], .slice tA 8 tc]) ∧ 8 ≤ tc ∧ Rd vB w' tA ((macL key msg).take 8) ∧ Below w.heap.size w w' := by
  obtain ⟨hR0, hB0⟩ := box_rows w 108 (.int .i64 Kn) (.slice A p c)
  have hR1 := hR0.alloc (.cells #[.int .i64 0, .slice none 0 0] 24)
  have hB1 := below_new hB0 (.cells #[.int .i64 0, .slice none 0 0] 24)
  have hR2 : Row ((w.alloc (.cells #[.int .i64 Kn, .slice A p c] 108)).alloc (.cells #[.int .i64 0, .slice none 0 0] 24)) (w.heap.size + 1) 24 [.int .i64 0, .slice none 0 0] := Row.new_at _ _ (by simp) _ _ _ rfl
  go_enter Tryd.func119, Tryd.ntmps119
  go_upto_region 1 with fail
  generalize (w.alloc (.cells #[.int .i64 Kn, .slice A p c] 108)).alloc (.cells #[.int .i64 0, .slice none 0 0] 24) = W2 at hR1 hB1 hR2 ⊢
  have hc0 : ∀ W, Below (w.heap.size + 1) W2 W → W.cell? ⟨w.heap.size, 0, none⟩ = some (.int .i64 Kn) := fun W hW => (hR1.keep hW (by omega)).cell rfl
  have hlt := hR2.lt
  have hBase : Below (w.heap.size + 1) W2 W2.drew := (Below.refl _ _).drew
  have hk2 : Rd vB W2.drew B key := hk.keep hB1.drew
  have hm2 : Rd vB W2.drew C msg := hm.keep hB1.drew
  have HK2 : Hid (KTab W2.drew) := HK.out.keep hB1.drew
  clear hR0 hB0
  refine wp_region_plan_at (w.heap.size + 1) (.step 0 false (.step 1 false (.step 2 false (.step 3 false (.step 4 false (.step 5 false (.step 6 true (.step 7 false (.step 8 true (.step 9 true (.step 10 false .nil))))))))))) (by kernel_rfl) (by kernel_rfl) (by rfl) (by kernel_rfl) ?_
  iterate 6 (refine plan_read rfl (by rfl) (v := ?_) ?_ ?_; rotate_left 1; (intro W hW; have hW0 := Below.trans hBase hW; (try dsimp only at hW); go_simp <;> with_reducible rfl); simp only [List.getElem_toArray, List.getElem_cons_zero, List.getElem_cons_succ, Act.put, List.setIfInBounds_toArray, List.set_cons_zero, List.set_cons_succ])
  (refine plan_make_at rfl (by rfl) (fun K hK => ?_); go_simp; refine (mac_any n m key msg _ _ _ _ _ HN HM hk2 hm2 hnd (by omega) (by omega) HK2).mono ?_; rintro e w3 ⟨A3, c3, rfl, hc3, hr3, hb3⟩; have hz3 : W2.heap.size ≤ w3.heap.size := hb3.size; refine hK.out _ _ (hb3.mono (Nat.le_of_lt hlt)) ?_; clear hK K; replace hBase := hBase.trans (hb3.mono (Nat.le_of_lt hlt)))
  have hB3 := below_step hB1.drew hb3
  have hR3 := hR2.drew.later hb3
  have hcut : ∀ W, (Instr.slice 25 (.slice A3 32 c3) none (some (.int .i64 8)) none).run Tryd.prog W = .ok (.slice A3 8 c3) W := fun W => run_cut_to 25 5 Tryd.underlying25 size_uint8 A3 32 c3 8 (by omega) W
  iterate 1 (refine plan_read rfl (by rfl) (v := ?_) ?_ ?_; rotate_left 1; (intro W hW; have hW0 := Below.trans hBase hW; (try dsimp only at hW); go_simp <;> with_reducible rfl); simp only [List.getElem_toArray, List.getElem_cons_zero, List.getElem_cons_succ, Act.put, List.setIfInBounds_toArray, List.set_cons_zero, List.set_cons_succ])
  have H8 : Hid (((macL key msg).take 8).length = 8) := by unfold Hid; rw [List.length_take, macL_length]; rfl
  have hr8 := hr3.take 8
  obtain ⟨T, hT⟩ : ∃ T, T = (macL key msg).take 8 := ⟨_, rfl⟩
  rw [← hT] at H8 hr8
  have HT := Lib.hid hT
  clear hT
  (refine plan_make_at rfl (by rfl) (fun K hK => ?_); go_simp; refine (clone_at 8 T A3 c3 _ H8 hr8 (by omega)).mono ?_; rintro e w4 ⟨A4, c4, rfl, hc4, hr4, hN4, hb4⟩; have hz4 : w3.heap.size ≤ w4.heap.size := hb4.size; refine hK.out _ _ (hb4.mono (by omega)) ?_; clear hK K; replace hBase := hBase.trans (hb4.mono (by omega)))
  have hB4 := below_step hB3 hb4
  have hR4 := hR3.later hb4
  (refine plan_make_at rfl (by rfl) (fun K hK => ?_); refine Row.wp_store 24 (.tmp 6) (.tmp 11) rfl rfl [.int .i64 Kn, .slice none 0 0] rfl hR4 (by exact size_engine) rfl (one_pair _ _ rfl rfl) ?_; refine hK.out _ _ (below_setRow (Below.refl _ _) (Nat.le_refl _) _) ?_; clear hK K)
  iterate 1 (refine plan_read rfl (by rfl) (v := ?_) ?_ ?_; rotate_left 1; (intro W hW; go_simp <;> with_reducible rfl); simp only [List.getElem_toArray, List.getElem_cons_zero, List.getElem_cons_succ, Act.put, List.setIfInBounds_toArray, List.set_cons_zero, List.set_cons_succ])
  refine plan_done ?_
  have hd : W2.drew.heap.size = W2.heap.size := rfl
  have hr5 := hr4.setRow (g := w.heap.size + 1) [.int .i64 Kn, .slice none 0 0].toArray (fun a ha e => by have := hN4 a ha; omega)
  have hR5 := hR4.setRow [.int .i64 Kn, .slice none 0 0]
  have hB5 := below_setRow hB4 (Nat.le_succ w.heap.size) [.int .i64 Kn, .slice none 0 0].toArray
  generalize w4.setRow (w.heap.size + 1) [.int .i64 Kn, .slice none 0 0].toArray = w5 at hr5 hR5 hB5 ⊢
  go_wp2_with fail
  refine bodyPost_ret (results_row_tmp (p := 6) (u := 7) (ty := 24) (by rfl) _ _ (w.heap.size + 1) 24 _ _ (by rfl) (by exact hR5) Tryd.underlying24 (by rfl) (by exact size_engine)) (by rfl) ?_
  exact ⟨A4, c4, rfl, hc4, by rw [← HT.out]; exact hr5, hB5⟩

set_option maxHeartbeats 1000000 in
theorem stag_any (ts : List TD) (key msg : List UInt8) (p n m : Nat) (A B C : Option Addr) (c d e : Nat) (w : World) (HP : Hid (ts.length = p)) (HN : Hid (key.length = n)) (HM : Hid (msg.length = m)) (HL : Hid (lenT (conT ts))) (ht : RdT w A ts) (hok : okT w ts) (hk : Rd vB w B key) (hm : Rd vB w C msg) (hp : p ≤ 1000000) (hc : p ≤ c) (hn : n ≤ 1000000) (hmm : m ≤ 1000000) :
    Calls Tryd.prog 142 #[.agg #[.int .i64 2, .slice A p c], .slice B n d, .slice C m e] w fun e w' =>
      ∃ (us : List TD) (p : Nat) (A : Option Addr) (c : Nat) (tA : Option Addr) (tc : Nat), e = .returned (.tuple #[.agg #[.int .i64 2, .slice A p c], .slice tA 8 tc]) ∧ Hid (us.length = p) ∧ p ≤ c ∧ 8 ≤ tc ∧ RdT w' A us ∧ okT w' us ∧ Hid (conT us = putT (conT ts) (key, msg)) ∧ Rd vB w' tA (tagT (conT ts) (key, msg)) ∧ Below w.heap.size w w' := by
  obtain ⟨hR0, hB0⟩ := box_rows w 109 (.int .i64 2) (.slice A p c)
  have hR1 := hR0.alloc (.cells #[.int .i64 0, .slice none 0 0] 24)
  have hB1 := below_new hB0 (.cells #[.int .i64 0, .slice none 0 0] 24)
  have hR2 : Row ((w.alloc (.cells #[.int .i64 2, .slice A p c] 109)).alloc (.cells #[.int .i64 0, .slice none 0 0] 24)) (w.heap.size + 1) 24 [.int .i64 0, .slice none 0 0] := Row.new_at _ _ (by simp) _ _ _ rfl
  go_enter Tryd.func142, Tryd.ntmps142
  go_upto_region 1 with fail
  generalize (w.alloc (.cells #[.int .i64 2, .slice A p c] 109)).alloc (.cells #[.int .i64 0, .slice none 0 0] 24) = W2 at hR1 hB1 hR2 ⊢
  have c1 : W2.cell? ⟨w.heap.size, 1, none⟩ = some (.slice A p c) := hR1.cell rfl
  go_wp2_with fail
  refine (put_anyT ts key msg p n m A B C c d e _ HP HN HM HL (ht.keep hB1) (hok.keep hB1) (hk.keep hB1) (hm.keep hB1) (by omega) hc (by omega) (by omega)).mono ?_
  rintro e' w3 ⟨us, q, A1, q1, tA, tc, rfl, HQ, hqc, htc, htu, hoku, HC, hr1, hb1⟩
  replace hR1 := hR1.later hb1
  replace hR2 := hR2.later hb1
  have HB := Lib.hid (below_step hB1 hb1)
  clear c1 hb1 hB1 hB0
  have c0 : w3.cell? ⟨w.heap.size, 0, none⟩ = some (.int .i64 2) := hR1.cell rfl
  go_wp2_with (refine wpList_store_row rfl 24 (.tmp 6) (.tmp 23) rfl (w.heap.size + 1) rfl [.int .i64 2, .slice A1 q q1] rfl _ _ hR2 (by exact size_engine) rfl (one_pair _ _ rfl rfl) ?_)
  refine bodyPost_ret (results_row_tmp (p := 6) (u := 7) (ty := 24) (by rfl) _ _ (w.heap.size + 1) 24 _ _ (by rfl) (by exact hR2.setRow _) Tryd.underlying24 (by rfl) (by exact size_engine)) (by rfl) ?_
  have hnb := two_no_byte 0 (.slice none 0 0) (slice_no_byte none 0 0)
  exact ⟨us, q, A1, q1, tA, tc, rfl, HQ, hqc, htc, htu.setRow_row hR2 _, hoku.setRow_row hR2 hnb _, HC, hr1.setRow_row hR2 hnb _, below_setRow HB.out (by omega) _⟩

theorem cfits_any [Inhabited Tab] (Kn : Int) (key msg tag : List UInt8) (p n m q : Nat) (A B C D : Option Addr) (c d e f : Nat) (w : World) (HN : Hid (key.length = n)) (HM : Hid (msg.length = m)) (HQ : Hid (tag.length = q)) (hk : Rd vB w B key) (hm : Rd vB w C msg) (hg : Rd vB w D tag) (hn : n ≤ 1000000) (hmm : m ≤ 1000000) (hq : q ≤ 1000000) (hnd : n ≤ d) (HK : Hid (KTab w)) :
    Calls Tryd.prog 117 #[.agg #[.int .i64 Kn, .slice A p c], .slice B n d, .slice C m e, .slice D q f] w fun e w' => e = .returned (.bool (decide ((macL key msg).take 8 = tag))) ∧ Below w.heap.size w w' := by
  obtain ⟨hR0, hB0⟩ := box_rows w 108 (.int .i64 Kn) (.slice A p c)
  go_enter Tryd.func117, Tryd.ntmps117
  go_wp2_with (refine wpList_load_part rfl 108 (.tmp 4) rfl w.heap.size 0 rfl _ _ hR0 [.int .i64 Kn, .slice A p c] (by rfl) _ Tryd.underlying108 rfl (by exact size_concrete) ?_)
  refine (ctag_any Kn key msg p n m A B C c d e _ HN HM (hk.keep hB0) (hm.keep hB0) hn hmm hnd (Lib.hid (HK.out.keep hB0))).mono ?_
  rintro e' w3 ⟨tA, tc, rfl, htc, hr, hb⟩
  replace hg := hg.keep (below_step hB0 hb)
  have HB := Lib.hid (below_step hB0 hb)
  have H8 : Hid (((macL key msg).take 8).length = 8) := by unfold Hid; rw [List.length_take, macL_length]; rfl
  obtain ⟨T, hT⟩ : ∃ T, T = (macL key msg).take 8 := ⟨_, rfl⟩
  rw [← hT] at H8 hr
  have HT := Lib.hid hT
  clear hb hB0 hT
  have hR3 : Row (w3.alloc (.cells #[.int .i64 0, .slice none 0 0] 24)) w3.heap.size 24 [.int .i64 0, .slice none 0 0] := Row.new w3 _ _ _ rfl
  go_wp2_with (refine wpList_store_row rfl 24 (.tmp 9) (.tmp 16) rfl w3.heap.size rfl [.int .i64 Kn, .slice none 0 0] rfl _ _ hR3 (by exact size_engine) rfl (one_pair _ _ rfl rfl) ?_)
  have hbn : Below w3.heap.size w3 ((w3.alloc (.cells #[.int .i64 0, .slice none 0 0] 24)).setRow w3.heap.size [.int .i64 Kn, .slice none 0 0].toArray) := below_setRow (below_new (Below.refl _ _) _) (Nat.le_refl _) _
  refine (same_any 8 q T tag tA D tc f _ H8 HQ (hr.keep hbn) (hg.keep hbn) (by omega) (by omega)).mono ?_
  rintro e' w5 ⟨rfl, hb5⟩
  have HE : Hid (sameB T tag = decide (T = tag)) := by
    unfold Hid
    rw [Bool.eq_iff_iff, sameB_iff, decide_eq_true_eq]
  go_wp2_with fail
  go_ret
  exact ⟨by rw [← HT.out, ← HE.out]; rfl, below_step HB.out (below_step hbn hb5)⟩

/-- Whose tag it is: of right terms just of that one whose tag it is. -/
theorem ofT_iff (cs : List Tm) (x y : Tm) (u : Int) (tag : List UInt8) (hr : rightT cs = true) (hl : cs.length ≤ 1000000000) (h : (y, u) = ofT cs tag) : (u = 0 ∧ y = x) ↔ (x ∈ cs ∧ tagT cs x = tag) := by
  constructor
  · rintro ⟨rfl, rfl⟩
    unfold ofT at h
    split at h
    · injection h with _ h
      cases h
    · next h8 =>
      split at h
      · next hv =>
        injection h with h _
        have h8' : tag.length = 8 := Classical.byContradiction h8
        have hlt : valN tag - 1 < cs.length := by omega
        rw [List.getD_eq_getElem?_getD, List.getElem?_eq_getElem hlt, Option.getD_some] at h
        have hi := (right_iff cs).1 hr _ hlt
        rw [← h] at hi
        refine ⟨h ▸ List.getElem_mem hlt, ?_⟩
        unfold tagT
        rw [hi, show valN tag - 1 + 1 = valN tag by omega, putL_valN tag h8']
      · injection h with _ h
        cases h
  · rintro ⟨hx, rfl⟩
    rw [ofT_tag cs x hx hl] at h
    injection h with h1 h2
    exact ⟨h2, h1⟩
theorem ofT_mem (cs : List Tm) (y : Tm) (tag : List UInt8) (h : (y, (0 : Int)) = ofT cs tag) : y ∈ cs := by
  unfold ofT at h
  split at h
  · injection h with _ h
    cases h
  · split at h
    · next hv =>
      injection h with h _
      have hlt : valN tag - 1 < cs.length := by omega
      rw [List.getD_eq_getElem?_getD, List.getElem?_eq_getElem hlt, Option.getD_some] at h
      exact h ▸ List.getElem_mem hlt
    · injection h with _ h
      cases h

set_option maxHeartbeats 1000000 in
theorem sfits_any (Kn : Int) (ts : List TD) (key msg tag : List UInt8) (p n m q : Nat) (A B C D : Option Addr) (c d e f : Nat) (w : World) (HP : Hid (ts.length = p)) (HN : Hid (key.length = n)) (HM : Hid (msg.length = m)) (HQ : Hid (tag.length = q)) (HL : Hid (lenT (conT ts))) (ht : RdT w A ts) (hok : okT w ts) (hk : Rd vB w B key) (hm : Rd vB w C msg) (hg : Rd vB w D tag) (hp : p ≤ 1000000) (hc : p ≤ c) (hn : n ≤ 1000000) (hmm : m ≤ 1000000) (hq : q ≤ 1000000) (HR : Hid (rightT (conT ts) = true)) :
    Calls Tryd.prog 140 #[.agg #[.int .i64 Kn, .slice A p c], .slice B n d, .slice C m e, .slice D q f] w fun e w' => e = .returned (.bool (decide ((key, msg) ∈ conT ts ∧ tagT (conT ts) (key, msg) = tag))) ∧ Below w.heap.size w w' := by
  obtain ⟨hR0, hB0⟩ := box_rows w 109 (.int .i64 Kn) (.slice A p c)
  have c1 : (w.alloc (.cells #[.int .i64 Kn, .slice A p c] 109)).cell? ⟨w.heap.size, 1, none⟩ = some (.slice A p c) := hR0.cell rfl
  go_enter Tryd.func140, Tryd.ntmps140
  go_wp2_with fail
  refine (of_anyT ts tag p q A D c f _ HP HQ HL (ht.keep hB0) (hok.keep hB0) (hg.keep hB0) (by omega) (by omega)).mono ?_
  rintro e' w3 ⟨x, u, rfl, hx, HO, hb⟩
  have HI : Hid ((u = 0 ∧ x.c = (key, msg)) ↔ ((key, msg) ∈ conT ts ∧ tagT (conT ts) (key, msg) = tag)) := ofT_iff (conT ts) (key, msg) x.c u tag HR.out (by rw [conT_length, HP.out]; omega) HO.out
  have HX : Hid (u = 0 → x.k.length ≤ 1000000000 ∧ x.m.length ≤ 1000000000) := fun h => by
    have := HO.out
    rw [h] at this
    exact HL.out x.c (ofT_mem _ _ _ this)
  replace hk := hk.keep (below_step hB0 hb)
  replace hm := hm.keep (below_step hB0 hb)
  have HB := Lib.hid (below_step hB0 hb)
  clear hb hB0 c1 hR0 ht hok hg HO
  have hR3 : Row (w3.alloc (.cells #[.slice none 0 0, .slice none 0 0] 47)) w3.heap.size 47 [.slice none 0 0, .slice none 0 0] := Row.new w3 _ _ _ rfl
  go_upto_region 2 with (refine wpList_store_row rfl 47 (.tmp 9) (.tmp 17) rfl w3.heap.size rfl [x.at0, x.at1] rfl _ _ hR3 (by exact size_term) rfl (one_two _ _ rfl rfl) ?_)
  have hR4 := hR3.setRow [x.at0, x.at1]
  have hbn : Below w3.heap.size w3 ((w3.alloc (.cells #[.slice none 0 0, .slice none 0 0] 47)).setRow w3.heap.size [x.at0, x.at1].toArray) := below_setRow (below_new (Below.refl _ _) _) (Nat.le_refl _) _
  generalize (w3.alloc (.cells #[.slice none 0 0, .slice none 0 0] 47)).setRow w3.heap.size [x.at0, x.at1].toArray = w4 at hR4 hbn ⊢
  replace hk := hk.keep hbn
  replace hm := hm.keep hbn
  replace hx := hx.keep hbn
  replace HB := Lib.hid (below_step HB.out hbn)
  clear hR3 hbn
  generalize w3.heap.size = g at hR4 ⊢
  by_cases hu : u = 0
  · subst hu
    obtain ⟨h1, h2⟩ := HX.out rfl
    obtain ⟨kA, kc, k, mA, mc, m'⟩ := x
    unfold TD.at0 TD.at1 at *
    dsimp only at h1 h2 hR4 ⊢
    obtain ⟨_, _, hxk, hxm⟩ := hx
    dsimp only at hxk hxm
    have k0 : w4.cell? ⟨g, 0, none⟩ = some (.slice kA k.length kc) := hR4.cell rfl
    go_wp2_with fail
    refine (same_any k.length n k key kA B kc d _ (Lib.hid rfl) HN hxk hk h1 (by omega)).mono ?_
    rintro e' w5 ⟨rfl, hb5⟩
    have k1 : w5.cell? ⟨g, 1, none⟩ = some (.slice mA m'.length mc) := (hR4.later hb5).cell rfl
    obtain ⟨b1, hb1⟩ : ∃ b1, sameB k key = b1 := ⟨_, rfl⟩
    rw [hb1]
    cases b1 with
    | false =>
      have hf : Hid (decide ((key, msg) ∈ conT ts ∧ tagT (conT ts) (key, msg) = tag) = false) := decide_eq_false fun h => by
        have h3 := HI.out.2 h
        have h4 : k = key := congrArg Prod.fst h3.2
        rw [(sameB_iff k key).2 h4] at hb1
        cases hb1
      go_wp2_with fail
      go_ret
      exact ⟨by rw [hf.out]; rfl, below_step HB.out hb5⟩
    | true =>
      go_wp2_with fail
      refine (same_any m'.length m m' msg mA C mc e _ (Lib.hid rfl) HM (hxm.keep hb5) (hm.keep hb5) h2 (by omega)).mono ?_
      rintro e' w6 ⟨rfl, hb6⟩
      have HE : Hid (decide ((key, msg) ∈ conT ts ∧ tagT (conT ts) (key, msg) = tag) = sameB m' msg) := by
        unfold Hid
        rw [Bool.eq_iff_iff, decide_eq_true_eq, sameB_iff, ← HI.out]
        have h4 := (sameB_iff k key).1 hb1
        constructor
        · intro h
          exact congrArg Prod.snd h.2
        · intro h
          subst h4 h
          refine ⟨?_, rfl⟩
          trivial
      go_wp2_with fail
      go_ret
      exact ⟨by rw [HE.out]; rfl, below_step HB.out (below_step hb5 hb6)⟩
  · have hu0 : (u == 0) = false := by simp [hu]
    have hf : Hid (decide ((key, msg) ∈ conT ts ∧ tagT (conT ts) (key, msg) = tag) = false) := decide_eq_false fun h => hu (HI.out.2 h).1
    go_wp2_with fail
    go_ret
    exact ⟨by rw [hf.out]; rfl, HB.out⟩
end Go.Proofs.YtknjpmoimjhddaaDoor
/-
  What the program's call copied of layer 6 answers: an engine in new memory. No conditions but those typed.
-/
namespace Go.Proofs.YtknjpmoimjhddaaDoor
set_option maxRecDepth 100000
open Go.RowKit
set_option linter.unusedSimpArgs false
set_option linter.unusedVariables false

def nilV : Value := .slice none 0 0
theorem make_terms (n : Nat) (hn : n ≤ 1000000) (w : World) : (Instr.makeSlice 22 (.int .i64 (n : Int)) (.int .i64 (n : Int))).run Tryd.prog w = .ok (.slice (some ⟨w.heap.size, 0, none⟩) n n) (w.alloc (.cells (List.replicate (n * 2) nilV).toArray 47)) := by
  obtain ⟨i0, hi, hz0, hz1, hz2⟩ := info_parts info_term
  have e : madeCells (Value.agg #[.slice none 0 0, .slice none 0 0]).cells (n * 2) = (List.replicate (n * 2) nilV).toArray := by
    apply Array.toList_inj.1
    apply List.ext_getElem
    · simp [madeCells]
    · intro i h1 h2
      simp only [madeCells, Value.cells, nilV]
      rcases Nat.mod_two_eq_zero_or_one i with h | h <;> simp [h]
  have := run_makeSlice (P := Tryd.prog) (w := w) 22 47 i0 (.agg #[.slice none 0 0, .slice none 0 0]) Tryd.underlying22 hi hz0 .i64 .i64 (n : Int) (n : Int) (by omega) (Int.le_refl _) (by rw [hz1]; omega) (by rw [hz2]; omega) (by omega)
  rw [hz1, Int.toNat_natCast, e] at this
  exact this

theorem Rd.setCells_row {w : World} {A : Option Addr} {L : List UInt8} (h : Rd vB w A L) {g : Nat} {t : TypeId} {l : List Value} (hR : Row w g t l) (hl : ∀ v ∈ l, ∀ x, v ≠ vB x) (o : Nat) (vs : List Value) : Rd vB (w.setCells g o vs) A L := fun hn => by
  obtain ⟨b, q, rfl, hc⟩ := h hn
  refine ⟨b, q, rfl, fun i hi => ?_⟩
  have hne : b ≠ g := by
    rintro rfl
    have h1 := hc i hi
    rw [hR.cell? (q + i)] at h1
    exact hl _ (List.mem_of_getElem? h1) _ rfl
  exact (World.cell?_setCells_out g vs o w ⟨b, q + i, none⟩ (fun e => absurd e hne)).trans (hc i hi)
theorem okT.setCells_row {w : World} {ts : List TD} (h : okT w ts) {g : Nat} {t : TypeId} {l : List Value} (hR : Row w g t l) (hl : ∀ v ∈ l, ∀ x, v ≠ vB x) (o : Nat) (vs : List Value) : okT (w.setCells g o vs) ts := fun x hx => by
  obtain ⟨h1, h2, h3, h4⟩ := h x hx
  exact ⟨h1, h2, h3.setCells_row hR hl o vs, h4.setCells_row hR hl o vs⟩
/-- The cells of a row of terms, the first of which are laid. -/
def halfT (us : List TD) (p : Nat) : List Value := cellsT us ++ List.replicate ((p - us.length) * 2) nilV
theorem halfT_no_byte (us : List TD) (p : Nat) : ∀ v ∈ halfT us p, ∀ x, v ≠ vB x := fun v hv x => by
  rcases List.mem_append.1 hv with h | h
  · obtain ⟨y, _, hy⟩ := List.mem_flatMap.1 h
    simp [TD.cells, TD.at0, TD.at1] at hy
    rcases hy with rfl | rfl
    · exact slice_no_byte _ _ _ x
    · exact slice_no_byte _ _ _ x
  · rw [(List.mem_replicate.1 h).2]
    exact slice_no_byte _ _ _ x
theorem halfT_length (us : List TD) (p : Nat) (h : us.length ≤ p) : (halfT us p).length = p * 2 := by
  unfold halfT
  rw [List.length_append, cellsT_length, List.length_replicate]
  omega
theorem halfT_next (us : List TD) (y : TD) (p : Nat) (h : us.length < p) : (halfT us p).take (us.length * 2) ++ [y.at0, y.at1] ++ (halfT us p).drop (us.length * 2 + 2) = halfT (us ++ [y]) p := by
  unfold halfT
  rw [List.take_left' (cellsT_length us), ← List.drop_drop, List.drop_left' (cellsT_length us), List.drop_replicate, cellsT_snoc, List.length_append]
  congr 2
  simp
  omega
theorem RdT.row {w : World} {g : Nat} {t : TypeId} {us : List TD} (h : Row w g t (cellsT us)) : RdT w (some ⟨g, 0, none⟩) us := fun _ => by
  refine ⟨g, 0, rfl, fun i hi => ?_⟩
  obtain ⟨g0, g1⟩ := cellsT_get us i hi
  rw [Nat.zero_add]
  exact ⟨h.cell g0, h.cell g1⟩

def CopyRel (K : Int) (ts : List TD) (A : Option Addr) (p c : Nat) (w : World) (i : Value) (wr : World) : Prop :=
  ∃ (k : Nat) (us : List TD), k ≤ p ∧ i = .int .i64 (k : Int) ∧ Hid (us.length = k) ∧ Row wr w.heap.size 24 [.int .i64 K, .slice A p c] ∧ Row wr (w.heap.size + 1) 24 [.int .i64 0, .slice none 0 0] ∧
    Row wr (w.heap.size + 2) 47 (halfT us p) ∧ okT wr us ∧ conT us = (conT ts).take k ∧ Below w.heap.size w wr
def termS (g : Nat) (a b : Value) (W : World) : Prop := W.cell? ⟨g, 0, none⟩ = some a ∧ W.cell? ⟨g, 1, none⟩ = some b

set_option maxHeartbeats 2000000 in
theorem ecopied_any (K : Int) (ts : List TD) (p : Nat) (A : Option Addr) (c : Nat) (w : World) (HP : Hid (ts.length = p)) (HL : Hid (lenT (conT ts))) (ht : RdT w A ts) (hok : okT w ts) (hp : p ≤ 1000000) (hc : p ≤ c) :
    Calls Tryd.prog 22 #[.agg #[.int .i64 K, .slice A p c]] w fun e w' => ∃ (us : List TD) (A' : Option Addr) (c' : Nat), e = .returned (.agg #[.int .i64 K, .slice A' p c']) ∧ Hid (us.length = p) ∧ p ≤ c' ∧ RdT w' A' us ∧ okT w' us ∧ Hid (conT us = conT ts) ∧ Below w.heap.size w w' := by
  obtain ⟨hR0, hB0⟩ := box_rows w 24 (.int .i64 K) (.slice A p c)
  have hR0' := hR0.alloc (.cells #[.int .i64 0, .slice none 0 0] 24)
  have hB1 := below_new hB0 (.cells #[.int .i64 0, .slice none 0 0] 24)
  have hR1 : Row ((w.alloc (.cells #[.int .i64 K, .slice A p c] 24)).alloc (.cells #[.int .i64 0, .slice none 0 0] 24)) (w.heap.size + 1) 24 [.int .i64 0, .slice none 0 0] := Row.new_at _ _ (by simp) _ _ _ rfl
  have hsz : ((w.alloc (.cells #[.int .i64 K, .slice A p c] 24)).alloc (.cells #[.int .i64 0, .slice none 0 0] 24)).heap.size = w.heap.size + 2 := by simp
  have HOK := Lib.hid hok
  clear hok
  go_enter Tryd.func22, Tryd.ntmps22
  go_upto_region 1 with fail
  generalize (w.alloc (.cells #[.int .i64 K, .slice A p c] 24)).alloc (.cells #[.int .i64 0, .slice none 0 0] 24) = W2 at hR0' hB1 hR1 hsz ⊢
  have c1 : W2.cell? ⟨w.heap.size, 1, none⟩ = some (.slice A p c) := hR0'.cell rfl
  have hmk := make_terms p hp W2
  rw [hsz] at hmk
  have hR2 : Row (W2.alloc (.cells (List.replicate (p * 2) nilV).toArray 47)) (w.heap.size + 2) 47 (halfT [] p) := Row.new_at _ _ hsz.symm _ _ _ rfl
  generalize (List.replicate (p * 2) nilV) = X at hmk hR2
  have hR0'' := hR0'.alloc (.cells X.toArray 47)
  have hR1'' := hR1.alloc (.cells X.toArray 47)
  have hB2 := below_new hB1 (.cells X.toArray 47)
  go_upto_region 2 with fail
  clear hmk c1 hR0 hB0 hR0' hR1 hB1 hsz
  generalize W2.alloc (.cells X.toArray 47) = W3 at hR2 hR0'' hR1'' hB2 ⊢
  have c1 : W3.cell? ⟨w.heap.size, 1, none⟩ = some (.slice A p c) := hR0''.cell rfl
  go_wp2_with fail
  go_loopw [13] (fun i wr => CopyRel K ts A p c w i wr) (fun i _ => p - (intOf i).toNat)
  case atStart => exact ⟨0, [], Nat.zero_le _, rfl, Lib.hid rfl, hR0'', hR1'', hR2, (fun x hx => by cases hx), by simp [conT], hB2⟩
  case round =>
    clear hR0'' hR1'' hR2 hB2 c1
    obtain ⟨k, us, hk1, rfl, HU, hR0, hR1, hR2, hus, hcon, hB⟩ := hrel
    have eU := HU.out
    subst eU
    clear HU
    by_cases hlt : us.length < p
    · have hlt' : us.length < ts.length := by rw [HP.out]; exact hlt
      obtain ⟨blk, o, rfl, hblk, hcell⟩ := ht.at hlt'
      have hx := (HOK.out ts[us.length] (List.getElem_mem hlt')).keep hB
      have hlen := lenT.at HL.out (List.getElem_mem hlt')
      have hlc : us.length < (conT ts).length := by rw [conT_length]; exact hlt'
      have HTK : Hid ((conT ts).take (us.length + 1) = conT us ++ [ts[us.length].c]) := by unfold Hid; rw [List.take_succ_eq_append_getElem hlc, conT_get ts _ hlt', hcon]
      obtain ⟨h0, h1⟩ := hcell _ hlt'
      have hc0 : wr.rangeAt blk (o + us.length * 2) [ts[us.length].at0, ts[us.length].at1] := fun j u hu => by
        match j, hu with
        | 0, hu => injection hu with hu; subst hu; exact (hB.cell (p := ⟨blk, o + us.length * 2, none⟩) hblk).trans h0
        | 1, hu => injection hu with hu; subst hu; exact (hB.cell (p := ⟨blk, o + us.length * 2 + 1, none⟩) hblk).trans h1
      generalize ts[us.length] = x at hx hlen HTK hc0
      have i0 : (0 : Int) ≤ (us.length : Int) := by omega
      have i1 : (us.length : Int) < (p : Int) := by omega
      have hRx : Row (wr.alloc (.cells #[.slice none 0 0, .slice none 0 0] 47)) wr.heap.size 47 [.slice none 0 0, .slice none 0 0] := Row.new wr _ _ _ rfl
      have HB := Lib.hid hB
      have HUS := Lib.hid hus
      clear h0 h1 hcell hk1 hB hcon hus
      go_upto_region 5 with (first
        | (refine wpList_load_mid rfl 47 (.tmp 16) rfl blk (o + us.length * 2) rfl [x.at0, x.at1] _ hc0 Tryd.underlying47 rfl (by exact size_term) ?_)
        | (refine wpList_store_row rfl 47 (.tmp 5) (.tmp 17) rfl wr.heap.size rfl [x.at0, x.at1] rfl _ _ hRx (by exact size_term) rfl (one_two _ _ rfl rfl) ?_))
      have hRy := hRx.setRow [x.at0, x.at1]
      have hbn : Below wr.heap.size wr ((wr.alloc (.cells #[.slice none 0 0, .slice none 0 0] 47)).setRow wr.heap.size [x.at0, x.at1].toArray) := below_setRow (below_new (Below.refl _ _) _) (Nat.le_refl _) _
      have hgx := hR2.lt
      generalize (wr.alloc (.cells #[.slice none 0 0, .slice none 0 0] 47)).setRow wr.heap.size [x.at0, x.at1].toArray = w1 at hRy hbn ⊢
      replace hx := hx.keep hbn
      replace hR0 := hR0.later hbn
      replace hR1 := hR1.later hbn
      replace hR2 := hR2.later hbn
      replace HUS := Lib.hid (HUS.out.keep hbn)
      replace HB := Lib.hid (below_step HB.out hbn)
      clear hbn hRx hc0
      generalize hgd : wr.heap.size = g1 at hRy hgx ⊢
      clear hgd
      obtain ⟨kA, kc, kl, mA, mc, ml⟩ := x
      unfold TD.at0 TD.at1 at *
      dsimp only at hlen hRy ⊢
      obtain ⟨hk1, hm1, hxk, hxm⟩ := hx
      dsimp only at hxk hxm
      have hS : termS g1 (.slice kA kl.length kc) (.slice mA ml.length mc) w1.drew := ⟨hRy.drew.cell rfl, hRy.drew.cell rfl⟩
      replace hxk := hxk.keep ((Below.refl w1.heap.size w1).drew)
      replace hxm := hxm.keep ((Below.refl w1.heap.size w1).drew)
      replace hRy := hRy.drew
      replace hR0 := hR0.drew
      replace hR1 := hR1.drew
      replace hR2 := hR2.drew
      replace HUS := Lib.hid (HUS.out.keep ((Below.refl w1.heap.size w1).drew))
      replace HB := Lib.hid HB.out.drew
      refine wp_region_plan_of (termS g1 (.slice kA kl.length kc) (.slice mA ml.length mc)) (.step 0 false (.step 1 false (.step 2 false (.step 3 false (.step 5 false (.step 6 false (.step 4 true (.step 7 true (.step 8 false (.step 9 false (.step 10 true .nil))))))))))) hS (by kernel_rfl) (by kernel_rfl) (by rfl) (by kernel_rfl) ?_
      generalize w1.drew = w1 at *
      iterate 6 (refine plan_read rfl (by rfl) (v := ?_) ?_ ?_; rotate_left 1; (intro W hW; (try dsimp only at hW); obtain ⟨hW0, hW1⟩ := hW; go_simp <;> with_reducible rfl); simp only [List.getElem_toArray, List.getElem_cons_zero, List.getElem_cons_succ, Act.put, List.setIfInBounds_toArray, List.set_cons_zero, List.set_cons_succ])
      refine plan_make_of rfl (by rfl) (fun K hK => ?_)
      go_simp
      refine (clone_at kl.length kl kA kc _ (Lib.hid rfl) hxk (by omega)).mono ?_
      rintro e' w2 ⟨A2, c2, rfl, hc2, hr2, hN2, hb2⟩
      replace hRy := hRy.later hb2
      refine hK.out _ _ ⟨hRy.cell rfl, hRy.cell rfl⟩ ?_
      clear hK K
      refine plan_make_of rfl (by rfl) (fun K hK => ?_)
      go_simp
      refine (clone_at ml.length ml mA mc _ (Lib.hid rfl) (hxm.keep hb2) (by omega)).mono ?_
      rintro e' w3 ⟨A3, c3, rfl, hc3, hr3, hN3, hb3⟩
      replace hRy := hRy.later hb3
      refine hK.out _ _ ⟨hRy.cell rfl, hRy.cell rfl⟩ ?_
      clear hK K
      have hb23 := below_step hb2 hb3
      replace hR0 := hR0.later hb23
      replace hR1 := hR1.later hb23
      replace hR2 := hR2.later hb23
      replace HUS := Lib.hid (HUS.out.keep hb23)
      replace HB := Lib.hid (below_step HB.out hb23)
      replace hr2 := hr2.keep hb3
      clear hb2 hb3 hb23 hxk hxm hN2 hN3 hS
      iterate 2 (refine plan_read rfl (by rfl) (v := ?_) ?_ ?_; rotate_left 1; (intro W hW; (try dsimp only at hW); obtain ⟨hW0, hW1⟩ := hW; go_simp <;> with_reducible rfl); simp only [List.getElem_toArray, List.getElem_cons_zero, List.getElem_cons_succ, Act.put, List.setIfInBounds_toArray, List.set_cons_zero, List.set_cons_succ])
      have hth : w3.there (w.heap.size + 2) (us.length * 2) 2 := fun j hj => by
        have hl := halfT_length us p (by omega)
        exact ⟨by rw [hR2.cell? (us.length * 2 + j), List.getElem?_eq_getElem (by omega)]; rfl, hR2.frozen _⟩
      have hnb := halfT_no_byte us p
      have hnx := halfT_next us ⟨A2, c2, kl, A3, c3, ml⟩ p hlt
      have hR2' := hR2.setCells [.slice A2 kl.length c2, .slice A3 ml.length c3] (us.length * 2) (by rw [halfT_length us p (by omega)]; simp; omega)
      have hus' : okT (w3.setCells (w.heap.size + 2) (us.length * 2) [.slice A2 kl.length c2, .slice A3 ml.length c3]) (us ++ [⟨A2, c2, kl, A3, c3, ml⟩]) :=
        (HUS.out.setCells_row hR2 hnb _ _).app (fun z hz => by
          simp at hz
          subst hz
          exact ⟨hc2, hc3, hr2.setCells_row hR2 hnb _ _, hr3.setCells_row hR2 hnb _ _⟩)
      have HREL : Hid (CopyRel K ts (some ⟨blk, o, none⟩) p c w (.int .i64 ((us.length : Int) + 1)) (w3.setCells (w.heap.size + 2) (us.length * 2) [.slice A2 kl.length c2, .slice A3 ml.length c3])) :=
        ⟨us.length + 1, us ++ [⟨A2, c2, kl, A3, c3, ml⟩], by omega, by go_num, by unfold Hid; simp, hR0.setCells_other (by omega) _ _, hR1.setCells_other (by omega) _ _, by rw [← hnx]; exact hR2', hus', by rw [conT_snoc, HTK.out]; rfl, below_setCells (by omega) _ _ HB.out⟩
      refine plan_make_of rfl (by rfl) (fun K hK => ?_)
      refine wp_store_mid 47 (.tmp 27) (.tmp 26) rfl (w.heap.size + 2) (us.length * 2) #[.slice A2 kl.length c2, .slice A3 ml.length c3] rfl rfl hth (by exact size_term) (by exact all_oneCell_toArray (one_two _ _ rfl rfl)) ?_
      refine hK.out _ _ ⟨(hRy.setCells_other (by omega) _ _).cell rfl, (hRy.setCells_other (by omega) _ _).cell rfl⟩ ?_
      clear hK K hus' hR2' hnx hnb hth HUS hR0 hR1 hR2 hRy hr2 hr3
      refine plan_done ?_
      go_wp2_with fail
      go_roundw
      case rel => exact HREL.out
      case measure => simp [intOf]; omega
    · have hul : us.length = p := by omega
      have hcu : conT us = conT ts := by rw [hcon, hul, ← HP.out, ← conT_length, List.take_length]
      have hh : halfT us p = cellsT us := by unfold halfT; rw [hul]; simp
      rw [hh] at hR2
      have c0 : wr.cell? ⟨w.heap.size, 0, none⟩ = some (.int .i64 K) := hR0.cell rfl
      have hrt : RdT wr (some ⟨w.heap.size + 2, 0, none⟩) us := RdT.row hR2
      have i1 : ¬ (us.length : Int) < (p : Int) := by omega
      have HB := Lib.hid hB
      have HC := Lib.hid hcu
      have HUL := Lib.hid hul
      clear hcu hh hcon hul hB hk1
      go_wp2_with (refine wpList_store_row rfl 24 (.tmp 2) (.tmp 32) rfl (w.heap.size + 1) rfl [.int .i64 K, .slice (some ⟨w.heap.size + 2, 0, none⟩) p p] rfl _ _ hR1 (by exact size_engine) rfl (one_pair _ _ rfl rfl) ?_)
      refine bodyPost_ret (results_cell_row (p := 2) (ty := 24) (by rfl) _ _ (w.heap.size + 1) 24 _ (0, 0) _ (by rfl) (by exact hR1.setRow _) Tryd.underlying24 (by rfl) (by exact size_engine)) (by rfl) ?_
      have hnb := two_no_byte 0 (.slice none 0 0) (slice_no_byte none 0 0)
      exact ⟨us, _, p, rfl, HUL, Nat.le_refl _, hrt.setRow_row hR1 _, hus.setRow_row hR1 hnb _, HC, below_setRow HB.out (by omega) _⟩
end Go.Proofs.YtknjpmoimjhddaaDoor
/-
  What the program's calls of layer 6 answer: New, Right, Tag, Fits. Condition: the package's table holds sixty-four words (for tags).
-/
namespace Go.Proofs.YtknjpmoimjhddaaDoor
set_option maxRecDepth 100000
open Go.RowKit
set_option linter.unusedSimpArgs false
set_option linter.unusedVariables false

/-- Three results, the first of them a whole block. -/
theorem results_row_tmp2 {P : Program} {fn : Func} {p u v : Tmp} {ty : TypeId} (h : fn.results = #[.cell p ty, .tmp u, .tmp v]) (tmps : Array Value) (w : World) (g : Nat) (t : TypeId) (l : List Value) (d : TypeDesc) (hp : tmps.getD p undef = .pointer (some ⟨g, 0, none⟩)) (hg : Row w g t l)
    (hu : P.underlying ty = some d) (hd : d.isRow = true) (hi : (P.info? ty).map (·.size) = some l.length) : (results fn tmps).run P w = .ok (.tuple #[.agg l.toArray, tmps.getD u undef, tmps.getD v undef]) w := by
  have e : (results fn tmps).run P w = ((asAddr (tmps.getD p undef)).run P w).andThen fun a w₁ => ((loadVar ty a).run P w₁).andThen fun x w₂ => .ok (.tuple #[x, tmps.getD u undef, tmps.getD v undef]) w₂ := by
    simp only [results, h]
    simp [Sem.run_bind, Result.andThen]
  rw [e, hp]
  simp only [asAddr, Sem.run_pure, Result.andThen_ok, hg.loadVar (P := P) ty d hu hd hi]
theorem maker_one (A : Option Addr) (c : Nat) (w : World) :
    Calls Tryd.prog 30 #[.agg #[.int .i64 1, .slice A 0 c]] w fun e w' => e = .returned (.tuple #[.iface 108 (.agg #[.int .i64 1, .slice A 0 c]), .bool true]) ∧ Below w.heap.size w w' := by
  obtain ⟨hR, hB⟩ := box_rows w 24 (.int .i64 1) (.slice A 0 c)
  have c0 : (w.alloc (.cells #[.int .i64 1, .slice A 0 c] 24)).cell? ⟨w.heap.size, 0, none⟩ = some (.int .i64 1) := hR.cell rfl
  go_enter Tryd.func30, Tryd.ntmps30
  go_wp2_with (refine wpList_load_part rfl 24 (.tmp 1) rfl w.heap.size 0 rfl _ _ hR [.int .i64 1, .slice A 0 c] (by rfl) _ Tryd.underlying24 rfl (by exact size_engine) ?_)
  refine (cright_any 1 0 A c _ (by omega)).mono ?_
  rintro e w' ⟨rfl, hb⟩
  have hd : decide ((0 : Nat) = 0) = true := rfl
  rw [hd]
  go_wp2_with fail
  go_ret2
  exact ⟨rfl, below_step hB hb⟩
theorem maker_two (ts : List TD) (p : Nat) (A : Option Addr) (c : Nat) (w : World) (HP : Hid (ts.length = p)) (HL : Hid (lenT (conT ts))) (ht : RdT w A ts) (hok : okT w ts) (hp : p ≤ 1000000000) (hc : p ≤ c) (HR : Hid (rightT (conT ts) = true)) :
    Calls Tryd.prog 30 #[.agg #[.int .i64 2, .slice A p c]] w fun e w' => e = .returned (.tuple #[.iface 109 (.agg #[.int .i64 2, .slice A p c]), .bool true]) ∧ Below w.heap.size w w' := by
  obtain ⟨hR, hB⟩ := box_rows w 24 (.int .i64 2) (.slice A p c)
  have c0 : (w.alloc (.cells #[.int .i64 2, .slice A p c] 24)).cell? ⟨w.heap.size, 0, none⟩ = some (.int .i64 2) := hR.cell rfl
  go_enter Tryd.func30, Tryd.ntmps30
  go_wp2_with (refine wpList_load_part rfl 24 (.tmp 1) rfl w.heap.size 0 rfl _ _ hR [.int .i64 2, .slice A p c] (by rfl) _ Tryd.underlying24 rfl (by exact size_engine) ?_)
  refine (sright_any ts 2 p A c _ HP HL (ht.keep hB) (hok.keep hB) hp hc).mono ?_
  rintro e w' ⟨rfl, hb⟩
  rw [HR.out]
  go_wp2_with fail
  go_ret2
  exact ⟨rfl, below_step hB hb⟩
theorem maker_bad (K : Int) (ts : List TD) (p : Nat) (A : Option Addr) (c : Nat) (w : World) (HP : Hid (ts.length = p)) (HL : Hid (lenT (conT ts))) (ht : RdT w A ts) (hok : okT w ts) (hp : p ≤ 1000000000) (hc : p ≤ c) (HR : Hid (rightE K (conT ts) = false)) :
    Calls Tryd.prog 30 #[.agg #[.int .i64 K, .slice A p c]] w fun e w' => e = .returned (.tuple #[.nilIface, .bool false]) ∧ Below w.heap.size w w' := by
  obtain ⟨hR, hB⟩ := box_rows w 24 (.int .i64 K) (.slice A p c)
  have c0 : (w.alloc (.cells #[.int .i64 K, .slice A p c] 24)).cell? ⟨w.heap.size, 0, none⟩ = some (.int .i64 K) := hR.cell rfl
  by_cases h1 : K = 1
  · subst h1
    have h0 : p ≠ 0 := fun h => by
      have e : conT ts = [] := List.length_eq_zero_iff.1 (by rw [conT_length, HP.out, h])
      have := HR.out
      rw [e, rightE_one] at this
      cases this
    have hd : Hid (decide (p = 0) = false) := decide_eq_false h0
    go_enter Tryd.func30, Tryd.ntmps30
    go_wp2_with (refine wpList_load_part rfl 24 (.tmp 1) rfl w.heap.size 0 rfl _ _ hR [.int .i64 1, .slice A p c] (by rfl) _ Tryd.underlying24 rfl (by exact size_engine) ?_)
    refine (cright_any 1 p A c _ hp).mono ?_
    rintro e w' ⟨rfl, hb⟩
    rw [hd.out]
    go_wp2_with fail
    go_ret2
    exact ⟨rfl, below_step hB hb⟩
  · have k1 : (K == 1) = false := by simp [h1]
    by_cases h2 : K = 2
    · subst h2
      have HF : Hid (rightT (conT ts) = false) := by
        have := HR.out
        unfold rightE at this
        unfold Hid
        simpa using this
      go_enter Tryd.func30, Tryd.ntmps30
      go_wp2_with (refine wpList_load_part rfl 24 (.tmp 1) rfl w.heap.size 0 rfl _ _ hR [.int .i64 2, .slice A p c] (by rfl) _ Tryd.underlying24 rfl (by exact size_engine) ?_)
      refine (sright_any ts 2 p A c _ HP HL (ht.keep hB) (hok.keep hB) hp hc).mono ?_
      rintro e w' ⟨rfl, hb⟩
      rw [HF.out]
      go_wp2_with fail
      go_ret2
      exact ⟨rfl, below_step hB hb⟩
    · have k2 : (K == 2) = false := by simp [h2]
      go_enter Tryd.func30, Tryd.ntmps30
      go_wp2_with fail
      go_ret2
      exact ⟨rfl, hB⟩

theorem rightE_any (K : Int) (ts : List TD) (p : Nat) (A : Option Addr) (c : Nat) (w : World) (HP : Hid (ts.length = p)) (HL : Hid (lenT (conT ts))) (ht : RdT w A ts) (hok : okT w ts) (hp : p ≤ 1000000) (hc : p ≤ c) :
    Calls Tryd.prog 14 #[.agg #[.int .i64 K, .slice A p c]] w fun e w' => e = .returned (.bool (rightE K (conT ts))) ∧ Below w.heap.size w w' := by
  obtain ⟨hR, hB⟩ := box_rows w 24 (.int .i64 K) (.slice A p c)
  have hm : Calls Tryd.prog 30 #[.agg #[.int .i64 K, .slice A p c]] (w.alloc (.cells #[.int .i64 K, .slice A p c] 24)) fun e w' => ∃ v, e = .returned (.tuple #[v, .bool (rightE K (conT ts))]) ∧ Below (w.alloc (.cells #[.int .i64 K, .slice A p c] 24)).heap.size (w.alloc (.cells #[.int .i64 K, .slice A p c] 24)) w' := by
    by_cases hr : rightE K (conT ts) = true
    · rw [hr]
      rcases rightE_cases hr with ⟨rfl, h0⟩ | ⟨rfl, hT⟩
      · have e0 : p = 0 := by rw [← HP.out, ← conT_length, h0]; rfl
        subst e0
        exact (maker_one A c _).mono fun e w' ⟨he, hb⟩ => ⟨_, he, hb⟩
      · exact (maker_two ts p A c _ HP HL (ht.keep hB) (hok.keep hB) (by omega) hc (Lib.hid hT)).mono fun e w' ⟨he, hb⟩ => ⟨_, he, hb⟩
    · rw [Bool.eq_false_iff.2 hr]
      exact (maker_bad K ts p A c _ HP HL (ht.keep hB) (hok.keep hB) (by omega) hc (Lib.hid (Bool.eq_false_iff.2 hr))).mono fun e w' ⟨he, hb⟩ => ⟨_, he, hb⟩
  generalize rightE K (conT ts) = r at hm ⊢
  go_enter Tryd.func14, Tryd.ntmps14
  go_wp2_with (refine wpList_load_part rfl 24 (.tmp 1) rfl w.heap.size 0 rfl _ _ hR [.int .i64 K, .slice A p c] (by rfl) _ Tryd.underlying24 rfl (by exact size_engine) ?_)
  refine hm.mono ?_
  rintro e w' ⟨v, rfl, hb⟩
  clear hm
  go_wp2_with fail
  go_ret
  exact ⟨rfl, below_step hB hb⟩
/-- What a tag's call hands back, by an engine that is right, and by another one. -/
def TagGood [Inhabited Tab] (K : Int) (ts : List TD) (x : Tm) (w : World) (e : Ending) (w' : World) : Prop :=
  ∃ (us : List TD) (p : Nat) (A : Option Addr) (c : Nat) (tA : Option Addr) (tc : Nat), e = .returned (.tuple #[.agg #[.int .i64 K, .slice A p c], .slice tA 8 tc, .int .i64 0]) ∧ Hid (us.length = p) ∧ p ≤ c ∧ 8 ≤ tc ∧ RdT w' A us ∧ okT w' us ∧ Hid (conT us = termsE K (conT ts) x) ∧ Rd vB w' tA (bytesE K (conT ts) x) ∧ Below w.heap.size w w'
def TagBad (K : Int) (ts : List TD) (w : World) (e : Ending) (w' : World) : Prop :=
  ∃ (us : List TD) (p : Nat) (A : Option Addr) (c : Nat) (tA : Option Addr) (tc : Nat), e = .returned (.tuple #[.agg #[.int .i64 K, .slice A p c], .slice tA 0 tc, .int .i64 1]) ∧ Hid (us.length = p) ∧ p ≤ c ∧ RdT w' A us ∧ okT w' us ∧ Hid (conT us = conT ts) ∧ Below w.heap.size w w'
theorem tagE_good [Inhabited Tab] (K : Int) (ts : List TD) (key msg : List UInt8) (p n m : Nat) (A B C : Option Addr) (c d e : Nat) (w : World) (HP : Hid (ts.length = p)) (HL : Hid (lenT (conT ts))) (HN : Hid (key.length = n)) (HM : Hid (msg.length = m)) (ht : RdT w A ts) (hok : okT w ts) (hk : Rd vB w B key) (hm : Rd vB w C msg) (hp : p ≤ 1000000) (hc : p ≤ c) (hn : n ≤ 1000000) (hmm : m ≤ 1000000) (hnd : n ≤ d) (hme : m ≤ e) (HR : Hid (rightE K (conT ts) = true)) (HK : Hid (KTab w)) :
    Calls Tryd.prog 40 #[.agg #[.int .i64 K, .slice A p c], .slice B n d, .slice C m e] w (TagGood K ts (key, msg) w) := by
  obtain ⟨hR, hB0⟩ := box_rows w 24 (.int .i64 K) (.slice A p c)
  have hR1 := hR.alloc (.cells #[.int .i64 0, .slice none 0 0] 24)
  have hB := below_new hB0 (.cells #[.int .i64 0, .slice none 0 0] 24)
  have hR2 : Row ((w.alloc (.cells #[.int .i64 K, .slice A p c] 24)).alloc (.cells #[.int .i64 0, .slice none 0 0] 24)) (w.heap.size + 1) 24 [.int .i64 0, .slice none 0 0] := Row.new_at _ _ (by simp) _ _ _ rfl
  replace ht := ht.keep hB
  replace hok := hok.keep hB
  replace hk := hk.keep hB
  replace hm := hm.keep hB
  replace HK := Lib.hid (HK.out.keep hB)
  clear hR hB0
  go_enter Tryd.func40, Tryd.ntmps40
  go_upto_region 1 with fail
  generalize (w.alloc (.cells #[.int .i64 K, .slice A p c] 24)).alloc (.cells #[.int .i64 0, .slice none 0 0] 24) = W2 at hR1 hR2 hB ht hok hk hm HK ⊢
  have hnb := two_no_byte 0 (.slice none 0 0) (slice_no_byte none 0 0)
  rcases rightE_cases HR.out with ⟨rfl, h0⟩ | ⟨rfl, hT⟩
  · have e0 : p = 0 := by rw [← HP.out, ← conT_length, h0]; rfl
    have e1 : ts = [] := List.length_eq_zero_iff.1 (by rw [HP.out, e0])
    subst e0 e1
    clear h0
    go_upto_region 2 with (first | (refine wpList_load_part rfl 24 (.tmp 3) rfl w.heap.size 0 rfl _ _ hR1 [.int .i64 1, .slice A 0 c] (by rfl) _ Tryd.underlying24 rfl (by exact size_engine) ?_) | (go_at_call 30; refine (maker_one A c _).mono ?_; rintro e' w3 ⟨rfl, hb⟩))
    replace hR2 := hR2.later hb
    replace hk := hk.keep hb
    replace hm := hm.keep hb
    replace HK := Lib.hid (HK.out.keep hb)
    replace hB := below_step hB hb
    clear hb hR1 ht hok
    go_wp2_with fail
    refine (ctag_any 1 key msg 0 n m A B C c d e _ HN HM hk hm hn hmm hnd HK).mono ?_
    rintro e' w4 ⟨tA, tc, rfl, htc, hr, hb⟩
    replace hR2 := hR2.later hb
    have HB := Lib.hid (below_step hB hb)
    clear hb hB hk hm
    have hR3 : Row (w4.alloc (.cells #[.int .i64 0, .slice none 0 0] 24)) w4.heap.size 24 [.int .i64 0, .slice none 0 0] := Row.new w4 _ _ _ rfl
    go_upto_region 5 with (refine wpList_store_row rfl 24 (.tmp 11) (.tmp 27) rfl w4.heap.size rfl [.int .i64 1, .slice none 0 0] rfl _ _ hR3 (by exact size_engine) rfl (one_pair _ _ rfl rfl) ?_)
    have hR4 := hR3.setRow [.int .i64 1, .slice none 0 0]
    have hbn : Below w4.heap.size w4 ((w4.alloc (.cells #[.int .i64 0, .slice none 0 0] 24)).setRow w4.heap.size [.int .i64 1, .slice none 0 0].toArray) := below_setRow (below_new (Below.refl _ _) _) (Nat.le_refl _) _
    generalize (w4.alloc (.cells #[.int .i64 0, .slice none 0 0] 24)).setRow w4.heap.size [.int .i64 1, .slice none 0 0].toArray = w5 at hR4 hbn ⊢
    replace hR2 := hR2.later hbn
    replace hr := hr.keep hbn
    replace HB := Lib.hid (below_step HB.out hbn)
    clear hR3 hbn
    generalize w4.heap.size = g at hR4 ⊢
    go_wp2_with (first | (refine wpList_load_part rfl 24 (.tmp 11) rfl g 0 rfl _ _ hR4 [.int .i64 1, .slice none 0 0] (by rfl) _ Tryd.underlying24 rfl (by exact size_engine) ?_) | (refine wpList_store_row rfl 24 (.tmp 6) (.tmp 29) rfl (w.heap.size + 1) rfl [.int .i64 1, .slice none 0 0] rfl _ _ hR2 (by exact size_engine) rfl (one_pair _ _ rfl rfl) ?_))
    refine bodyPost_ret (results_row_tmp2 (p := 6) (u := 7) (v := 8) (ty := 24) (by rfl) _ _ (w.heap.size + 1) 24 _ _ (by rfl) (by exact hR2.setRow _) Tryd.underlying24 (by rfl) (by exact size_engine)) (by rfl) ?_
    exact ⟨[], 0, none, 0, tA, tc, rfl, Lib.hid rfl, Nat.le_refl _, htc, RdT.nil, (fun x hx => by cases hx), rfl, hr.setRow_row hR2 hnb _, below_setRow HB.out (by omega) _⟩
  · go_upto_region 2 with (first | (refine wpList_load_part rfl 24 (.tmp 3) rfl w.heap.size 0 rfl _ _ hR1 [.int .i64 2, .slice A p c] (by rfl) _ Tryd.underlying24 rfl (by exact size_engine) ?_) | (go_at_call 30; refine (maker_two ts p A c _ HP HL ht hok (by omega) hc (Lib.hid hT)).mono ?_; rintro e' w3 ⟨rfl, hb⟩))
    replace hR2 := hR2.later hb
    replace ht := ht.keep hb
    replace hok := hok.keep hb
    replace hk := hk.keep hb
    replace hm := hm.keep hb
    replace hB := below_step hB hb
    clear hb hR1
    go_wp2_with fail
    refine (stag_any ts key msg p n m A B C c d e _ HP HN HM HL ht hok hk hm hp hc hn hmm).mono ?_
    rintro e' w4 ⟨us, q, A', c', tA, tc, rfl, HQ, hqc, htc, htu, hoku, HC, hr, hb⟩
    replace hR2 := hR2.later hb
    have HB := Lib.hid (below_step hB hb)
    clear hb hB hk hm ht hok
    have hR3 : Row (w4.alloc (.cells #[.int .i64 0, .slice none 0 0] 24)) w4.heap.size 24 [.int .i64 0, .slice none 0 0] := Row.new w4 _ _ _ rfl
    go_upto_region 5 with (refine wpList_store_row rfl 24 (.tmp 11) (.tmp 27) rfl w4.heap.size rfl [.int .i64 2, .slice A' q c'] rfl _ _ hR3 (by exact size_engine) rfl (one_pair _ _ rfl rfl) ?_)
    have hR4 := hR3.setRow [.int .i64 2, .slice A' q c']
    have hbn : Below w4.heap.size w4 ((w4.alloc (.cells #[.int .i64 0, .slice none 0 0] 24)).setRow w4.heap.size [.int .i64 2, .slice A' q c'].toArray) := below_setRow (below_new (Below.refl _ _) _) (Nat.le_refl _) _
    generalize (w4.alloc (.cells #[.int .i64 0, .slice none 0 0] 24)).setRow w4.heap.size [.int .i64 2, .slice A' q c'].toArray = w5 at hR4 hbn ⊢
    replace hR2 := hR2.later hbn
    replace hr := hr.keep hbn
    replace htu := htu.keep hbn
    replace hoku := hoku.keep hbn
    replace HB := Lib.hid (below_step HB.out hbn)
    clear hR3 hbn
    generalize w4.heap.size = g at hR4 ⊢
    go_wp2_with (first | (refine wpList_load_part rfl 24 (.tmp 11) rfl g 0 rfl _ _ hR4 [.int .i64 2, .slice A' q c'] (by rfl) _ Tryd.underlying24 rfl (by exact size_engine) ?_) | (refine wpList_store_row rfl 24 (.tmp 6) (.tmp 29) rfl (w.heap.size + 1) rfl [.int .i64 2, .slice A' q c'] rfl _ _ hR2 (by exact size_engine) rfl (one_pair _ _ rfl rfl) ?_))
    refine bodyPost_ret (results_row_tmp2 (p := 6) (u := 7) (v := 8) (ty := 24) (by rfl) _ _ (w.heap.size + 1) 24 _ _ (by rfl) (by exact hR2.setRow _) Tryd.underlying24 (by rfl) (by exact size_engine)) (by rfl) ?_
    exact ⟨us, q, A', c', tA, tc, rfl, HQ, hqc, htc, htu.setRow_row hR2 _, hoku.setRow_row hR2 hnb _, HC, hr.setRow_row hR2 hnb _, below_setRow HB.out (by omega) _⟩
theorem tagE_bad [Inhabited Tab] (K : Int) (ts : List TD) (key msg : List UInt8) (p n m : Nat) (A B C : Option Addr) (c d e : Nat) (w : World) (HP : Hid (ts.length = p)) (HL : Hid (lenT (conT ts))) (ht : RdT w A ts) (hok : okT w ts) (hp : p ≤ 1000000) (hc : p ≤ c) (HR : Hid (rightE K (conT ts) = false)) (HK : Hid (KTab w)) :
    Calls Tryd.prog 40 #[.agg #[.int .i64 K, .slice A p c], .slice B n d, .slice C m e] w (TagBad K ts w) := by
  obtain ⟨hR, hB0⟩ := box_rows w 24 (.int .i64 K) (.slice A p c)
  have hR1 := hR.alloc (.cells #[.int .i64 0, .slice none 0 0] 24)
  have hB := below_new hB0 (.cells #[.int .i64 0, .slice none 0 0] 24)
  have hR2 : Row ((w.alloc (.cells #[.int .i64 K, .slice A p c] 24)).alloc (.cells #[.int .i64 0, .slice none 0 0] 24)) (w.heap.size + 1) 24 [.int .i64 0, .slice none 0 0] := Row.new_at _ _ (by simp) _ _ _ rfl
  replace ht := ht.keep hB
  replace hok := hok.keep hB
  clear hR hB0
  go_enter Tryd.func40, Tryd.ntmps40
  go_upto_region 1 with fail
  generalize (w.alloc (.cells #[.int .i64 K, .slice A p c] 24)).alloc (.cells #[.int .i64 0, .slice none 0 0] 24) = W2 at hR1 hR2 hB ht hok ⊢
  go_wp2_with (refine wpList_load_part rfl 24 (.tmp 3) rfl w.heap.size 0 rfl _ _ hR1 [.int .i64 K, .slice A p c] (by rfl) _ Tryd.underlying24 rfl (by exact size_engine) ?_)
  refine (maker_bad K ts p A c _ HP HL ht hok (by omega) hc HR).mono ?_
  rintro e' w3 ⟨rfl, hb⟩
  replace hR1 := hR1.later hb
  replace hR2 := hR2.later hb
  replace ht := ht.keep hb
  replace hok := hok.keep hb
  replace hB := below_step hB hb
  clear hb
  go_wp2_with (refine wpList_load_part rfl 24 (.tmp 3) rfl w.heap.size 0 rfl _ _ hR1 [.int .i64 K, .slice A p c] (by rfl) _ Tryd.underlying24 rfl (by exact size_engine) ?_)
  refine (ecopied_any K ts p A c _ HP HL ht hok hp hc).mono ?_
  rintro e' w4 ⟨us, A', c', rfl, HU, hpc, hrt, hus, HC, hb⟩
  replace hR2 := hR2.later hb
  have HB := Lib.hid (below_step hB hb)
  clear hb hB hR1 ht hok
  go_wp2_with (refine wpList_store_row rfl 24 (.tmp 6) (.tmp 21) rfl (w.heap.size + 1) rfl [.int .i64 K, .slice A' p c'] rfl _ _ hR2 (by exact size_engine) rfl (one_pair _ _ rfl rfl) ?_)
  refine bodyPost_ret (results_row_tmp2 (p := 6) (u := 7) (v := 8) (ty := 24) (by rfl) _ _ (w.heap.size + 1) 24 _ _ (by rfl) (by exact hR2.setRow _) Tryd.underlying24 (by rfl) (by exact size_engine)) (by rfl) ?_
  have hnb := two_no_byte 0 (.slice none 0 0) (slice_no_byte none 0 0)
  exact ⟨us, p, A', c', none, 0, rfl, HU, hpc, hrt.setRow_row hR2 _, hus.setRow_row hR2 hnb _, HC, below_setRow HB.out (by omega) _⟩
theorem fitsE_any [Inhabited Tab] (K : Int) (ts : List TD) (key msg tag : List UInt8) (p n m q : Nat) (A B C D : Option Addr) (c d e f : Nat) (w : World) (HP : Hid (ts.length = p)) (HL : Hid (lenT (conT ts))) (HN : Hid (key.length = n)) (HM : Hid (msg.length = m)) (HQ : Hid (tag.length = q)) (ht : RdT w A ts) (hok : okT w ts) (hk : Rd vB w B key) (hm : Rd vB w C msg) (hg : Rd vB w D tag) (hp : p ≤ 1000000) (hc : p ≤ c) (hn : n ≤ 1000000) (hmm : m ≤ 1000000) (hq : q ≤ 1000000) (hnd : n ≤ d) (hme : m ≤ e) (hqf : q ≤ f) (HK : Hid (KTab w)) :
    Calls Tryd.prog 42 #[.agg #[.int .i64 K, .slice A p c], .slice B n d, .slice C m e, .slice D q f] w fun e w' => e = .returned (.bool (fitsE K (conT ts) (key, msg) tag)) ∧ Below w.heap.size w w' := by
  obtain ⟨hR, hB⟩ := box_rows w 24 (.int .i64 K) (.slice A p c)
  replace ht := ht.keep hB
  replace hok := hok.keep hB
  replace hk := hk.keep hB
  replace hm := hm.keep hB
  replace hg := hg.keep hB
  replace HK := Lib.hid (HK.out.keep hB)
  obtain ⟨r, hr⟩ : ∃ r, rightE K (conT ts) = r := ⟨_, rfl⟩
  cases r with
  | false =>
    have HF : Hid (fitsE K (conT ts) (key, msg) tag = false) := fitsE_wrong _ _ hr
    go_enter Tryd.func42, Tryd.ntmps42
    go_wp2_with (refine wpList_load_part rfl 24 (.tmp 4) rfl w.heap.size 0 rfl _ _ hR [.int .i64 K, .slice A p c] (by rfl) _ Tryd.underlying24 rfl (by exact size_engine) ?_)
    refine (maker_bad K ts p A c _ HP HL ht hok (by omega) hc (Lib.hid hr)).mono ?_
    rintro e' w3 ⟨rfl, hb⟩
    go_wp2_with fail
    go_ret
    exact ⟨by rw [HF.out]; rfl, below_step hB hb⟩
  | true =>
    rcases rightE_cases hr with ⟨rfl, h0⟩ | ⟨rfl, hT⟩
    · have e0 : p = 0 := by rw [← HP.out, ← conT_length, h0]; rfl
      have HF : Hid (fitsE 1 (conT ts) (key, msg) tag = decide ((macL key msg).take 8 = tag)) := by
        unfold Hid fitsE bytesE
        rw [hr]
        simp
      subst e0
      go_enter Tryd.func42, Tryd.ntmps42
      go_upto_region 2 with (first | (refine wpList_load_part rfl 24 (.tmp 4) rfl w.heap.size 0 rfl _ _ hR [.int .i64 1, .slice A 0 c] (by rfl) _ Tryd.underlying24 rfl (by exact size_engine) ?_) | (go_at_call 30; refine (maker_one A c _).mono ?_; rintro e' w3 ⟨rfl, hb⟩))
      replace hk := hk.keep hb
      replace hm := hm.keep hb
      replace hg := hg.keep hb
      replace HK := Lib.hid (HK.out.keep hb)
      replace hB := below_step hB hb
      clear hb hr ht hok h0
      go_wp2_with fail
      refine (cfits_any 1 key msg tag 0 n m q A B C D c d e f _ HN HM HQ hk hm hg hn hmm hq hnd HK).mono ?_
      rintro e' w4 ⟨rfl, hb⟩
      rw [← HF.out]
      go_wp2_with fail
      go_ret
      exact ⟨rfl, below_step hB hb⟩
    · have HF : Hid (fitsE 2 (conT ts) (key, msg) tag = decide ((key, msg) ∈ conT ts ∧ tagT (conT ts) (key, msg) = tag)) := by
        unfold Hid fitsE bytesE
        rw [hr]
        simp [Bool.decide_and]
      go_enter Tryd.func42, Tryd.ntmps42
      go_upto_region 2 with (first | (refine wpList_load_part rfl 24 (.tmp 4) rfl w.heap.size 0 rfl _ _ hR [.int .i64 2, .slice A p c] (by rfl) _ Tryd.underlying24 rfl (by exact size_engine) ?_) | (go_at_call 30; refine (maker_two ts p A c _ HP HL ht hok (by omega) hc (Lib.hid hT)).mono ?_; rintro e' w3 ⟨rfl, hb⟩))
      replace ht := ht.keep hb
      replace hok := hok.keep hb
      replace hk := hk.keep hb
      replace hm := hm.keep hb
      replace hg := hg.keep hb
      replace hB := below_step hB hb
      clear hb hr
      have HT := Lib.hid hT
      clear hT
      go_wp2_with fail
      refine (sfits_any 2 ts key msg tag p n m q A B C D c d e f _ HP HN HM HQ HL ht hok hk hm hg hp hc hn hmm hq HT).mono ?_
      rintro e' w4 ⟨rfl, hb⟩
      rw [← HF.out]
      go_wp2_with fail
      go_ret
      exact ⟨rfl, below_step hB hb⟩

end Go.Proofs.YtknjpmoimjhddaaDoor
/-
  What the program's package seal answers (landed code): Fault, Put, Check. Condition: the package's table holds sixty-four words (for tags).
-/
namespace Go.Proofs.YtknjpmoimjhddaaDoor
set_option maxRecDepth 100000
open Go.RowKit
set_option linter.unusedSimpArgs false
set_option linter.unusedVariables false

theorem faultA_any (k : Int) (w : World) :
    Calls Tryd.prog 23 #[.int .i64 k] w fun e w' => ∃ g, e = .returned (errV g) ∧ Flt w' g 4 k ∧ Below w.heap.size w w' ∧ w.heap.size ≤ g := by
  go_enter Tryd.func23, Tryd.ntmps23
  go_wp2_with fail
  go_ret
  exact ⟨_, rfl, Row.new w _ _ _ rfl, below_new (Below.refl _ _) _, Nat.le_refl _⟩

theorem errV_inj {g g' : Nat} (h : errV g = errV g') : g = g' := by
  unfold errV at h
  simp at h
  exact h

/-- Blocks of unlike types are unlike. -/
theorem Row.ne_type {w : World} {g g' : Nat} {t t' : TypeId} {l l' : List Value} (h : Row w g t l) (k : Row w g' t' l') (ht : t ≠ t') : g ≠ g' := fun e => by
  subst e
  have := h.symm.trans k
  simp at this
  exact ht this.2
theorem Flt.ne_engine {W : World} {f g : Nat} {s k : Int} {l : List Value} (h : Flt W f s k) (hg : Row W g 24 l) : f ≠ g := Row.ne_type h hg (by decide)

/-! ### Put -/
/-- Three results, the first of them a whole block. -/
def SealBad (K : Int) (ts : List TD) (w : World) (e : Ending) (w' : World) : Prop :=
  ∃ (us : List TD) (p : Nat) (A : Option Addr) (c g : Nat) (tA : Option Addr) (tc : Nat), e = .returned (.tuple #[.agg #[.int .i64 K, .slice A p c], .slice tA 0 tc, errV g]) ∧ Hid (us.length = p) ∧ p ≤ c ∧ RdT w' A us ∧ okT w' us ∧ Hid (conT us = conT ts) ∧ Flt w' g 4 1 ∧ Below w.heap.size w w'
/-- Put hands back the engine behind the tag, the bytes with the tag behind them, and no error. -/
def PutGood [Inhabited Tab] (K : Int) (ts : List TD) (key x : List UInt8) (w : World) (e₁ : Ending) (w' : World) : Prop :=
  ∃ (us : List TD) (p : Nat) (A : Option Addr) (c n : Nat) (tA : Option Addr) (tc : Nat), e₁ = .returned (.tuple #[.agg #[.int .i64 K, .slice A p c], .slice tA n tc, .nilIface]) ∧ Hid (us.length = p) ∧ p ≤ c ∧ RdT w' A us ∧ okT w' us ∧ Hid (conT us = termsE K (conT ts) (key, x)) ∧ Hid ((x ++ bytesE K (conT ts) (key, x)).length = n) ∧ n ≤ tc ∧ Rd vB w' tA (x ++ bytesE K (conT ts) (key, x)) ∧ Below w.heap.size w w'
set_option maxHeartbeats 4000000 in
theorem putE_bad [Inhabited Tab] (K : Int) (ts : List TD) (key x : List UInt8) (p n len : Nat) (A B D : Option Addr) (c bd f : Nat) (w : World) (HP : Hid (ts.length = p)) (HL : Hid (lenT (conT ts))) (ht : RdT w A ts) (hok : okT w ts) (hp : p ≤ 1000000) (hc : p ≤ c) (HR : Hid (rightE K (conT ts) = false)) (HK : Hid (KTab w)) :
    Calls Tryd.prog 24 #[.agg #[.int .i64 K, .slice A p c], .slice B n bd, .slice D len f] w (SealBad K ts w) := by
  obtain ⟨hR, hB0⟩ := box_rows w 24 (.int .i64 K) (.slice A p c)
  have hR1 := hR.alloc (.cells #[.int .i64 0, .slice none 0 0] 24)
  have hR2 : Row ((w.alloc (.cells #[.int .i64 K, .slice A p c] 24)).alloc (.cells #[.int .i64 0, .slice none 0 0] 24)) (w.heap.size + 1) 24 [.int .i64 0, .slice none 0 0] := Row.new_at _ _ (by simp) _ _ _ rfl
  have hB := below_new hB0 (.cells #[.int .i64 0, .slice none 0 0] 24)
  replace ht := ht.keep hB
  replace hok := hok.keep hB
  replace HK := Lib.hid (HK.out.keep hB)
  clear hR hB0
  go_enter Tryd.func24, Tryd.ntmps24
  go_upto_region 1 with fail
  generalize (w.alloc (.cells #[.int .i64 K, .slice A p c] 24)).alloc (.cells #[.int .i64 0, .slice none 0 0] 24) = W2 at hR1 hR2 hB ht hok HK ⊢
  go_wp2_with (refine wpList_load_part rfl 24 (.tmp 3) rfl w.heap.size 0 rfl _ _ hR1 [.int .i64 K, .slice A p c] (by rfl) _ Tryd.underlying24 rfl (by exact size_engine) ?_)
  refine (tagE_bad K ts key x p n len A B D c bd f _ HP HL ht hok hp hc HR HK).mono ?_
  rintro e' w4 ⟨us, q, A', c', tA, tc, rfl, HU, hpc, hrt, hus, HC, hb⟩
  replace hR2 := hR2.later hb
  replace hB := below_step hB hb
  clear hb hR1 ht hok HK
  have hR3 : Row (w4.alloc (.cells #[.int .i64 0, .slice none 0 0] 24)) w4.heap.size 24 [.int .i64 0, .slice none 0 0] := Row.new w4 _ _ _ rfl
  go_upto_region 2 with (refine wpList_store_row rfl 24 (.tmp 9) (.tmp 17) rfl w4.heap.size rfl [.int .i64 K, .slice A' q c'] rfl _ _ hR3 (by exact size_engine) rfl (one_pair _ _ rfl rfl) ?_)
  have hR4 := hR3.setRow [.int .i64 K, .slice A' q c']
  have hbn : Below w4.heap.size w4 ((w4.alloc (.cells #[.int .i64 0, .slice none 0 0] 24)).setRow w4.heap.size [.int .i64 K, .slice A' q c'].toArray) := below_setRow (below_new (Below.refl _ _) _) (Nat.le_refl _) _
  have hlt := hR2.lt
  generalize (w4.alloc (.cells #[.int .i64 0, .slice none 0 0] 24)).setRow w4.heap.size [.int .i64 K, .slice A' q c'].toArray = w5 at hR4 hbn ⊢
  replace hR2 := hR2.later hbn
  replace hrt := hrt.keep hbn
  replace hus := hus.keep hbn
  replace hB := below_step hB hbn
  clear hbn
  clear hR3
  generalize w4.heap.size = g4 at hR4 hlt ⊢
  go_upto_region 3 with fail
  have hS : termS g4 (.int .i64 K) (.slice A' q c') w5.drew := ⟨hR4.drew.cell rfl, hR4.drew.cell rfl⟩
  replace hR2 := hR2.drew
  replace hR4 := hR4.drew
  replace hrt := hrt.keep ((Below.refl w5.heap.size w5).drew)
  replace hus := hus.keep ((Below.refl w5.heap.size w5).drew)
  replace hB := hB.drew
  refine wp_region_plan_of (termS g4 (.int .i64 K) (.slice A' q c')) (.step 0 false (.step 1 false (.step 2 true (.step 3 true (.step 4 false (.step 5 false (.nil))))))) hS (by kernel_rfl) (by kernel_rfl) (by rfl) (by kernel_rfl) ?_
  generalize w5.drew = w6 at *
  iterate 2 (refine plan_read rfl (by rfl) (v := ?_) ?_ ?_; rotate_left 1; (intro W hW; (try dsimp only at hW); obtain ⟨hW0, hW1⟩ := hW; go_simp <;> with_reducible rfl); simp only [List.getElem_toArray, List.getElem_cons_zero, List.getElem_cons_succ, Act.put, List.setIfInBounds_toArray, List.set_cons_zero, List.set_cons_succ])
  (refine plan_make_of rfl (by rfl) (fun K hK => ?_); go_simp; refine (faultA_any 1 w6).mono ?_; rintro e' w7 ⟨g, rfl, hF, hb, hgg⟩; refine hK.out _ _ ⟨(hR4.later hb).cell rfl, (hR4.later hb).cell rfl⟩ ?_; clear hK K)
  have hlt2 := hR2.lt
  replace hR2 := hR2.later hb
  replace hR4 := hR4.later hb
  replace hB := below_step hB hb
  replace hrt := hrt.keep hb
  replace hus := hus.keep hb
  clear hb
  (refine plan_make_of rfl (by rfl) (fun K hK => ?_); refine Row.wp_store 24 (.tmp 6) (.tmp 22) rfl rfl [.int .i64 _, .slice A' q c'] rfl hR2 (by exact size_engine) rfl (one_pair _ _ rfl rfl) ?_; refine hK.out _ _ ⟨(hR4.setRow_other (by omega) _).cell rfl, (hR4.setRow_other (by omega) _).cell rfl⟩ ?_; clear hK K)
  iterate 2 (refine plan_read rfl (by rfl) (v := ?_) ?_ ?_; rotate_left 1; (intro W hW; (try dsimp only at hW); obtain ⟨hW0, hW1⟩ := hW; go_simp <;> with_reducible rfl); simp only [List.getElem_toArray, List.getElem_cons_zero, List.getElem_cons_succ, Act.put, List.setIfInBounds_toArray, List.set_cons_zero, List.set_cons_succ])
  refine plan_done ?_
  have hnb := two_no_byte 0 (.slice none 0 0) (slice_no_byte none 0 0)
  have hrt' := hrt.setRow_row hR2 [.int .i64 K, .slice A' q c'].toArray
  have hus' := hus.setRow_row hR2 hnb [.int .i64 K, .slice A' q c'].toArray
  have hF' : Flt (w7.setRow (w.heap.size + 1) [.int .i64 K, .slice A' q c'].toArray) g 4 1 := Row.setRow_other hF (by omega) _
  have hR5 := hR2.setRow [.int .i64 K, .slice A' q c']
  have hB5 := below_setRow hB (Nat.le_add_right _ 1) [.int .i64 K, .slice A' q c'].toArray
  generalize w7.setRow (w.heap.size + 1) [.int .i64 K, .slice A' q c'].toArray = w8 at hrt' hus' hF' hR5 hB5 ⊢
  go_wp2_with fail
  refine bodyPost_ret (results_row_tmp2 (p := 6) (u := 7) (v := 8) (ty := 24) (by rfl) _ _ (w.heap.size + 1) 24 _ _ (by rfl) (by exact hR5) Tryd.underlying24 (by rfl) (by exact size_engine)) (by rfl) ?_
  exact ⟨us, q, A', c', g, none, 0, rfl, HU, hpc, hrt', hus', HC, hF', hB5⟩
set_option maxHeartbeats 4000000 in
theorem putE_good [Inhabited Tab] (K : Int) (ts : List TD) (key x : List UInt8) (p n len : Nat) (A B D : Option Addr) (c bd f : Nat) (w : World) (HP : Hid (ts.length = p)) (HL : Hid (lenT (conT ts))) (ht : RdT w A ts) (hok : okT w ts) (hp : p ≤ 1000000) (hc : p ≤ c)
    (HN : Hid (key.length = n)) (hrk : Rd vB w B key) (hn : n ≤ 1000000) (hnb : n ≤ bd) (HX : Hid (x.length = len)) (hrx : Rd vB w D x) (hlx : len ≤ 1000000) (hxf : len ≤ f) (HR : Hid (rightE K (conT ts) = true)) (HK : Hid (KTab w)) :
    Calls Tryd.prog 24 #[.agg #[.int .i64 K, .slice A p c], .slice B n bd, .slice D len f] w (PutGood K ts key x w) := by
  obtain ⟨hR, hB0⟩ := box_rows w 24 (.int .i64 K) (.slice A p c)
  have hR1 := hR.alloc (.cells #[.int .i64 0, .slice none 0 0] 24)
  have hR2 : Row ((w.alloc (.cells #[.int .i64 K, .slice A p c] 24)).alloc (.cells #[.int .i64 0, .slice none 0 0] 24)) (w.heap.size + 1) 24 [.int .i64 0, .slice none 0 0] := Row.new_at _ _ (by simp) _ _ _ rfl
  have hB := below_new hB0 (.cells #[.int .i64 0, .slice none 0 0] 24)
  replace ht := ht.keep hB
  replace hok := hok.keep hB
  replace hrk := hrk.keep hB
  replace hrx := hrx.keep hB
  replace HK := Lib.hid (HK.out.keep hB)
  clear hR hB0
  go_enter Tryd.func24, Tryd.ntmps24
  go_upto_region 1 with fail
  generalize (w.alloc (.cells #[.int .i64 K, .slice A p c] 24)).alloc (.cells #[.int .i64 0, .slice none 0 0] 24) = W2 at hR1 hR2 hB ht hok hrk hrx HK ⊢
  have HTL := Lib.hid (bytesE_length K (conT ts) (key, x))
  go_wp2_with (refine wpList_load_part rfl 24 (.tmp 3) rfl w.heap.size 0 rfl _ _ hR1 [.int .i64 K, .slice A p c] (by rfl) _ Tryd.underlying24 rfl (by exact size_engine) ?_)
  refine (tagE_good K ts key x p n len A B D c bd f _ HP HL HN HX ht hok hrk hrx hp hc hn hlx hnb hxf HR HK).mono ?_
  rintro e' w4 ⟨us, q, A', c', tA, tc, rfl, HU, hpc, htc, hrt, hus, HC, hrg, hb⟩
  replace hR2 := hR2.later hb
  replace hrx := hrx.keep hb
  replace hB := below_step hB hb
  clear hb hR1 ht hok HK hrk
  have hR3 : Row (w4.alloc (.cells #[.int .i64 0, .slice none 0 0] 24)) w4.heap.size 24 [.int .i64 0, .slice none 0 0] := Row.new w4 _ _ _ rfl
  go_upto_region 2 with (refine wpList_store_row rfl 24 (.tmp 9) (.tmp 17) rfl w4.heap.size rfl [.int .i64 K, .slice A' q c'] rfl _ _ hR3 (by exact size_engine) rfl (one_pair _ _ rfl rfl) ?_)
  have hR4 := hR3.setRow [.int .i64 K, .slice A' q c']
  have hbn : Below w4.heap.size w4 ((w4.alloc (.cells #[.int .i64 0, .slice none 0 0] 24)).setRow w4.heap.size [.int .i64 K, .slice A' q c'].toArray) := below_setRow (below_new (Below.refl _ _) _) (Nat.le_refl _) _
  have hlt := hR2.lt
  generalize (w4.alloc (.cells #[.int .i64 0, .slice none 0 0] 24)).setRow w4.heap.size [.int .i64 K, .slice A' q c'].toArray = w5 at hR4 hbn ⊢
  replace hR2 := hR2.later hbn
  replace hrt := hrt.keep hbn
  replace hus := hus.keep hbn
  replace hrx := hrx.keep hbn
  replace hrg := hrg.keep hbn
  replace hB := below_step hB hbn
  clear hbn
  clear hR3
  generalize w4.heap.size = g4 at hR4 hlt ⊢
  go_upto_region 4 with fail
  have hS : termS g4 (.int .i64 K) (.slice A' q c') w5.drew := ⟨hR4.drew.cell rfl, hR4.drew.cell rfl⟩
  replace hR2 := hR2.drew
  replace hR4 := hR4.drew
  replace hrt := hrt.keep ((Below.refl w5.heap.size w5).drew)
  replace hus := hus.keep ((Below.refl w5.heap.size w5).drew)
  replace hrx := hrx.keep ((Below.refl w5.heap.size w5).drew)
  replace hrg := hrg.keep ((Below.refl w5.heap.size w5).drew)
  replace hB := hB.drew
  obtain ⟨T, hT⟩ : ∃ T, bytesE K (conT ts) (key, x) = T := ⟨_, rfl⟩
  have HT := Lib.hid hT
  rw [hT] at hrg HTL
  obtain ⟨Z, hZ⟩ : ∃ Z, x ++ T = Z := ⟨_, rfl⟩
  have HXZ : Hid (Z = x ++ T) := hZ.symm
  have HZL : Hid (Z.length = len + 8) := by unfold Hid; rw [← hZ, List.length_append, HX.out, HTL.out]
  clear hT hZ
  refine wp_region_plan_of (termS g4 (.int .i64 K) (.slice A' q c')) (.step 0 false (.step 1 false (.step 2 false (.step 3 true (.step 4 true (.step 5 true (.step 6 false (.step 7 false (.nil))))))))) hS (by kernel_rfl) (by kernel_rfl) (by rfl) (by kernel_rfl) ?_
  generalize w5.drew = w6 at *
  iterate 3 (refine plan_read rfl (by rfl) (v := ?_) ?_ ?_; rotate_left 1; (intro W hW; (try dsimp only at hW); obtain ⟨hW0, hW1⟩ := hW; go_simp <;> with_reducible rfl); simp only [List.getElem_toArray, List.getElem_cons_zero, List.getElem_cons_succ, Act.put, List.setIfInBounds_toArray, List.set_cons_zero, List.set_cons_succ])
  have hP : Rd vPart (w6.alloc (.cells #[.slice D len f, .slice tA 8 tc] 25)) (some ⟨w6.heap.size, 0, none⟩) [⟨D, f, x⟩, ⟨tA, tc, T⟩] := Rd.new_at w6 _ rfl _ _ _ (by simp [vPart, HX.out, HTL.out])
  have hb3 := below_new (Below.refl _ w6) (.cells #[.slice D len f, .slice tA 8 tc] 25)
  have hlt2 := hR2.lt
  (refine plan_make_of rfl (by rfl) (fun K hK => ?_); go_simp; refine hK.out _ _ ⟨(hR4.later hb3).cell rfl, (hR4.later hb3).cell rfl⟩ ?_; clear hK K)
  replace hR2 := hR2.later hb3
  replace hR4 := hR4.later hb3
  replace hB := below_step hB hb3
  replace hrt := hrt.keep hb3
  replace hus := hus.keep hb3
  replace hrx := hrx.keep hb3
  replace hrg := hrg.keep hb3
  have hsz : w6.heap.size < (w6.alloc (.cells #[.slice D len f, .slice tA 8 tc] 25)).heap.size := by simp
  generalize (w6.alloc (.cells #[.slice D len f, .slice tA 8 tc] 25)) = w7 at *
  (refine plan_make_of rfl (by rfl) (fun K hK => ?_); go_simp; refine (concat_two x T Z D tA f tc _ _ _ HXZ hP hrx hrg (by rw [HZL.out]; omega)).mono ?_; rintro e' w8 ⟨A8, c8, rfl, hc8, hr8, hN8, hb8⟩; refine hK.out _ _ ⟨(hR4.later hb8).cell rfl, (hR4.later hb8).cell rfl⟩ ?_; clear hK K)
  rw [HZL.out] at hc8
  replace hR2 := hR2.later hb8
  replace hR4 := hR4.later hb8
  replace hB := below_step hB hb8
  replace hrt := hrt.keep hb8
  replace hus := hus.keep hb8
  clear hb3 hP
  (refine plan_make_of rfl (by rfl) (fun K hK => ?_); refine Row.wp_store 24 (.tmp 6) (.tmp 25) rfl rfl [.int .i64 _, .slice A' q c'] rfl hR2 (by exact size_engine) rfl (one_pair _ _ rfl rfl) ?_; refine hK.out _ _ ⟨(hR4.setRow_other (by omega) _).cell rfl, (hR4.setRow_other (by omega) _).cell rfl⟩ ?_; clear hK K)
  iterate 2 (refine plan_read rfl (by rfl) (v := ?_) ?_ ?_; rotate_left 1; (intro W hW; (try dsimp only at hW); obtain ⟨hW0, hW1⟩ := hW; go_simp <;> with_reducible rfl); simp only [List.getElem_toArray, List.getElem_cons_zero, List.getElem_cons_succ, Act.put, List.setIfInBounds_toArray, List.set_cons_zero, List.set_cons_succ])
  refine plan_done ?_
  have hnb := two_no_byte 0 (.slice none 0 0) (slice_no_byte none 0 0)
  have hrt' := hrt.setRow_row hR2 [.int .i64 K, .slice A' q c'].toArray
  have hus' := hus.setRow_row hR2 hnb [.int .i64 K, .slice A' q c'].toArray
  have hr9 := hr8.setRow_row hR2 hnb [.int .i64 K, .slice A' q c'].toArray
  have hR5 := hR2.setRow [.int .i64 K, .slice A' q c']
  have hB5 := below_setRow hB (Nat.le_add_right _ 1) [.int .i64 K, .slice A' q c'].toArray
  generalize w8.setRow (w.heap.size + 1) [.int .i64 K, .slice A' q c'].toArray = w9 at hrt' hus' hr9 hR5 hB5 ⊢
  go_wp2_with fail
  refine bodyPost_ret (results_row_tmp2 (p := 6) (u := 7) (v := 8) (ty := 24) (by rfl) _ _ (w.heap.size + 1) 24 _ _ (by rfl) (by exact hR5) Tryd.underlying24 (by rfl) (by exact size_engine)) (by rfl) ?_
  unfold PutGood
  rw [HT.out, ← HXZ.out, HZL.out]
  exact ⟨us, q, A', c', len + 8, A8, c8, rfl, HU, hpc, hrt', hus', HC, Lib.hid rfl, hc8, hr9, hB5⟩

/-! ### Check -/
/-- What is wrong with the tag behind the first bytes, if something is. -/
def checkE [Inhabited Tab] (K : Int) (cs : List Tm) (key b : List UInt8) (q : Nat) : Int := if b.length < q + 8 then 2 else if q + 8 < b.length then 4 else if fitsE K cs (key, b.take q) (b.drop q) = true then 0 else 5
set_option maxHeartbeats 4000000 in
theorem checkE_any [Inhabited Tab] (Kn : Int) (ts : List TD) (key b : List UInt8) (p n len q : Nat) (A B D : Option Addr) (c bd f : Nat) (w : World) (HP : Hid (ts.length = p)) (HL : Hid (lenT (conT ts))) (ht : RdT w A ts) (hok : okT w ts) (hp : p ≤ 1000000) (hc : p ≤ c)
    (HN : Hid (key.length = n)) (hrk : Rd vB w B key) (hn : n ≤ 1000000) (hnb : n ≤ bd) (HB : Hid (b.length = len)) (hrb : Rd vB w D b) (hf : len ≤ f) (hl : len ≤ 1000000) (hq : q ≤ 1000000) (HK : Hid (KTab w)) :
    Calls Tryd.prog 26 #[.agg #[.int .i64 Kn, .slice A p c], .slice B n bd, .slice D len f, .int .i64 (q : Int)] w fun e w' => ∃ ev, e = .returned ev ∧ ErrV w' ev 4 (checkE Kn (conT ts) key b q) ∧ Below w.heap.size w w' ∧ ∀ g, ev = errV g → w.heap.size ≤ g := by
  obtain ⟨X, hX⟩ : ∃ X, checkE Kn (conT ts) key b q = X := ⟨_, rfl⟩
  rw [hX]
  unfold checkE at hX
  rw [HB.out] at hX
  obtain ⟨hR, hB⟩ := box_rows w 24 (.int .i64 Kn) (.slice A p c)
  replace ht := ht.keep hB
  replace hok := hok.keep hB
  replace hrk := hrk.keep hB
  replace hrb := hrb.keep hB
  replace HK := Lib.hid (HK.out.keep hB)
  go_enter Tryd.func26, Tryd.ntmps26
  go_upto_region 1 with fail
  generalize (w.alloc (.cells #[.int .i64 Kn, .slice A p c] 24)) = W2 at hR hB ht hok hrk hrb HK ⊢
  by_cases h1 : len < q + 8
  · rw [if_pos h1] at hX
    subst hX
    have z1 : (len : Int) < (q : Int) + 8 := by omega
    clear ht hok hrk hrb HK
    go_wp2_with fail
    refine (faultA_any 2 _).mono ?_
    rintro e' w5 ⟨g5, rfl, hF, hb, hgg⟩
    have hgB := hB.size
    go_wp2_with fail
    go_ret
    exact ⟨_, rfl, .inr ⟨by decide, g5, rfl, hF⟩, below_step hB hb, fun g hg => by have := errV_inj hg; omega⟩
  · rw [if_neg h1] at hX
    have z1 : ¬ (len : Int) < (q : Int) + 8 := by omega
    by_cases h2 : q + 8 < len
    · rw [if_pos h2] at hX
      subst hX
      have z2 : (q : Int) + 8 < (len : Int) := by omega
      clear ht hok hrk hrb HK
      go_wp2_with fail
      refine (faultA_any 4 _).mono ?_
      rintro e' w5 ⟨g5, rfl, hF, hb, hgg⟩
      have hgB := hB.size
      go_wp2_with fail
      go_ret
      exact ⟨_, rfl, .inr ⟨by decide, g5, rfl, hF⟩, below_step hB hb, fun g hg => by have := errV_inj hg; omega⟩
    · rw [if_neg h2] at hX
      have z2 : ¬ (q : Int) + 8 < (len : Int) := by omega
      have hlen : len = q + 8 := by omega
      obtain ⟨F, hF⟩ : ∃ F, fitsE Kn (conT ts) (key, b.take q) (b.drop q) = F := ⟨_, rfl⟩
      rw [hF] at hX
      have HF := Lib.hid hF
      have HX := Lib.hid hX
      have hrx : Rd vB W2 D (b.take q) := hrb.take _
      have HXL : Hid ((b.take q).length = q) := by unfold Hid; rw [List.length_take, HB.out]; omega
      have HGL : Hid ((b.drop q).length = 8) := by unfold Hid; rw [List.length_drop, HB.out]; omega
      have hcut1 := run_cut_to (P := Tryd.prog) 25 5 Tryd.underlying25 size_uint8 D len f q (by omega)
      obtain ⟨D2, hcut2, hdr⟩ := cut_from 25 5 Tryd.underlying25 size_uint8 D len f q (by omega) hf
      have hrg := hdr vB W2 b HB.out hrb
      rw [show len - q = 8 by omega] at hcut2
      have hf8 : 8 ≤ f - q := by omega
      have hqf : q ≤ f := by omega
      generalize b.take q = x at hrx HXL HF
      generalize b.drop q = g at hrg HGL HF
      have HLEN := Lib.hid hlen
      clear hdr hX hF h1 h2 hrb
      have k0 : (0 : Int) ≤ (q : Int) := by omega
      have k1 : (q : Int) ≤ (len : Int) := by omega
      clear hlen
      go_upto_region 6 with fail
      have hBase : Below W2.heap.size W2 W2.drew := (Below.refl _ _).drew
      have p0 : ∀ W, Below W2.heap.size W2 W → W.cell? ⟨w.heap.size, 0, none⟩ = some (.int .i64 Kn) := fun W hW => (hR.later hW).cell rfl
      have p1 : ∀ W, Below W2.heap.size W2 W → W.cell? ⟨w.heap.size, 1, none⟩ = some (.slice A p c) := fun W hW => (hR.later hW).cell rfl
      refine wp_region_plan (.step 0 false (.step 1 false (.step 2 false (.step 3 false (.step 4 false (.step 5 false (.step 6 false (.step 7 false (.step 8 true (.step 9 false (.step 10 false (.nil)))))))))))) (by kernel_rfl) (by kernel_rfl) (by rfl) (by kernel_rfl) ?_
      iterate 8 (refine plan_read rfl (by rfl) (v := ?_) ?_ ?_; rotate_left 1; (intro W hW; have hW0 := below_step hBase hW; (try dsimp only at hW); go_simp <;> with_reducible rfl); simp only [List.getElem_toArray, List.getElem_cons_zero, List.getElem_cons_succ, Act.put, List.setIfInBounds_toArray, List.set_cons_zero, List.set_cons_succ])
      (refine plan_make rfl (by rfl) (fun K hK => ?_); go_simp; (refine (fitsE_any Kn ts key x g p n q 8 A B D D2 c bd f (f - q) _ HP HL HN HXL HGL (ht.keep hBase) (hok.keep hBase) (hrk.keep hBase) (hrx.keep hBase) (hrg.keep hBase) hp hc hn hq (by omega) hnb hqf hf8 (Lib.hid (HK.out.keep hBase))).mono ?_; rintro e' w4 ⟨rfl, hbx⟩); refine hK.out _ _ hbx ?_; clear hK K; replace hBase := below_step hBase hbx)
      rw [HF.out]
      iterate 2 (refine plan_read rfl (by rfl) (v := ?_) ?_ ?_; rotate_left 1; (intro W hW; have hW0 := below_step hBase hW; (try dsimp only at hW); go_simp <;> with_reducible rfl); simp only [List.getElem_toArray, List.getElem_cons_zero, List.getElem_cons_succ, Act.put, List.setIfInBounds_toArray, List.set_cons_zero, List.set_cons_succ])
      refine plan_done ?_
      replace hB := below_step hB hBase
      clear p0 p1 hBase hcut1 hcut2 hrg hrk ht hok hR HK hrx
      cases F with
      | true =>
        have eX : X = 0 := HX.out.symm
        subst eX
        clear HX HF
        go_wp2_with fail
        go_ret
        exact ⟨_, rfl, .inl ⟨rfl, rfl⟩, hB, fun g hg => by cases hg⟩
      | false =>
        have eX : X = 5 := HX.out.symm
        subst eX
        clear HX HF
        go_wp2_with fail
        refine (faultA_any 5 w4).mono ?_
        rintro e' w5 ⟨g5, rfl, hF, hb, hgg⟩
        have hgB := hB.size
        go_wp2_with fail
        go_ret
        exact ⟨_, rfl, .inr ⟨by decide, g5, rfl, hF⟩, below_step hB hb, fun g hg => by have := errV_inj hg; omega⟩
end Go.Proofs.YtknjpmoimjhddaaDoor
/-
  What the program's call Seal of layer 14 answers (landed code). Condition: the package's table holds sixty-four words (for tags).
-/
namespace Go.Proofs.YtknjpmoimjhddaaDoor
set_option maxRecDepth 100000
open Go.RowKit
set_option linter.unusedSimpArgs false
set_option linter.unusedVariables false

def SealGood [Inhabited Tab] (K : Int) (ts : List TD) (key : List UInt8) (t e d : Nat) (s : List UInt8) (w : World) (e₁ : Ending) (w' : World) : Prop :=
  ∃ (us : List TD) (p : Nat) (A : Option Addr) (c n : Nat) (tA : Option Addr) (tc : Nat), e₁ = .returned (.tuple #[.agg #[.int .i64 K, .slice A p c], .slice tA n tc, .nilIface]) ∧ Hid (us.length = p) ∧ p ≤ c ∧ RdT w' A us ∧ okT w' us ∧ Hid (conT us = termsE K (conT ts) (key, actB t e d s)) ∧ Hid ((sealE K (conT ts) key t e d s).length = n) ∧ n ≤ tc ∧ Rd vB w' tA (sealE K (conT ts) key t e d s) ∧ Below w.heap.size w w'
/-- No byte and no error lies in an engine's block. -/
theorem Flt.setRow_engine {W : World} {f g : Nat} {s k K : Int} {v : Value} {ty : TypeId} (h : Flt W f s k) (hg : f ≠ g) (cs : Array Value) : Flt (W.setRow g cs) f s k := Row.setRow_other h hg _
set_option maxHeartbeats 2000000 in
theorem seal_no (K : Int) (ts : List TD) (key : List UInt8) (p n : Nat) (A B : Option Addr) (c bd : Nat) (t e d m : Nat) (C : Option Addr) (cd : Nat) (w : World) (HP : Hid (ts.length = p)) (HL : Hid (lenT (conT ts))) (ht : RdT w A ts) (hok : okT w ts) (hp : p ≤ 1000000) (hc : p ≤ c) (hm : ¬ (1 ≤ m ∧ m ≤ 32)) :
    Calls Tryd.prog 9 #[.agg #[.int .i64 K, .slice A p c], .slice B n bd, aggP t e d C m cd] w (SealBad K ts w) := by
  obtain ⟨hR, hB0⟩ := box_rows w 24 (.int .i64 K) (.slice A p c)
  obtain ⟨hRa, hBa⟩ := box_pay (w.alloc (.cells #[.int .i64 K, .slice A p c] 24)) 28 (.int .u64 (t : Int)) (.int .u64 (e : Int)) (.int .u64 (d : Int)) (.slice C m cd)
  have hR1 := hR.later hBa
  have hB1 := below_step hB0 hBa
  have hz : (w.alloc (.cells #[.int .i64 K, .slice A p c] 24)).heap.size = w.heap.size + 1 := by simp
  rw [hz] at hRa
  have hR2 : Row (((w.alloc (.cells #[.int .i64 K, .slice A p c] 24)).alloc (.cells #[.int .u64 (t : Int), .int .u64 (e : Int), .int .u64 (d : Int), .slice C m cd] 28)).alloc (.cells #[.int .i64 0, .slice none 0 0] 24)) (w.heap.size + 2) 24 [.int .i64 0, .slice none 0 0] := Row.new_at _ _ (by simp) _ _ _ rfl
  replace hR1 := hR1.alloc (.cells #[.int .i64 0, .slice none 0 0] 24)
  replace hRa := hRa.alloc (.cells #[.int .i64 0, .slice none 0 0] 24)
  have hB := below_new hB1 (.cells #[.int .i64 0, .slice none 0 0] 24)
  replace ht := ht.keep hB
  replace hok := hok.keep hB
  clear hR hB0 hBa hB1 hz
  unfold aggP
  go_enter Tryd.func9, Tryd.ntmps9
  go_upto_region 1 with fail
  generalize ((w.alloc (.cells #[.int .i64 K, .slice A p c] 24)).alloc (.cells #[.int .u64 (t : Int), .int .u64 (e : Int), .int .u64 (d : Int), .slice C m cd] 28)).alloc (.cells #[.int .i64 0, .slice none 0 0] 24) = W2 at hR1 hR2 hRa hB ht hok ⊢
  go_upto_region 2 with (first | (refine wpList_load_part rfl 28 (.tmp 5) rfl (w.heap.size + 1) 0 rfl _ _ hRa (cellsP t e d C m cd) (by rfl) _ Tryd.underlying28 rfl (by exact size_act) ?_) | (go_at_call 15; refine (bytesA_no t e d m C cd _ hm).mono ?_; rintro e₁ w3 ⟨bA, bn, bc, rfl, HBN, hbc, hbr, hb⟩))
  replace hR1 := hR1.later hb
  replace hR2 := hR2.later hb
  replace ht := ht.keep hb
  replace hok := hok.keep hb
  replace hB := below_step hB hb
  clear hb hRa hm
  go_upto_region 3 with fail
  go_wp2_with (refine wpList_load_part rfl 24 (.tmp 3) rfl w.heap.size 0 rfl _ _ hR1 [.int .i64 K, .slice A p c] (by rfl) _ Tryd.underlying24 rfl (by exact size_engine) ?_)
  refine (ecopied_any K ts p A c _ HP HL ht hok hp hc).mono ?_
  rintro e' w4 ⟨us, A', c', rfl, HU, hpc, hrt, hus, HC, hb⟩
  replace hR2 := hR2.later hb
  replace hB := below_step hB hb
  clear hb hR1 ht hok
  go_wp2_with fail
  refine (faultA_any 1 w4).mono ?_
  rintro e' w5 ⟨g, rfl, hF, hb, hgg⟩
  have hlt := hR2.lt
  replace hR2 := hR2.later hb
  replace hB := below_step hB hb
  replace hrt := hrt.keep hb
  replace hus := hus.keep hb
  clear hb
  go_wp2_with (refine wpList_store_row rfl 24 (.tmp 6) (.tmp 19) rfl (w.heap.size + 2) rfl [.int .i64 K, .slice A' p c'] rfl _ _ hR2 (by exact size_engine) rfl (one_pair _ _ rfl rfl) ?_)
  refine bodyPost_ret (results_row_tmp2 (p := 6) (u := 7) (v := 8) (ty := 24) (by rfl) _ _ (w.heap.size + 2) 24 _ _ (by rfl) (by exact hR2.setRow _) Tryd.underlying24 (by rfl) (by exact size_engine)) (by rfl) ?_
  have hnb := two_no_byte 0 (.slice none 0 0) (slice_no_byte none 0 0)
  exact ⟨us, p, A', c', g, none, 0, rfl, HU, hpc, hrt.setRow_row hR2 _, hus.setRow_row hR2 hnb _, HC, Row.setRow_other hF (by omega) _, below_setRow hB (by omega) _⟩
set_option maxHeartbeats 4000000 in
theorem seal_bad [Inhabited Tab] (K : Int) (ts : List TD) (key : List UInt8) (p n : Nat) (A B : Option Addr) (c bd : Nat) (t e d : Nat) (s : List UInt8) (m : Nat) (C : Option Addr) (cd : Nat) (w : World) (HP : Hid (ts.length = p)) (HL : Hid (lenT (conT ts))) (ht : RdT w A ts) (hok : okT w ts) (hp : p ≤ 1000000) (hc : p ≤ c)
    (hht : t < 18446744073709551616) (hhe : e < 18446744073709551616) (hhd : d < 18446744073709551616) (HS : Hid (s.length = m)) (hrs : Rd vB w C s) (hmd : m ≤ cd) (h1 : 1 ≤ m) (h2 : m ≤ 32) (HR : Hid (rightE K (conT ts) = false)) (HK : Hid (KTab w)) :
    Calls Tryd.prog 9 #[.agg #[.int .i64 K, .slice A p c], .slice B n bd, aggP t e d C m cd] w (SealBad K ts w) := by
  obtain ⟨hR, hB0⟩ := box_rows w 24 (.int .i64 K) (.slice A p c)
  obtain ⟨hRa, hBa⟩ := box_pay (w.alloc (.cells #[.int .i64 K, .slice A p c] 24)) 28 (.int .u64 (t : Int)) (.int .u64 (e : Int)) (.int .u64 (d : Int)) (.slice C m cd)
  have hR1 := hR.later hBa
  have hB1 := below_step hB0 hBa
  have hz : (w.alloc (.cells #[.int .i64 K, .slice A p c] 24)).heap.size = w.heap.size + 1 := by simp
  rw [hz] at hRa
  have hR2 : Row (((w.alloc (.cells #[.int .i64 K, .slice A p c] 24)).alloc (.cells #[.int .u64 (t : Int), .int .u64 (e : Int), .int .u64 (d : Int), .slice C m cd] 28)).alloc (.cells #[.int .i64 0, .slice none 0 0] 24)) (w.heap.size + 2) 24 [.int .i64 0, .slice none 0 0] := Row.new_at _ _ (by simp) _ _ _ rfl
  replace hR1 := hR1.alloc (.cells #[.int .i64 0, .slice none 0 0] 24)
  replace hRa := hRa.alloc (.cells #[.int .i64 0, .slice none 0 0] 24)
  have hB := below_new hB1 (.cells #[.int .i64 0, .slice none 0 0] 24)
  replace ht := ht.keep hB
  replace hok := hok.keep hB
  replace hrs := hrs.keep hB
  replace HK := Lib.hid (HK.out.keep hB)
  clear hR hB0 hBa hB1 hz
  unfold aggP
  go_enter Tryd.func9, Tryd.ntmps9
  go_upto_region 1 with fail
  generalize ((w.alloc (.cells #[.int .i64 K, .slice A p c] 24)).alloc (.cells #[.int .u64 (t : Int), .int .u64 (e : Int), .int .u64 (d : Int), .slice C m cd] 28)).alloc (.cells #[.int .i64 0, .slice none 0 0] 24) = W2 at hR1 hR2 hRa hB ht hok hrs HK ⊢
  go_upto_region 2 with (first | (refine wpList_load_part rfl 28 (.tmp 5) rfl (w.heap.size + 1) 0 rfl _ _ hRa (cellsP t e d C m cd) (by rfl) _ Tryd.underlying28 rfl (by exact size_act) ?_) | (go_at_call 15; refine (bytesA_ok t e d s m C cd _ hht hhe hhd HS hrs hmd h1 h2).mono ?_; rintro e₁ w3 ⟨bA, bn, bc, rfl, HBN, hbc, hbr, hb⟩))
  replace hR1 := hR1.later hb
  replace hR2 := hR2.later hb
  replace ht := ht.keep hb
  replace hok := hok.keep hb
  replace HK := Lib.hid (HK.out.keep hb)
  replace hB := below_step hB hb
  clear hb hRa
  go_upto_region 4 with fail
  go_wp2_with (refine wpList_load_part rfl 24 (.tmp 3) rfl w.heap.size 0 rfl _ _ hR1 [.int .i64 K, .slice A p c] (by rfl) _ Tryd.underlying24 rfl (by exact size_engine) ?_)
  refine (putE_bad K ts key (actB t e d s) p n bn A B bA c bd bc _ HP HL ht hok hp hc HR HK).mono ?_
  rintro e' w4 ⟨us, q, A', c', g, tA, tc, rfl, HU, hpc, hrt, hus, HC, hF, hb⟩
  have hlt := hR2.lt
  replace hR2 := hR2.later hb
  replace hB := below_step hB hb
  have hgne : g ≠ w.heap.size + 2 := hF.ne_engine hR2
  clear hb hR1 ht hok HK hbr
  have hnb := two_no_byte 0 (.slice none 0 0) (slice_no_byte none 0 0)
  go_wp2_with (refine wpList_store_row rfl 24 (.tmp 6) (.tmp 26) rfl (w.heap.size + 2) rfl [.int .i64 K, .slice A' q c'] rfl _ _ hR2 (by exact size_engine) rfl (one_pair _ _ rfl rfl) ?_)
  refine bodyPost_ret (results_row_tmp2 (p := 6) (u := 7) (v := 8) (ty := 24) (by rfl) _ _ (w.heap.size + 2) 24 _ _ (by rfl) (by exact hR2.setRow _) Tryd.underlying24 (by rfl) (by exact size_engine)) (by rfl) ?_
  exact ⟨us, q, A', c', g, tA, tc, rfl, HU, hpc, hrt.setRow_row hR2 _, hus.setRow_row hR2 hnb _, HC, Row.setRow_other hF hgne _, below_setRow hB (by omega) _⟩
set_option maxHeartbeats 4000000 in
theorem seal_good [Inhabited Tab] (K : Int) (ts : List TD) (key : List UInt8) (p n : Nat) (A B : Option Addr) (c bd : Nat) (t e d : Nat) (s : List UInt8) (m : Nat) (C : Option Addr) (cd : Nat) (w : World) (HP : Hid (ts.length = p)) (HL : Hid (lenT (conT ts))) (ht : RdT w A ts) (hok : okT w ts) (hp : p ≤ 1000000) (hc : p ≤ c)
    (hht : t < 18446744073709551616) (hhe : e < 18446744073709551616) (hhd : d < 18446744073709551616) (HS : Hid (s.length = m)) (hrs : Rd vB w C s) (hmd : m ≤ cd) (h1 : 1 ≤ m) (h2 : m ≤ 32) (HN : Hid (key.length = n)) (hrk : Rd vB w B key) (hn : n ≤ 1000000) (hnb : n ≤ bd) (HR : Hid (rightE K (conT ts) = true)) (HK : Hid (KTab w)) :
    Calls Tryd.prog 9 #[.agg #[.int .i64 K, .slice A p c], .slice B n bd, aggP t e d C m cd] w (SealGood K ts key t e d s w) := by
  obtain ⟨hR, hB0⟩ := box_rows w 24 (.int .i64 K) (.slice A p c)
  obtain ⟨hRa, hBa⟩ := box_pay (w.alloc (.cells #[.int .i64 K, .slice A p c] 24)) 28 (.int .u64 (t : Int)) (.int .u64 (e : Int)) (.int .u64 (d : Int)) (.slice C m cd)
  have hR1 := hR.later hBa
  have hB1 := below_step hB0 hBa
  have hz : (w.alloc (.cells #[.int .i64 K, .slice A p c] 24)).heap.size = w.heap.size + 1 := by simp
  rw [hz] at hRa
  have hR2 : Row (((w.alloc (.cells #[.int .i64 K, .slice A p c] 24)).alloc (.cells #[.int .u64 (t : Int), .int .u64 (e : Int), .int .u64 (d : Int), .slice C m cd] 28)).alloc (.cells #[.int .i64 0, .slice none 0 0] 24)) (w.heap.size + 2) 24 [.int .i64 0, .slice none 0 0] := Row.new_at _ _ (by simp) _ _ _ rfl
  replace hR1 := hR1.alloc (.cells #[.int .i64 0, .slice none 0 0] 24)
  replace hRa := hRa.alloc (.cells #[.int .i64 0, .slice none 0 0] 24)
  have hB := below_new hB1 (.cells #[.int .i64 0, .slice none 0 0] 24)
  replace ht := ht.keep hB
  replace hok := hok.keep hB
  replace hrs := hrs.keep hB
  replace hrk := hrk.keep hB
  replace HK := Lib.hid (HK.out.keep hB)
  clear hR hB0 hBa hB1 hz
  unfold aggP
  go_enter Tryd.func9, Tryd.ntmps9
  go_upto_region 1 with fail
  generalize ((w.alloc (.cells #[.int .i64 K, .slice A p c] 24)).alloc (.cells #[.int .u64 (t : Int), .int .u64 (e : Int), .int .u64 (d : Int), .slice C m cd] 28)).alloc (.cells #[.int .i64 0, .slice none 0 0] 24) = W2 at hR1 hR2 hRa hB ht hok hrs hrk HK ⊢
  go_upto_region 2 with (first | (refine wpList_load_part rfl 28 (.tmp 5) rfl (w.heap.size + 1) 0 rfl _ _ hRa (cellsP t e d C m cd) (by rfl) _ Tryd.underlying28 rfl (by exact size_act) ?_) | (go_at_call 15; refine (bytesA_ok t e d s m C cd _ hht hhe hhd HS hrs hmd h1 h2).mono ?_; rintro e₁ w3 ⟨bA, bn, bc, rfl, HBN, hbc, hbr, hb⟩))
  replace hR1 := hR1.later hb
  replace hR2 := hR2.later hb
  replace ht := ht.keep hb
  replace hok := hok.keep hb
  replace HK := Lib.hid (HK.out.keep hb)
  replace hrk := hrk.keep hb
  replace hB := below_step hB hb
  clear hb hRa
  go_upto_region 4 with fail
  go_wp2_with (refine wpList_load_part rfl 24 (.tmp 3) rfl w.heap.size 0 rfl _ _ hR1 [.int .i64 K, .slice A p c] (by rfl) _ Tryd.underlying24 rfl (by exact size_engine) ?_)
  have hbl : bn ≤ 58 := by have := HBN.out; rw [act_length, HS.out] at this; omega
  refine (putE_good K ts key (actB t e d s) p n bn A B bA c bd bc _ HP HL ht hok hp hc HN hrk hn hnb HBN hbr (by omega) hbc HR HK).mono ?_
  rintro e' w4 ⟨us, q, A', c', n4, tA, tc, rfl, HU, hpc, hrt, hus, HC, HZ, hn4, hr8, hb⟩
  replace hR2 := hR2.later hb
  replace hB := below_step hB hb
  clear hb hR1 ht hok HK hbr hrk
  have hnb2 := two_no_byte 0 (.slice none 0 0) (slice_no_byte none 0 0)
  go_wp2_with (refine wpList_store_row rfl 24 (.tmp 6) (.tmp 26) rfl (w.heap.size + 2) rfl [.int .i64 K, .slice A' q c'] rfl _ _ hR2 (by exact size_engine) rfl (one_pair _ _ rfl rfl) ?_)
  refine bodyPost_ret (results_row_tmp2 (p := 6) (u := 7) (v := 8) (ty := 24) (by rfl) _ _ (w.heap.size + 2) 24 _ _ (by rfl) (by exact hR2.setRow _) Tryd.underlying24 (by rfl) (by exact size_engine)) (by rfl) ?_
  exact ⟨us, q, A', c', n4, tA, tc, rfl, HU, hpc, hrt.setRow_row hR2 _, hus.setRow_row hR2 hnb2 _, HC, HZ, hn4, hr8.setRow_row hR2 hnb2 _, below_setRow hB (by omega) _⟩
end Go.Proofs.YtknjpmoimjhddaaDoor
