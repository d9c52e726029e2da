/-
  What slices.Reverse leaves at a slice of bytes that lies at the beginning of a block of the call's own: the same bytes, the last one first. Conditions: a bound on the length, as typed.
-/
import Derived.Test.YtankddeolpickaaPolyAdd
import Derived.StillTailTactics
namespace Go.Proofs.Ytankddeolpickaa
set_option maxRecDepth 100000
open Go.RowKit
set_option linter.unusedSimpArgs false
set_option linter.unusedVariables false

/-- Turned as far as i places from both ends. -/
def RevT (l T : List UInt8) (i : Nat) : Prop := T.length = l.length ∧ ∀ k, k < l.length → co T k = if k < i ∨ l.length ≤ k + i then co l (l.length - 1 - k) else co l k
theorem RevT.zero (l : List UInt8) : RevT l l 0 := ⟨rfl, fun k hk => by rw [if_neg (by omega)]⟩
theorem RevT.next {l T : List UInt8} {i : Nat} (h : RevT l T i) (hi : 2 * i + 1 < l.length) : RevT l ((T.set i (co T (l.length - 1 - i))).set (l.length - 1 - i) (co T i)) (i + 1) := by
  refine ⟨by rw [List.length_set, List.length_set]; exact h.1, fun k hk => ?_⟩
  have h1 := h.1
  rw [co_set _ _ _ _ (by rw [List.length_set]; omega), co_set _ _ _ _ (by omega)]
  have hi' := h.2 i (by omega)
  have hj' := h.2 (l.length - 1 - i) (by omega)
  rw [if_neg (by omega)] at hi' hj'
  by_cases e1 : k = l.length - 1 - i
  · rw [if_pos e1, if_pos (by omega), hi']
    congr 1
    omega
  · rw [if_neg e1]
    by_cases e2 : k = i
    · rw [if_pos e2, if_pos (by omega), hj']
      congr 1
      omega
    · rw [if_neg e2, h.2 k hk]
      by_cases e3 : k < i ∨ l.length ≤ k + i
      · rw [if_pos e3, if_pos (by omega)]
      · rw [if_neg e3, if_neg (by omega)]
theorem RevT.done {l T : List UInt8} {i : Nat} (h : RevT l T i) (hi : l.length ≤ 2 * i + 1) : T = l.reverse := by
  refine co_ext (by rw [h.1, List.length_reverse]) (fun k hk => ?_)
  rw [h.1] at hk
  rw [h.2 k hk, co_lt l.reverse k (by rw [List.length_reverse]; exact hk), List.getElem_reverse]
  split
  · rw [co_lt _ _ (by omega)]
  · rw [co_lt _ _ hk]
    congr 1
    omega
def RevRel (l : List UInt8) (n g cap : Nat) (w : World) (i j : Value) (wr : World) : Prop :=
  ∃ (k : Nat) (T : List UInt8), 2 * k ≤ n + 1 ∧ i = .int .i64 (k : Int) ∧ j = .int .i64 ((n : Int) - 1 - (k : Int)) ∧ Hid (RevT l T k) ∧ CelN wr g 5 cap T ∧ Only g w wr

theorem reverse_nil (A : Option Addr) (c : Nat) (w : World) :
    Calls Try.prog 42 #[.slice A 0 c] w fun e w' => (∃ v, e = .returned v) ∧ w = w' := by
  go_enter Try.func42, Try.ntmps42
  go_wp2_with fail
  go_loopw [2, 3] (fun i j wr => i = .int .i64 0 ∧ j = .int .i64 (-1) ∧ w = wr) (fun _ _ _ => 0)
  case atStart => exact ⟨rfl, rfl, rfl⟩
  case round =>
    obtain ⟨rfl, rfl, rfl⟩ := hrel
    go_wp2_with fail
    go_end0
    exact ⟨⟨_, rfl⟩, rfl⟩
set_option maxHeartbeats 2000000 in
theorem reverse_cel (l : List UInt8) (n g cap c : Nat) (w : World) (HN : Hid (l.length = n)) (hcel : CelN w g 5 cap l) (hnc : n ≤ c) (hn : n ≤ 100000) :
    Calls Try.prog 42 #[.slice (some ⟨g, 0, none⟩) n c] w fun e w' => (∃ v, e = .returned v) ∧ CelN w' g 5 cap l.reverse ∧ Only g w w' := by
  go_enter Try.func42, Try.ntmps42
  go_wp2_with fail
  go_loopw [2, 3] (fun i j wr => RevRel l n g cap w i j wr) (fun i _ _ => n - (intOf i).toNat)
  case atStart => exact ⟨0, l, by omega, rfl, by go_num, RevT.zero l, hcel, Only.refl _ _⟩
  case round =>
    clear hcel
    obtain ⟨k, T, hk, rfl, rfl, HT, hc, ho⟩ := hrel
    by_cases h : 2 * k + 1 < n
    · obtain ⟨q, hq⟩ : ∃ q, q = n - 1 - k := ⟨_, rfl⟩
      have e1 : (n : Int) - 1 - (k : Int) = (q : Int) := by omega
      have hTl : T.length = n := by rw [HT.out.1, HN.out]
      have h1 := hc.cel.get k (by omega)
      have h2 := hc.cel.get q (by omega)
      have f1 := hc.cel.frozen k
      have HX : Hid (RevT l ((T.set k (co T q)).set q (co T k)) (k + 1)) := by
        have := HT.out.next (by rw [HN.out]; exact h)
        rw [HN.out, ← hq] at this
        exact this
      generalize hx : co T k = x at h1 HX
      generalize hy : co T q = y at h2 HX
      have f2 := hc.cel.frozen q
      have hc2 := ((hc.set k y).set q x).drew
      have ho2 := ((ho.setCell k (.int .u8 (y.toNat : Int))).setCell q (.int .u8 (x.toNat : Int))).drew
      have j1 : (k : Int) < (q : Int) := by omega
      have j2 : (0 : Int) ≤ (k : Int) := by omega
      have j3 : (0 : Int) ≤ (q : Int) := by omega
      have j4 : (q : Int) < (n : Int) := by omega
      have j5 : (k : Int) < (n : Int) := by omega
      have HQ := Lib.hid hq
      have HR : Hid (RevRel l n g cap w (.int .i64 ((k : Int) + 1)) (.int .i64 ((q : Int) - 1)) ((wr.setCell ⟨g, k, none⟩ (.int .u8 (y.toNat : Int))).setCell ⟨g, q, none⟩ (.int .u8 (x.toNat : Int))).drew) :=
        ⟨k + 1, _, by omega, by go_num, by rw [show ((n : Int) - 1 - ((k + 1 : Nat) : Int)) = (q : Int) - 1 by omega], HX.out, hc2, ho2⟩
      rw [e1]
      clear hc hc2 ho ho2 hx hy hTl hq e1 hk HX HT
      go_wp2_with fail
      go_region
      go_wp2_with fail
      go_roundw
      case rel => exact HR.out
      case measure => simp [intOf] <;> omega
    · have HD : Hid (T = l.reverse) := HT.out.done (by rw [HN.out]; omega)
      have j1 : ¬ (k : Int) < (n : Int) - 1 - (k : Int) := by omega
      rw [HD.out] at hc
      go_wp2_with fail
      go_end0
      exact ⟨⟨_, rfl⟩, hc, ho⟩
end Go.Proofs.Ytankddeolpickaa
