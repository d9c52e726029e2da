/-
  What the reference's calls Same, Msg and Write of layer 12 answer. No conditions but those typed.
-/
import Derived.Test.YtobeaoooaagdkaaFrameMath
import Derived.Test.YtobeaoooaagdkaaWordRefLeast
import Derived.Test.YtobeaoooaagdkaaOwn
import Derived.Test.YtobeaoooaagdkaaStr
import Derived.Deep.DeepCutAuto
namespace Go.Proofs.Ytobeaoooaagdkaa
set_option maxRecDepth 100000
open Go.RowKit
set_option linter.unusedSimpArgs false
set_option linter.unusedVariables false

/-- A payload as its cells. -/
def cellsP (t e c : Nat) (A : Option Addr) (n k : Nat) : List Value := [.int .u64 (t : Int), .int .u64 (e : Int), .int .u64 (c : Int), .slice A n k]
def aggP (t e c : Nat) (A : Option Addr) (n k : Nat) : Value := .agg #[.int .u64 (t : Int), .int .u64 (e : Int), .int .u64 (c : Int), .slice A n k]
theorem box_pay (w : World) (ty : TypeId) (a b c d : Value) : Row (w.alloc (.cells #[a, b, c, d] ty)) w.heap.size ty [a, b, c, d] ∧ Below w.heap.size w (w.alloc (.cells #[a, b, c, d] ty)) := ⟨Row.new w ty _ _ rfl, below_new (Below.refl _ _) _⟩
def sameF (t e c : Nat) (g : List UInt8) (t' e' c' : Nat) (g' : List UInt8) : Bool := decide (t = t' ∧ e = e' ∧ c = c' ∧ g = g')
/-- A call that hands back a list of bytes. -/
def RetZ (w : World) (l : List UInt8) (e : Ending) (w' : World) : Prop := ∃ A n c, e = .returned (.slice A n c) ∧ Hid (l.length = n) ∧ n ≤ c ∧ Rd vB w' A l ∧ Below w.heap.size w w'
theorem RetZ.own {w w' : World} {l : List UInt8} {base : Nat} {e : TypeId} {v : Value} {n : Nat} (hn : l.length = n) (h : w'.ownsRow base e 1 v n (l.map vB)) (hb : Below w.heap.size w w') : RetZ w l (.returned v) w' := by
  subst hn
  obtain ⟨A, c, rfl, hc, hr⟩ := own_slice h
  exact ⟨A, l.length, c, rfl, rfl, hc, hr, hb⟩

set_option maxRecDepth 100000 in
set_option maxHeartbeats 1000000 in
theorem refsame_pay (t e c t' e' c' : Nat) (g g' : List UInt8) (n n' : Nat) (A A' : Option Addr) (k k' : Nat) (w : World) (HN : Hid (g.length = n)) (HN' : Hid (g'.length = n')) (hr : Rd vB w A g) (hr' : Rd vB w A' g') :
    Calls Try.prog 11 #[aggP t e c A n k, aggP t' e' c' A' n' k'] w fun e₁ w' => e₁ = .returned (.bool (sameF t e c g t' e' c' g')) ∧ Below w.heap.size w w' := by
  obtain ⟨hR0, hB0⟩ := box_pay w 25 (.int .u64 (t : Int)) (.int .u64 (e : Int)) (.int .u64 (c : Int)) (.slice A n k)
  obtain ⟨hR1, hB1⟩ := box_pay (w.alloc (.cells #[.int .u64 (t : Int), .int .u64 (e : Int), .int .u64 (c : Int), .slice A n k] 25)) 25 (.int .u64 (t' : Int)) (.int .u64 (e' : Int)) (.int .u64 (c' : Int)) (.slice A' n' k')
  replace hR0 := hR0.later hB1
  have hsz : (w.alloc (.cells #[.int .u64 (t : Int), .int .u64 (e : Int), .int .u64 (c : Int), .slice A n k] 25)).heap.size = w.heap.size + 1 := by simp
  rw [hsz] at hR1
  have hB := below_step hB0 hB1
  replace hr := hr.keep hB
  replace hr' := hr'.keep hB
  obtain ⟨E, hE⟩ : ∃ E, sameF t e c g t' e' c' g' = E := ⟨_, rfl⟩
  rw [hE]
  unfold aggP
  go_enter Try.func11, Try.ntmps11
  go_upto_region 1 with fail
  generalize (w.alloc (.cells #[.int .u64 (t : Int), .int .u64 (e : Int), .int .u64 (c : Int), .slice A n k] 25)).alloc (.cells #[.int .u64 (t' : Int), .int .u64 (e' : Int), .int .u64 (c' : Int), .slice A' n' k'] 25) = W at hR0 hR1 hB hr hr' ⊢
  have c0 : W.cell? ⟨w.heap.size, 0, none⟩ = some (.int .u64 (t : Int)) := hR0.cell rfl
  have c1 : W.cell? ⟨w.heap.size, 1, none⟩ = some (.int .u64 (e : Int)) := hR0.cell rfl
  have c2 : W.cell? ⟨w.heap.size, 2, none⟩ = some (.int .u64 (c : Int)) := hR0.cell rfl
  have c3 : W.cell? ⟨w.heap.size, 3, none⟩ = some (.slice A n k) := hR0.cell rfl
  have d0 : W.cell? ⟨w.heap.size + 1, 0, none⟩ = some (.int .u64 (t' : Int)) := hR1.cell rfl
  have d1 : W.cell? ⟨w.heap.size + 1, 1, none⟩ = some (.int .u64 (e' : Int)) := hR1.cell rfl
  have d2 : W.cell? ⟨w.heap.size + 1, 2, none⟩ = some (.int .u64 (c' : Int)) := hR1.cell rfl
  have d3 : W.cell? ⟨w.heap.size + 1, 3, none⟩ = some (.slice A' n' k') := hR1.cell rfl
  clear hR0 hR1 hB0 hB1 hsz
  by_cases h0 : t = t'
  · subst h0
    by_cases h1 : e = e'
    · subst h1
      by_cases h2 : c = c'
      · subst h2
        have hs1 : (convert 23 9 (.slice A n k)).run Try.prog W = .ok (.string (strL g)) W := run_str W _ _ _ Try.underlying23 Try.underlying5 Try.underlying9 A g n k HN.out hr
        have hs2 : (convert 23 9 (.slice A' n' k')).run Try.prog W = .ok (.string (strL g')) W := run_str W _ _ _ Try.underlying23 Try.underlying5 Try.underlying9 A' g' n' k' HN'.out hr'
        have hst : ((strL g).toList == (strL g').toList) = E := by
          rw [strL_toList, strL_toList, ← hE]
          unfold sameF
          rw [Bool.eq_iff_iff, beq_iff_eq, decide_eq_true_iff]
          simp
        clear hE
        go_wp2_with fail
        go_ret
        exact ⟨rfl, hB⟩
      · have eE : E = false := by rw [← hE]; unfold sameF; exact decide_eq_false (fun h => h2 h.2.2.1)
        have hne : ((c : Int) == (c' : Int)) = false := beq_eq_false_iff_ne.2 (by omega)
        clear hE
        subst eE
        go_wp2_with fail
        go_ret
        exact ⟨rfl, hB⟩
    · have eE : E = false := by rw [← hE]; unfold sameF; exact decide_eq_false (fun h => h1 h.2.1)
      have hne : ((e : Int) == (e' : Int)) = false := beq_eq_false_iff_ne.2 (by omega)
      clear hE
      subst eE
      go_wp2_with fail
      go_ret
      exact ⟨rfl, hB⟩
  · have eE : E = false := by rw [← hE]; unfold sameF; exact decide_eq_false (fun h => h0 h.1)
    have hne : ((t : Int) == (t' : Int)) = false := beq_eq_false_iff_ne.2 (by omega)
    clear hE
    subst eE
    go_wp2_with fail
    go_ret
    exact ⟨rfl, hB⟩

/-! ### Msg -/
theorem own_lit (w : World) (e : TypeId) (l : List Value) (cs : Array Value) (h : cs = l.toArray) (hm : l.length ≤ maxLen) : (w.alloc (.cells cs e)).ownsRow w.heap.size e 1 (.slice (some ⟨w.heap.size, 0, none⟩) l.length l.length) l.length l :=
  ⟨by simp, .inr ⟨w.heap.size, l.length, cs, rfl, Nat.le_refl _, heap_alloc_new w _, Nat.le_refl _, hm, by subst h; simp, by subst h; simp⟩⟩
theorem refput_at (v : Nat) (hv : v < 18446744073709551616) (w : World) : Calls Try.prog 23 #[.int .u64 (v : Int)] w fun e w' => ∃ A c, e = .returned (.slice A 8 c) ∧ 8 ≤ c ∧ Rd vB w' A (putL v) ∧ Below w.heap.size w w' :=
  (refput_any v hv w).mono fun e w' ⟨A, c, h1, h2, h3, h4⟩ => ⟨A, c, h1, h2, h3, h4⟩
set_option maxHeartbeats 1000000 in
theorem refmsg_any (t e c : Nat) (w : World) (ht : t < 18446744073709551616) (he : e < 18446744073709551616) (hc : c < 18446744073709551616) :
    Calls Try.prog 13 #[.int .u64 (t : Int), .int .u64 (e : Int), .int .u64 (c : Int)] w (RetZ w (msgF t e c)) := by
  obtain ⟨i0, hi, hz0, hz1, hz2⟩ := info_parts info_u8
  have HT := Lib.hid ht
  have HE := Lib.hid he
  have HC := Lib.hid hc
  have HM : Hid (msgF t e c = 67 :: (putL t ++ (putL e ++ putL c))) := rfl
  have l0 : (putL t).length = 8 := rfl
  have l1 : (putL e).length = 8 := rfl
  have l2 : (putL c).length = 8 := rfl
  clear ht he hc
  go_enter Try.func13, Try.ntmps13
  go_wp2_with fail
  have hb0 := below_new (Below.refl w.heap.size w) (.cells #[.int .u8 67] 5)
  have hown0 : (w.alloc (.cells #[.int .u8 67] 5)).ownsRow w.heap.size 5 1 (.slice (some ⟨w.heap.size, 0, none⟩) 1 1) 1 ([(67 : UInt8)].map vB) := own_lit w 5 [.int .u8 67] _ rfl (by unfold maxLen; simp)
  refine (refput_at t HT.out _).mono ?_
  rintro ee w1 ⟨A1, c1, rfl, hc1, hr1, hb1⟩
  replace hown0 := ownsRow_later hown0 hb1
  have hB1 := below_step hb0 hb1
  have hs1 := hB1.size
  clear hb0 hb1
  go_wp2_with (at_builtin; refine wpList_append_rd _ rfl (.tmp 8) (.tmp 10) 23 rfl w.heap.size 5 i0 (.int .u8 0) 1 Try.underlying23 hi hz0 hz1 hz2 rfl _ _ _ rfl hown0 A1 (putL t) c1 (by rw [l0]; rfl) hr1 vB_one (by rw [l0]; unfold maxLen; omega) (by rw [l0]; omega) (by omega) ?_; intro v11 w11 hown11 hgrow11)
  have hB2 : Below w.heap.size w w11 := hB1.grown hgrow11 hs1 (fun k hk => (hown0.lt k hk).1)
  rw [l0] at hown11
  clear hown0 hgrow11 hB1 hs1 hr1
  refine (refput_at e HE.out _).mono ?_
  rintro ee w2 ⟨A2, c2, rfl, hc2, hr2, hb2⟩
  replace hown11 := ownsRow_later hown11 hb2
  have hB3 := below_step hB2 hb2
  have hs3 := hB3.size
  clear hb2 hB2
  go_wp2_with (at_builtin; refine wpList_append_rd _ rfl (.tmp 12) (.tmp 14) 23 rfl w.heap.size 5 i0 (.int .u8 0) 1 Try.underlying23 hi hz0 hz1 hz2 rfl _ _ _ rfl hown11 A2 (putL e) c2 (by rw [l1]; rfl) hr2 vB_one (by rw [l1]; unfold maxLen; omega) (by rw [l1]; omega) (by omega) ?_; intro v12 w12 hown12 hgrow12)
  have hB4 : Below w.heap.size w w12 := hB3.grown hgrow12 hs3 (fun k hk => (hown11.lt k hk).1)
  rw [l1] at hown12
  clear hown11 hgrow12 hB3 hs3 hr2
  refine (refput_at c HC.out _).mono ?_
  rintro ee w3 ⟨A3, c3, rfl, hc3, hr3, hb3⟩
  replace hown12 := ownsRow_later hown12 hb3
  have hB5 := below_step hB4 hb3
  have hs5 := hB5.size
  clear hb3 hB4
  go_wp2_with (at_builtin; refine wpList_append_rd _ rfl (.tmp 16) (.tmp 18) 23 rfl w.heap.size 5 i0 (.int .u8 0) 1 Try.underlying23 hi hz0 hz1 hz2 rfl _ _ _ rfl hown12 A3 (putL c) c3 (by rw [l2]; rfl) hr3 vB_one (by rw [l2]; unfold maxLen; omega) (by rw [l2]; omega) (by omega) ?_; intro v13 w13 hown13 hgrow13)
  have hB6 : Below w.heap.size w w13 := hB5.grown hgrow13 hs5 (fun k hk => (hown12.lt k hk).1)
  go_ret
  rw [HM.out]
  have eM : (67 :: (putL t ++ (putL e ++ putL c))).map vB = [(67 : UInt8)].map vB ++ (putL t).map vB ++ (putL e).map vB ++ (putL c).map vB := by simp
  rw [l2] at hown13
  rw [← eM] at hown13
  exact RetZ.own (n := 1 + 8 + 8 + 8) (by simp [l0, l1, l2]) hown13 hB6
end Go.Proofs.Ytobeaoooaagdkaa
