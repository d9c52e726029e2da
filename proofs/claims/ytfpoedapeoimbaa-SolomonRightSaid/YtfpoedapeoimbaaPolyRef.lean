/-
  What the reference's calls of layer 8 answer: At, Plain, Add, Eval, shift, Times. No conditions but those typed.
-/
import Derived.Test.YtfpoedapeoimbaaPolyTab
import Derived.Test.YtfpoedapeoimbaaGfRef
import Derived.Test.YtfpoedapeoimbaaOwn
import Derived.Test.YtfpoedapeoimbaaWordWords
import Derived.Deep.DeepCutAuto
namespace Go.Proofs.Ytfpoedapeoimbaa
set_option maxRecDepth 100000
open Go.RowKit
set_option linter.unusedSimpArgs false
set_option linter.unusedVariables false

/-- A call that hands back a list of bytes. -/
def RetQ (w : World) (l : List UInt8) (e : Ending) (w' : World) : Prop := ∃ A n c, e = .returned (.slice A n c) ∧ Hid (l.length = n) ∧ n ≤ c ∧ Rd vB w' A l ∧ Below w.heap.size w w'
theorem RetQ.own {w w' : World} {l : List UInt8} {base : Nat} {e : TypeId} {v : Value} {n : Nat} (hn : l.length = n) (h : w'.ownsRow base e 1 v n (l.map vB)) (hb : Below w.heap.size w w') : RetQ w l (.returned v) w' := by
  subst hn
  obtain ⟨A, c, rfl, hc, hr⟩ := own_slice h
  exact ⟨A, l.length, c, rfl, rfl, hc, hr, hb⟩

theorem refat_any (p : List UInt8) (k n : Nat) (A : Option Addr) (c : Nat) (w : World) (HN : Hid (p.length = n)) (hr : Rd vB w A p) :
    Calls Try.prog 39 #[.slice A n c, .int .i64 (k : Int)] w fun e w' => e = .returned (.int .u8 ((co p k).toNat : Int)) ∧ w = w' := by
  have e1 := HN.out
  subst e1
  have i0 : ¬ (k : Int) < 0 := by omega
  have i1 : (0 : Int) ≤ (k : Int) := by omega
  by_cases h : k < p.length
  · obtain ⟨b, o, rfl, hb, hcell⟩ := hr.at h
    have hc := hcell k h
    have HC := Lib.hid (co_lt p k h)
    unfold vB at hc
    have j0 : ¬ (p.length : Int) ≤ (k : Int) := by omega
    have j2 : (k : Int) < (p.length : Int) := by omega
    have j1 : ¬ p.length ≤ k := by omega
    rw [HC.out]
    generalize p[k] = x at hc
    clear hcell HC hr
    go_enter Try.func39, Try.ntmps39
    go_wp2_with fail
    go_ret
    exact ⟨rfl, rfl⟩
  · have j0 : (p.length : Int) ≤ (k : Int) := by omega
    have j1 : p.length ≤ k := by omega
    rw [co_ge p k j1]
    go_enter Try.func39, Try.ntmps39
    go_wp2_with fail
    go_ret
    exact ⟨rfl, rfl⟩

/-! ### Plain -/
set_option maxHeartbeats 1000000 in
theorem refplain_any (p : List UInt8) (n : Nat) (A : Option Addr) (c : Nat) (w : World) (HN : Hid (p.length = n)) (hr : Rd vB w A p) (hc : n ≤ c) (hn : n ≤ 1000000) :
    Calls Try.prog 40 #[.slice A n c] w (RetQ w (plainL p)) := by
  obtain ⟨i0, hi, hz0, hz1, hz2⟩ := info_parts info_u8
  go_enter Try.func40, Try.ntmps40
  go_wp2_with fail
  go_loopw [3] (fun i wr => ∃ k : Nat, k ≤ n ∧ i = .int .i64 (k : Int) ∧ (∀ j, k ≤ j → co p j = 0) ∧ w = wr) (fun i _ => (intOf i).toNat)
  case atStart => exact ⟨n, Nat.le_refl _, rfl, fun j hj => co_ge p j (by rw [HN.out]; exact hj), rfl⟩
  case round =>
    obtain ⟨k, hk, rfl, hz, rfl⟩ := hrel
    have HZ := Lib.hid hz
    clear hz
    have done : ∀ (hfin : k = 0 ∨ co p (k - 1) ≠ 0), plainL p = p.take k := fun hfin => plain_take p k (by rw [HN.out]; exact hk) HZ.out hfin
    have HD := Lib.hid done
    clear done
    have htk : Rd vB (w.alloc (.cells #[] 5)) A (p.take k) := (hr.take k).keep (below_new (Below.refl _ _) _)
    have hlk : (p.take k).length = k := by rw [List.length_take, HN.out]; omega
    have HLK := Lib.hid hlk
    clear hlk
    have hown0 : (w.alloc (.cells #[] 5)).ownsRow w.heap.size 5 1 (.slice (some ⟨w.heap.size, 0, none⟩) 0 0) 0 [] := World.ownsRow_made w #[] 0 (Nat.le_refl _) (by unfold maxLen; omega) rfl
    have hB0 := below_new (Below.refl _ w) (.cells #[] 5)
    have hcut := run_cut_to 22 5 Try.underlying22 size_uint8 A n c k (by omega) (w.alloc (.cells #[] 5))
    by_cases h0 : k = 0
    · subst h0
      have HP := Lib.hid (HD.out (.inl rfl))
      have hcut0 : (Instr.slice 22 (.slice A n c) none (some (.int .i64 0)) none).run Try.prog (w.alloc (.cells #[] 5)) = .ok (.slice A 0 c) (w.alloc (.cells #[] 5)) := hcut
      clear HD HZ hcut
      go_wp2_with (at_builtin; refine wpList_append_rd _ rfl (.tmp 18) (.tmp 21) 22 rfl w.heap.size 5 i0 (.int .u8 0) 1 Try.underlying22 hi hz0 hz1 hz2 rfl _ _ _ rfl hown0 A (p.take 0) c (by rw [HLK.out]; rfl) htk vB_one (by rw [HLK.out]; unfold maxLen; omega) (by rw [HLK.out]; omega) (by simp) ?_; intro v1 w1 hown1 hgrow1)
      go_ret
      rw [HP.out]
      rw [Nat.zero_add, List.nil_append] at hown1
      exact RetQ.own rfl hown1 (hB0.grown hgrow1 (by simp) (fun k hk => (hown0.lt k hk).1))
    · obtain ⟨m, rfl⟩ : ∃ m, k = m + 1 := ⟨k - 1, by omega⟩
      have hm : m < p.length := by rw [HN.out]; omega
      obtain ⟨b, o, rfl, hb, hcell⟩ := hr.at hm
      have hc0 := hcell m hm
      have HC := Lib.hid (co_lt p m hm)
      unfold vB at hc0
      have i1 : (0 : Int) < (m : Int) + 1 := by omega
      have i2 : (0 : Int) ≤ (m : Int) := by omega
      have i3 : (m : Int) < (n : Int) := by omega
      by_cases hx : p[m] = 0
      · have hz' : Hid (∀ j, m ≤ j → co p j = 0) := fun j hj => by
          rcases Nat.eq_or_lt_of_le hj with e | e
          · rw [← e, HC.out, hx]
          · exact HZ.out j e
        rw [hx] at hc0
        have hc1 : w.cell? ⟨b, o + m, none⟩ = some (.int .u8 0) := hc0
        clear HD HZ hcell HC hc0 hx htk hown0 hcut hB0
        go_wp2_with fail
        go_roundw
        case rel => exact ⟨m, by omega, by go_num, hz'.out, by simp⟩
        case measure => simp [intOf] <;> omega
      · have HP := Lib.hid (HD.out (.inr (by rw [Nat.add_sub_cancel, HC.out]; exact hx)))
        have hne : ((p[m].toNat : Int) == 0) = false := by
          have : p[m].toNat ≠ 0 := fun e => hx (UInt8.toNat_inj.1 e)
          simp
          omega
        generalize p[m] = x at hc0 hne
        clear HD HZ hcell HC hx
        go_wp2_with (at_builtin; refine wpList_append_rd _ rfl (.tmp 18) (.tmp 21) 22 rfl w.heap.size 5 i0 (.int .u8 0) 1 Try.underlying22 hi hz0 hz1 hz2 rfl _ _ _ rfl hown0 _ (p.take (m + 1)) c (by rw [HLK.out]; rfl) htk vB_one (by rw [HLK.out]; unfold maxLen; omega) (by rw [HLK.out]; omega) (by simp) ?_; intro v1 w1 hown1 hgrow1)
        go_ret
        rw [HP.out]
        rw [Nat.zero_add, List.nil_append] at hown1
        exact RetQ.own rfl hown1 (hB0.grown hgrow1 (by simp) (fun k hk => (hown0.lt k hk).1))

/-! ### Add -/
def TabRel (f : Nat → UInt8) (lo hi : Nat) (w : World) (v i : Value) (wr : World) : Prop :=
  ∃ k : Nat, k ≤ hi ∧ i = .int .i64 ((k + lo : Nat) : Int) ∧ wr.ownsRow w.heap.size 5 1 v k ((tabL f k).map vB) ∧ Below w.heap.size w wr
theorem tab_round {f : Nat → UInt8} {lo hi k : Nat} {w wr w1 : World} {u v : Value} {o : Obj} {x : UInt8} (hk : k < hi) (ho : wr.ownsRow w.heap.size 5 1 u k ((tabL f k).map vB)) (hb : Below w.heap.size w wr) (hx : f k = x)
    (hg : (wr.alloc o).grownBy w1 u.ownBlock) (ho' : w1.ownsRow w.heap.size 5 1 v (k + 1) ((tabL f k).map vB ++ [Value.int .u8 (x.toNat : Int)])) : TabRel f lo hi w v (.int .i64 ((k + 1 + lo : Nat) : Int)) w1 :=
  ⟨k + 1, hk, rfl, by subst hx; rw [tabL, List.map_append]; exact ho', (hb.alloc hb.size o).grown hg (by have := hb.size; simp; omega) (fun g hk => (ho.lt g hk).1)⟩

end Go.Proofs.Ytfpoedapeoimbaa
