/-
  What the reference's call Write of layer 12 answers. No conditions but those typed.
-/
import Derived.Test.YtobeaoooaagdkaaFrameRef
import Derived.Test.YtobeaoooaagdkaaApart
namespace Go.Proofs.Ytobeaoooaagdkaa
set_option maxRecDepth 100000
open Go.RowKit
set_option linter.unusedSimpArgs false
set_option linter.unusedVariables false

def preF (N : List Nat) (i : Nat) : List UInt8 := 87 :: (N.take i).flatMap numF
theorem pre_next (N : List Nat) (i : Nat) (h : i < N.length) : preF N (i + 1) = preF N i ++ numF N[i] := by
  unfold preF
  rw [List.take_succ_eq_append_getElem h, List.flatMap_append, List.cons_append]
  simp
theorem pre_length (N : List Nat) (i : Nat) : (preF N i).length ≤ 1 + 9 * i := by
  induction i with
  | zero => simp [preF]
  | succ i ih =>
    rcases Nat.lt_or_ge i N.length with h | h
    · rw [pre_next N i h, List.length_append]
      have := (num_length N[i]).2
      omega
    · have e : preF N (i + 1) = preF N i := by unfold preF; rw [List.take_of_length_le (by omega), List.take_of_length_le h]
      rw [e]
      omega
theorem pre_write (t e c : Nat) (tag : List UInt8) : preF [t, e, c] 3 ++ tag = writeF t e c tag := by simp [preF, writeF]
def uV (x : Nat) : Value := .int .u64 (x : Int)
def WrR (N : List Nat) (cp : List Value) (w : World) (v iv : Value) (wr : World) : Prop :=
  ∃ i : Nat, i ≤ 3 ∧ iv = .int .i64 (i : Int) ∧ wr.ownsRow (w.heap.size + 1) 5 1 v (preF N i).length ((preF N i).map vB) ∧ v.ownBlock ≠ some (w.heap.size + 2) ∧ Row wr w.heap.size 25 cp ∧ Row wr (w.heap.size + 2) 22 (N.map uV) ∧ Below w.heap.size w wr

set_option maxRecDepth 100000 in
set_option maxHeartbeats 2000000 in
theorem refwriteF_any (t e c : Nat) (tag : List UInt8) (n : Nat) (A : Option Addr) (k : Nat) (w : World) (ht : t < 18446744073709551616) (he : e < 18446744073709551616) (hc : c < 18446744073709551616) (HN : Hid (tag.length = n)) (hr : Rd vB w A tag) (hn : n ≤ 100000) :
    Calls Try.prog 7 #[aggP t e c A n k] w (RetZ w (writeF t e c tag)) := by
  obtain ⟨i0, hi, hz0, hz1, hz2⟩ := info_parts info_u8
  obtain ⟨hR0, hB0⟩ := box_pay w 25 (.int .u64 (t : Int)) (.int .u64 (e : Int)) (.int .u64 (c : Int)) (.slice A n k)
  have hsz : (w.alloc (.cells #[.int .u64 (t : Int), .int .u64 (e : Int), .int .u64 (c : Int), .slice A n k] 25)).heap.size = w.heap.size + 1 := by simp
  have HALL : Hid (∀ x ∈ [t, e, c], x < 18446744073709551616) := fun x hx => by
    simp at hx
    rcases hx with rfl | rfl | rfl <;> assumption
  unfold aggP
  go_enter Try.func7, Try.ntmps7
  go_upto_region 1 with fail
  generalize (w.alloc (.cells #[.int .u64 (t : Int), .int .u64 (e : Int), .int .u64 (c : Int), .slice A n k] 25)) = W0 at hR0 hB0 hsz ⊢
  have hown0 := own_lit W0 5 ([(87 : UInt8)].map vB) #[.int .u8 87] rfl (by unfold maxLen; simp)
  have hbn := below_new (Below.refl W0.heap.size W0) (.cells #[.int .u8 87] 5)
  have hs1 : (W0.alloc (.cells #[.int .u8 87] 5)).heap.size = w.heap.size + 2 := by simp; omega
  rw [hsz] at hown0
  replace hR0 := hR0.later hbn
  replace hB0 := below_step hB0 hbn
  go_upto_region 2 with fail
  generalize W0.alloc (.cells #[.int .u8 87] 5) = W1 at hown0 hR0 hB0 hs1 ⊢
  have c0 : W1.cell? ⟨w.heap.size, 0, none⟩ = some (.int .u64 (t : Int)) := hR0.cell rfl
  have c1 : W1.cell? ⟨w.heap.size, 1, none⟩ = some (.int .u64 (e : Int)) := hR0.cell rfl
  have c2 : W1.cell? ⟨w.heap.size, 2, none⟩ = some (.int .u64 (c : Int)) := hR0.cell rfl
  have hR2 : Row (W1.alloc (.cells #[.int .u64 (t : Int), .int .u64 (e : Int), .int .u64 (c : Int)] 22)) (w.heap.size + 2) 22 ([t, e, c].map uV) := Row.new_at _ _ hs1.symm _ _ _ rfl
  have hbn2 := below_new (Below.refl W1.heap.size W1) (.cells #[.int .u64 (t : Int), .int .u64 (e : Int), .int .u64 (c : Int)] 22)
  replace hown0 := ownsRow_later hown0 hbn2
  replace hR0 := hR0.later hbn2
  replace hB0 := below_step hB0 hbn2
  clear hbn hbn2
  go_upto_region 3 with fail
  generalize W1.alloc (.cells #[.int .u64 (t : Int), .int .u64 (e : Int), .int .u64 (c : Int)] 22) = W2 at hown0 hR0 hR2 hB0 ⊢
  have HPW : Hid (preF [t, e, c] 3 ++ tag = writeF t e c tag) := pre_write t e c tag
  clear c0 c1 c2 hs1 hsz ht he hc
  have hN3 : [t, e, c].length = 3 := rfl
  generalize [t, e, c] = N at hR2 HALL HPW hN3
  go_wp2_with fail
  go_loopw [3, 5] (fun v iv wr => WrR N [.int .u64 (t : Int), .int .u64 (e : Int), .int .u64 (c : Int), .slice A n k] w v iv wr) (fun _ i _ => 3 - (intOf i).toNat)
  case atStart => exact ⟨0, by omega, rfl, hown0, by simp [Value.ownBlock], hR0, hR2, hB0⟩
  case round =>
    clear hown0 hR0 hR2 hB0
    obtain ⟨i, hi3, rfl, hown, hap, hRp, hRn, hbel⟩ := hrel
    have hpl := pre_length N i
    by_cases h : i < 3
    · have hiN : i < N.length := by omega
      have HPN := Lib.hid (pre_next N i hiN)
      have hx := HALL.out N[i] (List.getElem_mem hiN)
      have hcell : wr.cell? ⟨w.heap.size + 2, i, none⟩ = some (.int .u64 (N[i] : Int)) := hRn.cell (by simp [hiN, uV])
      have i1 : (i : Int) < 3 := by omega
      have i0' : (0 : Int) ≤ (i : Int) := by omega
      generalize N[i] = x at hx hcell HPN
      have HX := Lib.hid hx
      generalize preF N i = P at hown hpl HPN
      clear hx
      go_wp2_with fail
      refine (refleast_own x HX.out _).mono ?_
      rintro ee w1 ⟨vx, rfl, hownx, hb1⟩
      obtain ⟨A1, c1, rfl, hc1, hr1⟩ := own_slice hownx
      have hA1 : ∀ a, A1 = some a → wr.heap.size ≤ a.block := fun a ha => (hownx.lt a.block (by rw [ha]; rfl)).1
      have hvb : ∀ b, Value.ownBlock u3 = some b → b < wr.heap.size := fun b hb => (hown.lt b hb).2
      clear hownx
      have hll := leastL_length x
      have HNM : Hid (numF x = UInt8.ofNat (leastL x).length :: leastL x) := rfl
      generalize leastL x = L at hc1 hr1 hll HNM
      obtain ⟨m, hm⟩ : ∃ m, L.length = m := ⟨_, rfl⟩
      have hy : (UInt8.ofNat m).toNat = m := by rw [UInt8.toNat_ofNat']; omega
      have HM := Lib.hid hm
      rw [hm] at hc1 hll HNM ⊢
      generalize UInt8.ofNat m = y at hy HNM
      have hyi : IntKind.u8.wrap (m : Int) = (y.toNat : Int) := by rw [IntKind.wrap_u8', hy]; omega
      have hyj : (m : Int) % 256 = (y.toNat : Int) := by rw [hy]; omega
      have hown1 := ownsRow_later hown hb1
      have hRp1 := hRp.later hb1
      have hRn1 := hRn.later hb1
      have hB1 := below_step hbel hb1
      have hsz1 := hB1.size
      have hgl := hRn.lt
      have hs11 := hb1.size
      have hry : Rd vB (w1.alloc (.cells #[.int .u8 (y.toNat : Int)] 5)) (some ⟨w1.heap.size, 0, none⟩) [y] := Rd.new w1 [y] _ _ rfl
      have hbn := below_new (Below.refl w1.heap.size w1) (.cells #[.int .u8 (y.toNat : Int)] 5)
      have hbs := hbn.size
      replace hown1 := ownsRow_later hown1 hbn
      replace hRp1 := hRp1.later hbn
      replace hRn1 := hRn1.later hbn
      replace hr1 := hr1.keep hbn
      replace hB1 := below_step hB1 hbn
      clear hown hRp hRn hbel hb1 hbn hm hy hcell
      go_upto_region 8 with (at_builtin; refine wpList_append_apart _ rfl (.tmp 24) (.tmp 28) 23 rfl (w.heap.size + 1) 5 i0 (.int .u8 0) 1 Try.underlying23 hi hz0 hz1 hz2 rfl _ _ _ rfl hown1 _ ([y]) 1 rfl hry vB_one (by show P.length + 1 ≤ maxLen; unfold maxLen; omega) (by show (P.length + 1) * 1 ≤ _; omega) (by omega) ?_; intro v3 w3 hown3 hgrow3 hat3)
      have hap3 := apart_of hap (by omega) hat3
      have hB3 : Below w.heap.size w w3 := hB1.grown hgrow3 (by omega) (fun k hk => by have := (hown1.lt k hk).1; omega)
      have hRp3 := hRp1.grown hgrow3 (fun e => by have := (hown1.lt _ e).1; omega)
      have hRn3 := hRn1.grown hgrow3 hap
      have hr3 := hr1.grown hgrow3 (fun a ha e => by have h1 := hA1 a ha; have h2 := hvb _ e; omega)
      have hA1v : ∀ a, A1 = some a → Value.ownBlock v3 ≠ some a.block ∨ True := fun _ _ => .inr trivial
      clear hown1 hgrow3 hRp1 hRn1 hr1 hB1 hA1v
      have e1 : P.length + [y].length = (P ++ [y]).length := by rw [List.length_append]
      have e2 : P.map vB ++ [y].map vB = (P ++ [y]).map vB := by rw [List.map_append]
      rw [e1, e2] at hown3
      have hP1 : (P ++ [y]).length ≤ 100 := by rw [List.length_append]; simp; omega
      have HPP : Hid (preF N (i + 1) = (P ++ [y]) ++ L) := by unfold Hid; rw [HPN.out, HNM.out]; simp
      generalize P ++ [y] = P1 at hown3 hP1 HPP
      have hgl3 := hRn3.lt
      clear e1 e2 hap
      go_wp2_with (at_builtin; refine wpList_append_apart _ rfl (.tmp 30) (.tmp 31) 23 rfl (w.heap.size + 1) 5 i0 (.int .u8 0) 1 Try.underlying23 hi hz0 hz1 hz2 rfl _ _ _ rfl hown3 A1 L c1 (by rw [HM.out]; rfl) hr3 vB_one (by rw [HM.out]; unfold maxLen; omega) (by rw [HM.out]; omega) (by omega) ?_; intro v4 w4 hown4 hgrow4 hat4)
      have hB4 : Below w.heap.size w w4 := hB3.grown hgrow4 hB3.size (fun k hk => by have := (hown3.lt k hk).1; omega)
      have HREL : Hid (WrR N [.int .u64 (t : Int), .int .u64 (e : Int), .int .u64 (c : Int), .slice A n k] w v4 (.int .i64 ((i : Int) + 1)) w4) :=
        ⟨i + 1, by omega, by go_num, by rw [HPP.out, List.length_append, List.map_append]; exact hown4, apart_of hap3 hgl3 hat4, hRp3.grown hgrow4 (fun e => by have := (hown3.lt _ e).1; omega), hRn3.grown hgrow4 hap3, hB4⟩
      clear hown4 hgrow4 hown3 hB4 hB3 hRp3 hRn3
      go_wp2_with fail
      go_roundw
      case rel => exact HREL.out
      case measure => simp [intOf] <;> omega
    · have ei : i = 3 := by omega
      subst ei
      have hcell : wr.cell? ⟨w.heap.size, 3, none⟩ = some (.slice A n k) := hRp.cell rfl
      have hrt := hr.keep hbel
      have hs := hRn.lt
      have i1 : ¬ (3 : Int) < 3 := by omega
      generalize preF N 3 = P at hown hpl HPW
      go_wp2_with (at_builtin; refine wpList_append_apart _ rfl (.tmp 33) (.tmp 35) 23 rfl (w.heap.size + 1) 5 i0 (.int .u8 0) 1 Try.underlying23 hi hz0 hz1 hz2 rfl _ _ _ rfl hown A tag k (by rw [HN.out]; rfl) hrt vB_one (by rw [HN.out]; unfold maxLen; omega) (by rw [HN.out]; omega) (by omega) ?_; intro v4 w4 hown4 hgrow4 hat4)
      go_ret
      have hB4 : Below w.heap.size w w4 := hbel.grown hgrow4 hbel.size (fun k hk => by have := (hown.lt k hk).1; omega)
      rw [← HPW.out]
      rw [← List.map_append] at hown4
      exact RetZ.own (by rw [List.length_append]) hown4 hB4
end Go.Proofs.Ytobeaoooaagdkaa
