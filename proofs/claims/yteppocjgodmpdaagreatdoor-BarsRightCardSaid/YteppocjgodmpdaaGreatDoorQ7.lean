/-
  What the program's calls Plain, Add, Mul, Times, Slope of layer 8 answer, over the landed code. No conditions but those typed.
-/
import Derived.Test.YteppocjgodmpdaaGreatDoorQ6
import Derived.StillTailTactics
import Derived.OrdersIn
import Derived.TacticsIn
import Derived.RangeFuncCalls
namespace Go.Proofs.YteppocjgodmpdaaGreatDoor
set_option maxRecDepth 100000
open Go.RowKit
set_option linter.unusedSimpArgs false
set_option linter.unusedVariables false

/-- What hands back bytes in memory of its own. -/
def RetP (w : World) (l : List UInt8) (e : Ending) (w' : World) : Prop := ∃ v, e = .returned v ∧ w'.ownsRow w.heap.size 5 1 v l.length (l.map vB) ∧ Below w.heap.size w w'
theorem RetP.any {w w' : World} {l : List UInt8} {e : Ending} (h : RetP w l e w') : RetQ w l e w' := by
  obtain ⟨v, rfl, ho, hb⟩ := h
  exact RetQ.own rfl ho hb
theorem plainP_own (p : List UInt8) (n : Nat) (A : Option Addr) (c : Nat) (w : World) (HN : Hid (p.length = n)) (hr : Rd vB w A p) (hc : n ≤ c) (hn : n ≤ 100000) :
    Calls Tryz.prog 188 #[.slice A n c] w (RetP w (plainL p)) := by
  go_enter Tryz.func188, Tryz.ntmps188
  go_wp2_with fail
  refine (cutP_any p n A c _ HN hr hc hn).mono ?_
  rintro e w1 ⟨k, rfl, HK, hk, hb1⟩
  have e1 := HK.out
  subst e1
  go_wp2_with fail
  refine (clone_own (plainL p) A c w1 (hr.keep hb1).plain (by omega)).mono ?_
  rintro e w2 ⟨v, rfl, ho, hb2⟩
  have hsz := hb1.size
  go_wp2_with fail
  go_ret
  refine ⟨v, rfl, ?_, below_step hb1 hb2⟩
  exact ⟨ho.1, ho.2.imp id fun ⟨g, cap, cur, h1, h2, h3⟩ => ⟨g, cap, cur, h1, Nat.le_trans hsz h2, h3⟩⟩
theorem plainP_any (p : List UInt8) (n : Nat) (A : Option Addr) (c : Nat) (w : World) (HN : Hid (p.length = n)) (hr : Rd vB w A p) (hc : n ≤ c) (hn : n ≤ 100000) :
    Calls Tryz.prog 188 #[.slice A n c] w (RetQ w (plainL p)) :=
  (plainP_own p n A c w HN hr hc hn).mono fun _ _ h => h.any
theorem addP_any (p q : List UInt8) (n m : Nat) (A B : Option Addr) (c d : Nat) (w : World) (HN : Hid (p.length = n)) (HM : Hid (q.length = m)) (hp : Rd vB w A p) (hq : Rd vB w B q) (hc : n ≤ c) (hd : m ≤ d) (hn : n ≤ 50000) (hm : m ≤ 50000) :
    Calls Tryz.prog 203 #[.slice A n c, .slice B m d] w (RetQ w (plainL (addL p q))) := by
  obtain ⟨i0, hi, hz0, hz1, hz2⟩ := info_parts info_u8
  go_enter Tryz.func203, Tryz.ntmps203
  go_wp2_with fail
  refine (cutP_any p n A c _ HN hp hc (by omega)).mono ?_
  rintro e w1 ⟨k1, rfl, HK1, hk1, hb1⟩
  go_wp2_with fail
  refine (cutP_any q m B d _ HM (hq.keep hb1) hd (by omega)).mono ?_
  rintro e w2 ⟨k2, rfl, HK2, hk2, hb2⟩
  have hB := below_step hb1 hb2
  replace hp := (hp.keep hB).plain
  replace hq := (hq.keep hB).plain
  have hq2 := hq
  obtain ⟨M, hM⟩ : ∃ M : Nat, M = max k1 k2 := ⟨_, rfl⟩
  have q0 : (if (k1 : Int) < (k2 : Int) then (k2 : Int) else (k1 : Int)) = (M : Int) := by rw [hM]; split <;> omega
  have q1 : (if k1 < k2 then (k2 : Int) else (k1 : Int)) = (M : Int) := by rw [hM]; split <;> omega
  have hM1 : k1 ≤ M := by omega
  have hM2 : k2 ≤ M := by omega
  have hM3 : M ≤ 50000 := by omega
  clear hM
  have HP1 := Lib.hid (plain_is_take p)
  go_upto_region 3 with (at_make; refine wpList_make_full _ rfl _ _ 22 rfl w2.heap.size 5 i0 (.int .u8 0) 1 Tryz.underlying22 hi hz0 hz1 .i64 .i64 _ _ M rfl rfl rfl rfl (by rw [hz2]; omega) (by unfold maxLen; omega) (Nat.le_refl _) ?_; intro w0 hown0 hgrow0)
  rw [Nat.mul_one, show (Value.int .u8 0).cells = #[.int .u8 0] from rfl, toList_madeCells_one, zeros_map] at hown0
  obtain ⟨hc0, _, _⟩ := cel_some hown0 List.length_replicate
  have hB0 : Below w2.heap.size w2 w0 := (Below.refl _ _).grown hgrow0 (Nat.le_refl _) (by simp)
  have hB3 := below_step hB hB0
  replace hp := hp.keep hB0
  replace hq := hq.keep hB0
  have hAq := hq2.apart (Nat.le_refl _)
  generalize hgd : w2.heap.size = g at hc0 hAq ⊢
  clear hown0 hgrow0 q0 q1
  have hPM : (plainL p).length ≤ (List.replicate M (0 : UInt8)).length := by rw [List.length_replicate, HK1.out]; omega
  have e1 := HK1.out
  subst e1
  go_upto_region 4 with (refine wpList_copy_cel rfl (.tmp 16) (.tmp 17) 22 22 rfl 5 Tryz.underlying22 (by kernel_rfl) g 0 M M A (plainL p) c rfl rfl (List.replicate M 0) 5 hc0 hp hM1 (by omega) ?_; intro w3 hc3 ho3)
  obtain ⟨hT1, hT2⟩ := pad_is (plainL p) M hM1
  have HSum := Lib.hid (at_one (q := q) hT2 (plain_eqv p) (plain_eqv q))
  generalize (List.replicate M (0 : UInt8)).take 0 ++ plainL p ++ (List.replicate M 0).drop (0 + (plainL p).length) = T at hc3 hT1 HSum
  have hq3 := hq.only ho3 hAq
  have hA := addtimes_any T (plainL q) 1 g 0 M M k2 B d w3 HK2 hc3 hq3 hAq hM2 (Nat.le_refl _) (by omega) (by omega)
  have HLen : Hid ((atL T 0 (scaleL 1 (plainL q))).length = M) := by unfold Hid; rw [at_length _ _ _ (by unfold scaleL; rw [List.length_map, HK2.out]; omega), hT1]
  generalize atL T 0 (scaleL 1 (plainL q)) = S at hA HSum HLen
  have HA := Lib.hid hA
  have hb3 : Below w2.heap.size w0 w3 := ho3.below.mono (by omega)
  clear hA hT2 hc3 hq3 hc0 hPM
  go_wp2_with fail
  refine HA.out.mono ?_
  rintro e w4 ⟨⟨v4, rfl⟩, hc4, ho4⟩
  have hb4 : Below w2.heap.size w3 w4 := ho4.below.mono (by omega)
  have hB4 : Below w.heap.size w w4 := hB.trans (((hB0.trans hb3).trans hb4).mono hB.size)
  go_wp2_with fail
  refine (cutP_any S M (some ⟨g, 0, none⟩) M _ HLen hc4.rd (Nat.le_refl _) (by omega)).mono ?_
  rintro e w5 ⟨k5, rfl, HK5, hk5, hb5⟩
  have hr5 := (hc4.rd.plain).keep hb5
  rw [HSum.out] at hr5 HK5
  go_wp2_with fail
  go_ret
  exact ⟨_, k5, M, rfl, HK5, hk5, hr5, below_step hB4 hb5⟩
def MulRel (P Q : List UInt8) (N g : Nat) (w : World) (i : Value) (wr : World) : Prop :=
  ∃ (k : Nat) (T : List UInt8), k ≤ P.length ∧ i = .int .i64 (k : Int) ∧ T.length = N ∧ Eqv T (mulL (P.take k) Q) ∧ CelN wr g 5 N T ∧ Only g w wr
set_option maxHeartbeats 2000000 in
theorem mulP_own (p q : List UInt8) (n m : Nat) (A B : Option Addr) (c d : Nat) (w : World) (HN : Hid (p.length = n)) (HM : Hid (q.length = m)) (hp : Rd vB w A p) (hq : Rd vB w B q) (hc : n ≤ c) (hd : m ≤ d) (hn : n ≤ 50000) (hm : m ≤ 50000) :
    Calls Tryz.prog 184 #[.slice A n c, .slice B m d] w (RetP w (plainL (mulL p q))) := by
  obtain ⟨i0, hi, hz0, hz1, hz2⟩ := info_parts info_u8
  go_enter Tryz.func184, Tryz.ntmps184
  go_wp2_with fail
  refine (cutP_any p n A c _ HN hp hc (by omega)).mono ?_
  rintro e w1 ⟨k1, rfl, HK1, hk1, hb1⟩
  go_wp2_with fail
  refine (cutP_any q m B d _ HM (hq.keep hb1) hd (by omega)).mono ?_
  rintro e w2 ⟨k2, rfl, HK2, hk2, hb2⟩
  have hB := below_step hb1 hb2
  replace hp := (hp.keep hB).plain
  replace hq := (hq.keep hB).plain
  by_cases h1 : k1 = 0
  · subst h1
    have HP : Hid (plainL (mulL p q) = []) := by
      have h3 : Eqv (mulL p q) [] := by
        refine (mul_congr (plain_eqv p).symm (Eqv.refl q)).trans ?_
        rw [List.eq_nil_of_length_eq_zero HK1.out]
        exact Eqv.refl _
      exact plain_nil h3.symm
    go_wp2_with fail
    go_ret
    rw [HP.out]
    exact ⟨_, rfl, World.ownsRow_nil _ _ _ _, hB⟩
  · by_cases h2 : k2 = 0
    · subst h2
      have HP : Hid (plainL (mulL p q) = []) := by
        have h3 : Eqv (mulL p q) [] := by
          refine (mul_congr (Eqv.refl p) (plain_eqv q).symm).trans ?_
          rw [List.eq_nil_of_length_eq_zero HK2.out]
          exact mulL_nil p
        exact plain_nil h3.symm
      have h1' : ((k1 : Int) == 0) = false := beq_eq_false_iff_ne.2 (by omega)
      go_wp2_with fail
      go_ret
      rw [HP.out]
      exact ⟨_, rfl, World.ownsRow_nil _ _ _ _, hB⟩
    · have h1' : ((k1 : Int) == 0) = false := beq_eq_false_iff_ne.2 (by omega)
      have h2' : ((k2 : Int) == 0) = false := beq_eq_false_iff_ne.2 (by omega)
      obtain ⟨M, hM⟩ : ∃ M : Nat, M + 1 = k1 + k2 := ⟨k1 + k2 - 1, by omega⟩
      have m0 : (k1 : Int) + (k2 : Int) - 1 = (M : Int) := by omega
      have m1 : M ≤ 100000 := by omega
      have HMM := Lib.hid hM
      have HKs : Hid (k1 ≠ 0 ∧ k2 ≠ 0) := ⟨h1, h2⟩
      clear hM h1 h2
      go_upto_region 5 with (at_make; refine wpList_make_full _ rfl _ _ 22 rfl w2.heap.size 5 i0 (.int .u8 0) 1 Tryz.underlying22 hi hz0 hz1 .i64 .i64 _ _ M rfl rfl rfl rfl (by rw [hz2]; omega) (by unfold maxLen; omega) (Nat.le_refl _) ?_; intro w0 hown0 hgrow0)
      rw [Nat.mul_one, show (Value.int .u8 0).cells = #[.int .u8 0] from rfl, toList_madeCells_one, zeros_map] at hown0
      obtain ⟨hc0, _, _⟩ := celN_some hown0 List.length_replicate
      have hB0 : Below w2.heap.size w2 w0 := (Below.refl _ _).grown hgrow0 (Nat.le_refl _) (by simp)
      have hgw : w.heap.size ≤ w2.heap.size := hB.size
      have hAp := hp.apart (Nat.le_refl _)
      have hAq := hq.apart (Nat.le_refl _)
      replace hp := hp.keep hB0
      replace hq := hq.keep hB0
      generalize hgd : w2.heap.size = g at hc0 hAp hAq hgw ⊢
      have hB3 : Below w.heap.size w w0 := below_step hB hB0
      clear hown0 hgrow0 hB0 hB hgd hb1 hb2
      have HE : Hid (∀ T : List UInt8, T.length = M → Eqv T (mulL (plainL p) (plainL q)) → T = plainL (mulL p q)) := fun T hT hE =>
        mul_plain_is (by intro e; have := HK1.out; rw [e] at this; exact HKs.out.1 this.symm) (by intro e; have := HK2.out; rw [e] at this; exact HKs.out.2 this.symm) (by rw [hT, HK1.out, HK2.out]; have := HMM.out; omega) hE
      generalize plainL p = P at HK1 hp hAp HE
      generalize plainL q = Q at HK2 hq hAq HE
      go_wp2_with fail
      go_loopw [29] (fun i wr => MulRel P Q M g w0 i wr) (fun i _ => k1 - (intOf i).toNat)
      case atStart => exact ⟨0, List.replicate M 0, Nat.zero_le _, rfl, List.length_replicate, fun k => by rw [List.take_zero, mulL, co_nil]; exact co_pad [] M k, hc0, Only.refl _ _⟩
      case round =>
        clear hc0
        obtain ⟨k, T, hk, rfl, hT, hE, hc, ho⟩ := hrel
        by_cases h : k < k1
        · have j1 : (k : Int) < (k1 : Int) := by omega
          have j0 : (0 : Int) ≤ (k : Int) := by omega
          have hkP : k < P.length := by rw [HK1.out]; exact h
          obtain ⟨b, ob, rfl, hb, hcell⟩ := (hp.only ho hAp).at hkP
          have hc1 := hcell k hkP
          unfold vB at hc1
          have hkM : k2 ≤ M - k := by have := HMM.out; omega
          have hkM2 : k < M := by have := HMM.out; have := HKs.out; omega
          have hcut := fun W => run_cut_at (P := Tryz.prog) 22 5 Tryz.underlying22 size_uint8 g 0 M M k (by omega) (Nat.le_refl _) hkM2 W
          simp only [Nat.zero_add] at hcut
          have hA := addtimes_cap T Q P[k] M g k (M - k) (M - k) k2 B d wr HK2 hc (hq.only ho hAq) hAq hkM (Nat.le_refl _) (by omega) (by omega)
          have HL : Hid ((atL T k (scaleL P[k] Q)).length = M) := by unfold Hid; rw [at_length _ _ _ (by unfold scaleL; rw [List.length_map, HK2.out]; omega), hT]
          have HR : Hid (Eqv (atL T k (scaleL P[k] Q)) (mulL (P.take (k + 1)) Q)) := mul_round hE hkP
          generalize atL T k (scaleL P[k] Q) = T' at hA HL HR
          generalize P[k] = x at hA hc1
          have HA := Lib.hid hA
          have HK := Lib.hid h
          have HO := Lib.hid ho
          clear hA hE hc ho hcell hkP hT hkM hkM2 h
          go_wp2_with fail
          refine HA.out.mono ?_
          rintro e w3 ⟨⟨v3, rfl⟩, hc3, ho3⟩
          go_wp2_with fail
          go_roundw
          case rel => exact ⟨k + 1, T', by rw [HK1.out]; exact HK.out, by go_num, HL.out, HR.out, hc3, HO.out.trans ho3⟩
          case measure => have := HK.out; simp [intOf] <;> omega
        · have hkk : k = P.length := by rw [HK1.out] at hk ⊢; omega
          have j1 : ¬ (k : Int) < (k1 : Int) := by omega
          have HRR : Hid (T = plainL (mulL p q)) := by
            refine HE.out T hT ?_
            rw [hkk, List.take_length] at hE
            exact hE
          have hbw : Below w.heap.size w0 wr := ho.below.mono hgw
          have hown := hc.own (base := w.heap.size) hgw (by omega) (by unfold maxLen; omega)
          rw [hT] at hown
          have HOW := Lib.hid hown
          clear hown hc ho hE hkk
          go_wp2_with fail
          go_ret
          exact ⟨_, rfl, by rw [← HRR.out, hT]; exact HOW.out, hB3.trans hbw⟩
theorem mulP_any (p q : List UInt8) (n m : Nat) (A B : Option Addr) (c d : Nat) (w : World) (HN : Hid (p.length = n)) (HM : Hid (q.length = m)) (hp : Rd vB w A p) (hq : Rd vB w B q) (hc : n ≤ c) (hd : m ≤ d) (hn : n ≤ 10000) (hm : m ≤ 10000) :
    Calls Tryz.prog 184 #[.slice A n c, .slice B m d] w (RetQ w (plainL (mulL p q))) :=
  (mulP_own p q n m A B c d w HN HM hp hq hc hd (by omega) (by omega)).mono fun _ _ h => h.any
def SlopeRel (S : List UInt8) (D g : Nat) (w : World) (i : Value) (wr : World) : Prop :=
  ∃ (k : Nat) (T : List UInt8), k ≤ D ∧ i = .int .i64 (k : Int) ∧ T.length = D ∧ (∀ j, j < k → co T j = co S j) ∧ Cel wr g 5 T ∧ Only g w wr
theorem slope_val (p : List UInt8) (k : Nat) : co (slopeL p) k = mulB (co p (k + 1)) (UInt8.ofNat ((k + 1) % 2)) := by
  rw [co_slope]
  by_cases h : k % 2 = 0
  · rw [if_pos h, show (k + 1) % 2 = 1 by omega]
    exact (mul_one _).symm
  · rw [if_neg h, show (k + 1) % 2 = 0 by omega]
    exact (mul_zero _).symm
set_option maxHeartbeats 2000000 in
theorem slopeP_any (p : List UInt8) (n : Nat) (A : Option Addr) (c : Nat) (w : World) (HN : Hid (p.length = n)) (hp : Rd vB w A p) (hc : n ≤ c) (hn : n ≤ 50000) :
    Calls Tryz.prog 205 #[.slice A n c] w (RetQ w (plainL (slopeL p))) := by
  obtain ⟨i0, hi, hz0, hz1, hz2⟩ := info_parts info_u8
  have hdl : (plainL p).length ≤ n := by rw [← HN.out]; exact plain_len p
  have hdeg := degP_any p n A c w HN hp hc (by omega)
  obtain ⟨D, hD⟩ : ∃ D, D = (plainL p).length - 1 := ⟨_, rfl⟩
  obtain ⟨L, hL⟩ : ∃ L, (plainL p).length = L := ⟨_, rfl⟩
  rw [hL] at hdeg hD hdl
  have q0 : (if (L : Int) - 1 < 0 then (0 : Int) else (L : Int) - 1) = (D : Int) := by rw [hD]; split <;> omega
  have q1 : (if L = 0 then (0 : Int) else (L : Int) - 1) = (D : Int) := by rw [hD]; split <;> omega
  have q2 : (if L < 1 then (0 : Int) else (L : Int) - 1) = (D : Int) := by rw [hD]; split <;> omega
  have hDn : D + 1 ≤ n ∨ D = 0 := by omega
  have HD := Lib.hid hdeg
  have HDL := Lib.hid hD
  have HLL := Lib.hid hL
  have hD1 : D ≤ 50000 := by omega
  clear hdeg hD hL
  go_enter Tryz.func205, Tryz.ntmps205
  go_wp2_with fail
  refine HD.out.mono ?_
  rintro e w1 ⟨rfl, hb1⟩
  go_upto_region 2 with (at_make; refine wpList_make_full _ rfl _ _ 22 rfl w1.heap.size 5 i0 (.int .u8 0) 1 Tryz.underlying22 hi hz0 hz1 .i64 .i64 _ _ D rfl rfl rfl rfl (by rw [hz2]; omega) (by unfold maxLen; omega) (Nat.le_refl _) ?_; intro w0 hown0 hgrow0)
  rw [Nat.mul_one, show (Value.int .u8 0).cells = #[.int .u8 0] from rfl, toList_madeCells_one, zeros_map] at hown0
  obtain ⟨hc0, _, _⟩ := cel_some hown0 List.length_replicate
  have hB0 : Below w1.heap.size w1 w0 := (Below.refl _ _).grown hgrow0 (Nat.le_refl _) (by simp)
  have hgw : w.heap.size ≤ w1.heap.size := hb1.size
  replace hp := hp.keep hb1
  have hAp := hp.apart (Nat.le_refl _)
  replace hp := hp.keep hB0
  generalize hgd : w1.heap.size = g at hc0 hAp hgw ⊢
  have hB3 : Below w.heap.size w w0 := below_step hb1 hB0
  clear hown0 hgrow0 hB0 hgd hb1 q0 q1 q2
  have HS : Hid (∀ k, co (slopeL p) k = mulB (co p (k + 1)) (UInt8.ofNat ((k + 1) % 2))) := slope_val p
  have HZ : Hid (∀ k, D ≤ k → co (slopeL p) k = 0) := fun k hk => by
    rw [HS.out, plain_ge p (k + 1) (by rw [HLL.out]; have := HDL.out; omega), zero_mul]
  have HPE : Hid (∀ T : List UInt8, Eqv T (slopeL p) → plainL T = plainL (slopeL p)) := fun T h => plain_congr h
  generalize hSp : slopeL p = S at HS HZ HPE
  have HSP := Lib.hid hSp
  clear hSp
  go_wp2_with fail
  go_loopw [11] (fun i wr => SlopeRel S D g w0 i wr) (fun i _ => D - (intOf i).toNat)
  case atStart => exact ⟨0, List.replicate D 0, Nat.zero_le _, rfl, List.length_replicate, fun j hj => absurd hj (Nat.not_lt_zero _), hc0, Only.refl _ _⟩
  case round =>
    clear hc0
    obtain ⟨k, T, hk, rfl, hT, hE, hcc, ho⟩ := hrel
    by_cases h : k < D
    · have j1 : (k : Int) < (D : Int) := by omega
      have j0 : (0 : Int) ≤ (k : Int) := by omega
      have j2 : (k : Int) + 1 < (n : Int) := by omega
      have j3 : (0 : Int) ≤ (k : Int) + 1 := by omega
      have hkp : k + 1 < p.length := by rw [HN.out]; omega
      obtain ⟨b, ob, rfl, hb, hcell⟩ := (hp.only ho hAp).at hkp
      have hc1 := hcell (k + 1) hkp
      unfold vB at hc1
      have hv := HS.out k
      rw [co_lt p (k + 1) hkp] at hv
      generalize p[k + 1] = x at hc1 hv
      obtain ⟨r, hr⟩ : ∃ r, r = (k + 1) % 2 := ⟨_, rfl⟩
      rw [← hr] at hv
      have hr2 : ((UInt8.ofNat r).toNat : Int) = (r : Int) := by rw [UInt8.toNat_ofNat']; omega
      have hM : ∀ W, Calls Tryz.prog 190 #[.int .u8 (x.toNat : Int), .int .u8 (r : Int)] W fun e w'' => e = .returned (.int .u8 ((co S k).toNat : Int)) ∧ W = w'' := fun W => by rw [hv, ← hr2]; exact gfmul_any x _ W
      have hfr := hcc.frozen k
      have hco := hcc.get k (by omega)
      have hset := hcc.set k (co S k)
      have hE' : ∀ j, j < k + 1 → co (T.set k (co S k)) j = co S j := fun j hj => by
        rw [co_set _ _ _ _ (by omega)]
        split
        · next e => rw [e]
        · exact hE j (by omega)
      have m1 : ((k : Int) + 1) % 2 = (r : Int) := by omega
      have m2 : ((k : Int) + 1).tmod 2 = (r : Int) := by rw [Int.tmod_eq_emod_of_nonneg (by omega)]; exact m1
      have m3 : (r : Int) % 256 = (r : Int) := by omega
      have HREL : Hid (SlopeRel S D g w0 (.int .i64 ((k : Int) + 1)) (wr.setCell ⟨g, k, none⟩ (.int .u8 ((co S k).toNat : Int)))) := ⟨k + 1, T.set k (co S k), h, by go_num, by rw [List.length_set]; exact hT, hE', hset, ho.setCell _ _⟩
      generalize co S k = z at hM hset HREL
      have HMu := Lib.hid hM
      have HT2 : True → ((k : Int) + 1).tmod 2 = (r : Int) := fun _ => m2
      have HT3 : True → ((k : Int) + 1) % 2 = (r : Int) := fun _ => m1
      have hr3 : r < 2 := by omega
      have HRr := Lib.hid hr
      clear hM hv hset hcc ho hE hE' hr hr2 m2 m1 hcell hkp m3
      go_wp2_with fail
      refine (HMu.out _).mono ?_
      rintro e w3 ⟨rfl, rfl⟩
      go_wp2_with fail
      go_roundw
      case rel => exact HREL.out
      case measure => simp [intOf] <;> omega
    · have hkD : k = D := by omega
      subst hkD
      have j1 : ¬ (k : Int) < (k : Int) := by omega
      have HT : Hid (plainL T = plainL S) := HPE.out T fun j => by
        rcases Nat.lt_or_ge j k with hj | hj
        · exact hE j hj
        · rw [HZ.out j hj, co_ge T j (by omega)]
      have hbw : Below w.heap.size w wr := hB3.trans (ho.below.mono hgw)
      have hrT := hcc.rd
      have HTl := Lib.hid hT
      clear hcc ho hE hT hB3
      go_wp2_with fail
      refine (cutP_any T k (some ⟨g, 0, none⟩) k _ HTl hrT (Nat.le_refl _) (by omega)).mono ?_
      rintro e w4 ⟨k4, rfl, HK4, hk4, hb4⟩
      have hr4 := (hrT.plain).keep hb4
      rw [HT.out, ← HSP.out] at hr4 HK4
      go_wp2_with fail
      go_ret
      exact ⟨_, k4, k, rfl, HK4, hk4, hr4, below_step hbw hb4⟩
end Go.Proofs.YteppocjgodmpdaaGreatDoor
/-
  A region that draws its order, in a loop's round (inside a fence that lets every call by): operations that leave the world as it is, and a tail in one order (no program is named here). No conditions but those typed.
-/
namespace Go.Proofs.YteppocjgodmpdaaGreatDoor
set_option maxRecDepth 100000
set_option linter.unusedSimpArgs false
set_option linter.unusedVariables false

/-- No operation is a defer statement. -/
def noDefer (ops : List Oper) : Bool := ops.all fun o => match o.op with | .defer _ => false | _ => true
theorem noDefer_at {ops : List Oper} (h : noDefer ops = true) {i : Nat} {o : Oper} (ho : ops[i]? = some o) : ∀ c, o.op ≠ .defer c := by
  intro c hc
  have h1 := List.all_eq_true.1 h o (List.mem_of_getElem? ho)
  rw [hc] at h1
  cases h1

section
variable {P : Program} {ops : Array Oper} {w : World} {md : Region.Mode} {n l₀ : Nat}
theorem wpIn_of_still {o : Oper} {a : Act} {K : Act → Prop} {K' : Act → World → Prop} {Q' : Exit → Act → World → Prop} (hd : ∀ c, o.op ≠ .defer c) (h : ∀ a, K a → K' a w) (hh : o.still P a w K) : o.wpIn (Fence.wide.inRound l₀) n P a w K' Q' := by
  unfold Oper.still at hh
  unfold Oper.wpIn
  refine ⟨fun _ _ => trivial, ?_⟩
  have e : (Fence.wide.inRound l₀).round = some l₀ := rfl
  rw [e, Oper.semAt_some l₀ a.eval o hd]
  generalize (execOp a.eval o).run P w = r at *
  cases r with
  | ok x w' =>
    cases x <;> simp only [Oper.stillUpon] at hh <;> simp only [Oper.uponIn]
    case enter f args =>
      obtain ⟨rfl, v, hc, hn⟩ := hh
      refine ⟨fun h0 => (by cases h0), ?_⟩
      have h2 : Calls P f args w' fun
        | .returned v, w'' => K' (a.put o.dst v) w''
        | .panicked chain, w'' => Q' (.panic chain) a w''
        | .outgrown, _ => LetsOut Q' := hc.mono fun e w'' ⟨he, hw⟩ => by subst he; subst hw; exact h _ hn
      exact CallsIn.inRound l₀ (callsIn_wide.2 h2)
    all_goals (obtain ⟨rfl, h2⟩ := hh; exact h _ h2)
  | halt x w' => simp only [Oper.stillUpon] at hh
theorem wpOpIn_of_stOp {i : Nat} {a : Act} {K : Act → Prop} {K' : Act → World → Prop} {Q' : Exit → Act → World → Prop} (hd : noDefer ops.toList = true) (h : ∀ a, K a → K' a w) (hh : stOp P ops w i K a) : wpOpIn (Fence.wide.inRound l₀) n P ops Q' i K' a w := by
  unfold stOp at hh
  unfold wpOpIn
  split
  · rename_i ho; simp only [ho] at hh; exact h _ hh
  · rename_i o ho
    simp only [ho] at hh
    split
    · rename_i hw; simp only [hw, if_true] at hh; exact wpIn_of_still (noDefer_at hd (i := i) (by simpa using ho)) h hh
    · rename_i hw; simp only [hw] at hh; exact ⟨fun _ _ => trivial, h _ hh⟩
theorem wpAnyIn_of_head {m g : Nat} {L : Array Bool → Act → Prop} {Q' : Exit → Act → World → Prop} (hd : noDefer ops.toList = true) (hL : ∀ listed a, L listed a → wpAnyIn (Fence.wide.inRound l₀) n P md ops Q' g listed a w) :
    ∀ (f : Nat) (listed : Array Bool) (a : Act), wpAnyL P md ops w m L f listed a → wpAnyIn (Fence.wide.inRound l₀) n P md ops Q' (f + g) listed a w
  | 0, listed, a, h => by rw [Nat.zero_add]; exact hL _ _ h
  | f + 1, listed, a, h => by
    rw [show f + 1 + g = (f + g) + 1 by omega]
    exact ⟨fun h0 => absurd h0 h.1, fun i hi => wpOpIn_of_stOp hd (fun a' h' => wpAnyIn_of_head hd hL f _ a' h') (h.2 i hi).2⟩
theorem wpAnyIn_of_seq {F : Fence} {Q' : Exit → Act → World → Prop} : ∀ (l : List Oper) (k : Nat) (listed : Array Bool) (a : Act) (w : World), (∀ j, l[j]? = ops[k + j]?) →
    Region.seqB md ops l.length k listed = true → wpListIn F n P ops Q' l a w → wpAnyIn F n P md ops Q' l.length listed a w
  | [], _, _, _, _, _, hB, h => ⟨by simpa [Region.seqB] using hB, h⟩
  | o :: l, k, listed, a, w, hl, hB, h => by
    have h0 : ops[k]? = some o := by simpa using (hl 0).symm
    simp only [List.length_cons, Region.seqB, Bool.and_eq_true, decide_eq_true_eq] at hB
    refine ⟨fun h1 => (by rw [hB.1] at h1; cases h1), fun i hi => ?_⟩
    rw [hB.1] at hi
    have hik : i = k := by simpa using hi
    subst hik
    have hw : wpOpIn F n P ops Q' i (wpListIn F n P ops Q' l) a w := by unfold wpOpIn; simp only [h0]; exact h
    exact wpOpIn_mono (fun a' w' h' => wpAnyIn_of_seq l (i + 1) _ a' w' (fun j => by have := hl (j + 1); simpa [Nat.add_assoc, Nat.add_comm 1 j] using this) hB.2 h') hw
theorem wpIn_region_still_tail {id : Nat} {Q : Exit → Act → World → Prop} {a : Act} {l : List Oper} (k : Nat) (hm : P.follows .mixedOrders = true) (hB : Region.lexTailB .any l.toArray k = true) (hnd : noDefer l = true)
    (h : wpStill P l.toArray w.drew (fun a' => wpListIn (Fence.wide.inRound l₀) n P l.toArray Q (l.drop k) a' w.drew) (l.take k) a) : (Code.region id l.toArray true).wpIn (Fence.wide.inRound l₀) n P Q a w := by
  simp only [Region.lexTailB, Bool.and_eq_true, decide_eq_true_eq] at hB
  obtain ⟨⟨⟨⟨hsel, hn⟩, hs⟩, hc⟩, hlex⟩ := hB
  have hn' : k < l.length := by simpa using hn
  have htl : (l.take k).length = k := by simp; omega
  have hdl : (l.drop k).length = l.toArray.size - k := by simp
  have inv0 : HeadInv .any l.toArray k (Array.replicate l.toArray.size false) :=
    ⟨by simp, fun j oj _ hl => (by rw [getD_replicate_false] at hl; cases hl), fun t _ ht => getD_in (by simpa using ht) (getD_replicate_false _ _)⟩
  have H := wpAnyL_lex (md := .any) (g := l.toArray.size - k) hsel hs hc hn (l.take k) 0 _ a (fun j hj => by
    have hj' : j < k := by rw [htl] at hj; exact hj
    simp [hj']) (by simpa using htl) inv0 (by rw [htl]; exact hlex) h
  refine wpIn_region_any hm ?_
  have := wpAnyIn_of_head (Q' := Q) (n := n) (l₀ := l₀) (g := l.toArray.size - k) (by simpa using hnd) (fun listed a' hL => by
    have := wpAnyIn_of_seq (F := Fence.wide.inRound l₀) (n := n) (md := .any) (Q' := Q) (l.drop k) k listed a' w.drew (fun j => by simp [List.getElem?_drop]) (by rw [hdl]; exact hL.1) hL.2
    rwa [hdl] at this) _ _ _ H
  rw [htl, show k + (l.toArray.size - k) = l.toArray.size by omega] at this
  exact this
end
end Go.Proofs.YteppocjgodmpdaaGreatDoor
/-
  Division as the program does it: a coefficient of what is left after the other, from the last one on. No conditions but those typed.
-/
namespace Go.Proofs.YteppocjgodmpdaaGreatDoor
set_option maxRecDepth 100000
set_option linter.unusedSimpArgs false
set_option linter.unusedVariables false

/-- One round: at place k. -/
def divS (Q : List UInt8) (inv : UInt8) (last : Nat) (s : List UInt8 × List UInt8) (k : Nat) : List UInt8 × List UInt8 :=
  (s.1.set k (mulB (co s.2 (k + last)) inv), atL s.2 k (scaleL (mulB (co s.2 (k + last)) inv) Q))
def divF (Q : List UInt8) (inv : UInt8) (last : Nat) (s : List UInt8 × List UInt8) (ks : List Nat) : List UInt8 × List UInt8 := ks.foldl (divS Q inv last) s
theorem divF_snoc (Q : List UInt8) (inv : UInt8) (last : Nat) (s : List UInt8 × List UInt8) (ks : List Nat) (k : Nat) : divF Q inv last s (ks ++ [k]) = divS Q inv last (divF Q inv last s ks) k := by
  unfold divF
  rw [List.foldl_append]
  rfl
theorem divF_length (Q : List UInt8) (inv : UInt8) (last K n : Nat) (hQ : Q.length = last + 1) (hK : K = 0 ∨ n = K + last) : ∀ (ks : List Nat) (s : List UInt8 × List UInt8), s.1.length = K → s.2.length = n → (∀ k ∈ ks, k < K) → (divF Q inv last s ks).1.length = K ∧ (divF Q inv last s ks).2.length = n
  | [], s, h1, h2, _ => ⟨h1, h2⟩
  | k :: ks, s, h1, h2, hk => by
    have hkK : k < K := hk k (by simp)
    refine divF_length Q inv last K n hQ hK ks (divS Q inv last s k) ?_ ?_ (fun j hj => hk j (List.mem_cons_of_mem _ hj))
    · unfold divS
      rw [List.length_set]
      exact h1
    · unfold divS
      rw [at_length _ _ _ (by unfold scaleL; rw [List.length_map, hQ, h2]; omega), h2]

theorem set_eqv (a : List UInt8) (k : Nat) (t : UInt8) (hk : k < a.length) (h0 : co a k = 0) : Eqv (a.set k t) (addL a (shiftL k [t])) := fun j => by
  rw [co_set _ _ _ _ hk, co_add]
  split
  · next e =>
    subst e
    have := co_shift j [t] 0
    rw [Nat.add_zero] at this
    rw [h0, this, zero_add]
    rfl
  · next e =>
    rcases Nat.lt_or_ge j k with h | h
    · rw [co_shift_low k [t] j h, add_zero]
    · rw [co_ge (shiftL k [t]) j (by rw [shift_length]; simp; omega), add_zero]
theorem div_keeps {Q P a l : List UInt8} {k : Nat} {t : UInt8} (hk : k < a.length) (h0 : co a k = 0) (h : Eqv (addL (mulL a Q) l) P) : Eqv (addL (mulL (a.set k t) Q) (atL l k (scaleL t Q))) P := by
  have e1 : Eqv (mulL (a.set k t) Q) (addL (mulL a Q) (shiftL k (scaleL t Q))) :=
    (mul_congr (set_eqv a k t hk h0) (Eqv.refl Q)).trans ((mulL_add_left _ _ _).trans (add_congr (Eqv.refl _) (mul_shift_one t Q k)))
  refine (add_congr e1 (Eqv.refl _)).trans (Eqv.trans (fun j => ?_) h)
  unfold atL
  simp only [co_add]
  have : ∀ x y z : UInt8, addB (addB x z) (addB y z) = addB x y := fun x y z => by
    have h1 : addB (addB x z) (addB y z) = addB (addB x y) (addB z z) := add_four x z y z
    rw [h1, add_self, add_zero]
  exact this _ _ _

/-- The division, as far as j rounds have come. -/
theorem div_inv {Q P : List UInt8} {inv : UInt8} {last K : Nat} (hQ : Q.length = last + 1) (hq : mulB (co Q last) inv = 1) (hP : K = 0 ∨ P.length = K + last) : ∀ j : Nat, j ≤ K →
    let s := divF Q inv last (List.replicate K 0, P) (backN K j)
    s.1.length = K ∧ s.2.length = P.length ∧ Eqv (addL (mulL s.1 Q) s.2) P ∧ (∀ i, i + j < K → co s.1 i = 0) ∧ (0 < K → ∀ i, K - j + last ≤ i → co s.2 i = 0) ∧ (0 < j → co s.1 (K - 1) = mulB (co P (K - 1 + last)) inv) := by
  intro j
  induction j with
  | zero =>
    intro _
    refine ⟨List.length_replicate, rfl, ?_, fun i _ => co_pad [] K i, fun h0 i hi => co_ge P i (by rcases hP with h | h <;> omega), fun h => absurd h (Nat.not_lt_zero _)⟩
    have hz : Eqv (List.replicate K (0 : UInt8)) [] := fun i => by rw [co_nil]; exact co_pad [] K i
    have h2 : Eqv (mulL (List.replicate K 0) Q) [] := (mul_congr hz (Eqv.refl Q)).trans (Eqv.refl _)
    exact (add_congr h2 (Eqv.refl P)).trans (Eqv.refl _)
  | succ j ih =>
    intro hj
    have hPn : P.length = K + last := by rcases hP with h | h <;> omega
    obtain ⟨i1, i2, i3, i4, i5, i6⟩ := ih (by omega)
    rw [back_succ, divF_snoc]
    generalize divF Q inv last (List.replicate K 0, P) (backN K j) = s at i1 i2 i3 i4 i5 i6
    obtain ⟨k, hk⟩ : ∃ k, K - 1 - j = k := ⟨_, rfl⟩
    rw [hk]
    unfold divS
    dsimp only
    have hkl : k < s.1.length := by omega
    have hk0 : co s.1 k = 0 := i4 k (by omega)
    refine ⟨by rw [List.length_set]; exact i1, ?_, div_keeps hkl hk0 i3, ?_, ?_, ?_⟩
    · rw [at_length _ _ _ (by unfold scaleL; rw [List.length_map, hQ, i2]; omega), i2]
    · intro i hi
      rw [co_set _ _ _ _ hkl, if_neg (by omega)]
      exact i4 i (by omega)
    · intro hK i hi
      rw [co_at, if_neg (by omega), co_scale]
      by_cases hil : i = k + last
      · subst hil
        rw [Nat.add_sub_cancel_left, mul_assoc, mul_comm inv, hq, mul_one, add_self]
      · rw [i5 hK i (by omega), co_ge Q (i - k) (by omega), mul_zero, add_zero]
    · intro _
      rw [co_set _ _ _ _ hkl]
      split
      · next e =>
        by_cases hj0 : j = 0
        · subst hj0
          have h2 : co s.2 (k + last) = co P (K - 1 + last) := by
            have h3 := i3 (k + last)
            rw [co_add] at h3
            have h4 : Eqv (mulL s.1 Q) [] := by
              have hz : Eqv s.1 [] := fun i => by
                rw [co_nil]
                rcases Nat.lt_or_ge i K with h | h
                · exact i4 i (by omega)
                · exact co_ge _ _ (by omega)
              exact (mul_congr hz (Eqv.refl Q)).trans (Eqv.refl _)
            rw [h4, co_nil, zero_add] at h3
            rw [h3, ← e]
          rw [h2]
        · omega
      · next e => exact i6 (by omega)

/-- What the program's rounds come to. -/
theorem div_done {p Q : List UInt8} {inv : UInt8} {last K : Nat} (hQ : Q.length = last + 1) (hq : mulB (co Q last) inv = 1) (hinv : inv ≠ 0) (hK : K = (plainL p).length - last) {q : List UInt8} (hQq : plainL q = Q) :
    let s := divF Q inv last (List.replicate K 0, plainL p) (backN K K)
    s.1.length = K ∧ s.2.length = (plainL p).length ∧ IsQuo p q s.1 (plainL s.2) ∧ plainL s.1 = s.1 ∧ plainL (plainL s.2) = plainL s.2 := by
  obtain ⟨i1, i2, i3, _, i5, i6⟩ := div_inv (P := plainL p) hQ hq (by omega) K (Nat.le_refl _)
  dsimp only
  generalize divF Q inv last (List.replicate K 0, plainL p) (backN K K) = s at i1 i2 i3 i5 i6
  have hlen : (plainL q).length = last + 1 := by rw [hQq]; exact hQ
  refine ⟨i1, i2, ⟨?_, ?_⟩, ?_, plain_plain _⟩
  · refine (add_congr (mul_congr (Eqv.refl _) ?_) (plain_eqv _)).trans (i3.trans (plain_eqv p))
    rw [← hQq]
    exact (plain_eqv q).symm
  · rw [plain_plain, hlen]
    have : (plainL s.2).length ≤ last := (plain_le_iff _ _).2 fun i hi => by
      by_cases h0 : K = 0
      · exact co_ge _ _ (by omega)
      · exact i5 (by omega) i (by omega)
    omega
  · by_cases h0 : K = 0
    · rw [List.eq_nil_of_length_eq_zero (i1.trans h0)]
      rfl
    · refine plain_of_top _ (.inr ?_)
      rw [i1, i6 (by omega)]
      refine mul_ne _ _ ?_ hinv
      have h1 : K - 1 + last = (plainL p).length - 1 := by omega
      rw [h1, plain_eqv p]
      exact plain_top p (by intro e; rw [e] at hK; simp at hK; omega)
end Go.Proofs.YteppocjgodmpdaaGreatDoor
/-
  What the program's calls of layer 8 answer, over the landed code: Quo, and what the texts before say of the others. No conditions but those typed.
-/
namespace Go.Proofs.YteppocjgodmpdaaGreatDoor
set_option maxRecDepth 100000
open Go.RowKit Go.Shelf
set_option linter.unusedSimpArgs false
set_option linter.unusedVariables false

attribute [local go_sem] Oper.semAt_some

/-- What the program's division hands back: both plain; none, if the divisor is 0. -/
def QuoGood (p q : List UInt8) (w : World) (e : Ending) (w' : World) : Prop :=
  ∃ (a r : List UInt8) (A B : Option Addr) (n m c d : Nat), e = .returned (.tuple #[.slice A n c, .slice B m d, .int .i64 0]) ∧ Hid (a.length = n) ∧ Hid (r.length = m) ∧ n ≤ c ∧ m ≤ d ∧ Rd vB w' A a ∧ Rd vB w' B r ∧ Below w.heap.size w w' ∧ Hid (IsQuo p q a r ∧ plainL a = a ∧ plainL r = r)
def QuoBad (w : World) (e : Ending) (w' : World) : Prop :=
  ∃ (A B : Option Addr) (c d : Nat), e = .returned (.tuple #[.slice A 0 c, .slice B 0 d, .int .i64 1]) ∧ Below w.heap.size w w'
theorem quoP_bad (p q : List UInt8) (n m : Nat) (A B : Option Addr) (c d : Nat) (w : World) (HN : Hid (p.length = n)) (HM : Hid (q.length = m)) (hp : Rd vB w A p) (hq : Rd vB w B q) (hc : n ≤ c) (hd : m ≤ d) (hn : n ≤ 50000) (hm : m ≤ 50000) (HQ : Hid (plainL q = [])) :
    Calls Tryz.prog 120 #[.slice A n c, .slice B m d] w (QuoBad w) := by
  have hB0 := below_new (Below.refl _ w) (.cells #[.slice B m d] 22)
  have bQ := Boxed.new w 22 (.slice B m d)
  have hcut := cutP_any q m B d _ HM (hq.keep hB0) hd (by omega)
  have HC := Lib.hid hcut
  have bQc := bQ.cell
  clear hcut
  go_enter Tryz.func120, Tryz.ntmps120
  go_wp2_with fail
  refine HC.out.mono ?_
  rintro e w1 ⟨k2, rfl, HK2, hk2, hb1⟩
  have e2 : k2 = 0 := by
    have h2 := HK2.out
    rw [HQ.out] at h2
    exact h2.symm
  subst e2
  have bQ1 : Boxed w1 w.heap.size 22 (.slice B m d) := (hb1.block _ bQ.lt).trans bQ
  have bQ1c := bQ1.cell
  have bQ1f := bQ1.frozen
  have hB2 := (below_step hB0 hb1).setCell (p := ⟨w.heap.size, 0, none⟩) (Nat.le_refl _) (.slice B 0 d)
  clear bQ bQ1 hB0 hb1
  go_wp2_with fail
  go_ret3
  exact ⟨none, none, 0, 0, rfl, hB2⟩
theorem rd_put {α : Type} {f : α → Value} {w : World} {A : Option Addr} {l : List α} (h : Rd f w A l) {D : Nat} {o o' : Obj} (hD : w.heap[D]? = some o) (ho : o.isCells = false) : Rd f (w.putObj D o') A l := fun hn => by
  obtain ⟨b, ob, e, hc⟩ := h hn
  exact ⟨b, ob, e, fun i hi => cell_kept (hc i hi) (grownBy_putObj' w D o') (fun r e => by cases e; exact ⟨_, hD, ho⟩)⟩
/-- What a round of Quo keeps: what lay below, the iterator's own box, and that the slice it goes over is there. -/
def KpQ (n₀ Bs g K : Nat) (W W' : World) : Prop := KpB n₀ Bs W W' ∧ ((∃ l : List UInt8, l.length = K ∧ Cel W g 5 l) → ∃ l : List UInt8, l.length = K ∧ Cel W' g 5 l)
theorem KpQ.refl (n₀ Bs g K : Nat) (W : World) : KpQ n₀ Bs g K W W := ⟨KpB.refl _ _ _, id⟩
theorem KpQ.trans {n₀ Bs g K : Nat} {X Y Z : World} (h : KpQ n₀ Bs g K X Y) (k : KpQ n₀ Bs g K Y Z) : KpQ n₀ Bs g K X Z := ⟨h.1.trans k.1, fun e => k.2 (h.2 e)⟩
theorem KpQ.own {n₀ Bs g K : Nat} {w : World} (hn : n₀ ≤ w.heap.size) (hB : Bs < w.heap.size) (hg : g < w.heap.size) (W : World) (l : Nat) (o o' : Obj) (hl : w.heap.size ≤ l) (h : W.heap[l]? = some o) (h1 : o.isCells = false) (h2 : o.isWalk = false) : KpQ n₀ Bs g K W (W.putObj l o') :=
  ⟨KpB.own hn hB W l o o' hl h h1 h2, fun ⟨x, hx, L, r1, r2⟩ => ⟨x, hx, L, (World.putObj_heap_other (by omega)).trans r1, r2⟩⟩
/-- Between two rounds of Quo. -/
def DivI (w : World) (Q P : List UInt8) (iv : UInt8) (last K L0 bq bl bi be bo bs gO gL : Nat) (vq ve vo : Value) {V : Nat → UInt8 → Prop} (pre : List (Bk K V)) (W : World) : Prop :=
  ((Boxed W bq 22 vq ∧ Boxed W bl 3 (.int .i64 (last : Int)) ∧ Boxed W bi 5 (.int .u8 (iv.toNat : Int)) ∧ Boxed W be 22 ve ∧ Boxed W bo 22 vo ∧ Boxed W bs 22 vo) ∧
    Cel W gO 5 (divF Q iv last (List.replicate K 0, P) (pre.map Bk.at)).1 ∧ (0 < L0 → Cel W gL 5 (divF Q iv last (List.replicate K 0, P) (pre.map Bk.at)).2)) ∧ Below w.heap.size w W
theorem divI_own (w : World) (Q P : List UInt8) (iv : UInt8) (last K L0 bq bl bi be bo bs gO gL : Nat) (vq ve vo : Value) {V : Nat → UInt8 → Prop} (B : Nat) (hB : w.heap.size ≤ B) : OwnFrom B (DivI w Q P iv last K L0 bq bl bi be bo bs gO gL vq ve vo (V := V)) :=
  OwnFrom.and (Own.from (fun s A B row hs hg hr => by
    obtain ⟨⟨h1, h2, h3, h4, h5, h8⟩, h6, h7⟩ := hs
    exact ⟨⟨boxed_turn h1 hg hr, boxed_turn h2 hg hr, boxed_turn h3 hg hr, boxed_turn h4 hg hr, boxed_turn h5 hg hr, boxed_turn h8 hg hr⟩, cel_turn h6 hg hr, fun h0 => cel_turn (h7 h0) hg hr⟩) _) (ownFrom_below (Nat.le_refl _) hB)
set_option maxHeartbeats 4000000 in
theorem quoP_good (p q : List UInt8) (n m : Nat) (A B : Option Addr) (c d : Nat) (w : World) (HN : Hid (p.length = n)) (HM : Hid (q.length = m)) (hp : Rd vB w A p) (hq : Rd vB w B q) (hc : n ≤ c) (hd : m ≤ d) (hn : n ≤ 50000) (hm : m ≤ 50000) (HQ : Hid (plainL q ≠ [])) :
    Calls Tryz.prog 120 #[.slice A n c, .slice B m d] w (QuoGood p q w) := by
  obtain ⟨i0, hi, hz0, hz1, hz2⟩ := info_parts info_u8
  have hB0 := below_new (Below.refl _ w) (.cells #[.slice B m d] 22)
  have bQ := Boxed.new w 22 (.slice B m d)
  have hcut := cutP_any q m B d _ HM (hq.keep hB0) hd (by omega)
  have HC := Lib.hid hcut
  have bQc := bQ.cell
  clear hcut
  refine (callsIn_wide (n := 3)).1 ?_
  refine callsIn_of_wp_marks Tryz.func120 rfl trivial ?_ rfl
  simp only [Tryz.ntmps120, List.size_toArray, List.length_cons, List.length_nil, Nat.reduceAdd, Nat.reduceSub, Array.replicate_succ, Array.replicate_zero, List.push_toArray, List.append_toArray, List.nil_append, List.cons_append]
  refine wpIn_wide.2 ?_
  go_wp2_with fail
  refine HC.out.mono ?_
  rintro e w1 ⟨k2, rfl, HK2, hk2, hb1⟩
  have bQ1 : Boxed w1 w.heap.size 22 (.slice B m d) := (hb1.block _ bQ.lt).trans bQ
  have bQ1c := bQ1.cell
  have bQ1f := bQ1.frozen
  have hB1 := (below_step hB0 hb1).setCell (p := ⟨w.heap.size, 0, none⟩) (Nat.le_refl _) (.slice B k2 d)
  have bQ2 := bQ1.set (.slice B k2 d)
  have bQ2c := bQ2.cell
  obtain ⟨j2, rfl⟩ : ∃ j, k2 = j + 1 := ⟨k2 - 1, by have h2 := HK2.out; have := List.length_pos_iff.2 HQ.out; omega⟩
  have z2 : (((j2 + 1 : Nat) : Int) == 0) = false := beq_eq_false_iff_ne.2 (by omega)
  go_upto_region 4 with fail
  have hrQ := ((hq.keep hB0).plain).keep hb1
  have hrQ2 : Rd vB (w1.setCell ⟨w.heap.size, 0, none⟩ (.slice B (j2 + 1) d)) B (plainL q) := fun hn => by
    obtain ⟨b, o, e1, hcell⟩ := hrQ hn
    have hoff := hq.plain.off hn ⟨b, o, none⟩ e1
    exact ⟨b, o, e1, fun i hi => (World.cell?_setCell_other _ _ _ _ (by intro e; injection e with e2; dsimp only at hoff; omega)).trans (hcell i hi)⟩
  have hsz2 : (w1.setCell ⟨w.heap.size, 0, none⟩ (.slice B (j2 + 1) d)).heap.size = w1.heap.size := by simp
  have hsz1 : w.heap.size + 1 ≤ w1.heap.size := by have := hb1.size; simpa using this
  generalize w1.setCell ⟨w.heap.size, 0, none⟩ (.slice B (j2 + 1) d) = W2 at hB1 bQ2 bQ2c hrQ2 hsz2 ⊢
  have HQl : Hid ((plainL q).length = j2 + 1) := HK2.out
  clear bQ1 bQ1c bQ1f hB0 hb1 hrQ bQ bQc z2
  obtain ⟨y, hy⟩ : ∃ y, co (plainL q) j2 = y := ⟨_, rfl⟩
  have hy0 : y ≠ 0 := by
    have := plain_top q HQ.out
    rw [HQl.out, Nat.add_sub_cancel, plain_eqv q j2 |>.symm, hy] at this
    exact this
  have hj2 : j2 < (plainL q).length := by rw [HQl.out]; omega
  obtain ⟨b, ob, rfl, hb, hcell⟩ := hrQ2.at hj2
  have hcy := hcell j2 hj2
  rw [← co_lt _ j2 hj2, hy] at hcy
  unfold vB at hcy
  have HI : Hid (mulB (co (plainL q) j2) (invB y) = 1 ∧ invB y ≠ 0) := ⟨by rw [hy]; exact mul_inv y hy0, inv_ne y hy0⟩
  have hinv := fun W => gfinv_any y W hy0
  generalize invB y = iv at HI hinv
  have HInv := Lib.hid hinv
  have j20 : (0 : Int) ≤ (j2 : Int) := by omega
  have j21 : (j2 : Int) < (j2 : Int) + 1 := by omega
  clear hcell hj2 hy hy0 hinv
  have bL3 := Boxed.new W2 3 (.int .i64 (j2 : Int))
  have bL3c := bL3.cell
  have bQ3 := bQ2.alloc (.cells #[.int .i64 (j2 : Int)] 3)
  have bQ3c := bQ3.cell
  have hcy3 : (W2.alloc (.cells #[.int .i64 (j2 : Int)] 3)).cell? ⟨b, ob + j2, none⟩ = some (.int .u8 (y.toNat : Int)) := ((below_new (Below.refl _ W2) _).cell (p := ⟨b, ob + j2, none⟩) hb).trans hcy
  go_upto_region 6 with (refine (HInv.out _).mono ?_; rintro e wi ⟨rfl, rfl⟩)
  have bI4 := Boxed.new (W2.alloc (.cells #[.int .i64 (j2 : Int)] 3)) 5 (.int .u8 (iv.toNat : Int))
  have bL4 := bL3.alloc (.cells #[.int .u8 (iv.toNat : Int)] 5)
  have bQ4 := bQ3.alloc (.cells #[.int .u8 (iv.toNat : Int)] 5)
  have hB4 := below_new (below_new hB1 (.cells #[.int .i64 (j2 : Int)] 3)) (.cells #[.int .u8 (iv.toNat : Int)] 5)
  have hrQ4 := (hrQ2.keep (below_new (Below.refl _ _) (.cells #[.int .i64 (j2 : Int)] 3))).keep (below_new (Below.refl _ _) (.cells #[.int .u8 (iv.toNat : Int)] 5))
  have hsz4 : ((W2.alloc (.cells #[.int .i64 (j2 : Int)] 3)).alloc (.cells #[.int .u8 (iv.toNat : Int)] 5)).heap.size = w1.heap.size + 2 := by simp [hsz2]
  rw [World.size_alloc, hsz2] at bI4
  rw [hsz2] at bL4
  generalize (W2.alloc (.cells #[.int .i64 (j2 : Int)] 3)).alloc (.cells #[.int .u8 (iv.toNat : Int)] 5) = W4 at bI4 bL4 bQ4 hB4 hrQ4 hsz4 ⊢
  clear bL3 bL3c bQ3 bQ3c hcy3 hcy bQ2 bQ2c hB1 hrQ2 hsz2 HInv hb
  have hPl := plainP_own p n A c W4 HN (hp.keep hB4) hc (by omega)
  have HPl := Lib.hid hPl
  clear hPl
  obtain ⟨L0, hL0⟩ : ∃ L0, (plainL p).length = L0 := ⟨_, rfl⟩
  have HL0 := Lib.hid hL0
  have hL0n : L0 ≤ 50000 := by have := plain_len p; rw [hL0, HN.out] at this; omega
  clear hL0
  go_upto_region 7 with (refine HPl.out.mono ?_; rintro e W5 ⟨v5, rfl, ho5, hb5⟩; rw [HL0.out] at ho5; obtain ⟨A5, c5, rfl, hc5⟩ := own_form ho5)
  have hsz5 : w1.heap.size + 2 ≤ W5.heap.size := by have := hb5.size; omega
  have bI5 : Boxed W5 (w1.heap.size + 1) 5 (.int .u8 (iv.toNat : Int)) := (hb5.block _ bI4.lt).trans bI4
  have bL5 : Boxed W5 w1.heap.size 3 (.int .i64 (j2 : Int)) := (hb5.block _ bL4.lt).trans bL4
  have bQ5 : Boxed W5 w.heap.size 22 (.slice (some ⟨b, ob, none⟩) (j2 + 1) d) := (hb5.block _ bQ4.lt).trans bQ4
  have hB5 := below_step hB4 hb5
  have hrQ5 := hrQ4.keep hb5
  have bE6 := Boxed.new W5 22 (.slice A5 L0 c5)
  have bI6 := bI5.alloc (.cells #[.slice A5 L0 c5] 22)
  have bL6 := bL5.alloc (.cells #[.slice A5 L0 c5] 22)
  have bQ6 := bQ5.alloc (.cells #[.slice A5 L0 c5] 22)
  have hrQ6 := hrQ5.keep (below_new (Below.refl _ _) (.cells #[.slice A5 L0 c5] 22))
  have hB6 := below_new hB5 (.cells #[.slice A5 L0 c5] 22)
  have ho6 := ownsRow_later ho5 (below_new (Below.refl _ _) (.cells #[.slice A5 L0 c5] 22))
  have hsz6 : (W5.alloc (.cells #[.slice A5 L0 c5] 22)).heap.size = W5.heap.size + 1 := by simp
  have hlt5 : ∀ g, (Value.slice A5 L0 c5).ownBlock = some g → W4.heap.size ≤ g ∧ g < W5.heap.size := fun g hg => ho5.lt g hg
  generalize W5.alloc (.cells #[.slice A5 L0 c5] 22) = W6 at bE6 bI6 bL6 bQ6 hrQ6 hB6 ho6 hsz6 ⊢
  rw [hsz4] at hlt5
  clear bI4 bL4 bQ4 hB4 hrQ4 hb5 ho5 bI5 bL5 bQ5 hB5 hrQ5 HPl
  obtain ⟨Kn, hK⟩ : ∃ Kn, Kn = L0 - j2 := ⟨_, rfl⟩
  have q0 : (if (L0 : Int) - (j2 : Int) < 0 then (0 : Int) else (L0 : Int) - (j2 : Int)) = (Kn : Int) := by rw [hK]; split <;> omega
  have q1 : (if (L0 : Int) < (j2 : Int) then (0 : Int) else (L0 : Int) - (j2 : Int)) = (Kn : Int) := by rw [hK]; split <;> omega
  have q2 : (if L0 < j2 then (0 : Int) else (L0 : Int) - (j2 : Int)) = (Kn : Int) := by rw [hK]; split <;> omega
  have hKn : Kn ≤ 50000 := by omega
  have HK := Lib.hid hK
  clear hK
  have bE6c := bE6.cell
  have bL6c := bL6.cell
  go_upto_region 8 with (at_make; refine wpList_make_full _ rfl _ _ 22 rfl W6.heap.size 5 i0 (.int .u8 0) 1 Tryz.underlying22 hi hz0 hz1 .i64 .i64 _ _ Kn rfl rfl rfl rfl (by rw [hz2]; omega) (by unfold maxLen; omega) (Nat.le_refl _) ?_; intro W7 hown7 hgrow7)
  rw [Nat.mul_one, show (Value.int .u8 0).cells = #[.int .u8 0] from rfl, toList_madeCells_one, zeros_map] at hown7
  obtain ⟨hcO7, _, _⟩ := cel_some hown7 List.length_replicate
  have hb7 : Below W6.heap.size W6 W7 := (Below.refl _ _).grown hgrow7 (Nat.le_refl _) (by simp)
  obtain ⟨gL, hgL⟩ : ∃ gL, 0 < L0 → A5 = some ⟨gL, 0, none⟩ ∧ w1.heap.size + 2 ≤ gL ∧ gL < W5.heap.size ∧ Cel W7 gL 5 (plainL p) := by
    by_cases h0 : 0 < L0
    · obtain ⟨g, hg, _, hcel⟩ := cel_of_own ho6 HL0.out h0
      have := hlt5 g (by rw [hg]; rfl)
      exact ⟨g, fun _ => ⟨hg, this.1, this.2, hcel.later hb7⟩⟩
    · exact ⟨0, fun h => absurd h h0⟩
  have hsz7 : W5.heap.size + 2 ≤ W7.heap.size := by have := hcO7.lt; omega
  have bE7 : Boxed W7 W5.heap.size 22 (.slice A5 L0 c5) := (hb7.block _ bE6.lt).trans bE6
  have bI7 : Boxed W7 (w1.heap.size + 1) 5 (.int .u8 (iv.toNat : Int)) := (hb7.block _ bI6.lt).trans bI6
  have bL7 : Boxed W7 w1.heap.size 3 (.int .i64 (j2 : Int)) := (hb7.block _ bL6.lt).trans bL6
  have bQ7 : Boxed W7 w.heap.size 22 (.slice (some ⟨b, ob, none⟩) (j2 + 1) d) := (hb7.block _ bQ6.lt).trans bQ6
  have hB7 := below_step hB6 hb7
  rw [hsz6] at hcO7
  clear hown7 hgrow7 hb7 bE6 bI6 bL6 bQ6 hrQ6 hB6 ho6 hsz6 hlt5 bE6c bL6c q0 q1 q2 hsz4
  have bO8 := Boxed.new W7 22 (.slice (some ⟨W5.heap.size + 1, 0, none⟩) Kn Kn)
  have bE8 := bE7.alloc (.cells #[.slice (some ⟨W5.heap.size + 1, 0, none⟩) Kn Kn] 22)
  have bI8 := bI7.alloc (.cells #[.slice (some ⟨W5.heap.size + 1, 0, none⟩) Kn Kn] 22)
  have bL8 := bL7.alloc (.cells #[.slice (some ⟨W5.heap.size + 1, 0, none⟩) Kn Kn] 22)
  have bQ8 := bQ7.alloc (.cells #[.slice (some ⟨W5.heap.size + 1, 0, none⟩) Kn Kn] 22)
  have cO8 := hcO7.later (below_new (Below.refl _ W7) (.cells #[.slice (some ⟨W5.heap.size + 1, 0, none⟩) Kn Kn] 22))
  have hgL8 : 0 < L0 → A5 = some ⟨gL, 0, none⟩ ∧ w1.heap.size + 2 ≤ gL ∧ gL < W5.heap.size ∧ Cel (W7.alloc (.cells #[.slice (some ⟨W5.heap.size + 1, 0, none⟩) Kn Kn] 22)) gL 5 (plainL p) := fun h =>
    ⟨(hgL h).1, (hgL h).2.1, (hgL h).2.2.1, (hgL h).2.2.2.later (below_new (Below.refl _ W7) _)⟩
  have hB8 := below_new hB7 (.cells #[.slice (some ⟨W5.heap.size + 1, 0, none⟩) Kn Kn] 22)
  have hsz8 : (W7.alloc (.cells #[.slice (some ⟨W5.heap.size + 1, 0, none⟩) Kn Kn] 22)).heap.size = W7.heap.size + 1 := by simp
  generalize W7.alloc (.cells #[.slice (some ⟨W5.heap.size + 1, 0, none⟩) Kn Kn] 22) = W8 at bO8 bE8 bI8 bL8 bQ8 cO8 hgL8 hB8 hsz8 ⊢
  clear hcO7 hgL bE7 bI7 bL7 bQ7 hB7
  have bO8c := bO8.cell
  go_wp2_with (go_at_call 189; refine (backward_any _ _ _ _).mono ?_; rintro e w' ⟨rfl, rfl⟩)
  refine (wpIn_wide (n := 3)).1 ?_
  have bS9 := Boxed.new W8 22 (.slice (some ⟨W5.heap.size + 1, 0, none⟩) Kn Kn)
  rw [hsz8] at bS9
  have bO9 := bO8.alloc (.cells #[.slice (some ⟨W5.heap.size + 1, 0, none⟩) Kn Kn] 22)
  have bE9 := bE8.alloc (.cells #[.slice (some ⟨W5.heap.size + 1, 0, none⟩) Kn Kn] 22)
  have bI9 := bI8.alloc (.cells #[.slice (some ⟨W5.heap.size + 1, 0, none⟩) Kn Kn] 22)
  have bL9 := bL8.alloc (.cells #[.slice (some ⟨W5.heap.size + 1, 0, none⟩) Kn Kn] 22)
  have bQ9 := bQ8.alloc (.cells #[.slice (some ⟨W5.heap.size + 1, 0, none⟩) Kn Kn] 22)
  have cO9 := cO8.later (below_new (Below.refl _ W8) (.cells #[.slice (some ⟨W5.heap.size + 1, 0, none⟩) Kn Kn] 22))
  have hgL9 : 0 < L0 → A5 = some ⟨gL, 0, none⟩ ∧ w1.heap.size + 2 ≤ gL ∧ gL < W5.heap.size ∧ Cel (W8.alloc (.cells #[.slice (some ⟨W5.heap.size + 1, 0, none⟩) Kn Kn] 22)) gL 5 (plainL p) := fun h =>
    ⟨(hgL8 h).1, (hgL8 h).2.1, (hgL8 h).2.2.1, (hgL8 h).2.2.2.later (below_new (Below.refl _ W8) _)⟩
  have hB9 := below_new hB8 (.cells #[.slice (some ⟨W5.heap.size + 1, 0, none⟩) Kn Kn] 22)
  have hsz9 : (W8.alloc (.cells #[.slice (some ⟨W5.heap.size + 1, 0, none⟩) Kn Kn] 22)).heap.size = W7.heap.size + 2 := by simp [hsz8]
  generalize W8.alloc (.cells #[.slice (some ⟨W5.heap.size + 1, 0, none⟩) Kn Kn] 22) = W9 at bS9 bO9 bE9 bI9 bL9 bQ9 cO9 hgL9 hB9 hsz9 ⊢
  clear bO8 bE8 bI8 bL8 bQ8 cO8 hgL8 hB8 hsz8 bO8c
  have hKL : Kn = 0 ∨ L0 = Kn + j2 := by have := HK.out; omega
  have hgLn : 0 < L0 → gL < W5.heap.size := fun h => (hgL9 h).2.2.1
  refine wpIn_rangeFunc_ownG rfl (by omega) (gf := 239) (lb := #[.pointer (some ⟨W7.heap.size + 1, 0, none⟩)]) rfl trivial (enters_of Tryz.func239 (by kernel_rfl) rfl)
    (back_stops Fence.wide _ trivial rfl (by omega) (W7.heap.size + 1) Kn Kn (some ⟨W5.heap.size + 1, 0, none⟩) (fun _ _ => True) (KpQ w.heap.size (W7.heap.size + 1) (W5.heap.size + 1) Kn) (by omega) W9 (KpQ.refl _ _ _ _) (fun _ _ _ => KpQ.trans)
      (fun W hW W' hK => ⟨by
        have h1 : W'.heap[W7.heap.size + 1]? = W9.heap[W7.heap.size + 1]? := hK.1.2.trans (hW.block _ (by omega))
        exact Boxed.cell (t := 22) (h1.trans bS9), by
        obtain ⟨l, hl, hc⟩ := hK.2 ⟨_, List.length_replicate, cO9.later hW⟩
        exact ⟨l, hl, hc.rd, fun _ _ => trivial⟩⟩))
    (fun h k => KpQ.trans h k) (KpQ.own (by omega) (by omega) (by omega)) (Below.refl _ _) (fun _ => rfl)
    (DivI w (plainL q) (plainL p) iv j2 Kn L0 w.heap.size w1.heap.size (w1.heap.size + 1) W5.heap.size W7.heap.size (W7.heap.size + 1) (W5.heap.size + 1) gL (.slice (some ⟨b, ob, none⟩) (j2 + 1) d) (.slice A5 L0 c5) (.slice (some ⟨W5.heap.size + 1, 0, none⟩) Kn Kn)) (fun _ _ _ => False)
    (divI_own _ _ _ _ _ _ _ _ _ _ _ _ _ _ _ _ _ _ _ (by omega)) (fun _ _ _ _ _ hs _ _ => hs)
    ⟨⟨⟨bQ9, bL9, bI9, bE9, bO9, bS9⟩, cO9, fun h => (hgL9 h).2.2.2⟩, hB9⟩
    (fun x => { tmps := #[.slice A n c, .slice (some ⟨b, ob, none⟩) m d, undef, .pointer (some ⟨w.heap.size, 0, none⟩), .slice none 0 0, .slice none 0 0, .int .i64 0, .pointer (some ⟨w1.heap.size, 0, none⟩), .pointer (some ⟨w1.heap.size + 1, 0, none⟩), .int .i64 0, .pointer (some ⟨W5.heap.size, 0, none⟩), .pointer (some ⟨W7.heap.size, 0, none⟩), .int .i64 (x.at : Int), .slice (some ⟨b, ob, none⟩) m d, .slice (some ⟨b, ob, none⟩) (j2 + 1) d, .slice (some ⟨b, ob, none⟩) (j2 + 1) d, .int .i64 ((j2 : Int) + 1), .bool false, .slice (some ⟨b, ob, none⟩) (j2 + 1) d, .int .i64 ((j2 : Int) + 1), .int .i64 (j2 : Int), .tuple #[.int .u8 (iv.toNat : Int), .int .i64 0], .slice (some ⟨b, ob, none⟩) (j2 + 1) d, .int .i64 (j2 : Int), .pointer (some ⟨b, ob + j2, none⟩), .int .u8 (y.toNat : Int), .tuple #[.int .u8 (iv.toNat : Int), .int .i64 0], .int .u8 (iv.toNat : Int), .int .i64 0, .slice A n c, .slice A5 L0 c5, .slice A5 L0 c5, .int .i64 (L0 : Int), .int .i64 (j2 : Int), .int .i64 ((L0 : Int) - (j2 : Int)), .int .i64 (Kn : Int), .slice (some ⟨W5.heap.size + 1, 0, none⟩) Kn Kn, .slice (some ⟨W5.heap.size + 1, 0, none⟩) Kn Kn, .func (.func 239) #[] #[.pointer (some ⟨W7.heap.size + 1, 0, none⟩)], .int .i64 (x.at : Int), .int .u8 (x.val.toNat : Int), undef, undef, undef, undef, undef, undef, undef, undef, undef, undef, undef, undef, undef, undef, undef, undef, undef, undef, undef, undef, undef, undef, undef], defers := [] }) ?assign ?body ?done ?stop
  case assign =>
    intro l x W Kn hK
    unfold Bk.enc
    gi_wp2
    exact hK
  case body =>
    rintro l pre x W ⟨⟨⟨hq1, hl1, hi1, he1, ho1, hb1⟩, hO, hL⟩, hB⟩ hlen
    have hkK := x.lt
    have hLn : L0 = Kn + j2 := by omega
    have hLp : 0 < L0 := by omega
    obtain ⟨rfl, hg1, hg2, _⟩ := hgL9 hLp
    have hcL := hL hLp
    obtain ⟨s1, s2⟩ := divF_length (plainL q) iv j2 Kn L0 HQl.out (by omega) (pre.map Bk.at) (List.replicate Kn 0, plainL p) List.length_replicate HL0.out (fun k hk => by obtain ⟨x, _, rfl⟩ := List.mem_map.1 hk; exact x.lt)
    have hs := divF_snoc (plainL q) iv j2 (List.replicate Kn 0, plainL p) (pre.map Bk.at) x.at
    have HP : Hid ((pre ++ [x]).map Bk.at = pre.map Bk.at ++ [x.at]) := by unfold Hid; rw [List.map_append]; rfl
    generalize hk : x.at = k at hkK hs HP ⊢
    generalize divF (plainL q) iv j2 (List.replicate Kn 0, plainL p) (pre.map Bk.at) = s at hO hcL s1 s2 hs
    unfold divS at hs
    have hcx := hcL.get (k + j2) (by omega)
    have hcO := hO.get k (by omega)
    have hfO := hO.frozen k
    generalize co s.2 (k + j2) = z at hcx hs
    have hM : ∀ W, Calls Tryz.prog 190 #[.int .u8 (z.toNat : Int), .int .u8 (iv.toNat : Int)] W fun e w'' => e = .returned (.int .u8 ((mulB z iv).toNat : Int)) ∧ w'' = W := fun W => (gfmul_any z iv W).mono fun _ _ h => ⟨h.1, h.2.symm⟩
    generalize mulB z iv = tt at hM hs
    have hO1 := hO.drew.set k tt
    have hOn1 : Only (W5.heap.size + 1) W (W.drew.setCell ⟨W5.heap.size + 1, k, none⟩ (.int .u8 (tt.toNat : Int))) := (Only.refl _ W).drew.setCell k _
    have hcL1 := hcL.only hOn1 (by omega)
    have hq2 := Boxed.only hq1 hOn1 (by omega)
    have hl2 := Boxed.only hl1 hOn1 (by omega)
    have hi2 := Boxed.only hi1 hOn1 (by omega)
    have he2 := Boxed.only he1 hOn1 (by omega)
    have ho2 := Boxed.only ho1 hOn1 (by omega)
    have hb2 := Boxed.only hb1 hOn1 (by omega)
    have hkeep1 := hOn1.keeps hO W9.heap.size
    have hB1 : Below w.heap.size W (W.drew.setCell ⟨W5.heap.size + 1, k, none⟩ (.int .u8 (tt.toNat : Int))) := hOn1.below.mono (by omega)
    have hbs1 : (W.drew.setCell ⟨W5.heap.size + 1, k, none⟩ (.int .u8 (tt.toNat : Int))).heap[W7.heap.size + 1]? = W.heap[W7.heap.size + 1]? := by
      exact Below.heap_setCell W.drew ⟨W5.heap.size + 1, k, none⟩ _ _ (by dsimp only; omega)
    have i0' : (0 : Int) ≤ (k : Int) := by omega
    have i1' : (k : Int) < (Kn : Int) := by omega
    have i2' : (0 : Int) ≤ (k : Int) + (j2 : Int) := by omega
    have i3' : (k : Int) + (j2 : Int) < (L0 : Int) := by omega
    have i4' : IntKind.i64.wrap ((k : Int) + (j2 : Int)) = (k : Int) + (j2 : Int) := by rw [IntKind.wrap_i64]; omega
    have i5' : (k : Int) + (j2 : Int) = ((k + j2 : Nat) : Int) := by omega
    have ho1c : W.drew.cell? ⟨W7.heap.size, 0, none⟩ = _ := ho1.cell
    have he1c : W.drew.cell? ⟨W5.heap.size, 0, none⟩ = _ := he1.cell
    have hl1c : W.drew.cell? ⟨w1.heap.size, 0, none⟩ = _ := hl1.cell
    have hi1c : W.drew.cell? ⟨w1.heap.size + 1, 0, none⟩ = _ := hi1.cell
    have e5 : ((k : Int) + (j2 : Int)).toNat = k + j2 := by omega
    have hcx' : W.drew.cell? ⟨gL, ((k : Int) + (j2 : Int)).toNat, none⟩ = some (.int .u8 (z.toNat : Int)) := by rw [e5]; exact hcx
    have hcO' : W.drew.cell? ⟨W5.heap.size + 1, k, none⟩ = _ := hcO
    have hfO' : W.drew.frozen? ⟨W5.heap.size + 1, k, none⟩ = false := hfO
    have HMu := Lib.hid hM
    have HLn := Lib.hid hLn
    clear e5 hLn hM i5' hO hcL hL hq1 hl1 hi1 he1 ho1 hb1 hcx hcO hfO hlen bS9 bO9 bE9 bI9 bL9 bQ9 cO9 hgL9
    gi_wp2
    refine wpIn_region_still_tail 11 (by kernel_rfl) (by kernel_rfl) (by rfl) ?_
    generalize hWd : W.drew = Wd at *
    simp only [List.take_succ_cons, List.take_zero, List.drop_succ_cons, List.drop_zero]
    iterate 9 still_step
    still_call (HMu.out _)
    still_step
    refine wpStill_nil ?_
    clear ho1c he1c hl1c hi1c hcx' HMu
    gi_wp2
    have hcOt := hO1.get k (by rw [List.length_set]; omega)
    rw [co_set _ _ _ _ (by omega), if_pos rfl] at hcOt
    generalize Wd.setCell ⟨W5.heap.size + 1, k, none⟩ (.int .u8 (tt.toNat : Int)) = W1' at hO1 hOn1 hcL1 hq2 hl2 hi2 he2 ho2 hb2 hkeep1 hB1 hbs1 hcOt ⊢
    have hrQ1 : Rd vB W1'.drew (some ⟨b, ob, none⟩) (plainL q) := hq.plain.keep (hB.trans hB1).drew
    have hAp : plainL q ≠ [] → ∀ ad, (some (⟨b, ob, none⟩ : Addr)) = some ad → ad.block ≠ gL := fun hn ad ha => by
      have := hq.plain.off hn ad ha
      omega
    have hA := addtimes_any s.2 (plainL q) tt gL k (L0 - k) (c5 - k) (j2 + 1) (some ⟨b, ob, none⟩) d W1'.drew HQl hcL1.drew hrQ1 hAp (by have := HLn.out; omega) (by omega) (by omega) (by omega)
    have hkc : k < c5 := by omega
    have hcut := fun W => run_cut_at (P := Tryz.prog) 22 5 Tryz.underlying22 size_uint8 gL 0 L0 c5 k (by omega) hc5 hkc W
    simp only [Nat.zero_add] at hcut
    have ho2c : W1'.drew.cell? ⟨W7.heap.size, 0, none⟩ = _ := Boxed.cell ho2
    have he2c : W1'.drew.cell? ⟨W5.heap.size, 0, none⟩ = _ := Boxed.cell he2
    have hq2c : W1'.drew.cell? ⟨w.heap.size, 0, none⟩ = _ := Boxed.cell hq2
    have hcOt' : W1'.drew.cell? ⟨W5.heap.size + 1, k, none⟩ = some (.int .u8 (tt.toNat : Int)) := hcOt
    have HA := Lib.hid hA
    clear hA hcOt hrQ1
    refine wpIn_region_still_tail 8 (by kernel_rfl) (by kernel_rfl) (by rfl) ?_
    have hdr : Only gL W1' W1'.drew := (Only.refl _ _).drew
    have hbs2 : W1'.drew.heap[W7.heap.size + 1]? = W1'.heap[W7.heap.size + 1]? := rfl
    generalize W1'.drew = W2' at ho2c he2c hq2c hcOt' HA hdr hbs2 ⊢
    simp only [List.take_succ_cons, List.take_zero, List.drop_succ_cons, List.drop_zero]
    iterate 8 still_step
    refine wpStill_nil ?_
    have HS : Hid (divF (plainL q) iv j2 (List.replicate Kn 0, plainL p) ((pre ++ [x]).map Bk.at) = (s.1.set k tt, atL s.2 k (scaleL tt (plainL q)))) := by
      unfold Hid
      rw [HP.out, hs]
    gi_wp2_with (refine ⟨trivial, ?_⟩; gi_at_call 191; refine (CallsIn.inRound l (callsIn_wide.2 HA.out)).mono ?_; rintro e W3' ⟨⟨v3, rfl⟩, hc3, ho3⟩)
    have hOn3 := hdr.trans ho3
    have hcO3 := hO1.only hOn3 (by omega)
    refine ⟨hkeep1.trans (hOn3.keeps hcL1 _), ⟨⟨hB1.trans (hOn3.below.mono (by omega)), ((hOn3.other _ (by omega) (Boxed.lt hb2)).trans hbs1)⟩, fun _ => ⟨_, by rw [List.length_set]; exact s1, hcO3⟩⟩,
      ⟨⟨Boxed.only hq2 hOn3 (by omega), Boxed.only hl2 hOn3 (by omega), Boxed.only hi2 hOn3 (by omega), Boxed.only he2 hOn3 (by omega), Boxed.only ho2 hOn3 (by omega), Boxed.only hb2 hOn3 (by omega)⟩, ?_, fun _ => ?_⟩, hB.trans (hB1.trans (hOn3.below.mono (by omega)))⟩
    · rw [HS.out]; exact hcO3
    · rw [HS.out]; exact hc3
  case done =>
    rintro D xs W hD hS ⟨⟨⟨hq1, hl1, hi1, he1, ho1, _⟩, hO, hL⟩, hB⟩ hDf
    have hS' : xs.map Bk.at = backN Kn Kn := hS
    rw [hS'] at hO hL
    have hdone := div_done (p := p) (q := q) (inv := iv) HQl.out HI.out.1 HI.out.2 (K := Kn) (by rw [HL0.out]; exact HK.out) rfl
    dsimp only at hdone
    generalize divF (plainL q) iv j2 (List.replicate Kn 0, plainL p) (backN Kn Kn) = s at hO hL hdone
    obtain ⟨s1, s2, hQuo, hp1, hp2⟩ := hdone
    have hrO := hO.rd
    have hrL : Rd vB W A5 s.2 := by
      by_cases h0 : 0 < L0
      · obtain ⟨rfl, _⟩ := hgL9 h0
        exact (hL h0).rd
      · intro hn
        exact absurd (List.eq_nil_of_length_eq_zero (by rw [s2, HL0.out]; omega)) hn
    have hLl : Hid (s.2.length = L0) := s2.trans HL0.out
    have HQR : Hid (IsQuo p q s.1 (plainL s.2) ∧ plainL s.1 = s.1 ∧ plainL (plainL s.2) = plainL s.2) := ⟨hQuo, hp1, hp2⟩
    have HS1 : Hid (s.1.length = Kn) := s1
    have ho1c := ho1.cell
    have he1c := he1.cell
    clear hq1 hl1 hi1 hO hL hQuo hp1 hp2 s1 s2 bS9 bO9 bE9 bI9 bL9 bQ9 cO9 hS hS'
    gi_wp2
    have hcO : ∀ W', Below W.heap.size W W' → W'.cell? ⟨W7.heap.size, 0, none⟩ = some (.slice (some ⟨W5.heap.size + 1, 0, none⟩) Kn Kn) := fun W' h => Boxed.cell ((h.block _ (Boxed.lt ho1)).trans ho1)
    have hcE : ∀ W', Below W.heap.size W W' → W'.cell? ⟨W5.heap.size, 0, none⟩ = some (.slice A5 L0 c5) := fun W' h => Boxed.cell ((h.block _ (Boxed.lt he1)).trans he1)
    have hDl : D < W.heap.size := (Array.getElem?_eq_some_iff.1 hDf).1
    clear ho1c he1c ho1 he1
    go_upto_region 12 with fail
    have hBase : Below W.heap.size W W.drew := (Below.refl _ _).drew
    have hrL' := hrL.keep hBase
    refine wp_region_plan (.step 0 false (.step 1 false (.step 2 true (.step 3 false (.step 4 false (.step 5 false (.nil))))))) (by kernel_rfl) (by kernel_rfl) (by rfl) (by kernel_rfl) ?_
    iterate 2 (refine plan_read rfl (by rfl) (v := ?_) ?_ ?_; rotate_left 1; (intro W hW; have hW0 := below_step hBase hW; (try dsimp only at hW); go_simp <;> with_reducible rfl); simp only [List.getElem_toArray, List.getElem_cons_zero, List.getElem_cons_succ, Act.put, List.setIfInBounds_toArray, List.set_cons_zero, List.set_cons_succ])
    (refine plan_make rfl (by rfl) (fun K hK => ?_); go_simp; (refine (cutP_any s.2 L0 A5 c5 _ hLl hrL' hc5 (by omega)).mono ?_; rintro e w2 ⟨k5, rfl, HK5, hk5, hbx⟩); refine hK.out _ _ hbx ?_; clear hK K; replace hBase := below_step hBase hbx)
    iterate 3 (refine plan_read rfl (by rfl) (v := ?_) ?_ ?_; rotate_left 1; (intro W hW; have hW0 := below_step hBase hW; (try dsimp only at hW); go_simp <;> with_reducible rfl); simp only [List.getElem_toArray, List.getElem_cons_zero, List.getElem_cons_succ, Act.put, List.setIfInBounds_toArray, List.set_cons_zero, List.set_cons_succ])
    refine plan_done ?_
    clear hcO hcE
    go_wp2_with fail
    have hbw2 : Below W.heap.size W w2 := hBase
    have hDf2 : w2.heap[D]? = some (.deferred (some [])) := (hbw2.block D hDl).trans hDf
    refine ⟨by simp, .inl ⟨_, _, rfl, run_takeDeferred hDf2, ?_⟩⟩
    refine ⟨_, results_tmp3 rfl _ _ _, s.1, plainL s.2, some ⟨W5.heap.size + 1, 0, none⟩, A5, Kn, k5, Kn, c5, rfl, HS1, HK5, Nat.le_refl _, by omega, rd_put (hrO.keep hbw2) hDf2 rfl, rd_put ((hrL.keep hbw2).plain) hDf2 rfl, ?_, HQR⟩
    exact (hB.trans (hbw2.mono hB.size)).trans (belowK_b (w := w) (Nat.le_refl _) w2 D _ _ (by omega) hDf2 rfl rfl)
  case stop =>
    rintro D c pre W _ _ h _
    exact h.elim
theorem quo_same {p q a r b s : List UInt8} (h : IsQuo p q a r ∧ plainL a = a ∧ plainL r = r) (g : IsQuo p q b s ∧ plainL b = b ∧ plainL s = s) : a = b ∧ r = s := by
  obtain ⟨e1, e2⟩ := quo_unique h.1 g.1
  exact ⟨by rw [← h.2.1, ← g.2.1]; exact plain_congr e1, by rw [← h.2.2, ← g.2.2]; exact plain_congr e2⟩
end Go.Proofs.YteppocjgodmpdaaGreatDoor
/-
  What slices.Reverse leaves at a slice of bytes that lies at the beginning of a block of the call's own: the same bytes, the last one first. Conditions: a bound on the length, as typed.
-/
namespace Go.Proofs.YteppocjgodmpdaaGreatDoor
set_option maxRecDepth 100000
open Go.RowKit
set_option linter.unusedSimpArgs false
set_option linter.unusedVariables false

/-- Turned as far as i places from both ends. -/
def RevT (l T : List UInt8) (i : Nat) : Prop := T.length = l.length ∧ ∀ k, k < l.length → co T k = if k < i ∨ l.length ≤ k + i then co l (l.length - 1 - k) else co l k
theorem RevT.zero (l : List UInt8) : RevT l l 0 := ⟨rfl, fun k hk => by rw [if_neg (by omega)]⟩
theorem RevT.next {l T : List UInt8} {i : Nat} (h : RevT l T i) (hi : 2 * i + 1 < l.length) : RevT l ((T.set i (co T (l.length - 1 - i))).set (l.length - 1 - i) (co T i)) (i + 1) := by
  refine ⟨by rw [List.length_set, List.length_set]; exact h.1, fun k hk => ?_⟩
  have h1 := h.1
  rw [co_set _ _ _ _ (by rw [List.length_set]; omega), co_set _ _ _ _ (by omega)]
  have hi' := h.2 i (by omega)
  have hj' := h.2 (l.length - 1 - i) (by omega)
  rw [if_neg (by omega)] at hi' hj'
  by_cases e1 : k = l.length - 1 - i
  · rw [if_pos e1, if_pos (by omega), hi']
    congr 1
    omega
  · rw [if_neg e1]
    by_cases e2 : k = i
    · rw [if_pos e2, if_pos (by omega), hj']
      congr 1
      omega
    · rw [if_neg e2, h.2 k hk]
      by_cases e3 : k < i ∨ l.length ≤ k + i
      · rw [if_pos e3, if_pos (by omega)]
      · rw [if_neg e3, if_neg (by omega)]
theorem RevT.done {l T : List UInt8} {i : Nat} (h : RevT l T i) (hi : l.length ≤ 2 * i + 1) : T = l.reverse := by
  refine co_ext (by rw [h.1, List.length_reverse]) (fun k hk => ?_)
  rw [h.1] at hk
  rw [h.2 k hk, co_lt l.reverse k (by rw [List.length_reverse]; exact hk), List.getElem_reverse]
  split
  · rw [co_lt _ _ (by omega)]
  · rw [co_lt _ _ hk]
    congr 1
    omega
def RevRel (l : List UInt8) (n g cap : Nat) (w : World) (i j : Value) (wr : World) : Prop :=
  ∃ (k : Nat) (T : List UInt8), 2 * k ≤ n + 1 ∧ i = .int .i64 (k : Int) ∧ j = .int .i64 ((n : Int) - 1 - (k : Int)) ∧ Hid (RevT l T k) ∧ CelN wr g 5 cap T ∧ Only g w wr

theorem reverse_nil (A : Option Addr) (c : Nat) (w : World) :
    Calls Tryz.prog 192 #[.slice A 0 c] w fun e w' => (∃ v, e = .returned v) ∧ w = w' := by
  go_enter Tryz.func192, Tryz.ntmps192
  go_wp2_with fail
  go_loopw [2, 3] (fun i j wr => i = .int .i64 0 ∧ j = .int .i64 (-1) ∧ w = wr) (fun _ _ _ => 0)
  case atStart => exact ⟨rfl, rfl, rfl⟩
  case round =>
    obtain ⟨rfl, rfl, rfl⟩ := hrel
    go_wp2_with fail
    go_end0
    exact ⟨⟨_, rfl⟩, rfl⟩
set_option maxHeartbeats 2000000 in
theorem reverse_cel (l : List UInt8) (n g cap c : Nat) (w : World) (HN : Hid (l.length = n)) (hcel : CelN w g 5 cap l) (hnc : n ≤ c) (hn : n ≤ 100000) :
    Calls Tryz.prog 192 #[.slice (some ⟨g, 0, none⟩) n c] w fun e w' => (∃ v, e = .returned v) ∧ CelN w' g 5 cap l.reverse ∧ Only g w w' := by
  go_enter Tryz.func192, Tryz.ntmps192
  go_wp2_with fail
  go_loopw [2, 3] (fun i j wr => RevRel l n g cap w i j wr) (fun i _ _ => n - (intOf i).toNat)
  case atStart => exact ⟨0, l, by omega, rfl, by go_num, RevT.zero l, hcel, Only.refl _ _⟩
  case round =>
    clear hcel
    obtain ⟨k, T, hk, rfl, rfl, HT, hc, ho⟩ := hrel
    by_cases h : 2 * k + 1 < n
    · obtain ⟨q, hq⟩ : ∃ q, q = n - 1 - k := ⟨_, rfl⟩
      have e1 : (n : Int) - 1 - (k : Int) = (q : Int) := by omega
      have hTl : T.length = n := by rw [HT.out.1, HN.out]
      have h1 := hc.cel.get k (by omega)
      have h2 := hc.cel.get q (by omega)
      have f1 := hc.cel.frozen k
      have HX : Hid (RevT l ((T.set k (co T q)).set q (co T k)) (k + 1)) := by
        have := HT.out.next (by rw [HN.out]; exact h)
        rw [HN.out, ← hq] at this
        exact this
      generalize hx : co T k = x at h1 HX
      generalize hy : co T q = y at h2 HX
      have f2 := hc.cel.frozen q
      have hc2 := ((hc.set k y).set q x).drew
      have ho2 := ((ho.setCell k (.int .u8 (y.toNat : Int))).setCell q (.int .u8 (x.toNat : Int))).drew
      have j1 : (k : Int) < (q : Int) := by omega
      have j2 : (0 : Int) ≤ (k : Int) := by omega
      have j3 : (0 : Int) ≤ (q : Int) := by omega
      have j4 : (q : Int) < (n : Int) := by omega
      have j5 : (k : Int) < (n : Int) := by omega
      have HQ := Lib.hid hq
      have HR : Hid (RevRel l n g cap w (.int .i64 ((k : Int) + 1)) (.int .i64 ((q : Int) - 1)) ((wr.setCell ⟨g, k, none⟩ (.int .u8 (y.toNat : Int))).setCell ⟨g, q, none⟩ (.int .u8 (x.toNat : Int))).drew) :=
        ⟨k + 1, _, by omega, by go_num, by rw [show ((n : Int) - 1 - ((k + 1 : Nat) : Int)) = (q : Int) - 1 by omega], HX.out, hc2, ho2⟩
      rw [e1]
      clear hc hc2 ho ho2 hx hy hTl hq e1 hk HX HT
      go_wp2_with fail
      go_region
      go_wp2_with fail
      go_roundw
      case rel => exact HR.out
      case measure => simp [intOf] <;> omega
    · have HD : Hid (T = l.reverse) := HT.out.done (by rw [HN.out]; omega)
      have j1 : ¬ (k : Int) < (n : Int) - 1 - (k : Int) := by omega
      rw [HD.out] at hc
      go_wp2_with fail
      go_end0
      exact ⟨⟨_, rfl⟩, hc, ho⟩
end Go.Proofs.YteppocjgodmpdaaGreatDoor
/-
  What the program's calls of layer 9 answer, over the landed code. No conditions but those typed.
-/
namespace Go.Proofs.YteppocjgodmpdaaGreatDoor
set_option maxRecDepth 100000
open Go.RowKit
set_option linter.unusedSimpArgs false
set_option linter.unusedVariables false

/-- A call that hands back a list of bytes and an error. -/
def RetSE (w : World) (l : List UInt8) (k : Int) (e : Ending) (w' : World) : Prop := ∃ A n c, e = .returned (.tuple #[.slice A n c, .int .i64 k]) ∧ Hid (l.length = n) ∧ n ≤ c ∧ Rd vB w' A l ∧ Below w.heap.size w w'

/-! ### mayBe, place, polynomial -/
theorem maybe_yes (n : Nat) (w : World) (h1 : 1 ≤ n) (h2 : n ≤ 64) : Calls Tryz.prog 183 #[.int .i64 (n : Int)] w fun e w' => e = .returned (.bool true) ∧ w = w' := by
  have j1 : (1 : Int) ≤ (n : Int) := by omega
  have j2 : (n : Int) ≤ 64 := by omega
  go_enter Tryz.func183, Tryz.ntmps183
  go_wp2_with fail
  go_ret
  exact ⟨rfl, rfl⟩
theorem maybe_no (n : Int) (w : World) (h : n < 1 ∨ 64 < n) : Calls Tryz.prog 183 #[.int .i64 n] w fun e w' => e = .returned (.bool false) ∧ w = w' := by
  by_cases h1 : 1 ≤ n
  · have h2 : ¬ n ≤ 64 := by omega
    clear h
    go_enter Tryz.func183, Tryz.ntmps183
    go_wp2_with fail
    go_ret
    exact ⟨rfl, rfl⟩
  · clear h
    go_enter Tryz.func183, Tryz.ntmps183
    go_wp2_with fail
    go_ret
    exact ⟨rfl, rfl⟩
theorem place_any (i : Nat) (x : UInt8) (w : World) (hi : i < 254) (HX : Hid (powB 2 (i + 1) = x)) : Calls Tryz.prog 185 #[.int .i64 (i : Int)] w fun e w' => e = .returned (.int .u8 (x.toNat : Int)) ∧ w = w' := by
  have h1 := gfexp_any ((i : Int) + 1) w
  rw [show ((i : Int) + 1) = ((i + 1 : Nat) : Int) by omega, powZ_two (i + 1) (by omega), HX.out, show (((i + 1 : Nat)) : Int) = (i : Int) + 1 by omega] at h1
  have H1 := Lib.hid h1
  clear h1
  go_enter Tryz.func185, Tryz.ntmps185
  go_wp2_with fail
  refine H1.out.mono ?_
  rintro e w1 ⟨rfl, rfl⟩
  go_wp2_with fail
  go_ret
  exact ⟨rfl, rfl⟩
theorem poly_own (b : List UInt8) (n : Nat) (A : Option Addr) (c : Nat) (w : World) (HN : Hid (b.length = n)) (hr : Rd vB w A b) (hn : n ≤ 100000) :
    Calls Tryz.prog 121 #[.slice A n c] w (RetP w b.reverse) := by
  have e1 := HN.out
  subst e1
  go_enter Tryz.func121, Tryz.ntmps121
  go_wp2_with fail
  refine (clone_own b A c w hr (by omega)).mono ?_
  rintro e w1 ⟨v, rfl, ho, hb1⟩
  obtain ⟨A1, c1, rfl, hc1⟩ := own_form ho
  by_cases h0 : b.length = 0
  · have e0 : b = [] := List.eq_nil_of_length_eq_zero h0
    subst e0
    go_wp2_with fail
    refine (reverse_nil A1 c1 w1).mono ?_
    rintro e w2 ⟨⟨v2, rfl⟩, rfl⟩
    go_wp2_with fail
    go_ret
    exact ⟨_, rfl, ho, hb1⟩
  · obtain ⟨g, rfl, hg, _⟩ := cel_of_own ho rfl (by omega)
    obtain ⟨hcel, _, hle, hmax⟩ := celN_some ho rfl
    go_wp2_with fail
    refine (reverse_cel b b.length g c1 c1 w1 (Lib.hid rfl) hcel hc1 hn).mono ?_
    rintro e w2 ⟨⟨v2, rfl⟩, hcel2, ho2⟩
    have hown := hcel2.own (base := w.heap.size) hg (by rw [List.length_reverse]; exact hc1) hmax
    have hb2 := hb1.trans (ho2.below.mono hg)
    rw [List.length_reverse] at hown
    have HO := Lib.hid hown
    clear hown
    go_wp2_with fail
    go_ret
    exact ⟨_, rfl, by rw [List.length_reverse]; exact HO.out, hb2⟩
theorem poly_any (b : List UInt8) (n : Nat) (A : Option Addr) (c : Nat) (w : World) (HN : Hid (b.length = n)) (hr : Rd vB w A b) (hn : n ≤ 100000) :
    Calls Tryz.prog 121 #[.slice A n c] w (RetQ w b.reverse) := (poly_own b n A c w HN hr hn).mono fun _ _ h => h.any

/-! ### Gen -/
def GenI (n : Nat) (w : World) (g i : Value) (wr : World) : Prop :=
  ∃ (j : Nat) (A : Option Addr) (k c : Nat), j ≤ n ∧ i = .int .i64 (j : Int) ∧ g = .slice A k c ∧ Hid ((genL j).length = k) ∧ k ≤ c ∧ Rd vB wr A (genL j) ∧ Below w.heap.size w wr
set_option maxHeartbeats 2000000 in
theorem genS_ok (n : Nat) (w : World) (h1 : 1 ≤ n) (h2 : n ≤ 64) :
    Calls Tryz.prog 119 #[.int .i64 (n : Int)] w (RetSE w (genL n) 0) := by
  go_enter Tryz.func119, Tryz.ntmps119
  go_wp2_with fail
  refine (maybe_yes n _ h1 h2).mono ?_
  rintro e w1 ⟨rfl, rfl⟩
  go_wp2_with fail
  go_loopw [4, 11] (fun g i wr => GenI n w g i wr) (fun _ i _ => n - (intOf i).toNat)
  case atStart => exact ⟨0, some ⟨w.heap.size, 0, none⟩, 1, 1, Nat.zero_le _, rfl, rfl, rfl, Nat.le_refl _, Rd.new w [1] _ _ rfl, below_new (Below.refl _ _) _⟩
  case round =>
    obtain ⟨j, A, k, c, hj, rfl, rfl, HK, hc, hr, hb⟩ := hrel
    by_cases h : j < n
    · have j1 : (j : Int) < (n : Int) := by omega
      have HKJ : Hid (k ≤ 100) := by unfold Hid; rw [← HK.out, (gen_is j).1]; omega
      obtain ⟨x, hx⟩ : ∃ x, powB 2 (j + 1) = x := ⟨_, rfl⟩
      have hg : genL (j + 1) = plainL (mulL (genL j) [x, 1]) := by rw [← hx]; rfl
      obtain ⟨p', hp'⟩ : ∃ p', genL (j + 1) = p' := ⟨_, rfl⟩
      rw [hp'] at hg
      have HG := Lib.hid hg
      have HP' := Lib.hid hp'
      have HX := Lib.hid hx
      clear hx hg hp'
      generalize genL j = p at HK hr HG
      go_wp2_with fail
      refine (place_any j x _ (by omega) HX).mono ?_
      rintro e w1 ⟨rfl, rfl⟩
      go_wp2_with fail
      have hl : Rd vB (wr.alloc (.cells #[.int .u8 (x.toNat : Int), .int .u8 1] 5)) (some ⟨wr.heap.size, 0, none⟩) [x, 1] := Rd.new wr [x, 1] _ _ rfl
      refine (mulP_any p [x, 1] k 2 A _ c _ _ HK (Lib.hid rfl) (hr.keep (below_new (Below.refl _ _) _)) hl hc (Nat.le_refl _) (by have := HKJ.out; omega) (by omega)).mono ?_
      rintro e w2 ⟨A2, n2, c2, rfl, HN2, hc2, hr2, hb2⟩
      rw [← HG.out] at HN2 hr2
      have hB := below_step (below_new hb _) hb2
      clear hb hb2 hl hr HK HG
      go_wp2_with fail
      go_roundw
      case rel => exact ⟨j + 1, A2, n2, c2, h, by go_num, rfl, by rw [HP'.out]; exact HN2, hc2, by rw [HP'.out]; exact hr2, hB⟩
      case measure => simp [intOf] <;> omega
    · have j1 : ¬ (j : Int) < (n : Int) := by omega
      have ej : j = n := by omega
      subst ej
      go_wp2_with fail
      go_ret2
      exact ⟨A, k, c, rfl, HK, hc, hr, hb⟩
theorem genS_no (n : Int) (w : World) (h : n < 1 ∨ 64 < n) :
    Calls Tryz.prog 119 #[.int .i64 n] w (RetSE w [] 1) := by
  have HM := Lib.hid (maybe_no n w h)
  clear h
  go_enter Tryz.func119, Tryz.ntmps119
  go_wp2_with fail
  refine HM.out.mono ?_
  rintro e w1 ⟨rfl, rfl⟩
  go_wp2_with fail
  go_ret2
  exact ⟨none, 0, 0, rfl, Lib.hid rfl, Nat.le_refl _, Rd.nil, Below.refl _ _⟩

/-! ### Put -/
theorem putS_quo (d q r : List UInt8) (n : Nat) (h1 : 1 ≤ n) (hl : d.length + n ≤ 255) (hq : IsQuo (d ++ List.replicate n 0).reverse (genL n) q r) (hp : plainL r = r) :
    r.length ≤ n ∧ (d ++ List.replicate n 0).take (d.length + n - r.length) ++ r.reverse ++ (d ++ List.replicate n 0).drop (d.length + n - r.length + r.length) = putS d n := by
  obtain ⟨hG1, _, hG3⟩ := gen_is n
  have hrl : r.length ≤ n := by
    have := hq.2
    rw [hp] at this
    have := plain_len (genL n)
    omega
  refine ⟨hrl, ?_⟩
  have hz : (d ++ List.replicate n (0 : UInt8)).length = d.length + n := by rw [List.length_append, List.length_replicate]
  rw [Nat.sub_add_cancel (by omega), List.drop_of_length_le (by omega), List.append_nil, show d.length + n - r.length = d.length + (n - r.length) by omega, List.take_length_add_append, List.take_replicate, Nat.min_eq_left (by omega), List.append_assoc]
  refine putS_only d _ n h1 (by rw [List.length_append, List.length_replicate, List.length_reverse]; omega) hl (fun i i1 i2 => ?_)
  rw [val_append, List.length_append, List.length_replicate, List.length_reverse, Nat.sub_add_cancel hrl]
  have e1 : valB (List.replicate (n - r.length) 0 ++ r.reverse) (powB 2 i) = evalL r (powB 2 i) := by
    unfold valB
    rw [List.reverse_append, List.reverse_reverse, List.reverse_replicate]
    exact eval_congr (fun k => co_pad r _ k) _
  have e2 := eval_congr hq.1 (powB 2 i)
  rw [eval_add, eval_mul, hG3 i i1 i2, mul_zero, zero_add] at e2
  have e3 : evalL (d ++ List.replicate n 0).reverse (powB 2 i) = valB (d ++ List.replicate n 0) (powB 2 i) := rfl
  have e4 : valB (List.replicate n 0) (powB 2 i) = 0 := by
    unfold valB
    rw [List.reverse_replicate]
    exact eval_zeros n _
  rw [e3, val_append, e4, zero_add, List.length_replicate] at e2
  rw [e1, e2, add_self]
theorem gen_plain_ne (n : Nat) : plainL (genL n) ≠ [] := fun h => by
  have h1 := plain_eqv (genL n) n
  rw [h, (gen_is n).2.1, co_nil] at h1
  cases h1
/-- 'copy(d, s)' into a block whose first cells are bytes. -/
theorem wp_copy_cel {P : Program} {o : Oper} {a : Act} {w : World} {K : Act → World → Prop} {Q : Exit → Act → World → Prop} (d s : Operand) (dT sT : TypeId)
    (ho : o.op = .call { callee := .builtin .copy, args := #[d, s], argTypes := #[dT, sT] }) (elem : TypeId) (hu : P.underlying dT = some (.slice elem)) (hsz : (P.info? elem).map (·.size) = some 1)
    (g off dLen dCap : Nat) (A : Option Addr) (S : List UInt8) (sCap : Nat) (hd : a.eval d = .slice (some ⟨g, off, none⟩) dLen dCap) (hs : a.eval s = .slice A S.length sCap)
    (l : List UInt8) (t : TypeId) (hg : Cel w g t l) (hr : Rd vB w A S) (hle : S.length ≤ dLen) (hfit : off + S.length ≤ l.length)
    (h : ∀ w', Cel w' g t (l.take off ++ S ++ l.drop (off + S.length)) → Only g w w' → K (a.put o.dst (.int .i64 (S.length : Int))) w') : o.wp P a w K Q := by
  obtain ⟨L, h1, h2⟩ := hg
  have hlen : l.length ≤ L.length := by
    have := congrArg List.length h2
    rw [List.length_take, List.length_map] at this
    omega
  refine wp_copy_row d s dT sT ho elem hu hsz g off dLen dCap A S sCap hd hs L t h1 hr (fun _ => rfl) hle (by omega) ?_
  exact h _ ⟨_, h1.setRow _, cel_splice h2 off S hfit⟩ ((Only.refl g w).setRow _)
/-- 's[k:]' of a slice at the beginning of its block, whichever k. -/
theorem cut_some {P : Program} (t e : TypeId) (ht : P.underlying t = some (.slice e)) (hz : ∀ w, (sizeOf e).run P w = .ok 1 w) (g M m : Nat) (hm : m ≤ M) :
    ∃ off, (∀ w, (Instr.slice t (.slice (some ⟨g, 0, none⟩) M M) (some (.int .i64 ((M - m : Nat) : Int))) none none).run P w = .ok (.slice (some ⟨g, off, none⟩) m m) w) ∧ off + m ≤ M ∧ (off = M - m ∨ m = 0) := by
  by_cases h0 : m = 0
  · subst h0
    refine ⟨0, fun w => ?_, by omega, .inr rfl⟩
    have ht' : P.underlying t = some (.slice (P.elem t)) := by simp [Program.elem, ht]
    have he : P.elem t = e := by simp [Program.elem, ht]
    rw [run_slice_l w t (some ⟨g, 0, none⟩) M M ht' .i64 ((M - 0 : Nat) : Int) (by omega) (by omega), he, hz]
    simp [Result.andThen, sliced, Addr.add]
  · refine ⟨M - m, fun w => ?_, by omega, .inl rfl⟩
    have := run_cut_at (P := P) t e ht hz g 0 M M (M - m) (by omega) (Nat.le_refl _) (by omega) w
    rw [Nat.zero_add, show M - (M - m) = m by omega] at this
    exact this
set_option maxHeartbeats 2000000 in
theorem putS_ok (d : List UInt8) (len n : Nat) (A : Option Addr) (c : Nat) (w : World) (HN : Hid (d.length = len)) (hr : Rd vB w A d) (hc : len ≤ c) (h1 : 1 ≤ n) (h2 : n ≤ 64) (hl : len + n ≤ 255) :
    Calls Tryz.prog 69 #[.slice A len c, .int .i64 (n : Int)] w (RetSE w (putS d n) 0) := by
  obtain ⟨i0, hi, hz0, hz1, hz2⟩ := info_parts info_u8
  have e1 := HN.out
  subst e1
  have HM := Lib.hid (genS_ok n w h1 h2)
  have HNE := Lib.hid (gen_plain_ne n)
  have HG1 := Lib.hid (gen_is n).1
  have HP : Hid (∀ q r, IsQuo (d ++ List.replicate n 0).reverse (genL n) q r → plainL r = r → _) := fun q r a b => putS_quo d q r n h1 hl a b
  have HPL := Lib.hid (putS_length d n h1)
  obtain ⟨F, hF⟩ : ∃ F, putS d n = F := ⟨_, rfl⟩
  rw [hF] at HP HPL ⊢
  clear hF
  have j1 : ¬ (255 : Int) - (n : Int) < (d.length : Int) := by omega
  obtain ⟨M, hM⟩ : ∃ M : Nat, M = d.length + n := ⟨_, rfl⟩
  have m0 : (d.length : Int) + (n : Int) = (M : Int) := by omega
  rw [← hM] at HP HPL
  have hMd : d.length ≤ M := by omega
  have hM2 : M ≤ 255 := by omega
  have HMd : Hid (M - d.length = n) := by unfold Hid; omega
  have hnM : n ≤ M := by omega
  clear hM
  go_enter Tryz.func69, Tryz.ntmps69
  go_wp2_with fail
  refine HM.out.mono ?_
  rintro e w1 ⟨A1, n1, c1, rfl, HN1, hc1, hr1, hb1⟩
  have hn1 : n1 ≤ 100 := by rw [← HN1.out, HG1.out]; omega
  generalize genL n = G at HN1 hr1 HNE HP
  replace hr := hr.keep hb1
  clear HM HG1
  go_upto_region 7 with (at_make; refine wpList_make_full _ rfl _ _ 22 rfl w1.heap.size 5 i0 (.int .u8 0) 1 Tryz.underlying22 hi hz0 hz1 .i64 .i64 _ _ M rfl rfl rfl rfl (by rw [hz2]; omega) (by unfold maxLen; omega) (Nat.le_refl _) ?_; intro w0 hown0 hgrow0)
  rw [Nat.mul_one, show (Value.int .u8 0).cells = #[.int .u8 0] from rfl, toList_madeCells_one, zeros_map] at hown0
  obtain ⟨hc0, _, _⟩ := cel_some hown0 List.length_replicate
  have hB0 : Below w1.heap.size w1 w0 := (Below.refl _ _).grown hgrow0 (Nat.le_refl _) (by simp)
  have hr0 := hr.keep hB0
  have hr10 := hr1.keep hB0
  have hgw : w.heap.size ≤ w1.heap.size := hb1.size
  have hB := below_step hb1 hB0
  have hAG := hr1.apart (Nat.le_refl _)
  generalize hgd : w1.heap.size = g at hc0 hgw hAG ⊢
  clear hown0 hgrow0 hr hr1 m0 hgd
  go_upto_region 8 with (refine wpList_copy_cel rfl (.tmp 30) (.tmp 31) 22 22 rfl 5 Tryz.underlying22 (by kernel_rfl) g 0 M M A d c rfl rfl (List.replicate M 0) 5 hc0 hr0 hMd (by rw [List.length_replicate]; omega) ?_; intro w3 hc3 ho3)
  have e0 : (List.replicate M (0 : UInt8)).take 0 ++ d ++ (List.replicate M 0).drop (0 + d.length) = d ++ List.replicate n 0 := by
    rw [List.take_zero, List.nil_append, List.drop_replicate, Nat.zero_add, HMd.out]
  rw [e0] at hc3
  have HZL : Hid ((d ++ List.replicate n (0 : UInt8)).length = M) := by
    unfold Hid
    rw [List.length_append, List.length_replicate]
    have := HMd.out
    omega
  have hr13 := hr10.only ho3 hAG
  have hg3 : g < w3.heap.size := hc3.lt
  have hBB := hB.trans (ho3.below.mono hgw)
  generalize d ++ List.replicate n (0 : UInt8) = Z at hc3 HZL HP
  clear e0 hc0 hr0 hr10 hB ho3 hB0
  go_wp2_with fail
  refine (poly_any Z M (some ⟨g, 0, none⟩) M w3 HZL hc3.rd (by omega)).mono ?_
  rintro e w4 ⟨A4, n4, c4, rfl, HN4, hc4, hr4, hb4⟩
  have hn4 : n4 ≤ 255 := by rw [← HN4.out, List.length_reverse, HZL.out]; exact hM2
  have hcel4 := hc3.later hb4
  have hBB4 := below_step hBB hb4
  have hs4 := hb4.size
  generalize Z.reverse = Zr at HN4 hr4 HP
  go_wp2_with fail
  refine (quoP_good Zr G n4 n1 A4 A1 c4 c1 w4 HN4 HN1 hr4 (hr13.keep hb4) hc4 hc1 (by omega) (by omega) HNE).mono ?_
  rintro e w5 ⟨a, r, A5, B5, n5, m5, c5, d5, rfl, HA5, HR5, hn5, hm5, hra, hrr, hb5, HQ⟩
  obtain ⟨hrl, hfin⟩ := HP.out a r HQ.out.1 HQ.out.2.2
  rw [HR5.out] at hrl hfin
  have hcel5 := hcel4.later hb5
  have hBB5 := below_step hBB4 hb5
  have hs5 := hb5.size
  have hmM : m5 ≤ M := by omega
  obtain ⟨off, hcut, hoff1, hoff2⟩ := cut_some (P := Tryz.prog) 22 5 Tryz.underlying22 size_uint8 g M m5 hmM
  have mk : (M : Int) - (m5 : Int) = ((M - m5 : Nat) : Int) := by omega
  have mw : IntKind.i64.wrap ((M : Int) - (m5 : Int)) = (M : Int) - (m5 : Int) := by rw [IntKind.wrap_i64]; omega
  rw [← mk] at hcut
  have HF : Hid (Z.take off ++ r.reverse ++ Z.drop (off + r.reverse.length) = F) := by
    unfold Hid
    rw [List.length_reverse, HR5.out]
    rcases hoff2 with e | e
    · rw [e]; exact hfin
    · have er : r = [] := List.eq_nil_of_length_eq_zero (by rw [HR5.out, e])
      rw [er, e] at hfin ⊢
      simp only [List.reverse_nil, List.append_nil, Nat.add_zero, List.take_append_drop] at hfin ⊢
      exact hfin
  have HCUT := Lib.hid hcut
  have HMK := Lib.hid mk
  have HRR : Hid (r.reverse.length = m5) := by unfold Hid; rw [List.length_reverse, HR5.out]
  have hbase5 : Below g w5 w5.drew := (Below.refl _ _).drew
  clear hcut mk hfin hoff2 HQ hra HA5 hcel4 hc3 hr4 HP HNE HN4 HN1 hr13 hb5 hb4 hBB4 hBB hc1 hc4 hn1 hn4 hrl hn5
  go_upto_region 9 with fail
  refine wp_region_plan_at g (.step 0 false (.step 1 false (.step 2 false (.step 3 false (.step 4 false (.step 5 false (.step 6 false (.step 7 false (.step 8 true (.step 9 true (.nil))))))))))) (by kernel_rfl) (by kernel_rfl) (by rfl) (by kernel_rfl) ?_
  have hBase := hbase5
  have hcutW := HCUT.out
  iterate 8 (refine plan_read rfl (by rfl) (v := ?_) ?_ ?_; rotate_left 1; (intro W hW; have hW0 := Below.trans hBase hW; (try dsimp only at hW); go_simp <;> with_reducible rfl); simp only [List.getElem_toArray, List.getElem_cons_zero, List.getElem_cons_succ, Act.put, List.setIfInBounds_toArray, List.set_cons_zero, List.set_cons_succ])
  (refine plan_make_at rfl (by rfl) (fun K hK => ?_); go_simp; refine (poly_any r m5 B5 d5 _ HR5 (hrr.keep (Below.refl _ w5).drew) (by omega)).mono ?_; rintro e w6 ⟨A6, n6, c6, rfl, HN6, hc6, hr6, hb6⟩; have hz6 : w5.heap.size ≤ w6.heap.size := hb6.size; refine hK.out _ _ (hb6.mono (by change g ≤ w5.heap.size; omega)) ?_; clear hK K; replace hBase := hBase.trans (hb6.mono (by change g ≤ w5.heap.size; omega)))
  have hcel6 := hcel5.drew.later hb6
  have hBB6 := below_step hBB5.drew hb6
  generalize r.reverse = T at HN6 hr6 HF HRR
  have e6 := HN6.out
  subst e6
  have hTm : T.length ≤ m5 := Nat.le_of_eq HRR.out
  have hfit : off + T.length ≤ Z.length := by rw [HZL.out, HRR.out]; exact hoff1
  (refine plan_make_at rfl (by rfl) (fun K hK => ?_); refine wp_copy_cel (.tmp 47) (.tmp 49) 22 22 rfl 5 Tryz.underlying22 (by kernel_rfl) g off m5 m5 A6 T c6 rfl rfl Z 5 hcel6 hr6 hTm hfit ?_; intro w7 hc7 ho7; refine hK.out _ _ ho7.below ?_; clear hK K)
  refine plan_done ?_
  rw [HF.out] at hc7
  have hrF := hc7.rd
  have hBF := hBB6.trans (ho7.below.mono hgw)
  clear hcel6 hcel5 hc7 ho7 hBase
  go_wp2_with fail
  go_ret2
  exact ⟨_, M, M, rfl, HPL.out, Nat.le_refl _, hrF, hBF⟩
theorem putS_no (d : List UInt8) (len : Nat) (n : Int) (A : Option Addr) (c : Nat) (w : World) (HN : Hid (d.length = len)) (hr : Rd vB w A d) (hc : len ≤ c) (hl : len ≤ 100000) (h : n < 1 ∨ 64 < n) :
    Calls Tryz.prog 69 #[.slice A len c, .int .i64 n] w (RetSE w [] 1) := by
  have HM := Lib.hid (genS_no n w h)
  clear h
  go_enter Tryz.func69, Tryz.ntmps69
  go_wp2_with fail
  refine HM.out.mono ?_
  rintro e w1 ⟨A1, n1, c1, rfl, HN1, hc1, hr1, hb1⟩
  go_wp2_with fail
  go_ret2
  exact ⟨none, 0, 0, rfl, Lib.hid rfl, Nat.le_refl _, Rd.nil, hb1⟩
theorem putS_long (d : List UInt8) (len n : Nat) (A : Option Addr) (c : Nat) (w : World) (HN : Hid (d.length = len)) (hr : Rd vB w A d) (hc : len ≤ c) (h1 : 1 ≤ n) (h2 : n ≤ 64) (hl : 255 < len + n) (hl2 : len ≤ 100000) :
    Calls Tryz.prog 69 #[.slice A len c, .int .i64 (n : Int)] w (RetSE w [] 4) := by
  have HM := Lib.hid (genS_ok n w h1 h2)
  have j1 : (255 : Int) - (n : Int) < (len : Int) := by omega
  go_enter Tryz.func69, Tryz.ntmps69
  go_wp2_with fail
  refine HM.out.mono ?_
  rintro e w1 ⟨A1, n1, c1, rfl, HN1, hc1, hr1, hb1⟩
  go_wp2_with fail
  go_ret2
  exact ⟨none, 0, 0, rfl, Lib.hid rfl, Nat.le_refl _, Rd.nil, hb1⟩

/-! ### Signs, Fine -/
def SigRel (b : List UInt8) (n g : Nat) (w : World) (i : Value) (wr : World) : Prop :=
  ∃ (k : Nat) (T : List UInt8), k ≤ n ∧ i = .int .i64 (k : Int) ∧ T.length = n ∧ (∀ j, j < k → co T j = sigF b j) ∧ Cel wr g 5 T ∧ Below w.heap.size w wr
set_option maxHeartbeats 2000000 in
theorem signsS_ok (b : List UInt8) (len n : Nat) (A : Option Addr) (c : Nat) (w : World) (HN : Hid (b.length = len)) (hr : Rd vB w A b) (hc : len ≤ c) (h1 : 1 ≤ n) (h2 : n ≤ 64) (h3 : n ≤ len) (h4 : len ≤ 255) :
    Calls Tryz.prog 133 #[.slice A len c, .int .i64 (n : Int)] w (RetSE w (signsL b n) 0) := by
  obtain ⟨i0, hi, hz0, hz1, hz2⟩ := info_parts info_u8
  have HM := Lib.hid (maybe_yes n w h1 h2)
  have j1 : ¬ (len : Int) < (n : Int) := by omega
  have j2 : ¬ (255 : Int) < (len : Int) := by omega
  go_enter Tryz.func133, Tryz.ntmps133
  go_wp2_with fail
  refine HM.out.mono ?_
  rintro e w1 ⟨rfl, rfl⟩
  go_wp2_with fail
  refine (poly_any b len A c w HN hr (by omega)).mono ?_
  rintro e w2 ⟨A2, n2, c2, rfl, HN2, hc2, hr2, hb2⟩
  have hn2 : n2 ≤ 255 := by rw [← HN2.out, List.length_reverse, HN.out]; exact h4
  have hgw := hb2.size
  clear j1 j2 HM
  go_upto_region 9 with (at_make; refine wpList_make_full _ rfl _ _ 22 rfl w2.heap.size 5 i0 (.int .u8 0) 1 Tryz.underlying22 hi hz0 hz1 .i64 .i64 _ _ n rfl rfl rfl rfl (by rw [hz2]; omega) (by unfold maxLen; omega) (Nat.le_refl _) ?_; intro w0 hown0 hgrow0)
  rw [Nat.mul_one, show (Value.int .u8 0).cells = #[.int .u8 0] from rfl, toList_madeCells_one, zeros_map] at hown0
  obtain ⟨hc0, _, _⟩ := cel_some hown0 List.length_replicate
  have hB0 : Below w2.heap.size w2 w0 := (Below.refl _ _).grown hgrow0 (Nat.le_refl _) (by simp)
  generalize hgd : w2.heap.size = g at hc0 ⊢
  have hgl : w2.heap.size ≤ g := Nat.le_of_eq hgd
  clear hown0 hgrow0
  go_wp2_with fail
  go_loopw [28] (fun i wr => SigRel b n g w2 i wr) (fun i _ => n - (intOf i).toNat)
  case atStart => exact ⟨0, List.replicate n 0, Nat.zero_le _, rfl, List.length_replicate, fun j hj => absurd hj (Nat.not_lt_zero j), hc0, hB0⟩
  case round =>
    clear hc0 hB0
    obtain ⟨k, T, hk, rfl, hT, hS, hcel, hB⟩ := hrel
    by_cases h : k < n
    · have k1 : (k : Int) < (n : Int) := by omega
      have k0 : (0 : Int) ≤ (k : Int) := by omega
      obtain ⟨x, hx⟩ : ∃ x, powB 2 (k + 1) = x := ⟨_, rfl⟩
      have HX := Lib.hid hx
      obtain ⟨y, hy⟩ : ∃ y, sigF b k = y := ⟨_, rfl⟩
      have HE : Hid (evalL b.reverse x = y) := by rw [← hx, ← hy]; rfl
      have hEv := fun W (hW : Below w2.heap.size w2 W) => evalP_any b.reverse x n2 A2 c2 W HN2 (hr2.keep hW) hc2 (by omega)
      rw [HE.out] at hEv
      have HEv := Lib.hid hEv
      have HS : Hid (∀ W, Cel W g 5 (T.set k y) → Below w2.heap.size w2 W → SigRel b n g w2 (.int .i64 ((k : Int) + 1)) W) := fun W h1 h2 =>
        ⟨k + 1, T.set k y, h, by go_num, by rw [List.length_set]; exact hT, fun j hj => by
          rw [co_set _ _ _ _ (by omega)]
          split
          · next e => rw [e, hy]
          · exact hS j (by omega), h1, h2⟩
      have hkT : k < T.length := by omega
      clear hEv hx hy hS
      go_wp2_with fail
      refine (place_any k x _ (by omega) HX).mono ?_
      rintro e w3 ⟨rfl, rfl⟩
      go_wp2_with fail
      refine (HEv.out _ hB).mono ?_
      rintro e w4 ⟨rfl, hb4⟩
      have hcel4 := hcel.later hb4
      have hB4 := below_step hB hb4
      have hc4 := hcel4.get k hkT
      have hf4 := hcel4.frozen k
      have HR := Lib.hid (HS.out _ (hcel4.set k y) (hB4.setCell (p := ⟨g, k, none⟩) hgl (.int .u8 (y.toNat : Int))))
      clear hcel hB hcel4 hB4 hb4
      go_wp2_with fail
      go_roundw
      case rel => exact HR.out
      case measure => simp [intOf] <;> omega
    · have ek : k = n := by omega
      subst ek
      have j1 : ¬ (k : Int) < (k : Int) := by omega
      have HT : Hid (T = signsL b k) := by
        rw [← signs_tab]
        refine co_ext (by rw [hT, signs_tab, signs_length]) (fun j hj => ?_)
        rw [hT] at hj
        rw [hS j hj, signs_tab, co_lt _ j (by rw [signs_length]; exact hj)]
        simp [signsL, sigF]
      have hBw := below_step hb2 hB
      have hrT := hcel.rd
      rw [HT.out] at hrT hT
      have HTL := Lib.hid hT
      clear hT hS hcel hB
      go_wp2_with fail
      go_ret2
      exact ⟨_, k, k, rfl, HTL, Nat.le_refl _, hrT, hBw⟩
theorem signsS_no (b : List UInt8) (len : Nat) (n : Int) (A : Option Addr) (c : Nat) (w : World) (HN : Hid (b.length = len)) (hr : Rd vB w A b) (hc : len ≤ c) (hl : len ≤ 100000) (h : Hid (errS len n ≠ 0)) :
    Calls Tryz.prog 133 #[.slice A len c, .int .i64 n] w (RetSE w [] (errS len n)) := by
  have hE := h.out
  unfold errS at hE ⊢
  by_cases h1 : n < 1 ∨ 64 < n
  · rw [if_pos h1]
    have HM := Lib.hid (maybe_no n w h1)
    clear hE h1 h
    go_enter Tryz.func133, Tryz.ntmps133
    go_wp2_with fail
    refine HM.out.mono ?_
    rintro e w1 ⟨rfl, rfl⟩
    go_wp2_with fail
    go_ret2
    exact ⟨none, 0, 0, rfl, Lib.hid rfl, Nat.le_refl _, Rd.nil, Below.refl _ _⟩
  · rw [if_neg h1] at hE ⊢
    obtain ⟨m, rfl⟩ : ∃ m : Nat, n = (m : Int) := ⟨n.toNat, by omega⟩
    have HM := Lib.hid (maybe_yes m w (by omega) (by omega))
    by_cases h2 : (len : Int) < (m : Int)
    · rw [if_pos h2]
      clear hE h1 h
      go_enter Tryz.func133, Tryz.ntmps133
      go_wp2_with fail
      refine HM.out.mono ?_
      rintro e w1 ⟨rfl, rfl⟩
      go_wp2_with fail
      go_ret2
      exact ⟨none, 0, 0, rfl, Lib.hid rfl, Nat.le_refl _, Rd.nil, Below.refl _ _⟩
    · rw [if_neg h2] at hE ⊢
      by_cases h4 : 255 < len
      · rw [if_pos h4]
        have j4 : (255 : Int) < (len : Int) := by omega
        clear hE h1 h
        go_enter Tryz.func133, Tryz.ntmps133
        go_wp2_with fail
        refine HM.out.mono ?_
        rintro e w1 ⟨rfl, rfl⟩
        go_wp2_with fail
        go_ret2
        exact ⟨none, 0, 0, rfl, Lib.hid rfl, Nat.le_refl _, Rd.nil, Below.refl _ _⟩
      · rw [if_neg h4] at hE
        exact absurd rfl hE
theorem all_zero_eq (n : Nat) : ∀ l : List UInt8, l.length = n → decide (l = List.replicate n 0) = l.all (· == 0) := fun l hl => by
  rw [Bool.eq_iff_iff, decide_eq_true_eq, List.all_eq_true]
  constructor
  · rintro rfl x hx
    rw [(List.mem_replicate.1 hx).2]
    rfl
  · intro h
    exact List.eq_replicate_iff.2 ⟨hl, fun x hx => by simpa using h x hx⟩
theorem fineS_any (b : List UInt8) (len : Nat) (n : Int) (A : Option Addr) (c : Nat) (w : World) (HN : Hid (b.length = len)) (hr : Rd vB w A b) (hc : len ≤ c) (hl : len ≤ 100000) :
    Calls Tryz.prog 137 #[.slice A len c, .int .i64 n] w fun e w' => e = .returned (.bool (fineS b n)) ∧ Below w.heap.size w w' := by
  by_cases h0 : errS len n = 0
  · obtain ⟨m, rfl, h1, h2, h3, h4⟩ := errS_cases len n h0
    have HF : Hid (fineS b (m : Int) = decide (signsL b m = List.replicate m 0)) := by
      unfold Hid fineS
      rw [HN.out, h0, all_zero_eq m _ (signs_length b m)]
      rfl
    have HM := Lib.hid (signsS_ok b len m A c w HN hr hc h1 h2 h3 h4)
    rw [HF.out]
    clear h0
    go_enter Tryz.func137, Tryz.ntmps137
    go_wp2_with fail
    refine HM.out.mono ?_
    rintro e w1 ⟨A1, n1, c1, rfl, HN1, hc1, hr1, hb1⟩
    obtain ⟨i0, hi, hz0, hz1, hz2⟩ := info_parts info_u8
    have hmk := run_makeSlice (P := Tryz.prog) (w := w1) 22 5 i0 (.int .u8 0) Tryz.underlying22 hi hz0 .i64 .i64 (m : Int) (m : Int) (by omega) (Int.le_refl _) (by rw [hz1]; omega) (by rw [hz2]; omega) (by omega)
    rw [hz1, Int.toNat_natCast, Nat.mul_one] at hmk
    have hZ : madeCells (Value.int .u8 0).cells m = ((List.replicate m (0 : UInt8)).map vB).toArray := by
      apply Array.toList_inj.1
      rw [show (Value.int .u8 0).cells = #[.int .u8 0] from rfl, toList_madeCells_one, zeros_map]
    rw [hZ] at hmk
    have hrz := Rd.new (f := vB) w1 (List.replicate m (0 : UInt8)) _ 5 rfl
    have hB1 := below_new (Below.refl _ w1) (.cells ((List.replicate m (0 : UInt8)).map vB).toArray 5)
    have hr1' := hr1.keep hB1
    have hBB := below_step hb1 hB1
    have HZL : Hid ((List.replicate m (0 : UInt8)).length = m) := List.length_replicate
    generalize hZe : List.replicate m (0 : UInt8) = Z at hmk hrz hB1 hr1' hBB HZL ⊢
    have HZE := Lib.hid hZe
    have HRZ := Lib.hid hrz
    have HR1 := Lib.hid hr1'
    have HBB := Lib.hid hBB
    clear hrz hr1' hBB hB1 hZ hZe
    go_wp2_with fail
    refine (equal_any (signsL b m) Z n1 m A1 _ c1 m _ HN1 HZL HR1.out HRZ.out).mono ?_
    rintro e w2 ⟨rfl, rfl⟩
    obtain ⟨r, hr0⟩ : ∃ r, decide (signsL b m = Z) = r := ⟨_, rfl⟩
    have HD := Lib.hid hr0
    rw [hr0]
    clear hr0
    go_wp2_with fail
    go_ret
    exact ⟨by rw [HZE.out, HD.out]; rfl, HBB.out⟩
  · have HM := Lib.hid (signsS_no b len n A c w HN hr hc hl (Lib.hid h0))
    have HF : Hid (fineS b n = false) := by
      unfold Hid fineS
      rw [HN.out, decide_eq_false h0]
      rfl
    rw [HF.out]
    generalize errS len n = k at HM h0
    have hk : (k == 0) = false := beq_eq_false_iff_ne.2 h0
    clear h0
    go_enter Tryz.func137, Tryz.ntmps137
    go_wp2_with fail
    refine HM.out.mono ?_
    rintro e w1 ⟨A1, n1, c1, rfl, HN1, hc1, hr1, hb1⟩
    go_wp2_with fail
    go_ret
    exact ⟨rfl, hb1⟩
end Go.Proofs.YteppocjgodmpdaaGreatDoor
