/-
  What the program's calls Plain, Add, Mul, Times, Slope of layer 8 answer, over the landed code. No conditions but those typed.
-/
import Derived.Test.YtankddeolpickaaPolyAdd
import Derived.Test.YtankddeolpickaaSlices
namespace Go.Proofs.Ytankddeolpickaa
set_option maxRecDepth 100000
open Go.RowKit
set_option linter.unusedSimpArgs false
set_option linter.unusedVariables false

/-- What hands back bytes in memory of its own. -/
def RetP (w : World) (l : List UInt8) (e : Ending) (w' : World) : Prop := ∃ v, e = .returned v ∧ w'.ownsRow w.heap.size 5 1 v l.length (l.map vB) ∧ Below w.heap.size w w'
theorem RetP.any {w w' : World} {l : List UInt8} {e : Ending} (h : RetP w l e w') : RetQ w l e w' := by
  obtain ⟨v, rfl, ho, hb⟩ := h
  exact RetQ.own rfl ho hb
theorem plainP_own (p : List UInt8) (n : Nat) (A : Option Addr) (c : Nat) (w : World) (HN : Hid (p.length = n)) (hr : Rd vB w A p) (hc : n ≤ c) (hn : n ≤ 100000) :
    Calls Try.prog 39 #[.slice A n c] w (RetP w (plainL p)) := by
  go_enter Try.func39, Try.ntmps39
  go_wp2_with fail
  refine (cutP_any p n A c _ HN hr hc hn).mono ?_
  rintro e w1 ⟨k, rfl, HK, hk, hb1⟩
  have e1 := HK.out
  subst e1
  go_wp2_with fail
  refine (clone_own (plainL p) A c w1 (hr.keep hb1).plain (by omega)).mono ?_
  rintro e w2 ⟨v, rfl, ho, hb2⟩
  have hsz := hb1.size
  go_wp2_with fail
  go_ret
  refine ⟨v, rfl, ?_, below_step hb1 hb2⟩
  exact ⟨ho.1, ho.2.imp id fun ⟨g, cap, cur, h1, h2, h3⟩ => ⟨g, cap, cur, h1, Nat.le_trans hsz h2, h3⟩⟩
theorem plainP_any (p : List UInt8) (n : Nat) (A : Option Addr) (c : Nat) (w : World) (HN : Hid (p.length = n)) (hr : Rd vB w A p) (hc : n ≤ c) (hn : n ≤ 100000) :
    Calls Try.prog 39 #[.slice A n c] w (RetQ w (plainL p)) :=
  (plainP_own p n A c w HN hr hc hn).mono fun _ _ h => h.any
theorem addP_any (p q : List UInt8) (n m : Nat) (A B : Option Addr) (c d : Nat) (w : World) (HN : Hid (p.length = n)) (HM : Hid (q.length = m)) (hp : Rd vB w A p) (hq : Rd vB w B q) (hc : n ≤ c) (hd : m ≤ d) (hn : n ≤ 50000) (hm : m ≤ 50000) :
    Calls Try.prog 28 #[.slice A n c, .slice B m d] w (RetQ w (plainL (addL p q))) := by
  obtain ⟨i0, hi, hz0, hz1, hz2⟩ := info_parts info_u8
  go_enter Try.func28, Try.ntmps28
  go_wp2_with fail
  refine (cutP_any p n A c _ HN hp hc (by omega)).mono ?_
  rintro e w1 ⟨k1, rfl, HK1, hk1, hb1⟩
  go_wp2_with fail
  refine (cutP_any q m B d _ HM (hq.keep hb1) hd (by omega)).mono ?_
  rintro e w2 ⟨k2, rfl, HK2, hk2, hb2⟩
  have hB := below_step hb1 hb2
  replace hp := (hp.keep hB).plain
  replace hq := (hq.keep hB).plain
  have hq2 := hq
  obtain ⟨M, hM⟩ : ∃ M : Nat, M = max k1 k2 := ⟨_, rfl⟩
  have q0 : (if (k1 : Int) < (k2 : Int) then (k2 : Int) else (k1 : Int)) = (M : Int) := by rw [hM]; split <;> omega
  have q1 : (if k1 < k2 then (k2 : Int) else (k1 : Int)) = (M : Int) := by rw [hM]; split <;> omega
  have hM1 : k1 ≤ M := by omega
  have hM2 : k2 ≤ M := by omega
  have hM3 : M ≤ 50000 := by omega
  clear hM
  have HP1 := Lib.hid (plain_is_take p)
  go_upto_region 3 with (at_make; refine wpList_make_full _ rfl _ _ 22 rfl w2.heap.size 5 i0 (.int .u8 0) 1 Try.underlying22 hi hz0 hz1 .i64 .i64 _ _ M rfl rfl rfl rfl (by rw [hz2]; omega) (by unfold maxLen; omega) (Nat.le_refl _) ?_; intro w0 hown0 hgrow0)
  rw [Nat.mul_one, show (Value.int .u8 0).cells = #[.int .u8 0] from rfl, toList_madeCells_one, zeros_map] at hown0
  obtain ⟨hc0, _, _⟩ := cel_some hown0 List.length_replicate
  have hB0 : Below w2.heap.size w2 w0 := (Below.refl _ _).grown hgrow0 (Nat.le_refl _) (by simp)
  have hB3 := below_step hB hB0
  replace hp := hp.keep hB0
  replace hq := hq.keep hB0
  have hAq := hq2.apart (Nat.le_refl _)
  generalize hgd : w2.heap.size = g at hc0 hAq ⊢
  clear hown0 hgrow0 q0 q1
  have hPM : (plainL p).length ≤ (List.replicate M (0 : UInt8)).length := by rw [List.length_replicate, HK1.out]; omega
  have e1 := HK1.out
  subst e1
  go_upto_region 4 with (refine wpList_copy_cel rfl (.tmp 16) (.tmp 17) 22 22 rfl 5 Try.underlying22 (by kernel_rfl) g 0 M M A (plainL p) c rfl rfl (List.replicate M 0) 5 hc0 hp hM1 (by omega) ?_; intro w3 hc3 ho3)
  obtain ⟨hT1, hT2⟩ := pad_is (plainL p) M hM1
  have HSum := Lib.hid (at_one (q := q) hT2 (plain_eqv p) (plain_eqv q))
  generalize (List.replicate M (0 : UInt8)).take 0 ++ plainL p ++ (List.replicate M 0).drop (0 + (plainL p).length) = T at hc3 hT1 HSum
  have hq3 := hq.only ho3 hAq
  have hA := addtimes_any T (plainL q) 1 g 0 M M k2 B d w3 HK2 hc3 hq3 hAq hM2 (Nat.le_refl _) (by omega) (by omega)
  have HLen : Hid ((atL T 0 (scaleL 1 (plainL q))).length = M) := by unfold Hid; rw [at_length _ _ _ (by unfold scaleL; rw [List.length_map, HK2.out]; omega), hT1]
  generalize atL T 0 (scaleL 1 (plainL q)) = S at hA HSum HLen
  have HA := Lib.hid hA
  have hb3 : Below w2.heap.size w0 w3 := ho3.below.mono (by omega)
  clear hA hT2 hc3 hq3 hc0 hPM
  go_wp2_with fail
  refine HA.out.mono ?_
  rintro e w4 ⟨⟨v4, rfl⟩, hc4, ho4⟩
  have hb4 : Below w2.heap.size w3 w4 := ho4.below.mono (by omega)
  have hB4 : Below w.heap.size w w4 := hB.trans (((hB0.trans hb3).trans hb4).mono hB.size)
  go_wp2_with fail
  refine (cutP_any S M (some ⟨g, 0, none⟩) M _ HLen hc4.rd (Nat.le_refl _) (by omega)).mono ?_
  rintro e w5 ⟨k5, rfl, HK5, hk5, hb5⟩
  have hr5 := (hc4.rd.plain).keep hb5
  rw [HSum.out] at hr5 HK5
  go_wp2_with fail
  go_ret
  exact ⟨_, k5, M, rfl, HK5, hk5, hr5, below_step hB4 hb5⟩
def MulRel (P Q : List UInt8) (N g : Nat) (w : World) (i : Value) (wr : World) : Prop :=
  ∃ (k : Nat) (T : List UInt8), k ≤ P.length ∧ i = .int .i64 (k : Int) ∧ T.length = N ∧ Eqv T (mulL (P.take k) Q) ∧ CelN wr g 5 N T ∧ Only g w wr
set_option maxHeartbeats 2000000 in
theorem mulP_own (p q : List UInt8) (n m : Nat) (A B : Option Addr) (c d : Nat) (w : World) (HN : Hid (p.length = n)) (HM : Hid (q.length = m)) (hp : Rd vB w A p) (hq : Rd vB w B q) (hc : n ≤ c) (hd : m ≤ d) (hn : n ≤ 50000) (hm : m ≤ 50000) :
    Calls Try.prog 29 #[.slice A n c, .slice B m d] w (RetP w (plainL (mulL p q))) := by
  obtain ⟨i0, hi, hz0, hz1, hz2⟩ := info_parts info_u8
  go_enter Try.func29, Try.ntmps29
  go_wp2_with fail
  refine (cutP_any p n A c _ HN hp hc (by omega)).mono ?_
  rintro e w1 ⟨k1, rfl, HK1, hk1, hb1⟩
  go_wp2_with fail
  refine (cutP_any q m B d _ HM (hq.keep hb1) hd (by omega)).mono ?_
  rintro e w2 ⟨k2, rfl, HK2, hk2, hb2⟩
  have hB := below_step hb1 hb2
  replace hp := (hp.keep hB).plain
  replace hq := (hq.keep hB).plain
  by_cases h1 : k1 = 0
  · subst h1
    have HP : Hid (plainL (mulL p q) = []) := by
      have h3 : Eqv (mulL p q) [] := by
        refine (mul_congr (plain_eqv p).symm (Eqv.refl q)).trans ?_
        rw [List.eq_nil_of_length_eq_zero HK1.out]
        exact Eqv.refl _
      exact plain_nil h3.symm
    go_wp2_with fail
    go_ret
    rw [HP.out]
    exact ⟨_, rfl, World.ownsRow_nil _ _ _ _, hB⟩
  · by_cases h2 : k2 = 0
    · subst h2
      have HP : Hid (plainL (mulL p q) = []) := by
        have h3 : Eqv (mulL p q) [] := by
          refine (mul_congr (Eqv.refl p) (plain_eqv q).symm).trans ?_
          rw [List.eq_nil_of_length_eq_zero HK2.out]
          exact mulL_nil p
        exact plain_nil h3.symm
      have h1' : ((k1 : Int) == 0) = false := beq_eq_false_iff_ne.2 (by omega)
      go_wp2_with fail
      go_ret
      rw [HP.out]
      exact ⟨_, rfl, World.ownsRow_nil _ _ _ _, hB⟩
    · have h1' : ((k1 : Int) == 0) = false := beq_eq_false_iff_ne.2 (by omega)
      have h2' : ((k2 : Int) == 0) = false := beq_eq_false_iff_ne.2 (by omega)
      obtain ⟨M, hM⟩ : ∃ M : Nat, M + 1 = k1 + k2 := ⟨k1 + k2 - 1, by omega⟩
      have m0 : (k1 : Int) + (k2 : Int) - 1 = (M : Int) := by omega
      have m1 : M ≤ 100000 := by omega
      have HMM := Lib.hid hM
      have HKs : Hid (k1 ≠ 0 ∧ k2 ≠ 0) := ⟨h1, h2⟩
      clear hM h1 h2
      go_upto_region 5 with (at_make; refine wpList_make_full _ rfl _ _ 22 rfl w2.heap.size 5 i0 (.int .u8 0) 1 Try.underlying22 hi hz0 hz1 .i64 .i64 _ _ M rfl rfl rfl rfl (by rw [hz2]; omega) (by unfold maxLen; omega) (Nat.le_refl _) ?_; intro w0 hown0 hgrow0)
      rw [Nat.mul_one, show (Value.int .u8 0).cells = #[.int .u8 0] from rfl, toList_madeCells_one, zeros_map] at hown0
      obtain ⟨hc0, _, _⟩ := celN_some hown0 List.length_replicate
      have hB0 : Below w2.heap.size w2 w0 := (Below.refl _ _).grown hgrow0 (Nat.le_refl _) (by simp)
      have hgw : w.heap.size ≤ w2.heap.size := hB.size
      have hAp := hp.apart (Nat.le_refl _)
      have hAq := hq.apart (Nat.le_refl _)
      replace hp := hp.keep hB0
      replace hq := hq.keep hB0
      generalize hgd : w2.heap.size = g at hc0 hAp hAq hgw ⊢
      have hB3 : Below w.heap.size w w0 := below_step hB hB0
      clear hown0 hgrow0 hB0 hB hgd hb1 hb2
      have HE : Hid (∀ T : List UInt8, T.length = M → Eqv T (mulL (plainL p) (plainL q)) → T = plainL (mulL p q)) := fun T hT hE =>
        mul_plain_is (by intro e; have := HK1.out; rw [e] at this; exact HKs.out.1 this.symm) (by intro e; have := HK2.out; rw [e] at this; exact HKs.out.2 this.symm) (by rw [hT, HK1.out, HK2.out]; have := HMM.out; omega) hE
      generalize plainL p = P at HK1 hp hAp HE
      generalize plainL q = Q at HK2 hq hAq HE
      go_wp2_with fail
      go_loopw [29] (fun i wr => MulRel P Q M g w0 i wr) (fun i _ => k1 - (intOf i).toNat)
      case atStart => exact ⟨0, List.replicate M 0, Nat.zero_le _, rfl, List.length_replicate, fun k => by rw [List.take_zero, mulL, co_nil]; exact co_pad [] M k, hc0, Only.refl _ _⟩
      case round =>
        clear hc0
        obtain ⟨k, T, hk, rfl, hT, hE, hc, ho⟩ := hrel
        by_cases h : k < k1
        · have j1 : (k : Int) < (k1 : Int) := by omega
          have j0 : (0 : Int) ≤ (k : Int) := by omega
          have hkP : k < P.length := by rw [HK1.out]; exact h
          obtain ⟨b, ob, rfl, hb, hcell⟩ := (hp.only ho hAp).at hkP
          have hc1 := hcell k hkP
          unfold vB at hc1
          have hkM : k2 ≤ M - k := by have := HMM.out; omega
          have hkM2 : k < M := by have := HMM.out; have := HKs.out; omega
          have hcut := fun W => run_cut_at (P := Try.prog) 22 5 Try.underlying22 size_uint8 g 0 M M k (by omega) (Nat.le_refl _) hkM2 W
          simp only [Nat.zero_add] at hcut
          have hA := addtimes_cap T Q P[k] M g k (M - k) (M - k) k2 B d wr HK2 hc (hq.only ho hAq) hAq hkM (Nat.le_refl _) (by omega) (by omega)
          have HL : Hid ((atL T k (scaleL P[k] Q)).length = M) := by unfold Hid; rw [at_length _ _ _ (by unfold scaleL; rw [List.length_map, HK2.out]; omega), hT]
          have HR : Hid (Eqv (atL T k (scaleL P[k] Q)) (mulL (P.take (k + 1)) Q)) := mul_round hE hkP
          generalize atL T k (scaleL P[k] Q) = T' at hA HL HR
          generalize P[k] = x at hA hc1
          have HA := Lib.hid hA
          have HK := Lib.hid h
          have HO := Lib.hid ho
          clear hA hE hc ho hcell hkP hT hkM hkM2 h
          go_wp2_with fail
          refine HA.out.mono ?_
          rintro e w3 ⟨⟨v3, rfl⟩, hc3, ho3⟩
          go_wp2_with fail
          go_roundw
          case rel => exact ⟨k + 1, T', by rw [HK1.out]; exact HK.out, by go_num, HL.out, HR.out, hc3, HO.out.trans ho3⟩
          case measure => have := HK.out; simp [intOf] <;> omega
        · have hkk : k = P.length := by rw [HK1.out] at hk ⊢; omega
          have j1 : ¬ (k : Int) < (k1 : Int) := by omega
          have HRR : Hid (T = plainL (mulL p q)) := by
            refine HE.out T hT ?_
            rw [hkk, List.take_length] at hE
            exact hE
          have hbw : Below w.heap.size w0 wr := ho.below.mono hgw
          have hown := hc.own (base := w.heap.size) hgw (by omega) (by unfold maxLen; omega)
          rw [hT] at hown
          have HOW := Lib.hid hown
          clear hown hc ho hE hkk
          go_wp2_with fail
          go_ret
          exact ⟨_, rfl, by rw [← HRR.out, hT]; exact HOW.out, hB3.trans hbw⟩
theorem mulP_any (p q : List UInt8) (n m : Nat) (A B : Option Addr) (c d : Nat) (w : World) (HN : Hid (p.length = n)) (HM : Hid (q.length = m)) (hp : Rd vB w A p) (hq : Rd vB w B q) (hc : n ≤ c) (hd : m ≤ d) (hn : n ≤ 10000) (hm : m ≤ 10000) :
    Calls Try.prog 29 #[.slice A n c, .slice B m d] w (RetQ w (plainL (mulL p q))) :=
  (mulP_own p q n m A B c d w HN HM hp hq hc hd (by omega) (by omega)).mono fun _ _ h => h.any
def SlopeRel (S : List UInt8) (D g : Nat) (w : World) (i : Value) (wr : World) : Prop :=
  ∃ (k : Nat) (T : List UInt8), k ≤ D ∧ i = .int .i64 (k : Int) ∧ T.length = D ∧ (∀ j, j < k → co T j = co S j) ∧ Cel wr g 5 T ∧ Only g w wr
theorem slope_val (p : List UInt8) (k : Nat) : co (slopeL p) k = mulB (co p (k + 1)) (UInt8.ofNat ((k + 1) % 2)) := by
  rw [co_slope]
  by_cases h : k % 2 = 0
  · rw [if_pos h, show (k + 1) % 2 = 1 by omega]
    exact (mul_one _).symm
  · rw [if_neg h, show (k + 1) % 2 = 0 by omega]
    exact (mul_zero _).symm
set_option maxHeartbeats 2000000 in
theorem slopeP_any (p : List UInt8) (n : Nat) (A : Option Addr) (c : Nat) (w : World) (HN : Hid (p.length = n)) (hp : Rd vB w A p) (hc : n ≤ c) (hn : n ≤ 50000) :
    Calls Try.prog 32 #[.slice A n c] w (RetQ w (plainL (slopeL p))) := by
  obtain ⟨i0, hi, hz0, hz1, hz2⟩ := info_parts info_u8
  have hdl : (plainL p).length ≤ n := by rw [← HN.out]; exact plain_len p
  have hdeg := degP_any p n A c w HN hp hc (by omega)
  obtain ⟨D, hD⟩ : ∃ D, D = (plainL p).length - 1 := ⟨_, rfl⟩
  obtain ⟨L, hL⟩ : ∃ L, (plainL p).length = L := ⟨_, rfl⟩
  rw [hL] at hdeg hD hdl
  have q0 : (if (L : Int) - 1 < 0 then (0 : Int) else (L : Int) - 1) = (D : Int) := by rw [hD]; split <;> omega
  have q1 : (if L = 0 then (0 : Int) else (L : Int) - 1) = (D : Int) := by rw [hD]; split <;> omega
  have q2 : (if L < 1 then (0 : Int) else (L : Int) - 1) = (D : Int) := by rw [hD]; split <;> omega
  have hDn : D + 1 ≤ n ∨ D = 0 := by omega
  have HD := Lib.hid hdeg
  have HDL := Lib.hid hD
  have HLL := Lib.hid hL
  have hD1 : D ≤ 50000 := by omega
  clear hdeg hD hL
  go_enter Try.func32, Try.ntmps32
  go_wp2_with fail
  refine HD.out.mono ?_
  rintro e w1 ⟨rfl, hb1⟩
  go_upto_region 2 with (at_make; refine wpList_make_full _ rfl _ _ 22 rfl w1.heap.size 5 i0 (.int .u8 0) 1 Try.underlying22 hi hz0 hz1 .i64 .i64 _ _ D rfl rfl rfl rfl (by rw [hz2]; omega) (by unfold maxLen; omega) (Nat.le_refl _) ?_; intro w0 hown0 hgrow0)
  rw [Nat.mul_one, show (Value.int .u8 0).cells = #[.int .u8 0] from rfl, toList_madeCells_one, zeros_map] at hown0
  obtain ⟨hc0, _, _⟩ := cel_some hown0 List.length_replicate
  have hB0 : Below w1.heap.size w1 w0 := (Below.refl _ _).grown hgrow0 (Nat.le_refl _) (by simp)
  have hgw : w.heap.size ≤ w1.heap.size := hb1.size
  replace hp := hp.keep hb1
  have hAp := hp.apart (Nat.le_refl _)
  replace hp := hp.keep hB0
  generalize hgd : w1.heap.size = g at hc0 hAp hgw ⊢
  have hB3 : Below w.heap.size w w0 := below_step hb1 hB0
  clear hown0 hgrow0 hB0 hgd hb1 q0 q1 q2
  have HS : Hid (∀ k, co (slopeL p) k = mulB (co p (k + 1)) (UInt8.ofNat ((k + 1) % 2))) := slope_val p
  have HZ : Hid (∀ k, D ≤ k → co (slopeL p) k = 0) := fun k hk => by
    rw [HS.out, plain_ge p (k + 1) (by rw [HLL.out]; have := HDL.out; omega), zero_mul]
  have HPE : Hid (∀ T : List UInt8, Eqv T (slopeL p) → plainL T = plainL (slopeL p)) := fun T h => plain_congr h
  generalize hSp : slopeL p = S at HS HZ HPE
  have HSP := Lib.hid hSp
  clear hSp
  go_wp2_with fail
  go_loopw [11] (fun i wr => SlopeRel S D g w0 i wr) (fun i _ => D - (intOf i).toNat)
  case atStart => exact ⟨0, List.replicate D 0, Nat.zero_le _, rfl, List.length_replicate, fun j hj => absurd hj (Nat.not_lt_zero _), hc0, Only.refl _ _⟩
  case round =>
    clear hc0
    obtain ⟨k, T, hk, rfl, hT, hE, hcc, ho⟩ := hrel
    by_cases h : k < D
    · have j1 : (k : Int) < (D : Int) := by omega
      have j0 : (0 : Int) ≤ (k : Int) := by omega
      have j2 : (k : Int) + 1 < (n : Int) := by omega
      have j3 : (0 : Int) ≤ (k : Int) + 1 := by omega
      have hkp : k + 1 < p.length := by rw [HN.out]; omega
      obtain ⟨b, ob, rfl, hb, hcell⟩ := (hp.only ho hAp).at hkp
      have hc1 := hcell (k + 1) hkp
      unfold vB at hc1
      have hv := HS.out k
      rw [co_lt p (k + 1) hkp] at hv
      generalize p[k + 1] = x at hc1 hv
      obtain ⟨r, hr⟩ : ∃ r, r = (k + 1) % 2 := ⟨_, rfl⟩
      rw [← hr] at hv
      have hr2 : ((UInt8.ofNat r).toNat : Int) = (r : Int) := by rw [UInt8.toNat_ofNat']; omega
      have hM : ∀ W, Calls Try.prog 33 #[.int .u8 (x.toNat : Int), .int .u8 (r : Int)] W fun e w'' => e = .returned (.int .u8 ((co S k).toNat : Int)) ∧ W = w'' := fun W => by rw [hv, ← hr2]; exact gfmul_any x _ W
      have hfr := hcc.frozen k
      have hco := hcc.get k (by omega)
      have hset := hcc.set k (co S k)
      have hE' : ∀ j, j < k + 1 → co (T.set k (co S k)) j = co S j := fun j hj => by
        rw [co_set _ _ _ _ (by omega)]
        split
        · next e => rw [e]
        · exact hE j (by omega)
      have m1 : ((k : Int) + 1) % 2 = (r : Int) := by omega
      have m2 : ((k : Int) + 1).tmod 2 = (r : Int) := by rw [Int.tmod_eq_emod_of_nonneg (by omega)]; exact m1
      have m3 : (r : Int) % 256 = (r : Int) := by omega
      have HREL : Hid (SlopeRel S D g w0 (.int .i64 ((k : Int) + 1)) (wr.setCell ⟨g, k, none⟩ (.int .u8 ((co S k).toNat : Int)))) := ⟨k + 1, T.set k (co S k), h, by go_num, by rw [List.length_set]; exact hT, hE', hset, ho.setCell _ _⟩
      generalize co S k = z at hM hset HREL
      have HMu := Lib.hid hM
      have HT2 : True → ((k : Int) + 1).tmod 2 = (r : Int) := fun _ => m2
      have HT3 : True → ((k : Int) + 1) % 2 = (r : Int) := fun _ => m1
      have hr3 : r < 2 := by omega
      have HRr := Lib.hid hr
      clear hM hv hset hcc ho hE hE' hr hr2 m2 m1 hcell hkp m3
      go_wp2_with fail
      refine (HMu.out _).mono ?_
      rintro e w3 ⟨rfl, rfl⟩
      go_wp2_with fail
      go_roundw
      case rel => exact HREL.out
      case measure => simp [intOf] <;> omega
    · have hkD : k = D := by omega
      subst hkD
      have j1 : ¬ (k : Int) < (k : Int) := by omega
      have HT : Hid (plainL T = plainL S) := HPE.out T fun j => by
        rcases Nat.lt_or_ge j k with hj | hj
        · exact hE j hj
        · rw [HZ.out j hj, co_ge T j (by omega)]
      have hbw : Below w.heap.size w wr := hB3.trans (ho.below.mono hgw)
      have hrT := hcc.rd
      have HTl := Lib.hid hT
      clear hcc ho hE hT hB3
      go_wp2_with fail
      refine (cutP_any T k (some ⟨g, 0, none⟩) k _ HTl hrT (Nat.le_refl _) (by omega)).mono ?_
      rintro e w4 ⟨k4, rfl, HK4, hk4, hb4⟩
      have hr4 := (hrT.plain).keep hb4
      rw [HT.out, ← HSP.out] at hr4 HK4
      go_wp2_with fail
      go_ret
      exact ⟨_, k4, k, rfl, HK4, hk4, hr4, below_step hbw hb4⟩
end Go.Proofs.Ytankddeolpickaa
