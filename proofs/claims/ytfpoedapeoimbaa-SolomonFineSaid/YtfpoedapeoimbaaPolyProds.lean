/-
  What the program's calls Plain, Add, Mul, Times, Slope of layer 8 answer, over the landed code. No conditions but those typed.
-/
import Derived.Test.YtfpoedapeoimbaaPolyAdd
import Derived.Test.YtfpoedapeoimbaaSlices
namespace Go.Proofs.Ytfpoedapeoimbaa
set_option maxRecDepth 100000
open Go.RowKit
set_option linter.unusedSimpArgs false
set_option linter.unusedVariables false

/-- What hands back bytes in memory of its own. -/
def RetP (w : World) (l : List UInt8) (e : Ending) (w' : World) : Prop := ∃ v, e = .returned v ∧ w'.ownsRow w.heap.size 5 1 v l.length (l.map vB) ∧ Below w.heap.size w w'
theorem RetP.any {w w' : World} {l : List UInt8} {e : Ending} (h : RetP w l e w') : RetQ w l e w' := by
  obtain ⟨v, rfl, ho, hb⟩ := h
  exact RetQ.own rfl ho hb
theorem plainP_own (p : List UInt8) (n : Nat) (A : Option Addr) (c : Nat) (w : World) (HN : Hid (p.length = n)) (hr : Rd vB w A p) (hc : n ≤ c) (hn : n ≤ 100000) :
    Calls Try.prog 33 #[.slice A n c] w (RetP w (plainL p)) := by
  go_enter Try.func33, Try.ntmps33
  go_wp2_with fail
  refine (cutP_any p n A c _ HN hr hc hn).mono ?_
  rintro e w1 ⟨k, rfl, HK, hk, hb1⟩
  have e1 := HK.out
  subst e1
  go_wp2_with fail
  refine (clone_own (plainL p) A c w1 (hr.keep hb1).plain (by omega)).mono ?_
  rintro e w2 ⟨v, rfl, ho, hb2⟩
  have hsz := hb1.size
  go_wp2_with fail
  go_ret
  refine ⟨v, rfl, ?_, below_step hb1 hb2⟩
  exact ⟨ho.1, ho.2.imp id fun ⟨g, cap, cur, h1, h2, h3⟩ => ⟨g, cap, cur, h1, Nat.le_trans hsz h2, h3⟩⟩
theorem plainP_any (p : List UInt8) (n : Nat) (A : Option Addr) (c : Nat) (w : World) (HN : Hid (p.length = n)) (hr : Rd vB w A p) (hc : n ≤ c) (hn : n ≤ 100000) :
    Calls Try.prog 33 #[.slice A n c] w (RetQ w (plainL p)) :=
  (plainP_own p n A c w HN hr hc hn).mono fun _ _ h => h.any
def MulRel (P Q : List UInt8) (N g : Nat) (w : World) (i : Value) (wr : World) : Prop :=
  ∃ (k : Nat) (T : List UInt8), k ≤ P.length ∧ i = .int .i64 (k : Int) ∧ T.length = N ∧ Eqv T (mulL (P.take k) Q) ∧ CelN wr g 5 N T ∧ Only g w wr
set_option maxHeartbeats 2000000 in
theorem mulP_own (p q : List UInt8) (n m : Nat) (A B : Option Addr) (c d : Nat) (w : World) (HN : Hid (p.length = n)) (HM : Hid (q.length = m)) (hp : Rd vB w A p) (hq : Rd vB w B q) (hc : n ≤ c) (hd : m ≤ d) (hn : n ≤ 50000) (hm : m ≤ 50000) :
    Calls Try.prog 18 #[.slice A n c, .slice B m d] w (RetP w (plainL (mulL p q))) := by
  obtain ⟨i0, hi, hz0, hz1, hz2⟩ := info_parts info_u8
  go_enter Try.func18, Try.ntmps18
  go_wp2_with fail
  refine (cutP_any p n A c _ HN hp hc (by omega)).mono ?_
  rintro e w1 ⟨k1, rfl, HK1, hk1, hb1⟩
  go_wp2_with fail
  refine (cutP_any q m B d _ HM (hq.keep hb1) hd (by omega)).mono ?_
  rintro e w2 ⟨k2, rfl, HK2, hk2, hb2⟩
  have hB := below_step hb1 hb2
  replace hp := (hp.keep hB).plain
  replace hq := (hq.keep hB).plain
  by_cases h1 : k1 = 0
  · subst h1
    have HP : Hid (plainL (mulL p q) = []) := by
      have h3 : Eqv (mulL p q) [] := by
        refine (mul_congr (plain_eqv p).symm (Eqv.refl q)).trans ?_
        rw [List.eq_nil_of_length_eq_zero HK1.out]
        exact Eqv.refl _
      exact plain_nil h3.symm
    go_wp2_with fail
    go_ret
    rw [HP.out]
    exact ⟨_, rfl, World.ownsRow_nil _ _ _ _, hB⟩
  · by_cases h2 : k2 = 0
    · subst h2
      have HP : Hid (plainL (mulL p q) = []) := by
        have h3 : Eqv (mulL p q) [] := by
          refine (mul_congr (Eqv.refl p) (plain_eqv q).symm).trans ?_
          rw [List.eq_nil_of_length_eq_zero HK2.out]
          exact mulL_nil p
        exact plain_nil h3.symm
      have h1' : ((k1 : Int) == 0) = false := beq_eq_false_iff_ne.2 (by omega)
      go_wp2_with fail
      go_ret
      rw [HP.out]
      exact ⟨_, rfl, World.ownsRow_nil _ _ _ _, hB⟩
    · have h1' : ((k1 : Int) == 0) = false := beq_eq_false_iff_ne.2 (by omega)
      have h2' : ((k2 : Int) == 0) = false := beq_eq_false_iff_ne.2 (by omega)
      obtain ⟨M, hM⟩ : ∃ M : Nat, M + 1 = k1 + k2 := ⟨k1 + k2 - 1, by omega⟩
      have m0 : (k1 : Int) + (k2 : Int) - 1 = (M : Int) := by omega
      have m1 : M ≤ 100000 := by omega
      have HMM := Lib.hid hM
      have HKs : Hid (k1 ≠ 0 ∧ k2 ≠ 0) := ⟨h1, h2⟩
      clear hM h1 h2
      go_upto_region 5 with (at_make; refine wpList_make_full _ rfl _ _ 22 rfl w2.heap.size 5 i0 (.int .u8 0) 1 Try.underlying22 hi hz0 hz1 .i64 .i64 _ _ M rfl rfl rfl rfl (by rw [hz2]; omega) (by unfold maxLen; omega) (Nat.le_refl _) ?_; intro w0 hown0 hgrow0)
      rw [Nat.mul_one, show (Value.int .u8 0).cells = #[.int .u8 0] from rfl, toList_madeCells_one, zeros_map] at hown0
      obtain ⟨hc0, _, _⟩ := celN_some hown0 List.length_replicate
      have hB0 : Below w2.heap.size w2 w0 := (Below.refl _ _).grown hgrow0 (Nat.le_refl _) (by simp)
      have hgw : w.heap.size ≤ w2.heap.size := hB.size
      have hAp := hp.apart (Nat.le_refl _)
      have hAq := hq.apart (Nat.le_refl _)
      replace hp := hp.keep hB0
      replace hq := hq.keep hB0
      generalize hgd : w2.heap.size = g at hc0 hAp hAq hgw ⊢
      have hB3 : Below w.heap.size w w0 := below_step hB hB0
      clear hown0 hgrow0 hB0 hB hgd hb1 hb2
      have HE : Hid (∀ T : List UInt8, T.length = M → Eqv T (mulL (plainL p) (plainL q)) → T = plainL (mulL p q)) := fun T hT hE =>
        mul_plain_is (by intro e; have := HK1.out; rw [e] at this; exact HKs.out.1 this.symm) (by intro e; have := HK2.out; rw [e] at this; exact HKs.out.2 this.symm) (by rw [hT, HK1.out, HK2.out]; have := HMM.out; omega) hE
      generalize plainL p = P at HK1 hp hAp HE
      generalize plainL q = Q at HK2 hq hAq HE
      go_wp2_with fail
      go_loopw [29] (fun i wr => MulRel P Q M g w0 i wr) (fun i _ => k1 - (intOf i).toNat)
      case atStart => exact ⟨0, List.replicate M 0, Nat.zero_le _, rfl, List.length_replicate, fun k => by rw [List.take_zero, mulL, co_nil]; exact co_pad [] M k, hc0, Only.refl _ _⟩
      case round =>
        clear hc0
        obtain ⟨k, T, hk, rfl, hT, hE, hc, ho⟩ := hrel
        by_cases h : k < k1
        · have j1 : (k : Int) < (k1 : Int) := by omega
          have j0 : (0 : Int) ≤ (k : Int) := by omega
          have hkP : k < P.length := by rw [HK1.out]; exact h
          obtain ⟨b, ob, rfl, hb, hcell⟩ := (hp.only ho hAp).at hkP
          have hc1 := hcell k hkP
          unfold vB at hc1
          have hkM : k2 ≤ M - k := by have := HMM.out; omega
          have hkM2 : k < M := by have := HMM.out; have := HKs.out; omega
          have hcut := fun W => run_cut_at (P := Try.prog) 22 5 Try.underlying22 size_uint8 g 0 M M k (by omega) (Nat.le_refl _) hkM2 W
          simp only [Nat.zero_add] at hcut
          have hA := addtimes_cap T Q P[k] M g k (M - k) (M - k) k2 B d wr HK2 hc (hq.only ho hAq) hAq hkM (Nat.le_refl _) (by omega) (by omega)
          have HL : Hid ((atL T k (scaleL P[k] Q)).length = M) := by unfold Hid; rw [at_length _ _ _ (by unfold scaleL; rw [List.length_map, HK2.out]; omega), hT]
          have HR : Hid (Eqv (atL T k (scaleL P[k] Q)) (mulL (P.take (k + 1)) Q)) := mul_round hE hkP
          generalize atL T k (scaleL P[k] Q) = T' at hA HL HR
          generalize P[k] = x at hA hc1
          have HA := Lib.hid hA
          have HK := Lib.hid h
          have HO := Lib.hid ho
          clear hA hE hc ho hcell hkP hT hkM hkM2 h
          go_wp2_with fail
          refine HA.out.mono ?_
          rintro e w3 ⟨⟨v3, rfl⟩, hc3, ho3⟩
          go_wp2_with fail
          go_roundw
          case rel => exact ⟨k + 1, T', by rw [HK1.out]; exact HK.out, by go_num, HL.out, HR.out, hc3, HO.out.trans ho3⟩
          case measure => have := HK.out; simp [intOf] <;> omega
        · have hkk : k = P.length := by rw [HK1.out] at hk ⊢; omega
          have j1 : ¬ (k : Int) < (k1 : Int) := by omega
          have HRR : Hid (T = plainL (mulL p q)) := by
            refine HE.out T hT ?_
            rw [hkk, List.take_length] at hE
            exact hE
          have hbw : Below w.heap.size w0 wr := ho.below.mono hgw
          have hown := hc.own (base := w.heap.size) hgw (by omega) (by unfold maxLen; omega)
          rw [hT] at hown
          have HOW := Lib.hid hown
          clear hown hc ho hE hkk
          go_wp2_with fail
          go_ret
          exact ⟨_, rfl, by rw [← HRR.out, hT]; exact HOW.out, hB3.trans hbw⟩
theorem mulP_any (p q : List UInt8) (n m : Nat) (A B : Option Addr) (c d : Nat) (w : World) (HN : Hid (p.length = n)) (HM : Hid (q.length = m)) (hp : Rd vB w A p) (hq : Rd vB w B q) (hc : n ≤ c) (hd : m ≤ d) (hn : n ≤ 10000) (hm : m ≤ 10000) :
    Calls Try.prog 18 #[.slice A n c, .slice B m d] w (RetQ w (plainL (mulL p q))) :=
  (mulP_own p q n m A B c d w HN HM hp hq hc hd (by omega) (by omega)).mono fun _ _ h => h.any
/-- .. in memory of the call's own: it may be appended to. -/
theorem timesP_own (a : UInt8) (p : List UInt8) (n : Nat) (A : Option Addr) (c : Nat) (w : World) (HN : Hid (p.length = n)) (hr : Rd vB w A p) (hc : n ≤ c) (hn : n ≤ 50000) :
    Calls Try.prog 16 #[.slice A n c, .int .u8 (a.toNat : Int)] w fun e w' => ∃ v, e = .returned v ∧ w'.ownsRow w.heap.size 5 1 v (plainL (scaleL a p)).length ((plainL (scaleL a p)).map vB) ∧ Below w.heap.size w w' := by
  have HP : Hid (plainL (mulL [a] p) = plainL (scaleL a p)) := by
    refine plain_congr ?_
    rw [mulL, mulL]
    exact (add_congr (Eqv.refl _) zero_cons).trans (addL_nil _)
  have h1r : Rd vB (w.alloc (.cells #[.int .u8 (a.toNat : Int)] 5)) (some ⟨w.heap.size, 0, none⟩) [a] := Rd.new w [a] _ _ rfl
  have hbn := below_new (Below.refl _ w) (.cells #[.int .u8 (a.toNat : Int)] 5)
  have hM := mulP_own [a] p 1 n (some ⟨w.heap.size, 0, none⟩) A 1 c _ (Lib.hid rfl) HN h1r (hr.keep hbn) (Nat.le_refl _) hc (by omega) hn
  rw [HP.out] at hM
  have HM := Lib.hid hM
  have hsz : w.heap.size ≤ (w.alloc (.cells #[.int .u8 (a.toNat : Int)] 5)).heap.size := by simp
  clear hM h1r
  go_enter Try.func16, Try.ntmps16
  go_wp2_with fail
  refine HM.out.mono ?_
  rintro e w1 ⟨v, rfl, ho, hb⟩
  go_wp2_with fail
  go_ret
  refine ⟨v, rfl, ?_, below_step hbn hb⟩
  exact ⟨ho.1, ho.2.imp id fun ⟨g, cap, cur, h1, h2, h3⟩ => ⟨g, cap, cur, h1, Nat.le_trans hsz h2, h3⟩⟩
theorem timesP_any (a : UInt8) (p : List UInt8) (n : Nat) (A : Option Addr) (c : Nat) (w : World) (HN : Hid (p.length = n)) (hr : Rd vB w A p) (hc : n ≤ c) (hn : n ≤ 50000) :
    Calls Try.prog 16 #[.slice A n c, .int .u8 (a.toNat : Int)] w (RetQ w (plainL (scaleL a p))) :=
  (timesP_own a p n A c w HN hr hc hn).mono fun _ _ h => RetP.any h
def SlopeRel (S : List UInt8) (D g : Nat) (w : World) (i : Value) (wr : World) : Prop :=
  ∃ (k : Nat) (T : List UInt8), k ≤ D ∧ i = .int .i64 (k : Int) ∧ T.length = D ∧ (∀ j, j < k → co T j = co S j) ∧ Cel wr g 5 T ∧ Only g w wr
theorem slope_val (p : List UInt8) (k : Nat) : co (slopeL p) k = mulB (co p (k + 1)) (UInt8.ofNat ((k + 1) % 2)) := by
  rw [co_slope]
  by_cases h : k % 2 = 0
  · rw [if_pos h, show (k + 1) % 2 = 1 by omega]
    exact (mul_one _).symm
  · rw [if_neg h, show (k + 1) % 2 = 0 by omega]
    exact (mul_zero _).symm
end Go.Proofs.Ytfpoedapeoimbaa
