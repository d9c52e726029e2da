/-
  The walk of the law RecordTurned: by a Symbolic engine what was sealed, and then turned at one place, is opened just if it is still the sealed bytes of an activation that was sealed by this key; never by another key by which nothing was. Conditions: the package's table holds sixty-four words (for tags); errors.errorType holds the handle of the type error (EtC).
-/
import Derived.Test.YtknjpmoimjhddaaDoorQ6
import Derived.ProofKit
import Derived.OpenShut
import Derived.Deep.Slices
import Derived.Deep.Strs
import Derived.Test.YtknjpmoimjhddaaDoorRows
import Derived.HandedShaped
import Derived.LaidLaws
import Derived.LaidHandle
namespace Go.Proofs.YtknjpmoimjhddaaDoor
set_option maxRecDepth 100000
open Go.RowKit
set_option linter.unusedSimpArgs false
set_option linter.unusedVariables false

def usedL (cs : List Tm) (key : List UInt8) : Bool := cs.any (fun x => decide (x.1 = key))
theorem used_next (cs : List Tm) (key : List UInt8) (k : Nat) (hk : k < cs.length) : usedL (cs.take (k + 1)) key = (usedL (cs.take k) key || decide (cs[k].1 = key)) := by
  unfold usedL
  rw [List.take_succ_eq_append_getElem hk, List.any_append]
  simp
theorem used_mem {cs : List Tm} {key m : List UInt8} (h : (key, m) ∈ cs) : usedL cs key = true := by
  unfold usedL
  exact List.any_eq_true.2 ⟨_, h, decide_eq_true rfl⟩
def RTurnRel (cs : List Tm) (x : Tm) (w : World) (v i : Value) (wr : World) : Prop :=
  ∃ k : Nat, k ≤ cs.length ∧ i = .int .i64 (k : Int) ∧ v = .bool (decide (x ∈ cs.take k)) ∧ Below w.heap.size w wr
def UsedRel (cs : List Tm) (key : List UInt8) (w : World) (v i : Value) (wr : World) : Prop :=
  ∃ k : Nat, k ≤ cs.length ∧ i = .int .i64 (k : Int) ∧ v = .bool (usedL (cs.take k) key) ∧ Below w.heap.size w wr
theorem turn_next (cs : List Tm) (x : Tm) (k : Nat) (hk : k < cs.length) : decide (x ∈ cs.take (k + 1)) = (decide (x ∈ cs.take k) || decide (cs[k] = x)) := by
  rw [List.take_succ_eq_append_getElem hk]
  by_cases h1 : x ∈ cs.take k
  · rw [decide_eq_true (List.mem_append_left _ h1), decide_eq_true h1]
    rfl
  · by_cases h2 : cs[k] = x
    · rw [decide_eq_true (List.mem_append_right _ (by rw [h2]; exact List.mem_singleton.2 rfl)), decide_eq_true h2, Bool.or_true]
    · rw [decide_eq_false h1, decide_eq_false h2, decide_eq_false]
      · rfl
      · intro h
        rcases List.mem_append.1 h with h | h
        · exact h1 h
        · exact h2 (List.mem_singleton.1 h).symm

set_option maxHeartbeats 16000000 in
theorem recturned_core [Inhabited Tab] (ts : List TD) (key oth s : List UInt8) (p n o m : Nat) (A B C D : Option Addr) (c bd cd f : Nat) (t e d : Nat) (a0 y0 : Nat) (w : World) (HP : Hid (ts.length = p)) (hT : RdT w A ts) (hok : okT w ts) (hml : ∀ x ∈ ts, x.k.length ≤ 9223372036854775807 ∧ x.m.length ≤ 9223372036854775807) (hc : p ≤ c)
    (HN : Hid (key.length = n)) (hrk : Rd vB w B key) (hnb : n ≤ bd) (hht : t < 18446744073709551616) (hhe : e < 18446744073709551616) (hhd : d < 18446744073709551616) (HS : Hid (s.length = m)) (hrs : Rd vB w C s) (hmd : m ≤ cd) (HO : Hid (oth.length = o)) (hro : Rd vB w D oth) (hf : o ≤ f)
    (HSH : Hid (shortT (conT ts) = true)) (hn3 : n ≤ 300) (hm3 : m ≤ 300) (ho3 : o ≤ 300) (ha0 : a0 < 256) (hy0 : y0 < 256) (HK : Hid (KTab w)) (hg : EtC w) :
    Calls Tryd.prog 4 #[.slice A p c, .slice B n bd, .slice D o f, aggP t e d C m cd, .int .u8 (a0 : Int), .int .u8 (y0 : Int)] w fun e₁ w' => e₁ = .returned (.bool true) ∧ Below w.heap.size w w' := by
  have hp : p ≤ 400 := short_p HP HSH.out
  have HLT : Hid (lenT (conT ts)) := lenT.short HSH.out
  have HSM : Hid (smallE (conT ts) n o = true) := smallE_true HSH.out hn3 ho3
  have HML := Lib.hid hml
  have HTB := Lib.hid (And.intro hht (And.intro hhe hhd))
  clear hml hht hhe hhd
  obtain ⟨i0, hi, hz0, hz1, hz2⟩ := info_parts info_u8
  obtain ⟨hRa, hBB⟩ := box_pay w 28 (.int .u64 (t : Int)) (.int .u64 (e : Int)) (.int .u64 (d : Int)) (.slice C m cd)
  replace hT := hT.keep hBB
  replace hok := hok.keep hBB
  replace hrk := hrk.keep hBB
  replace hrs := hrs.keep hBB
  replace hro := hro.keep hBB
  replace HK := Lib.hid (HK.out.keep hBB)
  replace hg := hg.later hBB
  unfold aggP
  go_enter Tryd.func4, Tryd.ntmps4
  go_upto_region 1 with fail
  generalize (w.alloc (.cells #[.int .u64 (t : Int), .int .u64 (e : Int), .int .u64 (d : Int), .slice C m cd] 28)) = W0 at hRa hBB hT hok hrk hrs hro HK hg ⊢
  go_wp2_with fail
  refine (awake14_any _ HK hg).mono ?_
  rintro e₁ w1 ⟨rfl, hb⟩
  replace hRa := hRa.later hb
  replace hT := hT.keep hb
  replace hok := hok.keep hb
  replace hrk := hrk.keep hb
  replace hrs := hrs.keep hb
  replace hro := hro.keep hb
  replace HK := Lib.hid (HK.out.keep hb)
  replace hg := hg.later hb
  replace hBB := below_step hBB hb
  clear hb
  have hRn : Row (w1.alloc (.cells #[.int .i64 0, .slice none 0 0] 24)) w1.heap.size 24 [.int .i64 0, .slice none 0 0] := Row.new w1 _ _ _ rfl
  go_upto_region 4 with (refine wpList_store_row rfl 24 (.tmp 13) (.tmp 31) rfl w1.heap.size rfl [.int .i64 2, .slice A p c] rfl _ _ hRn (by exact size_engine) rfl (one_pair _ _ rfl rfl) ?_)
  have hR := hRn.setRow [.int .i64 2, .slice A p c]
  have hbn : Below w1.heap.size w1 ((w1.alloc (.cells #[.int .i64 0, .slice none 0 0] 24)).setRow w1.heap.size [.int .i64 2, .slice A p c].toArray) := below_setRow (below_new (Below.refl _ _) _) (Nat.le_refl _) _
  generalize (w1.alloc (.cells #[.int .i64 0, .slice none 0 0] 24)).setRow w1.heap.size [.int .i64 2, .slice A p c].toArray = w2 at hR hbn ⊢
  replace hRa := hRa.later hbn
  replace hT := hT.keep hbn
  replace hok := hok.keep hbn
  replace hrk := hrk.keep hbn
  replace hrs := hrs.keep hbn
  replace hro := hro.keep hbn
  replace HK := Lib.hid (HK.out.keep hbn)
  replace hg := hg.later hbn
  replace hBB := below_step hBB hbn
  clear hbn hRn
  generalize w1.heap.size = g1 at hR ⊢
  go_wp2_with (refine wpList_load_part rfl 24 (.tmp 13) rfl g1 0 rfl _ _ hR [.int .i64 2, .slice A p c] (by rfl) _ Tryd.underlying24 rfl (by exact size_engine) ?_)
  refine (small_any 2 ts p n o A B D c bd f _ HP hT HML.out (by omega) (by omega) (by omega)).mono ?_
  rw [HSM.out]
  rintro e₁ w3 ⟨rfl, hb⟩
  replace hR := hR.later hb
  replace hRa := hRa.later hb
  replace hT := hT.keep hb
  replace hok := hok.keep hb
  replace hrk := hrk.keep hb
  replace hrs := hrs.keep hb
  replace hro := hro.keep hb
  replace HK := Lib.hid (HK.out.keep hb)
  replace hg := hg.later hb
  replace hBB := below_step hBB hb
  clear hb
  have c3 : w3.cell? ⟨w.heap.size, 3, none⟩ = some (.slice C m cd) := hRa.cell rfl
  have g3 : decide ((300 : Int) < (m : Int)) = false := decide_eq_false (by omega)
  have n3 : ¬ 300 < m := by omega
  go_upto_region 6 with fail
  clear c3 g3 n3
  go_wp2_with (first | (refine wpList_load_part rfl 24 (.tmp 13) rfl g1 0 rfl _ _ hR [.int .i64 2, .slice A p c] (by rfl) _ Tryd.underlying24 rfl (by exact size_engine) ?_) | (refine wpList_load_part rfl 28 (.tmp 9) rfl w.heap.size 0 rfl _ _ hRa (cellsP t e d C m cd) (by rfl) _ Tryd.underlying28 rfl (by exact size_act) ?_))
  refine (seal_any 2 ts key p n A B c bd t e d s m C cd _ HP HLT hT hok (by omega) hc HTB.out.1 HTB.out.2.1 HTB.out.2.2 HS hrs hmd HN hrk (by omega) hnb HK).mono ?_
  rintro e₁ w4 ⟨us, p2, A2, c2, n2, tA, tc, X, ev, rfl, HP2, hpc2, htu, hoku, HX, hntc, hrx, HSE, hb⟩
  replace hRa := hRa.later hb
  replace hrk := hrk.keep hb
  replace hrs := hrs.keep hb
  replace hro := hro.keep hb
  replace HK := Lib.hid (HK.out.keep hb)
  replace hg := hg.later hb
  replace hBB := below_step hBB hb
  clear hb hR hT hok
  have hRn : Row (w4.alloc (.cells #[.int .i64 0, .slice none 0 0] 24)) w4.heap.size 24 [.int .i64 0, .slice none 0 0] := Row.new w4 _ _ _ rfl
  go_upto_region 7 with (refine wpList_store_row rfl 24 (.tmp 14) (.tmp 48) rfl w4.heap.size rfl [.int .i64 2, .slice A2 p2 c2] rfl _ _ hRn (by exact size_engine) rfl (one_pair _ _ rfl rfl) ?_)
  have hRe := hRn.setRow [.int .i64 2, .slice A2 p2 c2]
  have hbn : Below w4.heap.size w4 ((w4.alloc (.cells #[.int .i64 0, .slice none 0 0] 24)).setRow w4.heap.size [.int .i64 2, .slice A2 p2 c2].toArray) := below_setRow (below_new (Below.refl _ _) _) (Nat.le_refl _) _
  generalize (w4.alloc (.cells #[.int .i64 0, .slice none 0 0] 24)).setRow w4.heap.size [.int .i64 2, .slice A2 p2 c2].toArray = w5 at hRe hbn ⊢
  replace hRa := hRa.later hbn
  replace hrk := hrk.keep hbn
  replace hrs := hrs.keep hbn
  replace hro := hro.keep hbn
  replace htu := htu.keep hbn
  replace hoku := hoku.keep hbn
  replace hrx := hrx.keep hbn
  replace HK := Lib.hid (HK.out.keep hbn)
  replace hg := hg.later hbn
  replace hBB := below_step hBB hbn
  clear hbn hRn
  generalize w4.heap.size = ge at hRe ⊢
  rcases HSE.out with ⟨rfl, hre, hm1, hm2, hus, hXX⟩ | ⟨⟨g0, rfl, _⟩, hnot, hus, hXX⟩
  case inr =>
    clear HSE hnot hus hXX hRe hRa hrk hrs hro htu hoku hrx HK hg
    go_wp2_with fail
    go_ret
    exact ⟨rfl, hBB⟩
  have HXL : Hid (X.length = 34 + m) := by unfold Hid; rw [hXX, sealE_length, HS.out]
  have en2 : n2 = 34 + m := HX.out.symm.trans HXL.out
  obtain ⟨M, hM⟩ : ∃ M, M = 34 + m := ⟨_, rfl⟩
  rw [← hM] at en2 HXL
  subst en2
  have hM1 : 35 ≤ n2 := by omega
  have hM2 : n2 ≤ 66 := by omega
  have HUS := Lib.hid hus
  have HXX := Lib.hid hXX
  have HMM := Lib.hid hM
  have HM12 := Lib.hid (And.intro hm1 hm2)
  have HLU : Hid (lenT (conT us)) := by
    unfold Hid
    rw [hus]
    exact termsE_len HLT.out (by rw [HN.out]; omega) (by rw [act_length, HS.out]; omega)
  have hp2 : p2 ≤ 401 := by
    have h1 := congrArg List.length hus
    rw [conT_length, HP2.out] at h1
    have h2 := termsE_le (K := 2) (cs := conT ts) (key, actB t e d s)
    rw [← h1, conT_length, HP.out] at h2
    omega
  clear hus hXX hM hre hm1 hm2 HSE HX
  have hx0 : ((n2 : Int) == 0) = false := beq_eq_false_iff_ne.2 (by omega)
  have hx1 : n2 ≠ 0 := by omega
  go_upto_region 9 with fail
  have hown0 : (w5.alloc (.cells #[] 5)).ownsRow w5.heap.size 5 1 (.slice (some ⟨w5.heap.size, 0, none⟩) 0 0) 0 [] := World.ownsRow_made w5 #[] 0 (Nat.le_refl _) (by unfold maxLen; omega) rfl
  have hN0 := below_new (Below.refl _ w5) (.cells #[] 5)
  have hrx0 := hrx.keep hN0
  go_upto_region 10 with (at_builtin; refine wpList_append_rd _ rfl (.tmp 60) (.tmp 61) 25 rfl w5.heap.size 5 i0 (.int .u8 0) 1 Tryd.underlying25 hi hz0 hz1 hz2 rfl _ _ _ rfl hown0 tA X tc (by rw [HXL.out]; rfl) hrx0 vB_one (by rw [HXL.out]; unfold maxLen; omega) (by rw [HXL.out]; omega) (by simp) ?_; intro v6 w6 hown hgrow)
  rw [Nat.zero_add, List.nil_append] at hown
  have hb6 : Below w5.heap.size w5 w6 := hN0.grown hgrow (by simp) (fun k hk => (hown0.lt k hk).1)
  clear hown0 hN0 hrx0 hgrow
  obtain ⟨q, hq⟩ : ∃ q, q = a0 % n2 := ⟨_, rfl⟩
  have hqX : q < X.length := by rw [HXL.out, hq]; exact Nat.mod_lt _ (by omega)
  have hqn : q < n2 := by rw [hq]; exact Nat.mod_lt _ (by omega)
  obtain ⟨gx, cx, rfl, hgx, hgl, hcx, hcell, hfz, hset⟩ := own_set hown hqX
  clear hown
  obtain ⟨y, hy⟩ : ∃ y : UInt8, (y.toNat : Int) = (y0 : Int) := ⟨UInt8.ofNat y0, by rw [UInt8.toNat_ofNat']; omega⟩
  have hxr := u8_xor_b X[q] y
  rw [hy] at hxr
  have hsz := hset (xorB X[q] y)
  have hgd : X.getD q 0 = X[q] := by rw [List.getD_eq_getElem?_getD, List.getElem?_eq_getElem hqX]; rfl
  have HTT : Hid (X.set q (xorB X[q] y) = (sealE 2 (conT ts) key t e d s).set q (xorB ((sealE 2 (conT ts) key t e d s).getD q 0) y)) := by unfold Hid; rw [← HXX.out, hgd]
  have HZY : Hid (y0 = 0 ∨ y ≠ 0) := by
    by_cases h : y = 0
    · left
      subst h
      have h0 : ((0 : UInt8).toNat : Int) = 0 := rfl
      omega
    · exact .inr h
  clear hset hgd
  generalize X[q] = xq at hcell hxr hsz HTT
  generalize xorB xq y = z at hxr hsz HTT
  rw [HXL.out] at hcx ⊢
  unfold vB at hcell
  have hcell' : w6.cell? ⟨gx, q, none⟩ = some (.int .u8 (xq.toNat : Int)) := hcell
  have m1 : (a0 : Int) % (n2 : Int) = (q : Int) := by rw [hq]; omega
  have m2 : (a0 : Int).tmod (n2 : Int) = (q : Int) := by rw [Int.tmod_eq_emod_of_nonneg (by omega)]; exact m1
  have m3 : (0 : Int) ≤ (q : Int) := by omega
  have m4 : (q : Int) < (n2 : Int) := by omega
  have m5 : IntKind.i64.wrap (a0 : Int) = (a0 : Int) := by rw [IntKind.wrap_i64]; omega
  have hqn2 := Lib.hid hqn
  clear hq hqX hcell hy hqn hx0
  go_upto_region 11 with fail
  have hB7 : Below w5.heap.size w5 (w6.setCell ⟨gx, q, none⟩ (.int .u8 (z.toNat : Int))) := hb6.setCell (p := ⟨gx, q, none⟩) hgx _
  have hrY : Rd vB (w6.setCell ⟨gx, q, none⟩ (.int .u8 (z.toNat : Int))) (some ⟨gx, 0, none⟩) (X.set q z) := hsz
  have HYL : Hid ((X.set q z).length = n2) := by unfold Hid; rw [List.length_set]; exact HXL.out
  clear hsz hcell' hfz m1 m2 m3 m4 m5 hb6 hxr
  generalize w6.setCell ⟨gx, q, none⟩ (.int .u8 (z.toNat : Int)) = w7 at hB7 hrY ⊢
  generalize X.set q z = Y at hrY HYL HTT
  replace hRa := hRa.later hB7
  replace hRe := hRe.later hB7
  replace hrk := hrk.keep hB7
  replace hrs := hrs.keep hB7
  replace hro := hro.keep hB7
  replace htu := htu.keep hB7
  replace hoku := hoku.keep hB7
  replace hrx := hrx.keep hB7
  replace HK := Lib.hid (HK.out.keep hB7)
  replace hBB := below_step hBB hB7
  clear hB7 hg hgx hgl
  have HBK : Hid (∀ t2 e2 d2 s2, openE 2 (conT us) key Y = (0, t2, e2, d2, s2) → (key, actB t2 e2 d2 s2) ∈ conT us ∧ 1 ≤ s2.length ∧ s2.length ≤ 32 ∧ t2 < 18446744073709551616 ∧ e2 < 18446744073709551616 ∧ d2 < 18446744073709551616) := fun t2 e2 d2 s2 h => ⟨openE_mem h, (openE_back h).2.2⟩
  have HTN : Hid (y0 ≠ 0 → openE 2 (conT us) key Y ≠ (0, t, e, d, s)) := fun h0 h => by
    have hyn : y ≠ 0 := by rcases HZY.out with h1 | h1; exact absurd h1 h0; exact h1
    rw [HUS.out, HTT.out] at h
    exact openE_turned q y (by rw [HS.out, ← HMM.out]; exact hqn2.out) hyn h
  clear HTT HZY hqn2
  obtain ⟨kd, t2, e2, d2, s2, hO⟩ : ∃ kd t2 e2 d2 s2, openE 2 (conT us) key Y = (kd, t2, e2, d2, s2) := ⟨_, _, _, _, _, rfl⟩
  have HOY := Lib.hid hO
  rw [hO] at HTN
  clear hO
  go_wp2_with (refine wpList_load_part rfl 24 (.tmp 14) rfl ge 0 rfl _ _ hRe [.int .i64 2, .slice A2 p2 c2] (by rfl) _ Tryd.underlying24 rfl (by exact size_engine) ?_)
  refine (open_any 2 us key Y p2 n n2 A2 B (some ⟨gx, 0, none⟩) c2 bd cx _ HP2 HLU htu hoku (by omega) hpc2 HN hrk (by omega) hnb HYL hrY hcx (by omega) HK).mono ?_
  rw [HOY.out]
  rintro e₁ w8 ⟨A5, n5, k5, ev5, rfl, HN5, hk5, hr5, hb, hE5⟩
  dsimp only at HN5 hr5 hE5 ⊢
  replace hRa := hRa.later hb
  replace hRe := hRe.later hb
  replace hrk := hrk.keep hb
  replace hrs := hrs.keep hb
  replace hro := hro.keep hb
  replace htu := htu.keep hb
  replace hoku := hoku.keep hb
  replace hrx := hrx.keep hb
  replace HK := Lib.hid (HK.out.keep hb)
  replace hBB := below_step hBB hb
  clear hb hrY
  have hRn : Row (w8.alloc (.cells #[.int .u64 0, .int .u64 0, .int .u64 0, .slice none 0 0] 28)) w8.heap.size 28 [.int .u64 0, .int .u64 0, .int .u64 0, .slice none 0 0] := Row.new w8 _ _ _ rfl
  go_upto_region 12 with (refine wpList_store_row rfl 28 (.tmp 18) (.tmp 79) rfl w8.heap.size rfl [.int .u64 (t2 : Int), .int .u64 (e2 : Int), .int .u64 (d2 : Int), .slice A5 n5 k5] rfl _ _ hRn (by exact size_act) rfl (one_four _ _ _ _ rfl rfl rfl rfl) ?_)
  have hRc := hRn.setRow [.int .u64 (t2 : Int), .int .u64 (e2 : Int), .int .u64 (d2 : Int), .slice A5 n5 k5]
  have hbn : Below w8.heap.size w8 ((w8.alloc (.cells #[.int .u64 0, .int .u64 0, .int .u64 0, .slice none 0 0] 28)).setRow w8.heap.size [.int .u64 (t2 : Int), .int .u64 (e2 : Int), .int .u64 (d2 : Int), .slice A5 n5 k5].toArray) := below_setRow (below_new (Below.refl _ _) _) (Nat.le_refl _) _
  generalize (w8.alloc (.cells #[.int .u64 0, .int .u64 0, .int .u64 0, .slice none 0 0] 28)).setRow w8.heap.size [.int .u64 (t2 : Int), .int .u64 (e2 : Int), .int .u64 (d2 : Int), .slice A5 n5 k5].toArray = w9 at hRc hbn ⊢
  replace hRa := hRa.later hbn
  replace hRe := hRe.later hbn
  replace hrk := hrk.keep hbn
  replace hrs := hrs.keep hbn
  replace hro := hro.keep hbn
  replace hr5 := hr5.keep hbn
  replace htu := htu.keep hbn
  replace hoku := hoku.keep hbn
  replace hrx := hrx.keep hbn
  replace HK := Lib.hid (HK.out.keep hbn)
  replace hBB := below_step hBB hbn
  clear hbn hRn
  generalize w8.heap.size = gc at hRc ⊢
  obtain ⟨E0, HE0⟩ : ∃ E : Bool, Hid ((E = true → ev5 = .nilIface ∧ kd = 0) ∧ (E = false → ∃ g, ev5 = errV g)) := by
    rcases hE5 with ⟨h1, h⟩ | ⟨_, g, h, _⟩
    · exact ⟨true, Lib.hid ⟨fun _ => ⟨h, h1⟩, (fun h => by cases h)⟩⟩
    · exact ⟨false, Lib.hid ⟨(fun h => by cases h), fun _ => ⟨g, h⟩⟩⟩
  clear hE5
  go_cut [82] (fun v wx => v = .bool E0 ∧ w9 = wx)
  case first =>
    cases E0 with
    | true =>
      have h := (HE0.out.1 rfl).1
      subst h
      clear HE0
      go_wp2_with fail
      go_meet
      case rel => exact ⟨rfl, rfl⟩
    | false =>
      obtain ⟨g, h⟩ := HE0.out.2 rfl
      subst h
      clear HE0
      go_wp2_with fail
      go_meet
      case rel => exact ⟨rfl, rfl⟩
  case rest =>
  obtain ⟨rfl, rfl⟩ := hcut
  go_upto_if 82 with fail
  go_cut [] (fun wx => Below w9.heap.size w9 wx)
  case first =>
    cases E0 with
    | false =>
      clear HE0 HBK HTN HOY hRa hRe hRc hrk hrs hro hr5 htu hoku hrx HK hBB
      go_wp2_with fail
      go_meet
      case rel => exact Below.refl _ _
    | true =>
      obtain ⟨hev, hk0⟩ := HE0.out.1 rfl
      subst hk0
      subst hev
      obtain ⟨hmem, hs1, hs2, ht2, he2, hd2⟩ := HBK.out _ _ _ _ HOY.out
      have en5 := HN5.out
      have hn1 : 1 ≤ n5 := by omega
      have hn2 : n5 ≤ 32 := by omega
      have HMEM := Lib.hid hmem
      clear hmem HE0 HBK HOY hs1 hs2 en5 hrx hro HK hBB
      go_wp2_with (refine wpList_load_part rfl 28 (.tmp 18) rfl gc 0 rfl _ _ hRc (cellsP t2 e2 d2 A5 n5 k5) (by rfl) _ Tryd.underlying28 rfl (by exact size_act) ?_)
      refine (bytesA_ok t2 e2 d2 s2 n5 A5 k5 _ ht2 he2 hd2 HN5 hr5 hk5 hn1 hn2).mono ?_
      rintro e₁ w10 ⟨bA, bn, bc, rfl, HBN, hbc, hrb, hb⟩
      replace hRa := hRa.later hb
      replace hRe := hRe.later hb
      replace hRc := hRc.later hb
      replace hrk := hrk.keep hb
      replace hrs := hrs.keep hb
      replace hr5 := hr5.keep hb
      replace htu := htu.keep hb
      replace hoku := hoku.keep hb
      have hBB := hb
      clear hb ht2 he2 hd2
      obtain ⟨msg, hmsg⟩ : ∃ msg, actB t2 e2 d2 s2 = msg := ⟨_, rfl⟩
      rw [hmsg] at HBN hrb HMEM
      clear hmsg
      have hok' := Lib.hid hoku
      go_upto_region 15 with fail
      have hloop : True := trivial
      go_wp2_with fail
      go_loopw [20, 23] (fun v i wr => RTurnRel (conT us) (key, msg) w10 v i wr) (fun _ i _ => p2 - (intOf i).toNat)
      case atStart => exact ⟨0, Nat.zero_le _, rfl, by simp, Below.refl _ _⟩
      case round =>
        obtain ⟨k, hk0, rfl, rfl, hBk⟩ := hrel
        have hkp : k ≤ p2 := by rw [conT_length, HP2.out] at hk0; exact hk0
        have e1 : wr.cell? ⟨ge, 1, none⟩ = some (.slice A2 p2 c2) := (hRe.later hBk).cell rfl
        by_cases hlt : k < p2
        · have hlu : k < us.length := by rw [HP2.out]; exact hlt
          obtain ⟨blk, o2, rfl, hblk, hcell⟩ := htu.at hlu
          have hx := hok'.out us[k] (List.getElem_mem hlu)
          have hgx := conT_get us k hlu
          have hlc : k < (conT us).length := by rw [conT_length]; exact hlu
          have HNX := Lib.hid (turn_next (conT us) (key, msg) k hlc)
          obtain ⟨h0, h1⟩ := hcell k hlu
          have hc0 : ∀ W, Below wr.heap.size wr W → W.cell? ⟨blk, o2 + k * 2, none⟩ = some us[k].at0 := fun W hW => ((below_step hBk hW).cell (p := ⟨blk, o2 + k * 2, none⟩) hblk).trans h0
          have hc1 : ∀ W, Below wr.heap.size wr W → W.cell? ⟨blk, o2 + k * 2 + 1, none⟩ = some us[k].at1 := fun W hW => ((below_step hBk hW).cell (p := ⟨blk, o2 + k * 2 + 1, none⟩) hblk).trans h1
          have p1 : ∀ W, Below wr.heap.size wr W → W.cell? ⟨ge, 1, none⟩ = some (.slice (some ⟨blk, o2, none⟩) p2 c2) := fun W hW => ((hRe.later hBk).later hW).cell rfl
          have HEQ : Hid (decide ((key, msg) ∈ (conT us).take (k + 1)) = (decide ((key, msg) ∈ (conT us).take k) || decide (us[k].c = (key, msg)))) := by
            have := HNX.out
            rw [hgx] at this
            exact this
          clear HNX hgx h0 h1 hcell
          generalize us[k] = x at hx hc0 hc1 HEQ
          obtain ⟨kA, kc, kl, mA, mc, ml⟩ := x
          obtain ⟨_, _, hkl, hml⟩ := hx
          unfold TD.at0 TD.at1 at *
          unfold TD.c at HEQ
          dsimp only at hkl hml HEQ hc0 hc1
          have i0' : (0 : Int) ≤ (k : Int) := by omega
          have i1 : (k : Int) < (p2 : Int) := by omega
          have hs0 := strBz (c := kc) kl.length (Lib.hid rfl) (hkl.keep hBk)
          have hs1 := strBz (c := bd) n HN (hrk.keep hBk)
          have hs2 := strBz (c := mc) ml.length (Lib.hid rfl) (hml.keep hBk)
          have hs3 := strBz (c := bc) bn HBN (hrb.keep hBk)
          have b0 := str_beq kl key
          have b1 := str_beq ml msg
          have hBase : Below wr.heap.size wr wr.drew := (Below.refl _ _).drew
          have HREL : Hid (∀ v, v = decide ((key, msg) ∈ (conT us).take (k + 1)) → RTurnRel (conT us) (key, msg) w10 (.bool v) (.int .i64 ((k : Int) + 1)) wr.drew) := fun v hv => ⟨k + 1, hlc, by go_num, by rw [hv], hBk.drew⟩
          obtain ⟨md, hmd⟩ : ∃ md, md = decide ((key, msg) ∈ (conT us).take k) := ⟨_, rfl⟩
          rw [← hmd] at HEQ ⊢
          clear hmd hkl hml hlc hk0 hBk hRe hRa hRc hrk hrs hr5 htu hoku hrb hBB
          cases md with
          | true =>
            have HV : Hid (true = decide ((key, msg) ∈ (conT us).take (k + 1))) := by unfold Hid; rw [HEQ.out]; simp
            clear HEQ hs0 hs1 hs2 hs3 b0 b1 hc0 hc1 p1
            go_wp2_with fail
            refine wp_region_plan (.step 0 false (.step 1 false (.step 2 false (.step 3 false (.step 4 false (.step 5 false (.step 6 false (.step 7 false (.step 8 false (.step 9 false (.step 10 false (.step 11 false (.step 12 false (.step 13 false (.step 14 false (.step 15 false (.step 16 false (.step 17 false (.step 18 false (.step 19 false (.step 20 false (.step 21 false (.step 22 false (.step 23 false (.step 24 false (.step 25 false (.nil))))))))))))))))))))))))))) (by kernel_rfl) (by kernel_rfl) (by rfl) (by kernel_rfl) ?_
            iterate 2 (refine plan_read rfl (by rfl) (v := ?_) ?_ ?_; rotate_left 1; (intro W hW; have hW0 := below_step hBase hW; (try dsimp only at hW); go_simp <;> with_reducible rfl); simp only [List.getElem_toArray, List.getElem_cons_zero, List.getElem_cons_succ, Act.put, List.setIfInBounds_toArray, List.set_cons_zero, List.set_cons_succ])
            iterate 22 (refine plan_skip rfl (by rfl) ?_; simp only [List.getElem_toArray, List.getElem_cons_zero, List.getElem_cons_succ, Act.put, List.setIfInBounds_toArray, List.set_cons_zero, List.set_cons_succ])
            iterate 2 (refine plan_read rfl (by rfl) (v := ?_) ?_ ?_; rotate_left 1; (intro W hW; have hW0 := below_step hBase hW; (try dsimp only at hW); go_simp <;> with_reducible rfl); simp only [List.getElem_toArray, List.getElem_cons_zero, List.getElem_cons_succ, Act.put, List.setIfInBounds_toArray, List.set_cons_zero, List.set_cons_succ])
            refine plan_done ?_
            go_wp2_with fail
            go_roundw
            case rel => exact HREL.out _ HV.out
            case measure => simp [intOf]; omega
          | false =>
            by_cases ek : kl = key
            · have x0 : decide (kl = key) = true := by simp [ek]
              rw [x0] at b0
              have HV : Hid (decide (ml = msg) = decide ((key, msg) ∈ (conT us).take (k + 1))) := by unfold Hid; rw [HEQ.out]; simp [ek]
              clear x0 ek HEQ
              generalize decide (ml = msg) = bv at b1 HV
              generalize strL kl = S0 at b0 hs0
              generalize strL key = S1 at b0 hs1
              generalize strL ml = S2 at b1 hs2
              generalize strL msg = S3 at b1 hs3
              go_wp2_with fail
              refine wp_region_plan (.step 0 false (.step 1 false (.step 2 false (.step 3 false (.step 4 false (.step 5 false (.step 6 false (.step 7 false (.step 8 false (.step 9 false (.step 10 false (.step 11 false (.step 12 false (.step 13 false (.step 14 false (.step 15 false (.step 16 false (.step 17 false (.step 18 false (.step 19 false (.step 20 false (.step 21 false (.step 22 false (.step 23 false (.step 24 false (.step 25 false (.nil))))))))))))))))))))))))))) (by kernel_rfl) (by kernel_rfl) (by rfl) (by kernel_rfl) ?_
              iterate 26 (refine plan_read rfl (by rfl) (v := ?_) ?_ ?_; rotate_left 1; (intro W hW; have hW0 := below_step hBase hW; (try dsimp only at hW); go_simp <;> with_reducible rfl); simp only [List.getElem_toArray, List.getElem_cons_zero, List.getElem_cons_succ, Act.put, List.setIfInBounds_toArray, List.set_cons_zero, List.set_cons_succ])
              refine plan_done ?_
              clear hs0 hs1 hs2 hs3 b0 b1 hc0 hc1 p1
              go_wp2_with fail
              go_roundw
              case rel => exact HREL.out _ HV.out
              case measure => simp [intOf]; omega
            · have x0 : decide (kl = key) = false := by simp [ek]
              rw [x0] at b0
              have HV : Hid (false = decide ((key, msg) ∈ (conT us).take (k + 1))) := by unfold Hid; rw [HEQ.out]; simp [ek]
              clear x0 ek HEQ b1
              generalize strL kl = S0 at b0 hs0
              generalize strL key = S1 at b0 hs1
              go_wp2_with fail
              refine wp_region_plan (.step 0 false (.step 1 false (.step 2 false (.step 3 false (.step 4 false (.step 5 false (.step 6 false (.step 7 false (.step 8 false (.step 9 false (.step 10 false (.step 11 false (.step 12 false (.step 13 false (.step 14 false (.step 15 false (.step 16 false (.step 17 false (.step 18 false (.step 19 false (.step 20 false (.step 21 false (.step 22 false (.step 23 false (.step 24 false (.step 25 false (.nil))))))))))))))))))))))))))) (by kernel_rfl) (by kernel_rfl) (by rfl) (by kernel_rfl) ?_
              iterate 13 (refine plan_read rfl (by rfl) (v := ?_) ?_ ?_; rotate_left 1; (intro W hW; have hW0 := below_step hBase hW; (try dsimp only at hW); go_simp <;> with_reducible rfl); simp only [List.getElem_toArray, List.getElem_cons_zero, List.getElem_cons_succ, Act.put, List.setIfInBounds_toArray, List.set_cons_zero, List.set_cons_succ])
              iterate 10 (refine plan_skip rfl (by rfl) ?_; simp only [List.getElem_toArray, List.getElem_cons_zero, List.getElem_cons_succ, Act.put, List.setIfInBounds_toArray, List.set_cons_zero, List.set_cons_succ])
              iterate 3 (refine plan_read rfl (by rfl) (v := ?_) ?_ ?_; rotate_left 1; (intro W hW; have hW0 := below_step hBase hW; (try dsimp only at hW); go_simp <;> with_reducible rfl); simp only [List.getElem_toArray, List.getElem_cons_zero, List.getElem_cons_succ, Act.put, List.setIfInBounds_toArray, List.set_cons_zero, List.set_cons_succ])
              refine plan_done ?_
              clear hs0 hs1 hs2 hs3 b0 hc0 hc1 p1
              go_wp2_with fail
              go_roundw
              case rel => exact HREL.out _ HV.out
              case measure => simp [intOf]; omega
        · have ek : k = p2 := by omega
          have i1 : ¬ (k : Int) < (p2 : Int) := by omega
          have hall : (conT us).take k = conT us := List.take_of_length_le (by rw [conT_length, HP2.out]; omega)
          rw [hall, decide_eq_true HMEM.out]
          replace hRa := hRa.later hBk
          replace hRc := hRc.later hBk
          replace hrs := hrs.keep hBk
          replace hr5 := hr5.keep hBk
          replace hBB := below_step hBB hBk
          have a0' : wr.cell? ⟨w.heap.size, 0, none⟩ = some (.int .u64 (t : Int)) := hRa.cell rfl
          have a1' : wr.cell? ⟨w.heap.size, 1, none⟩ = some (.int .u64 (e : Int)) := hRa.cell rfl
          have a2' : wr.cell? ⟨w.heap.size, 2, none⟩ = some (.int .u64 (d : Int)) := hRa.cell rfl
          have a3' : wr.cell? ⟨w.heap.size, 3, none⟩ = some (.slice C m cd) := hRa.cell rfl
          have d0' : wr.cell? ⟨gc, 0, none⟩ = some (.int .u64 (t2 : Int)) := hRc.cell rfl
          have d1' : wr.cell? ⟨gc, 1, none⟩ = some (.int .u64 (e2 : Int)) := hRc.cell rfl
          have d2' : wr.cell? ⟨gc, 2, none⟩ = some (.int .u64 (d2 : Int)) := hRc.cell rfl
          have d3' : wr.cell? ⟨gc, 3, none⟩ = some (.slice A5 n5 k5) := hRc.cell rfl
          clear hall hBk hRe hRa hRc hrk htu hoku hrb ek hk0 hkp
          by_cases hyz : y0 = 0
          · subst hyz
            go_wp2_with fail
            go_meet
            case rel => exact hBB
          · have hyi : ((y0 : Int) != 0) = true := bne_iff_ne.2 (by omega)
            have HSF : Hid (sameF t2 e2 d2 s2 t e d s = false) := by
              unfold Hid sameF
              refine decide_eq_false (fun h => HTN.out hyz ?_)
              obtain ⟨rfl, rfl, rfl, rfl⟩ := h
              rfl
            go_wp2_with fail
            refine (refsame_act t2 e2 d2 t e d s2 s n5 m A5 C k5 cd wr HN5 HS hr5 hrs).mono ?_
            rw [HSF.out]
            rintro e₁ w11 ⟨rfl, hb⟩
            clear a0' a1' a2' a3' d0' d1' d2' d3'
            go_wp2_with fail
            go_meet
            case rel => exact below_step hBB hb
  case rest =>
  replace hRe := hRe.later hcut
  replace hro := hro.keep hcut
  replace htu := htu.keep hcut
  replace hoku := hoku.keep hcut
  replace hrx := hrx.keep hcut
  replace HK := Lib.hid (HK.out.keep hcut)
  replace hBB := below_step hBB hcut
  clear hcut HE0 HBK HTN HOY hRa hRc hrk hrs hr5
  have HUM : Hid (∀ t2 e2 d2 s2, openE 2 (conT us) oth X = (0, t2, e2, d2, s2) → usedL (conT us) oth = true) := fun t2 e2 d2 s2 h => used_mem (openE_mem h)
  have hok' := Lib.hid hoku
  go_upto_region 23 with fail
  go_loopw [24, 25] (fun v i wr => UsedRel (conT us) oth wc v i wr) (fun _ i _ => p2 - (intOf i).toNat)
  case atStart => exact ⟨0, Nat.zero_le _, rfl, by simp [usedL], Below.refl _ _⟩
  case round =>
    obtain ⟨k, hk0, rfl, rfl, hBk⟩ := hrel
    have hkp : k ≤ p2 := by rw [conT_length, HP2.out] at hk0; exact hk0
    have e1 : wr.cell? ⟨ge, 1, none⟩ = some (.slice A2 p2 c2) := (hRe.later hBk).cell rfl
    by_cases hlt : k < p2
    · have hlu : k < us.length := by rw [HP2.out]; exact hlt
      obtain ⟨blk, o2, rfl, hblk, hcell⟩ := htu.at hlu
      have hx := hok'.out us[k] (List.getElem_mem hlu)
      have hgx := conT_get us k hlu
      have hlc : k < (conT us).length := by rw [conT_length]; exact hlu
      have HNX := Lib.hid (used_next (conT us) oth k hlc)
      obtain ⟨h0, h1⟩ := hcell k hlu
      have hc0 : ∀ W, Below wr.heap.size wr W → W.cell? ⟨blk, o2 + k * 2, none⟩ = some us[k].at0 := fun W hW => ((below_step hBk hW).cell (p := ⟨blk, o2 + k * 2, none⟩) hblk).trans h0
      have p1 : ∀ W, Below wr.heap.size wr W → W.cell? ⟨ge, 1, none⟩ = some (.slice (some ⟨blk, o2, none⟩) p2 c2) := fun W hW => ((hRe.later hBk).later hW).cell rfl
      have HEQ : Hid (usedL ((conT us).take (k + 1)) oth = (usedL ((conT us).take k) oth || decide (us[k].c.1 = oth))) := by
        have := HNX.out
        rw [hgx] at this
        exact this
      clear HNX hgx h0 h1 hcell
      generalize us[k] = x at hx hc0 HEQ
      obtain ⟨kA, kc, kl, mA, mc, ml⟩ := x
      obtain ⟨_, _, hkl, hml⟩ := hx
      unfold TD.at0 at *
      unfold TD.c at HEQ
      dsimp only at hkl HEQ hc0
      have i0' : (0 : Int) ≤ (k : Int) := by omega
      have i1 : (k : Int) < (p2 : Int) := by omega
      have hs0 := strBz (c := kc) kl.length (Lib.hid rfl) (hkl.keep hBk)
      have hs1 := strBz (c := f) o HO (hro.keep hBk)
      have b0 := str_beq kl oth
      have hBase : Below wr.heap.size wr wr.drew := (Below.refl _ _).drew
      have HREL : Hid (∀ v, v = usedL ((conT us).take (k + 1)) oth → UsedRel (conT us) oth wc (.bool v) (.int .i64 ((k : Int) + 1)) wr.drew) := fun v hv => ⟨k + 1, hlc, by go_num, by rw [hv], hBk.drew⟩
      obtain ⟨md, hmd⟩ : ∃ md, md = usedL ((conT us).take k) oth := ⟨_, rfl⟩
      rw [← hmd] at HEQ ⊢
      clear hmd hkl hml hlc hk0 hBk hRe hro htu hoku hrx HK hBB
      cases md with
      | true =>
        have HV : Hid (true = usedL ((conT us).take (k + 1)) oth) := by unfold Hid; rw [HEQ.out]; simp
        clear HEQ hs0 hs1 b0 hc0 p1
        go_wp2_with fail
        refine wp_region_plan (.step 0 false (.step 1 false (.step 2 false (.step 3 false (.step 4 false (.step 5 false (.step 6 false (.step 7 false (.step 8 false (.step 9 false (.step 10 false (.step 11 false (.step 12 false (.step 13 false (.nil))))))))))))))) (by kernel_rfl) (by kernel_rfl) (by rfl) (by kernel_rfl) ?_
        iterate 2 (refine plan_read rfl (by rfl) (v := ?_) ?_ ?_; rotate_left 1; (intro W hW; have hW0 := below_step hBase hW; (try dsimp only at hW); go_simp <;> with_reducible rfl); simp only [List.getElem_toArray, List.getElem_cons_zero, List.getElem_cons_succ, Act.put, List.setIfInBounds_toArray, List.set_cons_zero, List.set_cons_succ])
        iterate 10 (refine plan_skip rfl (by rfl) ?_; simp only [List.getElem_toArray, List.getElem_cons_zero, List.getElem_cons_succ, Act.put, List.setIfInBounds_toArray, List.set_cons_zero, List.set_cons_succ])
        iterate 2 (refine plan_read rfl (by rfl) (v := ?_) ?_ ?_; rotate_left 1; (intro W hW; have hW0 := below_step hBase hW; (try dsimp only at hW); go_simp <;> with_reducible rfl); simp only [List.getElem_toArray, List.getElem_cons_zero, List.getElem_cons_succ, Act.put, List.setIfInBounds_toArray, List.set_cons_zero, List.set_cons_succ])
        refine plan_done ?_
        go_wp2_with fail
        go_roundw
        case rel => exact HREL.out _ HV.out
        case measure => simp [intOf]; omega
      | false =>
        have HV : Hid (decide (kl = oth) = usedL ((conT us).take (k + 1)) oth) := by unfold Hid; rw [HEQ.out]; simp
        clear HEQ
        generalize decide (kl = oth) = bv at b0 HV
        generalize strL kl = S0 at b0 hs0
        generalize strL oth = S1 at b0 hs1
        go_wp2_with fail
        refine wp_region_plan (.step 0 false (.step 1 false (.step 2 false (.step 3 false (.step 4 false (.step 5 false (.step 6 false (.step 7 false (.step 8 false (.step 9 false (.step 10 false (.step 11 false (.step 12 false (.step 13 false (.nil))))))))))))))) (by kernel_rfl) (by kernel_rfl) (by rfl) (by kernel_rfl) ?_
        iterate 14 (refine plan_read rfl (by rfl) (v := ?_) ?_ ?_; rotate_left 1; (intro W hW; have hW0 := below_step hBase hW; (try dsimp only at hW); go_simp <;> with_reducible rfl); simp only [List.getElem_toArray, List.getElem_cons_zero, List.getElem_cons_succ, Act.put, List.setIfInBounds_toArray, List.set_cons_zero, List.set_cons_succ])
        refine plan_done ?_
        clear hs0 hs1 b0 hc0 p1
        go_wp2_with fail
        go_roundw
        case rel => exact HREL.out _ HV.out
        case measure => simp [intOf]; omega
    · have i1 : ¬ (k : Int) < (p2 : Int) := by omega
      have hall : (conT us).take k = conT us := List.take_of_length_le (by rw [conT_length, HP2.out]; omega)
      rw [hall]
      obtain ⟨U, hU⟩ : ∃ U, usedL (conT us) oth = U := ⟨_, rfl⟩
      rw [hU] at HUM ⊢
      obtain ⟨kq, t3, e3, d3, s3, hO⟩ : ∃ kd t2 e2 d2 s2, openE 2 (conT us) oth X = (kd, t2, e2, d2, s2) := ⟨_, _, _, _, _, rfl⟩
      have HOX := Lib.hid hO
      clear hO hU
      replace hRe := hRe.later hBk
      replace hro := hro.keep hBk
      replace htu := htu.keep hBk
      replace hoku := hoku.keep hBk
      replace hrx := hrx.keep hBk
      replace HK := Lib.hid (HK.out.keep hBk)
      replace hBB := below_step hBB hBk
      clear hall hBk hk0 hkp
      go_upto_region 26 with fail
      clear e1
      go_wp2_with (refine wpList_load_part rfl 24 (.tmp 14) rfl ge 0 rfl _ _ hRe [.int .i64 2, .slice A2 p2 c2] (by rfl) _ Tryd.underlying24 rfl (by exact size_engine) ?_)
      refine (open_any 2 us oth X p2 o n2 A2 D tA c2 f tc _ HP2 HLU htu hoku (by omega) hpc2 HO hro (by omega) hf HXL hrx hntc (by omega) HK).mono ?_
      rw [HOX.out]
      rintro e₁ w12 ⟨A6, n6, k6, ev6, rfl, HN6, hk6, hr6, hb, hE6⟩
      dsimp only at HN6 hr6 hE6 ⊢
      replace hBB := below_step hBB hb
      clear hb hRe hro htu hoku hrx HK
      have hRn : Row (w12.alloc (.cells #[.int .u64 0, .int .u64 0, .int .u64 0, .slice none 0 0] 28)) w12.heap.size 28 [.int .u64 0, .int .u64 0, .int .u64 0, .slice none 0 0] := Row.new w12 _ _ _ rfl
      go_upto_region 27 with (refine wpList_store_row rfl 28 (.tmp 26) (.tmp 160) rfl w12.heap.size rfl [.int .u64 (t3 : Int), .int .u64 (e3 : Int), .int .u64 (d3 : Int), .slice A6 n6 k6] rfl _ _ hRn (by exact size_act) rfl (one_four _ _ _ _ rfl rfl rfl rfl) ?_)
      have hbn : Below w12.heap.size w12 ((w12.alloc (.cells #[.int .u64 0, .int .u64 0, .int .u64 0, .slice none 0 0] 28)).setRow w12.heap.size [.int .u64 (t3 : Int), .int .u64 (e3 : Int), .int .u64 (d3 : Int), .slice A6 n6 k6].toArray) := below_setRow (below_new (Below.refl _ _) _) (Nat.le_refl _) _
      generalize (w12.alloc (.cells #[.int .u64 0, .int .u64 0, .int .u64 0, .slice none 0 0] 28)).setRow w12.heap.size [.int .u64 (t3 : Int), .int .u64 (e3 : Int), .int .u64 (d3 : Int), .slice A6 n6 k6].toArray = w13 at hbn ⊢
      replace hBB := below_step hBB hbn
      clear hbn hRn
      rcases hE6 with ⟨rfl, rfl⟩ | ⟨_, g6, rfl, _⟩
      · have eU : U = true := HUM.out _ _ _ _ HOX.out
        subst eU
        clear HUM HOX
        go_wp2_with fail
        go_ret
        exact ⟨rfl, hBB⟩
      · clear HUM HOX
        cases U with
        | true =>
          go_wp2_with fail
          go_ret
          exact ⟨rfl, hBB⟩
        | false =>
          go_wp2_with fail
          go_ret
          exact ⟨rfl, hBB⟩
end Go.Proofs.YtknjpmoimjhddaaDoor
/-
  What comes in, opened by its type's shape (no program is named here): numbers, slices of whatever, arrays, structs. No conditions but those typed.
-/
namespace Go.Proofs.YtknjpmoimjhddaaDoor
set_option maxRecDepth 100000
open Go.RowKit Go.Deep Go.WideShapes Go.ChangeShapes

/-- Cells of type t that can be read as data are a reading R of something. -/
def Opens (P : Program) (t : TypeId) {α : Type} (R : World → List Value → α → Prop) : Prop :=
  ∀ {H : Type} (enc : TypeId × Value → H) (w : World) (base : Nat) (spare : Nat → Bool) (held : Bool) (fuel : Nat) (cs : List Value) (x : DataW H × List MemPlace), DataW.trod enc P w base spare held fuel t cs = some x → ∃ a : α, R w cs a

def RByte : World → List Value → UInt8 → Prop := fun _ cs c => cs = [vB c]
def RWord : World → List Value → UInt32 → Prop := fun _ cs c => cs = [vW c]
def RNum : World → List Value → Nat → Prop := fun _ cs v => cs = [.int .u64 (v : Int)] ∧ v < 18446744073709551616
def RInt : World → List Value → Int → Prop := fun _ cs n => cs = [.int .i64 n] ∧ -9223372036854775808 ≤ n ∧ n ≤ 9223372036854775807
def RBool : World → List Value → Bool → Prop := fun _ cs b => cs = [.bool b]

section
variable {P : Program} {t e : TypeId}
theorem opens_byte (ht : P.underlying t = some (.int .u8)) : Opens P t RByte := fun enc w base spare held fuel cs x h => by
  obtain ⟨n, rfl, _, hw⟩ := DataW.trod_int ht h
  simp [Lit.wf, IntKind.min, IntKind.max, IntKind.signed, IntKind.bits] at hw
  refine ⟨UInt8.ofNat n.toNat, ?_⟩
  unfold RByte vB
  rw [UInt8.toNat_ofNat']
  congr 2
  omega
theorem opens_word (ht : P.underlying t = some (.int .u32)) : Opens P t RWord := fun enc w base spare held fuel cs x h => by
  obtain ⟨n, rfl, _, hw⟩ := DataW.trod_int ht h
  simp [Lit.wf, IntKind.min, IntKind.max, IntKind.signed, IntKind.bits] at hw
  refine ⟨UInt32.ofNat n.toNat, ?_⟩
  unfold RWord vW
  rw [UInt32.toNat_ofNat']
  congr 2
  omega
theorem opens_num (ht : P.underlying t = some (.int .u64)) : Opens P t RNum := fun enc w base spare held fuel cs x h => by
  obtain ⟨n, rfl, _, hw⟩ := DataW.trod_int ht h
  obtain ⟨v, hv, rfl⟩ := u64_of_wf hw
  exact ⟨v, rfl, hv⟩
theorem opens_int (ht : P.underlying t = some (.int .i64)) : Opens P t RInt := fun enc w base spare held fuel cs x h => by
  obtain ⟨n, rfl, _, hw⟩ := DataW.trod_int ht h
  exact ⟨n, rfl, i64_of_wf hw⟩

/-- A slice: its elements, of m cells each, lie one behind the other. -/
def RSlice (m : Nat) {α : Type} (R : World → List Value → α → Prop) : World → List Value → List α → Prop := fun w cs l =>
  ∃ (A : Option Addr) (cap : Nat), cs = [.slice A l.length cap] ∧ l.length ≤ cap ∧ cap ≤ 9223372036854775807 ∧
    (l ≠ [] → ∃ b o, A = some ⟨b, o, none⟩ ∧ ∀ i (h : i < l.length), ∃ ecs : List Value, ecs.length = m ∧ (∀ j (hj : j < ecs.length), w.cell? ⟨b, o + i * m + j, none⟩ = some ecs[j]) ∧ R w ecs l[i])

theorem cells_at {w : World} {base : Nat} {a : Addr} {n : Nat} {cs : List Value} (h : w.cells? base a n = some cs) : cs.length = n ∧ ∀ j (hj : j < cs.length), w.cell? (a.add j) = some cs[j] := by
  obtain ⟨_, hl, hc⟩ := World.cells?_some h
  refine ⟨hl, fun j hj => ?_⟩
  have := hc j (by omega)
  rw [this]
  exact List.getElem?_eq_getElem hj

theorem choose_list {α : Type} (n : Nat) (p : Nat → α → Prop) (h : ∀ i, i < n → ∃ a, p i a) : ∃ l : List α, l.length = n ∧ ∀ i (hi : i < l.length), p i l[i] := by
  induction n with
  | zero => exact ⟨[], rfl, fun i hi => by simp at hi⟩
  | succ n ih =>
    obtain ⟨l, hl, hp⟩ := ih (fun i hi => h i (by omega))
    obtain ⟨a, ha⟩ := h n (by omega)
    refine ⟨l ++ [a], by simp [hl], fun i hi => ?_⟩
    by_cases hin : i < l.length
    · rw [List.getElem_append_left hin]; exact hp i hin
    · have : i = n := by simp at hi; omega
      subst this
      rw [List.getElem_append_right (by omega)]
      simpa [hl] using ha

theorem opens_slice {α : Type} {R : World → List Value → α → Prop} {m : Nat} (ht : P.underlying t = some (.slice e)) (hc : P.cellsOf e = m) (hm : 0 < m) (he : Opens P e R) : Opens P t (RSlice m R) := fun enc w base spare held fuel cs x h => by
  rcases open_slice ht h with ⟨rfl, _⟩ | ⟨a, len, cap, mm, n, D, Pl, rfl, hb, hl, hcap, hmm, rfl, hx⟩
  · exact ⟨[], none, 0, rfl, Nat.le_refl _, by omega, fun h => absurd rfl h⟩
  · have hlm : len ≤ mm := by rw [hmm]; split <;> omega
    unfold maxLen at hcap
    obtain ⟨l, hll, hp⟩ := choose_list len (fun i (y : α) => ∃ ecs : List Value, ecs.length = m ∧ (∀ j (hj : j < ecs.length), w.cell? ((a.add (i * m)).add j) = some ecs[j]) ∧ R w ecs y) (fun i hi => by
      obtain ⟨ecs, h1, h2⟩ := hx i (by omega)
      rw [hc] at h1
      obtain ⟨h3, h4⟩ := cells_at h1
      obtain ⟨y, hy⟩ := he enc w base spare held n ecs _ h2
      exact ⟨y, ecs, h3, h4, hy⟩)
    refine ⟨l, some a, cap, by rw [hll], by omega, by omega, fun hn => ?_⟩
    have h0 : 0 < l.length := by
      rcases Nat.eq_zero_or_pos l.length with h | h
      · exact absurd (List.eq_nil_of_length_eq_zero h) hn
      · exact h
    obtain ⟨b, o, spot⟩ := a
    obtain ⟨ecs, h3, h4, _⟩ := hp 0 h0
    have hc0 := h4 0 (by omega)
    have hspot : spot = none := by simpa [Addr.add] using World.cell?_spot hc0
    subst hspot
    have hadd : ∀ i j, ((⟨b, o, none⟩ : Addr).add i).add j = ⟨b, o + i + j, none⟩ := fun i j => by unfold Addr.add; split <;> split <;> simp_all
    refine ⟨b, o, rfl, fun i hi => ?_⟩
    obtain ⟨ecs, h3, h4, h5⟩ := hp i hi
    exact ⟨ecs, h3, fun j hj => by rw [← hadd]; exact h4 j hj, h5⟩

/-- An array: its elements' cells one behind the other (elements of one cell). -/
def RArr (n : Nat) {α : Type} (R : World → List Value → α → Prop) : World → List Value → List α → Prop := fun w cs l => l.length = n ∧ cs.length = n ∧ ∀ i (h : i < l.length), R w ((cs.drop i).take 1) l[i]
theorem opens_arr {α : Type} {R : World → List Value → α → Prop} {n : Nat} (ht : P.underlying t = some (.array n e)) (hc : P.cellsOf e = 1) (hn : P.cellsOf t = n) (he : Opens P e R) : Opens P t (RArr n R) := fun enc w base spare held fuel cs x h => by
  obtain ⟨xs, m, _, _, hl, hxl, hx⟩ := DataW.trod_array ht h
  obtain ⟨l, hll, hp⟩ := choose_list n (fun i (y : α) => R w ((cs.drop i).take 1) y) (fun i hi => by
    have := hx i hi
    rw [hc, Nat.mul_one, List.getElem?_eq_getElem (by omega)] at this
    exact he enc w base spare held m _ _ this)
  exact ⟨l, hll, by omega, hp⟩

/-- Structs of two to four fields: each field's cells. -/
def RTwo (a0 n0 a1 n1 : Nat) {α β : Type} (R : World → List Value → α → Prop) (S : World → List Value → β → Prop) : World → List Value → α × β → Prop := fun w cs x => cs.length = n0 + n1 ∧ R w ((cs.drop a0).take n0) x.1 ∧ S w ((cs.drop a1).take n1) x.2
def RThree (a0 n0 a1 n1 a2 n2 : Nat) {α β γ : Type} (R : World → List Value → α → Prop) (S : World → List Value → β → Prop) (T : World → List Value → γ → Prop) : World → List Value → α × β × γ → Prop := fun w cs x => cs.length = n0 + n1 + n2 ∧ R w ((cs.drop a0).take n0) x.1 ∧ S w ((cs.drop a1).take n1) x.2.1 ∧ T w ((cs.drop a2).take n2) x.2.2
theorem opens_two {α β : Type} {R : World → List Value → α → Prop} {S : World → List Value → β → Prop} {f0 f1 : Field} {a0 n0 a1 n1 : Nat} (ht : P.underlying t = some (.struct #[f0, f1])) (e0 : f0.offset = a0) (e1 : f1.offset = a1) (c0 : P.cellsOf f0.type = n0) (c1 : P.cellsOf f1.type = n1) (hn : P.cellsOf t = n0 + n1)
    (h0 : Opens P f0.type R) (h1 : Opens P f1.type S) : Opens P t (RTwo a0 n0 a1 n1 R S) := fun enc w base spare held fuel cs x h => by
  obtain ⟨xs, n, _, _, hl, hxl, hx⟩ := DataW.trod_struct ht h
  have k0 := hx 0 f0 rfl
  have k1 := hx 1 f1 rfl
  simp only [List.size_toArray, List.length_cons, List.length_nil, Nat.zero_add, Nat.reduceAdd] at hxl
  rw [List.getElem?_eq_getElem (by omega), e0, c0] at k0
  rw [List.getElem?_eq_getElem (by omega), e1, c1] at k1
  obtain ⟨x0, r0⟩ := h0 enc w base spare held n _ _ k0
  obtain ⟨x1, r1⟩ := h1 enc w base spare held n _ _ k1
  exact ⟨(x0, x1), by omega, r0, r1⟩
theorem opens_three {α β γ : Type} {R : World → List Value → α → Prop} {S : World → List Value → β → Prop} {T : World → List Value → γ → Prop} {f0 f1 f2 : Field} {a0 n0 a1 n1 a2 n2 : Nat} (ht : P.underlying t = some (.struct #[f0, f1, f2])) (e0 : f0.offset = a0) (e1 : f1.offset = a1) (e2 : f2.offset = a2)
    (c0 : P.cellsOf f0.type = n0) (c1 : P.cellsOf f1.type = n1) (c2 : P.cellsOf f2.type = n2) (hn : P.cellsOf t = n0 + n1 + n2) (h0 : Opens P f0.type R) (h1 : Opens P f1.type S) (h2 : Opens P f2.type T) : Opens P t (RThree a0 n0 a1 n1 a2 n2 R S T) := fun enc w base spare held fuel cs x h => by
  obtain ⟨xs, n, _, _, hl, hxl, hx⟩ := DataW.trod_struct ht h
  have k0 := hx 0 f0 rfl
  have k1 := hx 1 f1 rfl
  have k2 := hx 2 f2 rfl
  simp only [List.size_toArray, List.length_cons, List.length_nil, Nat.zero_add, Nat.reduceAdd] at hxl
  rw [List.getElem?_eq_getElem (by omega), e0, c0] at k0
  rw [List.getElem?_eq_getElem (by omega), e1, c1] at k1
  rw [List.getElem?_eq_getElem (by omega), e2, c2] at k2
  obtain ⟨x0, r0⟩ := h0 enc w base spare held n _ _ k0
  obtain ⟨x1, r1⟩ := h1 enc w base spare held n _ _ k1
  obtain ⟨x2, r2⟩ := h2 enc w base spare held n _ _ k2
  exact ⟨(x0, x1, x2), by omega, r0, r1, r2⟩
end

/-! ### Back to the words that the walks go by -/
theorem rd_of_rslice {α : Type} {f : α → Value} {R : World → List Value → α → Prop} {w : World} {cs : List Value} {l : List α} (hR : ∀ ecs x, R w ecs x → ecs = [f x]) (h : RSlice 1 R w cs l) : ∃ A cap, cs = [.slice A l.length cap] ∧ l.length ≤ cap ∧ cap ≤ 9223372036854775807 ∧ Rd f w A l := by
  obtain ⟨A, cap, e, h1, h2, h3⟩ := h
  refine ⟨A, cap, e, h1, h2, fun hn => ?_⟩
  obtain ⟨b, o, rfl, hc⟩ := h3 hn
  refine ⟨b, o, rfl, fun i hi => ?_⟩
  obtain ⟨ecs, _, h5, h6⟩ := hc i hi
  have := hR _ _ h6
  subst this
  have := h5 0 (by simp)
  simpa using this
theorem bytes_of_r {w : World} {cs : List Value} {l : List UInt8} (h : RSlice 1 RByte w cs l) : ∃ A cap, cs = [.slice A l.length cap] ∧ l.length ≤ cap ∧ cap ≤ 9223372036854775807 ∧ Rd vB w A l := rd_of_rslice (fun _ _ h => h) h
theorem words_of_r {w : World} {cs : List Value} {l : List UInt32} (h : RSlice 1 RWord w cs l) : ∃ A cap, cs = [.slice A l.length cap] ∧ l.length ≤ cap ∧ cap ≤ 9223372036854775807 ∧ Rd vW w A l := rd_of_rslice (fun _ _ h => h) h
theorem arr_words {n : Nat} {w : World} {cs : List Value} {l : List UInt32} (h : RArr n RWord w cs l) : cs = l.map vW ∧ l.length = n := by
  obtain ⟨h1, h2, h3⟩ := h
  refine ⟨?_, h1⟩
  apply List.ext_getElem
  · simp; omega
  · intro i hi hi'
    have := h3 i (by omega)
    unfold RWord at this
    have h4 := congrArg (fun l => l[0]?) this
    simp only [List.getElem?_take, List.getElem?_drop, Nat.add_zero, List.getElem?_eq_getElem hi, Nat.zero_lt_one, if_true, List.getElem?_cons_zero, Option.some.injEq] at h4
    rw [h4]
    simp

/-! ### A value and its cells -/
theorem okWide_arr {P : Program} {w : World} {r : Reach} {base n : Nat} {t e : TypeId} {v : Value} (ht : P.underlying t = some (.array n e)) (h : Value.okWide P w r base t v) : ∃ cs, v = .agg cs ∧ cs.size = P.cellsOf t := by
  simp only [Value.okWide, ht] at h
  obtain ⟨cs, h1, h2, _⟩ := h
  exact ⟨cs, h1, h2⟩

end Go.Proofs.YtknjpmoimjhddaaDoor
/-
  A parameter that is a slice of bytes, opened. No conditions.
-/
namespace Go.Proofs.YtknjpmoimjhddaaDoor
set_option maxRecDepth 100000
open Go.RowKit Go.WideShapes
set_option linter.unusedSimpArgs false
set_option linter.unusedVariables false

theorem opens_bytes : Opens Tryd.prog 25 (RSlice 1 RByte) := opens_slice Tryd.underlying25 (by kernel_rfl) (by omega) (opens_byte Tryd.underlying5)
section
variable {H : Type} {enc : TypeId × Value → H} {W : World} {base b1 : Nat} {spare : Nat → Bool} {held : Bool} {r : Reach} {v : Value} {d : DataW H} {p : List MemPlace}
theorem open_bytes (hv : Value.okWide Tryd.prog W r base 25 v) (ht : DataW.Trod enc Tryd.prog W b1 spare held 25 v d p) : ∃ (l : List UInt8) (A : Option Addr) (cap : Nat), v = .slice A l.length cap ∧ l.length ≤ cap ∧ cap ≤ 9223372036854775807 ∧ Rd vB W A l := by
  obtain ⟨a, len, cap, rfl⟩ := okWide_slice Tryd.underlying25 hv
  obtain ⟨fuel, hf⟩ := ht
  obtain ⟨l, hl⟩ := opens_bytes enc W _ _ _ _ _ _ hf
  obtain ⟨A, c, e, h1, h2, h3⟩ := bytes_of_r hl
  simp [Value.cells] at e
  obtain ⟨rfl, rfl, rfl⟩ := e
  exact ⟨l, _, _, rfl, h1, h2, h3⟩
end
end Go.Proofs.YtknjpmoimjhddaaDoor
/-
  Structs of four fields, opened. No conditions.
-/
namespace Go.Proofs.YtknjpmoimjhddaaDoor
set_option maxRecDepth 100000
open Go.RowKit Go.Deep Go.WideShapes Go.ChangeShapes
set_option linter.unusedSimpArgs false
set_option linter.unusedVariables false

/-- Structs of four fields: each field's cells. -/
def RFour (a0 n0 a1 n1 a2 n2 a3 n3 : Nat) {α β γ δ : Type} (R : World → List Value → α → Prop) (S : World → List Value → β → Prop) (T : World → List Value → γ → Prop) (U : World → List Value → δ → Prop) : World → List Value → α × β × γ × δ → Prop := fun w cs x => cs.length = n0 + n1 + n2 + n3 ∧ R w ((cs.drop a0).take n0) x.1 ∧ S w ((cs.drop a1).take n1) x.2.1 ∧ T w ((cs.drop a2).take n2) x.2.2.1 ∧ U w ((cs.drop a3).take n3) x.2.2.2
theorem opens_four {P : Program} {t : TypeId} {α β γ δ : Type} {R : World → List Value → α → Prop} {S : World → List Value → β → Prop} {T : World → List Value → γ → Prop} {U : World → List Value → δ → Prop} {f0 f1 f2 f3 : Field} {a0 n0 a1 n1 a2 n2 a3 n3 : Nat} (ht : P.underlying t = some (.struct #[f0, f1, f2, f3])) (e0 : f0.offset = a0) (e1 : f1.offset = a1) (e2 : f2.offset = a2) (e3 : f3.offset = a3)
    (c0 : P.cellsOf f0.type = n0) (c1 : P.cellsOf f1.type = n1) (c2 : P.cellsOf f2.type = n2) (c3 : P.cellsOf f3.type = n3) (hn : P.cellsOf t = n0 + n1 + n2 + n3) (h0 : Opens P f0.type R) (h1 : Opens P f1.type S) (h2 : Opens P f2.type T) (h3 : Opens P f3.type U) : Opens P t (RFour a0 n0 a1 n1 a2 n2 a3 n3 R S T U) := fun enc w base spare held fuel cs x h => by
  obtain ⟨xs, n, _, _, hl, hxl, hx⟩ := DataW.trod_struct ht h
  have k0 := hx 0 f0 rfl
  have k1 := hx 1 f1 rfl
  have k2 := hx 2 f2 rfl
  have k3 := hx 3 f3 rfl
  simp only [List.size_toArray, List.length_cons, List.length_nil, Nat.zero_add, Nat.reduceAdd] at hxl
  rw [List.getElem?_eq_getElem (by omega), e0, c0] at k0
  rw [List.getElem?_eq_getElem (by omega), e1, c1] at k1
  rw [List.getElem?_eq_getElem (by omega), e2, c2] at k2
  rw [List.getElem?_eq_getElem (by omega), e3, c3] at k3
  obtain ⟨x0, r0⟩ := h0 enc w base spare held n _ _ k0
  obtain ⟨x1, r1⟩ := h1 enc w base spare held n _ _ k1
  obtain ⟨x2, r2⟩ := h2 enc w base spare held n _ _ k2
  obtain ⟨x3, r3⟩ := h3 enc w base spare held n _ _ k3
  exact ⟨(x0, x1, x2, x3), by omega, r0, r1, r2, r3⟩
end Go.Proofs.YtknjpmoimjhddaaDoor
/-
  A parameter that is an activation, opened. No conditions.
-/
namespace Go.Proofs.YtknjpmoimjhddaaDoor
set_option maxRecDepth 100000
open Go.RowKit Go.Deep Go.WideShapes Go.ChangeShapes
set_option linter.unusedSimpArgs false
set_option linter.unusedVariables false

theorem opens_act : Opens Tryd.prog 28 (RFour 0 1 1 1 2 1 3 1 RNum RNum RNum (RSlice 1 RByte)) := opens_four Tryd.underlying28 rfl rfl rfl rfl (by kernel_rfl) (by kernel_rfl) (by kernel_rfl) (by kernel_rfl) (by kernel_rfl) (opens_num Tryd.underlying26) (opens_num Tryd.underlying26) (opens_num Tryd.underlying26) opens_bytes
section
variable {H : Type} {enc : TypeId × Value → H} {W : World} {base b1 : Nat} {spare : Nat → Bool} {held : Bool} {r : Reach} {v : Value} {d : DataW H} {p : List MemPlace}
theorem open_act (hv : Value.okWide Tryd.prog W r base 28 v) (ht : DataW.Trod enc Tryd.prog W b1 spare held 28 v d p) : ∃ (t e c : Nat) (l : List UInt8) (A : Option Addr) (cap : Nat), v = aggP t e c A l.length cap ∧ t < 18446744073709551616 ∧ e < 18446744073709551616 ∧ c < 18446744073709551616 ∧ l.length ≤ cap ∧ cap ≤ 9223372036854775807 ∧ Rd vB W A l := by
  obtain ⟨cs, rfl, _⟩ := okWide_struct Tryd.underlying28 hv
  obtain ⟨fuel, hf⟩ := ht
  obtain ⟨⟨t, e, c, l⟩, hl, h0, h1, h2, h3⟩ := opens_act enc W _ _ _ _ _ _ hf
  obtain ⟨A, k, e3, h4, h5, h6⟩ := bytes_of_r h3
  obtain ⟨e0, g0⟩ := h0
  obtain ⟨e1, g1⟩ := h1
  obtain ⟨e2, g2⟩ := h2
  refine ⟨t, e, c, l, A, k, ?_, g0, g1, g2, h4, h5, h6⟩
  unfold aggP
  congr 1
  apply Array.toList_inj.1
  simp only [Value.cells] at hl e0 e1 e2 e3
  match hcs : cs.toList, hl with
  | [x0, x1, x2, x3], _ =>
    rw [hcs] at e0 e1 e2 e3
    simp at e0 e1 e2 e3
    rw [e0, e1, e2, e3]
end
end Go.Proofs.YtknjpmoimjhddaaDoor
/-
  A parameter that is a list of terms, opened. No conditions.
-/
namespace Go.Proofs.YtknjpmoimjhddaaDoor
set_option maxRecDepth 100000
open Go.RowKit Go.WideShapes
set_option linter.unusedSimpArgs false
set_option linter.unusedVariables false

/-- What comes in: terms in memory, whose bytes are there, no longer than may be. -/
def inT (w : World) (A : Option Addr) (ts : List TD) : Prop := RdT w A ts ∧ okT w ts ∧ ∀ x ∈ ts, x.k.length ≤ 9223372036854775807 ∧ x.m.length ≤ 9223372036854775807
theorem inT.keep {w w' : World} {A : Option Addr} {ts : List TD} (h : inT w A ts) (hb : Below w.heap.size w w') : inT w' A ts := ⟨h.1.keep hb, h.2.1.keep hb, h.2.2⟩

theorem opens_term : Opens Tryd.prog 47 (RTwo 0 1 1 1 (RSlice 1 RByte) (RSlice 1 RByte)) := opens_two Tryd.underlying47 rfl rfl (by kernel_rfl) (by kernel_rfl) (by kernel_rfl) opens_bytes opens_bytes
theorem opens_terms : Opens Tryd.prog 22 (RSlice 2 (RTwo 0 1 1 1 (RSlice 1 RByte) (RSlice 1 RByte))) := opens_slice Tryd.underlying22 (by kernel_rfl) (by omega) opens_term

theorem term_of_r {w : World} {cs : List Value} {x : Tm} (h : RTwo 0 1 1 1 (RSlice 1 RByte) (RSlice 1 RByte) w cs x) : ∃ t : TD, cs = [t.at0, t.at1] ∧ t.ok w ∧ t.k.length ≤ 9223372036854775807 ∧ t.m.length ≤ 9223372036854775807 := by
  obtain ⟨hl, h0, h1⟩ := h
  obtain ⟨A, c, e0, h2, h3, h4⟩ := bytes_of_r h0
  obtain ⟨B, d, e1, h5, h6, h7⟩ := bytes_of_r h1
  refine ⟨⟨A, c, x.1, B, d, x.2⟩, ?_, ⟨h2, h5, h4, h7⟩, by show x.1.length ≤ _; omega, by show x.2.length ≤ _; omega⟩
  match cs, hl with
  | [a, b], _ =>
    simp at e0 e1
    rw [e0, e1]
    rfl
theorem terms_of_r {w : World} {cs : List Value} {ls : List Tm} (h : RSlice 2 (RTwo 0 1 1 1 (RSlice 1 RByte) (RSlice 1 RByte)) w cs ls) : ∃ (ts : List TD) (A : Option Addr) (cap : Nat), cs = [.slice A ts.length cap] ∧ ts.length ≤ cap ∧ cap ≤ 9223372036854775807 ∧ inT w A ts := by
  obtain ⟨A, cap, e, h1, h2, h3⟩ := h
  by_cases hn : ls = []
  · subst hn
    exact ⟨[], A, cap, e, h1, h2, RdT.nil, (fun x hx => by cases hx), fun x hx => by cases hx⟩
  · obtain ⟨b, o, rfl, hc⟩ := h3 hn
    obtain ⟨ts, hl, hp⟩ := choose_list ls.length (fun i (t : TD) => (w.cell? ⟨b, o + i * 2, none⟩ = some t.at0 ∧ w.cell? ⟨b, o + i * 2 + 1, none⟩ = some t.at1) ∧ t.ok w ∧ t.k.length ≤ 9223372036854775807 ∧ t.m.length ≤ 9223372036854775807) (fun i hi => by
      obtain ⟨ecs, h4, h5, h6⟩ := hc i hi
      obtain ⟨t, rfl, h7, h8, h9⟩ := term_of_r h6
      exact ⟨t, ⟨h5 0 (by simp), h5 1 (by simp)⟩, h7, h8, h9⟩)
    refine ⟨ts, some ⟨b, o, none⟩, cap, by rw [hl]; exact e, by omega, h2, fun _ => ⟨b, o, rfl, fun i hi => (hp i hi).1⟩, fun x hx => ?_, fun x hx => ?_⟩
    · obtain ⟨i, hi, rfl⟩ := List.getElem_of_mem hx
      exact (hp i hi).2.1
    · obtain ⟨i, hi, rfl⟩ := List.getElem_of_mem hx
      exact (hp i hi).2.2

section
variable {H : Type} {enc : TypeId × Value → H} {W : World} {base b1 : Nat} {spare : Nat → Bool} {held : Bool} {r : Reach} {v : Value} {d : DataW H} {p : List MemPlace}
theorem open_terms (hv : Value.okWide Tryd.prog W r base 22 v) (ht : DataW.Trod enc Tryd.prog W b1 spare held 22 v d p) : ∃ (ts : List TD) (A : Option Addr) (cap : Nat), v = .slice A ts.length cap ∧ ts.length ≤ cap ∧ cap ≤ 9223372036854775807 ∧ inT W A ts := by
  obtain ⟨a, len, cap, rfl⟩ := okWide_slice Tryd.underlying22 hv
  obtain ⟨fuel, hf⟩ := ht
  obtain ⟨l, hl⟩ := opens_terms enc W _ _ _ _ _ _ hf
  obtain ⟨ts, A, c, e, h1, h2, h3⟩ := terms_of_r hl
  simp [Value.cells] at e
  obtain ⟨rfl, rfl, rfl⟩ := e
  exact ⟨ts, _, _, rfl, h1, h2, h3⟩
end

end Go.Proofs.YtknjpmoimjhddaaDoor
/-
  Parameters that are an engine, a byte, or a number, opened. No conditions.
-/
namespace Go.Proofs.YtknjpmoimjhddaaDoor
set_option maxRecDepth 100000
open Go.RowKit Go.WideShapes
set_option linter.unusedSimpArgs false
set_option linter.unusedVariables false

theorem opens_engine : Opens Tryd.prog 24 (RTwo 0 1 1 1 RInt (RSlice 2 (RTwo 0 1 1 1 (RSlice 1 RByte) (RSlice 1 RByte)))) := opens_two Tryd.underlying24 rfl rfl (by kernel_rfl) (by kernel_rfl) (by kernel_rfl) (opens_int Tryd.underlying3) opens_terms
section
variable {H : Type} {enc : TypeId × Value → H} {W : World} {base b1 : Nat} {spare : Nat → Bool} {held : Bool} {r : Reach} {v : Value} {d : DataW H} {p : List MemPlace}
theorem open_engine (hv : Value.okWide Tryd.prog W r base 24 v) (ht : DataW.Trod enc Tryd.prog W b1 spare held 24 v d p) : ∃ (K : Int) (ts : List TD) (A : Option Addr) (cap : Nat), v = .agg #[.int .i64 K, .slice A ts.length cap] ∧ ts.length ≤ cap ∧ cap ≤ 9223372036854775807 ∧ inT W A ts := by
  obtain ⟨cs, rfl, _⟩ := okWide_struct Tryd.underlying24 hv
  obtain ⟨fuel, hf⟩ := ht
  obtain ⟨⟨K, l⟩, hl, h0, h1⟩ := opens_engine enc W _ _ _ _ _ _ hf
  obtain ⟨ts, A, c, e, h2, h3, h4⟩ := terms_of_r h1
  obtain ⟨e0, _⟩ := h0
  refine ⟨K, ts, A, c, ?_, h2, h3, h4⟩
  congr 1
  apply Array.toList_inj.1
  simp only [Value.cells] at hl e e0
  match hcs : cs.toList, hl with
  | [a, b], _ =>
    rw [hcs] at e e0
    simp at e e0
    rw [e, e0]
theorem open_u8 (hv : Value.okWide Tryd.prog W r base 5 v) (ht : DataW.Trod enc Tryd.prog W b1 spare held 5 v d p) : ∃ y : UInt8, v = .int .u8 (y.toNat : Int) := by
  obtain ⟨n, rfl⟩ := okWide_int Tryd.underlying5 hv
  obtain ⟨fuel, hf⟩ := ht
  obtain ⟨y, hy⟩ := opens_byte Tryd.underlying5 enc W _ _ _ _ _ _ hf
  unfold RByte vB at hy
  simp [Value.cells] at hy
  exact ⟨y, by rw [hy]⟩
theorem open_i64 (hv : Value.okWide Tryd.prog W r base 3 v) (ht : DataW.Trod enc Tryd.prog W b1 spare held 3 v d p) : ∃ n : Int, v = .int .i64 n := okWide_int Tryd.underlying3 hv
end
end Go.Proofs.YtknjpmoimjhddaaDoor
/-
  The table of sixty-four words, where no row lists it: it holds some words, whichever (a world of the form's shape). No conditions.
-/
namespace Go.Proofs.YtknjpmoimjhddaaDoor
set_option maxRecDepth 100000
open Go.RowKit

theorem tab_first : (((begin Tryd.prog (fun _ _ => 0) default).world.heap[1]?).bind Obj.row?).map (fun x => (x.1.size, x.2)) = some (64, 200) := by kernel_rfl
theorem tab_global : decide (1 < Tryd.prog.globals.size) = true := by kernel_rfl
theorem tab_build : Tryd.prog.buildable 200 = true := by kernel_rfl
theorem tab_cells : Tryd.prog.cellTypes Tryd.prog.depth 200 = some (List.replicate 64 177) := by kernel_rfl
theorem tab_of_open {w : World} (h : w.ShapedOpen Tryd.prog) : ∃ _ : Inhabited Tab, KTab w := by
  obtain ⟨h1, _⟩ := h
  obtain ⟨zero, t, hz, h64, ht⟩ : ∃ zero t, ((begin Tryd.prog (fun _ _ => 0) default).world.heap[1]?).bind Obj.row? = some (zero, t) ∧ zero.size = 64 ∧ t = 200 := by
    have e := tab_first
    cases hx : ((begin Tryd.prog (fun _ _ => 0) default).world.heap[1]?).bind Obj.row? with
    | none => rw [hx] at e; cases e
    | some x =>
      rw [hx] at e
      injection e with e
      injection e with e1 e2
      exact ⟨x.1, x.2, rfl, e1, e2⟩
  subst ht
  obtain ⟨cs, hcs, hsz, hrow⟩ := h1 _ zero _ (of_decide_eq_true tab_global) hz
  obtain ⟨ts, hts, _, hcell⟩ := hrow tab_build
  rw [tab_cells] at hts
  injection hts with hts
  subst hts
  rw [h64] at hsz
  have hval : ∀ i (hi : i < 64), ∃ x : UInt32, cs[i]? = some (.int .u32 (x.toNat : Int)) := fun i hi => by
    have hlt : i < cs.size := by omega
    obtain ⟨u, hu, hok⟩ := hcell i cs[i] (Array.getElem?_eq_getElem hlt)
    rw [List.length_replicate, List.getElem?_replicate, if_pos (Nat.mod_lt _ (by omega))] at hu
    injection hu with hu
    subst hu
    unfold Cell.ok at hok
    rw [Tryd.underlying177] at hok
    rw [Array.getElem?_eq_getElem hlt]
    generalize cs[i] = v at hok
    cases v with
    | int k n =>
      obtain ⟨rfl, hn⟩ := hok
      simp [IntKind.has, IntKind.min, IntKind.max, IntKind.signed, IntKind.bits] at hn
      exact ⟨UInt32.ofNat n.toNat, by rw [UInt32.toNat_ofNat']; congr 2; omega⟩
    | _ => exact hok.elim
  obtain ⟨f, hf⟩ : ∃ f : Nat → UInt32, ∀ i, i < 64 → cs[i]? = some (.int .u32 ((f i).toNat : Int)) := by
    refine ⟨fun i => if hi : i < 64 then (hval i hi).choose else 0, fun i hi => ?_⟩
    dsimp only
    rw [dif_pos hi]
    exact (hval i hi).choose_spec
  refine ⟨⟨⟨(List.range 64).map f⟩⟩, fun i hi => ?_⟩
  have e : (((List.range 64).map f).getD i 0) = f i := by simp [List.getD, hi]
  show w.cell? ⟨1, i, none⟩ = some (.int .u32 (((((List.range 64).map f).getD i 0)).toNat : Int))
  rw [e, ← hf i hi]
  exact cell_of_row w _ i cs _ (0, 0) hcs
end Go.Proofs.YtknjpmoimjhddaaDoor
/-
  What the rows' condition on the package-level variable errors.errorType gives the walks: its one cell, the handle of the type error. Condition: the variable reads as the rows list it.
-/
namespace Go.Proofs.YtknjpmoimjhddaaDoor
set_option maxRecDepth 100000
open Go.RowKit

theorem etc_global : Tryd.prog.globalNamed "errors.errorType" = some 0 := by kernel_rfl
theorem etc_rtype : (Tryd.prog.cutTypes.find? (·.1 == "internal/reflectlite.rtype")).map (·.2) = some 138 := by kernel_rfl
theorem etc_one : ((List.range Tryd.prog.types.size).filter fun t => Tryd.prog.rowNamed t [101, 114, 114, 111, 114]) = [32] := by kernel_rfl
theorem etc_of_handles {l : List (String × DataW Unit)} {W : World} (h : handlesMet Tryd.prog l W) (hm : ("errors.errorType", Rows.laid_errors_errorType) ∈ l) : EtC W := by
  obtain ⟨name, u, ty, e1, e2, e3, e4, e5⟩ := h _ hm
  have en : name = [101, 114, 114, 111, 114] := (Option.some.inj e1).symm
  subst en
  obtain rfl := Option.some.inj (etc_rtype.symm.trans e2)
  have hmem : ty ∈ (List.range Tryd.prog.types.size).filter fun t => Tryd.prog.rowNamed t [101, 114, 114, 111, 114] := List.mem_filter.2 ⟨List.mem_range.2 e3, e4⟩
  rw [etc_one] at hmem
  obtain rfl := List.mem_singleton.1 hmem
  have hh : typeHandle Tryd.prog 32 = .pointer (some ⟨2, 32, none⟩) := by kernel_rfl
  rw [hh] at e5
  unfold EtC
  simpa using World.var?_cell etc_global e5 0
theorem etc_of_laid {W : World} (h : laidMetH Tryd.prog [("errors.errorType", Rows.laid_errors_errorType)] W) : EtC W := by
  have h' : laidMet Tryd.prog [] W ∧ handlesMet Tryd.prog [("errors.errorType", Rows.laid_errors_errorType)] W := h
  exact etc_of_handles h'.2 (List.mem_singleton.2 rfl)
end Go.Proofs.YtknjpmoimjhddaaDoor
/-
  The laws RecordBack and RecordTurned of layer 14, at whatever comes in, whatever words the table of layer 2 holds. Condition: errors.errorType holds the handle of the type error (EtC).
-/
namespace Go.Proofs.YtknjpmoimjhddaaDoor
set_option maxRecDepth 100000
open Go.RowKit Go.WideShapes
set_option linter.unusedSimpArgs false
set_option linter.unusedVariables false

theorem smallE_parts {cs : List Tm} {n m : Nat} (h : smallE cs n m = true) : shortT cs = true ∧ n ≤ 300 ∧ m ≤ 300 := by
  unfold smallE at h
  simpa using h
theorem recback_out [Inhabited Tab] (Kn : Int) (ts : List TD) (p n m nb : Nat) (A B C D : Option Addr) (c bd cd f : Nat) (t e d : Nat) (q0 : Nat) (w : World) (HP : Hid (ts.length = p)) (hT : RdT w A ts) (hml : ∀ x ∈ ts, x.k.length ≤ 9223372036854775807 ∧ x.m.length ≤ 9223372036854775807) (hp : p ≤ 9223372036854775807) (hn : n ≤ 9223372036854775807) (hm : m ≤ 9223372036854775807) (hb : nb ≤ 9223372036854775807)
    (h : ¬ (shortT (conT ts) = true ∧ n ≤ 300 ∧ nb ≤ 300 ∧ m ≤ 300)) (HK : Hid (KTab w)) (hg : EtC w) :
    Calls Tryd.prog 3 #[.agg #[.int .i64 Kn, .slice A p c], .slice B n bd, aggP t e d C m cd, .slice D nb f, .int .u8 (q0 : Int)] w fun e₁ w' => e₁ = .returned (.bool true) ∧ Below w.heap.size w w' := by
  obtain ⟨hR, hB0⟩ := box_rows w 24 (.int .i64 Kn) (.slice A p c)
  obtain ⟨hRa, hBa⟩ := box_pay (w.alloc (.cells #[.int .i64 Kn, .slice A p c] 24)) 28 (.int .u64 (t : Int)) (.int .u64 (e : Int)) (.int .u64 (d : Int)) (.slice C m cd)
  replace hR := hR.later hBa
  have hBB := below_step hB0 hBa
  have hz : (w.alloc (.cells #[.int .i64 Kn, .slice A p c] 24)).heap.size = w.heap.size + 1 := by simp
  rw [hz] at hRa
  replace hT := hT.keep hBB
  replace HK := Lib.hid (HK.out.keep hBB)
  replace hg := hg.later hBB
  have HH := Lib.hid h
  have HML := Lib.hid hml
  clear hB0 hBa hz h hml
  unfold aggP
  go_enter Tryd.func3, Tryd.ntmps3
  go_upto_region 1 with fail
  generalize (w.alloc (.cells #[.int .i64 Kn, .slice A p c] 24)).alloc (.cells #[.int .u64 (t : Int), .int .u64 (e : Int), .int .u64 (d : Int), .slice C m cd] 28) = W0 at hR hRa hBB hT HK hg ⊢
  go_wp2_with fail
  refine (awake14_any _ HK hg).mono ?_
  rintro e₁ w1 ⟨rfl, hb1⟩
  replace hR := hR.later hb1
  replace hRa := hRa.later hb1
  replace hT := hT.keep hb1
  replace hBB := below_step hBB hb1
  clear hb1 HK hg
  go_wp2_with (refine wpList_load_part rfl 24 (.tmp 5) rfl w.heap.size 0 rfl _ _ hR [.int .i64 Kn, .slice A p c] (by rfl) _ Tryd.underlying24 rfl (by exact size_engine) ?_)
  refine (small_any Kn ts p n nb A B D c bd f _ HP hT HML.out hp hn hb).mono ?_
  obtain ⟨S, hS⟩ : ∃ S, smallE (conT ts) n nb = S := ⟨_, rfl⟩
  have HS := Lib.hid hS
  rw [hS]
  clear hS
  rintro e₁ w2 ⟨rfl, hb2⟩
  replace hRa := hRa.later hb2
  replace hBB := below_step hBB hb2
  clear hb2 hR hT
  cases S with
  | false =>
    clear HH HS hRa
    go_wp2_with fail
    go_ret
    exact ⟨rfl, hBB⟩
  | true =>
    have h3 : 300 < m := by
      obtain ⟨h1, h2, h4⟩ := smallE_parts HS.out
      have h5 := HH.out
      have : ¬ m ≤ 300 := fun h6 => h5 ⟨h1, h2, h4, h6⟩
      omega
    have c3 : w2.cell? ⟨w.heap.size + 1, 3, none⟩ = some (.slice C m cd) := hRa.cell rfl
    have g3 : decide ((300 : Int) < (m : Int)) = true := decide_eq_true (by omega)
    clear HH HS hRa
    go_wp2_with fail
    go_ret
    exact ⟨rfl, hBB⟩
theorem recturned_out [Inhabited Tab] (ts : List TD) (p n m o : Nat) (A B C D : Option Addr) (c bd cd f : Nat) (t e d : Nat) (a0 y0 : Nat) (w : World) (HP : Hid (ts.length = p)) (hT : RdT w A ts) (hml : ∀ x ∈ ts, x.k.length ≤ 9223372036854775807 ∧ x.m.length ≤ 9223372036854775807) (hp : p ≤ 9223372036854775807) (hn : n ≤ 9223372036854775807) (hm : m ≤ 9223372036854775807) (hb : o ≤ 9223372036854775807)
    (h : ¬ (shortT (conT ts) = true ∧ n ≤ 300 ∧ o ≤ 300 ∧ m ≤ 300)) (HK : Hid (KTab w)) (hg : EtC w) :
    Calls Tryd.prog 4 #[.slice A p c, .slice B n bd, .slice D o f, aggP t e d C m cd, .int .u8 (a0 : Int), .int .u8 (y0 : Int)] w fun e₁ w' => e₁ = .returned (.bool true) ∧ Below w.heap.size w w' := by
  obtain ⟨hRa, hBB⟩ := box_pay w 28 (.int .u64 (t : Int)) (.int .u64 (e : Int)) (.int .u64 (d : Int)) (.slice C m cd)
  replace hT := hT.keep hBB
  replace HK := Lib.hid (HK.out.keep hBB)
  replace hg := hg.later hBB
  have HH := Lib.hid h
  have HML := Lib.hid hml
  clear h hml
  unfold aggP
  go_enter Tryd.func4, Tryd.ntmps4
  go_upto_region 1 with fail
  generalize (w.alloc (.cells #[.int .u64 (t : Int), .int .u64 (e : Int), .int .u64 (d : Int), .slice C m cd] 28)) = W0 at hRa hBB hT HK hg ⊢
  go_wp2_with fail
  refine (awake14_any _ HK hg).mono ?_
  rintro e₁ w1 ⟨rfl, hb1⟩
  replace hRa := hRa.later hb1
  replace hT := hT.keep hb1
  replace hBB := below_step hBB hb1
  clear hb1 HK hg
  have hRn : Row (w1.alloc (.cells #[.int .i64 0, .slice none 0 0] 24)) w1.heap.size 24 [.int .i64 0, .slice none 0 0] := Row.new w1 _ _ _ rfl
  go_upto_region 4 with (refine wpList_store_row rfl 24 (.tmp 13) (.tmp 31) rfl w1.heap.size rfl [.int .i64 2, .slice A p c] rfl _ _ hRn (by exact size_engine) rfl (one_pair _ _ rfl rfl) ?_)
  have hR := hRn.setRow [.int .i64 2, .slice A p c]
  have hbn : Below w1.heap.size w1 ((w1.alloc (.cells #[.int .i64 0, .slice none 0 0] 24)).setRow w1.heap.size [.int .i64 2, .slice A p c].toArray) := below_setRow (below_new (Below.refl _ _) _) (Nat.le_refl _) _
  generalize (w1.alloc (.cells #[.int .i64 0, .slice none 0 0] 24)).setRow w1.heap.size [.int .i64 2, .slice A p c].toArray = w2 at hR hbn ⊢
  replace hRa := hRa.later hbn
  replace hT := hT.keep hbn
  replace hBB := below_step hBB hbn
  clear hbn hRn
  generalize w1.heap.size = g1 at hR ⊢
  go_wp2_with (refine wpList_load_part rfl 24 (.tmp 13) rfl g1 0 rfl _ _ hR [.int .i64 2, .slice A p c] (by rfl) _ Tryd.underlying24 rfl (by exact size_engine) ?_)
  refine (small_any 2 ts p n o A B D c bd f _ HP hT HML.out hp hn hb).mono ?_
  obtain ⟨S, hS⟩ : ∃ S, smallE (conT ts) n o = S := ⟨_, rfl⟩
  have HS := Lib.hid hS
  rw [hS]
  clear hS
  rintro e₁ w3 ⟨rfl, hb2⟩
  replace hRa := hRa.later hb2
  replace hBB := below_step hBB hb2
  clear hb2 hR hT
  cases S with
  | false =>
    clear HH HS hRa
    go_wp2_with fail
    go_ret
    exact ⟨rfl, hBB⟩
  | true =>
    have h3 : 300 < m := by
      obtain ⟨h1, h2, h4⟩ := smallE_parts HS.out
      have h5 := HH.out
      have : ¬ m ≤ 300 := fun h6 => h5 ⟨h1, h2, h4, h6⟩
      omega
    have c3 : w3.cell? ⟨w.heap.size, 3, none⟩ = some (.slice C m cd) := hRa.cell rfl
    have g3 : decide ((300 : Int) < (m : Int)) = true := decide_eq_true (by omega)
    clear HH HS hRa
    go_wp2_with fail
    go_ret
    exact ⟨rfl, hBB⟩

theorem recback_any (v0 v1 v2 v3 v4 : Value) (W : World) {H : Type} {enc : TypeId × Value → H} {base : Nat} {d0 d1 d2 d3 d4 : DataW H} {p0 p1 p2 p3 p4 : List MemPlace}
    (hv0 : Value.okWide Tryd.prog W .any base 24 v0) (ht0 : DataW.Trod enc Tryd.prog W 0 (fun _ => true) true 24 v0 d0 p0) (hv1 : Value.okWide Tryd.prog W .any base 25 v1) (ht1 : DataW.Trod enc Tryd.prog W 0 (fun _ => true) true 25 v1 d1 p1) (hv2 : Value.okWide Tryd.prog W .any base 28 v2) (ht2 : DataW.Trod enc Tryd.prog W 0 (fun _ => true) true 28 v2 d2 p2) (hv3 : Value.okWide Tryd.prog W .any base 25 v3) (ht3 : DataW.Trod enc Tryd.prog W 0 (fun _ => true) true 25 v3 d3 p3) (hv4 : Value.okWide Tryd.prog W .any base 5 v4) (ht4 : DataW.Trod enc Tryd.prog W 0 (fun _ => true) true 5 v4 d4 p4) (hg : EtC W) (hsh : W.ShapedOpen Tryd.prog) :
    Calls Tryd.prog 3 #[v0, v1, v2, v3, v4] W fun e w' => e = .returned (.bool true) ∧ Below W.heap.size W w' := by
  obtain ⟨I, hk⟩ := tab_of_open hsh
  obtain ⟨K, ts, A, c, rfl, hc, hcm, hT, hok, hml⟩ := open_engine hv0 ht0
  obtain ⟨key, B, bd, rfl, hbd, hbm, hrk⟩ := open_bytes hv1 ht1
  obtain ⟨t, e, d, s, C, cd, rfl, ht, he, hd, hcd, hcdm, hrs⟩ := open_act hv2 ht2
  obtain ⟨b, D, f, rfl, hf, hfm, hrb⟩ := open_bytes hv3 ht3
  obtain ⟨y, rfl⟩ := open_u8 hv4 ht4
  by_cases h : shortT (conT ts) = true ∧ key.length ≤ 300 ∧ b.length ≤ 300 ∧ s.length ≤ 300
  · exact recback_core K ts key s b _ _ _ _ A B C D c bd cd f t e d y.toNat W (Lib.hid rfl) hT hok hml hc (Lib.hid rfl) hrk hbd ht he hd (Lib.hid rfl) hrs hcd (Lib.hid rfl) hrb hf (Lib.hid h.1) h.2.1 h.2.2.2 h.2.2.1 y.toNat_lt (Lib.hid hk) hg
  · exact recback_out K ts _ _ _ _ A B C D c bd cd f t e d y.toNat W (Lib.hid rfl) hT hml (by omega) (by omega) (by omega) (by omega) h (Lib.hid hk) hg
theorem recturned_any (v0 v1 v2 v3 v4 v5 : Value) (W : World) {H : Type} {enc : TypeId × Value → H} {base : Nat} {d0 d1 d2 d3 d4 d5 : DataW H} {p0 p1 p2 p3 p4 p5 : List MemPlace}
    (hv0 : Value.okWide Tryd.prog W .any base 22 v0) (ht0 : DataW.Trod enc Tryd.prog W 0 (fun _ => true) true 22 v0 d0 p0) (hv1 : Value.okWide Tryd.prog W .any base 25 v1) (ht1 : DataW.Trod enc Tryd.prog W 0 (fun _ => true) true 25 v1 d1 p1) (hv2 : Value.okWide Tryd.prog W .any base 25 v2) (ht2 : DataW.Trod enc Tryd.prog W 0 (fun _ => true) true 25 v2 d2 p2) (hv3 : Value.okWide Tryd.prog W .any base 28 v3) (ht3 : DataW.Trod enc Tryd.prog W 0 (fun _ => true) true 28 v3 d3 p3) (hv4 : Value.okWide Tryd.prog W .any base 5 v4) (ht4 : DataW.Trod enc Tryd.prog W 0 (fun _ => true) true 5 v4 d4 p4) (hv5 : Value.okWide Tryd.prog W .any base 5 v5) (ht5 : DataW.Trod enc Tryd.prog W 0 (fun _ => true) true 5 v5 d5 p5) (hg : EtC W) (hsh : W.ShapedOpen Tryd.prog) :
    Calls Tryd.prog 4 #[v0, v1, v2, v3, v4, v5] W fun e w' => e = .returned (.bool true) ∧ Below W.heap.size W w' := by
  obtain ⟨I, hk⟩ := tab_of_open hsh
  obtain ⟨ts, A, c, rfl, hc, hcm, hT, hok, hml⟩ := open_terms hv0 ht0
  obtain ⟨key, B, bd, rfl, hbd, hbm, hrk⟩ := open_bytes hv1 ht1
  obtain ⟨oth, D, f, rfl, hf, hfm, hro⟩ := open_bytes hv2 ht2
  obtain ⟨t, e, d, s, C, cd, rfl, ht, he, hd, hcd, hcdm, hrs⟩ := open_act hv3 ht3
  obtain ⟨a0, rfl⟩ := open_u8 hv4 ht4
  obtain ⟨y0, rfl⟩ := open_u8 hv5 ht5
  by_cases h : shortT (conT ts) = true ∧ key.length ≤ 300 ∧ oth.length ≤ 300 ∧ s.length ≤ 300
  · exact recturned_core ts key oth s _ _ _ _ A B C D c bd cd f t e d a0.toNat y0.toNat W (Lib.hid rfl) hT hok hml hc (Lib.hid rfl) hrk hbd ht he hd (Lib.hid rfl) hrs hcd (Lib.hid rfl) hro hf (Lib.hid h.1) h.2.1 h.2.2.2 h.2.2.1 a0.toNat_lt y0.toNat_lt (Lib.hid hk) hg
  · exact recturned_out ts _ _ _ _ A B C D c bd cd f t e d a0.toNat y0.toNat W (Lib.hid rfl) hT hml (by omega) (by omega) (by omega) (by omega) h (Lib.hid hk) hg
end Go.Proofs.YtknjpmoimjhddaaDoor
/-
  Layer 12 as plain functions: a payload's bytes, and what any bytes are; read back; cut, and with more behind. No conditions but those typed.
-/
namespace Go.Proofs.YtknjpmoimjhddaaDoor
set_option maxRecDepth 100000
set_option linter.unusedVariables false
set_option linter.unusedSimpArgs false

/-! ### Numbers -/
def numF (x : Nat) : List UInt8 := UInt8.ofNat (leastL x).length :: leastL x
/-- Why not (0: fine), the number, and what is left. -/
def readN : List UInt8 → Int × Nat × List UInt8
  | [] => (2, 0, [])
  | n :: r => if 8 < n.toNat then (4, 0, []) else if r.length < n.toNat then (2, 0, []) else if 0 < n.toNat ∧ r.head? = some 0 then (3, 0, []) else (0, valN (r.take n.toNat), r.drop n.toNat)
theorem readN_cons (n : UInt8) (r : List UInt8) : readN (n :: r) = if 8 < n.toNat then (4, 0, []) else if r.length < n.toNat then (2, 0, []) else if 0 < n.toNat ∧ r.head? = some 0 then (3, 0, []) else (0, valN (r.take n.toNat), r.drop n.toNat) := rfl
theorem least_count (x : Nat) : (UInt8.ofNat (leastL x).length).toNat = (leastL x).length := by
  have := leastL_length x
  rw [UInt8.toNat_ofNat']
  omega
theorem least_head (x : Nat) : (leastL x).head? ≠ some 0 := head_dropWhile (putL x)
theorem head_append (a r : List UInt8) (h : 0 < a.length) : (a ++ r).head? = a.head? := by
  cases a with
  | nil => simp at h
  | cons c a => rfl
theorem readN_num (x : Nat) (r : List UInt8) (hx : x < 18446744073709551616) : readN (numF x ++ r) = (0, x, r) := by
  unfold numF
  rw [List.cons_append, readN_cons, least_count]
  have h8 := leastL_length x
  rw [if_neg (by omega), if_neg (by rw [List.length_append]; omega)]
  rw [if_neg (by
    rintro ⟨h1, h2⟩
    rw [head_append _ _ h1] at h2
    exact least_head x h2)]
  rw [List.take_left, List.drop_left, valN_leastL x hx]
theorem readN_good (b r : List UInt8) (x : Nat) (h : readN b = (0, x, r)) : b = numF x ++ r ∧ x < 18446744073709551616 := by
  cases b with
  | nil => simp [readN] at h
  | cons n s =>
    rw [readN_cons] at h
    split at h
    · simp at h
    · rename_i h8
      split at h
      · simp at h
      · rename_i hl
        split at h
        · simp at h
        · rename_i h0
          simp only [Prod.mk.injEq, true_and] at h
          obtain ⟨e1, e2⟩ := h
          have htl : (s.take n.toNat).length = n.toNat := by rw [List.length_take]; omega
          have hhd : (s.take n.toNat).head? ≠ some 0 := by
            intro hh
            apply h0
            rcases Nat.eq_zero_or_pos n.toNat with hz | hp
            · rw [hz, List.take_zero] at hh
              simp at hh
            · refine ⟨hp, ?_⟩
              rw [← hh, List.head?_take, if_neg (by omega)]
          have hle := leastL_valN (s.take n.toNat) (by omega) hhd
          have hv := valN_lt8 (s.take n.toNat) (by omega)
          rw [e1] at hle hv
          refine ⟨?_, hv⟩
          unfold numF
          rw [hle, htl, UInt8.ofNat_toNat, ← e2, List.cons_append, List.take_append_drop]
/-- Cut within a number: too short. -/
theorem readN_cut (x : Nat) (hx : x < 18446744073709551616) (k : Nat) (hk : k < (numF x).length) : (readN ((numF x).take k)).1 = 2 := by
  cases k with
  | zero => rfl
  | succ k =>
    unfold numF at hk ⊢
    rw [List.length_cons] at hk
    rw [List.take_succ_cons, readN_cons, least_count]
    have := leastL_length x
    rw [if_neg (by omega), if_pos (by rw [List.length_take]; omega)]
theorem readN_left (x : Nat) (r : List UInt8) (hx : x < 18446744073709551616) (k : Nat) (hk : (numF x).length ≤ k) : readN ((numF x ++ r).take k) = (0, x, r.take (k - (numF x).length)) := by
  rw [List.take_append, List.take_of_length_le hk, readN_num x _ hx]
theorem readN_short (x : Nat) (r : List UInt8) (hx : x < 18446744073709551616) (k : Nat) (hk : k < (numF x).length) : (readN ((numF x ++ r).take k)).1 = 2 := by
  rw [List.take_append_of_le_length (by omega)]
  exact readN_cut x hx k hk

/-! ### Payloads -/
def writeF (t e c : Nat) (tag : List UInt8) : List UInt8 := 87 :: (numF t ++ (numF e ++ (numF c ++ tag)))
def readT (t e c : Nat) (r : List UInt8) : Int × Nat × Nat × Nat × List UInt8 := if r.length < 8 then (2, 0, 0, 0, []) else if 8 < r.length then (4, 0, 0, 0, []) else (0, t, e, c, r)
def readC (t e : Nat) (b : List UInt8) : Int × Nat × Nat × Nat × List UInt8 := if (readN b).1 = 0 then readT t e (readN b).2.1 (readN b).2.2 else ((readN b).1, 0, 0, 0, [])
def readE (t : Nat) (b : List UInt8) : Int × Nat × Nat × Nat × List UInt8 := if (readN b).1 = 0 then readC t (readN b).2.1 (readN b).2.2 else ((readN b).1, 0, 0, 0, [])
def readB (b : List UInt8) : Int × Nat × Nat × Nat × List UInt8 := if (readN b).1 = 0 then readE (readN b).2.1 (readN b).2.2 else ((readN b).1, 0, 0, 0, [])
def readF : List UInt8 → Int × Nat × Nat × Nat × List UInt8
  | [] => (2, 0, 0, 0, [])
  | x :: r => if x ≠ 87 then (3, 0, 0, 0, []) else readB r
theorem readF_cons (x : UInt8) (r : List UInt8) : readF (x :: r) = if x ≠ 87 then (3, 0, 0, 0, []) else readB r := rfl
section
variable {t e c : Nat} {tag : List UInt8} (ht : t < 18446744073709551616) (he : e < 18446744073709551616) (hc : c < 18446744073709551616)
include ht he hc
theorem read_write_of (r : List UInt8) : readF (87 :: (numF t ++ (numF e ++ (numF c ++ r)))) = readT t e c r := by
  rw [readF_cons, if_neg (by simp)]
  unfold readB
  rw [readN_num t _ ht, if_pos rfl]
  unfold readE
  dsimp only
  rw [readN_num e _ he, if_pos rfl]
  unfold readC
  dsimp only
  rw [readN_num c _ hc, if_pos rfl]
theorem read_write (h8 : tag.length = 8) : readF (writeF t e c tag) = (0, t, e, c, tag) := by
  unfold writeF
  rw [read_write_of ht he hc]
  unfold readT
  rw [if_neg (by omega), if_neg (by omega)]
theorem read_more (more : List UInt8) (h8 : tag.length = 8) (hm : 0 < more.length) : (readF (writeF t e c tag ++ more)).1 = 4 := by
  have e1 : writeF t e c tag ++ more = 87 :: (numF t ++ (numF e ++ (numF c ++ (tag ++ more)))) := by
    unfold writeF
    simp only [List.cons_append, List.append_assoc]
  rw [e1, read_write_of ht he hc]
  unfold readT
  rw [if_neg (by rw [List.length_append]; omega), if_pos (by rw [List.length_append]; omega)]
theorem read_cut (k : Nat) (h8 : tag.length = 8) (hk : k < (writeF t e c tag).length) : (readF ((writeF t e c tag).take k)).1 = 2 := by
  cases k with
  | zero => rfl
  | succ k =>
    unfold writeF at hk ⊢
    rw [List.length_cons] at hk
    rw [List.take_succ_cons, readF_cons, if_neg (by simp)]
    unfold readB
    by_cases h1 : k < (numF t).length
    · have := readN_short t (numF e ++ (numF c ++ tag)) ht k h1
      rw [if_neg (by rw [this]; decide)]
      exact this
    · rw [readN_left t _ ht k (by omega), if_pos rfl]
      unfold readE
      dsimp only
      generalize hk1 : k - (numF t).length = k1
      by_cases h2 : k1 < (numF e).length
      · have := readN_short e (numF c ++ tag) he k1 h2
        rw [if_neg (by rw [this]; decide)]
        exact this
      · rw [readN_left e _ he k1 (by omega), if_pos rfl]
        unfold readC
        dsimp only
        generalize hk2 : k1 - (numF e).length = k2
        by_cases h3 : k2 < (numF c).length
        · have := readN_short c tag hc k2 h3
          rw [if_neg (by rw [this]; decide)]
          exact this
        · rw [readN_left c _ hc k2 (by omega), if_pos rfl]
          unfold readT
          dsimp only
          simp only [List.length_append] at hk
          rw [if_pos (by rw [List.length_take]; omega)]
end
theorem read_good (b : List UInt8) (t e c : Nat) (tag : List UInt8) (h : readF b = (0, t, e, c, tag)) : b = writeF t e c tag ∧ tag.length = 8 ∧ t < 18446744073709551616 ∧ e < 18446744073709551616 ∧ c < 18446744073709551616 := by
  cases b with
  | nil => simp [readF] at h
  | cons x r =>
    rw [readF_cons] at h
    split at h
    · simp at h
    · rename_i hx
      have ex : x = 87 := Classical.byContradiction hx
      unfold readB at h
      split at h
      · rename_i h1
        obtain ⟨b1, l1⟩ := readN_good r (readN r).2.2 (readN r).2.1 (by rw [← h1])
        generalize (readN r).2.1 = t1 at h b1 l1
        generalize (readN r).2.2 = r1 at h b1
        unfold readE at h
        split at h
        · rename_i h2
          obtain ⟨b2, l2⟩ := readN_good r1 (readN r1).2.2 (readN r1).2.1 (by rw [← h2])
          generalize (readN r1).2.1 = e1 at h b2 l2
          generalize (readN r1).2.2 = r2 at h b2
          unfold readC at h
          split at h
          · rename_i h3
            obtain ⟨b3, l3⟩ := readN_good r2 (readN r2).2.2 (readN r2).2.1 (by rw [← h3])
            generalize (readN r2).2.1 = c1 at h b3 l3
            generalize (readN r2).2.2 = r3 at h b3
            unfold readT at h
            split at h
            · simp at h
            · split at h
              · simp at h
              · simp only [Prod.mk.injEq, true_and] at h
                obtain ⟨rfl, rfl, rfl, rfl⟩ := h
                refine ⟨?_, by omega, l1, l2, l3⟩
                unfold writeF
                rw [ex, b1, b2, b3]
          · rename_i h3
            simp only [Prod.mk.injEq] at h
            exact absurd h.1 h3
        · rename_i h2
          simp only [Prod.mk.injEq] at h
          exact absurd h.1 h2
      · rename_i h1
        simp only [Prod.mk.injEq] at h
        exact absurd h.1 h1
theorem write_inj {t e c t' e' c' : Nat} {tag tag' : List UInt8} (ht : t < 18446744073709551616) (he : e < 18446744073709551616) (hc : c < 18446744073709551616) (ht' : t' < 18446744073709551616) (he' : e' < 18446744073709551616) (hc' : c' < 18446744073709551616) (h8 : tag.length = 8) (h8' : tag'.length = 8) :
    writeF t e c tag = writeF t' e' c' tag' ↔ t = t' ∧ e = e' ∧ c = c' ∧ tag = tag' := by
  constructor
  · intro h
    have h1 := read_write ht he hc h8
    rw [h, read_write ht' he' hc' h8'] at h1
    simp only [Prod.mk.injEq, true_and] at h1
    obtain ⟨rfl, rfl, rfl, rfl⟩ := h1
    exact ⟨rfl, rfl, rfl, rfl⟩
  · rintro ⟨rfl, rfl, rfl, rfl⟩
    rfl
theorem num_length (x : Nat) : 1 ≤ (numF x).length ∧ (numF x).length ≤ 9 := by
  have := leastL_length x
  unfold numF
  rw [List.length_cons]
  omega
theorem write_length (t e c : Nat) (tag : List UInt8) (h8 : tag.length = 8) : 12 ≤ (writeF t e c tag).length ∧ (writeF t e c tag).length ≤ 36 := by
  have h1 := num_length t
  have h2 := num_length e
  have h3 := num_length c
  unfold writeF
  rw [List.length_cons, List.length_append, List.length_append, List.length_append]
  omega
/-- What a tag is of. -/
def msgF (t e c : Nat) : List UInt8 := 67 :: (putL t ++ (putL e ++ putL c))
theorem putL_len (v : Nat) : (putL v).length = 8 := rfl
theorem putL_injF {v w : Nat} (hv : v < 18446744073709551616) (hw : w < 18446744073709551616) (h : putL v = putL w) : v = w := by rw [← valN_putL v hv, h, valN_putL w hw]
theorem msg_inj {t e c t' e' c' : Nat} (ht : t < 18446744073709551616) (he : e < 18446744073709551616) (hc : c < 18446744073709551616) (ht' : t' < 18446744073709551616) (he' : e' < 18446744073709551616) (hc' : c' < 18446744073709551616) : msgF t e c = msgF t' e' c' ↔ t = t' ∧ e = e' ∧ c = c' := by
  constructor
  · intro h
    unfold msgF at h
    injection h with _ h
    obtain ⟨h1, h2⟩ := List.append_inj h rfl
    obtain ⟨h3, h4⟩ := List.append_inj h2 rfl
    exact ⟨putL_injF ht ht' h1, putL_injF he he' h3, putL_injF hc hc' h4⟩
  · rintro ⟨rfl, rfl, rfl⟩
    rfl
end Go.Proofs.YtknjpmoimjhddaaDoor
/-
  Layer 11 as plain functions: bits of bytes, groups of seven that are alike or eight, and back; what comes of so many bytes; rows. No conditions but those typed.
-/
namespace Go.Proofs.YtknjpmoimjhddaaDoor
set_option maxRecDepth 100000
set_option linter.unusedVariables false
set_option linter.unusedSimpArgs false

/-! ### Bits -/
def bitB (c : UInt8) (k : Nat) : Bool := decide (c.toNat / 2 ^ k % 2 = 1)
def bits8 (c : UInt8) : List Bool := [bitB c 7, bitB c 6, bitB c 5, bitB c 4, bitB c 3, bitB c 2, bitB c 1, bitB c 0]
def oneB (x : Bool) : UInt8 := if x then 1 else 0
def val8 (l : List Bool) : UInt8 := l.foldl (fun v x => 2 * v + oneB x) 0
def bitsL (b : List UInt8) : List Bool := b.flatMap bits8
theorem all_bytesS {p : UInt8 → Prop} (h : ∀ n, n < 256 → p (UInt8.ofNat n)) (x : UInt8) : p x := by
  have := h x.toNat x.toNat_lt
  rwa [UInt8.ofNat_toNat] at this
theorem val_bits (c : UInt8) : val8 (bits8 c) = c := by
  refine all_bytesS (p := fun c => val8 (bits8 c) = c) ?_ c
  decide +kernel
theorem bits_val : ∀ a b c d e f g h : Bool, bits8 (val8 [a, b, c, d, e, f, g, h]) = [a, b, c, d, e, f, g, h] := by decide +kernel
theorem bits_val8 : ∀ (l : List Bool), l.length = 8 → bits8 (val8 l) = l
  | [a, b, c, d, e, f, g, h], _ => bits_val a b c d e f g h
theorem bits_length (b : List UInt8) : (bitsL b).length = 8 * b.length := by
  induction b with
  | nil => rfl
  | cons c b ih =>
    show (bits8 c ++ bitsL b).length = _
    rw [List.length_append, ih, List.length_cons]
    show 8 + 8 * b.length = _
    omega

/-! ### Groups -/
/-- The next seven bits; where there are fewer, ones behind them. -/
def g7 (l : List Bool) : List Bool := [l.getD 0 true, l.getD 1 true, l.getD 2 true, l.getD 3 true, l.getD 4 true, l.getD 5 true, l.getD 6 true]
def eighth (l : List Bool) : Bool := if g7 l = List.replicate 7 false then true else if g7 l = List.replicate 7 true then false else l.getD 7 true
def taken (l : List Bool) : Nat := if g7 l = List.replicate 7 false ∨ g7 l = List.replicate 7 true then 7 else 8
def stuffF : Nat → List Bool → List UInt8
  | 0, _ => []
  | n + 1, l => if l = [] then [] else val8 (g7 l ++ [eighth l]) :: stuffF n (l.drop (taken l))
def stuffL (l : List Bool) : List UInt8 := stuffF l.length l
def putSt (b : List UInt8) : List UInt8 := stuffL (bitsL b)
theorem taken_pos (l : List Bool) : 7 ≤ taken l ∧ taken l ≤ 8 := by unfold taken; split <;> omega
theorem stuffF_more : ∀ (n m : Nat) (l : List Bool), l.length ≤ n → l.length ≤ m → stuffF n l = stuffF m l
  | 0, 0, _, _, _ => rfl
  | 0, m + 1, l, h, _ => by
    have : l = [] := List.eq_nil_of_length_eq_zero (by omega)
    subst this
    rfl
  | n + 1, 0, l, _, h => by
    have : l = [] := List.eq_nil_of_length_eq_zero (by omega)
    subst this
    rfl
  | n + 1, m + 1, l, h, g => by
    unfold stuffF
    split
    · rfl
    · have := taken_pos l
      rw [stuffF_more n m (l.drop (taken l)) (by rw [List.length_drop]; omega) (by rw [List.length_drop]; omega)]
theorem stuff_nil : stuffL [] = [] := rfl
theorem stuff_cons (l : List Bool) (h : l ≠ []) : stuffL l = val8 (g7 l ++ [eighth l]) :: stuffL (l.drop (taken l)) := by
  have hl : 0 < l.length := List.length_pos_iff.2 h
  have := taken_pos l
  unfold stuffL
  obtain ⟨n, hn⟩ : ∃ n, l.length = n + 1 := ⟨l.length - 1, by omega⟩
  rw [hn]
  conv => lhs; unfold stuffF
  rw [if_neg h, stuffF_more n (l.drop (taken l)).length _ (by rw [List.length_drop]; omega) (Nat.le_refl _)]

/-! ### Back -/
def rawG (c : UInt8) : List Bool := if (bits8 c).take 7 = List.replicate 7 false ∨ (bits8 c).take 7 = List.replicate 7 true then (bits8 c).take 7 else bits8 c
def rawL (s : List UInt8) : List Bool := s.flatMap rawG
def cut8 : List Bool → List UInt8
  | a :: b :: c :: d :: e :: f :: g :: h :: t => val8 [a, b, c, d, e, f, g, h] :: cut8 t
  | _ => []
def candL (s : List UInt8) : List UInt8 := cut8 (rawL s)
theorem cut_ones : ∀ p, p < 8 → cut8 (List.replicate p true) = [] := by decide +kernel
theorem cut_bits (p : Nat) (hp : p < 8) : ∀ b : List UInt8, cut8 (bitsL b ++ List.replicate p true) = b
  | [] => cut_ones p hp
  | c :: b => by
    show cut8 (bits8 c ++ bitsL b ++ List.replicate p true) = _
    rw [List.append_assoc]
    show val8 (bits8 c) :: cut8 (bitsL b ++ List.replicate p true) = _
    rw [val_bits, cut_bits p hp b]
theorem g7_length (l : List Bool) : (g7 l ++ [eighth l]).length = 8 := rfl
theorem raw_group (l : List Bool) : rawG (val8 (g7 l ++ [eighth l])) = if g7 l = List.replicate 7 false ∨ g7 l = List.replicate 7 true then g7 l else g7 l ++ [eighth l] := by
  unfold rawG
  rw [bits_val8 _ (g7_length l)]
  rfl
theorem getD_true (l : List Bool) (i : Nat) (h : l.length ≤ i) : l.getD i true = true := by rw [List.getD_eq_getElem?_getD, List.getElem?_eq_none h]; rfl
/-- So many bits from a list, ones behind it. -/
theorem pad_take : ∀ (l : List Bool) (n : Nat), (List.range n).map (fun i => l.getD i true) = l.take n ++ List.replicate (n - l.length) true
  | [], n => by
    rw [List.take_nil, List.nil_append, List.length_nil, Nat.sub_zero]
    apply List.ext_getElem
    · simp
    · intro i h1 h2
      simp
  | a :: l, 0 => by simp
  | a :: l, n + 1 => by
    rw [List.range_succ_eq_map, List.map_cons, List.map_map, List.take_succ_cons, List.cons_append, List.length_cons, Nat.add_sub_add_right, ← pad_take l n]
    rfl
theorem g7_pad (l : List Bool) : g7 l = l.take 7 ++ List.replicate (7 - l.length) true := by rw [← pad_take]; rfl
theorem g8_pad (l : List Bool) : g7 l ++ [l.getD 7 true] = l.take 8 ++ List.replicate (8 - l.length) true := by rw [← pad_take]; rfl
theorem raw_stuff : ∀ (n : Nat) (l : List Bool), l.length ≤ n → ∃ p, p < 8 ∧ rawL (stuffL l) = l ++ List.replicate p true
  | 0, l, h => by
    have : l = [] := List.eq_nil_of_length_eq_zero (by omega)
    subst this
    exact ⟨0, by omega, rfl⟩
  | n + 1, l, h => by
    by_cases h0 : l = []
    · subst h0
      exact ⟨0, by omega, rfl⟩
    · have hl : 0 < l.length := List.length_pos_iff.2 h0
      obtain ⟨p, hp, ih⟩ := raw_stuff n (l.drop (taken l)) (by have := taken_pos l; rw [List.length_drop]; omega)
      have e : rawL (stuffL l) = rawG (val8 (g7 l ++ [eighth l])) ++ rawL (stuffL (l.drop (taken l))) := by rw [stuff_cons l h0]; rfl
      rw [e, ih, raw_group]
      by_cases ha : g7 l = List.replicate 7 false ∨ g7 l = List.replicate 7 true
      · rw [if_pos ha]
        have ht : taken l = 7 := by unfold taken; rw [if_pos ha]
        rw [ht, g7_pad]
        rcases Nat.lt_or_ge l.length 7 with h7 | h7
        · refine ⟨7 - l.length, by omega, ?_⟩
          have hd : l.drop 7 = [] := List.drop_of_length_le (by omega)
          rw [ht, hd] at ih
          have hp0 : p = 0 := by
            have := congrArg List.length ih
            simp [stuff_nil, rawL] at this
            omega
          subst hp0
          rw [hd, List.take_of_length_le (by omega)]
          simp
        · refine ⟨p, hp, ?_⟩
          rw [show 7 - l.length = 0 by omega, List.replicate_zero, List.append_nil, ← List.append_assoc, List.take_append_drop]
      · rw [if_neg ha]
        have ht : taken l = 8 := by unfold taken; rw [if_neg ha]
        have he : eighth l = l.getD 7 true := by
          unfold eighth
          rw [if_neg (fun h => ha (.inl h)), if_neg (fun h => ha (.inr h))]
        rw [ht, he, g8_pad]
        rcases Nat.lt_or_ge l.length 8 with h8 | h8
        · refine ⟨8 - l.length, by omega, ?_⟩
          have hd : l.drop 8 = [] := List.drop_of_length_le (by omega)
          rw [ht, hd] at ih
          have hp0 : p = 0 := by
            have := congrArg List.length ih
            simp [stuff_nil, rawL] at this
            omega
          subst hp0
          rw [hd, List.take_of_length_le (by omega)]
          simp
        · refine ⟨p, hp, ?_⟩
          rw [show 8 - l.length = 0 by omega, List.replicate_zero, List.append_nil, ← List.append_assoc, List.take_append_drop]
theorem cand_put (b : List UInt8) : candL (putSt b) = b := by
  obtain ⟨p, hp, e⟩ := raw_stuff _ (bitsL b) (Nat.le_refl _)
  unfold candL putSt
  rw [e, cut_bits p hp]
theorem put_inj {a b : List UInt8} (h : putSt a = putSt b) : a = b := by rw [← cand_put a, h, cand_put]

/-! ### How many -/
theorem stuff_length : ∀ (n : Nat) (l : List Bool), l.length ≤ n → l.length ≤ 8 * (stuffL l).length ∧ 7 * (stuffL l).length ≤ l.length + 6
  | 0, l, h => by
    have : l = [] := List.eq_nil_of_length_eq_zero (by omega)
    subst this
    exact ⟨by simp, by simp [stuff_nil]⟩
  | n + 1, l, h => by
    by_cases h0 : l = []
    · subst h0
      exact ⟨by simp, by simp [stuff_nil]⟩
    · have hl : 0 < l.length := List.length_pos_iff.2 h0
      have ht := taken_pos l
      obtain ⟨h1, h2⟩ := stuff_length n (l.drop (taken l)) (by rw [List.length_drop]; omega)
      rw [stuff_cons l h0, List.length_cons]
      rw [List.length_drop] at h1 h2
      omega
theorem put_length (b : List UInt8) : b.length ≤ (putSt b).length ∧ (putSt b).length ≤ (8 * b.length + 6) / 7 := by
  obtain ⟨h1, h2⟩ := stuff_length _ (bitsL b) (Nat.le_refl _)
  have := bits_length b
  unfold putSt
  omega

/-! ### None of them is all alike -/
theorem group_not (l : List Bool) : val8 (g7 l ++ [eighth l]) ≠ 0 ∧ val8 (g7 l ++ [eighth l]) ≠ 255 := by
  have key : ∀ c : UInt8, val8 (g7 l ++ [eighth l]) = c → g7 l ++ [eighth l] = bits8 c := fun c e => by rw [← e, bits_val8 _ (g7_length l)]
  have e0 : bits8 0 = List.replicate 7 false ++ [false] := by decide +kernel
  have e1 : bits8 255 = List.replicate 7 true ++ [true] := by decide +kernel
  constructor
  · intro e
    have h := key 0 e
    rw [e0] at h
    obtain ⟨h1, h2⟩ := List.append_inj h rfl
    unfold eighth at h2
    rw [if_pos h1] at h2
    simp at h2
  · intro e
    have h := key 255 e
    rw [e1] at h
    obtain ⟨h1, h2⟩ := List.append_inj h rfl
    unfold eighth at h2
    rw [if_neg (by rw [h1]; decide), if_pos h1] at h2
    simp at h2
theorem stuff_not : ∀ (n : Nat) (l : List Bool), l.length ≤ n → ∀ c ∈ stuffL l, c ≠ 0 ∧ c ≠ 255
  | 0, l, h => by
    have : l = [] := List.eq_nil_of_length_eq_zero (by omega)
    subst this
    intro c hc
    cases hc
  | n + 1, l, h => by
    by_cases h0 : l = []
    · subst h0
      intro c hc
      cases hc
    · have hl : 0 < l.length := List.length_pos_iff.2 h0
      have ht := taken_pos l
      rw [stuff_cons l h0]
      intro c hc
      rcases List.mem_cons.1 hc with rfl | hc
      · exact group_not l
      · exact stuff_not n _ (by rw [List.length_drop]; omega) c hc
theorem put_not (b : List UInt8) : ∀ c ∈ putSt b, c ≠ 0 ∧ c ≠ 255 := stuff_not _ _ (Nat.le_refl _)

/-! ### Rows -/
/-- The last bit, and how many of them are alike up to it. -/
def rowS (s : Bool × Nat) (x : Bool) : Bool × Nat := (x, if s.2 ≠ 0 ∧ x ≠ s.1 then 1 else s.2 + 1)
def rowB (s : Bool × Nat) (l : List Bool) : Bool × Nat := l.foldl rowS s
theorem row_byte : ∀ n, n < 256 → n ≠ 0 → n ≠ 255 → ∀ x : Bool, ∀ r, r < 8 → (∀ k, k ≤ 8 → (rowB (x, r) ((bits8 (UInt8.ofNat n)).take k)).2 ≤ 14) ∧ (rowB (x, r) (bits8 (UInt8.ofNat n))).2 < 8 := by decide +kernel
theorem row_append (s : Bool × Nat) (a b : List Bool) : rowB s (a ++ b) = rowB (rowB s a) b := by unfold rowB; rw [List.foldl_append]
theorem rows_fine : ∀ (s : List UInt8) (x : Bool) (r : Nat), r < 8 → (∀ c ∈ s, c ≠ 0 ∧ c ≠ 255) → ∀ k, (rowB (x, r) ((bitsL s).take k)).2 ≤ 14
  | [], x, r, hr, _, k => by
    simp [bitsL, rowB]
    omega
  | c :: s, x, r, hr, hs, k => by
    have hc := hs c List.mem_cons_self
    have hb := row_byte c.toNat c.toNat_lt (fun e => hc.1 (UInt8.toNat_inj.1 e)) (fun e => hc.2 (UInt8.toNat_inj.1 e)) x r hr
    rw [UInt8.ofNat_toNat] at hb
    have e : bitsL (c :: s) = bits8 c ++ bitsL s := rfl
    rw [e]
    rcases Nat.lt_or_ge k 9 with h | h
    · rw [List.take_append_of_le_length (by show k ≤ 8; omega)]
      exact hb.1 k (by omega)
    · rw [List.take_append, List.take_of_length_le (by show 8 ≤ k; omega), row_append]
      have h2 := rows_fine s (rowB (x, r) (bits8 c)).1 (rowB (x, r) (bits8 c)).2 hb.2 (fun d hd => hs d (List.mem_cons_of_mem _ hd)) (k - (bits8 c).length)
      exact h2
end Go.Proofs.YtknjpmoimjhddaaDoor
/-
  Sums of elements times powers of unlike ones that vanish at as many powers as there are of them, vanish term by term (plain mathematics, for stages 9 and 10). No conditions but those typed.
-/
namespace Go.Proofs.YtknjpmoimjhddaaDoor
set_option maxRecDepth 100000
set_option linter.unusedVariables false
set_option linter.unusedSimpArgs false

def sumV : List (UInt8 × UInt8) → Nat → UInt8
  | [], _ => 0
  | (e, x) :: t, i => addB (mulB e (powB x i)) (sumV t i)
theorem pow_succ' (x : UInt8) (i : Nat) : powB x (i + 1) = mulB (powB x i) x := rfl
/-- One of them taken off. -/
theorem sumV_off (x : UInt8) : ∀ (t : List (UInt8 × UInt8)) (i : Nat), sumV (t.map fun p => (mulB p.1 (addB p.2 x), p.2)) i = addB (sumV t (i + 1)) (mulB x (sumV t i))
  | [], i => by
    show (0 : UInt8) = addB 0 (mulB x 0)
    rw [mul_zero, add_zero]
  | (e, y) :: t, i => by
    have ih := sumV_off x t i
    show addB (mulB (mulB e (addB y x)) (powB y i)) (sumV (t.map fun p => (mulB p.1 (addB p.2 x), p.2)) i) = addB (addB (mulB e (powB y (i + 1))) (sumV t (i + 1))) (mulB x (addB (mulB e (powB y i)) (sumV t i)))
    have h1 : mulB (mulB e (addB y x)) (powB y i) = addB (mulB e (powB y (i + 1))) (mulB x (mulB e (powB y i))) := by
      rw [mul_add_right, mul_add_left, pow_succ', mul_assoc, mul_comm y (powB y i), mul_comm e x, mul_assoc]
    rw [ih, h1, mul_add_right, add_four]
theorem sumV_zero : ∀ (t : List (UInt8 × UInt8)) (i : Nat), (∀ p ∈ t, p.1 = 0) → sumV t i = 0
  | [], i, _ => rfl
  | (e, x) :: t, i, h => by
    have he : e = 0 := h (e, x) (by simp)
    rw [sumV, he, zero_mul, zero_add, sumV_zero t i (fun p hp => h p (by simp [hp]))]
theorem pow_ne (x : UInt8) (hx : x ≠ 0) : ∀ i, powB x i ≠ 0
  | 0 => by
    show (1 : UInt8) ≠ 0
    decide
  | i + 1 => by
    rw [pow_succ']
    exact mul_ne _ _ (pow_ne x hx i) hx
theorem add_zero_eq {a b : UInt8} (h : addB a b = 0) : a = b := by
  have e : addB (addB a b) b = addB 0 b := by rw [h]
  rwa [add_assoc, add_self, add_zero, zero_add] at e
theorem vander : ∀ (n : Nat) (l : List (UInt8 × UInt8)), l.length = n → (l.map Prod.snd).Nodup → (∀ p ∈ l, p.2 ≠ 0) → (∀ i, 1 ≤ i → i ≤ n → sumV l i = 0) → ∀ p ∈ l, p.1 = 0
  | 0, l, hl, _, _, _ => by
    rw [List.eq_nil_of_length_eq_zero hl]
    intro p hp
    cases hp
  | n + 1, [], hl, _, _, _ => by simp at hl
  | n + 1, (e, x) :: t, hl, hd, hn, hs => by
    have hd' : x ∉ t.map Prod.snd ∧ (t.map Prod.snd).Nodup := by simpa using hd
    have hlt : t.length = n := by simpa using hl
    have hx : x ≠ 0 := hn (e, x) (by simp)
    have key : ∀ i, 1 ≤ i → i ≤ n + 1 → sumV t i = mulB e (powB x i) := fun i h1 h2 => (add_zero_eq (hs i h1 h2)).symm
    have ht : ∀ p ∈ t.map (fun p => (mulB p.1 (addB p.2 x), p.2)), p.1 = 0 := by
      refine vander n _ (by rw [List.length_map]; exact hlt) ?_ ?_ ?_
      · rw [List.map_map]
        exact hd'.2
      · intro p hp
        obtain ⟨q, hq, rfl⟩ := List.mem_map.1 hp
        exact hn q (by simp [hq])
      · intro i h1 h2
        rw [sumV_off, key (i + 1) (by omega) (by omega), key i h1 (by omega), pow_succ']
        have : mulB x (mulB e (powB x i)) = mulB e (mulB (powB x i) x) := by
          rw [mul_comm x, mul_assoc]
        rw [this, add_self]
    have h0 : ∀ p ∈ t, p.1 = 0 := fun p hp => by
      have h1 := ht (mulB p.1 (addB p.2 x), p.2) (List.mem_map.2 ⟨p, hp, rfl⟩)
      rcases (mul_eq_zero _ _).1 h1 with h | h
      · exact h
      · exact absurd (List.mem_map.2 ⟨p, hp, add_zero_eq h⟩) hd'.1
    intro p hp
    rcases List.mem_cons.1 hp with rfl | hp
    · have h1 := hs 1 (by omega) (by omega)
      rw [sumV, sumV_zero t 1 h0, add_zero] at h1
      rcases (mul_eq_zero _ _).1 h1 with h | h
      · exact h
      · exact absurd h (pow_ne x hx 1)
    · exact h0 p hp
end Go.Proofs.YtknjpmoimjhddaaDoor
