/-
  What the program's calls of layer 10 answer, over the landed code. No conditions but those typed.
-/
import Derived.Test.YteppocjgodmpdaaGreatDoorQ7
import Derived.Lib.SlBytesConst
import Derived.Deep.DeepCutAuto
import Derived.StillTailTactics
import Derived.StillTactics
namespace Go.Proofs.YteppocjgodmpdaaGreatDoor
set_option maxRecDepth 100000
open Go.RowKit
set_option linter.unusedSimpArgs false
set_option linter.unusedVariables false

/-! ### Most -/
def mostN (n : Int) : Int := if n < 1 ∨ 64 < n then 0 else n / 2
theorem mostM_any (n : Int) (w : World) : Calls Tryz.prog 202 #[.int .i64 n] w fun e w' => e = .returned (.int .i64 (mostN n)) ∧ w = w' := by
  by_cases h1 : n < 1
  · have HE : Hid (mostN n = 0) := if_pos (.inl h1)
    rw [HE.out]
    go_enter Tryz.func202, Tryz.ntmps202
    go_wp2_with fail
    go_ret
    exact ⟨rfl, rfl⟩
  · by_cases h2 : 64 < n
    · have HE : Hid (mostN n = 0) := if_pos (.inr h2)
      rw [HE.out]
      go_enter Tryz.func202, Tryz.ntmps202
      go_wp2_with fail
      go_ret
      exact ⟨rfl, rfl⟩
    · obtain ⟨m, rfl⟩ : ∃ m : Nat, n = (m : Int) := ⟨n.toNat, by omega⟩
      have HE : Hid (mostN (m : Int) = ((m / 2 : Nat) : Int)) := by
        unfold Hid mostN
        rw [if_neg (by omega)]
        omega
      have e1 : (m : Int).tdiv 2 = ((m / 2 : Nat) : Int) := by rw [Int.tdiv_eq_ediv_of_nonneg (by omega)]; omega
      have e2 : IntKind.i64.wrap ((m / 2 : Nat) : Int) = ((m / 2 : Nat) : Int) := by rw [IntKind.wrap_i64]; omega
      rw [HE.out]
      go_enter Tryz.func202, Tryz.ntmps202
      go_wp2_with fail
      go_ret
      exact ⟨rfl, rfl⟩

/-! ### solve -/
def lenV : Value → Nat
  | .slice _ n _ => n
  | _ => 0
theorem quo_pl {p q a r : List UInt8} (h : IsQuo p q a r) (hl : pl q < pl p) : pl a + pl q ≤ pl p + 1 := by
  have hr : pl r < pl q := h.2
  by_cases h0 : pl a = 0
  · omega
  · have e1 : pl (mulL a q) = pl a + pl q - 1 := pl_mul_eq a q (by omega) (by omega)
    have e2 : Eqv (mulL a q) (addL p r) := fun k => by
      have := h.1 k
      rw [co_add] at this
      rw [co_add, ← this, add_assoc, add_self, add_zero]
    have e3 := pl_add p r
    rw [pl_congr e2] at e1
    omega
/-- A polynomial that may be read. -/
def HasP (w : World) (v : Value) (l : List UInt8) : Prop := ∃ A n c, v = .slice A n c ∧ Hid (l.length = n) ∧ n ≤ c ∧ n ≤ 100 ∧ Rd vB w A l
theorem HasP.keep {w w' : World} {v : Value} {l : List UInt8} (h : HasP w v l) (hb : Below w.heap.size w w') : HasP w' v l := by
  obtain ⟨A, n, c, e, h1, h2, h3, h4⟩ := h
  exact ⟨A, n, c, e, h1, h2, h3, h4.keep hb⟩
def SolveR (S : List UInt8) (n : Nat) (w : World) (a l fa f : Value) (wr : World) : Prop :=
  ∃ (ah le fA fi : List UInt8), HasP wr a ah ∧ HasP wr l le ∧ HasP wr fa fA ∧ HasP wr f fi ∧ Below w.heap.size w wr ∧ Hid (Euc n S ah le fA fi)
def RetSolve (S : List UInt8) (n : Nat) (w : World) (e : Ending) (w' : World) : Prop :=
  ∃ (vf vl : Value) (ah le fA fi : List UInt8), e = .returned (.tuple #[vf, vl]) ∧ HasP w' vf fi ∧ HasP w' vl le ∧ Below w.heap.size w w' ∧ Hid (Euc n S ah le fA fi ∧ pl le ≤ n - n / 2)
set_option maxHeartbeats 2000000 in
theorem solveM_any (S : List UInt8) (n : Nat) (A : Option Addr) (c : Nat) (w : World) (HN : Hid (S.length = n)) (hr : Rd vB w A S) (hc : n ≤ c) (h1 : 1 ≤ n) (h2 : n ≤ 64) :
    Calls Tryz.prog 134 #[.slice A n c] w (RetSolve S n w) := by
  obtain ⟨i0, hi, hz0, hz1, hz2⟩ := info_parts info_u8
  have HM : ∀ W, Calls Tryz.prog 202 #[.int .i64 (n : Int)] W fun e w' => e = .returned (.int .i64 ((n / 2 : Nat) : Int)) ∧ W = w' := fun W => by
    have := mostM_any (n : Int) W
    unfold mostN at this
    rw [if_neg (by omega), show (n : Int) / 2 = ((n / 2 : Nat) : Int) by omega] at this
    exact this
  have HMost := Lib.hid HM
  clear HM
  have HST := Lib.hid (euc_start n S HN.out)
  go_enter Tryz.func134, Tryz.ntmps134
  go_upto_region 3 with (first
    | (at_make; refine wpList_make_full _ rfl _ _ 22 rfl w.heap.size 5 i0 (.int .u8 0) 1 Tryz.underlying22 hi hz0 hz1 .i64 .i64 _ _ n rfl rfl rfl rfl (by rw [hz2]; omega) (by unfold maxLen; omega) (Nat.le_refl _) ?_; intro w0 hown0 hgrow0)
    | (at_builtin; refine wpList_append_rd (f := vB) _ rfl (.tmp 15) (.tmp 16) 22 rfl w.heap.size 5 i0 (.int .u8 0) 1 Tryz.underlying22 hi hz0 hz1 hz2 rfl _ _ _ rfl (ownsRow_later hown0 (below_new (Below.refl _ w0) _)) _ ([1] : List UInt8) 1 rfl (Rd.new w0 [1] _ _ rfl) vB_one (by unfold maxLen; simp; omega) (by simp; omega) (by simp only [World.size_alloc]; have := hgrow0.size; simp at this ⊢; omega) ?_; intro v4 w4 hown4 hgrow4))
  rw [Nat.mul_one, show (Value.int .u8 0).cells = #[.int .u8 0] from rfl, toList_madeCells_one, zeros_map, ← List.map_append] at hown4
  have hB0 : Below w.heap.size w w0 := (Below.refl _ _).grown hgrow0 (Nat.le_refl _) (by simp)
  have hB4 : Below w.heap.size w w4 := (below_new hB0 _).grown hgrow4 (by have := hB0.size; simp; omega) (fun k hk => (hown0.lt k hk).1)
  have hXL : (List.replicate n (0 : UInt8) ++ [1]).length = n + ([1] : List UInt8).length := by simp
  rw [← hXL] at hown4
  obtain ⟨A4, c4, rfl, hc4, hr4⟩ := own_slice hown4
  rw [hXL] at hc4 ⊢
  simp only [List.length_cons, List.length_nil, Nat.zero_add] at hc4 ⊢
  replace hr := hr.keep hB4
  have HAh : HasP w4 (.slice A4 (n + 1) c4) (xN n) := ⟨A4, n + 1, c4, rfl, by unfold Hid; exact xN_length n, hc4, by omega, hr4⟩
  have HLe : HasP w4 (.slice A n c) S := ⟨A, n, c, rfl, HN, hc, by omega, hr⟩
  have hb1 := below_new (Below.refl _ w4) (.cells #[] 5)
  have hb2 := below_new hb1 (.cells #[.int .u8 1] 5)
  have HFa : HasP (w4.alloc (.cells #[] 5)) (.slice (some ⟨w4.heap.size, 0, none⟩) 0 0) [] := ⟨_, 0, 0, rfl, Lib.hid rfl, Nat.le_refl _, by omega, Rd.nil⟩
  have HFi : HasP ((w4.alloc (.cells #[] 5)).alloc (.cells #[.int .u8 1] 5)) (.slice (some ⟨(w4.alloc (.cells #[] 5)).heap.size, 0, none⟩) 1 1) [1] := ⟨_, 1, 1, rfl, Lib.hid rfl, Nat.le_refl _, by omega, Rd.new _ [1] _ _ rfl⟩
  have HREL : Hid (SolveR S n w (.slice A4 (n + 1) c4) (.slice A n c) (.slice (some ⟨w4.heap.size, 0, none⟩) 0 0) (.slice (some ⟨(w4.alloc (.cells #[] 5)).heap.size, 0, none⟩) 1 1) ((w4.alloc (.cells #[] 5)).alloc (.cells #[.int .u8 1] 5))) :=
    ⟨xN n, S, [], [1], HAh.keep hb2, HLe.keep hb2, HFa.keep (below_new (Below.refl _ _) _), HFi, below_step hB4 hb2, HST⟩
  rw [show (w4.alloc (.cells #[] 5)).heap.size = w4.heap.size + 1 by simp] at HREL
  clear HAh HLe HFa HFi hb1 hb2 hr4 hown4 hgrow4 hB4 hB0 hown0 hgrow0 hXL hr HST
  go_wp2_with fail
  go_loopw [5, 6, 7, 8] (fun a l fa f wr => SolveR S n w a l fa f wr) (fun _ l _ _ _ => lenV l)
  case atStart => exact HREL.out
  case round =>
    clear HREL
    obtain ⟨ah, le, fA, fi, ⟨A1, n1, d1, rfl, HN1, hd1, hm1, hr1⟩, ⟨A2, n2, d2, rfl, HN2, hd2, hm2, hr2⟩, ⟨A3, n3, d3, rfl, HN3, hd3, hm3, hr3⟩, ⟨A5, n5, d5, rfl, HN5, hd5, hm5, hr5⟩, hB, HE⟩ := hrel
    go_wp2_with fail
    refine (degP_any le n2 A2 d2 _ HN2 hr2 hd2 (by omega)).mono ?_
    rintro e w1 ⟨rfl, hb⟩
    replace hB := below_step hB hb
    replace hr1 := hr1.keep hb
    replace hr2 := hr2.keep hb
    replace hr3 := hr3.keep hb
    replace hr5 := hr5.keep hb
    clear hb
    go_wp2_with fail
    refine (HMost.out _).mono ?_
    rintro e w2 ⟨rfl, rfl⟩
    obtain ⟨L, hL⟩ : ∃ L, (plainL le).length = L := ⟨_, rfl⟩
    have hpl : pl le = L := hL
    have hL2 : L ≤ n2 := by rw [← hL, ← HN2.out]; exact plain_len le
    obtain ⟨M, hM⟩ : ∃ M, n / 2 = M := ⟨_, rfl⟩
    have hM2 : M ≤ n := by omega
    rw [hL, hM]
    have HD : Hid (n - n / 2 = n - M) := by unfold Hid; rw [hM]
    have HL := Lib.hid hpl
    clear hM hL hpl
    by_cases hgo : n - M < L
    · have j1 : (n : Int) - (M : Int) ≤ (L : Int) - 1 := by omega
      have HQ : Hid (plainL le ≠ []) := fun h0 => by
        have := HL.out
        unfold pl at this
        rw [h0] at this
        simp at this
        omega
      go_wp2_with fail
      refine (quoP_good ah le n1 n2 A1 A2 d1 d2 _ HN1 HN2 hr1 hr2 hd1 hd2 (by omega) (by omega) HQ).mono ?_
      rintro e w3 ⟨qa, rr, B1, B2, k1, k2, q1, q2, rfl, HK1, HK2, hq1, hq2, hra, hrr, hb3, HQQ⟩
      replace hB := below_step hB hb3
      replace hr1 := hr1.keep hb3
      replace hr2 := hr2.keep hb3
      replace hr3 := hr3.keep hb3
      replace hr5 := hr5.keep hb3
      have hk1 : k1 ≤ 100 := by
        have h1 := quo_pl HQQ.out.1 HE.out.less
        have h2 := HE.out.deg
        have h3 : pl qa = k1 := by unfold pl; rw [HQQ.out.2.1]; exact HK1.out
        omega
      have hk2 : k2 < n2 := by
        have h1 : pl rr < pl le := HQQ.out.1.2
        have h3 : pl rr = k2 := by unfold pl; rw [HQQ.out.2.2]; exact HK2.out
        have h4 := HL.out
        omega
      clear hb3
      go_wp2_with fail
      refine (mulP_any qa fi k1 n5 B1 A5 q1 d5 _ HK1 HN5 hra hr5 hq1 hd5 (by omega) (by omega)).mono ?_
      rintro e w4 ⟨A6, n6, d6, rfl, HN6, hd6, hr6, hb4⟩
      have hn6 : n6 ≤ 1000 := by
        have h1 := plain_len (mulL qa fi)
        have h2 : pl (mulL qa fi) ≤ pl qa + pl fi - 1 := pl_mul qa fi
        have h3 := pl_len qa
        have h4 := pl_len fi
        have h5 := HK1.out
        have h6 := HN5.out
        have h7 : pl (mulL qa fi) = n6 := HN6.out
        omega
      replace hB := below_step hB hb4
      replace hr2 := hr2.keep hb4
      replace hr3 := hr3.keep hb4
      replace hr5 := hr5.keep hb4
      replace hrr := hrr.keep hb4
      clear hb4
      go_wp2_with fail
      refine (addP_any fA (plainL (mulL qa fi)) n3 n6 A3 A6 d3 d6 _ HN3 HN6 hr3 hr6 hd3 hd6 (by omega) (by omega)).mono ?_
      rintro e w5 ⟨A7, n7, d7, rfl, HN7, hd7, hr7, hb5⟩
      have hf : Eqv (plainL (addL fA (plainL (mulL qa fi)))) (addL fA (mulL qa fi)) := (plain_eqv _).trans (add_congr (Eqv.refl _) (plain_eqv _))
      have HE2 := Lib.hid (HE.out.step HQQ.out.1 (by have := HL.out; have := HD.out; omega) hf)
      have hn7 : n7 ≤ 100 := by
        have h1 := HE2.out.deg
        have h2 : pl (plainL (addL fA (plainL (mulL qa fi)))) = n7 := by unfold pl; rw [plain_plain]; exact HN7.out
        omega
      have HREL2 : Hid (SolveR S n w (.slice A2 n2 d2) (.slice B2 k2 q2) (.slice A5 n5 d5) (.slice A7 n7 d7) w5) :=
        ⟨le, rr, fi, plainL (addL fA (plainL (mulL qa fi))), ⟨A2, n2, d2, rfl, HN2, hd2, hm2, hr2.keep hb5⟩, ⟨B2, k2, q2, rfl, HK2, hq2, by omega, hrr.keep hb5⟩, ⟨A5, n5, d5, rfl, HN5, hd5, hm5, hr5.keep hb5⟩, ⟨A7, n7, d7, rfl, HN7, hd7, hn7, hr7⟩, below_step hB hb5, HE2⟩
      clear hB hr2 hr3 hr5 hr1 hrr hra hr6 hr7 HE HE2 HQQ hf hb5
      go_wp2_with fail
      go_roundw
      case rel => exact HREL2.out
      case measure => simp [lenV] <;> omega
    · have j1 : ¬ (n : Int) - (M : Int) ≤ (L : Int) - 1 := by omega
      go_wp2_with fail
      go_ret2
      exact ⟨_, _, ah, le, fA, fi, rfl, ⟨A5, n5, d5, rfl, HN5, hd5, hm5, hr5⟩, ⟨A2, n2, d2, rfl, HN2, hd2, hm2, hr2⟩, hB, HE.out, by rw [HL.out, HD.out]; omega⟩

/-! ### amiss -/
theorem powZ_neg (p : Nat) (hp : p < 255) : powZ 2 (-(p : Int)) = rootB p := by
  unfold powZ
  rw [if_neg (by decide)]
  refine inv_unique _ _ ?_
  rw [← pow_add]
  by_cases h : p = 0
  · subst h
    rfl
  · have : ((-(p : Int)) % 255).toNat = 255 - p := by omega
    rw [this, show p + (255 - p) = 255 by omega, exp_255]
set_option maxHeartbeats 2000000 in
theorem amissM_any (f le : List UInt8) (p : Nat) (vf vl : Value) (w : World) (hp : p < 255) (hf : HasP w vf f) (hl : HasP w vl le) :
    Calls Tryz.prog 135 #[vf, vl, .int .i64 (p : Int)] w fun e w' => e = .returned (.int .u8 ((amB f le p).toNat : Int)) ∧ Below w.heap.size w w' := by
  obtain ⟨A1, n1, c1, rfl, HN1, hc1, hm1, hr1⟩ := hf
  obtain ⟨A2, n2, c2, rfl, HN2, hc2, hm2, hr2⟩ := hl
  have hx := gfexp_any (-(p : Int)) w
  rw [powZ_neg p hp] at hx
  have HX := Lib.hid hx
  have hw : IntKind.i64.wrap (-(p : Int)) = -(p : Int) := by rw [IntKind.wrap_i64]; omega
  clear hx
  obtain ⟨V, hV⟩ : ∃ V, amB f le p = V := ⟨_, rfl⟩
  rw [hV]
  unfold amB at hV
  generalize rootB p = r at HX hV
  obtain ⟨y, hy⟩ : ∃ y, evalL f r = y := ⟨_, rfl⟩
  have hEf := fun W (hW : Below w.heap.size w W) => evalP_any f r n1 A1 c1 W HN1 (hr1.keep hW) hc1 (by omega)
  rw [hy] at hEf hV
  have HEF := Lib.hid hEf
  have HV := Lib.hid hV
  clear hEf hy hV
  go_enter Tryz.func135, Tryz.ntmps135
  go_wp2_with fail
  refine HX.out.mono ?_
  rintro e w1 ⟨rfl, rfl⟩
  go_wp2_with fail
  refine (HEF.out _ (Below.refl _ _)).mono ?_
  rintro e w1 ⟨rfl, hb1⟩
  by_cases h0 : y = 0
  · subst h0
    have hV := HV.out
    rw [if_pos rfl] at hV
    clear HV
    replace hr1 := hr1.keep hb1
    replace hr2 := hr2.keep hb1
    have hB := hb1
    clear hb1
    go_wp2_with fail
    refine (slopeP_any f n1 A1 c1 _ HN1 hr1 hc1 (by omega)).mono ?_
    rintro e w2 ⟨A3, n3, c3, rfl, HN3, hc3, hr3, hb2⟩
    have hn3 : n3 ≤ 1000 := by
      rw [← HN3.out]
      have h1 := plain_len (slopeL f)
      have h2 : (plainL (slopeL f)).length ≤ f.length := (plain_le_iff _ _).2 fun k hk => by
        rw [co_slope]
        split
        · exact co_ge f _ (by omega)
        · rfl
      have := HN1.out
      omega
    have he : evalL (slopeL f) r = evalL (plainL (slopeL f)) r := (eval_congr (plain_eqv _) r).symm
    rw [he] at hV
    generalize plainL (slopeL f) = S at HN3 hr3 hV
    clear he
    replace hB := below_step hB hb2
    replace hr2 := hr2.keep hb2
    obtain ⟨z, hz⟩ : ∃ z, evalL S r = z := ⟨_, rfl⟩
    obtain ⟨u, hu⟩ : ∃ u, evalL le r = u := ⟨_, rfl⟩
    have hES := evalP_any S r n3 A3 c3 w2 HN3 hr3 hc3 (by omega)
    have hEL := fun W (hW : Below w2.heap.size w2 W) => evalP_any le r n2 A2 c2 W HN2 (hr2.keep hW) hc2 (by omega)
    rw [hz] at hES hV
    rw [hu] at hEL hV
    have HV := Lib.hid hV
    clear hV
    have HES := Lib.hid hES
    have HEL := Lib.hid hEL
    clear hES hEL hz hu hb2
    go_wp2_with fail
    refine HES.out.mono ?_
    rintro e w3 ⟨rfl, hb3⟩
    replace hB := below_step hB hb3
    by_cases hz : z = 0
    · subst hz
      have HV0 : Hid (V = 0) := by unfold Hid; rw [← HV.out, if_pos rfl]
      clear HV
      go_wp2_with fail
      refine (gfinv_zero _).mono ?_
      rintro e w4 ⟨rfl, rfl⟩
      go_wp2_with fail
      refine (HEL.out _ hb3).mono ?_
      rintro e w5 ⟨rfl, hb5⟩
      replace hB := below_step hB hb5
      have hm := gfmul_any u 0 w5
      rw [mul_zero] at hm
      have HMU := Lib.hid hm
      clear hm
      go_wp2_with fail
      refine HMU.out.mono ?_
      rintro e w6 ⟨rfl, rfl⟩
      go_wp2_with fail
      go_ret
      exact ⟨ret_int (by rw [HV0.out]; rfl), hB⟩
    · have HV0 : Hid (V = mulB u (invB z)) := by unfold Hid; rw [← HV.out, if_neg hz]
      clear HV
      go_wp2_with fail
      refine (gfinv_any z _ hz).mono ?_
      rintro e w4 ⟨rfl, rfl⟩
      go_wp2_with fail
      refine (HEL.out _ hb3).mono ?_
      rintro e w5 ⟨rfl, hb5⟩
      replace hB := below_step hB hb5
      go_wp2_with fail
      refine (gfmul_any u (invB z) _).mono ?_
      rintro e w6 ⟨rfl, rfl⟩
      go_wp2_with fail
      go_ret
      exact ⟨ret_int (by rw [HV0.out]), hB⟩
  · have HV0 : Hid (V = 0) := by unfold Hid; rw [← HV.out, if_neg h0]
    clear HV
    have hne : ((y.toNat : Int) != 0) = true := by
      rw [bne_iff_ne]
      intro e
      apply h0
      apply UInt8.toNat_inj.1
      rw [show (0 : UInt8).toNat = 0 from rfl]
      omega
    go_wp2_with fail
    go_ret
    exact ⟨ret_int (by rw [HV0.out]; rfl), hb1⟩

/-! ### Mend -/
/-- A call that hands back bytes, how many places, and an error. -/
def RetM (w : World) (s : List UInt8 × Nat × Int) (e : Ending) (w' : World) : Prop := ∃ A n c, e = .returned (.tuple #[.slice A n c, .int .i64 (s.2.1 : Int), .int .i64 s.2.2]) ∧ Hid (s.1.length = n) ∧ n ≤ c ∧ Rd vB w' A s.1 ∧ Below w.heap.size w w' ∧ ∀ a, A = some a → w.heap.size ≤ a.block
theorem RetM.to {w w' : World} {s : List UInt8 × Nat × Int} {e : Ending} (h : RetM w s e w') (l : List UInt8) (k : Nat) (kz err : Int) (hs : s = (l, k, err)) (hk : (k : Int) = kz) :
    ∃ A n c, e = .returned (.tuple #[.slice A n c, .int .i64 kz, .int .i64 err]) ∧ Hid (l.length = n) ∧ n ≤ c ∧ Rd vB w' A l ∧ Below w.heap.size w w' ∧ ∀ a, A = some a → w.heap.size ≤ a.block := by
  subst hs
  subst hk
  exact h
def MendR (b am : List UInt8) (g : Nat) (wb : World) (pv kv : Value) (wr : World) : Prop :=
  ∃ (j : Nat) (T : List UInt8), j ≤ b.length ∧ kv = .int .i64 (j : Int) ∧ pv = .int .i64 ((wtL (am.take j) : Nat) : Int) ∧ T.length = b.length ∧ (∀ i, i < b.length → co T i = if i < j then addB (co b i) (co am i) else co b i) ∧ Cel wr g 5 T ∧ Below wb.heap.size wb wr
set_option maxHeartbeats 2000000 in
theorem mendM_ok (b : List UInt8) (len n : Nat) (A : Option Addr) (c : Nat) (w : World) (HN : Hid (b.length = len)) (hr : Rd vB w A b) (hc : len ≤ c) (h1 : 1 ≤ n) (h2 : n ≤ 64) (h3 : n ≤ len) (h4 : len ≤ 255) :
    Calls Tryz.prog 75 #[.slice A len c, .int .i64 (n : Int)] w (RetM w (mendS b n)) := by
  obtain ⟨i0, hi, hz0, hz1, hz2⟩ := info_parts info_u8
  have e1 := HN.out
  subst e1
  have hE : errS b.length n = 0 := by unfold errS; rw [if_neg (by omega), if_neg (by omega), if_neg (by omega)]
  have HSI := Lib.hid (signsS_ok b b.length n A c w HN hr hc h1 h2 h3 h4)
  have HNear : Hid (∀ a, Near b n a → mendS b n = (a, difL b a, 0)) := fun a ha => mendS_near hE h4 ha
  have HMany : Hid ((∀ a, ¬ Near b n a) → mendS b n = ([], 0, 6)) := fun ha => mendS_many hE ha
  generalize mendS b n = R at HNear HMany ⊢
  clear hE
  go_enter Tryz.func75, Tryz.ntmps75
  go_wp2_with fail
  refine HSI.out.mono ?_
  rintro e w1 ⟨A1, n1, c1, rfl, HN1, hc1, hr1, hb1⟩
  have en1 : n1 = n := by rw [← HN1.out, signs_length]
  subst en1
  clear HSI
  go_wp2_with fail
  refine (solveM_any (signsL b n1) n1 A1 c1 w1 HN1 hr1 hc1 h1 h2).mono ?_
  rintro e w2 ⟨vf, vl, ah, le, fA, fi, rfl, hf, hle, hb2, HEU⟩
  obtain ⟨M, hM, hMl, hMd, hMn, hMu⟩ := mended_right h4 HEU.out.1 HEU.out.2
  obtain ⟨am, ham⟩ : ∃ am, amL fi le b.length = am := ⟨_, rfl⟩
  have hal : am.length = b.length := by rw [← ham]; exact am_length _ _ _
  have HCO : Hid (∀ j, j < b.length → amB fi le (b.length - 1 - j) = co am j) := fun j hj => by rw [← ham, co_am _ _ _ _ hj]
  rw [ham] at hM hMd
  have HM1 := Lib.hid hM
  have HM2 := Lib.hid hMd
  have HM3 := Lib.hid hMn
  have HM4 := Lib.hid hMu
  replace hr := hr.keep (below_step hb1 hb2)
  have hB := below_step hb1 hb2
  clear hr1 HEU HN1 ham hM hMd hMn hMu hb1 hb2
  go_wp2_with fail
  refine (clone_own b A c w2 hr (by omega)).mono ?_
  rintro e w3 ⟨v, rfl, ho, hb3⟩
  obtain ⟨A3, c3, rfl, hc3⟩ := own_form ho
  obtain ⟨g, rfl, hg, _⟩ := cel_of_own ho rfl (by omega)
  obtain ⟨hcel, _, hle3, hmax⟩ := celN_some ho rfl
  have hc0 := hcel.cel
  have hgw : w.heap.size ≤ g := Nat.le_trans hB.size hg
  clear ho hcel
  have hrel0 : MendR b am g w2 (.int .i64 0) (.int .i64 0) w3 := ⟨0, b, Nat.zero_le _, rfl, rfl, rfl, fun i hi => by rw [if_neg (Nat.not_lt_zero i)], hc0, hb3⟩
  have HREL := Lib.hid hrel0
  clear hrel0 hc0 hb3
  go_wp2_with fail
  go_loopw [12, 33] (fun p k wr => MendR b am g w2 p k wr) (fun _ k _ => b.length - (intOf k).toNat)
  case atStart => exact HREL.out
  case round =>
    clear HREL
    obtain ⟨j, T, hj, rfl, rfl, hT, hS, hcel, hbr⟩ := hrel
    have hf' := hf.keep hbr
    have hl' := hle.keep hbr
    by_cases h : j < b.length
    · have j1 : (j : Int) < (b.length : Int) := by omega
      have j0 : (0 : Int) ≤ (j : Int) := by omega
      obtain ⟨p, hp⟩ : ∃ p : Nat, p = b.length - 1 - j := ⟨_, rfl⟩
      have e1 : (b.length : Int) - 1 - (j : Int) = (p : Int) := by omega
      have hp2 : p < 255 := by omega
      have hA := amissM_any fi le p vf vl wr hp2 hf' hl'
      rw [hp, HCO.out j h] at hA
      rw [← hp] at hA
      have hkT : j < T.length := by omega
      have hSj := hS j h
      rw [if_neg (Nat.lt_irrefl j)] at hSj
      have hwt := wt_take am j (by omega)
      have hP255 : wtL (am.take (j + 1)) ≤ 255 := by have := wt_le (am.take (j + 1)); rw [List.length_take] at this; omega
      have HT1 : Hid (∀ (T' : List UInt8) (W : World), T'.length = b.length → (∀ i, i < b.length → co T' i = if i = j then addB (co b j) (co am j) else co T i) → Cel W g 5 T' → Below w2.heap.size w2 W → MendR b am g w2 (.int .i64 ((wtL (am.take (j + 1)) : Nat) : Int)) (.int .i64 ((j : Int) + 1)) W) := fun T' W t1 t2 t3 t4 =>
        ⟨j + 1, T', h, by go_num, rfl, t1, fun i hi => by
          rw [t2 i hi]
          by_cases e : i = j
          · subst e
            rw [if_pos rfl, if_pos (Nat.lt_succ_self i)]
          · rw [if_neg e, hS i hi]
            by_cases g1 : i < j
            · rw [if_pos g1, if_pos (by omega)]
            · rw [if_neg g1, if_neg (by omega)], t3, t4⟩
      generalize co am j = a at hA HT1 hwt
      generalize wtL (am.take j) = P0 at hwt ⊢
      generalize wtL (am.take (j + 1)) = P1 at hwt HT1 hP255
      have HA := Lib.hid hA
      have HSJ := Lib.hid hSj
      have HWT := Lib.hid hwt
      clear hA hS hp hSj hwt
      go_wp2_with fail
      refine HA.out.mono ?_
      rintro e w4 ⟨rfl, hb4⟩
      have hcel4 := hcel.later hb4
      have hB4 := below_step hbr hb4
      clear hcel hbr hf' hl' hb4 HA
      by_cases h0 : a = 0
      · subst h0
        have hP : P1 = P0 := by have := HWT.out; rw [if_pos rfl] at this; exact this
        subst hP
        have HR := Lib.hid (HT1.out T w4 hT (fun i hi => by
          by_cases e : i = j
          · subst e
            rw [if_pos rfl, HSJ.out, add_zero]
          · rw [if_neg e]) hcel4 hB4)
        clear HT1 HWT HSJ hcel4 hB4
        go_wp2_with fail
        go_roundw
        case rel => exact HR.out
        case measure => simp [intOf] <;> omega
      · have hne : ((a.toNat : Int) != 0) = true := by
          rw [bne_iff_ne]
          intro e
          apply h0
          apply UInt8.toNat_inj.1
          rw [show (0 : UInt8).toNat = 0 from rfl]
          omega
        have hP : ((P0 : Int) + 1) = (P1 : Int) := by have := HWT.out; rw [if_neg h0] at this; omega
        have hcj := hcel4.get j hkT
        rw [HSJ.out] at hcj
        have hfj := hcel4.frozen j
        have hcs := hcel4.set j (addB (co b j) a)
        have HR := fun hd => Lib.hid (HT1.out (T.set j (addB (co b j) a)) (w4.setCell ⟨g, j, none⟩ (.int .u8 ((addB (co b j) a).toNat : Int))) (by rw [List.length_set]; exact hT) (fun i hi => co_set T j i _ hkT) hcs hd)
        have HR2 := HR (hB4.setCell (p := ⟨g, j, none⟩) hg _)
        generalize co b j = bj at hcj HR2 HSJ hcs
        clear HT1 HWT HSJ hcel4 hcs hB4 HR
        go_wp2_with fail
        refine (gfadd_any bj a _).mono ?_
        rintro e w5 ⟨rfl, rfl⟩
        go_wp2_with fail
        go_roundw
        case rel => exact HR2.out
        case measure => simp [intOf] <;> omega
    · have ej : j = b.length := by omega
      subst ej
      have j1 : ¬ (b.length : Int) < (b.length : Int) := by omega
      have HT : Hid (T = M) := by
        unfold Hid
        rw [HM1.out]
        refine co_ext (by rw [hT, List.length_zipWith]; omega) (fun i hi => ?_)
        rw [hT] at hi
        rw [hS i hi, if_pos hi, co_zip _ _ _ hi (by omega)]
      have HW : Hid (wtL (am.take b.length) = difL b M) := by
        unfold Hid
        rw [HM2.out, ← hal, List.take_length]
      have e2 := HT.out
      subst e2
      rw [HW.out]
      have hrT := hcel.rd
      have hBw := below_step hB hbr
      have HTL := Lib.hid hT
      have hfin := fineS_any T b.length (n1 : Int) (some ⟨g, 0, none⟩) c3 wr HTL hrT hc3 (by omega)
      obtain ⟨F, hF⟩ : ∃ F, fineS T (n1 : Int) = F := ⟨_, rfl⟩
      have hiff := fineS_iff T n1 h1 h2 (by omega) (by omega)
      rw [hF] at hfin hiff
      have HFin := Lib.hid hfin
      have HIff := Lib.hid hiff
      obtain ⟨D, hD⟩ : ∃ D, difL b T = D := ⟨_, rfl⟩
      rw [hD]
      have HDD := Lib.hid hD
      clear hD
      clear hcel hS hbr hfin hiff hF hf' hl' hf hle hr hT hB HCO
      go_wp2_with fail
      refine HFin.out.mono ?_
      rintro e w6 ⟨rfl, hb6⟩
      have hB6 := below_step hBw hb6
      have hr6 := hrT.keep hb6
      cases F with
      | true =>
        have HRR : Hid (R = (T, difL b T, 0)) := HNear.out T (HM3.out (HIff.out.1 rfl))
        clear HNear HMany HM3 HM4 hBw hrT hb6
        go_wp2_with fail
        go_ret3
        rw [HRR.out, HDD.out]
        exact ⟨_, b.length, c3, rfl, HTL, hc3, hr6, hB6, fun a ha => by cases ha; exact hgw⟩
      | false =>
        have HRR : Hid (R = ([], 0, 6)) := HMany.out fun a ha => by
          have ea := HM4.out a ha
          subst ea
          have := HIff.out.2 ha.2.1
          cases this
        clear HNear HMany HM3 HM4 hBw hrT hb6
        go_wp2_with fail
        go_ret3
        rw [HRR.out]
        exact ⟨none, 0, 0, rfl, Lib.hid rfl, Nat.le_refl _, Rd.nil, hB6, fun a ha => by cases ha⟩
theorem mendM_no (b : List UInt8) (len : Nat) (n : Int) (A : Option Addr) (c : Nat) (w : World) (HN : Hid (b.length = len)) (hr : Rd vB w A b) (hc : len ≤ c) (hl : len ≤ 100000) (h : errS len n ≠ 0) :
    Calls Tryz.prog 75 #[.slice A len c, .int .i64 n] w (RetM w (mendS b n)) := by
  have HM := Lib.hid (signsS_no b len n A c w HN hr hc hl (Lib.hid h))
  rw [mendS_bad (by rw [HN.out]; exact h), HN.out]
  generalize errS len n = k at HM h ⊢
  have hk : (k != 0) = true := bne_iff_ne.2 h
  clear h
  go_enter Tryz.func75, Tryz.ntmps75
  go_wp2_with fail
  refine HM.out.mono ?_
  rintro e w1 ⟨A1, n1, c1, rfl, HN1, hc1, hr1, hb1⟩
  go_wp2_with fail
  go_ret3
  exact ⟨none, 0, 0, rfl, Lib.hid rfl, Nat.le_refl _, Rd.nil, hb1, fun a ha => by cases ha⟩
theorem mendM_any (b : List UInt8) (len : Nat) (n : Int) (A : Option Addr) (c : Nat) (w : World) (HN : Hid (b.length = len)) (hr : Rd vB w A b) (hc : len ≤ c) (hl : len ≤ 100000) :
    Calls Tryz.prog 75 #[.slice A len c, .int .i64 n] w (RetM w (mendS b n)) := by
  by_cases h : errS len n = 0
  · obtain ⟨m, rfl, h1, h2, h3, h4⟩ := errS_cases len n h
    exact mendM_ok b len m A c w HN hr hc h1 h2 h3 h4
  · exact mendM_no b len n A c w HN hr hc hl h
end Go.Proofs.YteppocjgodmpdaaGreatDoor
/-
  What the program's calls of layer 13 answer (fault, Make, Read), and what the statements' Told makes of an error. Condition: errors.errorType holds the handle of the type error (EtC).
-/
namespace Go.Proofs.YteppocjgodmpdaaGreatDoor
set_option maxRecDepth 100000
open Go.RowKit
set_option linter.unusedSimpArgs false
set_option linter.unusedVariables false

/-! ### fault -/
set_option maxHeartbeats 2000000 in
theorem fault_ok (s : Int) (w : World) (hg : EtC w) :
    Calls Tryz.prog 68 #[.int .i64 s, .iface 43 (.int .i64 0)] w fun e w' => e = .returned .nilIface ∧ Below w.heap.size w w' := by
  go_enter Tryz.func68, Tryz.ntmps68
  go_upto_region 2 with fail
  have hgl := etC_lt hg
  have hb := below_new (Below.refl w.heap.size w) (.cells #[.int .i64 0] 43)
  have hR : Row (w.alloc (.cells #[.int .i64 0] 43)) w.heap.size 43 [.int .i64 0] := Row.new w _ _ _ rfl
  have hg1 := hg.later hb
  generalize w.alloc (.cells #[.int .i64 0] 43) = W1 at hb hR hg1 ⊢
  go_wp2_with fail
  refine (as_errno 0 ⟨w.heap.size, 0, none⟩ (.int .i64 0) W1 hg1 (one_row hR) (hR.frozen 0)).mono ?_
  rintro e w2 ⟨rfl, hw2⟩
  obtain ⟨hR2, hb2⟩ := asR hR hw2
  replace hb := below_only hb hb2 (Nat.le_refl _)
  clear hw2 hb2
  have c0 := one_row hR2
  go_wp2_with fail
  go_ret
  exact ⟨rfl, hb⟩
set_option maxHeartbeats 2000000 in
theorem fault_no (s k : Int) (w : World) (hg : EtC w) (hk : k ≠ 0) :
    Calls Tryz.prog 68 #[.int .i64 s, .iface 43 (.int .i64 k)] w fun e w' => ∃ g, e = .returned (errV g) ∧ Flt w' g s k ∧ Below w.heap.size w w' ∧ w.heap.size ≤ g := by
  have hk0 : (k == 0) = false := beq_eq_false_iff_ne.2 hk
  have hk1 : (k != 0) = true := by rw [bne, hk0]; rfl
  go_enter Tryz.func68, Tryz.ntmps68
  go_upto_region 2 with fail
  have hgl := etC_lt hg
  have hb := below_new (Below.refl w.heap.size w) (.cells #[.int .i64 0] 43)
  have hR : Row (w.alloc (.cells #[.int .i64 0] 43)) w.heap.size 43 [.int .i64 0] := Row.new w _ _ _ rfl
  have hg1 := hg.later hb
  generalize w.alloc (.cells #[.int .i64 0] 43) = W1 at hb hR hg1 ⊢
  go_wp2_with fail
  refine (as_errno k ⟨w.heap.size, 0, none⟩ (.int .i64 0) W1 hg1 (one_row hR) (hR.frozen 0)).mono ?_
  rintro e w2 ⟨rfl, hw2⟩
  obtain ⟨hR2, hb2⟩ := asR hR hw2
  replace hb := below_only hb hb2 (Nat.le_refl _)
  clear hw2 hb2
  have c0 := one_row hR2
  go_wp2_with fail
  go_ret
  exact ⟨_, rfl, Row.new w2 _ _ _ rfl, below_new hb _, hb.size⟩

/-! ### Make -/
set_option maxHeartbeats 4000000 in
theorem makeB_ok (t e c : Nat) (tag : List UInt8) (A : Option Addr) (k : Nat) (w : World) (ht : t < 18446744073709551616) (he : e < 18446744073709551616) (hc : c < 18446744073709551616) (HN : Hid (tag.length = 8)) (hr : Rd vB w A tag) (hk : 8 ≤ k) (hg : EtC w) :
    Calls Tryz.prog 31 #[aggP t e c A 8 k] w fun e₁ w' => ∃ A' n c', e₁ = .returned (.tuple #[.slice A' n c', .nilIface]) ∧ Hid ((barL t e c tag).length = n) ∧ n ≤ c' ∧ Rd vB w' A' (barL t e c tag) ∧ Below w.heap.size w w' := by
  obtain ⟨hR0, hB0⟩ := box_pay w 77 (.int .u64 (t : Int)) (.int .u64 (e : Int)) (.int .u64 (c : Int)) (.slice A 8 k)
  unfold aggP
  go_enter Tryz.func31, Tryz.ntmps31
  go_upto_region 1 with fail
  generalize (w.alloc (.cells #[.int .u64 (t : Int), .int .u64 (e : Int), .int .u64 (c : Int), .slice A 8 k] 77)) = W0 at hR0 hB0 ⊢
  replace hg := hg.later hB0
  go_wp2_with (refine wpList_load_part rfl 77 (.tmp 1) rfl w.heap.size 0 rfl _ _ hR0 [.int .u64 (t : Int), .int .u64 (e : Int), .int .u64 (c : Int), .slice A 8 k] (by rfl) _ Tryz.underlying77 rfl (by exact size_pay') ?_)
  refine (writeP_ok t e c tag A k _ ht he hc HN (hr.keep hB0) hk).mono ?_
  rintro e₁ w1 ⟨A1, n1, c1, rfl, HN1, hc1, hr1, hb⟩
  have HL := Lib.hid (stuffed_length (t := t) (e := e) (c := c) HN.out)
  have HW := Lib.hid (write_length t e c tag HN.out)
  replace hg := hg.later hb
  replace hB0 := below_step hB0 hb
  clear hb hR0 hr ht he hc
  go_upto_region 2 with fail
  go_wp2_with fail
  refine (fault_ok 3 _ hg).mono ?_
  rintro e₁ w2 ⟨rfl, hb⟩
  replace hg := hg.later hb
  replace hr1 := hr1.keep hb
  replace hB0 := below_step hB0 hb
  clear hb
  go_wp2_with fail
  refine (putF_any (writeF t e c tag) n1 A1 c1 _ HN1 hr1 hc1 (by have := HW.out; have := HN1.out; omega)).mono ?_
  rintro e₁ w3 ⟨A3, n3, c3, rfl, HN3, hc3, hr3, hb⟩
  replace hB0 := below_step hB0 hb
  clear hb hr1
  go_wp2_with fail
  refine (putS_ok (putSt (writeF t e c tag)) n3 10 A3 c3 _ HN3 hr3 hc3 (by omega) (by omega) (by have := HL.out; have := HN3.out; omega)).mono ?_
  rintro e₁ w4 ⟨A4, n4, c4, rfl, HN4, hc4, hr4, hb⟩
  replace hB0 := below_step hB0 hb
  clear hb hr3
  go_wp2_with fail
  go_ret2
  exact ⟨A4, n4, c4, rfl, HN4, hc4, hr4, hB0⟩
set_option maxHeartbeats 4000000 in
theorem makeB_no (t e c : Nat) (tag : List UInt8) (n : Nat) (A : Option Addr) (k : Nat) (w : World) (ht : t < 18446744073709551616) (he : e < 18446744073709551616) (hc : c < 18446744073709551616) (HN : Hid (tag.length = n)) (hr : Rd vB w A tag) (hk : n ≤ k) (hn : n ≤ 100000) (h8 : n ≠ 8) (hg : EtC w) :
    Calls Tryz.prog 31 #[aggP t e c A n k] w fun e₁ w' => ∃ g, e₁ = .returned (.tuple #[.slice none 0 0, errV g]) ∧ Flt w' g 3 1 ∧ Below w.heap.size w w' := by
  obtain ⟨hR0, hB0⟩ := box_pay w 77 (.int .u64 (t : Int)) (.int .u64 (e : Int)) (.int .u64 (c : Int)) (.slice A n k)
  unfold aggP
  go_enter Tryz.func31, Tryz.ntmps31
  go_upto_region 1 with fail
  generalize (w.alloc (.cells #[.int .u64 (t : Int), .int .u64 (e : Int), .int .u64 (c : Int), .slice A n k] 77)) = W0 at hR0 hB0 ⊢
  replace hg := hg.later hB0
  go_wp2_with (refine wpList_load_part rfl 77 (.tmp 1) rfl w.heap.size 0 rfl _ _ hR0 [.int .u64 (t : Int), .int .u64 (e : Int), .int .u64 (c : Int), .slice A n k] (by rfl) _ Tryz.underlying77 rfl (by exact size_pay') ?_)
  refine (writeP_no t e c tag n A k _ ht he hc HN (hr.keep hB0) hk hn h8).mono ?_
  rintro e₁ w1 ⟨A1, n1, c1, rfl, HN1, hc1, hr1, hb⟩
  replace hg := hg.later hb
  replace hB0 := below_step hB0 hb
  clear hb hR0 hr ht he hc h8
  go_upto_region 2 with fail
  go_wp2_with fail
  refine (fault_no 3 1 _ hg (by omega)).mono ?_
  rintro e₁ w2 ⟨g, rfl, hF, hb, hgg⟩
  replace hB0 := below_step hB0 hb
  clear hb
  go_wp2_with fail
  go_ret2
  exact ⟨g, rfl, hF, hB0⟩

/-! ### Read -/
theorem results_cell_tmp2B {fn : Func} {p u v : Tmp} {ty : TypeId} (h : fn.results = #[.cell p ty, .tmp u, .tmp v]) (tmps : Array Value) (P : Program) (w : World) :
    (results fn tmps).run P w = ((asAddr (tmps.getD p undef)).run P w).andThen fun a w₁ => ((loadVar ty a).run P w₁).andThen fun x w₂ => .ok (.tuple #[x, tmps.getD u undef, tmps.getD v undef]) w₂ := by
  simp only [results, h]
  simp [Sem.run_bind, Result.andThen]
theorem results_row_tmp2B {P : Program} {fn : Func} {p u v : Tmp} {ty : TypeId} (h : fn.results = #[.cell p ty, .tmp u, .tmp v]) (tmps : Array Value) (w : World) (g : Nat) (t : TypeId) (l : List Value) (d : TypeDesc) (hp : tmps.getD p undef = .pointer (some ⟨g, 0, none⟩)) (hg : Row w g t l)
    (hu : P.underlying ty = some d) (hd : d.isRow = true) (hi : (P.info? ty).map (·.size) = some l.length) : (results fn tmps).run P w = .ok (.tuple #[.agg l.toArray, tmps.getD u undef, tmps.getD v undef]) w := by
  rw [results_cell_tmp2B h, hp]
  simp only [asAddr, Sem.run_pure, Result.andThen_ok, hg.loadVar (P := P) ty d hu hd hi]
def RetBar (w : World) (X : (Int × Nat × Nat × Nat × List UInt8) × Nat × Int) (e : Ending) (w' : World) : Prop :=
  ∃ A n k ev, e = .returned (.tuple #[aggP X.1.2.1 X.1.2.2.1 X.1.2.2.2.1 A n k, .int .i64 (X.2.1 : Int), ev]) ∧ Hid (X.1.2.2.2.2.length = n) ∧ n ≤ k ∧ Rd vB w' A X.1.2.2.2.2 ∧ Below w.heap.size w w' ∧ ErrV w' ev X.2.2 X.1.1
/-- How a fault is handed back: the payload's block as it was laid. -/
theorem retbar_no {w w' : World} {X : (Int × Nat × Nat × Nat × List UInt8) × Nat × Int} {s k : Int} {g : Nat} (hX : Hid (X = ((k, 0, 0, 0, []), 0, s))) (hk : k ≠ 0) (hF : Flt w' g s k) (hb : Below w.heap.size w w') : RetBar w X (.returned (.tuple #[aggP 0 0 0 none 0 0, .int .i64 0, errV g])) w' := by
  rw [hX.out]
  exact ⟨none, 0, 0, _, rfl, Lib.hid rfl, Nat.le_refl _, Rd.nil, hb, .inr ⟨hk, g, rfl, hF⟩⟩
theorem data_rd {W : World} {A : Option Addr} {m : List UInt8} (h : Rd vB W A m) : Rd vB W A (dataL m) := h.take (m.length - 10)
/-- No byte lies in a payload's block as it was laid. -/
theorem pay_apart {W : World} {g : Nat} {t : TypeId} {A : Option Addr} {l : List UInt8} (hR : Row W g t [.int .u64 0, .int .u64 0, .int .u64 0, .slice none 0 0]) (hr : Rd vB W A l) : l ≠ [] → ∀ a, A = some a → a.block ≠ g := fun hn a ha hg => by
  obtain ⟨b, o, rfl, hc⟩ := hr hn
  injection ha with ha
  subst ha
  have e : b = g := hg
  subst e
  have h0 := hc 0 (List.length_pos_iff.2 hn)
  rw [Nat.add_zero, hR.cell? o] at h0
  match o with
  | 0 => simp [vB] at h0
  | 1 => simp [vB] at h0
  | 2 => simp [vB] at h0
  | 3 => simp [vB] at h0
  | o + 4 => simp at h0
set_option maxHeartbeats 8000000 in
theorem readB_any (b : List UInt8) (len : Nat) (A : Option Addr) (c : Nat) (w : World) (HN : Hid (b.length = len)) (hr : Rd vB w A b) (hc : len ≤ c) (hl : len ≤ 10000) (hg : EtC w) :
    Calls Tryz.prog 34 #[.slice A len c] w (RetBar w (barsL b)) := by
  obtain ⟨X, hX⟩ : ∃ X, barsL b = X := ⟨_, rfl⟩
  rw [hX]
  replace hX := Lib.hid hX
  obtain ⟨hR0, hB0⟩ := box_pay w 77 (.int .u64 0) (.int .u64 0) (.int .u64 0) (.slice none 0 0)
  go_enter Tryz.func34, Tryz.ntmps34
  go_upto_region 1 with fail
  generalize (w.alloc (.cells #[.int .u64 0, .int .u64 0, .int .u64 0, .slice none 0 0] 77)) = W0 at hR0 hB0 ⊢
  replace hr := hr.keep hB0
  replace hg := hg.later hB0
  go_wp2_with fail
  refine (mendM_any b len 10 A c W0 HN hr hc (by omega)).mono ?_
  obtain ⟨m, pl, k, hS⟩ : ∃ m pl k, mendS b 10 = (m, pl, k) := ⟨_, _, _, rfl⟩
  rw [hS]
  rintro e₁ w1 ⟨A1, n1, c1, rfl, HN1, hc1, hr1, hb, _⟩
  dsimp only at HN1 hr1 ⊢
  have HS := Lib.hid hS
  have HM := Lib.hid (mend_length b)
  clear hS
  replace hg := hg.later hb
  replace hR0 := hR0.later hb
  replace hB0 := below_step hB0 hb
  clear hb hr
  go_upto_region 2 with fail
  by_cases hk : k = 0
  · subst hk
    obtain ⟨hm1, hm2, hm3⟩ : 10 ≤ n1 ∧ n1 = len ∧ len ≤ 255 := by
      have := HM.out (by rw [HS.out])
      rw [HS.out, HN.out] at this
      dsimp only at this
      rw [HN1.out] at this
      exact this
    obtain ⟨n2, rfl⟩ : ∃ n2, n1 = n2 + 10 := ⟨n1 - 10, by omega⟩
    have HX : Hid (X = gotL (dataL m) pl) := by
      unfold Hid
      rw [← hX.out]
      unfold barsL
      rw [HS.out, if_pos rfl]
    have HD : Hid ((dataL m).length = n2) := by
      unfold Hid dataL
      rw [List.length_take, HN1.out]
      omega
    have h2 : n2 ≤ 245 := by omega
    clear hX HM HS hm1 hm2 hm3
    go_wp2_with fail
    refine (fault_ok 1 _ hg).mono ?_
    rintro e₁ w2 ⟨rfl, hb⟩
    replace hg := hg.later hb
    replace hr1 := data_rd (hr1.keep hb)
    replace hR0 := hR0.later hb
    replace hB0 := below_step hB0 hb
    clear hb HN1
    go_upto_region 5 with fail
    generalize dataL m = d at HX HD hr1
    by_cases hq : putSt (candL d) = d
    · have HG : Hid (X = if (readF (candL d)).1 = 0 then (readF (candL d), pl, 0) else (readF (candL d), 0, 3)) := by
        unfold Hid
        rw [HX.out]
        unfold gotL
        rw [if_pos hq]
      have HL : Hid ((candL d).length ≤ n2) := by
        have := (put_length (candL d)).1
        rw [hq, HD.out] at this
        exact this
      go_wp2_with fail
      refine (getF_ok d n2 A1 c1 _ HD hr1 (by omega) (by omega) (Lib.hid hq)).mono ?_
      rintro e₁ w3 ⟨A3, n3, c3, rfl, HN3, hc3, hr3, hb⟩
      replace hg := hg.later hb
      replace hR0 := hR0.later hb
      replace hB0 := below_step hB0 hb
      clear hb hr1 HX
      have h3 : n3 ≤ 245 := by have := HL.out; rw [HN3.out] at this; omega
      generalize candL d = q at HG HL HN3 hr3
      clear hq HD HL
      go_upto_region 6 with fail
      go_wp2_with fail
      refine (fault_ok 2 _ hg).mono ?_
      rintro e₁ w4 ⟨rfl, hb⟩
      replace hg := hg.later hb
      replace hr3 := hr3.keep hb
      replace hR0 := hR0.later hb
      replace hB0 := below_step hB0 hb
      clear hb
      go_wp2_with fail
      refine (readP_any q n3 A3 c3 _ HN3 hr3 hc3 (by omega)).mono ?_
      obtain ⟨k5, t, e, c', tag, hF⟩ : ∃ k t e c tag, readF q = (k, t, e, c, tag) := ⟨_, _, _, _, _, rfl⟩
      have hbad : k5 ≠ 0 → (t = 0 ∧ e = 0 ∧ c' = 0 ∧ tag = []) := fun h => by
        have := readF_bad q (by rw [hF]; exact h)
        rw [hF] at this
        simpa using this
      rw [hF] at HG ⊢
      rintro e₁ w5 ⟨A5, n5, c5, rfl, HN5, hc5, hr5, hb⟩
      dsimp only at HN5 hr5 HG ⊢
      replace hg := hg.later hb
      replace hR0 := hR0.later hb
      replace hB0 := below_step hB0 hb
      clear hb hr3 hF HN3
      have hRn : Row (w5.alloc (.cells #[.int .u64 0, .int .u64 0, .int .u64 0, .slice none 0 0] 77)) w5.heap.size 77 [.int .u64 0, .int .u64 0, .int .u64 0, .slice none 0 0] := Row.new w5 _ _ _ rfl
      go_upto_region 10 with (refine wpList_store_row rfl 77 (.tmp 11) (.tmp 45) rfl w5.heap.size rfl [.int .u64 (t : Int), .int .u64 (e : Int), .int .u64 (c' : Int), .slice A5 n5 c5] rfl _ _ hRn (by exact size_pay') rfl (one_four _ _ _ _ rfl rfl rfl rfl) ?_)
      have hRp := hRn.setRow [.int .u64 (t : Int), .int .u64 (e : Int), .int .u64 (c' : Int), .slice A5 n5 c5]
      have hb2 : Below w5.heap.size w5 ((w5.alloc (.cells #[.int .u64 0, .int .u64 0, .int .u64 0, .slice none 0 0] 77)).setRow w5.heap.size [.int .u64 (t : Int), .int .u64 (e : Int), .int .u64 (c' : Int), .slice A5 n5 c5].toArray) := below_setRow (below_new (Below.refl _ _) _) (Nat.le_refl _) _
      have hgw := hR0.lt
      have hoff := hr5.off
      replace hg := hg.later hb2
      replace hr5 := hr5.keep hb2
      replace hR0 := hR0.later hb2
      replace hB0 := below_step hB0 hb2
      generalize (w5.alloc (.cells #[.int .u64 0, .int .u64 0, .int .u64 0, .slice none 0 0] 77)).setRow w5.heap.size [.int .u64 (t : Int), .int .u64 (e : Int), .int .u64 (c' : Int), .slice A5 n5 c5].toArray = W6 at hg hr5 hR0 hB0 hRp ⊢
      generalize w5.heap.size = gp at hRp hgw hoff ⊢
      clear hRn hb2
      by_cases hk5 : k5 = 0
      · subst hk5
        rw [if_pos rfl] at HG
        go_wp2_with fail
        refine (fault_ok 3 _ hg).mono ?_
        rintro e₁ w7 ⟨rfl, hb⟩
        replace hg := hg.later hb
        replace hr5 := hr5.keep hb
        replace hR0 := hR0.later hb
        replace hRp := hRp.later hb
        replace hB0 := below_step hB0 hb
        clear hb
        have hap := pay_apart hR0 hr5
        go_wp2_with (first
          | (refine wpList_load_part rfl 77 (.tmp 11) rfl gp 0 rfl _ _ hRp [.int .u64 (t : Int), .int .u64 (e : Int), .int .u64 (c' : Int), .slice A5 n5 c5] (by rfl) _ Tryz.underlying77 rfl (by exact size_pay') ?_)
          | (refine wpList_store_row rfl 77 (.tmp 2) (.tmp 54) rfl w.heap.size rfl [.int .u64 (t : Int), .int .u64 (e : Int), .int .u64 (c' : Int), .slice A5 n5 c5] rfl _ _ hR0 (by exact size_pay') rfl (one_four _ _ _ _ rfl rfl rfl rfl) ?_))
        refine bodyPost_ret (results_row_tmp2B (p := 2) (u := 3) (v := 4) (ty := 77) (by rfl) _ _ w.heap.size 77 _ _ (by rfl) (by exact hR0.setRow _) Tryz.underlying77 (by rfl) (by exact size_pay')) (by rfl) ?_
        rw [HG.out]
        exact ⟨A5, n5, c5, .nilIface, rfl, HN5, hc5, hr5.only ((Only.refl w.heap.size _).setRow _) hap, below_setRow hB0 (Nat.le_refl _) _, .inl ⟨rfl, rfl⟩⟩
      · obtain ⟨rfl, rfl, rfl, rfl⟩ := hbad hk5
        rw [if_neg hk5] at HG
        go_wp2_with fail
        refine (fault_no 3 k5 _ hg hk5).mono ?_
        rintro e₁ w7 ⟨g, rfl, hF, hb, hgg⟩
        have hgw := hR0.lt
        replace hR0 := hR0.later hb
        replace hB0 := below_step hB0 hb
        clear hb
        go_upto_region 12 with fail
        go_wp2_with (refine wpList_store_row rfl 77 (.tmp 2) (.tmp 52) rfl w.heap.size rfl [.int .u64 0, .int .u64 0, .int .u64 0, .slice none 0 0] rfl _ _ hR0 (by exact size_pay') rfl (one_four _ _ _ _ rfl rfl rfl rfl) ?_)
        refine bodyPost_ret (results_row_tmp2B (p := 2) (u := 3) (v := 4) (ty := 77) (by rfl) _ _ w.heap.size 77 _ _ (by rfl) (by exact hR0.setRow _) Tryz.underlying77 (by rfl) (by exact size_pay')) (by rfl) ?_
        exact retbar_no HG hk5 (Row.setRow_other hF (by omega) _) (below_setRow hB0 (Nat.le_refl _) _)
    · have HG : Hid (X = ((3, 0, 0, 0, []), 0, 2)) := by
        unfold Hid
        rw [HX.out]
        unfold gotL
        rw [if_neg hq]
      go_wp2_with fail
      refine (getF_no d n2 A1 c1 _ HD hr1 (by omega) (by omega) (Lib.hid hq)).mono ?_
      rintro e₁ w3 ⟨A3, n3, c3, rfl, HN3, hc3, hr3, hb⟩
      replace hg := hg.later hb
      replace hR0 := hR0.later hb
      replace hB0 := below_step hB0 hb
      clear hb hr1 HX
      go_upto_region 6 with fail
      go_wp2_with fail
      refine (fault_no 2 3 _ hg (by omega)).mono ?_
      rintro e₁ w4 ⟨g, rfl, hF, hb, hgg⟩
      have hgw := hR0.lt
      replace hR0 := hR0.later hb
      replace hB0 := below_step hB0 hb
      clear hb
      go_upto_region 8 with fail
      go_wp2_with (refine wpList_store_row rfl 77 (.tmp 2) (.tmp 40) rfl w.heap.size rfl [.int .u64 0, .int .u64 0, .int .u64 0, .slice none 0 0] rfl _ _ hR0 (by exact size_pay') rfl (one_four _ _ _ _ rfl rfl rfl rfl) ?_)
      refine bodyPost_ret (results_row_tmp2B (p := 2) (u := 3) (v := 4) (ty := 77) (by rfl) _ _ w.heap.size 77 _ _ (by rfl) (by exact hR0.setRow _) Tryz.underlying77 (by rfl) (by exact size_pay')) (by rfl) ?_
      exact retbar_no HG (by omega) (Row.setRow_other hF (by omega) _) (below_setRow hB0 (Nat.le_refl _) _)
  · go_wp2_with fail
    refine (fault_no 1 k _ hg hk).mono ?_
    rintro e₁ w2 ⟨g, rfl, hF, hb, hgg⟩
    have hgw := hR0.lt
    replace hR0 := hR0.later hb
    replace hB0 := below_step hB0 hb
    clear hb
    have HX : Hid (X = ((k, 0, 0, 0, []), 0, 1)) := by
      unfold Hid
      rw [← hX.out]
      unfold barsL
      rw [HS.out, if_neg hk]
    clear hX HM HS
    go_upto_region 4 with fail
    go_wp2_with (refine wpList_store_row rfl 77 (.tmp 2) (.tmp 24) rfl w.heap.size rfl [.int .u64 0, .int .u64 0, .int .u64 0, .slice none 0 0] rfl _ _ hR0 (by exact size_pay') rfl (one_four _ _ _ _ rfl rfl rfl rfl) ?_)
    refine bodyPost_ret (results_row_tmp2B (p := 2) (u := 3) (v := 4) (ty := 77) (by rfl) _ _ w.heap.size 77 _ _ (by rfl) (by exact hR0.setRow _) Tryz.underlying77 (by rfl) (by exact size_pay')) (by rfl) ?_
    exact retbar_no HX hk (Row.setRow_other hF (by omega) _) (below_setRow hB0 (Nat.le_refl _) _)
/-- Its two ways. -/
theorem readB_ok (b : List UInt8) (t e c : Nat) (tag : List UInt8) (n : Nat) (len : Nat) (A : Option Addr) (cap : Nat) (w : World) (HN : Hid (b.length = len)) (hr : Rd vB w A b) (hc : len ≤ cap) (hl : len ≤ 10000) (hg : EtC w) (H : Hid (barsL b = ((0, t, e, c, tag), n, 0))) :
    Calls Tryz.prog 34 #[.slice A len cap] w fun e₁ w' => ∃ A' m k, e₁ = .returned (.tuple #[aggP t e c A' m k, .int .i64 (n : Int), .nilIface]) ∧ Hid (tag.length = m) ∧ m ≤ k ∧ Rd vB w' A' tag ∧ Below w.heap.size w w' := by
  refine (readB_any b len A cap w HN hr hc hl hg).mono ?_
  rw [H.out]
  rintro e₁ w' ⟨A', m, k, ev, rfl, h1, h2, h3, h4, h5⟩
  rcases h5 with ⟨_, rfl⟩ | ⟨h, _⟩
  · exact ⟨A', m, k, rfl, h1, h2, h3, h4⟩
  · exact absurd rfl h
theorem readB_no (b : List UInt8) (k s : Int) (len : Nat) (A : Option Addr) (cap : Nat) (w : World) (HN : Hid (b.length = len)) (hr : Rd vB w A b) (hc : len ≤ cap) (hl : len ≤ 10000) (hg : EtC w) (H : Hid (barsL b = ((k, 0, 0, 0, []), 0, s))) (hk : k ≠ 0) :
    Calls Tryz.prog 34 #[.slice A len cap] w fun e₁ w' => ∃ A' c' g, e₁ = .returned (.tuple #[aggP 0 0 0 A' 0 c', .int .i64 0, errV g]) ∧ Flt w' g s k ∧ Below w.heap.size w w' := by
  refine (readB_any b len A cap w HN hr hc hl hg).mono ?_
  rw [H.out]
  rintro e₁ w' ⟨A', m, c', ev, rfl, h1, h2, h3, h4, h5⟩
  have hm : m = 0 := h1.out.symm
  subst hm
  rcases h5 with ⟨h, _⟩ | ⟨_, g, rfl, hF⟩
  · exact absurd h hk
  · exact ⟨A', c', g, rfl, hF, h4⟩
end Go.Proofs.YteppocjgodmpdaaGreatDoor
/-
  A literal's bytes, converted to their own type: a row with a frozen mark reads as the bytes did (no program is named here). No conditions but those typed.
-/
namespace Go.Proofs.YteppocjgodmpdaaGreatDoor
set_option maxRecDepth 100000
open Go.RowKit

theorem Rd.new_fr {α : Type} {f : α → Value} (w : World) (g : Nat) (hg : g = w.heap.size) (l : List α) (cs : Array Value) (e : TypeId) (fr : Nat × Nat) (h : cs = (l.map f).toArray) : Rd f (w.alloc (.cells cs e fr)) (some ⟨g, 0, none⟩) l := fun _ => by
  subst hg
  refine ⟨w.heap.size, 0, rfl, fun i hi => ?_⟩
  subst h
  rw [cell_of_row _ w.heap.size (0 + i) _ e fr (heap_alloc_new w _)]
  simp [hi]
end Go.Proofs.YteppocjgodmpdaaGreatDoor
/-
  What the call awake of layer 13's statements answers: true. Condition: errors.errorType holds the handle of the type error (EtC).
-/
namespace Go.Proofs.YteppocjgodmpdaaGreatDoor
set_option maxRecDepth 100000
open Go.RowKit
set_option linter.unusedSimpArgs false
set_option linter.unusedVariables false

def tag8B : List UInt8 := [49, 50, 51, 52, 53, 54, 55, 56]
theorem bw_make : barL 7 1 300 tag8B = [87, 1, 131, 128, 128, 129, 1, 75, 12, 76, 140, 205, 13, 77, 141, 206, 63, 201, 218, 207, 117, 13, 72, 16, 108, 238, 59] := by decide +kernel
theorem bw_read : barsL [86, 1, 131, 128, 128, 129, 1, 75, 12, 179, 140, 205, 13, 77, 141, 206, 63, 201, 218, 207, 117, 13, 72, 16, 108, 238, 59] = ((0, 7, 1, 300, tag8B), 2, 0) := by
  have hd : difL [86, 1, 131, 128, 128, 129, 1, 75, 12, 179, 140, 205, 13, 77, 141, 206, 63, 201, 218, 207, 117, 13, 72, 16, 108, 238, 59] [87, 1, 131, 128, 128, 129, 1, 75, 12, 76, 140, 205, 13, 77, 141, 206, 63, 201, 218, 207, 117, 13, 72, 16, 108, 238, 59] = 2 := by decide +kernel
  have h := bars_near (t := 7) (e := 1) (c := 300) (tag := tag8B) (by decide) (by decide) (by decide) rfl [86, 1, 131, 128, 128, 129, 1, 75, 12, 179, 140, 205, 13, 77, 141, 206, 63, 201, 218, 207, 117, 13, 72, 16, 108, 238, 59] (by rw [bw_make]; rfl) (by rw [bw_make, hd]; decide)
  rw [bw_make, hd] at h
  exact h
theorem bw_none : barsL [] = ((2, 0, 0, 0, []), 0, 1) := by
  have h := mendS_bad (b := []) (n := 10) (by decide)
  unfold barsL
  rw [h]
  rfl
theorem bw_same : sameF 7 1 300 tag8B 7 1 300 tag8B = true := by decide +kernel

set_option maxRecDepth 100000 in
set_option maxHeartbeats 8000000 in
theorem awake13_any (w : World) (hg : EtC w) : Calls Tryz.prog 30 #[] w fun e w' => e = .returned (.bool true) ∧ Below w.heap.size w w' := by
  obtain ⟨i0, hi, hz0, hz1, hz2⟩ := info_parts info_u8
  go_enter Tryz.func30, Tryz.ntmps30
  have hcv := Lib.run_convert_bytes_const (P := Tryz.prog) w 22 5 #[.int .u8 49, .int .u8 50, .int .u8 51, .int .u8 52, .int .u8 53, .int .u8 54, .int .u8 55, .int .u8 56] 8 8 Tryz.underlying22 Tryz.underlying5
  have hrt := Rd.new_fr (f := vB) w _ rfl tag8B #[.int .u8 49, .int .u8 50, .int .u8 51, .int .u8 52, .int .u8 53, .int .u8 54, .int .u8 55, .int .u8 56] 5 (8, 9) rfl
  have hR0 : Row ((w.alloc (.cells #[.int .u8 49, .int .u8 50, .int .u8 51, .int .u8 52, .int .u8 53, .int .u8 54, .int .u8 55, .int .u8 56] 5 (8, 9))).alloc (.cells #[.int .u64 0, .int .u64 0, .int .u64 0, .slice none 0 0] 77)) (w.heap.size + 1) 77 [.int .u64 0, .int .u64 0, .int .u64 0, .slice none 0 0] := Row.new_at _ _ (by simp) _ _ _ rfl
  go_upto_region 2 with (refine wpList_store_row rfl 77 (.tmp 1) (.tmp 15) rfl (w.heap.size + 1) rfl [.int .u64 7, .int .u64 1, .int .u64 300, .slice (some ⟨w.heap.size, 0, none⟩) 8 8] rfl _ _ hR0 (by exact size_pay') rfl (one_four _ _ _ _ rfl rfl rfl rfl) ?_)
  have hRp := hR0.setRow [.int .u64 7, .int .u64 1, .int .u64 300, .slice (some ⟨w.heap.size, 0, none⟩) 8 8]
  have hB1 := below_new (Below.refl w.heap.size w) (.cells #[.int .u8 49, .int .u8 50, .int .u8 51, .int .u8 52, .int .u8 53, .int .u8 54, .int .u8 55, .int .u8 56] 5 (8, 9))
  have hs1 : (w.alloc (.cells #[.int .u8 49, .int .u8 50, .int .u8 51, .int .u8 52, .int .u8 53, .int .u8 54, .int .u8 55, .int .u8 56] 5 (8, 9))).heap.size = w.heap.size + 1 := by simp
  generalize w.alloc (.cells #[.int .u8 49, .int .u8 50, .int .u8 51, .int .u8 52, .int .u8 53, .int .u8 54, .int .u8 55, .int .u8 56] 5 (8, 9)) = W1 at hrt hR0 hRp hB1 hs1 ⊢
  have hb2 : Below W1.heap.size W1 ((W1.alloc (.cells #[.int .u64 0, .int .u64 0, .int .u64 0, .slice none 0 0] 77)).setRow (w.heap.size + 1) [.int .u64 7, .int .u64 1, .int .u64 300, .slice (some ⟨w.heap.size, 0, none⟩) 8 8].toArray) := below_setRow (below_new (Below.refl _ _) _) (by omega) _
  replace hrt := hrt.keep hb2
  have hB := below_step hB1 hb2
  generalize (W1.alloc (.cells #[.int .u64 0, .int .u64 0, .int .u64 0, .slice none 0 0] 77)).setRow (w.heap.size + 1) [.int .u64 7, .int .u64 1, .int .u64 300, .slice (some ⟨w.heap.size, 0, none⟩) 8 8].toArray = W2 at hrt hRp hB ⊢
  clear hcv hR0 hB1 hs1 hb2
  replace hg := hg.later hB
  go_wp2_with (refine wpList_load_part rfl 77 (.tmp 1) rfl (w.heap.size + 1) 0 rfl _ _ hRp [.int .u64 7, .int .u64 1, .int .u64 300, .slice (some ⟨w.heap.size, 0, none⟩) 8 8] (by rfl) _ Tryz.underlying77 rfl (by exact size_pay') ?_)
  refine (makeB_ok 7 1 300 tag8B _ 8 _ (by omega) (by omega) (by omega) (Lib.hid rfl) hrt (Nat.le_refl _) hg).mono ?_
  rintro e w1 ⟨A1, n1, c1, rfl, HN1, hc1, hr1, hb⟩
  rw [bw_make] at HN1 hr1
  have en1 : n1 = 27 := HN1.out.symm
  subst en1
  replace hg := hg.later hb
  replace hrt := hrt.keep hb
  replace hRp := hRp.later hb
  replace hB := below_step hB hb
  clear hb
  have hown0 : (w1.alloc (.cells #[] 5)).ownsRow w1.heap.size 5 1 (.slice (some ⟨w1.heap.size, 0, none⟩) 0 0) 0 [] := World.ownsRow_made w1 #[] 0 (Nat.le_refl _) (by unfold maxLen; omega) rfl
  have hB0 := below_new (Below.refl _ w1) (.cells #[] 5)
  have hrX0 := hr1.keep hB0
  go_upto_region 6 with (at_builtin; refine wpList_append_rd _ rfl (.tmp 24) (.tmp 25) 22 rfl w1.heap.size 5 i0 (.int .u8 0) 1 Tryz.underlying22 hi hz0 hz1 hz2 rfl _ _ _ rfl hown0 A1 [87, 1, 131, 128, 128, 129, 1, 75, 12, 76, 140, 205, 13, 77, 141, 206, 63, 201, 218, 207, 117, 13, 72, 16, 108, 238, 59] c1 rfl hrX0 vB_one (by unfold maxLen; simp) (by simp) (by simp) ?_; intro v4 w4 hown4 hgrow4)
  have hown5 : w4.ownsRow w1.heap.size 5 1 v4 27 (([87, 1, 131, 128, 128, 129, 1, 75, 12, 76, 140, 205, 13, 77, 141, 206, 63, 201, 218, 207, 117, 13, 72, 16, 108, 238, 59] : List UInt8).map vB) := hown4
  have hb4 : Below w1.heap.size w1 w4 := hB0.grown hgrow4 (by simp) (fun k hk => (hown0.lt k hk).1)
  obtain ⟨A4, c4, rfl, hc4⟩ := own_form hown5
  obtain ⟨g, rfl, hgg, hcel0⟩ := cel_of_own hown5 rfl (by decide)
  have q1 : w4.cell? ⟨g, 0, none⟩ = some (.int .u8 87) := hcel0.get 0 (by decide)
  have f1 := hcel0.frozen 0
  have hcel1 : Cel (w4.setCell ⟨g, 0, none⟩ (.int .u8 86)) g 5 [86, 1, 131, 128, 128, 129, 1, 75, 12, 76, 140, 205, 13, 77, 141, 206, 63, 201, 218, 207, 117, 13, 72, 16, 108, 238, 59] := hcel0.set 0 86
  have q2 : (w4.setCell ⟨g, 0, none⟩ (.int .u8 86)).cell? ⟨g, 9, none⟩ = some (.int .u8 76) := hcel1.get 9 (by decide)
  have f2 := hcel1.frozen 9
  have hcel2 : Cel ((w4.setCell ⟨g, 0, none⟩ (.int .u8 86)).setCell ⟨g, 9, none⟩ (.int .u8 179)) g 5 [86, 1, 131, 128, 128, 129, 1, 75, 12, 179, 140, 205, 13, 77, 141, 206, 63, 201, 218, 207, 117, 13, 72, 16, 108, 238, 59] := hcel1.set 9 179
  have hb6 : Below w1.heap.size w1 ((w4.setCell ⟨g, 0, none⟩ (.int .u8 86)).setCell ⟨g, 9, none⟩ (.int .u8 179)) := (hb4.setCell (p := ⟨g, 0, none⟩) hgg _).setCell (p := ⟨g, 9, none⟩) hgg _
  have x1 : bits .xor .u8 87 1 = 86 := by decide
  have x2 : bits .xor .u8 76 255 = 179 := by decide
  have HX := Lib.hid hcel2
  clear hown0 hown4 hown5 hgrow4 hB0 hrX0 hcel0 hcel1 hb4 hcel2
  go_upto_region 8 with fail
  clear q1 q2 f1 f2 x1 x2
  generalize (w4.setCell ⟨g, 0, none⟩ (.int .u8 86)).setCell ⟨g, 9, none⟩ (.int .u8 179) = w6 at HX hb6 ⊢
  replace hg := hg.later hb6
  replace hrt := hrt.keep hb6
  replace hRp := hRp.later hb6
  replace hB := below_step hB hb6
  clear hb6
  go_wp2_with fail
  refine (readB_ok [86, 1, 131, 128, 128, 129, 1, 75, 12, 179, 140, 205, 13, 77, 141, 206, 63, 201, 218, 207, 117, 13, 72, 16, 108, 238, 59] 7 1 300 tag8B 2 27 (some ⟨g, 0, none⟩) c4 w6 (Lib.hid rfl) HX.out.rd hc4 (by omega) hg (Lib.hid bw_read)).mono ?_
  rintro e w7 ⟨A7, m7, k7, rfl, HN7, hk7, hr7, hb⟩
  have em7 : m7 = 8 := HN7.out.symm
  subst em7
  replace hg := hg.later hb
  replace hrt := hrt.keep hb
  replace hRp := hRp.later hb
  replace hB := below_step hB hb
  clear hb HX hr1
  have hR0 : Row (w7.alloc (.cells #[.int .u64 0, .int .u64 0, .int .u64 0, .slice none 0 0] 77)) w7.heap.size 77 [.int .u64 0, .int .u64 0, .int .u64 0, .slice none 0 0] := Row.new w7 _ _ _ rfl
  go_upto_region 9 with (refine wpList_store_row rfl 77 (.tmp 5) (.tmp 40) rfl w7.heap.size rfl [.int .u64 7, .int .u64 1, .int .u64 300, .slice A7 8 k7] rfl _ _ hR0 (by exact size_pay') rfl (one_four _ _ _ _ rfl rfl rfl rfl) ?_)
  have hRq := hR0.setRow [.int .u64 7, .int .u64 1, .int .u64 300, .slice A7 8 k7]
  have hb2 : Below w7.heap.size w7 ((w7.alloc (.cells #[.int .u64 0, .int .u64 0, .int .u64 0, .slice none 0 0] 77)).setRow w7.heap.size [.int .u64 7, .int .u64 1, .int .u64 300, .slice A7 8 k7].toArray) := below_setRow (below_new (Below.refl _ _) _) (Nat.le_refl _) _
  replace hg := hg.later hb2
  replace hrt := hrt.keep hb2
  replace hr7 := hr7.keep hb2
  replace hRp := hRp.later hb2
  replace hB := below_step hB hb2
  generalize (w7.alloc (.cells #[.int .u64 0, .int .u64 0, .int .u64 0, .slice none 0 0] 77)).setRow w7.heap.size [.int .u64 7, .int .u64 1, .int .u64 300, .slice A7 8 k7].toArray = w8 at hg hrt hr7 hRp hRq hB ⊢
  clear hR0 hb2
  generalize w7.heap.size = gq at hRq ⊢
  go_wp2_with fail
  refine (readB_no [] 2 1 0 none 0 w8 (Lib.hid rfl) Rd.nil (Nat.le_refl _) (by omega) hg (Lib.hid bw_none) (by omega)).mono ?_
  rintro e w9 ⟨A9, k9, g9, rfl, hF, hb⟩
  replace hg := hg.later hb
  replace hrt := hrt.keep hb
  replace hr7 := hr7.keep hb
  replace hRp := hRp.later hb
  replace hRq := hRq.later hb
  replace hB := below_step hB hb
  clear hb
  have hR0 : Row (w9.alloc (.cells #[.int .u64 0, .int .u64 0, .int .u64 0, .slice none 0 0] 77)) w9.heap.size 77 [.int .u64 0, .int .u64 0, .int .u64 0, .slice none 0 0] := Row.new w9 _ _ _ rfl
  go_upto_region 10 with (refine wpList_store_row rfl 77 (.tmp 8) (.tmp 45) rfl w9.heap.size rfl [.int .u64 0, .int .u64 0, .int .u64 0, .slice A9 0 k9] rfl _ _ hR0 (by exact size_pay') rfl (one_four _ _ _ _ rfl rfl rfl rfl) ?_)
  have hb2 : Below w9.heap.size w9 ((w9.alloc (.cells #[.int .u64 0, .int .u64 0, .int .u64 0, .slice none 0 0] 77)).setRow w9.heap.size [.int .u64 0, .int .u64 0, .int .u64 0, .slice A9 0 k9].toArray) := below_setRow (below_new (Below.refl _ _) _) (Nat.le_refl _) _
  replace hg := hg.later hb2
  replace hF := hF.later hb2
  replace hrt := hrt.keep hb2
  replace hr7 := hr7.keep hb2
  replace hRp := hRp.later hb2
  replace hRq := hRq.later hb2
  replace hB := below_step hB hb2
  generalize (w9.alloc (.cells #[.int .u64 0, .int .u64 0, .int .u64 0, .slice none 0 0] 77)).setRow w9.heap.size [.int .u64 0, .int .u64 0, .int .u64 0, .slice A9 0 k9].toArray = w10 at hg hF hrt hr7 hRp hRq hB ⊢
  clear hR0 hb2
  generalize w9.heap.size = gz
  go_wp2_with fail
  refine (told_flt g9 1 2 _ hg hF).mono ?_
  rintro e w11 ⟨rfl, hb⟩
  replace hrt := hrt.keep hb
  replace hr7 := hr7.keep hb
  replace hRp := hRp.later hb
  replace hRq := hRq.later hb
  replace hB := below_step hB hb
  clear hb hF hg
  have cp0 : w11.cell? ⟨w.heap.size + 1, 0, none⟩ = some (.int .u64 7) := hRp.cell rfl
  have cp1 : w11.cell? ⟨w.heap.size + 1, 1, none⟩ = some (.int .u64 1) := hRp.cell rfl
  have cp2 : w11.cell? ⟨w.heap.size + 1, 2, none⟩ = some (.int .u64 300) := hRp.cell rfl
  have cp3 : w11.cell? ⟨w.heap.size + 1, 3, none⟩ = some (.slice (some ⟨w.heap.size, 0, none⟩) 8 8) := hRp.cell rfl
  have cq0 : w11.cell? ⟨gq, 0, none⟩ = some (.int .u64 7) := hRq.cell rfl
  have cq1 : w11.cell? ⟨gq, 1, none⟩ = some (.int .u64 1) := hRq.cell rfl
  have cq2 : w11.cell? ⟨gq, 2, none⟩ = some (.int .u64 300) := hRq.cell rfl
  have cq3 : w11.cell? ⟨gq, 3, none⟩ = some (.slice A7 8 k7) := hRq.cell rfl
  go_wp2_with fail
  refine (refsame_pay 7 1 300 7 1 300 tag8B tag8B 8 8 _ A7 8 k7 _ (Lib.hid rfl) HN7 hrt hr7).mono ?_
  rintro e w12 ⟨rfl, hb⟩
  rw [bw_same]
  replace hB := below_step hB hb
  clear hb cp0 cp1 cp2 cp3 cq0 cq1 cq2 cq3
  go_wp2_with fail
  go_ret
  exact ⟨rfl, hB⟩
end Go.Proofs.YteppocjgodmpdaaGreatDoor
/-
  Barcodes of any payloads, made; two payloads in their blocks. Condition: errors.errorType holds the handle of the type error (EtC).
-/
namespace Go.Proofs.YteppocjgodmpdaaGreatDoor
set_option maxRecDepth 100000
open Go.RowKit
set_option linter.unusedSimpArgs false
set_option linter.unusedVariables false

def MakH (n : Nat) (t e c : Nat) (tag X : List UInt8) (ev : Value) : Prop := (n = 8 ∧ X = barL t e c tag ∧ ev = .nilIface) ∨ (n ≠ 8 ∧ X = [] ∧ ∃ g, ev = errV g)
theorem makeB_any (t e c : Nat) (tag : List UInt8) (n : Nat) (A : Option Addr) (k : Nat) (w : World) (ht : t < 18446744073709551616) (he : e < 18446744073709551616) (hc : c < 18446744073709551616) (HN : Hid (tag.length = n)) (hr : Rd vB w A tag) (hk : n ≤ k) (hn : n ≤ 100000) (hg : EtC w) :
    Calls Tryz.prog 31 #[aggP t e c A n k] w fun e₁ w' => ∃ X ev A' m c', e₁ = .returned (.tuple #[.slice A' m c', ev]) ∧ Hid (X.length = m) ∧ m ≤ c' ∧ Rd vB w' A' X ∧ Below w.heap.size w w' ∧ Hid (MakH n t e c tag X ev) := by
  by_cases h8 : n = 8
  · subst h8
    refine (makeB_ok t e c tag A k w ht he hc HN hr hk hg).mono ?_
    rintro e₁ w' ⟨A', m, c', h1, h2, h3, h4, h5⟩
    exact ⟨_, _, A', m, c', h1, h2, h3, h4, h5, .inl ⟨rfl, rfl, rfl⟩⟩
  · refine (makeB_no t e c tag n A k w ht he hc HN hr hk hn h8 hg).mono ?_
    rintro e₁ w' ⟨g, h1, h2, h3⟩
    exact ⟨[], _, none, 0, 0, h1, Lib.hid rfl, Nat.le_refl _, Rd.nil, h3, .inr ⟨h8, rfl, g, rfl⟩⟩
/-- Two payloads in their blocks. -/
def TwoB (g : Nat) (cp cq : List Value) (w W : World) : Prop := Row W g 77 cp ∧ Row W (g + 1) 77 cq ∧ Below w.heap.size w W
theorem TwoB.later {g : Nat} {cp cq : List Value} {w W W' : World} (h : TwoB g cp cq w W) (hb : Below W.heap.size W W') : TwoB g cp cq w W' := ⟨h.1.later hb, h.2.1.later hb, below_step h.2.2 hb⟩
theorem two_box (w : World) (a b c d a' b' c' d' : Value) (ty : TypeId) (hty : ty = 77) : TwoB w.heap.size [a, b, c, d] [a', b', c', d'] w ((w.alloc (.cells #[a, b, c, d] ty)).alloc (.cells #[a', b', c', d'] ty)) := by
  subst hty
  have h0 := Row.new w 77 [a, b, c, d] _ rfl
  have h1 := Row.new_at (w.alloc (.cells #[a, b, c, d] 77)) (w.heap.size + 1) (by simp) 77 [a', b', c', d'] _ rfl
  exact ⟨h0.alloc _, h1, below_new (below_new (Below.refl _ _) _) _⟩
end Go.Proofs.YteppocjgodmpdaaGreatDoor
/-
  Equations, solved row by row, as plain mathematics: each step keeps what solves them all; no pivot, and more than one answer would do. No conditions but those typed.
-/
namespace Go.Proofs.YteppocjgodmpdaaGreatDoor
set_option maxRecDepth 100000
set_option linter.unusedVariables false
set_option linter.unusedSimpArgs false

/-- A sum of so many. -/
def sumN : Nat → (Nat → UInt8) → UInt8
  | 0, _ => 0
  | n + 1, f => addB (sumN n f) (f n)
theorem sumN_congr {f g : Nat → UInt8} : ∀ n, (∀ c, c < n → f c = g c) → sumN n f = sumN n g
  | 0, _ => rfl
  | n + 1, h => by rw [sumN, sumN, sumN_congr n (fun c hc => h c (by omega)), h n (by omega)]
theorem sumN_add (f g : Nat → UInt8) : ∀ n, sumN n (fun c => addB (f c) (g c)) = addB (sumN n f) (sumN n g)
  | 0 => (add_zero 0).symm
  | n + 1 => by rw [sumN, sumN, sumN, sumN_add f g n, add_four]
theorem sumN_mul (a : UInt8) (f : Nat → UInt8) : ∀ n, sumN n (fun c => mulB a (f c)) = mulB a (sumN n f)
  | 0 => (mul_zero a).symm
  | n + 1 => by rw [sumN, sumN, sumN_mul a f n, mul_add_right]
theorem sumN_zero {f : Nat → UInt8} : ∀ n, (∀ c, c < n → f c = 0) → sumN n f = 0
  | 0, _ => rfl
  | n + 1, h => by rw [sumN, sumN_zero n (fun c hc => h c (by omega)), h n (by omega), add_zero]
theorem sumN_one {f : Nat → UInt8} {i : Nat} : ∀ n, i < n → (∀ c, c < n → c ≠ i → f c = 0) → sumN n f = f i
  | 0, h, _ => absurd h (Nat.not_lt_zero i)
  | n + 1, h, hz => by
    rw [sumN]
    by_cases e : i = n
    · subst e
      rw [sumN_zero i (fun c hc => hz c (by omega) (by omega)), zero_add]
    · rw [sumN_one n (by omega) (fun c hc => hz c (by omega)), hz n (by omega) (fun e2 => e e2.symm), add_zero]
theorem sumN_left (f : Nat → UInt8) : ∀ n, sumN (n + 1) f = addB (f 0) (sumN n fun c => f (c + 1))
  | 0 => by
    show addB 0 (f 0) = addB (f 0) 0
    rw [zero_add, add_zero]
  | n + 1 => by
    rw [sumN, sumN_left f n, sumN, add_assoc]
theorem sumN_rev (f : Nat → UInt8) : ∀ n, sumN n (fun c => f (n - 1 - c)) = sumN n f
  | 0 => rfl
  | n + 1 => by
    rw [sumN_left, sumN, ← sumN_rev f n, add_comm]
    congr 1
    · exact sumN_congr n fun c hc => by rw [show n + 1 - 1 - (c + 1) = n - 1 - c by omega]

/-- A row's coefficients, times these, together. -/
def rowOf (n : Nat) (r : List UInt8) (y : Nat → UInt8) : UInt8 := sumN (n + 1) fun c => mulB (co r c) (y c)
/-- These solve all rows. -/
def Ker (n : Nat) (W : Nat → List UInt8) (y : Nat → UInt8) : Prop := ∀ j, j < n → rowOf n (W j) y = 0
def swapF {α : Type} (f : Nat → α) (i k : Nat) : Nat → α := fun j => if j = i then f k else if j = k then f i else f j
def scaleW (W : Nat → List UInt8) (i : Nat) (a : UInt8) : Nat → List UInt8 := fun j => if j = i then (W i).map (mulB a) else W j
def lessW (W : Nat → List UInt8) (i j : Nat) : List UInt8 := List.zipWith addB (W j) ((W i).map (mulB (co (W j) i)))
def elimW (W : Nat → List UInt8) (i m : Nat) : Nat → List UInt8 := fun j => if j < m ∧ j ≠ i then lessW W i j else W j
theorem row_scale (n : Nat) (a : UInt8) (r : List UInt8) (y : Nat → UInt8) : rowOf n (r.map (mulB a)) y = mulB a (rowOf n r y) := by
  unfold rowOf
  rw [← sumN_mul]
  refine sumN_congr _ fun c _ => ?_
  rw [← mul_assoc]
  congr 1
  exact co_scale a r c
theorem row_add (n : Nat) (r s : List UInt8) (y : Nat → UInt8) (hr : r.length = n + 1) (hs : s.length = n + 1) : rowOf n (List.zipWith addB r s) y = addB (rowOf n r y) (rowOf n s y) := by
  unfold rowOf
  rw [← sumN_add]
  refine sumN_congr _ fun c hc => ?_
  rw [co_zip r s c (by omega) (by omega), mul_add_left]
theorem ker_swap {n i k : Nat} {W : Nat → List UInt8} {y : Nat → UInt8} (hi : i < n) (hk : k < n) : Ker n (swapF W i k) y ↔ Ker n W y := by
  unfold Ker swapF
  constructor
  · intro h j hj
    by_cases e1 : j = i
    · subst e1
      by_cases e2 : k = j
      · have := h j hj
        rwa [if_pos rfl, e2] at this
      · have := h k hk
        rwa [if_neg e2, if_pos rfl] at this
    · by_cases e2 : j = k
      · subst e2
        have := h i hi
        rwa [if_pos rfl] at this
      · have := h j hj
        rwa [if_neg e1, if_neg e2] at this
  · intro h j hj
    split
    · exact h k hk
    · split
      · exact h i hi
      · exact h j hj
theorem ker_scale {n i : Nat} {W : Nat → List UInt8} {y : Nat → UInt8} {a : UInt8} (ha : a ≠ 0) : Ker n (scaleW W i a) y ↔ Ker n W y := by
  unfold Ker scaleW
  constructor
  · intro h j hj
    have := h j hj
    by_cases e : j = i
    · subst e
      rw [if_pos rfl, row_scale] at this
      rcases (mul_eq_zero _ _).1 this with g | g
      · exact absurd g ha
      · exact g
    · rwa [if_neg e] at this
  · intro h j hj
    by_cases e : j = i
    · subst e
      rw [if_pos rfl, row_scale, h j hj, mul_zero]
    · rw [if_neg e]
      exact h j hj
theorem less_row {n i j : Nat} {W : Nat → List UInt8} {y : Nat → UInt8} (hl : ∀ j, j < n → (W j).length = n + 1) (hi : i < n) (hj : j < n) : rowOf n (lessW W i j) y = addB (rowOf n (W j) y) (mulB (co (W j) i) (rowOf n (W i) y)) := by
  unfold lessW
  rw [row_add n _ _ y (hl j hj) (by rw [List.length_map]; exact hl i hi), row_scale]
theorem less_length {n i j : Nat} {W : Nat → List UInt8} (hl : ∀ j, j < n → (W j).length = n + 1) (hi : i < n) (hj : j < n) : (lessW W i j).length = n + 1 := by
  unfold lessW
  rw [List.length_zipWith, List.length_map, hl j hj, hl i hi, Nat.min_self]
theorem co_less {n i j : Nat} {W : Nat → List UInt8} (hl : ∀ j, j < n → (W j).length = n + 1) (hi : i < n) (hj : j < n) (c : Nat) (hc : c ≤ n) : co (lessW W i j) c = addB (co (W j) c) (mulB (co (W j) i) (co (W i) c)) := by
  unfold lessW
  rw [co_zip _ _ c (by rw [hl j hj]; omega) (by rw [List.length_map, hl i hi]; omega)]
  congr 1
  exact co_scale _ _ c
theorem ker_elim {n i : Nat} {W : Nat → List UInt8} {y : Nat → UInt8} (hl : ∀ j, j < n → (W j).length = n + 1) (hi : i < n) : Ker n (elimW W i n) y ↔ Ker n W y := by
  unfold Ker elimW
  constructor
  · intro h j hj
    have h0 : rowOf n (W i) y = 0 := by
      have := h i hi
      rwa [if_neg (by omega)] at this
    by_cases e : j = i
    · rw [e]
      exact h0
    · have := h j hj
      rw [if_pos ⟨hj, e⟩, less_row hl hi hj, h0, mul_zero, add_zero] at this
      exact this
  · intro h j hj
    split
    · rw [less_row hl hi hj, h j hj, h i hi, mul_zero, add_zero]
    · exact h j hj
/-- The first columns are done. -/
def Diag (i n : Nat) (W : Nat → List UInt8) : Prop := ∀ c, c < i → ∀ j, j < n → co (W j) c = if j = c then 1 else 0
theorem diag_step {n i k : Nat} {W : Nat → List UInt8} (hd : Diag i n W) (hl : ∀ j, j < n → (W j).length = n + 1) (hi : i < n) (hik : i ≤ k) (hk : k < n) (hp : co (W k) i ≠ 0) :
    Diag (i + 1) n (elimW (scaleW (swapF W i k) i (invB (co (W k) i))) i n) ∧ (∀ j, j < n → (elimW (scaleW (swapF W i k) i (invB (co (W k) i))) i n j).length = n + 1) ∧
    ∀ y, Ker n (elimW (scaleW (swapF W i k) i (invB (co (W k) i))) i n) y ↔ Ker n W y := by
  have hl1 : ∀ j, j < n → (swapF W i k j).length = n + 1 := fun j hj => by
    unfold swapF
    split
    · exact hl k hk
    · split
      · exact hl i hi
      · exact hl j hj
  have hl2 : ∀ j, j < n → (scaleW (swapF W i k) i (invB (co (W k) i)) j).length = n + 1 := fun j hj => by
    unfold scaleW
    split
    · rw [List.length_map]; exact hl1 i hi
    · exact hl1 j hj
  have hl3 : ∀ j, j < n → (elimW (scaleW (swapF W i k) i (invB (co (W k) i))) i n j).length = n + 1 := fun j hj => by
    unfold elimW
    split
    · exact less_length hl2 hi hj
    · exact hl2 j hj
  have hd1 : Diag i n (swapF W i k) := fun c hc j hj => by
    unfold swapF
    by_cases e1 : j = i
    · rw [if_pos e1, hd c hc k hk, if_neg (by omega), if_neg (by omega)]
    · rw [if_neg e1]
      by_cases e2 : j = k
      · rw [if_pos e2, hd c hc i hi, if_neg (by omega), if_neg (by omega)]
      · rw [if_neg e2, hd c hc j hj]
  have hd2 : Diag i n (scaleW (swapF W i k) i (invB (co (W k) i))) := fun c hc j hj => by
    unfold scaleW
    by_cases e1 : j = i
    · rw [if_pos e1]
      have : co ((swapF W i k i).map (mulB (invB (co (W k) i)))) c = mulB (invB (co (W k) i)) (co (swapF W i k i) c) := co_scale _ _ c
      rw [this, hd1 c hc i hi, if_neg (by omega), mul_zero, if_neg (by omega)]
    · rw [if_neg e1, hd1 c hc j hj]
  have hone : co (scaleW (swapF W i k) i (invB (co (W k) i)) i) i = 1 := by
    unfold scaleW
    rw [if_pos rfl]
    have : co ((swapF W i k i).map (mulB (invB (co (W k) i)))) i = mulB (invB (co (W k) i)) (co (swapF W i k i) i) := co_scale _ _ i
    rw [this]
    unfold swapF
    rw [if_pos rfl, mul_comm, mul_inv _ hp]
  generalize hW2 : scaleW (swapF W i k) i (invB (co (W k) i)) = W2 at hl2 hl3 hd2 hone ⊢
  refine ⟨fun c hc j hj => ?_, hl3, fun y => ?_⟩
  · unfold elimW
    by_cases e1 : j = i
    · rw [if_neg (by omega)]
      by_cases e2 : c = i
      · rw [e1, e2, hone, if_pos rfl]
      · rw [e1, hd2 c (by omega) i hi, if_neg (by omega)]
    · rw [if_pos ⟨hj, e1⟩, co_less hl2 hi hj c (by omega)]
      by_cases e2 : c = i
      · rw [e2, hone, mul_one, add_self, if_neg e1]
      · rw [hd2 c (by omega) j hj, hd2 c (by omega) i hi, if_neg (show ¬ i = c by omega), mul_zero, add_zero]
  · rw [ker_elim hl2 hi, ← hW2, ker_scale (inv_ne _ hp), ker_swap hi hk]
theorem no_pivot {n i : Nat} {W : Nat → List UInt8} (hd : Diag i n W) (hi : i < n) (hz : ∀ j, i ≤ j → j < n → co (W j) i = 0) : ∃ y : Nat → UInt8, y i = 1 ∧ y n = 0 ∧ Ker n W y := by
  refine ⟨fun c => if c = i then 1 else if c < i then co (W c) i else 0, if_pos rfl, by show (if n = i then (1 : UInt8) else if n < i then co (W n) i else 0) = 0; rw [if_neg (by omega), if_neg (by omega)], fun j hj => ?_⟩
  unfold rowOf
  have key : ∀ m, m ≤ n + 1 → sumN m (fun c => mulB (co (W j) c) (if c = i then 1 else if c < i then co (W c) i else 0)) = addB (if j < i ∧ j < m then co (W j) i else 0) (if i < m then co (W j) i else 0) := by
    intro m
    induction m with
    | zero => intro _; rw [if_neg (by omega), if_neg (by omega)]; rfl
    | succ m ih =>
      intro hm
      rw [sumN, ih (by omega)]
      by_cases e1 : m = i
      · subst e1
        rw [if_pos rfl, mul_one, if_neg (Nat.lt_irrefl m), if_pos (Nat.lt_succ_self m), add_zero]
        by_cases e3 : j < m
        · rw [if_pos ⟨e3, e3⟩, if_pos ⟨e3, by omega⟩]
        · rw [if_neg (by omega), if_neg (by omega)]
      · rw [if_neg e1]
        by_cases e2 : m < i
        · rw [if_pos e2, hd m e2 j hj, if_neg (show ¬ i < m by omega), if_neg (show ¬ i < m + 1 by omega), add_zero, add_zero]
          by_cases e3 : j = m
          · subst e3
            rw [if_pos rfl, one_mul, if_neg (by omega), if_pos ⟨e2, by omega⟩, zero_add]
          · rw [if_neg e3, zero_mul, add_zero]
            by_cases e4 : j < i ∧ j < m
            · rw [if_pos e4, if_pos ⟨e4.1, by omega⟩]
            · rw [if_neg e4, if_neg (by omega)]
        · rw [if_neg e2, mul_zero, add_zero]
          rw [if_pos (show i < m by omega), if_pos (show i < m + 1 by omega)]
          by_cases e4 : j < i
          · rw [if_pos ⟨e4, by omega⟩, if_pos ⟨e4, by omega⟩]
          · rw [if_neg (by omega), if_neg (by omega)]
  rw [key (n + 1) (Nat.le_refl _), if_pos (show i < n + 1 by omega)]
  by_cases e : j < i
  · rw [if_pos ⟨e, by omega⟩, add_self]
  · rw [if_neg (by omega), hz j (by omega) hj, add_zero]
theorem all_pivots {n : Nat} {W : Nat → List UInt8} {y : Nat → UInt8} (hd : Diag n n W) (hk : Ker n W y) (hy : y n = 1) : ∀ j, j < n → co (W j) n = y j := fun j hj => by
  have h := hk j hj
  unfold rowOf at h
  rw [sumN, hy, mul_one, sumN_one (i := j) n hj (fun c hc hne => by rw [hd c hc j hj, if_neg (fun e => hne e.symm), zero_mul]), hd j hj j hj, if_pos rfl, one_mul] at h
  exact (add_zero_eq h).symm
/-- What an answer says of the equations that were asked. -/
def Solved (n : Nat) (W : Nat → List UInt8) (ok : Bool) (x : List UInt8) : Prop :=
  (ok = true → x.length = n ∧ ∀ y, Ker n W y → y n = 1 → ∀ j, j < n → co x j = y j) ∧ (ok = false → ∃ (y : Nat → UInt8) (i : Nat), i < n ∧ y i = 1 ∧ y n = 0 ∧ Ker n W y)
theorem less_none {n i j : Nat} {W : Nat → List UInt8} (hl : ∀ j, j < n → (W j).length = n + 1) (hi : i < n) (hj : j < n) (h0 : co (W j) i = 0) : lessW W i j = W j := by
  refine co_ext (by rw [less_length hl hi hj, hl j hj]) (fun c hc => ?_)
  rw [less_length hl hi hj] at hc
  rw [co_less hl hi hj c (by omega), h0, zero_mul, add_zero]
end Go.Proofs.YteppocjgodmpdaaGreatDoor
/-
  Rows of bytes, each in a block of its own, behind a row of slices: read, set, exchanged, and made one by one. No conditions but those typed.
-/
namespace Go.Proofs.YteppocjgodmpdaaGreatDoor
set_option maxRecDepth 100000
open Go.RowKit
set_option linter.unusedSimpArgs false
set_option linter.unusedVariables false

def slV (g m c : Nat) : Value := .slice (some ⟨g, 0, none⟩) m c
/-- So many rows, each of one byte more than there are rows. -/
structure Mat (w : World) (base R n : Nat) (gB gC : Nat → Nat) (W : Nat → List UInt8) : Prop where
  head : ∃ L, Row w R 22 L ∧ ∀ j, j < n → L[j]? = some (slV (gB j) (n + 1) (gC j))
  rows : ∀ j, j < n → Cel w (gB j) 5 (W j)
  len : ∀ j, j < n → (W j).length = n + 1
  cap : ∀ j, j < n → n + 1 ≤ gC j
  inj : ∀ i j, i < n → j < n → gB i = gB j → i = j
  ne : ∀ j, j < n → gB j ≠ R
  bR : base ≤ R
  bG : ∀ j, j < n → base ≤ gB j
section
variable {w w' : World} {base R n : Nat} {gB gC : Nat → Nat} {W : Nat → List UInt8}
theorem Mat.headCell (h : Mat w base R n gB gC W) (j : Nat) (hj : j < n) : w.cell? ⟨R, j, none⟩ = some (slV (gB j) (n + 1) (gC j)) := by
  obtain ⟨L, h1, h2⟩ := h.head
  exact h1.cell (h2 j hj)
theorem Mat.headFrozen (h : Mat w base R n gB gC W) (j : Nat) : w.frozen? ⟨R, j, none⟩ = false := by
  obtain ⟨L, h1, _⟩ := h.head
  exact h1.frozen j
theorem Mat.cell (h : Mat w base R n gB gC W) (j c : Nat) (hj : j < n) (hc : c ≤ n) : w.cell? ⟨gB j, c, none⟩ = some (.int .u8 ((co (W j) c).toNat : Int)) := (h.rows j hj).get c (by rw [h.len j hj]; omega)
theorem Mat.frozen (h : Mat w base R n gB gC W) (j c : Nat) (hj : j < n) : w.frozen? ⟨gB j, c, none⟩ = false := (h.rows j hj).frozen c
theorem Mat.later (h : Mat w base R n gB gC W) (hb : Below w.heap.size w w') : Mat w' base R n gB gC W := by
  obtain ⟨L, h1, h2⟩ := h.head
  exact ⟨⟨L, h1.later hb, h2⟩, fun j hj => (h.rows j hj).later hb, h.len, h.cap, h.inj, h.ne, h.bR, h.bG⟩
theorem Mat.drew (h : Mat w base R n gB gC W) : Mat w.drew base R n gB gC W := by
  obtain ⟨L, h1, h2⟩ := h.head
  exact ⟨⟨L, h1.drew, h2⟩, fun j hj => (h.rows j hj).drew, h.len, h.cap, h.inj, h.ne, h.bR, h.bG⟩
/-- One byte of one row. -/
theorem Mat.set (h : Mat w base R n gB gC W) (j c : Nat) (hj : j < n) (z : UInt8) : Mat (w.setCell ⟨gB j, c, none⟩ (.int .u8 (z.toNat : Int))) base R n gB gC (fun i => if i = j then (W j).set c z else W i) := by
  obtain ⟨L, h1, h2⟩ := h.head
  refine ⟨⟨L, h1.setCell_other (fun e => h.ne j hj e.symm) _, h2⟩, fun i hi => ?_, fun i hi => ?_, h.cap, h.inj, h.ne, h.bR, h.bG⟩
  · by_cases e : i = j
    · subst e
      rw [if_pos rfl]
      exact (h.rows i hi).set c z
    · rw [if_neg e]
      exact (h.rows i hi).only ((Only.refl (gB j) w).setCell c _) (fun e2 => e (h.inj i j hi hj e2))
  · by_cases e : i = j
    · subst e
      rw [if_pos rfl, List.length_set]
      exact h.len i hi
    · rw [if_neg e]
      exact h.len i hi
theorem Mat.congr {W' : Nat → List UInt8} (h : Mat w base R n gB gC W) (e : ∀ j, j < n → W' j = W j) : Mat w base R n gB gC W' :=
  ⟨h.head, fun j hj => by rw [e j hj]; exact h.rows j hj, fun j hj => by rw [e j hj]; exact h.len j hj, h.cap, h.inj, h.ne, h.bR, h.bG⟩
theorem Mat.below_set (h : Mat w base R n gB gC W) {a : World} (hb : Below base a w) (j c : Nat) (hj : j < n) (v : Value) : Below base a (w.setCell ⟨gB j, c, none⟩ v) := hb.setCell (p := ⟨gB j, c, none⟩) (h.bG j hj) v
/-- Two rows exchanged. -/
theorem Mat.swap (h : Mat w base R n gB gC W) (i k : Nat) (hi : i < n) (hk : k < n) :
    Mat ((w.setCell ⟨R, i, none⟩ (slV (gB k) (n + 1) (gC k))).setCell ⟨R, k, none⟩ (slV (gB i) (n + 1) (gC i))) base R n (swapF gB i k) (swapF gC i k) (swapF W i k) := by
  obtain ⟨L, h1, h2⟩ := h.head
  have hLi : i < L.length := by
    have := h2 i hi
    exact (List.getElem?_eq_some_iff.1 this).1
  have hLk : k < L.length := by
    have := h2 k hk
    exact (List.getElem?_eq_some_iff.1 this).1
  have hO : Only R w ((w.setCell ⟨R, i, none⟩ (slV (gB k) (n + 1) (gC k))).setCell ⟨R, k, none⟩ (slV (gB i) (n + 1) (gC i))) := ((Only.refl R w).setCell i _).setCell k _
  have hsw : ∀ (p : Nat → Prop), (∀ j, j < n → p j) → ∀ j, j < n → p (swapF id i k j) := fun p hp j hj => by
    unfold swapF
    split
    · exact hp k hk
    · split
      · exact hp i hi
      · exact hp j hj
  have hf : ∀ {α : Type} (f : Nat → α) (j : Nat), swapF f i k j = f (swapF id i k j) := fun f j => by
    unfold swapF
    split
    · rfl
    · split <;> rfl
  refine ⟨⟨_, (h1.setCell i _).setCell k _, fun j hj => ?_⟩, fun j hj => ?_, fun j hj => ?_, fun j hj => ?_, fun a b ha hb e => ?_, fun j hj => ?_, h.bR, fun j hj => ?_⟩
  · unfold swapF
    by_cases e1 : j = i
    · subst e1
      rw [if_pos rfl, if_pos rfl]
      by_cases e2 : j = k
      · subst e2
        rw [List.getElem?_set_self (by rw [List.length_set]; exact hLk)]
      · rw [List.getElem?_set_ne (fun e => e2 e.symm), List.getElem?_set_self hLi]
    · rw [if_neg e1, if_neg e1]
      by_cases e2 : j = k
      · subst e2
        rw [if_pos rfl, if_pos rfl, List.getElem?_set_self (by rw [List.length_set]; exact hLk)]
      · rw [if_neg e2, if_neg e2, List.getElem?_set_ne (fun e => e2 e.symm), List.getElem?_set_ne (fun e => e1 e.symm)]
        exact h2 j hj
  · rw [hf gB, hf W]
    exact hsw (fun j => Cel _ (gB j) _ (W j)) (fun j hj => (h.rows j hj).only hO (h.ne j hj)) j hj
  · rw [hf W]
    exact hsw (fun j => (W j).length = n + 1) h.len j hj
  · rw [hf gC]
    exact hsw (fun j => n + 1 ≤ gC j) h.cap j hj
  · rw [hf gB, hf gB] at e
    have h3 := hsw (fun j => j < n) (fun j hj => hj) a ha
    have h4 := hsw (fun j => j < n) (fun j hj => hj) b hb
    have h5 := h.inj _ _ h3 h4 e
    unfold swapF at h5
    simp only [id] at h5
    repeat' split at h5
    all_goals omega
  · rw [hf gB]
    exact hsw (fun j => gB j ≠ R) h.ne j hj
  · rw [hf gB]
    exact hsw (fun j => base ≤ gB j) h.bG j hj
theorem Mat.below_swap (h : Mat w base R n gB gC W) {a : World} (hb : Below base a w) (i k : Nat) (u v : Value) : Below base a ((w.setCell ⟨R, i, none⟩ u).setCell ⟨R, k, none⟩ v) := (hb.setCell (p := ⟨R, i, none⟩) h.bR u).setCell (p := ⟨R, k, none⟩) h.bR v
end

/-! ### Made one by one -/
/-- So many rows so far: the row of slices, and each one's block. -/
structure MatI (w : World) (base n : Nat) (v : Value) (G : List (Nat × Nat)) (W : Nat → List UInt8) : Prop where
  own : w.ownsRow base 22 1 v G.length (G.map fun p => slV p.1 (n + 1) p.2)
  rows : ∀ j (hj : j < G.length), Cel w G[j].1 5 (W j)
  cap : ∀ p ∈ G, n + 1 ≤ p.2
  nd : (G.map Prod.fst).Nodup
  ne : ∀ p ∈ G, v.ownBlock ≠ some p.1
  bG : ∀ p ∈ G, base ≤ p.1
theorem MatI.later {w w' : World} {base n : Nat} {v : Value} {G : List (Nat × Nat)} {W : Nat → List UInt8} (h : MatI w base n v G W) (hb : Below w.heap.size w w') : MatI w' base n v G W :=
  ⟨ownsRow_later h.own hb, fun j hj => (h.rows j hj).later hb, h.cap, h.nd, h.ne, h.bG⟩
theorem MatI.none (w : World) (base n : Nat) (W : Nat → List UInt8) : MatI w base n (.slice none 0 0) [] W :=
  ⟨World.ownsRow_nil _ _ _ _, fun j hj => absurd hj (Nat.not_lt_zero j), (fun p hp => by cases hp), List.nodup_nil, (fun p hp => by cases hp), (fun p hp => by cases hp)⟩
theorem MatI.lt {w : World} {base n : Nat} {v : Value} {G : List (Nat × Nat)} {W : Nat → List UInt8} (h : MatI w base n v G W) : ∀ p ∈ G, p.1 < w.heap.size := fun p hp => by
  obtain ⟨j, hj, rfl⟩ := List.getElem_of_mem hp
  exact (h.rows j hj).lt
/-- One more, whose block is new. -/
theorem MatI.more {w w2 w3 : World} {base n g c : Nat} {v v' : Value} {G : List (Nat × Nat)} {W : Nat → List UInt8} (h : MatI w base n v G W) (hb : Below w.heap.size w w2) (hg : w.heap.size ≤ g) (hbase : base ≤ w.heap.size) (hc : n + 1 ≤ c)
    (hcel : Cel w2 g 5 (W G.length)) (ho : w3.ownsRow base 22 1 v' (G.length + 1) ((G.map fun p => slV p.1 (n + 1) p.2) ++ [slV g (n + 1) c])) (hgr : w2.grownBy w3 v.ownBlock) (hv : v'.ownBlock = v.ownBlock ∨ v'.ownBlock = some w2.heap.size) :
    MatI w3 base n v' (G ++ [(g, c)]) W := by
  have hcel3 : ∀ {k : Nat} {l : List UInt8}, Cel w2 k 5 l → v.ownBlock ≠ some k → Cel w3 k 5 l := fun hk hne => by
    obtain ⟨L, h1, h2⟩ := hk
    exact ⟨L, h1.grown hgr hne, h2⟩
  have hvg : v.ownBlock ≠ some g := fun e => by
    have := (h.own.lt _ e).2
    omega
  have hlt2 : g < w2.heap.size := hcel.lt
  have hsz := hb.size
  refine ⟨by rw [List.length_append, List.map_append]; exact ho, fun j hj => ?_, fun p hp => ?_, ?_, fun p hp => ?_, fun p hp => ?_⟩
  · by_cases e : j < G.length
    · rw [List.getElem_append_left e]
      exact hcel3 ((h.rows j e).later hb) (h.ne _ (List.getElem_mem e))
    · have ej : j = G.length := by simp at hj; omega
      subst ej
      rw [List.getElem_append_right (Nat.le_refl _)]
      simp only [Nat.sub_self, List.getElem_cons_zero]
      exact hcel3 hcel hvg
  · rcases List.mem_append.1 hp with hp | hp
    · exact h.cap p hp
    · rw [List.mem_singleton.1 hp]
      exact hc
  · rw [List.map_append, List.nodup_append]
    refine ⟨h.nd, by simp, fun a ha b hb2 => ?_⟩
    obtain ⟨p, hp, rfl⟩ := List.mem_map.1 ha
    simp at hb2
    subst hb2
    have := h.lt p hp
    omega
  · rcases List.mem_append.1 hp with hp | hp
    · exact apart_of (h.ne p hp) (by have := h.lt p hp; omega) hv
    · rw [List.mem_singleton.1 hp]
      exact apart_of hvg hlt2 hv
  · rcases List.mem_append.1 hp with hp | hp
    · exact h.bG p hp
    · rw [List.mem_singleton.1 hp]
      exact Nat.le_trans hbase hg
/-- All of them made. -/
theorem MatI.mat {w : World} {base n : Nat} {v : Value} {G : List (Nat × Nat)} {W : Nat → List UInt8} (h : MatI w base n v G W) (hn : G.length = n) (h0 : 0 < n) (hl : ∀ j, j < n → (W j).length = n + 1) :
    ∃ R c, v = slV R n c ∧ n ≤ c ∧ Mat w base R n (fun j => (G.getD j (0, 0)).1) (fun j => (G.getD j (0, 0)).2) W := by
  obtain ⟨hlen, hcase⟩ := h.own
  rcases hcase with ⟨_, e⟩ | ⟨R, cap, cur, e, hb, hh, h1, h2, h3, h4⟩
  · omega
  · have hgd : ∀ j (hj : j < n), G.getD j (0, 0) = G[j]'(by omega) := fun j hj => by simp [List.getD_eq_getElem?_getD, show j < G.length by omega]
    have hmem : ∀ j (hj : j < n), G.getD j (0, 0) ∈ G := fun j hj => by rw [hgd j hj]; exact List.getElem_mem _
    refine ⟨R, cap, by rw [e, hn]; rfl, by omega, ⟨cur.toList, by unfold Row; exact hh, fun j hj => ?_⟩, fun j hj => ?_, hl, fun j hj => h.cap _ (hmem j hj), fun i j hi hj e2 => ?_, fun j hj => ?_, hb, fun j hj => h.bG _ (hmem j hj)⟩
    · have h5 : (cur.toList.take (G.length * 1))[j]? = some (slV (G.getD j (0, 0)).1 (n + 1) (G.getD j (0, 0)).2) := by
        rw [h4, hgd j hj, List.getElem?_map, List.getElem?_eq_getElem (show j < G.length by omega)]
        rfl
      rw [List.getElem?_take_of_lt (show j < G.length * 1 by omega)] at h5
      exact h5
    · show Cel w (G.getD j (0, 0)).1 _ (W j)
      rw [hgd j hj]
      exact h.rows j (by omega)
    · have e2' : (G.getD i (0, 0)).1 = (G.getD j (0, 0)).1 := e2
      rw [hgd i hi, hgd j hj] at e2'
      have := h.nd
      refine (List.getElem_inj (h₀ := by rw [List.length_map]; omega) (h₁ := by rw [List.length_map]; omega) this).1 ?_
      rw [List.getElem_map, List.getElem_map]
      exact e2'
    · intro e2
      refine h.ne _ (hmem j hj) ?_
      rw [e]
      show some R = _
      exact congrArg some e2.symm
end Go.Proofs.YteppocjgodmpdaaGreatDoor
/-
  What the reference's call Solve of layer 10 answers: equations solved row by row. No conditions but those typed.
-/
namespace Go.Proofs.YteppocjgodmpdaaGreatDoor
set_option maxRecDepth 100000
open Go.RowKit
set_option linter.unusedSimpArgs false
set_option linter.unusedVariables false

/-- A call that hands back bytes, and whether there are any: of equations that were asked. -/
def RetSo (base n : Nat) (W : Nat → List UInt8) (w : World) (e : Ending) (w' : World) : Prop :=
  ∃ (A : Option Addr) (m c : Nat) (ok : Bool) (x : List UInt8), e = .returned (.tuple #[.slice A m c, .bool ok]) ∧ Hid (x.length = m) ∧ m ≤ c ∧ Rd vB w' A x ∧ Below base w w' ∧ Hid (Solved n W ok x)
def SoR (base R n : Nat) (W0 : Nat → List UInt8) (w : World) (iv : Value) (wr : World) : Prop :=
  ∃ (i : Nat) (gB gC : Nat → Nat) (W : Nat → List UInt8), i ≤ n ∧ iv = .int .i64 (i : Int) ∧ Mat wr base R n gB gC W ∧ Below base w wr ∧ Hid (Diag i n W ∧ ∀ y, Ker n W y ↔ Ker n W0 y)
def PivR (i n : Nat) (W : Nat → List UInt8) (wr : World) (kv : Value) (wx : World) : Prop :=
  ∃ k : Nat, i ≤ k ∧ k ≤ n ∧ kv = .int .i64 (k : Int) ∧ wx = wr ∧ Hid (∀ j, i ≤ j → j < k → co (W j) i = 0)
def ScR (base R n i : Nat) (a : UInt8) (gB gC : Nat → Nat) (W : Nat → List UInt8) (w : World) (cv : Value) (wx : World) : Prop :=
  ∃ (c : Nat) (T : List UInt8), c ≤ n + 1 ∧ cv = .int .i64 (c : Int) ∧ T.length = n + 1 ∧ Hid (∀ q, q ≤ n → co T q = if q < c then mulB (co (W i) q) a else co (W i) q) ∧ Mat wx base R n gB gC (fun j => if j = i then T else W j) ∧ Below base w wx
def ElR (base R n i : Nat) (gB gC : Nat → Nat) (W : Nat → List UInt8) (w : World) (mv : Value) (wx : World) : Prop :=
  ∃ m : Nat, m ≤ n ∧ mv = .int .i64 (m : Int) ∧ Mat wx base R n gB gC (elimW W i m) ∧ Below base w wx
def LeR (base R n i m : Nat) (gB gC : Nat → Nat) (W : Nat → List UInt8) (w : World) (cv : Value) (wx : World) : Prop :=
  ∃ (c : Nat) (T : List UInt8), c ≤ n + 1 ∧ cv = .int .i64 (c : Int) ∧ T.length = n + 1 ∧ Hid (∀ q, q ≤ n → co T q = if q < c then addB (co (W m) q) (mulB (co (W m) i) (co (W i) q)) else co (W m) q) ∧ Mat wx base R n gB gC (fun j => if j = m then T else elimW W i m j) ∧ Below base w wx
theorem Mat.mid {w : World} {base R n : Nat} {gB gC : Nat → Nat} {W : Nat → List UInt8} (h : Mat w base R n gB gC W) (i k : Nat) (hi : i < n) (hk : k < n) :
    (w.setCell ⟨R, i, none⟩ (.slice (some ⟨gB k, 0, none⟩) (n + 1) (gC k))).cell? ⟨R, k, none⟩ = some (.slice (some ⟨gB k, 0, none⟩) (n + 1) (gC k)) ∧ (w.setCell ⟨R, i, none⟩ (.slice (some ⟨gB k, 0, none⟩) (n + 1) (gC k))).frozen? ⟨R, k, none⟩ = false := by
  obtain ⟨L, h1, h2⟩ := h.head
  have h3 := h1.setCell i (.slice (some ⟨gB k, 0, none⟩) (n + 1) (gC k))
  refine ⟨?_, h3.frozen k⟩
  rw [h3.cell?]
  by_cases e : i = k
  · subst e
    rw [List.getElem?_set_self (List.getElem?_eq_some_iff.1 (h2 i hi)).1]
  · rw [List.getElem?_set_ne e, h2 k hk]
    rfl
theorem if_row (W : Nat → List UInt8) (i j : Nat) : (if j = i then W i else W j) = W j := by
  split
  · next e => rw [e]
  · rfl
theorem refmul_same (a b : UInt8) (W : World) : Calls Tryz.prog 128 #[.int .u8 (a.toNat : Int), .int .u8 (b.toNat : Int)] W fun e w'' => e = .returned (.int .u8 ((mulB a b).toNat : Int)) ∧ w'' = W := (refmul_any a b W).mono fun _ _ h => ⟨h.1, h.2.symm⟩
/-- A list made so far. -/
def TabZ (f : Nat → UInt8) (hi : Nat) (w : World) (v iv : Value) (wr : World) : Prop :=
  ∃ k : Nat, k ≤ hi ∧ iv = .int .i64 (k : Int) ∧ wr.ownsRow w.heap.size 5 1 v k ((tabL f k).map vB) ∧ Below w.heap.size w wr
theorem tabz_round {f : Nat → UInt8} {hi k : Nat} {w wr w1 : World} {u v : Value} {o : Obj} {x : UInt8} (hk : k < hi) (ho : wr.ownsRow w.heap.size 5 1 u k ((tabL f k).map vB)) (hb : Below w.heap.size w wr) (hx : f k = x)
    (hg : (wr.alloc o).grownBy w1 u.ownBlock) (ho' : w1.ownsRow w.heap.size 5 1 v (k + 1) ((tabL f k).map vB ++ [Value.int .u8 (x.toNat : Int)])) : TabZ f hi w v (.int .i64 ((k : Int) + 1)) w1 :=
  ⟨k + 1, hk, by go_num, by subst hx; rw [tabL, List.map_append]; exact ho', (hb.alloc hb.size o).grown hg (by have := hb.size; simp; omega) (fun g hk => (ho.lt g hk).1)⟩
theorem toNat_bne {a : UInt8} (h : a ≠ 0) : ((a.toNat : Int) == 0) = false := beq_eq_false_iff_ne.2 fun e => h (UInt8.toNat_inj.1 (by rw [show (0 : UInt8).toNat = 0 from rfl]; omega))
theorem toNat_ne {a : UInt8} (h : a ≠ 0) : ¬ (a.toNat : Int) = 0 := fun e => h (UInt8.toNat_inj.1 (by rw [show (0 : UInt8).toNat = 0 from rfl]; omega))

set_option maxRecDepth 100000 in
set_option maxHeartbeats 4000000 in
theorem refsolve_any (base R n c0 : Nat) (gB gC : Nat → Nat) (W0 : Nat → List UInt8) (w : World) (h0 : 0 < n) (hn : n ≤ 100) (hM0 : Mat w base R n gB gC W0) (hbase : base ≤ w.heap.size) (hc0 : n ≤ c0) :
    Calls Tryz.prog 246 #[.slice (some ⟨R, 0, none⟩) n c0, .int .i64 (n : Int)] w (RetSo base n W0 w) := by
  obtain ⟨i0, hi, hz0, hz1, hz2⟩ := info_parts info_u8
  go_enter Tryz.func246, Tryz.ntmps246
  go_wp2_with fail
  go_loopw [6] (fun iv wr => SoR base R n W0 w iv wr) (fun iv _ => n - (intOf iv).toNat)
  case atStart => exact ⟨0, gB, gC, W0, Nat.zero_le _, rfl, hM0, Below.refl _ _, fun c hc => absurd hc (Nat.not_lt_zero c), fun y => Iff.rfl⟩
  case round =>
    clear hM0
    obtain ⟨i, gB, gC, W, hi1, rfl, hM, hB, HD⟩ := hrel
    obtain ⟨w1, hw1⟩ : ∃ w1, w1 = wr := ⟨_, rfl⟩
    subst hw1
    by_cases hin : i < n
    · have i1 : (i : Int) < (n : Int) := by omega
      have i2 : (0 : Int) ≤ (i : Int) := by omega
      have i3 : (i : Int) < (n : Int) + 1 := by omega
      go_wp2_with fail
      go_loopw [7] (fun kv wx => PivR i n W w1 kv wx) (fun kv _ => n - (intOf kv).toNat)
      case atStart => exact ⟨i, Nat.le_refl _, by omega, rfl, rfl, fun j h1 h2 => by omega⟩
      case round =>
        obtain ⟨k, hik, hk1, rfl, hwx, HP⟩ := hrel
        subst hwx
        by_cases hkn : k < n
        · have k1 : (k : Int) < (n : Int) := by omega
          have k2 : (0 : Int) ≤ (k : Int) := by omega
          have hh : wr.cell? ⟨R, k, none⟩ = some (.slice (some ⟨gB k, 0, none⟩) (n + 1) (gC k)) := hM.headCell k hkn
          have hcl : wr.cell? ⟨gB k, i, none⟩ = some (.int .u8 ((co (W k) i).toNat : Int)) := hM.cell k i hkn (by omega)
          by_cases hp : co (W k) i = 0
          · rw [hp] at hcl
            have HREL : Hid (PivR i n W wr (.int .i64 ((k : Int) + 1)) wr) := ⟨k + 1, by omega, hkn, by go_num, rfl, fun j j1 j2 => by
              by_cases e : j = k
              · rw [e]; exact hp
              · exact HP.out j j1 (by omega)⟩
            clear hp HP hM
            go_wp2_with fail
            go_roundw
            case rel => exact HREL.out
            case measure => simp [intOf] <;> omega
          · have hpn := toNat_bne hp
            have hpn2 := toNat_ne hp
            have k3 : ((k : Int) == (n : Int)) = false := beq_eq_false_iff_ne.2 (by omega)
            have k4 : ¬ (k : Int) = (n : Int) := by omega
            have hhi : wr.cell? ⟨R, i, none⟩ = some (.slice (some ⟨gB i, 0, none⟩) (n + 1) (gC i)) := hM.headCell i hin
            have fi := hM.headFrozen i
            have fk := hM.headFrozen k
            have hM1 : Mat (((wr.setCell ⟨R, i, none⟩ (.slice (some ⟨gB k, 0, none⟩) (n + 1) (gC k))).setCell ⟨R, k, none⟩ (.slice (some ⟨gB i, 0, none⟩) (n + 1) (gC i))).drew) base R n (swapF gB i k) (swapF gC i k) (swapF W i k) := (hM.swap i k hin hkn).drew
            have hB1 : Below base w (((wr.setCell ⟨R, i, none⟩ (.slice (some ⟨gB k, 0, none⟩) (n + 1) (gC k))).setCell ⟨R, k, none⟩ (.slice (some ⟨gB i, 0, none⟩) (n + 1) (gC i))).drew) := (hM.below_swap hB i k _ _).drew
            obtain ⟨hmid, fmid⟩ := hM.mid i k hin hkn
            have hst := diag_step HD.out.1 hM.len hin hik hkn hp
            have hpi : co (swapF W i k i) i = co (W k) i := by unfold swapF; rw [if_pos rfl]
            obtain ⟨pv, hpv⟩ : ∃ pv, co (W k) i = pv := ⟨_, rfl⟩
            rw [hpv] at hp hcl hst hpi hpn hpn2
            have hinv := fun W => refinv_any pv W hp
            obtain ⟨iv, hiv⟩ : ∃ iv, invB pv = iv := ⟨_, rfl⟩
            rw [hiv] at hst hinv
            have HK : Hid (∀ y, Ker n W y ↔ Ker n W0 y) := HD.out.2
            generalize hW1 : swapF W i k = W1 at hM1 hst hpi
            have HST : Hid (_ ∧ _ ∧ _) := hst
            have HINV := Lib.hid hinv
            clear hW1 hst hinv hiv hpv HD HP hM hB hp
            go_upto_region 9 with fail
            go_region
            clear hhi hh hcl fi fk hpn hpn2 hmid fmid
            generalize ((wr.setCell ⟨R, i, none⟩ (.slice (some ⟨gB k, 0, none⟩) (n + 1) (gC k))).setCell ⟨R, k, none⟩ (.slice (some ⟨gB i, 0, none⟩) (n + 1) (gC i))).drew = w2 at hM1 hB1 ⊢
            generalize swapF gB i k = gB1 at hM1 ⊢
            generalize swapF gC i k = gC1 at hM1 ⊢
            have hh1 : w2.cell? ⟨R, i, none⟩ = some (.slice (some ⟨gB1 i, 0, none⟩) (n + 1) (gC1 i)) := hM1.headCell i hin
            have hcl1 : w2.cell? ⟨gB1 i, i, none⟩ = some (.int .u8 (pv.toNat : Int)) := by rw [← hpi]; exact hM1.cell i i hin (by omega)
            go_wp2_with fail
            refine (HINV.out _).mono ?_
            rintro e w3 ⟨rfl, rfl⟩
            clear HINV hh1 hcl1
            go_wp2_with fail
            have HL1 := Lib.hid (hM1.len i hin)
            go_loopw [9] (fun cv wx => ScR base R n i iv gB1 gC1 W1 w cv wx) (fun cv _ => n + 1 - (intOf cv).toNat)
            case atStart => exact ⟨0, W1 i, Nat.zero_le _, rfl, hM1.len i hin, fun q hq => by rw [if_neg (Nat.not_lt_zero q)], hM1.congr (fun j hj => if_row W1 i j), hB1⟩
            case round =>
              clear hM1 hB1
              obtain ⟨c, T, hc1, rfl, hT, HS, hMx, hBx⟩ := hrel
              by_cases hcn : c ≤ n
              · have c1 : (c : Int) ≤ (n : Int) := by omega
                have c2 : (0 : Int) ≤ (c : Int) := by omega
                have c3 : (c : Int) < (n : Int) + 1 := by omega
                have hh : wr.cell? ⟨R, i, none⟩ = some (.slice (some ⟨gB1 i, 0, none⟩) (n + 1) (gC1 i)) := hMx.headCell i hin
                have hco : co T c = co (W1 i) c := by rw [HS.out c hcn, if_neg (Nat.lt_irrefl c)]
                have hcl : wr.cell? ⟨gB1 i, c, none⟩ = some (.int .u8 ((co (W1 i) c).toNat : Int)) := by
                  have := hMx.cell i c hin hcn
                  rw [if_pos rfl, hco] at this
                  exact this
                have hfr := hMx.frozen i c hin
                have HREL : Hid (ScR base R n i iv gB1 gC1 W1 w (.int .i64 ((c : Int) + 1)) (wr.drew.setCell ⟨gB1 i, c, none⟩ (.int .u8 ((mulB (co (W1 i) c) iv).toNat : Int)))) :=
                  ⟨c + 1, T.set c (mulB (co (W1 i) c) iv), by omega, by go_num, by rw [List.length_set]; exact hT, fun q hq => by
                    rw [co_set _ _ _ _ (by omega)]
                    by_cases e : q = c
                    · rw [if_pos e, if_pos (by omega), e]
                    · rw [if_neg e, HS.out q hq]
                      by_cases e2 : q < c
                      · rw [if_pos e2, if_pos (by omega)]
                      · rw [if_neg e2, if_neg (by omega)],
                  (hMx.drew.set i c hin (mulB (co (W1 i) c) iv)).congr (fun j hj => by
                    by_cases e : j = i
                    · rw [if_pos e, if_pos e, if_pos rfl]
                    · rw [if_neg e, if_neg e, if_neg e]), hMx.drew.below_set hBx.drew i c hin _⟩
                generalize co (W1 i) c = x at hcl HREL hco
                have HMu := Lib.hid (refmul_same x iv)
                generalize mulB x iv = z at HREL HMu
                clear hMx hBx hT HS hco HST HK
                go_upto_region 14 with fail
                refine wp_region_still_tail 15 (by kernel_rfl) (by kernel_rfl) ?_
                simp only [List.take_succ_cons, List.take_zero, List.drop_succ_cons, List.drop_zero]
                iterate 13 still_step
                still_call (HMu.out _)
                still_step
                refine wpStill_nil ?_
                change wpList _ _ _ _ _ wr.drew
                go_wp2_with fail
                go_roundw
                case rel => exact HREL.out
                case measure => simp [intOf] <;> omega
              · have c1 : ¬ (c : Int) ≤ (n : Int) := by omega
                have hM2 : Mat wr base R n gB1 gC1 (scaleW W1 i iv) := hMx.congr (fun j hj => by
                  unfold scaleW
                  by_cases e : j = i
                  · rw [if_pos e, if_pos e]
                    refine co_ext (by rw [List.length_map, hT, HL1.out]) (fun q hq => ?_)
                    rw [List.length_map, HL1.out] at hq
                    rw [HS.out q (by omega), if_pos (by omega), mul_comm]
                    exact co_scale iv (W1 i) q
                  · rw [if_neg e, if_neg e])
                obtain ⟨hst1, hst2, hst3⟩ := HST.out
                generalize scaleW W1 i iv = W2 at hM2 hst1 hst2 hst3
                have HST2 := Lib.hid (And.intro hst1 hst3)
                have hl2 := hM2.len
                have HL2 := Lib.hid hl2
                clear hst1 hst2 hst3 HST HS hMx hT HL1
                go_wp2_with fail
                go_loopw [10] (fun mv wx => ElR base R n i gB1 gC1 W2 w mv wx) (fun mv _ => n - (intOf mv).toNat)
                case atStart => exact ⟨0, Nat.zero_le _, rfl, hM2.congr (fun j hj => by unfold elimW; rw [if_neg (by omega)]), hBx⟩
                case round =>
                  clear hM2 hBx
                  obtain ⟨m, hm1, rfl, hMx, hBx⟩ := hrel
                  by_cases hmn : m < n
                  · have m1 : (m : Int) < (n : Int) := by omega
                    have m2 : (0 : Int) ≤ (m : Int) := by omega
                    have hskip : (m = i ∨ co (W2 m) i = 0) → ElR base R n i gB1 gC1 W2 w (.int .i64 ((m : Int) + 1)) wr := fun hor =>
                      ⟨m + 1, hmn, by go_num, hMx.congr (fun j hj => by
                        unfold elimW
                        by_cases e : j = i
                        · rw [if_neg (by omega), if_neg (by omega)]
                        · by_cases e2 : j < m
                          · rw [if_pos ⟨by omega, e⟩, if_pos ⟨e2, e⟩]
                          · by_cases e3 : j = m
                            · subst e3
                              rw [if_pos ⟨by omega, e⟩, if_neg (by omega)]
                              exact less_none HL2.out hin hmn (hor.resolve_left e)
                            · rw [if_neg (by omega), if_neg (by omega)]), hBx⟩
                    by_cases hmi : m = i
                    · have e1 : ((m : Int) == (i : Int)) = true := beq_iff_eq.2 (by omega)
                      have e2 : (m : Int) = (i : Int) := by omega
                      have HR := Lib.hid (hskip (.inl hmi))
                      rw [hmi] at HR
                      clear hskip hMx hBx
                      go_wp2_with fail
                      go_roundw
                      case rel => exact HR.out
                      case measure => simp [intOf] <;> omega
                    · have e1 : ((m : Int) == (i : Int)) = false := beq_eq_false_iff_ne.2 (by omega)
                      have e2 : ¬ (m : Int) = (i : Int) := by omega
                      have hh : wr.cell? ⟨R, m, none⟩ = some (.slice (some ⟨gB1 m, 0, none⟩) (n + 1) (gC1 m)) := hMx.headCell m hmn
                      have hwm : elimW W2 i m m = W2 m := by unfold elimW; rw [if_neg (by omega)]
                      have hwi : elimW W2 i m i = W2 i := by unfold elimW; rw [if_neg (by omega)]
                      have hcl : wr.cell? ⟨gB1 m, i, none⟩ = some (.int .u8 ((co (W2 m) i).toNat : Int)) := by
                        have := hMx.cell m i hmn (by omega)
                        rw [hwm] at this
                        exact this
                      by_cases h00 : co (W2 m) i = 0
                      · have HR := Lib.hid (hskip (.inr h00))
                        rw [h00] at hcl
                        clear hskip hMx hBx h00
                        go_wp2_with fail
                        go_roundw
                        case rel => exact HR.out
                        case measure => simp [intOf] <;> omega
                      · have hpn := toNat_bne h00
                        have hpn2 := toNat_ne h00
                        clear hskip
                        have HLE : Hid (LeR base R n i m gB1 gC1 W2 w (.int .i64 0) wr) := ⟨0, W2 m, Nat.zero_le _, rfl, HL2.out m hmn, fun q hq => by rw [if_neg (Nat.not_lt_zero q)], hMx.congr (fun j hj => by
                          by_cases e : j = m
                          · rw [if_pos e, e, hwm]
                          · rw [if_neg e]), hBx⟩
                        obtain ⟨a, ha⟩ : ∃ a, co (W2 m) i = a := ⟨_, rfl⟩
                        rw [ha] at hcl hpn hpn2
                        have HA := Lib.hid ha
                        clear ha h00 hMx hBx hwm
                        go_wp2_with fail
                        go_loopw [12] (fun cv wx => LeR base R n i m gB1 gC1 W2 w cv wx) (fun cv _ => n + 1 - (intOf cv).toNat)
                        case atStart => exact HLE.out
                        case round =>
                          clear HLE hh hcl
                          obtain ⟨c, T, hc1, rfl, hT, HS, hMx, hBx⟩ := hrel
                          by_cases hcn : c ≤ n
                          · have c1 : (c : Int) ≤ (n : Int) := by omega
                            have c2 : (0 : Int) ≤ (c : Int) := by omega
                            have c3 : (c : Int) < (n : Int) + 1 := by omega
                            have hh : wr.cell? ⟨R, m, none⟩ = some (.slice (some ⟨gB1 m, 0, none⟩) (n + 1) (gC1 m)) := hMx.headCell m hmn
                            have hhi : wr.cell? ⟨R, i, none⟩ = some (.slice (some ⟨gB1 i, 0, none⟩) (n + 1) (gC1 i)) := hMx.headCell i hin
                            have hco : co T c = co (W2 m) c := by rw [HS.out c hcn, if_neg (Nat.lt_irrefl c)]
                            have hcl : wr.cell? ⟨gB1 m, c, none⟩ = some (.int .u8 ((co (W2 m) c).toNat : Int)) := by
                              have := hMx.cell m c hmn hcn
                              rw [if_pos rfl, hco] at this
                              exact this
                            have hci : wr.cell? ⟨gB1 i, c, none⟩ = some (.int .u8 ((co (W2 i) c).toNat : Int)) := by
                              have := hMx.cell i c hin hcn
                              rw [if_neg (fun e => hmi e.symm), hwi] at this
                              exact this
                            have hfr := hMx.frozen m c hmn
                            have HREL : Hid (LeR base R n i m gB1 gC1 W2 w (.int .i64 ((c : Int) + 1)) (wr.drew.setCell ⟨gB1 m, c, none⟩ (.int .u8 ((addB (co (W2 m) c) (mulB a (co (W2 i) c))).toNat : Int)))) :=
                              ⟨c + 1, T.set c (addB (co (W2 m) c) (mulB a (co (W2 i) c))), by omega, by go_num, by rw [List.length_set]; exact hT, fun q hq => by
                                rw [co_set _ _ _ _ (by omega)]
                                by_cases e : q = c
                                · rw [if_pos e, if_pos (by omega), e, HA.out]
                                · rw [if_neg e, HS.out q hq]
                                  by_cases e2 : q < c
                                  · rw [if_pos e2, if_pos (by omega)]
                                  · rw [if_neg e2, if_neg (by omega)],
                              (hMx.drew.set m c hmn (addB (co (W2 m) c) (mulB a (co (W2 i) c)))).congr (fun j hj => by
                                by_cases e : j = m
                                · rw [if_pos e, if_pos e, if_pos rfl]
                                · rw [if_neg e, if_neg e, if_neg e]), hMx.drew.below_set hBx.drew m c hmn _⟩
                            generalize co (W2 m) c = x at hcl HREL hco
                            generalize co (W2 i) c = y at hci HREL
                            have HMu := Lib.hid (refmul_same a y)
                            generalize mulB a y = z at HREL HMu
                            have hxr := u8_xor_b x z
                            have exz : xorB x z = addB x z := rfl
                            rw [exz] at hxr
                            generalize addB x z = u at HREL hxr
                            clear hMx hBx hT HS hco HST2 HK hl2 HL2 HA exz
                            go_upto_region 23 with fail
                            refine wp_region_still_tail 23 (by kernel_rfl) (by kernel_rfl) ?_
                            simp only [List.take_succ_cons, List.take_zero, List.drop_succ_cons, List.drop_zero]
                            iterate 20 still_step
                            still_call (HMu.out _)
                            iterate 2 still_step
                            refine wpStill_nil ?_
                            change wpList _ _ _ _ _ wr.drew
                            go_wp2_with fail
                            go_roundw
                            case rel => exact HREL.out
                            case measure => simp [intOf] <;> omega
                          · have c1 : ¬ (c : Int) ≤ (n : Int) := by omega
                            have HREL : Hid (ElR base R n i gB1 gC1 W2 w (.int .i64 ((m : Int) + 1)) wr) :=
                              ⟨m + 1, hmn, by go_num, hMx.congr (fun j hj => by
                                unfold elimW
                                by_cases e : j = m
                                · subst e
                                  rw [if_pos ⟨by omega, hmi⟩, if_pos rfl]
                                  refine co_ext (by rw [less_length HL2.out hin hmn, hT]) (fun q hq => ?_)
                                  rw [less_length HL2.out hin hmn] at hq
                                  rw [HS.out q (by omega), if_pos (by omega), co_less HL2.out hin hmn q (by omega)]
                                · rw [if_neg e]
                                  by_cases e2 : j < m ∧ j ≠ i
                                  · rw [if_pos ⟨by omega, e2.2⟩, if_pos e2]
                                  · rw [if_neg (by omega), if_neg e2]), hBx⟩
                            clear hMx hBx HS hT HST2 HK hl2 HL2 HA
                            go_wp2_with fail
                            go_roundw
                            case rel => exact HREL.out
                            case measure => simp [intOf] <;> omega
                  · have em : m = n := by omega
                    subst em
                    have m1 : ¬ (m : Int) < (m : Int) := by omega
                    have HREL : Hid (SoR base R m W0 w (.int .i64 ((i : Int) + 1)) wr) := ⟨i + 1, gB1, gC1, elimW W2 i m, hin, by go_num, hMx, hBx, HST2.out.1, fun y => (HST2.out.2 y).trans (HK.out y)⟩
                    clear hMx hBx HST2 HK hl2 HL2
                    go_wp2_with fail
                    go_roundw
                    case rel => exact HREL.out
                    case measure => simp [intOf] <;> omega
        · have ek : k = n := by omega
          subst ek
          have k1 : ¬ (k : Int) < (k : Int) := by omega
          have HSO : Hid (Solved k W0 false []) := ⟨(fun e => by cases e), fun _ => by
            obtain ⟨y, h1, h2, h3⟩ := no_pivot HD.out.1 hin HP.out
            exact ⟨y, i, hin, h1, h2, (HD.out.2 y).1 h3⟩⟩
          clear hM HD HP
          go_wp2_with fail
          go_ret2
          exact ⟨none, 0, 0, false, [], rfl, Lib.hid rfl, Nat.le_refl _, Rd.nil, hB, HSO.out⟩
    · have ei : i = n := by omega
      subst ei
      have i1 : ¬ (i : Int) < (i : Int) := by omega
      have HSO : Hid (Solved i W0 true (tabL (fun j => co (W j) i) i)) := ⟨fun _ => ⟨tab_length _ _, fun y hk hy j hj => by
        rw [co_tab, if_pos hj]
        exact all_pivots HD.out.1 ((HD.out.2 y).2 hk) hy j hj⟩, (fun e => by cases e)⟩
      clear HD
      go_wp2_with fail
      go_loopw [13, 14] (fun v jv wx => TabZ (fun j => co (W j) i) i w1 v jv wx) (fun _ jv _ => i - (intOf jv).toNat)
      case atStart => exact ⟨0, Nat.zero_le _, rfl, World.ownsRow_nil _ _ _ _, Below.refl _ _⟩
      case round =>
        obtain ⟨k, hk, rfl, hown, hbel⟩ := hrel
        by_cases hkn : k < i
        · have k1 : (k : Int) < (i : Int) := by omega
          have k2 : (0 : Int) ≤ (k : Int) := by omega
          have k3 : (i : Int) < (i : Int) + 1 := by omega
          have hMx := hM.later hbel
          have hh : wr.cell? ⟨R, k, none⟩ = some (.slice (some ⟨gB k, 0, none⟩) (i + 1) (gC k)) := hMx.headCell k hkn
          have hcl : wr.cell? ⟨gB k, i, none⟩ = some (.int .u8 ((co (W k) i).toNat : Int)) := hMx.cell k i hkn (Nat.le_refl _)
          obtain ⟨f, hf⟩ : ∃ f, f = (fun j => co (W j) i) := ⟨_, rfl⟩
          have HX : Hid (f k = co (W k) i) := by rw [hf]; rfl
          rw [← hf] at hown ⊢
          clear hf
          generalize co (W k) i = y at hcl HX
          have hle := hbel.size
          clear hMx hM HSO
          go_wp2_with (at_builtin; refine wpList_append_own _ rfl _ _ 22 rfl w1.heap.size 5 i0 (.int .u8 0) 1 1 Tryz.underlying22 hi hz0 hz1 hz2 rfl (by decide) _ _ _ rfl (hown.alloc _) ⟨wr.heap.size, 0, none⟩ 1 1 [.int .u8 (y.toNat : Int)] rfl rfl (cell_one_new _ _ _) (by intro u hu; simp at hu; subst hu; rfl) (by unfold maxLen; omega) (by omega) (by simp; omega) ?_; intro v' w3 hown' hgrow' _)
          have HR : Hid (TabZ f i w1 v' (.int .i64 ((k : Int) + 1)) w3) := tabz_round hkn hown hbel HX.out hgrow' hown'
          clear hown' hgrow' hown hbel
          go_wp2_with fail
          go_roundw
          case rel => exact HR.out
          case measure => simp [intOf] <;> omega
        · have ek : k = i := by omega
          subst ek
          have k1 : ¬ (k : Int) < (k : Int) := by omega
          obtain ⟨A, c, rfl, hc⟩ := own_form hown
          have hrd := Rd.own hown
          have hBz := hB.trans (hbel.mono (Nat.le_trans hbase hB.size))
          have HTL := Lib.hid (tab_length (fun j => co (W j) k) k)
          generalize tabL (fun j => co (W j) k) k = X at hown hrd HSO HTL
          clear hown hbel hM hB
          go_wp2_with fail
          go_ret2
          exact ⟨A, k, c, true, X, rfl, HTL.out, hc, hrd, hBz, HSO.out⟩
end Go.Proofs.YteppocjgodmpdaaGreatDoor
