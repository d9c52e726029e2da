/-
  What the program's calls of layer 10 answer, over the landed code. No conditions but those typed.
-/
import Derived.Test.YtankddeolpickaaSolCalls
import Derived.Test.YtankddeolpickaaMendMath
namespace Go.Proofs.Ytankddeolpickaa
set_option maxRecDepth 100000
open Go.RowKit
set_option linter.unusedSimpArgs false
set_option linter.unusedVariables false

/-! ### Most -/
def mostN (n : Int) : Int := if n < 1 ∨ 64 < n then 0 else n / 2
theorem mostM_any (n : Int) (w : World) : Calls Try.prog 7 #[.int .i64 n] w fun e w' => e = .returned (.int .i64 (mostN n)) ∧ w = w' := by
  by_cases h1 : n < 1
  · have HE : Hid (mostN n = 0) := if_pos (.inl h1)
    rw [HE.out]
    go_enter Try.func7, Try.ntmps7
    go_wp2_with fail
    go_ret
    exact ⟨rfl, rfl⟩
  · by_cases h2 : 64 < n
    · have HE : Hid (mostN n = 0) := if_pos (.inr h2)
      rw [HE.out]
      go_enter Try.func7, Try.ntmps7
      go_wp2_with fail
      go_ret
      exact ⟨rfl, rfl⟩
    · obtain ⟨m, rfl⟩ : ∃ m : Nat, n = (m : Int) := ⟨n.toNat, by omega⟩
      have HE : Hid (mostN (m : Int) = ((m / 2 : Nat) : Int)) := by
        unfold Hid mostN
        rw [if_neg (by omega)]
        omega
      have e1 : (m : Int).tdiv 2 = ((m / 2 : Nat) : Int) := by rw [Int.tdiv_eq_ediv_of_nonneg (by omega)]; omega
      have e2 : IntKind.i64.wrap ((m / 2 : Nat) : Int) = ((m / 2 : Nat) : Int) := by rw [IntKind.wrap_i64]; omega
      rw [HE.out]
      go_enter Try.func7, Try.ntmps7
      go_wp2_with fail
      go_ret
      exact ⟨rfl, rfl⟩

/-! ### solve -/
def lenV : Value → Nat
  | .slice _ n _ => n
  | _ => 0
theorem quo_pl {p q a r : List UInt8} (h : IsQuo p q a r) (hl : pl q < pl p) : pl a + pl q ≤ pl p + 1 := by
  have hr : pl r < pl q := h.2
  by_cases h0 : pl a = 0
  · omega
  · have e1 : pl (mulL a q) = pl a + pl q - 1 := pl_mul_eq a q (by omega) (by omega)
    have e2 : Eqv (mulL a q) (addL p r) := fun k => by
      have := h.1 k
      rw [co_add] at this
      rw [co_add, ← this, add_assoc, add_self, add_zero]
    have e3 := pl_add p r
    rw [pl_congr e2] at e1
    omega
/-- A polynomial that may be read. -/
def HasP (w : World) (v : Value) (l : List UInt8) : Prop := ∃ A n c, v = .slice A n c ∧ Hid (l.length = n) ∧ n ≤ c ∧ n ≤ 100 ∧ Rd vB w A l
theorem HasP.keep {w w' : World} {v : Value} {l : List UInt8} (h : HasP w v l) (hb : Below w.heap.size w w') : HasP w' v l := by
  obtain ⟨A, n, c, e, h1, h2, h3, h4⟩ := h
  exact ⟨A, n, c, e, h1, h2, h3, h4.keep hb⟩
def SolveR (S : List UInt8) (n : Nat) (w : World) (a l fa f : Value) (wr : World) : Prop :=
  ∃ (ah le fA fi : List UInt8), HasP wr a ah ∧ HasP wr l le ∧ HasP wr fa fA ∧ HasP wr f fi ∧ Below w.heap.size w wr ∧ Hid (Euc n S ah le fA fi)
def RetSolve (S : List UInt8) (n : Nat) (w : World) (e : Ending) (w' : World) : Prop :=
  ∃ (vf vl : Value) (ah le fA fi : List UInt8), e = .returned (.tuple #[vf, vl]) ∧ HasP w' vf fi ∧ HasP w' vl le ∧ Below w.heap.size w w' ∧ Hid (Euc n S ah le fA fi ∧ pl le ≤ n - n / 2)
set_option maxHeartbeats 2000000 in
theorem solveM_any (S : List UInt8) (n : Nat) (A : Option Addr) (c : Nat) (w : World) (HN : Hid (S.length = n)) (hr : Rd vB w A S) (hc : n ≤ c) (h1 : 1 ≤ n) (h2 : n ≤ 64) :
    Calls Try.prog 13 #[.slice A n c] w (RetSolve S n w) := by
  obtain ⟨i0, hi, hz0, hz1, hz2⟩ := info_parts info_u8
  have HM : ∀ W, Calls Try.prog 7 #[.int .i64 (n : Int)] W fun e w' => e = .returned (.int .i64 ((n / 2 : Nat) : Int)) ∧ W = w' := fun W => by
    have := mostM_any (n : Int) W
    unfold mostN at this
    rw [if_neg (by omega), show (n : Int) / 2 = ((n / 2 : Nat) : Int) by omega] at this
    exact this
  have HMost := Lib.hid HM
  clear HM
  have HST := Lib.hid (euc_start n S HN.out)
  go_enter Try.func13, Try.ntmps13
  go_upto_region 3 with (first
    | (at_make; refine wpList_make_full _ rfl _ _ 22 rfl w.heap.size 5 i0 (.int .u8 0) 1 Try.underlying22 hi hz0 hz1 .i64 .i64 _ _ n rfl rfl rfl rfl (by rw [hz2]; omega) (by unfold maxLen; omega) (Nat.le_refl _) ?_; intro w0 hown0 hgrow0)
    | (at_builtin; refine wpList_append_rd (f := vB) _ rfl (.tmp 15) (.tmp 16) 22 rfl w.heap.size 5 i0 (.int .u8 0) 1 Try.underlying22 hi hz0 hz1 hz2 rfl _ _ _ rfl (ownsRow_later hown0 (below_new (Below.refl _ w0) _)) _ ([1] : List UInt8) 1 rfl (Rd.new w0 [1] _ _ rfl) vB_one (by unfold maxLen; simp; omega) (by simp; omega) (by simp only [World.size_alloc]; have := hgrow0.size; simp at this ⊢; omega) ?_; intro v4 w4 hown4 hgrow4))
  rw [Nat.mul_one, show (Value.int .u8 0).cells = #[.int .u8 0] from rfl, toList_madeCells_one, zeros_map, ← List.map_append] at hown4
  have hB0 : Below w.heap.size w w0 := (Below.refl _ _).grown hgrow0 (Nat.le_refl _) (by simp)
  have hB4 : Below w.heap.size w w4 := (below_new hB0 _).grown hgrow4 (by have := hB0.size; simp; omega) (fun k hk => (hown0.lt k hk).1)
  have hXL : (List.replicate n (0 : UInt8) ++ [1]).length = n + ([1] : List UInt8).length := by simp
  rw [← hXL] at hown4
  obtain ⟨A4, c4, rfl, hc4, hr4⟩ := own_slice hown4
  rw [hXL] at hc4 ⊢
  simp only [List.length_cons, List.length_nil, Nat.zero_add] at hc4 ⊢
  replace hr := hr.keep hB4
  have HAh : HasP w4 (.slice A4 (n + 1) c4) (xN n) := ⟨A4, n + 1, c4, rfl, by unfold Hid; exact xN_length n, hc4, by omega, hr4⟩
  have HLe : HasP w4 (.slice A n c) S := ⟨A, n, c, rfl, HN, hc, by omega, hr⟩
  have hb1 := below_new (Below.refl _ w4) (.cells #[] 5)
  have hb2 := below_new hb1 (.cells #[.int .u8 1] 5)
  have HFa : HasP (w4.alloc (.cells #[] 5)) (.slice (some ⟨w4.heap.size, 0, none⟩) 0 0) [] := ⟨_, 0, 0, rfl, Lib.hid rfl, Nat.le_refl _, by omega, Rd.nil⟩
  have HFi : HasP ((w4.alloc (.cells #[] 5)).alloc (.cells #[.int .u8 1] 5)) (.slice (some ⟨(w4.alloc (.cells #[] 5)).heap.size, 0, none⟩) 1 1) [1] := ⟨_, 1, 1, rfl, Lib.hid rfl, Nat.le_refl _, by omega, Rd.new _ [1] _ _ rfl⟩
  have HREL : Hid (SolveR S n w (.slice A4 (n + 1) c4) (.slice A n c) (.slice (some ⟨w4.heap.size, 0, none⟩) 0 0) (.slice (some ⟨(w4.alloc (.cells #[] 5)).heap.size, 0, none⟩) 1 1) ((w4.alloc (.cells #[] 5)).alloc (.cells #[.int .u8 1] 5))) :=
    ⟨xN n, S, [], [1], HAh.keep hb2, HLe.keep hb2, HFa.keep (below_new (Below.refl _ _) _), HFi, below_step hB4 hb2, HST⟩
  rw [show (w4.alloc (.cells #[] 5)).heap.size = w4.heap.size + 1 by simp] at HREL
  clear HAh HLe HFa HFi hb1 hb2 hr4 hown4 hgrow4 hB4 hB0 hown0 hgrow0 hXL hr HST
  go_wp2_with fail
  go_loopw [5, 6, 7, 8] (fun a l fa f wr => SolveR S n w a l fa f wr) (fun _ l _ _ _ => lenV l)
  case atStart => exact HREL.out
  case round =>
    clear HREL
    obtain ⟨ah, le, fA, fi, ⟨A1, n1, d1, rfl, HN1, hd1, hm1, hr1⟩, ⟨A2, n2, d2, rfl, HN2, hd2, hm2, hr2⟩, ⟨A3, n3, d3, rfl, HN3, hd3, hm3, hr3⟩, ⟨A5, n5, d5, rfl, HN5, hd5, hm5, hr5⟩, hB, HE⟩ := hrel
    go_wp2_with fail
    refine (degP_any le n2 A2 d2 _ HN2 hr2 hd2 (by omega)).mono ?_
    rintro e w1 ⟨rfl, hb⟩
    replace hB := below_step hB hb
    replace hr1 := hr1.keep hb
    replace hr2 := hr2.keep hb
    replace hr3 := hr3.keep hb
    replace hr5 := hr5.keep hb
    clear hb
    go_wp2_with fail
    refine (HMost.out _).mono ?_
    rintro e w2 ⟨rfl, rfl⟩
    obtain ⟨L, hL⟩ : ∃ L, (plainL le).length = L := ⟨_, rfl⟩
    have hpl : pl le = L := hL
    have hL2 : L ≤ n2 := by rw [← hL, ← HN2.out]; exact plain_len le
    obtain ⟨M, hM⟩ : ∃ M, n / 2 = M := ⟨_, rfl⟩
    have hM2 : M ≤ n := by omega
    rw [hL, hM]
    have HD : Hid (n - n / 2 = n - M) := by unfold Hid; rw [hM]
    have HL := Lib.hid hpl
    clear hM hL hpl
    by_cases hgo : n - M < L
    · have j1 : (n : Int) - (M : Int) ≤ (L : Int) - 1 := by omega
      have HQ : Hid (plainL le ≠ []) := fun h0 => by
        have := HL.out
        unfold pl at this
        rw [h0] at this
        simp at this
        omega
      go_wp2_with fail
      refine (quoP_good ah le n1 n2 A1 A2 d1 d2 _ HN1 HN2 hr1 hr2 hd1 hd2 (by omega) (by omega) HQ).mono ?_
      rintro e w3 ⟨qa, rr, B1, B2, k1, k2, q1, q2, rfl, HK1, HK2, hq1, hq2, hra, hrr, hb3, HQQ⟩
      replace hB := below_step hB hb3
      replace hr1 := hr1.keep hb3
      replace hr2 := hr2.keep hb3
      replace hr3 := hr3.keep hb3
      replace hr5 := hr5.keep hb3
      have hk1 : k1 ≤ 100 := by
        have h1 := quo_pl HQQ.out.1 HE.out.less
        have h2 := HE.out.deg
        have h3 : pl qa = k1 := by unfold pl; rw [HQQ.out.2.1]; exact HK1.out
        omega
      have hk2 : k2 < n2 := by
        have h1 : pl rr < pl le := HQQ.out.1.2
        have h3 : pl rr = k2 := by unfold pl; rw [HQQ.out.2.2]; exact HK2.out
        have h4 := HL.out
        omega
      clear hb3
      go_wp2_with fail
      refine (mulP_any qa fi k1 n5 B1 A5 q1 d5 _ HK1 HN5 hra hr5 hq1 hd5 (by omega) (by omega)).mono ?_
      rintro e w4 ⟨A6, n6, d6, rfl, HN6, hd6, hr6, hb4⟩
      have hn6 : n6 ≤ 1000 := by
        have h1 := plain_len (mulL qa fi)
        have h2 : pl (mulL qa fi) ≤ pl qa + pl fi - 1 := pl_mul qa fi
        have h3 := pl_len qa
        have h4 := pl_len fi
        have h5 := HK1.out
        have h6 := HN5.out
        have h7 : pl (mulL qa fi) = n6 := HN6.out
        omega
      replace hB := below_step hB hb4
      replace hr2 := hr2.keep hb4
      replace hr3 := hr3.keep hb4
      replace hr5 := hr5.keep hb4
      replace hrr := hrr.keep hb4
      clear hb4
      go_wp2_with fail
      refine (addP_any fA (plainL (mulL qa fi)) n3 n6 A3 A6 d3 d6 _ HN3 HN6 hr3 hr6 hd3 hd6 (by omega) (by omega)).mono ?_
      rintro e w5 ⟨A7, n7, d7, rfl, HN7, hd7, hr7, hb5⟩
      have hf : Eqv (plainL (addL fA (plainL (mulL qa fi)))) (addL fA (mulL qa fi)) := (plain_eqv _).trans (add_congr (Eqv.refl _) (plain_eqv _))
      have HE2 := Lib.hid (HE.out.step HQQ.out.1 (by have := HL.out; have := HD.out; omega) hf)
      have hn7 : n7 ≤ 100 := by
        have h1 := HE2.out.deg
        have h2 : pl (plainL (addL fA (plainL (mulL qa fi)))) = n7 := by unfold pl; rw [plain_plain]; exact HN7.out
        omega
      have HREL2 : Hid (SolveR S n w (.slice A2 n2 d2) (.slice B2 k2 q2) (.slice A5 n5 d5) (.slice A7 n7 d7) w5) :=
        ⟨le, rr, fi, plainL (addL fA (plainL (mulL qa fi))), ⟨A2, n2, d2, rfl, HN2, hd2, hm2, hr2.keep hb5⟩, ⟨B2, k2, q2, rfl, HK2, hq2, by omega, hrr.keep hb5⟩, ⟨A5, n5, d5, rfl, HN5, hd5, hm5, hr5.keep hb5⟩, ⟨A7, n7, d7, rfl, HN7, hd7, hn7, hr7⟩, below_step hB hb5, HE2⟩
      clear hB hr2 hr3 hr5 hr1 hrr hra hr6 hr7 HE HE2 HQQ hf hb5
      go_wp2_with fail
      go_roundw
      case rel => exact HREL2.out
      case measure => simp [lenV] <;> omega
    · have j1 : ¬ (n : Int) - (M : Int) ≤ (L : Int) - 1 := by omega
      go_wp2_with fail
      go_ret2
      exact ⟨_, _, ah, le, fA, fi, rfl, ⟨A5, n5, d5, rfl, HN5, hd5, hm5, hr5⟩, ⟨A2, n2, d2, rfl, HN2, hd2, hm2, hr2⟩, hB, HE.out, by rw [HL.out, HD.out]; omega⟩

/-! ### amiss -/
theorem powZ_neg (p : Nat) (hp : p < 255) : powZ 2 (-(p : Int)) = rootB p := by
  unfold powZ
  rw [if_neg (by decide)]
  refine inv_unique _ _ ?_
  rw [← pow_add]
  by_cases h : p = 0
  · subst h
    rfl
  · have : ((-(p : Int)) % 255).toNat = 255 - p := by omega
    rw [this, show p + (255 - p) = 255 by omega, exp_255]
set_option maxHeartbeats 2000000 in
theorem amissM_any (f le : List UInt8) (p : Nat) (vf vl : Value) (w : World) (hp : p < 255) (hf : HasP w vf f) (hl : HasP w vl le) :
    Calls Try.prog 15 #[vf, vl, .int .i64 (p : Int)] w fun e w' => e = .returned (.int .u8 ((amB f le p).toNat : Int)) ∧ Below w.heap.size w w' := by
  obtain ⟨A1, n1, c1, rfl, HN1, hc1, hm1, hr1⟩ := hf
  obtain ⟨A2, n2, c2, rfl, HN2, hc2, hm2, hr2⟩ := hl
  have hx := gfexp_any (-(p : Int)) w
  rw [powZ_neg p hp] at hx
  have HX := Lib.hid hx
  have hw : IntKind.i64.wrap (-(p : Int)) = -(p : Int) := by rw [IntKind.wrap_i64]; omega
  clear hx
  obtain ⟨V, hV⟩ : ∃ V, amB f le p = V := ⟨_, rfl⟩
  rw [hV]
  unfold amB at hV
  generalize rootB p = r at HX hV
  obtain ⟨y, hy⟩ : ∃ y, evalL f r = y := ⟨_, rfl⟩
  have hEf := fun W (hW : Below w.heap.size w W) => evalP_any f r n1 A1 c1 W HN1 (hr1.keep hW) hc1 (by omega)
  rw [hy] at hEf hV
  have HEF := Lib.hid hEf
  have HV := Lib.hid hV
  clear hEf hy hV
  go_enter Try.func15, Try.ntmps15
  go_wp2_with fail
  refine HX.out.mono ?_
  rintro e w1 ⟨rfl, rfl⟩
  go_wp2_with fail
  refine (HEF.out _ (Below.refl _ _)).mono ?_
  rintro e w1 ⟨rfl, hb1⟩
  by_cases h0 : y = 0
  · subst h0
    have hV := HV.out
    rw [if_pos rfl] at hV
    clear HV
    replace hr1 := hr1.keep hb1
    replace hr2 := hr2.keep hb1
    have hB := hb1
    clear hb1
    go_wp2_with fail
    refine (slopeP_any f n1 A1 c1 _ HN1 hr1 hc1 (by omega)).mono ?_
    rintro e w2 ⟨A3, n3, c3, rfl, HN3, hc3, hr3, hb2⟩
    have hn3 : n3 ≤ 1000 := by
      rw [← HN3.out]
      have h1 := plain_len (slopeL f)
      have h2 : (plainL (slopeL f)).length ≤ f.length := (plain_le_iff _ _).2 fun k hk => by
        rw [co_slope]
        split
        · exact co_ge f _ (by omega)
        · rfl
      have := HN1.out
      omega
    have he : evalL (slopeL f) r = evalL (plainL (slopeL f)) r := (eval_congr (plain_eqv _) r).symm
    rw [he] at hV
    generalize plainL (slopeL f) = S at HN3 hr3 hV
    clear he
    replace hB := below_step hB hb2
    replace hr2 := hr2.keep hb2
    obtain ⟨z, hz⟩ : ∃ z, evalL S r = z := ⟨_, rfl⟩
    obtain ⟨u, hu⟩ : ∃ u, evalL le r = u := ⟨_, rfl⟩
    have hES := evalP_any S r n3 A3 c3 w2 HN3 hr3 hc3 (by omega)
    have hEL := fun W (hW : Below w2.heap.size w2 W) => evalP_any le r n2 A2 c2 W HN2 (hr2.keep hW) hc2 (by omega)
    rw [hz] at hES hV
    rw [hu] at hEL hV
    have HV := Lib.hid hV
    clear hV
    have HES := Lib.hid hES
    have HEL := Lib.hid hEL
    clear hES hEL hz hu hb2
    go_wp2_with fail
    refine HES.out.mono ?_
    rintro e w3 ⟨rfl, hb3⟩
    replace hB := below_step hB hb3
    by_cases hz : z = 0
    · subst hz
      have HV0 : Hid (V = 0) := by unfold Hid; rw [← HV.out, if_pos rfl]
      clear HV
      go_wp2_with fail
      refine (gfinv_zero _).mono ?_
      rintro e w4 ⟨rfl, rfl⟩
      go_wp2_with fail
      refine (HEL.out _ hb3).mono ?_
      rintro e w5 ⟨rfl, hb5⟩
      replace hB := below_step hB hb5
      have hm := gfmul_any u 0 w5
      rw [mul_zero] at hm
      have HMU := Lib.hid hm
      clear hm
      go_wp2_with fail
      refine HMU.out.mono ?_
      rintro e w6 ⟨rfl, rfl⟩
      go_wp2_with fail
      go_ret
      exact ⟨ret_int (by rw [HV0.out]; rfl), hB⟩
    · have HV0 : Hid (V = mulB u (invB z)) := by unfold Hid; rw [← HV.out, if_neg hz]
      clear HV
      go_wp2_with fail
      refine (gfinv_any z _ hz).mono ?_
      rintro e w4 ⟨rfl, rfl⟩
      go_wp2_with fail
      refine (HEL.out _ hb3).mono ?_
      rintro e w5 ⟨rfl, hb5⟩
      replace hB := below_step hB hb5
      go_wp2_with fail
      refine (gfmul_any u (invB z) _).mono ?_
      rintro e w6 ⟨rfl, rfl⟩
      go_wp2_with fail
      go_ret
      exact ⟨ret_int (by rw [HV0.out]), hB⟩
  · have HV0 : Hid (V = 0) := by unfold Hid; rw [← HV.out, if_neg h0]
    clear HV
    have hne : ((y.toNat : Int) != 0) = true := by
      rw [bne_iff_ne]
      intro e
      apply h0
      apply UInt8.toNat_inj.1
      rw [show (0 : UInt8).toNat = 0 from rfl]
      omega
    go_wp2_with fail
    go_ret
    exact ⟨ret_int (by rw [HV0.out]; rfl), hb1⟩

/-! ### Mend -/
/-- A call that hands back bytes, how many places, and an error. -/
def RetM (w : World) (s : List UInt8 × Nat × Int) (e : Ending) (w' : World) : Prop := ∃ A n c, e = .returned (.tuple #[.slice A n c, .int .i64 (s.2.1 : Int), .int .i64 s.2.2]) ∧ Hid (s.1.length = n) ∧ n ≤ c ∧ Rd vB w' A s.1 ∧ Below w.heap.size w w' ∧ ∀ a, A = some a → w.heap.size ≤ a.block
theorem RetM.to {w w' : World} {s : List UInt8 × Nat × Int} {e : Ending} (h : RetM w s e w') (l : List UInt8) (k : Nat) (kz err : Int) (hs : s = (l, k, err)) (hk : (k : Int) = kz) :
    ∃ A n c, e = .returned (.tuple #[.slice A n c, .int .i64 kz, .int .i64 err]) ∧ Hid (l.length = n) ∧ n ≤ c ∧ Rd vB w' A l ∧ Below w.heap.size w w' ∧ ∀ a, A = some a → w.heap.size ≤ a.block := by
  subst hs
  subst hk
  exact h
def MendR (b am : List UInt8) (g : Nat) (wb : World) (pv kv : Value) (wr : World) : Prop :=
  ∃ (j : Nat) (T : List UInt8), j ≤ b.length ∧ kv = .int .i64 (j : Int) ∧ pv = .int .i64 ((wtL (am.take j) : Nat) : Int) ∧ T.length = b.length ∧ (∀ i, i < b.length → co T i = if i < j then addB (co b i) (co am i) else co b i) ∧ Cel wr g 5 T ∧ Below wb.heap.size wb wr
set_option maxHeartbeats 2000000 in
theorem mendM_ok (b : List UInt8) (len n : Nat) (A : Option Addr) (c : Nat) (w : World) (HN : Hid (b.length = len)) (hr : Rd vB w A b) (hc : len ≤ c) (h1 : 1 ≤ n) (h2 : n ≤ 64) (h3 : n ≤ len) (h4 : len ≤ 255) :
    Calls Try.prog 8 #[.slice A len c, .int .i64 (n : Int)] w (RetM w (mendS b n)) := by
  obtain ⟨i0, hi, hz0, hz1, hz2⟩ := info_parts info_u8
  have e1 := HN.out
  subst e1
  have hE : errS b.length n = 0 := by unfold errS; rw [if_neg (by omega), if_neg (by omega), if_neg (by omega)]
  have HSI := Lib.hid (signsS_ok b b.length n A c w HN hr hc h1 h2 h3 h4)
  have HNear : Hid (∀ a, Near b n a → mendS b n = (a, difL b a, 0)) := fun a ha => mendS_near hE h4 ha
  have HMany : Hid ((∀ a, ¬ Near b n a) → mendS b n = ([], 0, 6)) := fun ha => mendS_many hE ha
  generalize mendS b n = R at HNear HMany ⊢
  clear hE
  go_enter Try.func8, Try.ntmps8
  go_wp2_with fail
  refine HSI.out.mono ?_
  rintro e w1 ⟨A1, n1, c1, rfl, HN1, hc1, hr1, hb1⟩
  have en1 : n1 = n := by rw [← HN1.out, signs_length]
  subst en1
  clear HSI
  go_wp2_with fail
  refine (solveM_any (signsL b n1) n1 A1 c1 w1 HN1 hr1 hc1 h1 h2).mono ?_
  rintro e w2 ⟨vf, vl, ah, le, fA, fi, rfl, hf, hle, hb2, HEU⟩
  obtain ⟨M, hM, hMl, hMd, hMn, hMu⟩ := mended_right h4 HEU.out.1 HEU.out.2
  obtain ⟨am, ham⟩ : ∃ am, amL fi le b.length = am := ⟨_, rfl⟩
  have hal : am.length = b.length := by rw [← ham]; exact am_length _ _ _
  have HCO : Hid (∀ j, j < b.length → amB fi le (b.length - 1 - j) = co am j) := fun j hj => by rw [← ham, co_am _ _ _ _ hj]
  rw [ham] at hM hMd
  have HM1 := Lib.hid hM
  have HM2 := Lib.hid hMd
  have HM3 := Lib.hid hMn
  have HM4 := Lib.hid hMu
  replace hr := hr.keep (below_step hb1 hb2)
  have hB := below_step hb1 hb2
  clear hr1 HEU HN1 ham hM hMd hMn hMu hb1 hb2
  go_wp2_with fail
  refine (clone_own b A c w2 hr (by omega)).mono ?_
  rintro e w3 ⟨v, rfl, ho, hb3⟩
  obtain ⟨A3, c3, rfl, hc3⟩ := own_form ho
  obtain ⟨g, rfl, hg, _⟩ := cel_of_own ho rfl (by omega)
  obtain ⟨hcel, _, hle3, hmax⟩ := celN_some ho rfl
  have hc0 := hcel.cel
  have hgw : w.heap.size ≤ g := Nat.le_trans hB.size hg
  clear ho hcel
  have hrel0 : MendR b am g w2 (.int .i64 0) (.int .i64 0) w3 := ⟨0, b, Nat.zero_le _, rfl, rfl, rfl, fun i hi => by rw [if_neg (Nat.not_lt_zero i)], hc0, hb3⟩
  have HREL := Lib.hid hrel0
  clear hrel0 hc0 hb3
  go_wp2_with fail
  go_loopw [12, 33] (fun p k wr => MendR b am g w2 p k wr) (fun _ k _ => b.length - (intOf k).toNat)
  case atStart => exact HREL.out
  case round =>
    clear HREL
    obtain ⟨j, T, hj, rfl, rfl, hT, hS, hcel, hbr⟩ := hrel
    have hf' := hf.keep hbr
    have hl' := hle.keep hbr
    by_cases h : j < b.length
    · have j1 : (j : Int) < (b.length : Int) := by omega
      have j0 : (0 : Int) ≤ (j : Int) := by omega
      obtain ⟨p, hp⟩ : ∃ p : Nat, p = b.length - 1 - j := ⟨_, rfl⟩
      have e1 : (b.length : Int) - 1 - (j : Int) = (p : Int) := by omega
      have hp2 : p < 255 := by omega
      have hA := amissM_any fi le p vf vl wr hp2 hf' hl'
      rw [hp, HCO.out j h] at hA
      rw [← hp] at hA
      have hkT : j < T.length := by omega
      have hSj := hS j h
      rw [if_neg (Nat.lt_irrefl j)] at hSj
      have hwt := wt_take am j (by omega)
      have hP255 : wtL (am.take (j + 1)) ≤ 255 := by have := wt_le (am.take (j + 1)); rw [List.length_take] at this; omega
      have HT1 : Hid (∀ (T' : List UInt8) (W : World), T'.length = b.length → (∀ i, i < b.length → co T' i = if i = j then addB (co b j) (co am j) else co T i) → Cel W g 5 T' → Below w2.heap.size w2 W → MendR b am g w2 (.int .i64 ((wtL (am.take (j + 1)) : Nat) : Int)) (.int .i64 ((j : Int) + 1)) W) := fun T' W t1 t2 t3 t4 =>
        ⟨j + 1, T', h, by go_num, rfl, t1, fun i hi => by
          rw [t2 i hi]
          by_cases e : i = j
          · subst e
            rw [if_pos rfl, if_pos (Nat.lt_succ_self i)]
          · rw [if_neg e, hS i hi]
            by_cases g1 : i < j
            · rw [if_pos g1, if_pos (by omega)]
            · rw [if_neg g1, if_neg (by omega)], t3, t4⟩
      generalize co am j = a at hA HT1 hwt
      generalize wtL (am.take j) = P0 at hwt ⊢
      generalize wtL (am.take (j + 1)) = P1 at hwt HT1 hP255
      have HA := Lib.hid hA
      have HSJ := Lib.hid hSj
      have HWT := Lib.hid hwt
      clear hA hS hp hSj hwt
      go_wp2_with fail
      refine HA.out.mono ?_
      rintro e w4 ⟨rfl, hb4⟩
      have hcel4 := hcel.later hb4
      have hB4 := below_step hbr hb4
      clear hcel hbr hf' hl' hb4 HA
      by_cases h0 : a = 0
      · subst h0
        have hP : P1 = P0 := by have := HWT.out; rw [if_pos rfl] at this; exact this
        subst hP
        have HR := Lib.hid (HT1.out T w4 hT (fun i hi => by
          by_cases e : i = j
          · subst e
            rw [if_pos rfl, HSJ.out, add_zero]
          · rw [if_neg e]) hcel4 hB4)
        clear HT1 HWT HSJ hcel4 hB4
        go_wp2_with fail
        go_roundw
        case rel => exact HR.out
        case measure => simp [intOf] <;> omega
      · have hne : ((a.toNat : Int) != 0) = true := by
          rw [bne_iff_ne]
          intro e
          apply h0
          apply UInt8.toNat_inj.1
          rw [show (0 : UInt8).toNat = 0 from rfl]
          omega
        have hP : ((P0 : Int) + 1) = (P1 : Int) := by have := HWT.out; rw [if_neg h0] at this; omega
        have hcj := hcel4.get j hkT
        rw [HSJ.out] at hcj
        have hfj := hcel4.frozen j
        have hcs := hcel4.set j (addB (co b j) a)
        have HR := fun hd => Lib.hid (HT1.out (T.set j (addB (co b j) a)) (w4.setCell ⟨g, j, none⟩ (.int .u8 ((addB (co b j) a).toNat : Int))) (by rw [List.length_set]; exact hT) (fun i hi => co_set T j i _ hkT) hcs hd)
        have HR2 := HR (hB4.setCell (p := ⟨g, j, none⟩) hg _)
        generalize co b j = bj at hcj HR2 HSJ hcs
        clear HT1 HWT HSJ hcel4 hcs hB4 HR
        go_wp2_with fail
        refine (gfadd_any bj a _).mono ?_
        rintro e w5 ⟨rfl, rfl⟩
        go_wp2_with fail
        go_roundw
        case rel => exact HR2.out
        case measure => simp [intOf] <;> omega
    · have ej : j = b.length := by omega
      subst ej
      have j1 : ¬ (b.length : Int) < (b.length : Int) := by omega
      have HT : Hid (T = M) := by
        unfold Hid
        rw [HM1.out]
        refine co_ext (by rw [hT, List.length_zipWith]; omega) (fun i hi => ?_)
        rw [hT] at hi
        rw [hS i hi, if_pos hi, co_zip _ _ _ hi (by omega)]
      have HW : Hid (wtL (am.take b.length) = difL b M) := by
        unfold Hid
        rw [HM2.out, ← hal, List.take_length]
      have e2 := HT.out
      subst e2
      rw [HW.out]
      have hrT := hcel.rd
      have hBw := below_step hB hbr
      have HTL := Lib.hid hT
      have hfin := fineS_any T b.length (n1 : Int) (some ⟨g, 0, none⟩) c3 wr HTL hrT hc3 (by omega)
      obtain ⟨F, hF⟩ : ∃ F, fineS T (n1 : Int) = F := ⟨_, rfl⟩
      have hiff := fineS_iff T n1 h1 h2 (by omega) (by omega)
      rw [hF] at hfin hiff
      have HFin := Lib.hid hfin
      have HIff := Lib.hid hiff
      obtain ⟨D, hD⟩ : ∃ D, difL b T = D := ⟨_, rfl⟩
      rw [hD]
      have HDD := Lib.hid hD
      clear hD
      clear hcel hS hbr hfin hiff hF hf' hl' hf hle hr hT hB HCO
      go_wp2_with fail
      refine HFin.out.mono ?_
      rintro e w6 ⟨rfl, hb6⟩
      have hB6 := below_step hBw hb6
      have hr6 := hrT.keep hb6
      cases F with
      | true =>
        have HRR : Hid (R = (T, difL b T, 0)) := HNear.out T (HM3.out (HIff.out.1 rfl))
        clear HNear HMany HM3 HM4 hBw hrT hb6
        go_wp2_with fail
        go_ret3
        rw [HRR.out, HDD.out]
        exact ⟨_, b.length, c3, rfl, HTL, hc3, hr6, hB6, fun a ha => by cases ha; exact hgw⟩
      | false =>
        have HRR : Hid (R = ([], 0, 6)) := HMany.out fun a ha => by
          have ea := HM4.out a ha
          subst ea
          have := HIff.out.2 ha.2.1
          cases this
        clear HNear HMany HM3 HM4 hBw hrT hb6
        go_wp2_with fail
        go_ret3
        rw [HRR.out]
        exact ⟨none, 0, 0, rfl, Lib.hid rfl, Nat.le_refl _, Rd.nil, hB6, fun a ha => by cases ha⟩
theorem mendM_no (b : List UInt8) (len : Nat) (n : Int) (A : Option Addr) (c : Nat) (w : World) (HN : Hid (b.length = len)) (hr : Rd vB w A b) (hc : len ≤ c) (hl : len ≤ 100000) (h : errS len n ≠ 0) :
    Calls Try.prog 8 #[.slice A len c, .int .i64 n] w (RetM w (mendS b n)) := by
  have HM := Lib.hid (signsS_no b len n A c w HN hr hc hl (Lib.hid h))
  rw [mendS_bad (by rw [HN.out]; exact h), HN.out]
  generalize errS len n = k at HM h ⊢
  have hk : (k != 0) = true := bne_iff_ne.2 h
  clear h
  go_enter Try.func8, Try.ntmps8
  go_wp2_with fail
  refine HM.out.mono ?_
  rintro e w1 ⟨A1, n1, c1, rfl, HN1, hc1, hr1, hb1⟩
  go_wp2_with fail
  go_ret3
  exact ⟨none, 0, 0, rfl, Lib.hid rfl, Nat.le_refl _, Rd.nil, hb1, fun a ha => by cases ha⟩
theorem mendM_any (b : List UInt8) (len : Nat) (n : Int) (A : Option Addr) (c : Nat) (w : World) (HN : Hid (b.length = len)) (hr : Rd vB w A b) (hc : len ≤ c) (hl : len ≤ 100000) :
    Calls Try.prog 8 #[.slice A len c, .int .i64 n] w (RetM w (mendS b n)) := by
  by_cases h : errS len n = 0
  · obtain ⟨m, rfl, h1, h2, h3, h4⟩ := errS_cases len n h
    exact mendM_ok b len m A c w HN hr hc h1 h2 h3 h4
  · exact mendM_no b len n A c w HN hr hc hl h
end Go.Proofs.Ytankddeolpickaa
