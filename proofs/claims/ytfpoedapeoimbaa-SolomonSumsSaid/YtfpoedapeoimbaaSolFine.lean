/-
  The walk of the law SolomonFine: data with its checks is fine, and begins with the data; turned in as many places as there are checks it isn't. No conditions.
-/
import Derived.Test.YtfpoedapeoimbaaSolAwake
import Derived.StillTailTactics
namespace Go.Proofs.Ytfpoedapeoimbaa
set_option maxRecDepth 100000
open Go.RowKit
set_option linter.unusedSimpArgs false
set_option linter.unusedVariables false

/-! ### Turned at one place more -/
theorem wt_cons (c : UInt8) (b : List UInt8) : wtL (c :: b) = (if c = 0 then 0 else 1) + wtL b := by
  unfold wtL
  by_cases h : c = 0
  · subst h
    rw [List.filter_cons_of_neg (by simp), if_pos rfl, Nat.zero_add]
  · rw [List.filter_cons_of_pos (by simpa using h), if_neg h, List.length_cons, Nat.add_comm]
theorem dif_nil_left (b : List UInt8) : difL [] b = 0 := by simp [difL, wtL]
theorem dif_cons (x y : UInt8) (a b : List UInt8) : difL (x :: a) (y :: b) = (if addB x y = 0 then 0 else 1) + difL a b := by
  unfold difL
  rw [List.zipWith_cons_cons, wt_cons]
theorem dif_set : ∀ (a b : List UInt8) (q : Nat) (z : UInt8), difL a (b.set q z) ≤ difL a b + 1
  | [], b, q, z => by rw [dif_nil_left]; omega
  | x :: a, [], q, z => by simp [difL, wtL]
  | x :: a, y :: b, 0, z => by
    rw [List.set_cons_zero, dif_cons, dif_cons]
    split <;> split <;> omega
  | x :: a, y :: b, q + 1, z => by
    rw [List.set_cons_succ, dif_cons, dif_cons]
    have := dif_set a b q z
    omega
theorem dif_self (a : List UInt8) : difL a a = 0 := by
  unfold difL
  rw [zip_self, wt_zeros]
/-- What is unlike what is fine in no more places than there are checks is fine just if it is the same. -/
theorem fine_near (x y : List UInt8) (k : Nat) (h1 : 1 ≤ k) (h2 : k ≤ 64) (h3 : k ≤ x.length) (h4 : x.length ≤ 255) (hl : y.length = x.length) (hx : fineP x k) (hd : difL x y ≤ k) : ((strL x).toList == (strL y).toList) = fineS y (k : Int) := by
  rw [strL_toList, strL_toList, Bool.eq_iff_iff, beq_iff_eq, fineS_iff y k h1 h2 (by omega) (by omega)]
  constructor
  · intro e
    rw [← e]
    exact hx
  · intro hy
    rw [fine_unique x y k hl.symm h4 hx hy hd]

def FinR (x : List UInt8) (k gy : Nat) (wb : World) (iv : Value) (wr : World) : Prop :=
  ∃ (j : Nat) (y : List UInt8), j ≤ k ∧ iv = .int .i64 (j : Int) ∧ y.length = x.length ∧ difL x y ≤ j ∧ Cel wr gy 5 y ∧ Below wb.heap.size wb wr

set_option maxRecDepth 100000 in
set_option maxHeartbeats 4000000 in
theorem solfine_core (d : List UInt8) (m : UInt8) (s b : List UInt8) (len ns nb : Nat) (A B C : Option Addr) (c cs cb : Nat) (w : World) (HN : Hid (d.length = len)) (HS : Hid (s.length = ns)) (HB : Hid (b.length = nb)) (hr : Rd vB w A d) (hrs : Rd vB w B s) (hrb : Rd vB w C b) (hc : len ≤ c) (hcs : ns ≤ cs) (hcb : nb ≤ cb) :
    Calls Try.prog 4 #[.slice A len c, .int .u8 (m.toNat : Int), .slice B ns cs, .slice C nb cb] w fun e w' => e = .returned (.bool true) ∧ Below w.heap.size w w' := by
  obtain ⟨i0, hi, hz0, hz1, hz2⟩ := info_parts info_u8
  obtain ⟨k, hk⟩ : ∃ k : Nat, k = m.toNat % 64 + 1 := ⟨_, rfl⟩
  have h1 : 1 ≤ k := by omega
  have h2 : k ≤ 64 := by omega
  have hm : m.toNat < 256 := m.toNat_lt
  have hki : (m.toNat : Int) % 64 + 1 = (k : Int) := by omega
  have hwm : IntKind.i64.wrap (m.toNat : Int) = (m.toNat : Int) := by rw [IntKind.wrap_i64]; omega
  have hwk : IntKind.i64.wrap (k : Int) = (k : Int) := by rw [IntKind.wrap_i64]; omega
  generalize m.toNat = mm at hk hki hwm hm ⊢
  have HK := Lib.hid hk
  clear hk
  go_enter Try.func4, Try.ntmps4
  go_wp2_with fail
  refine (awake9_any _).mono ?_
  rintro e w1 ⟨rfl, hB⟩
  replace hr := hr.keep hB
  replace hrs := hrs.keep hB
  replace hrb := hrb.keep hB
  by_cases hlen : 255 - (k : Int) < (len : Int)
  · go_wp2_with fail
    go_ret
    exact ⟨rfl, hB⟩
  · go_wp2_with fail
    refine (putS_ok d len k A c _ HN hr hc h1 h2 (by omega)).mono ?_
    rintro e w2 ⟨A2, n2, c2, rfl, HN2, hc2, hr2, hb2⟩
    have hpl := putS_length d k h1
    have hn2 : n2 = len + k := by rw [← HN2.out, hpl, HN.out]
    have hfp := putS_fine d k h1
    have hXT : (putS d k).take len = d := by
      unfold putS
      rw [← HN.out, List.take_left]
    generalize putS d k = X at HN2 hr2 hfp hXT
    have hXF : fineS X (k : Int) = true := (fineS_iff X k h1 h2 (by rw [HN2.out]; omega) (by rw [HN2.out]; omega)).2 hfp
    have HXF := Lib.hid hXF
    have HFP := Lib.hid hfp
    have HTL : Hid (d.length = len) := HN
    have hsum : (len : Int) + (k : Int) = (n2 : Int) := by omega
    have hw2 : IntKind.i64.wrap (n2 : Int) = (n2 : Int) := by rw [IntKind.wrap_i64]; omega
    have hn255 : n2 ≤ 255 := by omega
    have hkn : k ≤ n2 := by omega
    have hlc2 : len ≤ c2 := by omega
    replace hr := hr.keep hb2
    replace hrs := hrs.keep hb2
    replace hrb := hrb.keep hb2
    replace hB := below_step hB hb2
    have hrt := hr2.take len
    rw [hXT] at hrt
    clear hb2 hXF hfp hXT hpl hn2 hki
    have hcut := fun W => run_cut_to (P := Try.prog) 22 5 Try.underlying22 size_uint8 A2 n2 c2 len hlc2 W
    have hs1 := strS (c := c2) len HTL hrt
    have hs2 := strS (c := c) len HN hr
    have HX := Lib.hid (And.intro hr2 (And.intro hrs (And.intro hrb hB)))
    go_upto_region 7 with fail
    have hBase := (Below.refl w2.heap.size w2).drew
    clear hr2 hrs hrb hB hr hrt
    refine wp_region_plan (.step 0 false (.step 1 false (.step 2 false (.step 3 false (.step 4 false (.step 5 false (.step 6 false (.step 7 false (.step 8 false (.step 9 false (.step 10 false (.step 11 false (.step 12 false (.step 13 false (.step 14 false (.step 15 false (.step 16 false (.step 17 false (.step 18 false (.step 19 false (.step 20 false (.step 21 false (.step 22 false (.step 23 false (.step 24 true (.step 25 false (.step 26 false (.nil)))))))))))))))))))))))))))) (by kernel_rfl) (by kernel_rfl) (by rfl) (by kernel_rfl) ?_
    iterate 24 (refine plan_read rfl (by rfl) (v := ?_) ?_ ?_; rotate_left 1; (intro W hW; have hW0 := below_step hBase hW; (try dsimp only at hW); go_simp <;> with_reducible rfl); simp only [List.getElem_toArray, List.getElem_cons_zero, List.getElem_cons_succ, Act.put, List.setIfInBounds_toArray, List.set_cons_zero, List.set_cons_succ])
    (refine plan_make rfl (by rfl) (fun K hK => ?_); go_simp; (refine (fineS_any X n2 (k : Int) A2 c2 _ HN2 (HX.out.1.keep hBase) hc2 (by omega)).mono ?_; rintro e w3 ⟨rfl, hbx⟩; rw [HXF.out]); refine hK.out _ _ hbx ?_; clear hK K; replace hBase := below_step hBase hbx)
    iterate 2 (refine plan_read rfl (by rfl) (v := ?_) ?_ ?_; rotate_left 1; (intro W hW; have hW0 := below_step hBase hW; (try dsimp only at hW); go_simp <;> with_reducible rfl); simp only [List.getElem_toArray, List.getElem_cons_zero, List.getElem_cons_succ, Act.put, List.setIfInBounds_toArray, List.set_cons_zero, List.set_cons_succ])
    refine plan_done ?_
    clear hs1 hs2 hcut
    have hr2 := HX.out.1.keep hBase
    have hrs := HX.out.2.1.keep hBase
    have hrb := HX.out.2.2.1.keep hBase
    have hB := below_step HX.out.2.2.2 hBase
    clear HX hBase hsum hw2
    have hown0 : (w3.alloc (.cells #[] 5)).ownsRow w3.heap.size 5 1 (.slice (some ⟨w3.heap.size, 0, none⟩) 0 0) 0 [] := World.ownsRow_made w3 #[] 0 (Nat.le_refl _) (by unfold maxLen; omega) rfl
    have hB0 := below_new (Below.refl _ w3) (.cells #[] 5)
    have hrX0 := hr2.keep hB0
    have e2 := HN2.out
    subst e2
    clear HN2
    go_wp2_with (at_builtin; refine wpList_append_rd _ rfl (.tmp 58) (.tmp 59) 22 rfl w3.heap.size 5 i0 (.int .u8 0) 1 Try.underlying22 hi hz0 hz1 hz2 rfl _ _ _ rfl hown0 A2 X c2 rfl hrX0 vB_one (by unfold maxLen; omega) (by omega) (by simp) ?_; intro v4 w4 hown4 hgrow4)
    rw [Nat.zero_add, List.nil_append] at hown4
    have hb4 : Below w3.heap.size w3 w4 := hB0.grown hgrow4 (by simp) (fun k hk => (hown0.lt k hk).1)
    obtain ⟨A4, c4, rfl, hc4⟩ := own_form hown4
    obtain ⟨g4, rfl, hg4, hcel0⟩ := cel_of_own hown4 rfl (by omega)
    have hX0 : 0 < X.length := by omega
    have hXne : X ≠ [] := List.length_pos_iff.1 hX0
    have hXnb : (X == []) = false := beq_eq_false_iff_ne.2 hXne
    clear hown0 hB0 hrX0 hgrow4 hown4
    go_loopw [13] (fun i wr => FinR X k g4 w3 i wr) (fun i _ => k - (intOf i).toNat)
    case atStart => exact ⟨0, X, by omega, rfl, rfl, by rw [dif_self]; omega, hcel0, hb4⟩
    case round =>
      clear hcel0 hb4
      obtain ⟨j, y, hjk, rfl, hy, hd, hcel, hbr⟩ := hrel
      by_cases hall : j < ns ∧ j < nb ∧ j < k
      · obtain ⟨hj1, hj2, hj3⟩ := hall
        have j1 : (j : Int) < (ns : Int) := by omega
        have j2 : (j : Int) < (nb : Int) := by omega
        have j3 : (j : Int) < (k : Int) := by omega
        have j0 : (0 : Int) ≤ (j : Int) := by omega
        have hjs : j < s.length := by rw [HS.out]; exact hj1
        have hjb : j < b.length := by rw [HB.out]; exact hj2
        obtain ⟨gs, os, rfl, hgs, hcs'⟩ := hrs.at hjs
        obtain ⟨gb, ob, rfl, hgb, hcb'⟩ := hrb.at hjb
        have hc1 : wr.cell? ⟨gs, os + j, none⟩ = some (.int .u8 (s[j].toNat : Int)) := (hbr.cell (p := ⟨gs, os + j, none⟩) hgs).trans (hcs' j hjs)
        have hc2' : wr.cell? ⟨gb, ob + j, none⟩ = some (.int .u8 (b[j].toNat : Int)) := (hbr.cell (p := ⟨gb, ob + j, none⟩) hgb).trans (hcb' j hjb)
        have ht := s[j].toNat_lt
        generalize s[j].toNat = t at hc1 ht
        generalize b[j] = z at hc2'
        obtain ⟨q, hq⟩ : ∃ q, q = t % X.length := ⟨_, rfl⟩
        have hqX : q < X.length := by rw [hq]; exact Nat.mod_lt _ hX0
        have hcq : wr.cell? ⟨g4, q, none⟩ = some (.int .u8 ((co y q).toNat : Int)) := hcel.get q (by omega)
        have hfq : wr.frozen? ⟨g4, q, none⟩ = false := hcel.frozen q
        have hx := u8_xor_b (co y q) z
        have hcs2 := hcel.drew.set q (xorB (co y q) z)
        have hd2 := dif_set X y q (xorB (co y q) z)
        generalize xorB (co y q) z = u at hx hcs2 hd2
        generalize co y q = v at hcq hx
        have m1 : (t : Int) % (X.length : Int) = (q : Int) := by rw [hq]; omega
        have m2 : (t : Int).tmod (X.length : Int) = (q : Int) := by rw [Int.tmod_eq_emod_of_nonneg (by omega)]; exact m1
        have m3 : (0 : Int) ≤ (q : Int) := by omega
        have m4 : (q : Int) < (X.length : Int) := by omega
        have m5 : IntKind.i64.wrap (t : Int) = (t : Int) := by rw [IntKind.wrap_i64]; omega
        have m6 : ((X.length : Int) == 0) = false := beq_eq_false_iff_ne.2 (by omega)
        have HREL : Hid (FinR X k g4 w3 (.int .i64 ((j : Int) + 1)) (wr.drew.setCell ⟨g4, q, none⟩ (.int .u8 (u.toNat : Int)))) :=
          ⟨j + 1, y.set q u, by omega, by go_num, by rw [List.length_set]; exact hy, by omega, hcs2, (hbr.drew).setCell (p := ⟨g4, q, none⟩) hg4 _⟩
        clear hcs2 hd2 hd hcel hbr hcs' hcb' hq hj1 hj2 hj3
        go_upto_region 13 with fail
        refine wp_region_still_tail 17 (by kernel_rfl) (by kernel_rfl) ?_
        simp only [List.take_succ_cons, List.take_zero, List.drop_succ_cons, List.drop_zero]
        repeat still_step
        try refine wpStill_nil ?_
        change wpList _ _ _ _ _ wr.drew
        go_wp2_with fail
        go_roundw
        case rel => exact HREL.out
        case measure => simp [intOf] <;> omega
      · have HE := Lib.hid (fine_near X y k h1 h2 hkn hn255 hy HFP.out (by omega))
        have hry := hcel.rd
        have hBw := below_step hB hbr
        have hrX := hr2.keep hbr
        have HYL : Hid (y.length = X.length) := hy
        have HJ := Lib.hid hall
        have HJK := Lib.hid hjk
        have hs1 := strS (c := c2) X.length (Lib.hid rfl) hrX
        have hs2 := strS (c := c4) X.length HYL hry
        generalize hfe : fineS y (k : Int) = E at HE
        have hst := HE.out
        have HFE := Lib.hid hfe
        have HRY := Lib.hid hry
        have HBW := Lib.hid hBw
        clear hcel hd hy hall hrs hrb hr2 hjk hfe hry hBw hrX
        by_cases hj1 : (j : Int) < (ns : Int)
        · by_cases hj2 : (j : Int) < (nb : Int)
          · have hj3 : ¬ (j : Int) < (k : Int) := by have := HJ.out; omega
            go_upto_region 14 with fail
            have hBase := (Below.refl wr.heap.size wr).drew
            refine wp_region_plan (.step 0 false (.step 1 false (.step 2 false (.step 3 false (.step 4 false (.step 5 false (.step 6 false (.step 7 true (.step 8 false (.step 9 false (.nil))))))))))) (by kernel_rfl) (by kernel_rfl) (by rfl) (by kernel_rfl) ?_
            iterate 7 (refine plan_read rfl (by rfl) (v := ?_) ?_ ?_; rotate_left 1; (intro W hW; have hW0 := below_step hBase hW; (try dsimp only at hW); go_simp <;> with_reducible rfl); simp only [List.getElem_toArray, List.getElem_cons_zero, List.getElem_cons_succ, Act.put, List.setIfInBounds_toArray, List.set_cons_zero, List.set_cons_succ])
            (refine plan_make rfl (by rfl) (fun K hK => ?_); go_simp; (refine (fineS_any y X.length (k : Int) _ c4 _ HYL (HRY.out.keep hBase) hc4 (by omega)).mono ?_; rintro e w9 ⟨rfl, hbx⟩; rw [HFE.out]); refine hK.out _ _ hbx ?_; clear hK K; replace hBase := below_step hBase hbx)
            iterate 2 (refine plan_read rfl (by rfl) (v := ?_) ?_ ?_; rotate_left 1; (intro W hW; have hW0 := below_step hBase hW; (try dsimp only at hW); go_simp <;> with_reducible rfl); simp only [List.getElem_toArray, List.getElem_cons_zero, List.getElem_cons_succ, Act.put, List.setIfInBounds_toArray, List.set_cons_zero, List.set_cons_succ])
            refine plan_done ?_
            clear hs1 hs2
            go_wp2_with fail
            go_ret
            exact ⟨rfl, below_step HBW.out hBase⟩
          · skip
            go_upto_region 14 with fail
            have hBase := (Below.refl wr.heap.size wr).drew
            refine wp_region_plan (.step 0 false (.step 1 false (.step 2 false (.step 3 false (.step 4 false (.step 5 false (.step 6 false (.step 7 true (.step 8 false (.step 9 false (.nil))))))))))) (by kernel_rfl) (by kernel_rfl) (by rfl) (by kernel_rfl) ?_
            iterate 7 (refine plan_read rfl (by rfl) (v := ?_) ?_ ?_; rotate_left 1; (intro W hW; have hW0 := below_step hBase hW; (try dsimp only at hW); go_simp <;> with_reducible rfl); simp only [List.getElem_toArray, List.getElem_cons_zero, List.getElem_cons_succ, Act.put, List.setIfInBounds_toArray, List.set_cons_zero, List.set_cons_succ])
            (refine plan_make rfl (by rfl) (fun K hK => ?_); go_simp; (refine (fineS_any y X.length (k : Int) _ c4 _ HYL (HRY.out.keep hBase) hc4 (by omega)).mono ?_; rintro e w9 ⟨rfl, hbx⟩; rw [HFE.out]); refine hK.out _ _ hbx ?_; clear hK K; replace hBase := below_step hBase hbx)
            iterate 2 (refine plan_read rfl (by rfl) (v := ?_) ?_ ?_; rotate_left 1; (intro W hW; have hW0 := below_step hBase hW; (try dsimp only at hW); go_simp <;> with_reducible rfl); simp only [List.getElem_toArray, List.getElem_cons_zero, List.getElem_cons_succ, Act.put, List.setIfInBounds_toArray, List.set_cons_zero, List.set_cons_succ])
            refine plan_done ?_
            clear hs1 hs2
            go_wp2_with fail
            go_ret
            exact ⟨rfl, below_step HBW.out hBase⟩
        · skip
          go_upto_region 14 with fail
          have hBase := (Below.refl wr.heap.size wr).drew
          refine wp_region_plan (.step 0 false (.step 1 false (.step 2 false (.step 3 false (.step 4 false (.step 5 false (.step 6 false (.step 7 true (.step 8 false (.step 9 false (.nil))))))))))) (by kernel_rfl) (by kernel_rfl) (by rfl) (by kernel_rfl) ?_
          iterate 7 (refine plan_read rfl (by rfl) (v := ?_) ?_ ?_; rotate_left 1; (intro W hW; have hW0 := below_step hBase hW; (try dsimp only at hW); go_simp <;> with_reducible rfl); simp only [List.getElem_toArray, List.getElem_cons_zero, List.getElem_cons_succ, Act.put, List.setIfInBounds_toArray, List.set_cons_zero, List.set_cons_succ])
          (refine plan_make rfl (by rfl) (fun K hK => ?_); go_simp; (refine (fineS_any y X.length (k : Int) _ c4 _ HYL (HRY.out.keep hBase) hc4 (by omega)).mono ?_; rintro e w9 ⟨rfl, hbx⟩; rw [HFE.out]); refine hK.out _ _ hbx ?_; clear hK K; replace hBase := below_step hBase hbx)
          iterate 2 (refine plan_read rfl (by rfl) (v := ?_) ?_ ?_; rotate_left 1; (intro W hW; have hW0 := below_step hBase hW; (try dsimp only at hW); go_simp <;> with_reducible rfl); simp only [List.getElem_toArray, List.getElem_cons_zero, List.getElem_cons_succ, Act.put, List.setIfInBounds_toArray, List.set_cons_zero, List.set_cons_succ])
          refine plan_done ?_
          clear hs1 hs2
          go_wp2_with fail
          go_ret
          exact ⟨rfl, below_step HBW.out hBase⟩
end Go.Proofs.Ytfpoedapeoimbaa
