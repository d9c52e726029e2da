/-
  What the reference's call Put of layer 9 answers: checks by a register, which is set place by place. No conditions but those typed.
-/
import Derived.Test.YtfpoedapeoimbaaSolRef2
import Derived.Test.YtfpoedapeoimbaaCel
import Derived.Deep.QuietTactic
namespace Go.Proofs.Ytfpoedapeoimbaa
set_option maxRecDepth 100000
open Go.RowKit
set_option linter.unusedSimpArgs false
set_option linter.unusedVariables false

/-! ### The register, place by place -/
theorem co_zip (a b : List UInt8) (i : Nat) (ha : i < a.length) (hb : i < b.length) : co (List.zipWith addB a b) i = addB (co a i) (co b i) := by
  rw [co_lt _ _ (by rw [List.length_zipWith]; omega), co_lt _ _ ha, co_lt _ _ hb, List.getElem_zipWith]
theorem co_take (l : List UInt8) (n i : Nat) (h : i < n) : co (l.take n) i = co l i := by
  unfold co
  rw [List.getD_eq_getElem?_getD, List.getD_eq_getElem?_getD, List.getElem?_take, if_pos h]
theorem co_map_mul (t : UInt8) (l : List UInt8) (i : Nat) : co (l.map (mulB t)) i = mulB t (co l i) := co_scale t l i
theorem reg_get (g reg : List UInt8) (top : UInt8) (i : Nat) (hi : i + 1 < reg.length) (hg : reg.length ≤ g.length) : co (regL g reg top) (i + 1) = addB (co reg i) (mulB top (co g (i + 1))) := by
  unfold regL
  rw [co_zip _ _ _ (by rw [List.length_cons, List.length_dropLast]; omega) (by rw [List.length_map, List.length_take]; omega), co_succ, co_map_mul, co_take _ _ _ hi, List.dropLast_eq_take, co_take _ _ _ (by omega)]
theorem reg_get0 (g reg : List UInt8) (top : UInt8) (hi : 0 < reg.length) (hg : reg.length ≤ g.length) : co (regL g reg top) 0 = mulB top (co g 0) := by
  unfold regL
  rw [co_zip _ _ _ (by rw [List.length_cons]; omega) (by rw [List.length_map, List.length_take]; omega), co_zero, zero_add, co_map_mul, co_take _ _ _ hi]
def mixL (L R : List UInt8) (k : Nat) : List UInt8 := L.take k ++ R.drop k
theorem mix_length (L R : List UInt8) (k : Nat) (h : L.length = R.length) : (mixL L R k).length = L.length := by
  unfold mixL
  rw [List.length_append, List.length_take, List.length_drop]
  omega
theorem mix_low (L R : List UInt8) (k i : Nat) (hi : i < k) (hk : k ≤ L.length) : co (mixL L R k) i = co L i := by
  unfold mixL co
  rw [List.getD_eq_getElem?_getD, List.getD_eq_getElem?_getD, List.getElem?_append_left (by rw [List.length_take]; omega), List.getElem?_take, if_pos hi]
theorem mix_set (L R : List UInt8) (k : Nat) (h : L.length = R.length) (hk : k < L.length) : (mixL L R (k + 1)).set k (co R k) = mixL L R k := by
  unfold mixL
  have e : L.take (k + 1) = L.take k ++ [L[k]] := List.take_succ_eq_append_getElem hk
  have e2 : R.drop k = R[k]'(by omega) :: R.drop (k + 1) := List.drop_eq_getElem_cons (by omega)
  have hl : (L.take k).length = k := by rw [List.length_take]; omega
  rw [e, e2, List.append_assoc, List.set_append_right _ _ (by omega), hl, Nat.sub_self, co_lt R k (by omega)]
  rfl
theorem mix_all (L R : List UInt8) (h : L.length = R.length) : mixL L R L.length = L := by
  unfold mixL
  rw [List.take_length, List.drop_of_length_le (by omega), List.append_nil]
theorem mix_none (L R : List UInt8) : mixL L R 0 = R := rfl

def InnR (L R : List UInt8) (gr : Nat) (wb : World) (kv : Value) (wx : World) : Prop :=
  ∃ k : Nat, k + 1 ≤ L.length ∧ kv = .int .i64 (k : Int) ∧ Cel wx gr 5 (mixL L R (k + 1)) ∧ Below wb.heap.size wb wx
def PutR (d G : List UInt8) (n gr : Nat) (wb : World) (iv : Value) (wr : World) : Prop :=
  ∃ j : Nat, j ≤ d.length ∧ iv = .int .i64 (j : Int) ∧ Cel wr gr 5 (runL G n (d.take j)) ∧ Below wb.heap.size wb wr
def twoC (p q : Addr) (a b : Value) (W : World) : Prop := W.cell? p = some a ∧ W.cell? q = some b
theorem run_take (G d : List UInt8) (n j : Nat) (h : j < d.length) : runL G n (d.take (j + 1)) = regL G (runL G n (d.take j)) (xorB (co d j) (co (runL G n (d.take j)) (n - 1))) := by
  rw [List.take_succ_eq_append_getElem h, run_snoc, co_lt d j h]
  rfl

set_option maxHeartbeats 4000000 in
theorem refputS_any (d : List UInt8) (len n : Nat) (A : Option Addr) (c : Nat) (w : World) (HN : Hid (d.length = len)) (hr : Rd vB w A d) (h1 : 1 ≤ n) (h2 : n ≤ 64) (hl : len ≤ 100000) :
    Calls Try.prog 15 #[.slice A len c, .int .i64 (n : Int)] w (RetQ w (putS d n)) := by
  obtain ⟨i0, hi, hz0, hz1, hz2⟩ := info_parts info_u8
  have e1 := HN.out
  subst e1
  go_enter Try.func15, Try.ntmps15
  go_wp2_with fail
  refine (refgen_any n _ h2).mono ?_
  rintro e w1 ⟨AG, ng, cg, rfl, HG, hcg, hrg, hb1⟩
  have HPS : Hid (putS d n = d ++ (runL (genL n) n d).reverse) := rfl
  have hng : ng = n + 1 := by rw [← HG.out, (gen_is n).1]
  generalize genL n = G at HG hrg HPS
  subst hng
  replace hr := hr.keep hb1
  have HB1 := Lib.hid hb1
  clear hb1
  go_wp2_with (at_make; refine wpList_make_full _ rfl _ _ 22 rfl w1.heap.size 5 i0 (.int .u8 0) 1 Try.underlying22 hi hz0 hz1 .i64 .i64 _ _ n rfl rfl rfl rfl (by rw [hz2]; omega) (by unfold maxLen; omega) (Nat.le_refl _) ?_; intro w0 hown0 hgrow0)
  have hown1 : w0.ownsRow w1.heap.size 5 1 (.slice (some ⟨w1.heap.size, 0, none⟩) n n) n ((List.replicate n (0 : UInt8)).map vB) := by
    have e0 : (List.replicate n (Value.int .u8 0)) = (List.replicate n (0 : UInt8)).map vB := by
      rw [List.map_replicate]
      rfl
    rw [← e0]
    have := hown0
    rw [Nat.mul_one] at this
    have e : (Value.int .u8 0).cells = #[.int .u8 0] := rfl
    rw [e, toList_madeCells_one] at this
    exact this
  obtain ⟨g1, hg1, _, hcel0⟩ := cel_of_own hown1 List.length_replicate (by omega)
  have eg : w1.heap.size = g1 := by injection hg1 with hg1; injection hg1
  have hB0 : Below w1.heap.size w1 w0 := (Below.refl _ _).grown hgrow0 (Nat.le_refl _) (by simp)
  have hgr : w1.heap.size ≤ g1 := by omega
  rw [eg]
  clear hown0 hgrow0 hown1 hg1 eg
  have hGl : ∀ e : List UInt8, (runL G n e).length = n := fun e => run_length G n h1 (by rw [HG.out]; omega) e
  have HGL := Lib.hid hGl
  clear hGl
  obtain ⟨bG, oG, rfl, hbG, hcG⟩ := hrg.at (show 0 < G.length by rw [HG.out]; omega)
  have hcG' : ∀ i, i < n + 1 → w1.cell? ⟨bG, oG + i, none⟩ = some (.int .u8 ((co G i).toNat : Int)) := fun i hi => by
    have hi' : i < G.length := by rw [HG.out]; exact hi
    rw [co_lt G i hi']
    exact hcG i hi'
  have HCG := Lib.hid hcG'
  clear hcG hcG' hrg
  go_loopw [7] (fun i wr => PutR d G n g1 w1 i wr) (fun i _ => d.length - (intOf i).toNat)
  case atStart => exact ⟨0, Nat.zero_le _, rfl, hcel0, hB0⟩
  case round =>
    clear hcel0 hB0
    obtain ⟨j, hj, rfl, hcel, hB⟩ := hrel
    by_cases h : j < d.length
    · have HRN := Lib.hid (run_take G d n j h)
      have hLl := HGL.out (d.take j)
      generalize runL G n (d.take j) = L at HRN hLl hcel
      obtain ⟨b, o, rfl, hb, hcell⟩ := hr.at h
      have hc0 : wr.cell? ⟨b, o + j, none⟩ = some (.int .u8 ((co d j).toNat : Int)) := by rw [co_lt d j h]; exact (hB.cell (p := ⟨b, o + j, none⟩) hb).trans (hcell j h)
      have hc1 := hcel.get (n - 1) (by omega)
      have hx1 := u8_xor_b (co d j) (co L (n - 1))
      generalize co d j = x at hc0 hx1 HRN
      generalize co L (n - 1) = y at hc1 hx1 HRN
      generalize xorB x y = top at hx1 HRN
      obtain ⟨m, hm⟩ : ∃ m, n = m + 1 := ⟨n - 1, by omega⟩
      rw [show n - 1 = m by omega] at hc1
      have hnm : (n : Int) - 1 = (m : Int) := by omega
      have hmn : (m : Int) < (n : Int) := by omega
      have mw : IntKind.i64.wrap (m : Int) = (m : Int) := by rw [IntKind.wrap_i64]; omega
      have HMN := Lib.hid hm
      clear hm
      have j1 : (j : Int) < (d.length : Int) := by omega
      have j0 : (0 : Int) ≤ (j : Int) := by omega
      have m0 : (0 : Int) ≤ (m : Int) := by omega
      have HRL : Hid ((regL G L top).length = L.length) := reg_length G L top (by intro e; rw [e] at hLl; rw [List.length_nil] at hLl; omega) (by rw [HG.out]; omega)
      have HR0 : Hid (co (regL G L top) 0 = mulB top (co G 0)) := reg_get0 G L top (by omega) (by rw [HG.out]; omega)
      have HRI : Hid (∀ i, i + 1 < L.length → co (regL G L top) (i + 1) = xorB (co L i) (mulB top (co G (i + 1)))) := fun i hi => reg_get G L top i hi (by rw [HG.out]; omega)
      generalize regL G L top = R at HRN HRL HR0 HRI
      clear hcell
      go_wp2_with fail
      go_quiet (fail)
      have hBd : Below w1.heap.size w1 (wr.drewN nq) := below_drewN hB nq
      have hceld : Cel (wr.drewN nq) g1 5 L := hcel.later (below_drewN (Below.refl _ _) nq)
      clear hc0 hc1 hcel hB
      generalize wr.drewN nq = wq at hBd hceld ⊢
      go_wp2_with fail
      go_loopw [9] (fun k wx => InnR L R g1 w1 k wx) (fun k _ => (intOf k).toNat)
      case atStart => exact ⟨m, by have := HMN.out; omega, rfl, by rw [show m + 1 = L.length by have := HMN.out; omega, mix_all L R (by rw [HRL.out])]; exact hceld, hBd⟩
      case round =>
        clear hBd hceld
        obtain ⟨k, hk, rfl, hcel, hB⟩ := hrel
        have hlR := HRL.out
        by_cases hk0 : k = 0
        · subst hk0
          have hcs := hcel.set 0 (co R 0)
          rw [show (0 : Nat) + 1 = 0 + 1 from rfl, mix_set L R 0 (by omega) (by omega), mix_none] at hcs
          have hg0 : wr.cell? ⟨bG, oG, none⟩ = some (.int .u8 ((co G 0).toNat : Int)) := (hB.cell (p := ⟨bG, oG, none⟩) hbG).trans (HCG.out 0 (by omega))
          have hr0 := hcel.get 0 (by rw [mix_length _ _ _ hlR.symm]; omega)
          have hf0 := hcel.frozen 0
          have HR00 := Lib.hid (HR0.out)
          generalize co G 0 = y0 at hg0 HR00
          generalize co R 0 = z0 at hcs HR00
          generalize co (mixL L R (0 + 1)) 0 = q0 at hr0
          have HCS := Lib.hid hcs
          have HBs := Lib.hid (hB.setCell (p := ⟨g1, 0, none⟩) hgr (.int .u8 (z0.toNat : Int)))
          clear hcs hcel
          go_wp2_with fail
          refine (refmul_any top y0 _).mono ?_
          rintro e w' ⟨rfl, rfl⟩
          rw [← HR00.out]
          go_wp2_with fail
          go_roundw
          case rel => exact ⟨j + 1, h, by go_num, by rw [HRN.out]; exact HCS.out, HBs.out⟩
          case measure => simp [intOf] <;> omega
        · obtain ⟨q, hq⟩ : ∃ q, k = q + 1 := ⟨k - 1, by omega⟩
          have hkq : (k : Int) - 1 = (q : Int) := by omega
          have qw : IntKind.i64.wrap (q : Int) = (q : Int) := by rw [IntKind.wrap_i64]; omega
          have k0 : (0 : Int) < (k : Int) := by omega
          have k1 : (0 : Int) ≤ (k : Int) := by omega
          have kn : (k : Int) < (n : Int) := by omega
          have kn1 : (k : Int) < (n : Int) + 1 := by omega
          have q0 : (0 : Int) ≤ (q : Int) := by omega
          have qn : (q : Int) < (n : Int) := by omega
          have hgk : wr.cell? ⟨bG, oG + k, none⟩ = some (.int .u8 ((co G k).toNat : Int)) := (hB.cell (p := ⟨bG, oG + k, none⟩) hbG).trans (HCG.out k (by omega))
          have hrq := hcel.get q (by rw [mix_length _ _ _ hlR.symm]; omega)
          rw [mix_low L R (k + 1) q (by omega) (by omega)] at hrq
          have hrk := hcel.get k (by rw [mix_length _ _ _ hlR.symm]; omega)
          have hfk := hcel.frozen k
          have hcs := hcel.set k (co R k)
          rw [mix_set L R k (by omega) (by omega)] at hcs
          have hval : co R k = xorB (co L q) (mulB top (co G k)) := by rw [hq]; exact HRI.out q (by omega)
          generalize co R k = z at hcs hval
          generalize co (mixL L R (k + 1)) k = zz at hrk
          generalize co G k = yk at hgk hval
          generalize co L q = xq at hrq hval
          have hxr := u8_xor_b xq (mulB top yk)
          rw [← hval] at hxr
          have HREL : Hid (InnR L R g1 w1 (.int .i64 (q : Int)) (wr.drew.setCell ⟨g1, k, none⟩ (.int .u8 (z.toNat : Int)))) :=
            ⟨q, by omega, rfl, by rw [← hq]; exact hcs.drew, (hB.drew).setCell (p := ⟨g1, k, none⟩) hgr _⟩
          have HZ := Lib.hid hq
          clear hcs hcel hB hq hval
          go_wp2_with fail
          have hS : twoC ⟨g1, q, none⟩ ⟨bG, oG + k, none⟩ (.int .u8 (xq.toNat : Int)) (.int .u8 (yk.toNat : Int)) wr.drew := ⟨hrq, hgk⟩
          have hrk' : wr.drew.cell? ⟨g1, k, none⟩ = some (.int .u8 (zz.toNat : Int)) := hrk
          have hfk' : wr.drew.frozen? ⟨g1, k, none⟩ = false := hfk
          refine wp_region_plan_of (twoC ⟨g1, q, none⟩ ⟨bG, oG + k, none⟩ (.int .u8 (xq.toNat : Int)) (.int .u8 (yk.toNat : Int))) (.step 0 false (.step 1 false (.step 2 false (.step 3 false (.step 4 false (.step 5 false (.step 6 false (.step 7 false (.step 8 false (.step 9 false (.step 10 false (.step 11 false (.step 12 true (.step 13 false (.step 14 false (.step 15 true (.nil))))))))))))))))) hS (by kernel_rfl) (by kernel_rfl) (by rfl) (by kernel_rfl) ?_
          clear hrk hfk hrq hgk
          generalize wr.drew = wv at *
          iterate 12 (refine plan_read rfl (by rfl) (v := ?_) ?_ ?_; rotate_left 1; (intro W hW; (try dsimp only at hW); obtain ⟨hW0, hW1⟩ := hW; go_simp <;> with_reducible rfl); simp only [List.getElem_toArray, List.getElem_cons_zero, List.getElem_cons_succ, Act.put, List.setIfInBounds_toArray, List.set_cons_zero, List.set_cons_succ])
          (refine plan_make_of rfl (by rfl) (fun K hK => ?_); go_simp; (refine (refmul_any top yk _).mono ?_; rintro e w' ⟨rfl, rfl⟩); refine hK.out _ _ hS ?_; clear hK K)
          iterate 2 (refine plan_read rfl (by rfl) (v := ?_) ?_ ?_; rotate_left 1; (intro W hW; (try dsimp only at hW); obtain ⟨hW0, hW1⟩ := hW; go_simp <;> with_reducible rfl); simp only [List.getElem_toArray, List.getElem_cons_zero, List.getElem_cons_succ, Act.put, List.setIfInBounds_toArray, List.set_cons_zero, List.set_cons_succ])
          refine plan_make_of rfl (by rfl) (fun K hK => ?_)
          go_simp
          refine hK.out _ _ ⟨(World.cell?_setCell_other _ _ _ _ (by intro e; injection e with _ e2; omega)).trans hS.1, (World.cell?_setCell_other _ _ _ _ (by intro e; injection e with e1; omega)).trans hS.2⟩ ?_
          clear hK K
          refine plan_done ?_
          clear hS hrk' hfk' hxr
          go_wp2_with fail
          go_roundw
          case rel => exact HREL.out
          case measure => simp [intOf] <;> omega
    · have ej : j = d.length := by omega
      subst ej
      rw [List.take_length] at hcel
      have HLR := Lib.hid (HGL.out d)
      generalize runL G n d = R at hcel HLR HPS
      have hrR := hcel.rd
      have hb12 := HB1.out
      have hbw := below_step hb12 hB
      have hrd := hr.keep hB
      have j1 : ¬ (d.length : Int) < (d.length : Int) := by omega
      have hown0 : (wr.alloc (.cells #[] 5)).ownsRow wr.heap.size 5 1 (.slice (some ⟨wr.heap.size, 0, none⟩) 0 0) 0 [] := World.ownsRow_made wr #[] 0 (Nat.le_refl _) (by unfold maxLen; omega) rfl
      have hB0 := below_new (Below.refl _ wr) (.cells #[] 5)
      have hrd0 := hrd.keep hB0
      clear hcel hB hr hrd HGL HCG
      go_wp2_with (at_builtin; refine wpList_append_rd _ rfl (.tmp 58) (.tmp 59) 22 rfl wr.heap.size 5 i0 (.int .u8 0) 1 Try.underlying22 hi hz0 hz1 hz2 rfl _ _ _ rfl hown0 A d c rfl hrd0 vB_one (by unfold maxLen; omega) (by omega) (by simp) ?_; intro v1 w3 hown3 hgrow3)
      rw [Nat.zero_add, List.nil_append] at hown3
      have hb3 : Below wr.heap.size wr w3 := hB0.grown hgrow3 (by simp) (fun k hk => (hown0.lt k hk).1)
      have hrR3 := hrR.keep hb3
      clear hrR
      clear hgrow3 hown0 hB0 hrd0
      refine (refturned_any R n _ n _ HLR hrR3 (by omega)).mono ?_
      rintro e w4 ⟨A4, n4, c4, rfl, HN4, hc4, hr4, hb4⟩
      have HLR2 : Hid (R.reverse.length = n) := by unfold Hid; rw [List.length_reverse, HLR.out]
      generalize R.reverse = T at HN4 hr4 HPS HLR2
      have e4 := HN4.out
      subst e4
      have hown4 := ownsRow_later hown3 hb4
      have hb34 := below_step hb3 hb4
      have hsz4 := hb34.size
      have hszw := hbw.size
      clear hown3 hb3 hb4 hrR3
      go_wp2_with (at_builtin; refine wpList_append_rd _ rfl (.tmp 60) (.tmp 62) 22 rfl wr.heap.size 5 i0 (.int .u8 0) 1 Try.underlying22 hi hz0 hz1 hz2 rfl _ _ _ rfl hown4 A4 T c4 rfl hr4 vB_one (by have := HLR2.out; unfold maxLen; omega) (by have := HLR2.out; omega) (by omega) ?_; intro v5 w5 hown5 hgrow5)
      go_ret
      have hB5 : Below wr.heap.size wr w5 := hb34.grown hgrow5 (by omega) (fun k hk => (hown4.lt k hk).1)
      rw [← List.map_append, ← HPS.out] at hown5
      exact RetQ.own (by rw [HPS.out, List.length_append]) hown5 (below_step hbw hB5)
end Go.Proofs.Ytfpoedapeoimbaa
