/-
  The law of layer 20 that opens a shelf again and again (landed code). Condition: the package's table holds the sixty-four constants.
-/
import Derived.Test.YteppocjgodmpdaaGreatDoorQO13
import Derived.Test.YteppocjgodmpdaaGreatDoorRows
import Derived.Lib.LaidTab
import Derived.MakeChecks
set_option linter.unusedSimpArgs false
set_option linter.unusedVariables false
set_option maxRecDepth 100000
namespace Go.Proofs.YteppocjgodmpdaaGreatDoor
open Go.RowKit
theorem Row.ne_byte {w : World} {g o : Nat} {x : WD} {D : DK} {k : Int} {t : TypeId} (h : Row w g t (lD x D)) (e : w.cell? ⟨g, o, none⟩ = some (.int .u8 k)) : False := by
  rw [h.cell?] at e
  match o, e with
  | 0, e => simp at e
  | 1, e => simp at e
  | 2, e => simp at e
  | 3, e => simp at e
  | 4, e => simp at e
  | 5, e => simp at e
  | 6, e => simp at e
  | o + 7, e => simp at e
theorem cell_only {g b o : Nat} {w W : World} {v : Value} (k : Only g w W) (h : b ≠ g) (e : w.cell? ⟨b, o, none⟩ = some v) : W.cell? ⟨b, o, none⟩ = some v := (World.cell?_of_block (w := w) (a := ⟨b, o, none⟩) (k.other b h (World.block_lt_of_cell? w _ e))).trans e
theorem rise_lens {d : DK} (h : (riseD d).2 = 0) : d.a0.b.length ≤ 70368744177664 ∧ d.a1.b.length ≤ 70368744177664 := by
  unfold riseD at h
  split at h
  · exact absurd h (by show ¬ (1 : Int) = 0; decide)
  · rename_i hh
    have hr := (Classical.not_not.1 hh).1
    have h1 := hr.1.2.2
    have h2 := hr.2.1.2.2
    exact ⟨by omega, by omega⟩
theorem InD.setFD {w : World} {x : WD} {D : DK} (h : InD w x D) (fu ke : Int) : InD w x (setFD D fu ke) := ⟨h.l0, h.h0, h.r0, h.l1, h.h1, h.r1⟩
def idxS (b1 o1 b2 o2 : Nat) (v1 v2 : Value) (W : World) : Prop := W.cell? ⟨b1, o1, none⟩ = some v1 ∧ W.cell? ⟨b2, o2, none⟩ = some v2
def OpL [Inhabited Tab] (w : World) (x : WS) (s : ShK) (g7 n1 : Nat) (iv : Value) (wr : World) : Prop :=
  ∃ (i : Nat) (y : WD) (D : DK), iv = .int .i64 (i : Int) ∧ i ≤ n1 ∧ Row wr w.heap.size 39 (lS x s) ∧ Row wr g7 27 (lD y D) ∧ InS wr x s ∧ InD wr y D ∧ OffD g7 (g7 + 1) y ∧ (∃ n, OpI fS D n s.m ∧ s.num ≤ n ∧ n ≤ s.num + i) ∧ Below w.heap.size w wr
set_option maxHeartbeats 16000000 in
theorem shelfopens_walk [Inhabited Tab] (x : WS) (s : ShK) (Fl Kl : List UInt8) (n1 c1 n2 c2 : Nat) (A1 A2 : Option Addr) (w : World) (h : PreS w x s) (hnum : s.num < 18446744073709551616) (HF : Hid (Fl.length = n1)) (hr1 : Rd vB w A1 Fl) (HG : Hid (Kl.length = n2)) (hr2 : Rd vB w A2 Kl) (hn1 : n1 ≤ 9223372036854775807) (hn2 : n2 ≤ 9223372036854775807) (HK : Hid (KTab w)) :
    Calls Tryz.prog 6 #[aggS x s, .slice A1 n1 c1, .slice A2 n2 c2] w fun e w' => e = .returned (.bool true) ∧ Below w.heap.size w w' := by
  obtain ⟨hR3, hB⟩ := box_of w 39 (lS x s) _ rfl
  have HP := Lib.hid (fun W (hb : Below w.heap.size w W) => h.keep hb)
  have HKT := Lib.hid (fun W (hb : Below w.heap.size w W) => HK.out.keep hb)
  have HR1 := Lib.hid (fun W (hb : Below w.heap.size w W) => hr1.keep hb)
  have HR2 := Lib.hid (fun W (hb : Below w.heap.size w W) => hr2.keep hb)
  have HAW := Lib.hid (fun W (hb : Below w.heap.size w W) => awake20_any W (Lib.hid (HK.out.keep hb)))
  clear h hr1 hr2 HK
  unfold aggS
  go_enter Tryz.func6, Tryz.ntmps6
  go_upto_region 1 with fail
  generalize (w.alloc (.cells (lS x s).toArray 39)) = W0 at hR3 hB ⊢
  go_wp2_with fail
  refine (HAW.out _ hB).mono ?_
  rintro e w1 ⟨rfl, hb⟩
  replace hR3 := hR3.later hb
  replace hB := below_step hB hb
  clear hb HAW
  have hsh := refshort20_any x s w1 (HP.out _ hB)
  unfold aggS at hsh
  have HSH := Lib.hid hsh
  clear hsh
  go_wp2_with (refine wpList_load_part rfl 39 (.tmp 3) rfl (w.heap.size) 0 rfl _ _ (hR3) ((lS x s)) (by rfl) _ Tryz.underlying39 rfl (by exact size_shelf) ?_)
  refine HSH.out.mono ?_
  rintro e w2 ⟨r, rfl, HQ, hb⟩
  replace hR3 := hR3.later hb
  replace hB := below_step hB hb
  clear hb HSH
  cases r with
  | false =>
    go_wp2_with fail
    go_ret
    exact ⟨rfl, hB⟩
  | true =>
    have hshort := HQ.out.1 rfl
    have hx := (HP.out _ hB).ins hshort
    have hd0 := hshort.1.1
    have hd1 := hshort.1.2
    clear HQ HP hshort
    by_cases h10 : 10 < n1
    · have i1 : (10 : Int) < (n1 : Int) := by omega
      go_wp2_with fail
      go_ret
      exact ⟨rfl, hB⟩
    · have i1 : ¬ (10 : Int) < (n1 : Int) := by omega
      by_cases h21 : n2 < n1
      · have i2 : (n2 : Int) < (n1 : Int) := by omega
        go_wp2_with fail
        go_ret
        exact ⟨rfl, hB⟩
      · have i2 : ¬ (n2 : Int) < (n1 : Int) := by omega
        have hrt := rightsh_any x s w2 hx (by omega) (by omega) hnum (Lib.hid (HKT.out _ hB))
        unfold aggS at hrt
        have HRT := Lib.hid hrt
        clear hrt
        have a0 := hR3.cell (i := 0) rfl
        have a1 := hR3.cell (i := 1) rfl
        have a2 := hR3.cell (i := 2) rfl
        have a3 := hR3.cell (i := 3) rfl
        have a4 := hR3.cell (i := 4) rfl
        have a5 := hR3.cell (i := 5) rfl
        have a6 := hR3.cell (i := 6) rfl
        have a7 := hR3.cell (i := 7) rfl
        have a8 := hR3.cell (i := 8) rfl
        have a9 := hR3.cell (i := 9) rfl
        have a10 := hR3.cell (i := 10) rfl
        have a11 := hR3.cell (i := 11) rfl
        have a12 := hR3.cell (i := 12) rfl
        have a13 := hR3.cell (i := 13) rfl
        have a14 := hR3.cell (i := 14) rfl
        have a15 := hR3.cell (i := 15) rfl
        go_wp2_with fail
        refine HRT.out.mono ?_
        rintro e w3 ⟨r, rfl, HQ, hb⟩
        replace hR3 := hR3.later hb
        replace hx := hx.keep hb
        replace hB := below_step hB hb
        clear hb HRT a0 a1 a2 a3 a4 a5 a6 a7 a8 a9 a10 a11 a12 a13 a14 a15
        cases r with
        | false =>
          go_wp2_with fail
          go_ret
          exact ⟨rfl, hB⟩
        | true =>
          have HRS := Lib.hid (HQ.out.1 rfl)
          clear HQ
          have a8 := hR3.cell (i := 8) rfl
          by_cases hbig : 1152921504606846976 < s.num
          · have i3 : decide ((1152921504606846976 : Int) < (s.num : Int)) = true := decide_eq_true (by omega)
            clear hbig
            go_wp2_with fail
            go_ret
            exact ⟨rfl, hB⟩
          · have i3 : decide ((1152921504606846976 : Int) < (s.num : Int)) = false := decide_eq_false (by omega)
            have HBIG : Hid (s.num ≤ 1152921504606846976) := Nat.le_of_not_lt hbig
            clear hbig
            go_upto_region 5 with fail
            clear a8 i1 i2 i3
            obtain ⟨hR7, hBn⟩ := box_of w3 27 l0D _ rfl
            go_upto_region 6 with (first
              | (refine wpList_load_part rfl 27 (.tmp 42) rfl (w.heap.size) 0 rfl _ _ (hR3) ((lD x.d s.d)) (by rfl) _ Tryz.underlying27 rfl (by exact size_disk) ?_)
              | (refine wpList_store_row rfl 27 (.tmp 7) (.tmp 43) rfl (w3.heap.size) rfl ((lD x.d s.d)) rfl _ _ (hR7) (by exact size_disk) rfl (one_disk x.d s.d) ?_))
            replace hR7 := hR7.setRow (lD x.d s.d)
            have hbn := below_setRow hBn (Nat.le_refl _) (lD x.d s.d).toArray
            have hg7 : w.heap.size < w3.heap.size := hR3.lt
            have hoy : OffD w3.heap.size (w3.heap.size + 1) x.d := hx.id.off _
            have hoS : OffS w3.heap.size (w3.heap.size + 1) x := hx.off _
            clear hBn
            generalize (w3.alloc (.cells l0D.toArray 27)).setRow w3.heap.size (lD x.d s.d).toArray = w4 at hR7 hbn ⊢
            replace hR3 := hR3.later hbn
            replace hx := hx.keep hbn
            replace hB := below_step hB hbn
            clear hbn
            generalize w3.heap.size = g7 at hR7 hg7 hoy hoS ⊢
            have f4 := hR7.frozen 4
            have c4 : w4.cell? ⟨g7, 4, none⟩ = some (.int .i64 s.d.fuse) := hR7.cell rfl
            have hO := (Only.refl g7 w4).setCell 4 (.int .i64 (-1))
            go_upto_region 7 with fail
            replace hR7 := hR7.setCell 4 (.int .i64 (-1))
            replace hR3 := hR3.only hO (by omega)
            replace hx := hx.at_only hO hoS (Nat.le_refl _) (Nat.lt_succ_self _)
            replace hB := hB.trans (hO.below.mono (by omega))
            clear f4 c4 hO
            generalize w4.setCell ⟨g7, 4, none⟩ (.int .i64 (-1)) = w5 at *
            have HSTART : Hid (OpL w x s g7 n1 (.int .i64 0) w5) := ⟨0, x.d, setFD s.d (-1) s.d.keep, rfl, Nat.zero_le _, hR3, hR7, hx, hx.id.setFD _ _, hoy, ⟨s.num, by
              obtain ⟨k, a, o, z, fu, ke, hd, hA⟩ := OpI.of HRS.out
              exact ⟨k, a, o, z, -1, s.d.keep, by rw [hd, setFD_mk], hA⟩, Nat.le_refl _, Nat.le_refl _⟩, hB⟩
            have HXO := Lib.hid hoS
            clear hR3 hR7 hx hB hoy hoS
            go_wp2_with fail
            go_loopw [8] (fun i wr => OpL w x s g7 n1 i wr) (fun i _ => n1 - (intOf i).toNat)
            case atStart => exact HSTART.out
            case round =>
              clear HSTART
              obtain ⟨i, y, D, rfl, hi, hR3, hR7, hx, hy, hoy, ⟨n, hop, hN1, hN2⟩, hB⟩ := hrel
              by_cases hlt : i < n1
              · have hk1 : i < Fl.length := by rw [HF.out]; exact hlt
                have hk2 : i < Kl.length := by rw [HG.out]; omega
                obtain ⟨b1, o1, rfl, hb1, hcell1⟩ := (HR1.out _ hB).at hk1
                obtain ⟨b2, o2, rfl, hb2, hcell2⟩ := (HR2.out _ hB).at hk2
                have e1 := hcell1 i hk1
                have e2 := hcell2 i hk2
                clear hcell1 hcell2
                obtain ⟨fb, hfb⟩ : ∃ q, Fl[i] = q := ⟨_, rfl⟩
                obtain ⟨kb, hkb⟩ : ∃ q, Kl[i] = q := ⟨_, rfl⟩
                rw [hfb] at e1
                rw [hkb] at e2
                clear hfb hkb
                unfold vB at e1 e2
                have i2 : (0 : Int) ≤ (i : Int) := by omega
                have i3 : (i : Int) < (n1 : Int) := by omega
                have i4 : (i : Int) < (n2 : Int) := by omega
                have hfl := fb.toNat_lt
                have hkl := kb.toNat_lt
                have hw1 : IntKind.i64.wrap (10 * (kb.toNat : Int)) = 10 * (kb.toNat : Int) := by rw [IntKind.wrap_i64]; omega
                have hw2 : IntKind.i64.wrap (kb.toNat : Int) = (kb.toNat : Int) := by rw [IntKind.wrap_i64]; omega
                have hw3 : IntKind.i64.wrap (fb.toNat : Int) = (fb.toNat : Int) := by rw [IntKind.wrap_i64]; omega
                go_upto_region 10 with fail
                have hS : idxS b1 (o1 + i) b2 (o2 + i) (.int .u8 (fb.toNat : Int)) (.int .u8 (kb.toNat : Int)) wr.drew := ⟨e1, e2⟩
                replace hR3 := hR3.drew
                replace hR7 := hR7.drew
                replace hx := hx.keep ((Below.refl _ wr).drew)
                replace hy := hy.keep ((Below.refl _ wr).drew)
                replace hB := hB.drew
                have hbb1 : b1 ≠ g7 := by
                  rintro rfl
                  exact hR7.ne_byte hS.1
                have hbb2 : b2 ≠ g7 := by
                  rintro rfl
                  exact hR7.ne_byte hS.2
                have hxo : OffS g7 (g7 + 1) x := HXO.out
                clear e1 e2 hb1 hb2
                refine wp_region_plan_of (idxS b1 (o1 + i) b2 (o2 + i) (.int .u8 (fb.toNat : Int)) (.int .u8 (kb.toNat : Int))) (.step 0 false (.step 1 false (.step 2 false (.step 3 false (.step 4 false (.step 5 false (.step 6 false (.step 7 false (.step 8 false (.step 9 false (.step 10 false (.step 11 false (.step 12 true (.step 13 false (.step 14 true (.nil)))))))))))))))) hS (by kernel_rfl) (by kernel_rfl) (by rfl) (by kernel_rfl) ?_
                generalize wr.drew = wv at *
                iterate 12 (refine plan_read rfl (by rfl) (v := ?_) ?_ ?_; rotate_left 1; (rintro W ⟨hW0, hW1⟩; go_simp <;> with_reducible rfl); simp only [pA, pB, pC, Act.put, pD, pE, pF])
                have f4 := hR7.frozen 4
                have c4 : wv.cell? ⟨g7, 4, none⟩ = some (.int .i64 D.fuse) := hR7.cell rfl
                have hO := (Only.refl g7 wv).setCell 4 (.int .i64 (fb.toNat : Int))
                have hS2 : idxS b1 (o1 + i) b2 (o2 + i) (.int .u8 (fb.toNat : Int)) (.int .u8 (kb.toNat : Int)) (wv.setCell ⟨g7, 4, none⟩ (.int .i64 (fb.toNat : Int))) := ⟨(cell_only hO hbb1 hS.1), (cell_only hO hbb2 hS.2)⟩
                clear hS
                refine plan_make_of rfl (by rfl) (fun K' hK => ?_)
                go_simp
                refine hK.out _ _ hS2 ?_
                clear hK K' f4 c4
                replace hR7 := hR7.setCell 4 (.int .i64 (fb.toNat : Int))
                replace hR3 := hR3.only hO (by omega)
                replace hx := hx.at_only hO hxo (Nat.le_refl _) (Nat.lt_succ_self _)
                replace hy := hy.at_only hO hoy (Nat.le_refl _) (Nat.lt_succ_self _)
                replace hB := hB.trans (hO.below.mono (by omega))
                clear hO
                generalize wv.setCell ⟨g7, 4, none⟩ (.int .i64 (fb.toNat : Int)) = wv2 at *
                (try simp only [pA, pB, pC, Act.put, pD, pE, pF])
                iterate 1 (refine plan_read rfl (by rfl) (v := ?_) ?_ ?_; rotate_left 1; (rintro W ⟨hW0, hW1⟩; go_simp <;> with_reducible rfl); simp only [pA, pB, pC, Act.put, pD, pE, pF])
                have f5 := hR7.frozen 5
                have c5 : wv2.cell? ⟨g7, 5, none⟩ = some (.int .i64 D.keep) := hR7.cell rfl
                have hO := (Only.refl g7 wv2).setCell 5 (.int .i64 (10 * (kb.toNat : Int)))
                have hS3 : idxS b1 (o1 + i) b2 (o2 + i) (.int .u8 (fb.toNat : Int)) (.int .u8 (kb.toNat : Int)) (wv2.setCell ⟨g7, 5, none⟩ (.int .i64 (10 * (kb.toNat : Int)))) := ⟨(cell_only hO hbb1 hS2.1), (cell_only hO hbb2 hS2.2)⟩
                clear hS2
                refine plan_make_of rfl (by rfl) (fun K' hK => ?_)
                go_simp
                refine hK.out _ _ hS3 ?_
                clear hK K' f5 c5 hS3
                replace hR7 := hR7.setCell 5 (.int .i64 (10 * (kb.toNat : Int)))
                replace hR3 := hR3.only hO (by omega)
                replace hx := hx.at_only hO hxo (Nat.le_refl _) (Nat.lt_succ_self _)
                replace hy := hy.at_only hO hoy (Nat.le_refl _) (Nat.lt_succ_self _)
                replace hB := hB.trans (hO.below.mono (by omega))
                clear hO
                generalize wv2.setCell ⟨g7, 5, none⟩ (.int .i64 (10 * (kb.toNat : Int))) = wo at *
                (try simp only [pA, pB, pC, Act.put, pD, pE, pF])
                refine plan_done ?_
                clear hw1 hw2 hw3 i2 i3 i4 hbb1 hbb2
                obtain ⟨P, hP⟩ : ∃ P, openK fS (setFD D (fb.toNat : Int) (10 * (kb.toNat : Int))) 5 = P := ⟨_, rfl⟩
                have hst := OpI.step fS_length hop (by have := HBIG.out; omega) (fu := (fb.toNat : Int)) (ke := 10 * (kb.toNat : Int)) (by omega) (by omega)
                have hkeep := openK_keep fS (setFD D (fb.toNat : Int) (10 * (kb.toNat : Int))) 5
                rw [hP] at hst hkeep
                have hop20 := open20_any y (setFD D (fb.toNat : Int) (10 * (kb.toNat : Int))) 5 wo (hy.setFD _ _) ⟨by have := hop.lens.1; show D.a0.b.length ≤ _; omega, by have := hop.lens.2; show D.a1.b.length ≤ _; omega, by show (fb.toNat : Int) ≤ _; omega, by show 10 * (kb.toNat : Int) ≤ _; omega⟩ (Lib.hid (HKT.out _ hB))
                rw [hP] at hop20
                unfold aggD at hop20
                have HOP := Lib.hid hop20
                have HST := Lib.hid hst
                clear hop20 hst hP hop hy hoy hkeep hfl hkl
                go_wp2_with (refine wpList_load_part rfl 27 (.tmp 7) rfl (g7) 0 rfl _ _ (hR7) ([.slice y.A0 y.n0 y.c0, .int .i64 D.a0.s, .slice y.A1 y.n1 y.c1, .int .i64 D.a1.s, .int .i64 (fb.toNat : Int), .int .i64 (10 * (kb.toNat : Int)), .bool D.down]) (by rfl) _ Tryz.underlying27 rfl (by exact size_disk) ?_)
                refine HOP.out.mono ?_
                rintro e wp ⟨z, rfl, hz, hzo, hb⟩
                have hl7 := hR7.lt
                have hzo7 : OffS g7 (g7 + 1) z := hzo.mono (Nat.zero_le _) (by omega)
                obtain ⟨t, er⟩ := P
                dsimp only at hz HST
                unfold aggS
                dsimp only
                replace hR3 := hR3.later hb
                replace hR7 := hR7.later hb
                replace hx := hx.keep hb
                replace hB := below_step hB hb
                have hsw := hb.size
                obtain ⟨hR9, hBn⟩ := box_of wp 39 l0S _ rfl
                clear hb HOP hzo
                go_upto_region 12 with (refine wpList_store_row rfl 39 (.tmp 9) (.tmp 67) rfl (wp.heap.size) rfl ((lS z t)) rfl _ _ (hR9) (by exact size_shelf) rfl (one_shelf z t) ?_)
                replace hR9 := hR9.setRow (lS z t)
                have hbn := below_setRow hBn (Nat.le_refl _) (lS z t).toArray
                clear hBn
                generalize (wp.alloc (.cells l0S.toArray 39)).setRow wp.heap.size (lS z t).toArray = wq at hR9 hbn ⊢
                replace hR3 := hR3.later hbn
                replace hR7 := hR7.later hbn
                replace hx := hx.keep hbn
                replace hz := hz.keep hbn
                replace hB := below_step hB hbn
                have hg9 : g7 < wp.heap.size := by omega
                clear hbn hsw hl7
                generalize wp.heap.size = g9 at hR9 hg9 ⊢
                have hO := (Only.refl g7 wq).setRow (lD z.d t.d).toArray
                go_upto_region 13 with (first
                  | (refine wpList_load_part rfl 27 (.tmp 69) rfl (g9) 0 rfl _ _ (hR9) ((lD z.d t.d)) (by rfl) _ Tryz.underlying27 rfl (by exact size_disk) ?_)
                  | (refine wpList_store_row rfl 27 (.tmp 7) (.tmp 70) rfl (g7) rfl ((lD z.d t.d)) rfl _ _ (hR7) (by exact size_disk) rfl (one_disk z.d t.d) ?_))
                replace hR7 := hR7.setRow (lD z.d t.d)
                replace hR3 := hR3.only hO (by omega)
                replace hR9 := hR9.only hO (by omega)
                replace hx := hx.at_only hO hxo (Nat.le_refl _) (Nat.lt_succ_self _)
                replace hz := hz.at_only hO hzo7 (Nat.le_refl _) (Nat.lt_succ_self _)
                replace hB := below_setRow hB (show w.heap.size ≤ g7 by omega) (lD z.d t.d).toArray
                clear hO
                generalize wq.setRow g7 (lD z.d t.d).toArray = ws at *
                rcases HST.out with ⟨he, hrt, htm, hop2⟩ | ⟨he, hrise, N2, hN3, hN4, hop2⟩
                · subst he
                  have HRT2 := Lib.hid hrt
                  have HTM := Lib.hid htm
                  have HOP2 := Lib.hid hop2
                  clear HST hrt htm hop2
                  have hrs := rightsh_any z t ws hz (inS_n hz HRT2.out).1 (inS_n hz HRT2.out).2.1 (inS_n hz HRT2.out).2.2 (Lib.hid (HKT.out _ hB))
                  unfold aggS at hrs
                  have HRS2 := Lib.hid hrs
                  clear hrs
                  have c0 := hR9.cell (i := 0) rfl
                  have c1 := hR9.cell (i := 1) rfl
                  have c2 := hR9.cell (i := 2) rfl
                  have c3 := hR9.cell (i := 3) rfl
                  have c4 := hR9.cell (i := 4) rfl
                  have c5 := hR9.cell (i := 5) rfl
                  have c6 := hR9.cell (i := 6) rfl
                  have c7 := hR9.cell (i := 7) rfl
                  have c8 := hR9.cell (i := 8) rfl
                  have c9 := hR9.cell (i := 9) rfl
                  have c10 := hR9.cell (i := 10) rfl
                  have c11 := hR9.cell (i := 11) rfl
                  have c12 := hR9.cell (i := 12) rfl
                  have c13 := hR9.cell (i := 13) rfl
                  have c14 := hR9.cell (i := 14) rfl
                  have c15 := hR9.cell (i := 15) rfl
                  go_wp2_with fail
                  refine HRS2.out.mono ?_
                  rintro e wu ⟨r, rfl, HQ, hb⟩
                  have hr1 : r = true := HQ.out.2 HRT2.out
                  subst hr1
                  replace hR3 := hR3.later hb
                  replace hR7 := hR7.later hb
                  replace hR9 := hR9.later hb
                  replace hx := hx.keep hb
                  replace hz := hz.keep hb
                  replace hB := below_step hB hb
                  clear hb HQ HRS2 c0 c1 c2 c3 c4 c5 c6 c7 c8 c9 c10 c11 c12 c13 c14 c15
                  have a9 := hR3.cell (i := 9) rfl
                  have a10 := hR3.cell (i := 10) rfl
                  have a11 := hR3.cell (i := 11) rfl
                  have a12 := hR3.cell (i := 12) rfl
                  have a13 := hR3.cell (i := 13) rfl
                  have a14 := hR3.cell (i := 14) rfl
                  have a15 := hR3.cell (i := 15) rfl
                  have c9 := hR9.cell (i := 9) rfl
                  have c10 := hR9.cell (i := 10) rfl
                  have c11 := hR9.cell (i := 11) rfl
                  have c12 := hR9.cell (i := 12) rfl
                  have c13 := hR9.cell (i := 13) rfl
                  have c14 := hR9.cell (i := 14) rfl
                  have c15 := hR9.cell (i := 15) rfl
                  have hsm := samemem_any z.m x.m t.m s.m wu hz.im hx.im
                  unfold aggM at hsm
                  have HSM := Lib.hid hsm
                  clear hsm
                  go_wp2_with fail
                  refine HSM.out.mono ?_
                  rintro e wt ⟨r, rfl, HQ, hb⟩
                  have hr1 : r = true := HQ.out.2 HTM.out
                  subst hr1
                  replace hR3 := hR3.later hb
                  replace hR7 := hR7.later hb
                  replace hx := hx.keep hb
                  replace hz := hz.keep hb
                  replace hB := below_step hB hb
                  clear hb HQ HSM a9 a10 a11 a12 a13 a14 a15 c9 c10 c11 c12 c13 c14 c15
                  have hop2 := HOP2.out
                  have hy2 := hz.id
                  have hoy2 := hzo7.d
                  obtain ⟨y2, hy2e⟩ : ∃ q, z.d = q := ⟨_, rfl⟩
                  obtain ⟨D2, hD2e⟩ : ∃ q, t.d = q := ⟨_, rfl⟩
                  obtain ⟨N2, hN2e⟩ : ∃ q, n + 1 = q := ⟨_, rfl⟩
                  rw [hy2e] at hR7 hy2 hoy2
                  rw [hD2e] at hR7 hy2 hop2
                  rw [hN2e] at hop2
                  clear hy2e hD2e hR9 hz hzo7 HOP2 HTM HRT2
                  replace hN1 : s.num ≤ N2 := by omega
                  replace hN2 : N2 ≤ s.num + (i + 1) := by omega
                  go_wp2_with (refine wpList_load_part rfl 27 (.tmp 7) rfl (g7) 0 rfl _ _ (hR7) ((lD y2 D2)) (by rfl) _ Tryz.underlying27 rfl (by exact size_disk) ?_)
                  refine (has_any y2 D2 wt hy2 (by rw [← hy2.l0]; have := hop2.lens.1; omega) (by rw [← hy2.l1]; have := hop2.lens.2; omega) (Lib.hid (HKT.out _ hB))).mono ?_
                  rintro e wh ⟨q, rfl, hq, hqo, hb⟩
                  obtain ⟨k2, z2, hk2⟩ := hop2.has
                  rw [hasS_some hk2] at hq ⊢
                  dsimp only at hq ⊢
                  unfold aggS
                  replace hR3 := hR3.later hb
                  replace hR7 := hR7.later hb
                  replace hx := hx.keep hb
                  replace hy2 := hy2.keep hb
                  replace hB := below_step hB hb
                  have hgg : g7 < wh.heap.size := hR7.lt
                  clear hb hqo hk2
                  obtain ⟨hR13, hBn⟩ := box_of wh 39 l0S _ rfl
                  go_upto_region 21 with (refine wpList_store_row rfl 39 (.tmp 13) (.tmp 99) rfl (wh.heap.size) rfl ((lS q (⟨D2, (k2 : Int), N2, s.m⟩ : ShK))) rfl _ _ (hR13) (by exact size_shelf) rfl (one_shelf q ⟨D2, (k2 : Int), N2, s.m⟩) ?_)
                  replace hR13 := hR13.setRow (lS q (⟨D2, (k2 : Int), N2, s.m⟩ : ShK))
                  have hbn := below_setRow hBn (Nat.le_refl _) (lS q (⟨D2, (k2 : Int), N2, s.m⟩ : ShK)).toArray
                  clear hBn
                  generalize (wh.alloc (.cells l0S.toArray 39)).setRow wh.heap.size (lS q (⟨D2, (k2 : Int), N2, s.m⟩ : ShK)).toArray = wi at hR13 hbn ⊢
                  replace hR3 := hR3.later hbn
                  replace hR7 := hR7.later hbn
                  replace hx := hx.keep hbn
                  replace hy2 := hy2.keep hbn
                  replace hq := hq.keep hbn
                  replace hB := below_step hB hbn
                  clear hbn
                  generalize wh.heap.size = g13 at hR13 hgg ⊢
                  have a9 := hR3.cell (i := 9) rfl
                  have a10 := hR3.cell (i := 10) rfl
                  have a11 := hR3.cell (i := 11) rfl
                  have a12 := hR3.cell (i := 12) rfl
                  have a13 := hR3.cell (i := 13) rfl
                  have a14 := hR3.cell (i := 14) rfl
                  have a15 := hR3.cell (i := 15) rfl
                  have c9 := hR13.cell (i := 9) rfl
                  have c10 := hR13.cell (i := 10) rfl
                  have c11 := hR13.cell (i := 11) rfl
                  have c12 := hR13.cell (i := 12) rfl
                  have c13 := hR13.cell (i := 13) rfl
                  have c14 := hR13.cell (i := 14) rfl
                  have c15 := hR13.cell (i := 15) rfl
                  have hsm := samemem_any q.m x.m s.m s.m wi hq.im hx.im
                  unfold aggM at hsm
                  have HSM := Lib.hid hsm
                  clear hsm
                  go_wp2_with fail
                  refine HSM.out.mono ?_
                  rintro e wj ⟨r, rfl, HQ, hb⟩
                  have hr1 : r = true := HQ.out.2 (by trivial)
                  subst hr1
                  replace hR3 := hR3.later hb
                  replace hR7 := hR7.later hb
                  replace hR13 := hR13.later hb
                  replace hx := hx.keep hb
                  replace hy2 := hy2.keep hb
                  replace hB := below_step hB hb
                  clear hb HQ HSM a9 a10 a11 a12 a13 a14 a15 c9 c10 c11 c12 c13 c14 c15
                  have a8 := hR3.cell (i := 8) rfl
                  have c8 : wj.cell? ⟨g13, 8, none⟩ = some (.int .u64 (N2 : Int)) := hR13.cell rfl
                  have i8 : ¬ (N2 : Int) < (s.num : Int) := by omega
                  go_wp2_with fail
                  go_roundw
                  case rel => exact ⟨i + 1, y2, D2, by go_num, by omega, hR3, hR7, hx, hy2, hoy2, ⟨N2, hop2, hN1, by omega⟩, hB⟩
                  case measure => simp [intOf]; omega
                · subst he
                  have HRI := Lib.hid hrise
                  have HLEN : Hid (t.d.a0.b.length ≤ 70368744177664 ∧ t.d.a1.b.length ≤ 70368744177664) := rise_lens hrise
                  have HOP2 := Lib.hid hop2
                  clear HST hrise hop2
                  have hri := rise17_any z.d t.d ws hz.id (by rw [← hz.id.l0]; have := HLEN.out.1; omega) (by rw [← hz.id.l1]; have := HLEN.out.2; omega)
                  unfold aggD at hri
                  obtain ⟨Q, hQ⟩ : ∃ Q, riseD t.d = Q := ⟨_, rfl⟩
                  have hri2 := HRI.out
                  have hop2 := HOP2.out
                  rw [hQ] at hri hri2 hop2
                  have HR := Lib.hid hri
                  clear hri hQ HRI HOP2 HLEN
                  obtain ⟨D2, e2⟩ := Q
                  dsimp only at hri2 hop2
                  subst hri2
                  go_wp2_with (refine wpList_load_part rfl 27 (.tmp 7) rfl (g7) 0 rfl _ _ (hR7) ((lD z.d t.d)) (by rfl) _ Tryz.underlying27 rfl (by exact size_disk) ?_)
                  refine HR.out.mono ?_
                  rintro e wu ⟨y2, rfl, hy2, hyf, hb⟩
                  have hl7 := hR7.lt
                  have hoy2 : OffD g7 (g7 + 1) y2 := (hyf.off g7).mono (Nat.le_refl _) (by omega)
                  replace hR3 := hR3.later hb
                  replace hR7 := hR7.later hb
                  replace hx := hx.keep hb
                  replace hB := below_step hB hb
                  have hsw := hb.size
                  obtain ⟨hR11, hBn⟩ := box_of wu 27 l0D _ rfl
                  clear hb HR hyf hR9 hz hzo7
                  unfold aggD
                  dsimp only at hy2 ⊢
                  go_upto_region 15 with (refine wpList_store_row rfl 27 (.tmp 11) (.tmp 76) rfl (wu.heap.size) rfl ((lD y2 D2)) rfl _ _ (hR11) (by exact size_disk) rfl (one_disk y2 D2) ?_)
                  replace hR11 := hR11.setRow (lD y2 D2)
                  have hbn := below_setRow hBn (Nat.le_refl _) (lD y2 D2).toArray
                  clear hBn
                  generalize (wu.alloc (.cells l0D.toArray 27)).setRow wu.heap.size (lD y2 D2).toArray = wu2 at hR11 hbn ⊢
                  replace hR3 := hR3.later hbn
                  replace hR7 := hR7.later hbn
                  replace hx := hx.keep hbn
                  replace hy2 := hy2.keep hbn
                  replace hB := below_step hB hbn
                  have hg11 : g7 < wu.heap.size := by omega
                  clear hbn hsw hl7
                  generalize wu.heap.size = g11 at hR11 hg11 ⊢
                  have hO := (Only.refl g7 wu2).setRow (lD y2 D2).toArray
                  go_upto_region 20 with (first
                    | (refine wpList_load_part rfl 27 (.tmp 11) rfl (g11) 0 rfl _ _ (hR11) ((lD y2 D2)) (by rfl) _ Tryz.underlying27 rfl (by exact size_disk) ?_)
                    | (refine wpList_store_row rfl 27 (.tmp 7) (.tmp 80) rfl (g7) rfl ((lD y2 D2)) rfl _ _ (hR7) (by exact size_disk) rfl (one_disk y2 D2) ?_))
                  replace hR7 := hR7.setRow (lD y2 D2)
                  replace hR3 := hR3.only hO (by omega)
                  replace hx := hx.at_only hO hxo (Nat.le_refl _) (Nat.lt_succ_self _)
                  replace hy2 := hy2.at_only hO hoy2 (Nat.le_refl _) (Nat.lt_succ_self _)
                  replace hB := below_setRow hB (show w.heap.size ≤ g7 by omega) (lD y2 D2).toArray
                  clear hO hR11
                  generalize wu2.setRow g7 (lD y2 D2).toArray = wt at *
                  replace hN1 : s.num ≤ N2 := by omega
                  replace hN2 : N2 ≤ s.num + (i + 1) := by omega
                  go_wp2_with (refine wpList_load_part rfl 27 (.tmp 7) rfl (g7) 0 rfl _ _ (hR7) ((lD y2 D2)) (by rfl) _ Tryz.underlying27 rfl (by exact size_disk) ?_)
                  refine (has_any y2 D2 wt hy2 (by rw [← hy2.l0]; have := hop2.lens.1; omega) (by rw [← hy2.l1]; have := hop2.lens.2; omega) (Lib.hid (HKT.out _ hB))).mono ?_
                  rintro e wh ⟨q, rfl, hq, hqo, hb⟩
                  obtain ⟨k2, z2, hk2⟩ := hop2.has
                  rw [hasS_some hk2] at hq ⊢
                  dsimp only at hq ⊢
                  unfold aggS
                  replace hR3 := hR3.later hb
                  replace hR7 := hR7.later hb
                  replace hx := hx.keep hb
                  replace hy2 := hy2.keep hb
                  replace hB := below_step hB hb
                  have hgg : g7 < wh.heap.size := hR7.lt
                  clear hb hqo hk2
                  obtain ⟨hR13, hBn⟩ := box_of wh 39 l0S _ rfl
                  go_upto_region 21 with (refine wpList_store_row rfl 39 (.tmp 13) (.tmp 99) rfl (wh.heap.size) rfl ((lS q (⟨D2, (k2 : Int), N2, s.m⟩ : ShK))) rfl _ _ (hR13) (by exact size_shelf) rfl (one_shelf q ⟨D2, (k2 : Int), N2, s.m⟩) ?_)
                  replace hR13 := hR13.setRow (lS q (⟨D2, (k2 : Int), N2, s.m⟩ : ShK))
                  have hbn := below_setRow hBn (Nat.le_refl _) (lS q (⟨D2, (k2 : Int), N2, s.m⟩ : ShK)).toArray
                  clear hBn
                  generalize (wh.alloc (.cells l0S.toArray 39)).setRow wh.heap.size (lS q (⟨D2, (k2 : Int), N2, s.m⟩ : ShK)).toArray = wi at hR13 hbn ⊢
                  replace hR3 := hR3.later hbn
                  replace hR7 := hR7.later hbn
                  replace hx := hx.keep hbn
                  replace hy2 := hy2.keep hbn
                  replace hq := hq.keep hbn
                  replace hB := below_step hB hbn
                  clear hbn
                  generalize wh.heap.size = g13 at hR13 hgg ⊢
                  have a9 := hR3.cell (i := 9) rfl
                  have a10 := hR3.cell (i := 10) rfl
                  have a11 := hR3.cell (i := 11) rfl
                  have a12 := hR3.cell (i := 12) rfl
                  have a13 := hR3.cell (i := 13) rfl
                  have a14 := hR3.cell (i := 14) rfl
                  have a15 := hR3.cell (i := 15) rfl
                  have c9 := hR13.cell (i := 9) rfl
                  have c10 := hR13.cell (i := 10) rfl
                  have c11 := hR13.cell (i := 11) rfl
                  have c12 := hR13.cell (i := 12) rfl
                  have c13 := hR13.cell (i := 13) rfl
                  have c14 := hR13.cell (i := 14) rfl
                  have c15 := hR13.cell (i := 15) rfl
                  have hsm := samemem_any q.m x.m s.m s.m wi hq.im hx.im
                  unfold aggM at hsm
                  have HSM := Lib.hid hsm
                  clear hsm
                  go_wp2_with fail
                  refine HSM.out.mono ?_
                  rintro e wj ⟨r, rfl, HQ, hb⟩
                  have hr1 : r = true := HQ.out.2 (by trivial)
                  subst hr1
                  replace hR3 := hR3.later hb
                  replace hR7 := hR7.later hb
                  replace hR13 := hR13.later hb
                  replace hx := hx.keep hb
                  replace hy2 := hy2.keep hb
                  replace hB := below_step hB hb
                  clear hb HQ HSM a9 a10 a11 a12 a13 a14 a15 c9 c10 c11 c12 c13 c14 c15
                  have a8 := hR3.cell (i := 8) rfl
                  have c8 : wj.cell? ⟨g13, 8, none⟩ = some (.int .u64 (N2 : Int)) := hR13.cell rfl
                  have i8 : ¬ (N2 : Int) < (s.num : Int) := by omega
                  go_wp2_with fail
                  go_roundw
                  case rel => exact ⟨i + 1, y2, D2, by go_num, by omega, hR3, hR7, hx, hy2, hoy2, ⟨N2, hop2, hN1, by omega⟩, hB⟩
                  case measure => simp [intOf]; omega
              · have hin : i = n1 := by omega
                subst hin
                have i3 : ¬ (i : Int) < (i : Int) := by omega
                have hrc := refright19_any s.m.c.1 s.m.c.2.1 s.m.c.2.2 x.m.c.s x.m.c.c x.m.c.A wr (Lib.hid hx.im.ic.ns) hx.im.ic.ru (by have := hx.im.ic.ls; omega)
                have hrc2 : rightC (s.m.c.1, s.m.c.2.1, s.m.c.2.2) = true := (rightM_parts.1 (rightSh_m HRS.out)).2
                rw [hrc2] at hrc
                unfold aggC at hrc
                have HRC := Lib.hid hrc
                clear hrc hrc2
                go_wp2_with (refine wpList_load_part rfl 35 (.tmp 119) rfl (w.heap.size) 13 rfl _ _ (hR3) ((lC x.m.c s.m.c)) (by rfl) _ Tryz.underlying35 rfl (by exact size_cache) ?_)
                refine HRC.out.mono ?_
                rintro e wz ⟨rfl, hb⟩
                replace hB := below_step hB hb
                go_wp2_with fail
                go_ret
                exact ⟨rfl, hB⟩
end Go.Proofs.YteppocjgodmpdaaGreatDoor
namespace Go.Proofs.YteppocjgodmpdaaGreatDoor
open Go.RowKit Go.WideShapes
section
variable {H : Type} {enc : TypeId × Value → H} {W : World} {base b1 : Nat} {spare : Nat → Bool} {held : Bool} {r : Reach} {v : Value} {d : DataW H} {p : List MemPlace}
end
end Go.Proofs.YteppocjgodmpdaaGreatDoor
namespace Go.Proofs.YteppocjgodmpdaaGreatDoor
open Go.RowKit Go.Deep Go.WideShapes Go.ChangeShapes
theorem opens_entry : Opens Tryz.prog 106 (RThree 0 1 1 1 2 1 RNum RNum (RSlice 1 RByte)) := opens_three Tryz.underlying106 rfl rfl rfl (by kernel_rfl) (by kernel_rfl) (by kernel_rfl) (by kernel_rfl) (opens_num Tryz.underlying28) (opens_num Tryz.underlying28) opens_bytes
theorem opens_entries : Opens Tryz.prog 29 (RSlice 3 (RThree 0 1 1 1 2 1 RNum RNum (RSlice 1 RByte))) := opens_slice Tryz.underlying29 (by kernel_rfl) (by omega) opens_entry
theorem opens_bundle : Opens Tryz.prog 32 (RThree 0 1 1 1 2 1 RNum (RSlice 3 (RThree 0 1 1 1 2 1 RNum RNum (RSlice 1 RByte))) (RSlice 2 (RTwo 0 1 1 1 RNum RNum))) := opens_three Tryz.underlying32 rfl rfl rfl (by kernel_rfl) (by kernel_rfl) (by kernel_rfl) (by kernel_rfl) (opens_num Tryz.underlying28) opens_entries opens_gones
theorem entry_of_r {w : World} {cs : List Value} {x : En} (h : RThree 0 1 1 1 2 1 RNum RNum (RSlice 1 RByte) w cs x) : ∃ y : ED, cs = y.cells ∧ y.ok w ∧ y.s.length ≤ 9223372036854775807 ∧ y.t < 18446744073709551616 ∧ y.e < 18446744073709551616 := by
  obtain ⟨hl, ⟨e0, g0⟩, ⟨e1, g1⟩, h2⟩ := h
  obtain ⟨A, c, e2, h3, h4, h5⟩ := bytes_of_r h2
  refine ⟨⟨x.1, x.2.1, A, c, x.2.2⟩, ?_, ⟨h3, h5⟩, by show x.2.2.length ≤ _; omega, g0, g1⟩
  match cs, hl with
  | [a, b, d], _ =>
    simp at e0 e1 e2
    rw [e0, e1, e2]
    rfl
def inE (w : World) (A : Option Addr) (es : List ED) : Prop := RdE w A es ∧ okD w es ∧ (∀ x ∈ es, x.s.length ≤ 9223372036854775807) ∧ fitE (conE es)
theorem entries_of_r {w : World} {cs : List Value} {ls : List En} (h : RSlice 3 (RThree 0 1 1 1 2 1 RNum RNum (RSlice 1 RByte)) w cs ls) : ∃ (es : List ED) (A : Option Addr) (cap : Nat), cs = [.slice A es.length cap] ∧ es.length ≤ cap ∧ cap ≤ 9223372036854775807 ∧ inE w A es := by
  obtain ⟨A, cap, e, h1, h2, h3⟩ := h
  by_cases hn : ls = []
  · subst hn
    exact ⟨[], A, cap, e, h1, h2, RdE.nil, okD.nil _, (fun x hx => by cases hx), fun x hx => by cases hx⟩
  · obtain ⟨b, o, rfl, hc⟩ := h3 hn
    obtain ⟨es, hl, hp⟩ := choose_list ls.length (fun i (y : ED) => (w.cell? ⟨b, o + i * 3, none⟩ = some (vNG y.t) ∧ w.cell? ⟨b, o + i * 3 + 1, none⟩ = some (vNG y.e) ∧ w.cell? ⟨b, o + i * 3 + 2, none⟩ = some y.at2) ∧ y.ok w ∧ y.s.length ≤ 9223372036854775807 ∧ y.t < 18446744073709551616 ∧ y.e < 18446744073709551616) (fun i hi => by
      obtain ⟨ecs, h4, h5, h6⟩ := hc i hi
      obtain ⟨y, rfl, h7, h8, h9⟩ := entry_of_r h6
      exact ⟨y, ⟨h5 0 (by simp [ED.cells]), h5 1 (by simp [ED.cells]), h5 2 (by simp [ED.cells])⟩, h7, h8, h9⟩)
    refine ⟨es, some ⟨b, o, none⟩, cap, by rw [hl]; exact e, by omega, h2, fun _ => ⟨b, o, rfl, fun i hi => (hp i hi).1⟩, fun x hx => ?_, fun x hx => ?_, fun x hx => ?_⟩
    · obtain ⟨i, hi, rfl⟩ := List.getElem_of_mem hx
      exact (hp i hi).2.1
    · obtain ⟨i, hi, rfl⟩ := List.getElem_of_mem hx
      exact (hp i hi).2.2.1
    · obtain ⟨y, hy, rfl⟩ := List.mem_map.1 hx
      obtain ⟨i, hi, rfl⟩ := List.getElem_of_mem hy
      exact (hp i hi).2.2.2
section
variable {H : Type} {enc : TypeId × Value → H} {W : World} {base b1 : Nat} {spare : Nat → Bool} {held : Bool} {r : Reach} {v : Value} {d : DataW H} {p : List MemPlace}
end
end Go.Proofs.YteppocjgodmpdaaGreatDoor
namespace Go.Proofs.YteppocjgodmpdaaGreatDoor
open Go.RowKit
end Go.Proofs.YteppocjgodmpdaaGreatDoor
namespace Go.Proofs.YteppocjgodmpdaaGreatDoor
open Go.RowKit
end Go.Proofs.YteppocjgodmpdaaGreatDoor
namespace Go.Proofs.YteppocjgodmpdaaGreatDoor
open Go.RowKit
end Go.Proofs.YteppocjgodmpdaaGreatDoor
namespace Go.Proofs.YteppocjgodmpdaaGreatDoor
open Go.RowKit Go.Deep Go.WideShapes Go.ChangeShapes
theorem opens_use : Opens Tryz.prog 57 (RThree 0 1 1 1 2 1 RNum RNum RNum) := opens_three Tryz.underlying57 rfl rfl rfl (by kernel_rfl) (by kernel_rfl) (by kernel_rfl) (by kernel_rfl) (opens_num Tryz.underlying28) (opens_num Tryz.underlying28) (opens_num Tryz.underlying28)
theorem opens_uses : Opens Tryz.prog 33 (RSlice 3 (RThree 0 1 1 1 2 1 RNum RNum RNum)) := opens_slice Tryz.underlying33 (by kernel_rfl) (by omega) opens_use
theorem opens_cache : Opens Tryz.prog 35 (RThree 0 1 1 1 2 1 RInt RNum (RSlice 3 (RThree 0 1 1 1 2 1 RNum RNum RNum))) := opens_three Tryz.underlying35 rfl rfl rfl (by kernel_rfl) (by kernel_rfl) (by kernel_rfl) (by kernel_rfl) (opens_int Tryz.underlying3) (opens_num Tryz.underlying28) opens_uses
theorem use_of_r {w : World} {cs : List Value} {x : Us} (h : RThree 0 1 1 1 2 1 RNum RNum RNum w cs x) : cs = cellU x ∧ fitU1 x := by
  obtain ⟨hl, ⟨h0, g0⟩, ⟨h1, g1⟩, h2, g2⟩ := h
  refine ⟨?_, g0, g1, g2⟩
  match cs, hl with
  | [a, b, c], _ =>
    simp at h0 h1 h2
    rw [h0, h1, h2]
    rfl
theorem uses_of_r {w : World} {cs : List Value} {l : List Us} (h : RSlice 3 (RThree 0 1 1 1 2 1 RNum RNum RNum) w cs l) : ∃ (A : Option Addr) (cap : Nat), cs = [.slice A l.length cap] ∧ l.length ≤ cap ∧ cap ≤ 9223372036854775807 ∧ RdU w A l ∧ fitU l := by
  obtain ⟨A, cap, e, h1, h2, h3⟩ := h
  refine ⟨A, cap, e, h1, h2, fun hn => ?_, fun x hx => ?_⟩
  · obtain ⟨b, o, rfl, hc⟩ := h3 hn
    refine ⟨b, o, rfl, fun i hi => ?_⟩
    obtain ⟨ecs, h4, h5, h6⟩ := hc i hi
    obtain ⟨rfl, _⟩ := use_of_r h6
    exact ⟨h5 0 (by simp [cellU]), h5 1 (by simp [cellU]), h5 2 (by simp [cellU])⟩
  · obtain ⟨i, hi, rfl⟩ := List.getElem_of_mem hx
    obtain ⟨b, o, rfl, hc⟩ := h3 (by rintro rfl; simp at hi)
    obtain ⟨ecs, h4, h5, h6⟩ := hc i hi
    exact (use_of_r h6).2
section
variable {H : Type} {enc : TypeId × Value → H} {W : World} {base b1 : Nat} {spare : Nat → Bool} {held : Bool} {r : Reach} {v : Value} {d : DataW H} {p : List MemPlace}
end
end Go.Proofs.YteppocjgodmpdaaGreatDoor
namespace Go.Proofs.YteppocjgodmpdaaGreatDoor
open Go.RowKit Go.Deep Go.WideShapes Go.ChangeShapes
def RFour (a0 n0 a1 n1 a2 n2 a3 n3 : Nat) {α β γ δ : Type} (R : World → List Value → α → Prop) (S : World → List Value → β → Prop) (T : World → List Value → γ → Prop) (U : World → List Value → δ → Prop) : World → List Value → α × β × γ × δ → Prop := fun w cs x => cs.length = n0 + n1 + n2 + n3 ∧ R w ((cs.drop a0).take n0) x.1 ∧ S w ((cs.drop a1).take n1) x.2.1 ∧ T w ((cs.drop a2).take n2) x.2.2.1 ∧ U w ((cs.drop a3).take n3) x.2.2.2
theorem opens_four {P : Program} {t : TypeId} {α β γ δ : Type} {R : World → List Value → α → Prop} {S : World → List Value → β → Prop} {T : World → List Value → γ → Prop} {U : World → List Value → δ → Prop} {f0 f1 f2 f3 : Field} {a0 n0 a1 n1 a2 n2 a3 n3 : Nat} (ht : P.underlying t = some (.struct #[f0, f1, f2, f3])) (e0 : f0.offset = a0) (e1 : f1.offset = a1) (e2 : f2.offset = a2) (e3 : f3.offset = a3)
    (c0 : P.cellsOf f0.type = n0) (c1 : P.cellsOf f1.type = n1) (c2 : P.cellsOf f2.type = n2) (c3 : P.cellsOf f3.type = n3) (hn : P.cellsOf t = n0 + n1 + n2 + n3) (h0 : Opens P f0.type R) (h1 : Opens P f1.type S) (h2 : Opens P f2.type T) (h3 : Opens P f3.type U) : Opens P t (RFour a0 n0 a1 n1 a2 n2 a3 n3 R S T U) := fun enc w base spare held fuel cs x h => by
  obtain ⟨xs, n, _, _, hl, hxl, hx⟩ := DataW.trod_struct ht h
  have k0 := hx 0 f0 rfl
  have k1 := hx 1 f1 rfl
  have k2 := hx 2 f2 rfl
  have k3 := hx 3 f3 rfl
  simp only [List.size_toArray, List.length_cons, List.length_nil, Nat.zero_add, Nat.reduceAdd] at hxl
  rw [List.getElem?_eq_getElem (by omega), e0, c0] at k0
  rw [List.getElem?_eq_getElem (by omega), e1, c1] at k1
  rw [List.getElem?_eq_getElem (by omega), e2, c2] at k2
  rw [List.getElem?_eq_getElem (by omega), e3, c3] at k3
  obtain ⟨x0, r0⟩ := h0 enc w base spare held n _ _ k0
  obtain ⟨x1, r1⟩ := h1 enc w base spare held n _ _ k1
  obtain ⟨x2, r2⟩ := h2 enc w base spare held n _ _ k2
  obtain ⟨x3, r3⟩ := h3 enc w base spare held n _ _ k3
  exact ⟨(x0, x1, x2, x3), by omega, r0, r1, r2, r3⟩
end Go.Proofs.YteppocjgodmpdaaGreatDoor
namespace Go.Proofs.YteppocjgodmpdaaGreatDoor
open Go.RowKit Go.Deep Go.WideShapes Go.ChangeShapes
def RArrM (n m : Nat) {α : Type} (R : World → List Value → α → Prop) : World → List Value → List α → Prop := fun w cs l => l.length = n ∧ cs.length = n * m ∧ ∀ i (h : i < l.length), R w ((cs.drop (i * m)).take m) l[i]
theorem opens_arrM {P : Program} {t e : TypeId} {α : Type} {R : World → List Value → α → Prop} {n m : Nat} (ht : P.underlying t = some (.array n e)) (hc : P.cellsOf e = m) (hn : P.cellsOf t = n * m) (he : Opens P e R) : Opens P t (RArrM n m R) := fun enc w base spare held fuel cs x h => by
  obtain ⟨xs, q, _, _, hl, hxl, hx⟩ := DataW.trod_array ht h
  obtain ⟨l, hll, hp⟩ := choose_list n (fun i (y : α) => R w ((cs.drop (i * m)).take m) y) (fun i hi => by
    have := hx i hi
    rw [hc, List.getElem?_eq_getElem (by omega)] at this
    exact he enc w base spare held q _ _ this)
  exact ⟨l, hll, by omega, hp⟩
theorem opens_area : Opens Tryz.prog 24 (RTwo 0 1 1 1 (RSlice 1 RByte) RInt) := opens_two Tryz.underlying24 rfl rfl (by kernel_rfl) (by kernel_rfl) (by kernel_rfl) opens_bytes (opens_int Tryz.underlying3)
theorem opens_areas : Opens Tryz.prog 25 (RArrM 2 2 (RTwo 0 1 1 1 (RSlice 1 RByte) RInt)) := opens_arrM Tryz.underlying25 (by kernel_rfl) (by kernel_rfl) opens_area
theorem opens_bool : Opens Tryz.prog 4 RBool := fun enc w base spare held fuel cs x h => by
  obtain ⟨b, rfl, _⟩ := DataW.trod_bool Tryz.underlying4 h
  exact ⟨b, rfl⟩
theorem opens_disk : Opens Tryz.prog 27 (RFour 0 4 4 1 5 1 6 1 (RArrM 2 2 (RTwo 0 1 1 1 (RSlice 1 RByte) RInt)) RInt RInt RBool) := opens_four Tryz.underlying27 rfl rfl rfl rfl (by kernel_rfl) (by kernel_rfl) (by kernel_rfl) (by kernel_rfl) (by kernel_rfl) opens_areas (opens_int Tryz.underlying3) (opens_int Tryz.underlying3) opens_bool
section
variable {H : Type} {enc : TypeId × Value → H} {W : World} {base b1 : Nat} {spare : Nat → Bool} {held : Bool} {r : Reach} {v : Value} {d : DataW H} {p : List MemPlace}
end
end Go.Proofs.YteppocjgodmpdaaGreatDoor
namespace Go.Proofs.YteppocjgodmpdaaGreatDoor
open Go.RowKit Go.Deep Go.WideShapes Go.ChangeShapes
theorem opens_memory : Opens Tryz.prog 37 (RThree 0 1 1 3 4 3 RNum (RThree 0 1 1 1 2 1 RNum (RSlice 3 (RThree 0 1 1 1 2 1 RNum RNum (RSlice 1 RByte))) (RSlice 2 (RTwo 0 1 1 1 RNum RNum))) (RThree 0 1 1 1 2 1 RInt RNum (RSlice 3 (RThree 0 1 1 1 2 1 RNum RNum RNum)))) := opens_three Tryz.underlying37 rfl rfl rfl (by kernel_rfl) (by kernel_rfl) (by kernel_rfl) (by kernel_rfl) (opens_num Tryz.underlying28) opens_bundle opens_cache
theorem opens_shelf : Opens Tryz.prog 39 (RFour 0 7 7 1 8 1 9 7 (RFour 0 4 4 1 5 1 6 1 (RArrM 2 2 (RTwo 0 1 1 1 (RSlice 1 RByte) RInt)) RInt RInt RBool) RInt RNum (RThree 0 1 1 3 4 3 RNum (RThree 0 1 1 1 2 1 RNum (RSlice 3 (RThree 0 1 1 1 2 1 RNum RNum (RSlice 1 RByte))) (RSlice 2 (RTwo 0 1 1 1 RNum RNum))) (RThree 0 1 1 1 2 1 RInt RNum (RSlice 3 (RThree 0 1 1 1 2 1 RNum RNum RNum))))) := opens_four Tryz.underlying39 rfl rfl rfl rfl (by kernel_rfl) (by kernel_rfl) (by kernel_rfl) (by kernel_rfl) (by kernel_rfl) opens_disk (opens_int Tryz.underlying3) (opens_num Tryz.underlying28) opens_memory
theorem bundle_of_r {w : World} {cs : List Value} {q : Nat × List En × List Gn} (h : RThree 0 1 1 1 2 1 RNum (RSlice 3 (RThree 0 1 1 1 2 1 RNum RNum (RSlice 1 RByte))) (RSlice 2 (RTwo 0 1 1 1 RNum RNum)) w cs q) : ∃ (y : WB) (b : Bn), cs = (lB y b) ∧ PreB w y b := by
  obtain ⟨n, le, lg⟩ := q
  obtain ⟨hl, ⟨e0, g0⟩, h1, h2⟩ := h
  obtain ⟨es, eA, ec, e1, h3, h4, h5, h6, h7, h8⟩ := entries_of_r h1
  obtain ⟨gA, gc, e2, i6, i7, i8, i9⟩ := gones_of_r h2
  refine ⟨⟨es, eA, es.length, ec, gA, lg.length, gc⟩, (n, conE es, lg), ?_, ⟨rfl, rfl, rfl, h3, i6, h4, i7, h5, h6, i8, h7, ⟨g0, h8, i9⟩⟩⟩
  match cs, hl with
  | [x0, x1, x2], _ =>
    simp at e0 e1 e2
    rw [e0, e1, e2]
theorem cache_of_r {w : World} {cs : List Value} {q : Int × Nat × List Us} (h : RThree 0 1 1 1 2 1 RInt RNum (RSlice 3 (RThree 0 1 1 1 2 1 RNum RNum RNum)) w cs q) : ∃ (y : WC) (k : Ca), cs = (lC y k) ∧ PreC w y k := by
  obtain ⟨room, fl, l⟩ := q
  obtain ⟨hl, ⟨e0, g0⟩, ⟨e1, g1⟩, h2⟩ := h
  obtain ⟨A, c, e2, h3, h4, h5, h6⟩ := uses_of_r h2
  refine ⟨⟨A, l.length, c⟩, (room, fl, l), ?_, ⟨rfl, h3, h4, h5, ⟨g1, h6⟩⟩⟩
  match cs, hl with
  | [x0, x1, x2], _ =>
    simp at e0 e1 e2
    rw [e0, e1, e2]
theorem memory_of_r {w : World} {cs : List Value} {q : Nat × (Nat × List En × List Gn) × (Int × Nat × List Us)} (h : RThree 0 1 1 3 4 3 RNum (RThree 0 1 1 1 2 1 RNum (RSlice 3 (RThree 0 1 1 1 2 1 RNum RNum (RSlice 1 RByte))) (RSlice 2 (RTwo 0 1 1 1 RNum RNum))) (RThree 0 1 1 1 2 1 RInt RNum (RSlice 3 (RThree 0 1 1 1 2 1 RNum RNum RNum))) w cs q) : ∃ (y : WM) (m : MemK), cs = (lM y m) ∧ PreM w y m := by
  obtain ⟨n, qb, qc⟩ := q
  obtain ⟨hl, ⟨e0, g0⟩, h1, h2⟩ := h
  obtain ⟨yb, b, e1, p1⟩ := bundle_of_r h1
  obtain ⟨yc, k, e2, p2⟩ := cache_of_r h2
  refine ⟨⟨yb, yc⟩, ⟨n, b, k⟩, ?_, ⟨g0, p1, p2⟩⟩
  match cs, hl with
  | [x0, x1, x2, x3, x4, x5, x6], _ =>
    simp at e0 e1 e2
    obtain ⟨a1, a2, a3⟩ := e1
    obtain ⟨b1, b2, b3⟩ := e2
    rw [e0, a1, a2, a3, b1, b2, b3]
theorem disk_of_r {w : World} {cs : List Value} {q : List (List UInt8 × Int) × Int × Int × Bool} (h : RFour 0 4 4 1 5 1 6 1 (RArrM 2 2 (RTwo 0 1 1 1 (RSlice 1 RByte) RInt)) RInt RInt RBool w cs q) : ∃ (x : WD) (D : DK), cs = (lD x D) ∧ InD w x D ∧ D.fuse ≤ 9223372036854775807 ∧ D.keep ≤ 9223372036854775807 := by
  obtain ⟨ars, f, k, dn⟩ := q
  obtain ⟨hl, ⟨ha, hal, hai⟩, ⟨hf1, hf2⟩, ⟨hk1, hk2⟩, hd⟩ := h
  match ars, ha with
  | [⟨b0, s0⟩, ⟨b1, s1⟩], _ =>
    obtain ⟨_, h0, ⟨h1, _⟩⟩ := hai 0 (by simp)
    obtain ⟨_, h2, ⟨h3, _⟩⟩ := hai 1 (by simp)
    obtain ⟨A0, c0, e0, i0, _, i1⟩ := bytes_of_r h0
    obtain ⟨A1, c1, e1, j0, _, j1⟩ := bytes_of_r h2
    refine ⟨⟨A0, b0.length, c0, A1, b1.length, c1⟩, ⟨⟨b0, s0⟩, ⟨b1, s1⟩, f, k, dn⟩, ?_, ⟨rfl, i0, i1, rfl, j0, j1⟩, hf2.2, hk2.2⟩
    unfold RBool at hd
    match cs, hl with
    | [x0, x1, x2, x3, x4, x5, x6], _ =>
      simp at e0 e1 h1 h3 hf1 hk1 hd
      simp [e0, e1, h1, h3, hf1, hk1, hd]
section
variable {H : Type} {enc : TypeId × Value → H} {W : World} {base b1 : Nat} {spare : Nat → Bool} {held : Bool} {r : Reach} {v : Value} {d : DataW H} {p : List MemPlace}
theorem open_shelf (hv : Value.okWide Tryz.prog W r base 39 v) (ht : DataW.Trod enc Tryz.prog W b1 spare held 39 v d p) : ∃ (x : WS) (s : ShK), v = aggS x s ∧ PreS W x s ∧ s.d.fuse ≤ 9223372036854775807 ∧ s.d.keep ≤ 9223372036854775807 ∧ s.num < 18446744073709551616 ∧ -9223372036854775808 ≤ s.turn ∧ s.turn ≤ 9223372036854775807 := by
  obtain ⟨cs, rfl, _⟩ := okWide_struct Tryz.underlying39 hv
  obtain ⟨fuel, hf⟩ := ht
  obtain ⟨⟨qd, tu, nu, qm⟩, hl, h0, ⟨e1, g1, g2⟩, ⟨e2, g3⟩, h3⟩ := opens_shelf enc W _ _ _ _ _ _ hf
  obtain ⟨xd, D, e0, hD, hfu, hke⟩ := disk_of_r h0
  obtain ⟨xm, m, e3, hm⟩ := memory_of_r h3
  refine ⟨⟨xd, xm⟩, ⟨D, tu, nu, m⟩, ?_, ⟨hD, hm⟩, hfu, hke, g3, g1, g2⟩
  unfold aggS
  congr 1
  apply Array.toList_inj.1
  simp only [Value.cells] at hl e0 e1 e2 e3
  match hcs : cs.toList, hl with
  | [x0, x1, x2, x3, x4, x5, x6, x7, x8, x9, x10, x11, x12, x13, x14, x15], _ =>
    rw [hcs] at e0 e1 e2 e3
    simp at e0 e1 e2 e3
    obtain ⟨a0, a1, a2, a3, a4, a5, a6⟩ := e0
    obtain ⟨c0, c1, c2, c3, c4, c5, c6⟩ := e3
    rw [a0, a1, a2, a3, a4, a5, a6, e1, e2, c0, c1, c2, c3, c4, c5, c6]
end
end Go.Proofs.YteppocjgodmpdaaGreatDoor
namespace Go.Proofs.YteppocjgodmpdaaGreatDoor
open Go.RowKit
end Go.Proofs.YteppocjgodmpdaaGreatDoor
namespace Go.Proofs.YteppocjgodmpdaaGreatDoor
open Go.RowKit Go.WideShapes
theorem shelfopens_any (v0 v1 v2 : Value) (W : World) {H : Type} {enc : TypeId × Value → H} {base : Nat} {d0 d1 d2 : DataW H} {p0 p1 p2 : List MemPlace} (hv0 : Value.okWide Tryz.prog W .any base 39 v0) (ht0 : DataW.Trod enc Tryz.prog W 0 (fun _ => true) true 39 v0 d0 p0)
    (hv1 : Value.okWide Tryz.prog W .any base 22 v1) (ht1 : DataW.Trod enc Tryz.prog W 0 (fun _ => true) true 22 v1 d1 p1) (hv2 : Value.okWide Tryz.prog W .any base 22 v2) (ht2 : DataW.Trod enc Tryz.prog W 0 (fun _ => true) true 22 v2 d2 p2) (hk : KTab W) :
    Calls Tryz.prog 6 #[v0, v1, v2] W fun e w' => e = .returned (.bool true) ∧ Below W.heap.size W w' := by
  obtain ⟨x, s, rfl, hx, _, _, hn, _, _⟩ := open_shelf hv0 ht0
  obtain ⟨l, A, c, rfl, hc, hm, hr⟩ := open_bytes hv1 ht1
  obtain ⟨m, B, d, rfl, hc1, hm1, hr1⟩ := open_bytes hv2 ht2
  exact shelfopens_walk x s l m _ c _ d A B W hx hn (Lib.hid rfl) hr (Lib.hid rfl) hr1 (by omega) (by omega) (Lib.hid hk)
end Go.Proofs.YteppocjgodmpdaaGreatDoor
