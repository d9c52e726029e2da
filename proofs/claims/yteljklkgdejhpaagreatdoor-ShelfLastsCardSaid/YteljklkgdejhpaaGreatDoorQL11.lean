/-
  What the program's calls Block, End and Sum of layer 2 answer. Condition: the package's table holds the sixty-four constants.
-/
import Derived.Test.YteljklkgdejhpaaGreatDoorQL10
set_option linter.unusedSimpArgs false
set_option linter.unusedVariables false
set_option maxRecDepth 100000
set_option maxHeartbeats 16000000
namespace Go.Proofs.YteljklkgdejhpaaGreatDoor
open Go.RowKit
theorem zlE (b : List UInt8) (many : Nat) (h : 64 ≤ b.length) : zdn b many = b.take 64 ++ zdn (b.drop 64) many := by
 unfold zdn
 rw [List.length_drop, show (b.length - 64) % 64 = b.length % 64 by omega, ← List.append_assoc, ← List.append_assoc, List.take_append_drop]
theorem zi1 [Inhabited Tab] (many : Nat) : ∀ (n : Nat) (s : St) (b : List UInt8), b.length ≤ n → s.from (zdn b many) = (s.from b).from (zdn (zdo b) many)
 | n, s, b, hn => by
  by_cases h : 64 ≤ b.length
  ·match n, hn with
   | 0, hn => omega
   | n + 1, hn =>
    rw [zlE b many h, zd2 s _ (by simp; omega), List.take_left' (by simp; omega), List.drop_left' (by simp; omega), zi1 many n _ (b.drop 64) (by simp; omega), zd2 s b h, zhm b h]
  ·rw [zgw s b h, zgy b (by omega)]
theorem zlF (S : St) (x y : Value) (W : World) : (Instr.field 232 (.agg #[.int .u32 (S.a.toNat : Int), .int .u32 (S.b.toNat : Int), .int .u32 (S.c.toNat : Int), .int .u32 (S.d.toNat : Int), .int .u32 (S.e.toNat : Int), .int .u32 (S.f.toNat : Int), .int .u32 (S.g.toNat : Int), .int .u32 (S.h.toNat : Int), x, y]) 0).run Tryz.prog W = .ok (.agg #[.int .u32 (S.a.toNat : Int), .int .u32 (S.b.toNat : Int), .int .u32 (S.c.toNat : Int), .int .u32 (S.d.toNat : Int), .int .u32 (S.e.toNat : Int), .int .u32 (S.f.toNat : Int), .int .u32 (S.g.toNat : Int), .int .u32 (S.h.toNat : Int)]) W := by kernel_rfl
theorem zpB [Inhabited Tab] (b : List UInt8) (A : Option Addr) (c : Nat) (w : World) (hr : Rd vB w A b) (hc : b.length ≤ c) (hl : b.length ≤ 9223372036854775807) (HK : Hid (KTab w)) :
  Calls Tryz.prog 173 #[.slice A b.length c] w (RetS vB w (sumL b)) := by
 go_enter Tryz.func173, Tryz.ntmps173
 go_wp2_with fail
 refine (znp _).mono ?_
 rintro e w1 ⟨S0, HS0, rfl, hb1⟩
 have hfd := zlF S0 (.slice none 0 0) (.int .u64 0)
 go_wp2_with fail
 clear hfd
 refine (zgz S0 b _ _ _ (hr.keep hb1) hc hl (Lib.hid (HK.out.keep hb1))).mono ?_
 rintro e w2 ⟨S, A2, c2, HS, rfl, hc2, hall, hb2⟩
 have hB := zaa hb1 hb2
 have hr2 := hall w2 (hr.keep hB)
 clear hall
 have HE : Hid (sumL b = zbx (S.from (zdn (zdo b) b.length)).toL) := by unfold Hid sumL; rw [zi1 b.length b.length zhY b (Nat.le_refl _), HS.out, HS0.out]
 have h64 : (zdo b).length < 64 := by rw [ziZ]; omega
 generalize zdo b = R at hc2 hr2 HE h64
 have h8 : (S.from (zdn R b.length)).toL.length = 8 := rfl
 generalize hL : (S.from (zdn R b.length)).toL = L at h8 HE
 have HL := Lib.hid hL
 have H8 := Lib.hid h8
 clear hL h8 hb1 hb2 HS
 go_wp2_with fail
 have hb3 : Below w2.heap.size w2 (w2.alloc (.cells #[.int .u32 (S.a.toNat : Int), .int .u32 (S.b.toNat : Int), .int .u32 (S.c.toNat : Int), .int .u32 (S.d.toNat : Int), .int .u32 (S.e.toNat : Int), .int .u32 (S.f.toNat : Int), .int .u32 (S.g.toNat : Int), .int .u32 (S.h.toNat : Int)] 228)) := zak (Below.refl _ _) _
 refine (zoF S R _ _ _ _ (hr2.keep hb3) h64 (by omega) (Lib.hid (HK.out.keep (zaa hB hb3)))).mono ?_
 replace hB := zaa hB hb3
 rintro e w3 ⟨A3, c3, rfl, hc3, hr3, hb4⟩
 rw [HL.out] at hc3 hr3 ⊢
 replace hB := zaa hB hb4
 clear hb3 hb4 hr2
 go_wp2_with fail
 refine (zmt L _ _ _ hr3 (by have := H8.out; omega)).mono ?_
 rintro e w4 ⟨A4, c4, rfl, hc4, hr4, hb5⟩
 go_wp2_with fail
 go_ret
 rw [HE.out]
 exact ⟨A4, c4, rfl, hc4, hr4, zaa hB hb5⟩
def fS [Inhabited Tab] (b : List UInt8) : List UInt8 := (sumL b).take 4
theorem zhn [Inhabited Tab] (b : List UInt8) : (sumL b).length = 32 := rfl
theorem zcr [Inhabited Tab] (b : List UInt8) : (fS b).length = 4 := by unfold fS; rw [List.length_take, zhn]; rfl
def zp1 (n : Nat) (w : World) (l : List UInt8) (e : Ending) (w' : World) : Prop := ∃ A cap, e = .returned (.slice A n cap) ∧ n ≤ cap ∧ Rd vB w' A l ∧ Below w.heap.size w w'
theorem zpC (n : Nat) (h : n ≤ 60000) : (putL n).drop 6 = [UInt8.ofNat (n / 256), UInt8.ofNat (n % 256)] := by
 have e : (putL n).drop 6 = [UInt8.ofNat (n / 256 ^ 1), UInt8.ofNat (n / 256 ^ 0)] := rfl
 rw [e, Nat.pow_one, Nat.pow_zero, Nat.div_one]
 congr 2
 apply UInt8.toNat_inj.1
 rw [UInt8.toNat_ofNat', UInt8.toNat_ofNat']
 omega
theorem zlG (t : List UInt8) (n : Nat) (w : World) (HN : Hid (t.length = n)) (hn : n ≤ 60000) : Calls Tryz.prog 151 #[.int .i64 (n : Int)] w (zp1 2 w (hdS t)) := by
 have h1 : IntKind.u64.wrap (n : Int) = (n : Int) := by rw [IntKind.wrap_u64]; omega
 have HP : Hid ((putL n).drop 6 = hdS t) := by unfold Hid hdS; rw [HN.out]; exact zpC n hn
 have H8 : Hid ((putL n).length = 8) := rfl
 go_enter Tryz.func151, Tryz.ntmps151
 go_wp2_with fail
 refine (zhH n (by omega) _).mono ?_
 rintro e' w2 ⟨A, c, rfl, hc, hr, hb⟩
 rw [H8.out] at hc ⊢
 obtain ⟨A1, hcut0, hrd⟩ := zeF (P := Tryz.prog) 22 5 Tryz.underlying22 za0 A 8 c 6 (by omega) hc
 have hcut : ∀ W, (Instr.slice 22 (.slice A 8 c) (some (.int .i64 6)) none none).run Tryz.prog W = .ok (.slice A1 2 (c - 6)) W := hcut0
 have hr1 := hrd vB w2 _ H8.out hr
 rw [HP.out] at hr1
 clear hcut0 hrd hr
 go_wp2_with fail
 go_ret
 exact ⟨A1, c - 6, rfl, by omega, hr1, hb⟩
theorem zi2 [Inhabited Tab] (b : List UInt8) (n : Nat) (A : Option Addr) (c : Nat) (w : World) (HN : Hid (b.length = n)) (hr : Rd vB w A b) (hc : n ≤ c) (hl : n ≤ 1000000000) (HK : Hid (KTab w)) :
  Calls Tryz.prog 152 #[.slice A n c] w (zp1 4 w (fS b)) := by
 have e := HN.out
 subst e
 have H32 : Hid ((sumL b).length = 32) := zhn b
 have HF : Hid ((sumL b).take 4 = fS b) := rfl
 go_enter Tryz.func152, Tryz.ntmps152
 go_wp2_with fail
 refine (zpB b A c w hr hc (by omega) HK).mono ?_
 rintro e' w2 ⟨A2, c2, rfl, hc2, hr2, hb⟩
 rw [H32.out] at hc2 ⊢
 have hcut : ∀ W, (Instr.slice 22 (.slice A2 32 c2) none (some (.int .i64 4)) none).run Tryz.prog W = .ok (.slice A2 4 c2) W := fun W => zcd (P := Tryz.prog) 22 5 Tryz.underlying22 za0 A2 32 c2 4 (by omega) W
 have hr4 := hr2.take 4
 rw [HF.out] at hr4
 clear hr2
 go_wp2_with fail
 go_ret
 exact ⟨A2, c2, rfl, by omega, hr4, hb⟩
theorem zgA (b : List UInt8) (n cn : Nat) (A : Option Addr) (c : Nat) (w : World) (HN : Hid (b.length = n)) (HC : Hid (cntS b = cn)) (hr : Rd vB w A b) (h2 : 2 ≤ n) :
  Calls Tryz.prog 161 #[.slice A n c] w fun e w' => e = .returned (.int .i64 ((2 + cn : Nat) : Int)) ∧ Below w.heap.size w w' := by
 have hlen := HN.out
 obtain ⟨blk, o, rfl, hblk, hcell⟩ := hr.at (k := 0) (by omega)
 have hc0 := hcell 0 (by omega)
 have hc1 := hcell 1 (by omega)
 have hcn : cn = 256 * (b[0]'(by omega)).toNat + (b[1]'(by omega)).toNat := by
  rw [← HC.out]
  unfold cntS
  rw [List.getD_eq_getElem?_getD, List.getElem?_eq_getElem (by omega), List.getD_eq_getElem?_getD, List.getElem?_eq_getElem (by omega)]
  rfl
 rw [Nat.add_zero] at hc0
 unfold vB at hc0 hc1
 have hx := b[0].toNat_lt
 have hy := b[1].toNat_lt
 generalize b[0].toNat = x at hc0 hcn hx
 generalize b[1].toNat = y at hc1 hcn hy
 have i1 : 0 < n := by omega
 have i2 : (1 : Int) < (n : Int) := by omega
 have i3 : 1 < n := by omega
 have HE : Hid (2 + (x : Int) * 256 + (y : Int) = ((2 + cn : Nat) : Int)) := by unfold Hid; omega
 have hc0' : ∀ W, Below w.heap.size w W → W.cell? ⟨blk, o, none⟩ = some (.int .u8 (x : Int)) := fun W hW => (hW.cell (p := ⟨blk, o, none⟩) hblk).trans hc0
 have hc1' : ∀ W, Below w.heap.size w W → W.cell? ⟨blk, o + 1, none⟩ = some (.int .u8 (y : Int)) := fun W hW => (hW.cell (p := ⟨blk, o + 1, none⟩) hblk).trans hc1
 clear hcell hr hcn hlen
 go_enter Tryz.func161, Tryz.ntmps161
 go_wp2_with fail
 have hBase : Below w.heap.size w w.drew := (Below.refl _ _).drew
 refine zaw (.step 0 false (.step 1 false (.step 2 false (.step 3 false (.step 4 false (.step 5 false (.step 6 false (.step 7 false (.step 8 false (.step 9 false (.step 10 false (.step 11 false (.nil))))))))))))) (by kernel_rfl) (by kernel_rfl) (by rfl) (by kernel_rfl) ?_
 iterate 12 (refine zae rfl (by rfl) (v := ?_) ?_ ?_; rotate_left 1; (intro W hW; have hW0 := zaa hBase hW; (try dsimp only at hW); go_simp <;> with_reducible rfl); simp only [List.getElem_toArray, List.getElem_cons_zero, List.getElem_cons_succ, Act.put, List.setIfInBounds_toArray, List.set_cons_zero, List.set_cons_succ])
 have w1 : IntKind.i64.wrap (x : Int) = (x : Int) := by rw [IntKind.wrap_i64]; omega
 have w2 : IntKind.i64.wrap ((x : Int) * 256) = (x : Int) * 256 := by rw [IntKind.wrap_i64]; omega
 have w3 : IntKind.i64.wrap (2 + (x : Int) * 256) = 2 + (x : Int) * 256 := by rw [IntKind.wrap_i64]; omega
 have w4 : IntKind.i64.wrap (y : Int) = (y : Int) := by rw [IntKind.wrap_i64]; omega
 have w5 : IntKind.i64.wrap (2 + (x : Int) * 256 + (y : Int)) = 2 + (x : Int) * 256 + (y : Int) := by rw [IntKind.wrap_i64]; omega
 have e : IntKind.i64.wrap (IntKind.i64.wrap (2 + IntKind.i64.wrap (IntKind.i64.wrap (x : Int) * 256)) + IntKind.i64.wrap (y : Int)) = ((2 + cn : Nat) : Int) := by
  rw [w1, w2, w3, w4, w5]
  exact HE.out
 clear w1 w2 w3 w4 w5
 rw [e]
 clear e
 refine zal ?_
 go_wp2_with fail
 go_ret
 exact ⟨rfl, hBase⟩
theorem zlH [Inhabited Tab] (b : List UInt8) (n : Nat) (A : Option Addr) (c : Nat) (w : World) (HN : Hid (b.length = n)) (hr : Rd vB w A b) (hc : n ≤ c) (hn : n ≤ 1000000000) (HK : Hid (KTab w)) :
  Calls Tryz.prog 160 #[.slice A n c] w fun e w' => e = .returned (.bool (zbE fS b)) ∧ Below w.heap.size w w' := by
 have HG : Hid (zbE fS b = _) := zn7 (f := fS) b
 have hcl := zpL b
 obtain ⟨G, hG⟩ : ∃ G, zbE fS b = G := ⟨_, rfl⟩
 obtain ⟨cn, hcn⟩ : ∃ cn, cntS b = cn := ⟨_, rfl⟩
 have HCN := Lib.hid hcn
 unfold Hid at HG
 rw [hG, hcn, HN.out] at HG
 rw [hG]
 rw [hcn] at hcl
 clear hG hcn
 by_cases h2 : 2 ≤ n
 ·have i1 : ¬ (n : Int) < 2 := by omega
  rw [decide_eq_true h2, Bool.true_and] at HG
  have HSA := Lib.hid (zgA b n cn A c w HN HCN hr h2)
  by_cases h6 : cn ≤ 60000
  ·rw [decide_eq_true h6, Bool.true_and] at HG
   have i2 : ¬ (60002 : Int) < ((2 + cn : Nat) : Int) := by omega
   by_cases h4 : 6 + cn ≤ n
   ·rw [decide_eq_true h4, Bool.true_and] at HG
    obtain ⟨E, hE⟩ : ∃ E, 2 + cn = E := ⟨_, rfl⟩
    have HE := Lib.hid hE
    rw [hE] at HG i2
    unfold Hid at HSA
    rw [hE] at HSA
    replace HSA := Lib.hid HSA
    have i3 : ¬ (n : Int) < (E : Int) + 4 := by omega
    have hT : Rd vB w A (b.take E) := hr.take E
    have HTL : Hid ((b.take E).length = E) := by unfold Hid; rw [List.length_take, HN.out]; omega
    obtain ⟨A2, hA2⟩ : ∃ A2, (if c = E then A else A.map (·.add (E * 1))) = A2 := ⟨_, rfl⟩
    have hD : Rd vB w A2 ((b.drop E).take 4) := by rw [← hA2]; exact (hr.drop E c (by rw [HN.out]; exact hc)).take 4
    have HDL : Hid (((b.drop E).take 4).length = 4) := by unfold Hid; rw [List.length_take, List.length_drop, HN.out]; omega
    have hc1 : ∀ W, (Instr.slice 22 (.slice A n c) none (some (.int .i64 (E : Int))) none).run Tryz.prog W = .ok (.slice A E c) W := fun W => zcd (P := Tryz.prog) 22 5 Tryz.underlying22 za0 A n c E (by omega) W
    have hc2 : ∀ W, (Instr.slice 22 (.slice A n c) (some (.int .i64 (E : Int))) (some (.int .i64 ((E : Int) + 4))) none).run Tryz.prog W = .ok (.slice A2 4 (c - E)) W := fun W => by
     have he : Tryz.prog.elem 22 = 5 := by simp [Program.elem, Tryz.underlying22]
     rw [run_slice_lh W 22 A n c (by rw [he]; exact Tryz.underlying22) .i64 .i64 (E : Int) ((E : Int) + 4) (by omega) (by omega) (by omega), he, za0]
     simp only [Result.andThen, sliced, Int.toNat_natCast]
     rw [show ((E : Int) + 4).toNat - E = 4 by omega, hA2]
    have hw4 : IntKind.i64.wrap ((E : Int) + 4) = (E : Int) + 4 := by rw [IntKind.wrap_i64]; omega
    generalize b.take E = T at hT HTL HG
    generalize (b.drop E).take 4 = D at hD HDL HG
    have HGG := Lib.hid HG
    have HFL : Hid ((fS T).length = 4) := zcr T
    clear HG hA2 hcl h2 h6 h4 hE hr
    go_enter Tryz.func160, Tryz.ntmps160
    go_wp2_with fail
    refine HSA.out.mono ?_
    rintro e w1 ⟨rfl, hb1⟩
    replace hT := hT.keep hb1
    replace hD := hD.keep hb1
    have HK1 := Lib.hid (HK.out.keep hb1)
    go_wp2_with fail
    have hBase : Below w1.heap.size w1 w1.drew := (Below.refl _ _).drew
    refine zaw (.step 0 false (.step 1 false (.step 2 false (.step 4 false (.step 5 false (.step 6 false (.step 7 false (.step 8 false (.step 3 true (.step 9 true (.step 10 false (.nil)))))))))))) (by kernel_rfl) (by kernel_rfl) (by rfl) (by kernel_rfl) ?_
    iterate 8 (refine zae rfl (by rfl) (v := ?_) ?_ ?_; rotate_left 1; (intro W hW; have hW0 := zaa hBase hW; (try dsimp only at hW); go_simp <;> with_reducible rfl); simp only [List.getElem_toArray, List.getElem_cons_zero, List.getElem_cons_succ, Act.put, List.setIfInBounds_toArray, List.set_cons_zero, List.set_cons_succ])
    (refine zaI rfl (by rfl) (fun K hK => ?_); go_simp; (refine (zi2 T E _ _ _ HTL (hT.keep hBase) (by omega) (by omega) (Lib.hid (HK1.out.keep hBase))).mono ?_; rintro e w2 ⟨A3, c3, rfl, hc3, hr3, hbx⟩); refine hK.out _ _ hbx ?_; clear hK K; replace hBase := zaa hBase hbx)
    generalize fS T = X at hr3 HGG HFL
    (refine zaI rfl (by rfl) (fun K hK => ?_); go_simp; (refine (zgk X D 4 4 _ _ _ _ _ HFL HDL hr3 (hD.keep hBase)).mono ?_; rintro e w3 ⟨rfl, rfl⟩; have hbx := Below.refl w2.heap.size w2); refine hK.out _ _ hbx ?_; clear hK K; replace hBase := zaa hBase hbx)
    rw [← HGG.out]
    iterate 1 (refine zae rfl (by rfl) (v := ?_) ?_ ?_; rotate_left 1; (intro W hW; have hW0 := zaa hBase hW; (try dsimp only at hW); go_simp <;> with_reducible rfl); simp only [List.getElem_toArray, List.getElem_cons_zero, List.getElem_cons_succ, Act.put, List.setIfInBounds_toArray, List.set_cons_zero, List.set_cons_succ])
    refine zal ?_
    go_wp2_with fail
    go_ret
    exact ⟨rfl, zaa hb1 hBase⟩
   ·have i3 : (n : Int) < ((2 + cn : Nat) : Int) + 4 := by omega
    have hGf : G = false := by rw [HG, decide_eq_false h4, Bool.false_and]
    subst hGf
    generalize ((2 + cn : Nat) : Int) = E at i2 i3 HSA
    clear HG hcl h2 h6 h4
    go_enter Tryz.func160, Tryz.ntmps160
    go_wp2_with fail
    refine HSA.out.mono ?_
    rintro e w1 ⟨rfl, hb1⟩
    go_wp2_with fail
    go_ret
    exact ⟨rfl, hb1⟩
  ·have i2 : (60002 : Int) < ((2 + cn : Nat) : Int) := by omega
   have hGf : G = false := by rw [HG, decide_eq_false h6, Bool.false_and]
   subst hGf
   generalize ((2 + cn : Nat) : Int) = E at i2 HSA
   clear HG hcl h2 h6
   go_enter Tryz.func160, Tryz.ntmps160
   go_wp2_with fail
   refine HSA.out.mono ?_
   rintro e w1 ⟨rfl, hb1⟩
   go_wp2_with fail
   go_ret
   exact ⟨rfl, hb1⟩
 ·have i1 : (n : Int) < 2 := by omega
  have hGf : G = false := by rw [HG, decide_eq_false h2, Bool.false_and]
  subst hGf
  clear HG hcl
  go_enter Tryz.func160, Tryz.ntmps160
  go_wp2_with fail
  go_ret
  exact ⟨rfl, Below.refl _ _⟩
def zp2 [Inhabited Tab] (b : List UInt8) (w : World) (i : Value) (wr : World) : Prop :=
 ∃ k : Nat, i = .int .i64 (k : Int) ∧ k + (zaP fS (b.drop k)).2 = (zaP fS b).2 ∧ Below w.heap.size w wr
theorem zj5 [Inhabited Tab] (b : List UInt8) (n : Nat) (A : Option Addr) (c : Nat) (w : World) (HN : Hid (b.length = n)) (hr : Rd vB w A b) (hc : n ≤ c) (hn : n ≤ 1000000000) (HK : Hid (KTab w)) :
  Calls Tryz.prog 131 #[.slice A n c] w fun e w' => e = .returned (.int .i64 ((zaP fS b).2 : Int)) ∧ Below w.heap.size w w' := by
 have HLE : Hid ((zaP fS b).2 ≤ n) := by have := zoT (f := fS) b; rw [HN.out] at this; exact this
 go_enter Tryz.func131, Tryz.ntmps131
 go_wp2_with fail
 go_loopw [3] (fun i wr => zp2 b w i wr) (fun i _ => n - (intOf i).toNat)
 case atStart => exact ⟨0, rfl, by rw [Nat.zero_add]; rfl, Below.refl _ _⟩
 case round =>
  obtain ⟨k, rfl, hk, hB⟩ := hrel
  have hkn : k ≤ n := by have := HLE.out; omega
  obtain ⟨A2, hcut, hrd⟩ := zeF (P := Tryz.prog) 22 5 Tryz.underlying22 za0 A n c k hkn hc
  have hr2 := (hrd vB w b HN.out hr).keep hB
  obtain ⟨d, hd⟩ : ∃ d, b.drop k = d := ⟨_, rfl⟩
  have HD : Hid (d.length = n - k) := by unfold Hid; rw [← hd, List.length_drop, HN.out]
  have HDD := Lib.hid hd
  rw [hd] at hk hr2
  have HST := Lib.hid (zlH d (n - k) A2 (c - k) wr HD hr2 (by omega) (by omega) (Lib.hid (HK.out.keep hB)))
  have HR2 := Lib.hid hr2
  cases hG : zbE fS d with
  | true =>
   have hst := zdg hG
   obtain ⟨g1, g2, g3, g4⟩ := zbF hG
   rw [HD.out] at g1 g3
   rw [hst] at hk
   obtain ⟨q, hq⟩ : ∃ q, cntS d = q := ⟨_, rfl⟩
   rw [hq] at hk g2 g3
   have HQ := Lib.hid hq
   rw [hG] at HST
   have HNX : Hid (∀ w1, Below w.heap.size w w1 → zp2 b w (.int .i64 ((k : Int) + (((2 + q : Nat) : Int) + 4))) w1) := fun w1 hw1 => by
    refine ⟨k + (6 + q), by go_num, ?_, hw1⟩
    rw [← hk, ← List.drop_drop, HDD.out, Nat.add_assoc]
   clear hk hst hG hd hrd g4 hr2 hr hq
   go_wp2_with fail
   refine HST.out.mono ?_
   rintro e w1 ⟨rfl, hb1⟩
   have hr3 := HR2.out.keep hb1
   replace hB := zaa hB hb1
   go_wp2_with fail
   refine (zgA d (n - k) q A2 (c - k) _ HD HQ hr3 (by omega)).mono ?_
   rintro e w2 ⟨rfl, hb2⟩
   replace hB := zaa hB hb2
   have HX := Lib.hid (HNX.out _ hB)
   have HM : Hid (n - (k + (6 + q)) < n - k) := by unfold Hid; omega
   clear HNX hr3 hB hb1 hb2
   go_wp2_with fail
   go_roundw
   case rel => exact HX.out
   case measure => have := HM.out; simp [intOf]; omega
  | false =>
   rw [zc4 hG, Nat.add_zero] at hk
   subst hk
   rw [hG] at HST
   clear hG hd hrd hr2 hr
   go_wp2_with fail
   refine HST.out.mono ?_
   rintro e w1 ⟨rfl, hb1⟩
   replace hB := zaa hB hb1
   go_wp2_with fail
   go_ret
   exact ⟨rfl, hB⟩
theorem znt : (Tryz.prog.info? 22).map (fun i => (i.zero, i.size, i.bytes)) = some (some (.slice none 0 0), 1, 24) := by kernel_rfl
theorem zlI (w : World) (v : Value) (e : TypeId) (j : Nat) (u : Value) (h : [v][j]? = some u) : (w.alloc (.cells #[v] e)).cell? ((⟨w.heap.size, 0, none⟩ : Addr).add j) = some u := zh9 w #[v] e j u h
def TxC (w : World) (base : Nat) (v : Value) (ts : List (List UInt8)) : Prop :=
 ∃ ps : List Part, w.ownsRow base 22 1 v ps.length (ps.map zeK) ∧ ps.map (·.l) = ts ∧ (∀ p ∈ ps, Rd vB w p.A p.l) ∧ ∀ p ∈ ps, p.l.length ≤ p.cap
def zp3 (w : World) (ts : List (List UInt8)) (e : Ending) (w' : World) : Prop := ∃ v, e = .returned v ∧ TxC w' w.heap.size v ts ∧ Below w.heap.size w w'
def zo2 [Inhabited Tab] (b : List UInt8) (n : Nat) (A0 : Option Addr) (w : World) (s l : Value) (wr : World) : Prop :=
 ∃ (k : Nat) (d : List UInt8) (ps : List Part) (A : Option Addr) (c : Nat), s = .slice A (n - k) c ∧ k ≤ n ∧ n - k ≤ c ∧ Hid (d = b.drop k) ∧ Hid (∀ W, Rd vB W A0 b → Rd vB W A d) ∧ Hid (ps.map (·.l) ++ (zaP fS d).1 = (zaP fS b).1) ∧ Hid ((zaP fS d).2 = d.length) ∧
  ps.length ≤ k ∧ Hid (∀ p ∈ ps, ∀ W, Rd vB W A0 b → Rd vB W p.A p.l) ∧ Hid (∀ p ∈ ps, p.l.length ≤ p.cap) ∧ wr.ownsRow w.heap.size 22 1 l ps.length (ps.map zeK) ∧ Below w.heap.size w wr
theorem znu [Inhabited Tab] (b : List UInt8) (n : Nat) (A : Option Addr) (c : Nat) (w : World) (HN : Hid (b.length = n)) (hr : Rd vB w A b) (hc : n ≤ c) (hn : n ≤ 1000000000) (HW : Hid ((zaP fS b).2 = n)) :
  Calls Tryz.prog 132 #[.slice A n c] w (zp3 w (zaP fS b).1) := by
 obtain ⟨i0, hi, hz0, hz1, hz2⟩ := info_parts znt
 go_enter Tryz.func132, Tryz.ntmps132
 go_wp2_with fail
 go_loopw [0, 3] (fun s l wr => zo2 b n A w s l wr) (fun s _ _ => zea s)
 case atStart => exact ⟨0, b, [], A, c, rfl, Nat.zero_le _, hc, rfl, fun _ h => h, rfl, by unfold Hid; rw [HW.out, HN.out], Nat.le_refl _, (fun p hp => by cases hp), (fun p hp => by cases hp), World.ownsRow_nil _ _ _ _, Below.refl _ _⟩
 case round =>
  clear hc
  obtain ⟨k, d, ps, A1, c1, rfl, hk, hc1, HDK, HA, HT, HWd, hpk, HP, HPC, hown, hB⟩ := hrel
  have HDL : Hid (d.length = n - k) := by unfold Hid; rw [HDK.out, List.length_drop, HN.out]
  by_cases hkn : k < n
  ·have hG : zbE fS d = true := zkT HWd.out (by rw [HDL.out]; omega)
   have hst := zdg hG
   obtain ⟨g1, g2, g3, g4⟩ := zbF hG
   rw [HDL.out] at g1 g3
   obtain ⟨q, hq⟩ : ∃ q, cntS d = q := ⟨_, rfl⟩
   have HQ := Lib.hid hq
   rw [hq] at hst g2 g3
   obtain ⟨d2, hd2⟩ : ∃ d2, d.drop (6 + q) = d2 := ⟨_, rfl⟩
   rw [hd2] at hst
   obtain ⟨t, ht⟩ : ∃ t, zcX d = t := ⟨_, rfl⟩
   rw [ht] at hst
   have HTL : Hid (t.length = q) := by unfold Hid; rw [← ht, ← hq]; exact zjf (by rw [hq, HDL.out]; exact g3)
   obtain ⟨E, hE⟩ : ∃ E, 2 + q = E := ⟨_, rfl⟩
   have HE := Lib.hid hE
   have hgt : (0 : Int) < ((n - k : Nat) : Int) := by omega
   have HW4 : Hid (wrap64 ((E : Int) + 4) = (E : Int) + 4) := by unfold Hid wrap64; omega
   obtain ⟨A2, hA2⟩ : ∃ A2, (if E = 2 then A1 else A1.map (·.add (2 * 1))) = A2 := ⟨_, rfl⟩
   have hs1 : ∀ W, (Instr.slice 22 (.slice A1 (n - k) c1) (some (.int .i64 2)) (some (.int .i64 (E : Int))) (some (.int .i64 (E : Int)))).run Tryz.prog W = .ok (.slice A2 q q) W := fun W => by
    have he : Tryz.prog.elem 22 = 5 := by simp [Program.elem, Tryz.underlying22]
    rw [run_slice_lhm W 22 A1 (n - k) c1 (by rw [he]; exact Tryz.underlying22) .i64 .i64 .i64 2 (E : Int) (E : Int) (by omega) (by omega) (by omega) (by omega), he, za0]
    simp only [Result.andThen, sliced, Int.toNat_natCast]
    have e2 : (2 : Int).toNat = 2 := rfl
    rw [e2, hA2, show E - 2 = q by omega]
   have HA2 : Hid (∀ W, Rd vB W A b → Rd vB W A2 t) := fun W h => by
    have h1 := ((HA.out W h).take E).drop 2 E (by rw [List.length_take]; omega)
    rw [hA2] at h1
    have e : (d.take E).drop 2 = t := by
     rw [← ht, ← hE, List.drop_take]
     unfold zcX
     rw [hq, show 2 + q - 2 = q by omega]
    rw [e] at h1
    exact h1
   obtain ⟨A3, hcut, hrd⟩ := zeF (P := Tryz.prog) 22 5 Tryz.underlying22 za0 A1 (n - k) c1 (6 + q) (by omega) hc1
   have hs2 : ∀ W, (Instr.slice 22 (.slice A1 (n - k) c1) (some (.int .i64 ((E : Int) + 4))) none none).run Tryz.prog W = .ok (.slice A3 (n - (k + (6 + q))) (c1 - (6 + q))) W := fun W => by
    have := hcut W
    rw [show ((6 + q : Nat) : Int) = (E : Int) + 4 by omega, show n - k - (6 + q) = n - (k + (6 + q)) by omega] at this
    exact this
   have HA3 : Hid (∀ W, Rd vB W A b → Rd vB W A3 d2) := fun W h => by rw [← hd2]; exact hrd vB W d HDL.out (HA.out W h)
   have HSA : Hid (∀ W, Rd vB W A1 d → Calls Tryz.prog 161 #[.slice A1 (n - k) c1] W fun e w' => e = .returned (.int .i64 (E : Int)) ∧ Below W.heap.size W w') := fun W h => by
    have := zgA d (n - k) q A1 c1 W HDL HQ h (by omega)
    rw [hE] at this
    exact this
   have hrel2 : Hid (∀ l w1, w1.ownsRow w.heap.size 22 1 l (ps.length + 1) (ps.map zeK ++ [.slice A2 q q]) → Below w.heap.size w w1 → zo2 b n A w (.slice A3 (n - (k + (6 + q))) (c1 - (6 + q))) l w1) := fun l w1 ho hb => by
    refine ⟨k + (6 + q), d2, ps ++ [⟨A2, q, t⟩], A3, c1 - (6 + q), rfl, by omega, by omega, ?_, HA3.out, ?_, ?_, ?_, ?_, ?_, ?_, hb⟩
    ·unfold Hid
     rw [← hd2, HDK.out, List.drop_drop]
    ·unfold Hid
     rw [List.map_append, ← HT.out, hst, List.append_assoc]
     rfl
    ·have := HWd.out
     unfold Hid
     rw [hst] at this
     dsimp only at this
     rw [← hd2, List.length_drop] at *
     omega
    ·rw [List.length_append]
     simp only [List.length_cons, List.length_nil]
     omega
    ·intro p hp W h
     rcases List.mem_append.1 hp with hp | hp
     ·exact HP.out p hp W h
     ·rw [List.mem_singleton.1 hp]
      exact HA2.out W h
    ·intro p hp
     rcases List.mem_append.1 hp with hp | hp
     ·exact HPC.out p hp
     ·rw [List.mem_singleton.1 hp]
      exact Nat.le_of_eq HTL.out
    ·rw [List.length_append, List.map_append]
     have : [(⟨A2, q, t⟩ : Part)].map zeK = [.slice A2 q q] := by simp [zeK, HTL.out]
     rw [this]
     exact ho
   have HSZ : Hid (n - (k + (6 + q)) < n - k) := by unfold Hid; omega
   have hrw := HA.out w hr
   clear hst hG g4 hd2 ht hE hA2 hcut hrd hq
   go_wp2_with fail
   refine (HSA.out _ (hrw.keep hB)).mono ?_
   rintro e w1 ⟨rfl, hb1⟩
   replace hown := zam hown hb1
   replace hB := zaa hB hb1
   have hbs := hB.size
   have hw4 := HW4.out
   go_wp2_with (at_builtin; refine wpList_append_own _ rfl _ _ 110 rfl w.heap.size 22 i0 (.slice none 0 0) 1 24 Tryz.underlying110 hi hz0 hz1 hz2 rfl (by decide) _ _ _ rfl (hown.alloc _) ⟨w1.heap.size, 0, none⟩ 1 1 [.slice A2 q q] rfl rfl (zlI _ _ _) (by intro u hu; simp at hu; subst hu; rfl) (by unfold maxLen; omega) (by omega) (by simp; omega) ?_; intro v' w3 hown' hgrow' _)
   have HR := Lib.hid (hrel2.out _ _ hown' ((hB.alloc hB.size _).grown hgrow' (by simp; omega) (fun g hk => (hown.lt g hk).1)))
   clear hown' hgrow' hown hB hrel2 hb1
   go_roundw
   case rel => exact HR.out
   case measure => have := HSZ.out; simp [zea]; omega
  ·have hkk : k = n := by omega
   subst hkk
   have hd0 : d = [] := List.eq_nil_of_length_eq_zero (by rw [HDL.out]; omega)
   have hT := HT.out
   have e0 : zaP fS ([] : List UInt8) = ([], 0) := zc4 (by rfl)
   rw [hd0, e0] at hT
   dsimp only at hT
   rw [List.append_nil] at hT
   have hle : ¬ (0 : Int) < ((k - k : Nat) : Int) := by omega
   have HTT := Lib.hid hT
   have HRR : Hid (∀ p ∈ ps, Rd vB wr p.A p.l) := fun p hp => HP.out p hp wr (hr.keep hB)
   clear hT e0
   go_wp2_with fail
   go_ret
   exact ⟨_, rfl, ⟨ps, hown, HTT.out, HRR.out, HPC.out⟩, hB⟩
theorem TxC.base {w : World} {b1 b2 : Nat} {v : Value} {ts : List (List UInt8)} (h : TxC w b1 v ts) (hb : b2 ≤ b1) : TxC w b2 v ts := by
 obtain ⟨ps, h1, h2, h3, h4⟩ := h
 exact ⟨ps, zd9 h1 hb, h2, h3, h4⟩
def zpD (w : World) (ts : List (List UInt8)) (m : Nat) (e : Ending) (w' : World) : Prop := ∃ v, e = .returned (.tuple #[v, .int .i64 (m : Int)]) ∧ TxC w' w.heap.size v ts ∧ Below w.heap.size w w'
theorem zlJ [Inhabited Tab] (b : List UInt8) (n : Nat) (A : Option Addr) (c : Nat) (w : World) (HN : Hid (b.length = n)) (hr : Rd vB w A b) (hc : n ≤ c) (hn : n ≤ 1000000000) (HK : Hid (KTab w)) :
  Calls Tryz.prog 96 #[.slice A n c] w (zpD w (zaP fS b).1 (zaP fS b).2) := by
 obtain ⟨h1, h2⟩ := zo7 zcr b
 have hle := zoT (f := fS) b
 rw [HN.out] at hle
 have HZ := Lib.hid (zj5 b n A c w HN hr hc hn HK)
 generalize (zaP fS b).1 = ts at *
 generalize (zaP fS b).2 = m at *
 have hr2 : Rd vB w A (b.take m) := hr.take m
 generalize b.take m = s at h1 h2 hr2
 have H1 := Lib.hid h1
 have H2 := Lib.hid h2
 have hcut : ∀ W, (Instr.slice 22 (.slice A n c) none (some (.int .i64 (m : Int))) none).run Tryz.prog W = .ok (.slice A m c) W := fun W => zcd (P := Tryz.prog) 22 5 Tryz.underlying22 za0 A n c m (by omega) W
 have HTX : Hid (∀ A2 c2 W, Rd vB W A2 s → m ≤ c2 → Calls Tryz.prog 132 #[.slice A2 m c2] W (zp3 W ts)) := fun A2 c2 W h3 h4 => by
  have := znu s m A2 c2 W H2 h3 h4 (by omega) (by unfold Hid; rw [H1.out])
  rw [H1.out] at this
  exact this
 have HCL : Hid (∀ W, Below w.heap.size w W → Calls Tryz.prog 90 #[.slice A m c] W (RetN vB W s)) := fun W hW => by
  have := zmu s A c W (hr2.keep hW) (by rw [H2.out]; omega)
  rw [H2.out] at this
  exact this
 clear h1 h2 hr2 hr HK
 go_enter Tryz.func96, Tryz.ntmps96
 go_wp2_with fail
 refine HZ.out.mono ?_
 rintro e w1 ⟨rfl, hB⟩
 go_wp2_with fail
 refine (HCL.out _ hB).mono ?_
 rintro e w2 ⟨A2, c2, rfl, hc2, hr2, _, hb2⟩
 rw [H2.out] at hc2 ⊢
 replace hB := zaa hB hb2
 have hz := hB.size
 go_wp2_with fail
 refine (HTX.out A2 c2 _ hr2 hc2).mono ?_
 rintro e w3 ⟨v3, rfl, htx, hb3⟩
 replace hB := zaa hB hb3
 go_wp2_with fail
 go_ret2
 exact ⟨v3, rfl, htx.base hz, hB⟩
def zoG (w : World) (l : List UInt8) (k : Int) (e : Ending) (w' : World) : Prop := ∃ v, e = .returned (.tuple #[v, .int .i64 k]) ∧ w'.ownsRow w.heap.size 5 1 v l.length (l.map vB) ∧ Below w.heap.size w w'
theorem znv [Inhabited Tab] (t : List UInt8) (n : Nat) (A : Option Addr) (c : Nat) (w : World) (HN : Hid (t.length = n)) (hr : Rd vB w A t) (hn : n ≤ 60000) (HK : Hid (KTab w)) :
  Calls Tryz.prog 107 #[.slice A n c] w (zoG w (zas fS t) 0) := by
 obtain ⟨i0, hi, hz0, hz1, hz2⟩ := info_parts zcx
 have i1 : ¬ (60000 : Int) < (n : Int) := by omega
 obtain ⟨T, hT⟩ : ∃ T, hdS t ++ t = T := ⟨_, rfl⟩
 have HS : Hid (zas fS t = T ++ fS T) := by unfold Hid zas; rw [hT]
 have HT : Hid (T = hdS t ++ t) := hT.symm
 have H2 : Hid ((hdS t).length = 2) := rfl
 have HTL : Hid (T.length = n + 2) := by unfold Hid; rw [← hT, List.length_append, H2.out, HN.out, Nat.add_comm]
 have HHD := Lib.hid (fun W => zlG t n W HN hn)
 have H4 : Hid ((fS T).length = 4) := zcr T
 generalize hdS t = hd at HT H2 HHD
 clear hT
 go_enter Tryz.func107, Tryz.ntmps107
 go_wp2_with fail
 refine (HHD.out _).mono ?_
 rintro e w1 ⟨A1, c1, rfl, hc1, hr1, hB⟩
 go_wp2_with fail
 have hP : Rd zeK (w1.alloc (.cells #[.slice A1 2 c1, .slice A n c] 22)) (some ⟨w1.heap.size, 0, none⟩) [⟨A1, c1, hd⟩, ⟨A, c, t⟩] := Rd.new_at w1 _ rfl _ _ _ (by simp [zeK, H2.out, HN.out])
 have hb2 := zak (Below.refl _ w1) (.cells #[.slice A1 2 c1, .slice A n c] 22)
 refine (zgM hd t T A1 A c1 c _ _ _ HT hP (hr1.keep hb2) (hr.keep (zaa hB hb2)) (by rw [HTL.out]; omega)).mono ?_
 rintro e w3 ⟨v3, rfl, hown, hb3⟩
 replace hown := zd9 hown (Nat.le_trans hB.size hb2.size)
 replace hB := zaa (zaa hB hb2) hb3
 clear hP hb2 hb3 hr1
 obtain ⟨A3, c3, rfl, hc3, hr3⟩ := zbk hown
 rw [HTL.out] at hc3 hown ⊢
 go_wp2_with fail
 refine (zi2 T (n + 2) A3 c3 _ HTL hr3 hc3 (by omega) (Lib.hid (HK.out.keep hB))).mono ?_
 rintro e w4 ⟨A4, c4, rfl, hc4, hr4, hb4⟩
 replace hown := zam hown hb4
 replace hB := zaa hB hb4
 have hbs := hB.size
 clear hr3 hb4
 generalize fS T = F at hr4 H4 HS
 go_wp2_with (at_builtin; refine zcw _ rfl (.tmp 14) (.tmp 16) 22 rfl w.heap.size 5 i0 (.int .u8 0) 1 Tryz.underlying22 hi hz0 hz1 hz2 rfl _ _ _ rfl hown A4 F c4 (by rw [H4.out]; rfl) hr4 zbt (by rw [H4.out]; unfold maxLen; omega) (by rw [H4.out]; omega) hbs ?_; intro v5 w5 hown5 hgrow5)
 have hB5 := hB.grown hgrow5 hbs (fun g hk => (hown.lt g hk).1)
 go_ret2
 refine ⟨v5, rfl, ?_, hB5⟩
 rw [HS.out, List.length_append, List.map_append, HTL.out]
 exact hown5
theorem znw (m : MemK) (r : List UInt8) : zbT m (85 :: r) = useG m r := zm8
theorem znx (m : MemK) (r : List UInt8) : zbT m (78 :: r) = bunG m r := by
 rw [zm9]
 unfold bunG
 cases allB r <;> rfl
def zqp (w : World) (x : WM) (G : Option MemK) (e : Ending) (w' : World) : Prop :=
 ∃ x' m' er, e = .returned (.tuple #[aggM x' m', .int .i64 er]) ∧ InM w' x' m' ∧ (∀ lo hi, hi ≤ w.heap.size → OffM lo hi x → OffM lo hi x') ∧ Hid (er = 0 → G = some m') ∧ Hid (er ≠ 0 → G = none) ∧ Below w.heap.size w w'
theorem zlK (x : WM) (m : MemK) (b : List UInt8) (n : Nat) (A : Option Addr) (c : Nat) (w : World) (h : InM w x m) (HN : Hid (b.length = n)) (hr : Rd vB w A b) (hc : n ≤ c) (hn : n ≤ 1000000) :
  Calls Tryz.prog 98 #[aggM x m, .slice A n c] w (zqp w x (zbT m b)) := by
 have hA := hr.off
 have HI := Lib.hid h
 have HOF := Lib.hid (fun hi => h.off hi)
 obtain ⟨hR0, hR1, hR2, hB⟩ := za8 w 37 37 186 (lM x m) l0M [.slice A n c, .int .i64 0] _ _ _ rfl rfl rfl
 clear h
 unfold aggM
 go_enter Tryz.func98, Tryz.ntmps98
 go_upto_region 2 with fail
 generalize ((w.alloc (.cells (lM x m).toArray 37)).alloc (.cells l0M.toArray 37)).alloc (.cells [.slice A n c, .int .i64 0].toArray 186) = W0 at hR0 hR1 hR2 hB ⊢
 have hT : RdRF (w.heap.size + 1 + 1) 0 b W0 := ⟨b, n, ⟨A, c, hR2, HN, hc, hr.keep hB, fun h0 a ha => by have := hA h0 a ha; omega⟩, hn, fun _ => rfl⟩
 clear hr hA hR2
 obtain ⟨g, hg⟩ : ∃ g, g = w.heap.size + 1 + 1 := ⟨_, rfl⟩
 rw [← hg] at hT ⊢
 have hgw : w.heap.size + 1 < g := by omega
 have HGE := Lib.hid hg
 clear hg
 cases b with
 | nil =>
  have HGN : Hid (zbT m [] = none) := zna (by decide) (by decide)
  have HON := Lib.hid (zgf g 0 [] W0 hT)
  rw [zhX] at HON
  clear hT
  go_wp2_with fail
  refine HON.out.mono ?_
  rintro e w1 ⟨rfl, hT1, hO⟩
  dsimp only
  replace hR0 := hR0.only hO (by omega)
  replace hR1 := hR1.only hO (by omega)
  replace hB := hB.trans (hO.below.mono (by omega))
  clear hT1 hO HON
  go_wp2_with (first
   | (refine zac rfl 37 (.tmp 2) rfl (w.heap.size) 0 rfl _ _ (hR0) ((lM x m)) (by rfl) _ Tryz.underlying37 rfl (by exact zai) ?_)
   | (refine zab rfl 37 (.tmp 4) (.tmp 26) rfl (w.heap.size + 1) rfl ((lM x m)) rfl _ _ (hR1) (by exact zai) rfl (zaq x m) ?_))
  refine bodyPost_ret (zag (p := 4) (u := 5) (ty := 37) (by rfl) _ _ (w.heap.size + 1) 37 _ _ (by rfl) (by exact hR1.setRow _) Tryz.underlying37 (by rfl) (by exact zai)) (by rfl) ?_
  have hBf := below_setRow hB (show w.heap.size ≤ w.heap.size + 1 by omega) (lM x m).toArray
  refine ⟨x, m, 3, rfl, HI.out.keep hBf, (fun _ _ _ ho => ho), fun h0 => absurd h0 (by decide), fun _ => HGN.out, hBf⟩
 | cons y r =>
  have HON := Lib.hid (zgf g 0 (y :: r) W0 hT)
  rw [zgo] at HON
  clear hT
  by_cases h85 : y = 85
  ·subst h85
   have HG := Lib.hid (znw m r)
   rw [show (85 : UInt8).toNat = 85 from rfl] at HON
   go_wp2_with fail
   refine HON.out.mono ?_
   rintro e w1 ⟨rfl, hT1, hO⟩
   dsimp only at hT1 ⊢
   replace hR0 := hR0.only hO (by omega)
   replace hR1 := hR1.only hO (by omega)
   replace hB := hB.trans (hO.below.mono (by omega))
   have hgl := hT1.lt
   have HUS := Lib.hid (znk x m w.heap.size g r w1 (HI.out.keep hB) (HOF.out _) (by omega) hT1)
   unfold aggM at HUS
   clear hT1 hO HON
   go_wp2_with (refine zac rfl 37 (.tmp 2) rfl (w.heap.size) 0 rfl _ _ (hR0) ((lM x m)) (by rfl) _ Tryz.underlying37 rfl (by exact zai) ?_)
   refine HUS.out.mono ?_
   rintro e w2 ⟨x', m', er, rfl, hI2, hf2, he1, he2, hO⟩
   unfold aggM
   replace hR1 := hR1.only hO (by omega)
   have hoff2 := hf2 w.heap.size _ (Nat.le_refl _) (HOF.out _)
   have hB2 := hB.trans (hO.below.mono (by omega))
   clear hR0 HUS hO hB
   go_wp2_with (refine zab rfl 37 (.tmp 4) (.tmp 17) rfl (w.heap.size + 1) rfl ((lM x' m')) rfl _ _ (hR1) (by exact zai) rfl (zaq x' m') ?_)
   refine bodyPost_ret (zag (p := 4) (u := 5) (ty := 37) (by rfl) _ _ (w.heap.size + 1) 37 _ _ (by rfl) (by exact hR1.setRow _) Tryz.underlying37 (by rfl) (by exact zai)) (by rfl) ?_
   have hO7 := (Only.refl (w.heap.size + 1) w2).setRow (lM x' m').toArray
   refine ⟨x', m', er, rfl, hI2.at_only hO7 hoff2 (by omega) (by omega), (fun lo hi hh ho => hf2 lo hi (by omega) ho), fun h0 => by rw [HG.out]; exact he1.out h0, fun h0 => by rw [HG.out]; exact he2.out h0, below_setRow hB2 (by omega) _⟩
  ·by_cases h78 : y = 78
   ·subst h78
    have HG := Lib.hid (znx m r)
    rw [show (78 : UInt8).toNat = 78 from rfl] at HON
    clear h85
    go_wp2_with fail
    refine HON.out.mono ?_
    rintro e w1 ⟨rfl, hT1, hO⟩
    dsimp only at hT1 ⊢
    replace hR0 := hR0.only hO (by omega)
    replace hR1 := hR1.only hO (by omega)
    replace hB := hB.trans (hO.below.mono (by omega))
    have hgl := hT1.lt
    have HUS := Lib.hid (znl x m w.heap.size g r w1 (HI.out.keep hB) (HOF.out _) (by omega) hT1)
    unfold aggM at HUS
    clear hT1 hO HON
    go_wp2_with (refine zac rfl 37 (.tmp 2) rfl (w.heap.size) 0 rfl _ _ (hR0) ((lM x m)) (by rfl) _ Tryz.underlying37 rfl (by exact zai) ?_)
    refine HUS.out.mono ?_
    rintro e w2 ⟨x', m', er, rfl, hI2, hf2, he1, he2, hO⟩
    unfold aggM
    replace hR1 := hR1.only hO (by omega)
    have hoff2 := hf2 w.heap.size _ (Nat.le_refl _) (HOF.out _)
    have hB2 := hB.trans (hO.below.mono (by omega))
    clear hR0 HUS hO hB
    go_wp2_with (refine zab rfl 37 (.tmp 4) (.tmp 24) rfl (w.heap.size + 1) rfl ((lM x' m')) rfl _ _ (hR1) (by exact zai) rfl (zaq x' m') ?_)
    refine bodyPost_ret (zag (p := 4) (u := 5) (ty := 37) (by rfl) _ _ (w.heap.size + 1) 37 _ _ (by rfl) (by exact hR1.setRow _) Tryz.underlying37 (by rfl) (by exact zai)) (by rfl) ?_
    have hO7 := (Only.refl (w.heap.size + 1) w2).setRow (lM x' m').toArray
    refine ⟨x', m', er, rfl, hI2.at_only hO7 hoff2 (by omega) (by omega), (fun lo hi hh ho => hf2 lo hi (by omega) ho), fun h0 => by rw [HG.out]; exact he1.out h0, fun h0 => by rw [HG.out]; exact he2.out h0, below_setRow hB2 (by omega) _⟩
   ·have HGN : Hid (zbT m (y :: r) = none) := zna (fun e => h85 e) (fun e => h78 e)
    have h85n : y.toNat ≠ 85 := fun e => h85 (UInt8.toNat_inj.1 e)
    have h78n : y.toNat ≠ 78 := fun e => h78 (UInt8.toNat_inj.1 e)
    generalize y.toNat = q at HON h85n h78n
    have j1 : ((q : Int) == 85) = false := beq_eq_false_iff_ne.2 (by omega)
    have j2 : ((q : Int) == 78) = false := beq_eq_false_iff_ne.2 (by omega)
    clear h85 h78 h85n h78n
    go_wp2_with fail
    refine HON.out.mono ?_
    rintro e w1 ⟨rfl, hT1, hO⟩
    dsimp only
    replace hR0 := hR0.only hO (by omega)
    replace hR1 := hR1.only hO (by omega)
    replace hB := hB.trans (hO.below.mono (by omega))
    clear hT1 hO HON
    go_wp2_with (first
     | (refine zac rfl 37 (.tmp 2) rfl (w.heap.size) 0 rfl _ _ (hR0) ((lM x m)) (by rfl) _ Tryz.underlying37 rfl (by exact zai) ?_)
     | (refine zab rfl 37 (.tmp 4) (.tmp 26) rfl (w.heap.size + 1) rfl ((lM x m)) rfl _ _ (hR1) (by exact zai) rfl (zaq x m) ?_))
    refine bodyPost_ret (zag (p := 4) (u := 5) (ty := 37) (by rfl) _ _ (w.heap.size + 1) 37 _ _ (by rfl) (by exact hR1.setRow _) Tryz.underlying37 (by rfl) (by exact zai)) (by rfl) ?_
    have hBf := below_setRow hB (show w.heap.size ≤ w.heap.size + 1 by omega) (lM x m).toArray
    refine ⟨x, m, 3, rfl, HI.out.keep hBf, (fun _ _ _ ho => ho), fun h0 => absurd h0 (by decide), fun _ => HGN.out, hBf⟩
theorem zaG : (Tryz.prog.info? 79).map (·.size) = some 10 := by kernel_rfl
theorem zoH : ∀ w, (sizeOf 22).run Tryz.prog w = .ok 1 w := fun w => by kernel_rfl
def zp4 (s : Bool) (n : Nat) (x : WM) (m : MemK) (a : Bool) : List Value := [.bool s, .int .u64 (n : Int), .int .u64 (m.clock : Int), .int .u64 (m.b.1 : Int), .slice x.b.eA x.b.n x.b.ec, .slice x.b.gA x.b.g x.b.gc, .int .i64 m.c.1, .int .u64 (m.c.2.1 : Int), .slice x.c.A x.c.s x.c.c, .bool a]
theorem zbQ (s : Bool) (n : Nat) (x : WM) (m : MemK) (a : Bool) : ∀ v ∈ zp4 s n x m a, v.oneCell' = true := fun v hv => by
 simp [zp4] at hv
 rcases hv with rfl | rfl | rfl | rfl | rfl | rfl | rfl | rfl | rfl | rfl <;> rfl
theorem zny {b : List UInt8} {f : List UInt8 → List UInt8} (h : (zaP f b).1 = []) : za6 f b = none := by
 unfold za6
 rw [h]
theorem zoI {b t : List UInt8} {ts : List (List UInt8)} {f : List UInt8 → List UInt8} (h : (zaP f b).1 = t :: ts) (h2 : za2 t = none) : za6 f b = none := by
 unfold za6
 rw [h]
 dsimp only
 rw [h2]
theorem znz {b t : List UInt8} {ts : List (List UInt8)} {f : List UInt8 → List UInt8} {n : Nat} {m : MemK} (h : (zaP f b).1 = t :: ts) (h2 : za2 t = some (n, m)) : za6 f b = some (n, goOn m (t.length + 6) ts) := by
 unfold za6
 rw [h]
 dsimp only
 rw [h2]
theorem zpE {f : List UInt8 → List UInt8} (h4 : ∀ b, (f b).length = 4) (b : List UInt8) : ((zaP f b).1.map (fun t => t.length + 6)).sum = (zaP f b).2 ∧ (zaP f b).2 ≤ b.length ∧ mayS (zaP f b).1 := by
 obtain ⟨r1, r2, r3⟩ := zeG (f := f) b.length b (Nat.le_refl _)
 have := congrArg List.length r2
 rw [zeI h4, List.length_take, Nat.min_eq_left r1] at this
 exact ⟨this, r1, r3⟩
theorem znA : ∀ ts : List (List UInt8), ts.length ≤ (ts.map (fun t => t.length + 6)).sum
 | [] => Nat.le_refl _
 | t :: ts => by
  have ih := znA ts
  rw [List.map_cons, List.sum_cons, List.length_cons]
  omega
def zqq (w : World) (G : Option (Nat × MemK × Nat)) (n : Nat) (e : Ending) (w' : World) : Prop :=
 ((G = none ∧ e = .returned (.agg #[.bool false, .int .u64 0, .int .u64 0, .int .u64 0, .slice none 0 0, .slice none 0 0, .int .i64 0, .int .u64 0, .slice none 0 0, .bool false])) ∨
  ∃ x m num z a, G = some (num, m, z) ∧ e = .returned (.agg #[.bool true, .int .u64 ((num : Nat) : Int), .int .u64 (m.clock : Int), .int .u64 (m.b.1 : Int), .slice x.b.eA x.b.n x.b.ec, .slice x.b.gA x.b.g x.b.gc, .int .i64 m.c.1, .int .u64 (m.c.2.1 : Int), .slice x.c.A x.c.s x.c.c, .bool a]) ∧ InM w' x m ∧ OffM 0 w.heap.size x ∧ num < 18446744073709551616 ∧ (a = true ↔ z = n)) ∧ Below w.heap.size w w'
def HoI (w W1 : World) (num : Nat) (B : Nat) (g6 : Nat) (M0 : MemK) (s0 : Nat) (ts : List (List UInt8)) (i : Value) (wr : World) : Prop :=
 ∃ (k : Nat) (x : WM) (m : MemK), i = .int .i64 (k : Int) ∧ k ≤ ts.length ∧ Hid (goOn M0 s0 ts = goOn m (s0 + ((ts.take k).map (fun t => t.length + 6)).sum) (ts.drop k)) ∧ Row wr w.heap.size 79 [.bool false, .int .u64 0, .int .u64 0, .int .u64 0, .slice none 0 0, .slice none 0 0, .int .i64 0, .int .u64 0, .slice none 0 0, .bool false] ∧ Row wr g6 37 (lM x m) ∧ InM wr x m ∧ OffM 0 B x ∧ OffM g6 (g6 + 1) x ∧ Below w.heap.size w wr ∧ Below B W1 wr
theorem zoJ [Inhabited Tab] (b : List UInt8) (n : Nat) (A : Option Addr) (c : Nat) (w : World) (HN : Hid (b.length = n)) (hr : Rd vB w A b) (hc : n ≤ c) (hn : n ≤ 1000000000) (HK : Hid (KTab w)) :
  Calls Tryz.prog 60 #[.slice A n c] w (zqq w (za6 fS b) n) := by
 obtain ⟨hR0, hB⟩ := zat w 79 [.bool false, .int .u64 0, .int .u64 0, .int .u64 0, .slice none 0 0, .slice none 0 0, .int .i64 0, .int .u64 0, .slice none 0 0, .bool false] _ rfl
 obtain ⟨hsum, hle, hmay⟩ := zpE zcr b
 obtain ⟨T, N, hTN⟩ : ∃ T N, zaP fS b = (T, N) := ⟨_, _, rfl⟩
 have HRW := Lib.hid (fun W (hb : Below w.heap.size w W) => zlJ b n A c W HN (hr.keep hb) hc hn (Lib.hid (HK.out.keep hb)))
 rw [hTN] at hsum hle hmay HRW
 dsimp only at hsum hle hmay HRW
 rw [HN.out] at hle
 have HT1 : Hid ((zaP fS b).1 = T) := by unfold Hid; rw [hTN]
 obtain ⟨G, hG⟩ : ∃ G, za6 fS b = G := ⟨_, rfl⟩
 have HG := Lib.hid hG
 rw [hG]
 clear hG hTN hr
 go_enter Tryz.func60, Tryz.ntmps60
 go_upto_region 1 with fail
 generalize (w.alloc (.cells #[.bool false, .int .u64 0, .int .u64 0, .int .u64 0, .slice none 0 0, .slice none 0 0, .int .i64 0, .int .u64 0, .slice none 0 0, .bool false] 79)) = W0 at hR0 hB ⊢
 go_wp2_with fail
 refine (HRW.out _ hB).mono ?_
 rintro e w1 ⟨v1, rfl, ⟨ps, hown, hps, hprd, hpc⟩, hb1⟩
 obtain ⟨A1, c1, rfl, hc1, hrd1⟩ := zbk hown
 replace hR0 := hR0.later hb1
 replace hB := zaa hB hb1
 clear hown hb1 HRW
 cases ps with
 | nil =>
  have hGN : G = none := by rw [← HG.out]; exact zny (by rw [HT1.out, ← hps]; rfl)
  subst hGN
  clear hps hsum hmay hprd hpc hrd1
  go_wp2_with (refine zab rfl 79 (.tmp 2) (.tmp 20) rfl (w.heap.size) rfl ([.bool false, .int .u64 0, .int .u64 0, .int .u64 0, .slice none 0 0, .slice none 0 0, .int .i64 0, .int .u64 0, .slice none 0 0, .bool false]) rfl _ _ (hR0) (by exact zaG) rfl (zbQ false 0 zbj zcu false) ?_)
  refine bodyPost_ret (results_cell_row (p := 2) (ty := 79) (by rfl) _ _ w.heap.size 79 _ (0, 0) _ (by rfl) (by exact hR0.setRow _) Tryz.underlying79 (by rfl) (by exact zaG)) (by rfl) ?_
  exact ⟨.inl ⟨rfl, rfl⟩, below_setRow hB (Nat.le_refl _) _⟩
 | cons p ps =>
  obtain ⟨pA, pc, pl⟩ := p
  have hpr := hprd ⟨pA, pc, pl⟩ (List.mem_cons_self ..)
  have hpcc := hpc ⟨pA, pc, pl⟩ (List.mem_cons_self ..)
  dsimp only at hpr hpcc
  have hpm : pl.length ≤ 60000 := hmay pl (by rw [← hps]; exact List.mem_cons_self ..)
  obtain ⟨ts, hts⟩ : ∃ ts, ps.map (·.l) = ts := ⟨_, rfl⟩
  have hT : T = pl :: ts := by rw [← hps, List.map_cons, hts]
  obtain ⟨b1, o1, rfl, hb1, hcell⟩ := hrd1.at (k := 0) (by simp)
  have hc0 : w1.cell? ⟨b1, o1, none⟩ = some (.slice pA pl.length pc) := hcell 0 (by simp)
  obtain ⟨q, hq⟩ : ∃ q, ps.length = q := ⟨_, rfl⟩
  obtain ⟨pn, hpn⟩ : ∃ q, pl.length = q := ⟨_, rfl⟩
  have HPN := Lib.hid hpn
  have HQ := Lib.hid hq
  rw [hpn] at hc0 hpcc hpm
  rw [List.length_cons, hq] at hc1 ⊢
  obtain ⟨A33, hcut, hrd33⟩ := zeF (P := Tryz.prog) 110 22 Tryz.underlying110 zoH (some ⟨b1, o1, none⟩) (q + 1) c1 1 (by omega) hc1
  have hrdp := hrd33 zeK w1 _ (by rw [List.length_cons, hq]) hrd1
  rw [List.drop_one, List.tail_cons] at hrdp
  rw [Nat.add_sub_cancel] at hcut
  have hcut' : ∀ W, (Instr.slice 110 (.slice (some ⟨b1, o1, none⟩) (q + 1) c1) (some (.int .i64 1)) none none).run Tryz.prog W = .ok (.slice A33 q (c1 - 1)) W := hcut
  have HRM := Lib.hid (zjZ pl pn pA pc w1 HPN hpr hpcc (by omega))
  have hprs : ∀ p ∈ ps, Rd vB w1 p.A p.l := fun p hp => hprd p (List.mem_cons_of_mem _ hp)
  have hpcs : ∀ p ∈ ps, p.l.length ≤ p.cap := fun p hp => hpc p (List.mem_cons_of_mem _ hp)
  have HMAY : Hid (∀ p ∈ ps, p.l.length ≤ 60000) := fun p hp => hmay p.l (by rw [hT, ← hts]; exact List.mem_cons_of_mem _ (List.mem_map.2 ⟨p, hp, rfl⟩))
  have HT := Lib.hid hT
  have HTS := Lib.hid hts
  have HSUM : Hid ((pl.length + 6) + (ts.map (fun t => t.length + 6)).sum = N) := by unfold Hid; rw [← hsum, hT, List.map_cons, List.sum_cons]
  have HPRS := Lib.hid hprs
  have HPCS := Lib.hid hpcs
  have HRDP := Lib.hid hrdp
  have j0 : (((q + 1 : Nat) : Int) == 0) = false := beq_eq_false_iff_ne.2 (by omega)
  have j1 : (0 : Int) < ((q + 1 : Nat) : Int) := by omega
  have HLE := Lib.hid hle
  clear hcut hrd33 hrd1 hprd hpc hpr hmay hps hsum hT hts hq hpn hprs hpcs hrdp hcell hle
  go_wp2_with fail
  refine HRM.out.mono ?_
  rintro e w2 ⟨x0, m0, num, er, rfl, hI0, hF0, hnum, he1, he2, hb2⟩
  unfold aggM
  have hlt1 := hR0.lt
  have hs2 := hb2.size
  replace hR0 := hR0.later hb2
  replace hB := zaa hB hb2
  have HB12 := Lib.hid hb2
  obtain ⟨hR6, hB6⟩ := zat w2 37 l0M _ rfl
  clear hb2 HRM hc0
  go_upto_region 5 with (refine zab rfl 37 (.tmp 6) (.tmp 27) rfl (w2.heap.size) rfl ((lM x0 m0)) rfl _ _ (hR6) (by exact zai) rfl (zaq x0 m0) ?_)
  have hR62 := hR6.setRow (lM x0 m0)
  have hbn := below_setRow hB6 (Nat.le_refl _) (lM x0 m0).toArray
  clear hR6 hB6
  generalize (w2.alloc (.cells l0M.toArray 37)).setRow w2.heap.size (lM x0 m0).toArray = w3 at hR62 hbn ⊢
  have hoffg : OffM w2.heap.size (w2.heap.size + 1) x0 := hI0.off _
  replace hI0 := hI0.keep hbn
  replace hR0 := hR0.later hbn
  replace hB := zaa hB hbn
  have HB13 := Lib.hid (zaa HB12.out hbn)
  have hg6 : w1.heap.size ≤ w2.heap.size := hs2
  have hg63 := hR62.lt
  clear hbn HB12 hs2
  generalize w2.heap.size = g6 at hR62 hg6 hg63 hoffg ⊢
  by_cases hz : er = 0
  ·subst hz
   have hGG : G = some (num, goOn m0 (pl.length + 6) ts) := by rw [← HG.out]; exact znz (HT1.out.trans HT.out) (he1.out rfl)
   have HGG := Lib.hid hGG
   have hoff1 : OffM 0 w1.heap.size x0 := hF0.off 0
   clear hGG he1 he2 hF0 HG
   go_upto_region 8 with fail
   go_loopw [35] (fun i wr => HoI w w1 num w1.heap.size g6 m0 (pl.length + 6) ts i wr) (fun i _ => q - (intOf i).toNat)
   case atStart => exact ⟨0, x0, m0, rfl, Nat.zero_le _, Lib.hid rfl, hR0, hR62, hI0, hoff1, hoffg, hB, HB13.out⟩
   case round =>
    clear hR0 hR62 hI0 hoff1 hoffg hB HB13
    obtain ⟨k, x, m, rfl, hk, HGO, hR0, hR6, hI, hoA, hoB, hB, hBw⟩ := hrel
    have HTL : Hid (ts.length = q) := by unfold Hid; rw [← HTS.out, List.length_map, HQ.out]
    have hwl := hR6.lt
    have hw1 := hBw.size
    have hkq' : k ≤ q := by rw [← HTL.out]; exact hk
    have hq9 : q ≤ 1000000000 := by
     have h1 := znA ts
     have h2 := HSUM.out
     have h3 := HLE.out
     rw [HTL.out] at h1
     omega
    by_cases hlt : k < q
    ·have hkp : k < ps.length := by rw [HQ.out]; exact hlt
     have hkt : k < ts.length := by rw [HTL.out]; exact hlt
     obtain ⟨b3, o3, rfl, hb3, hcell3⟩ := (HRDP.out.keep hBw).at hkp
     have hc3 := hcell3 k hkp
     have hget : ts[k] = ps[k].l := by simp only [← HTS.out, List.getElem_map]
     have HGOK : Hid (ts.drop k = ps[k].l :: ts.drop (k + 1)) := by unfold Hid; rw [List.drop_eq_getElem_cons hkt, hget]
     have HTK : Hid (((ts.take (k + 1)).map (fun t => t.length + 6)).sum = ((ts.take k).map (fun t => t.length + 6)).sum + (ps[k].l.length + 6)) := by
      unfold Hid
      rw [List.take_succ_eq_append_getElem hkt, List.map_append, List.sum_append, hget]
      rfl
     have hpr := (HPRS.out _ (List.getElem_mem hkp)).keep hBw
     have hpcc := HPCS.out _ (List.getElem_mem hkp)
     have hpm := HMAY.out _ (List.getElem_mem hkp)
     clear hcell3 hget
     generalize ps[k] = pk at hc3 HGOK HTK hpr hpcc hpm
     obtain ⟨kA, kc, kl⟩ := pk
     unfold zeK at hc3
     dsimp only at hc3 HGOK HTK hpr hpcc hpm
     obtain ⟨kn, hkn⟩ : ∃ z, kl.length = z := ⟨_, rfl⟩
     have HKN := Lib.hid hkn
     rw [hkn] at hc3 hpcc hpm
     have HON := Lib.hid (zlK x m kl kn kA kc wr hI HKN hpr hpcc (by omega))
     unfold aggM at HON
     have i2 : (0 : Int) ≤ (k : Int) := by omega
     have i3 : (k : Int) < (q : Int) := by omega
     clear hkn hpr hpcc hkp hkt
     go_upto_region 10 with fail
     go_wp2_with (refine zac rfl 37 (.tmp 6) rfl (g6) 0 rfl _ _ (hR6) ((lM x m)) (by rfl) _ Tryz.underlying37 rfl (by exact zai) ?_)
     refine HON.out.mono ?_
     rintro e w4 ⟨x', m', er, rfl, hI4, hf4, he1, he2, hb4⟩
     unfold aggM
     have hoA4 := hf4 0 w1.heap.size hw1 hoA
     have hoB4 := hf4 g6 (g6 + 1) (by omega) hoB
     replace hR0 := hR0.later hb4
     replace hR6 := hR6.later hb4
     have hIm := hI.keep hb4
     replace hB := zaa hB hb4
     replace hBw := zaa hBw hb4
     have hs4 := hb4.size
     obtain ⟨hR10, hB10⟩ := zat w4 37 l0M _ rfl
     clear hb4 HON hI hc3
     go_upto_region 11 with (refine zab rfl 37 (.tmp 10) (.tmp 43) rfl (w4.heap.size) rfl ((lM x' m')) rfl _ _ (hR10) (by exact zai) rfl (zaq x' m') ?_)
     have hR11 := hR10.setRow (lM x' m')
     have hbn := below_setRow hB10 (Nat.le_refl _) (lM x' m').toArray
     clear hR10 hB10
     generalize (w4.alloc (.cells l0M.toArray 37)).setRow w4.heap.size (lM x' m').toArray = w5 at hR11 hbn ⊢
     replace hI4 := hI4.keep hbn
     replace hR0 := hR0.later hbn
     replace hR6 := hR6.later hbn
     have hIm5 := hIm.keep hbn
     replace hB := zaa hB hbn
     replace hBw := zaa hBw hbn
     clear hbn hIm
     have hgx : g6 < w4.heap.size := by omega
     generalize w4.heap.size = gx at hR11 hgx ⊢
     by_cases hz : er = 0
     ·subst hz
      have HG1 := Lib.hid (he1.out rfl)
      clear he1 he2
      go_upto_region 13 with fail
      have hO6 := (Only.refl g6 w5).setRow (lM x' m').toArray
      have hR66 := hR6.setRow (lM x' m')
      have hR06 := hR0.only hO6 (by have := hR0.lt; omega)
      have hI6 := hI4.at_only hO6 hoB4 (Nat.le_refl _) (Nat.lt_succ_self _)
      have hB6 := hB.trans (hO6.below.mono (by omega))
      have hBw6 := hBw.trans (hO6.below.mono (by omega))
      go_wp2_with (first
       | (refine zac rfl 37 (.tmp 10) rfl (gx) 0 rfl _ _ (hR11) ((lM x' m')) (by rfl) _ Tryz.underlying37 rfl (by exact zai) ?_)
       | (refine zab rfl 37 (.tmp 6) (.tmp 50) rfl (g6) rfl ((lM x' m')) rfl _ _ (hR6) (by exact zai) rfl (zaq x' m') ?_))
      clear hR6 hR0 hI4 hB hBw hO6 hR11 hIm5
      generalize w5.setRow g6 (lM x' m').toArray = w6 at hR66 hR06 hI6 hB6 hBw6 ⊢
      go_roundw
      case rel =>
       refine ⟨k + 1, x', m', by go_num, by rw [HTL.out]; omega, ?_, hR06, hR66, hI6, hoA4, hoB4, hB6, hBw6⟩
       unfold Hid
       rw [HGO.out, HGOK.out, HTK.out, ← Nat.add_assoc]
       conv => lhs; unfold goOn
       rw [HG1.out]
      case measure => simp [intOf]; omega
     ·have HG2 := Lib.hid (he2.out hz)
      have hz1 : (er == 0) = false := beq_eq_false_iff_ne.2 hz
      have hz2 : (er != 0) = true := by rw [bne, hz1]; rfl
      clear he1 he2
      go_wp2_with (first
       | (refine zac rfl 37 (.tmp 6) rfl (g6) 0 rfl _ _ (hR6) ((lM x m)) (by rfl) _ Tryz.underlying37 rfl (by exact zai) ?_)
       | (refine zab rfl 79 (.tmp 2) (.tmp 49) rfl (w.heap.size) rfl ([.bool true, .int .u64 (num : Int), .int .u64 (m.clock : Int), .int .u64 (m.b.1 : Int), .slice x.b.eA x.b.n x.b.ec, .slice x.b.gA x.b.g x.b.gc, .int .i64 m.c.1, .int .u64 (m.c.2.1 : Int), .slice x.c.A x.c.s x.c.c, .bool false]) rfl _ _ (hR0) (by exact zaG) rfl (zbQ true num x m false) ?_))
      refine bodyPost_ret (results_cell_row (p := 2) (ty := 79) (by rfl) _ _ w.heap.size 79 _ (0, 0) _ (by rfl) (by exact hR0.setRow _) Tryz.underlying79 (by rfl) (by exact zaG)) (by rfl) ?_
      have hO6 := (Only.refl w.heap.size w5).setRow [.bool true, .int .u64 (num : Int), .int .u64 (m.clock : Int), .int .u64 (m.b.1 : Int), .slice x.b.eA x.b.n x.b.ec, .slice x.b.gA x.b.g x.b.gc, .int .i64 m.c.1, .int .u64 (m.c.2.1 : Int), .slice x.c.A x.c.s x.c.c, .bool false].toArray
      have hfin : goOn m0 (pl.length + 6) ts = (m, pl.length + 6 + ((ts.take k).map (fun t => t.length + 6)).sum) := by
       rw [HGO.out, HGOK.out]
       unfold goOn
       rw [HG2.out]
      have hlt2 : pl.length + 6 + ((ts.take k).map (fun t => t.length + 6)).sum < n := by
       have h1 : (ts.map (fun t => t.length + 6)).sum = ((ts.take k).map (fun t => t.length + 6)).sum + ((ts.drop k).map (fun t => t.length + 6)).sum := by
        rw [← List.sum_append, ← List.map_append, List.take_append_drop]
       have h2 := HSUM.out
       have h3 := HLE.out
       rw [HGOK.out, List.map_cons, List.sum_cons] at h1
       omega
      refine ⟨.inr ⟨x, m, num, pl.length + 6 + ((ts.take k).map (fun t => t.length + 6)).sum, false, ?_, rfl, hIm5.at_only hO6 hoA (Nat.zero_le _) (by omega), hoA.mono (Nat.le_refl _) (by omega), hnum, ?_⟩, below_setRow hB (Nat.le_refl _) _⟩
      ·rw [HGG.out, hfin]
      ·constructor
       ·intro h; cases h
       ·intro h; omega
    ·have hkq : k = q := by omega
     subst hkq
     have hi1 : ¬ (k : Int) < (k : Int) := by omega
     have hfin : Hid (goOn m0 (pl.length + 6) ts = (m, N)) := by
      unfold Hid
      rw [HGO.out, ← HTL.out, List.take_length, List.drop_length, HSUM.out]
      rfl
     obtain ⟨a, ha⟩ : ∃ a, ((N : Int) == (n : Int)) = a := ⟨_, rfl⟩
     have HAA : Hid (a = true ↔ N = n) := by
      unfold Hid
      rw [← ha, beq_iff_eq]
      omega
     clear HGO HRDP HPRS HPCS HMAY
     go_wp2_with (first
      | (refine zac rfl 37 (.tmp 6) rfl (g6) 0 rfl _ _ (hR6) ((lM x m)) (by rfl) _ Tryz.underlying37 rfl (by exact zai) ?_)
      | (refine zab rfl 79 (.tmp 2) (.tmp 58) rfl (w.heap.size) rfl ([.bool true, .int .u64 (num : Int), .int .u64 (m.clock : Int), .int .u64 (m.b.1 : Int), .slice x.b.eA x.b.n x.b.ec, .slice x.b.gA x.b.g x.b.gc, .int .i64 m.c.1, .int .u64 (m.c.2.1 : Int), .slice x.c.A x.c.s x.c.c, .bool a]) rfl _ _ (hR0) (by exact zaG) rfl (zbQ true num x m a) ?_))
     refine bodyPost_ret (results_cell_row (p := 2) (ty := 79) (by rfl) _ _ w.heap.size 79 _ (0, 0) _ (by rfl) (by exact hR0.setRow _) Tryz.underlying79 (by rfl) (by exact zaG)) (by rfl) ?_
     have hO6 := (Only.refl w.heap.size wr).setRow [.bool true, .int .u64 (num : Int), .int .u64 (m.clock : Int), .int .u64 (m.b.1 : Int), .slice x.b.eA x.b.n x.b.ec, .slice x.b.gA x.b.g x.b.gc, .int .i64 m.c.1, .int .u64 (m.c.2.1 : Int), .slice x.c.A x.c.s x.c.c, .bool a].toArray
     exact ⟨.inr ⟨x, m, num, N, a, by rw [HGG.out, hfin.out], rfl, hI.at_only hO6 hoA (Nat.zero_le _) (by omega), hoA.mono (Nat.le_refl _) (by omega), hnum, HAA.out⟩, below_setRow hB (Nat.le_refl _) _⟩
  ·have hGN : G = none := by rw [← HG.out]; exact zoI (HT1.out.trans HT.out) (he2.out hz)
   subst hGN
   have hz1 : (er == 0) = false := beq_eq_false_iff_ne.2 hz
   have hz2 : (er != 0) = true := by rw [bne, hz1]; rfl
   clear he1 he2
   go_wp2_with (refine zab rfl 79 (.tmp 2) (.tmp 31) rfl (w.heap.size) rfl ([.bool false, .int .u64 0, .int .u64 0, .int .u64 0, .slice none 0 0, .slice none 0 0, .int .i64 0, .int .u64 0, .slice none 0 0, .bool false]) rfl _ _ (hR0) (by exact zaG) rfl (zbQ false 0 zbj zcu false) ?_)
   refine bodyPost_ret (results_cell_row (p := 2) (ty := 79) (by rfl) _ _ w.heap.size 79 _ (0, 0) _ (by rfl) (by exact hR0.setRow _) Tryz.underlying79 (by rfl) (by exact zaG)) (by rfl) ?_
   exact ⟨.inl ⟨rfl, rfl⟩, below_setRow hB (Nat.le_refl _) _⟩
def HoG (s : Bool) (num : Nat) (m : MemK) (a : Bool) (n : Nat) (G : Option (Nat × MemK × Nat)) : Prop := (s = false → G = none) ∧ (s = true → ∃ z, G = some (num, m, z) ∧ (a = true ↔ z = n))
def zqr (w : World) (G : Option (Nat × MemK × Nat)) (n : Nat) (e : Ending) (w' : World) : Prop :=
 ∃ s num x m a, e = .returned (.agg #[.bool s, .int .u64 ((num : Nat) : Int), .int .u64 (m.clock : Int), .int .u64 (m.b.1 : Int), .slice x.b.eA x.b.n x.b.ec, .slice x.b.gA x.b.g x.b.gc, .int .i64 m.c.1, .int .u64 (m.c.2.1 : Int), .slice x.c.A x.c.s x.c.c, .bool a]) ∧ InM w' x m ∧ OffM 0 w.heap.size x ∧ num < 18446744073709551616 ∧ Hid (HoG s num m a n G) ∧ Below w.heap.size w w'
theorem zi3 [Inhabited Tab] (b : List UInt8) (n : Nat) (A : Option Addr) (c : Nat) (w : World) (HN : Hid (b.length = n)) (hr : Rd vB w A b) (hc : n ≤ c) (hn : n ≤ 1000000000) (HK : Hid (KTab w)) :
  Calls Tryz.prog 60 #[.slice A n c] w (zqr w (za6 fS b) n) := by
 refine (zoJ b n A c w HN hr hc hn HK).mono ?_
 rintro e w' ⟨hcase, hb⟩
 rcases hcase with ⟨hG, rfl⟩ | ⟨x, m, num, z, a, hG, rfl, hI, ho, hnum, ha⟩
 ·exact ⟨false, 0, zbj, zcu, false, rfl, zc6 w', (zbB _).off 0, by decide, And.intro (fun _ => hG) (fun h => by cases h), hb⟩
 ·exact ⟨true, num, x, m, a, rfl, hI, ho, hnum, And.intro (fun h => by cases h) (fun _ => ⟨z, hG, ha⟩), hb⟩
theorem zoK (b : Nat) (W : World) : (Instr.indexAt 108 (.pointer (some ⟨b, 0, none⟩)) (.int .i64 0)).run Tryz.prog W = .ok (.pointer (some ⟨b, 0, none⟩)) W := by kernel_rfl
theorem zoL (b : Nat) (W : World) : (Instr.indexAt 108 (.pointer (some ⟨b, 0, none⟩)) (.int .i64 1)).run Tryz.prog W = .ok (.pointer (some ⟨b, 10, none⟩)) W := by kernel_rfl
theorem zfm {fn : Func} {p u : Tmp} {ty : TypeId} (h : fn.results = #[.tmp u, .cell p ty]) (tmps : Array Value) (P : Program) (w : World) :
  (results fn tmps).run P w = ((asAddr (tmps.getD p undef)).run P w).andThen fun a w₁ => ((loadVar ty a).run P w₁).andThen fun x w₂ => .ok (.tuple #[tmps.getD u undef, x]) w₂ := by
 simp only [results, h]
 simp [Sem.run_bind, Result.andThen]
theorem zcb {P : Program} {fn : Func} {p u : Tmp} {ty : TypeId} (h : fn.results = #[.tmp u, .cell p ty]) (tmps : Array Value) (w : World) (g : Nat) (t : TypeId) (l : List Value) (d : TypeDesc) (hp : tmps.getD p undef = .pointer (some ⟨g, 0, none⟩)) (hg : Row w g t l)
  (hu : P.underlying ty = some d) (hd : d.isRow = true) (hi : (P.info? ty).map (·.size) = some l.length) : (results fn tmps).run P w = .ok (.tuple #[tmps.getD u undef, .agg l.toArray]) w := by
 rw [zfm h, hp]
 simp only [asAddr, Sem.run_pure, Result.andThen_ok, hg.loadVar (P := P) ty d hu hd hi]
def zqs (w : World) (D : DK) (G : Option (Nat × (Nat × MemK × Nat))) (e : Ending) (w' : World) : Prop :=
 ∃ t s num x m a, e = .returned (.tuple #[.int .i64 t, .agg #[.bool s, .int .u64 ((num : Nat) : Int), .int .u64 (m.clock : Int), .int .u64 (m.b.1 : Int), .slice x.b.eA x.b.n x.b.ec, .slice x.b.gA x.b.g x.b.gc, .int .i64 m.c.1, .int .u64 (m.c.2.1 : Int), .slice x.c.A x.c.s x.c.c, .bool a]]) ∧ InM w' x m ∧ OffM 0 w.heap.size x ∧ num < 18446744073709551616 ∧ (t = 0 ∨ t = 1) ∧
  Hid (s = false → G = none) ∧ Hid (s = true → ∃ z, G = some (t.toNat, num, m, z) ∧ (a = true ↔ z = (getA D t.toNat).b.length)) ∧ Below w.heap.size w w'
theorem znB {f : List UInt8 → List UInt8} {D : DK} {s0 s1 a0 a1 : Bool} {n0 n1 : Nat} {m0 m1 : MemK} (h0 : HoG s0 n0 m0 a0 D.a0.b.length (za6 f D.a0.b)) (h1 : HoG s1 n1 m1 a1 D.a1.b.length (za6 f D.a1.b)) (hc : s0 = false ∨ s1 = true ∧ n0 < n1) :
  (s1 = false → hasK f D = none) ∧ (s1 = true → ∃ z, hasK f D = some (1, n1, m1, z) ∧ (a1 = true ↔ z = D.a1.b.length)) := by
 constructor
 ·intro e
  rcases hc with h | h
  ·unfold hasK
   rw [h0.1 h, h1.1 e]
  ·rw [h.1] at e; cases e
 ·intro e
  obtain ⟨z, hz, ha⟩ := h1.2 e
  refine ⟨z, ?_, ha⟩
  cases s0 with
  | false =>
   unfold hasK
   rw [h0.1 rfl, hz]
  | true =>
   obtain ⟨z0, hz0, _⟩ := h0.2 rfl
   rcases hc with h | h
   ·cases h
   ·unfold hasK
    rw [hz0, hz]
    dsimp only
    rw [if_neg (by omega)]
theorem zkL {f : List UInt8 → List UInt8} {D : DK} {s0 s1 a0 a1 : Bool} {n0 n1 : Nat} {m0 m1 : MemK} (h0 : HoG s0 n0 m0 a0 D.a0.b.length (za6 f D.a0.b)) (h1 : HoG s1 n1 m1 a1 D.a1.b.length (za6 f D.a1.b)) (hs : s0 = true) (hc : s1 = false ∨ ¬ n0 < n1) :
  ∃ z, hasK f D = some (0, n0, m0, z) ∧ (a0 = true ↔ z = D.a0.b.length) := by
 obtain ⟨z, hz, ha⟩ := h0.2 hs
 refine ⟨z, ?_, ha⟩
 cases s1 with
 | false =>
  unfold hasK
  rw [hz, h1.1 rfl]
 | true =>
  obtain ⟨z1, hz1, _⟩ := h1.2 rfl
  rcases hc with h | h
  ·cases h
  ·unfold hasK
   rw [hz, hz1]
   dsimp only
   rw [if_pos (by omega)]
theorem zho [Inhabited Tab] (x : WD) (D : DK) (w : World) (h : InD w x D) (hn0 : x.n0 ≤ 1000000000) (hn1 : x.n1 ≤ 1000000000) (HK : Hid (KTab w)) :
  Calls Tryz.prog 31 #[aggD x D] w (zqs w D (hasK fS D)) := by
 have hR0 : Row (((w.alloc (.cells (lD x D).toArray 27)).alloc (.cells #[.bool false, .int .u64 0, .int .u64 0, .int .u64 0, .slice none 0 0, .slice none 0 0, .int .i64 0, .int .u64 0, .slice none 0 0, .bool false] 79)).alloc (.cells #[.bool false, .int .u64 0, .int .u64 0, .int .u64 0, .slice none 0 0, .slice none 0 0, .int .i64 0, .int .u64 0, .slice none 0 0, .bool false, .bool false, .int .u64 0, .int .u64 0, .int .u64 0, .slice none 0 0, .slice none 0 0, .int .i64 0, .int .u64 0, .slice none 0 0, .bool false] 108)) w.heap.size 27 (lD x D) := ((Row.new w _ _ _ rfl).alloc _).alloc _
 have hR1 : Row (((w.alloc (.cells (lD x D).toArray 27)).alloc (.cells #[.bool false, .int .u64 0, .int .u64 0, .int .u64 0, .slice none 0 0, .slice none 0 0, .int .i64 0, .int .u64 0, .slice none 0 0, .bool false] 79)).alloc (.cells #[.bool false, .int .u64 0, .int .u64 0, .int .u64 0, .slice none 0 0, .slice none 0 0, .int .i64 0, .int .u64 0, .slice none 0 0, .bool false, .bool false, .int .u64 0, .int .u64 0, .int .u64 0, .slice none 0 0, .slice none 0 0, .int .i64 0, .int .u64 0, .slice none 0 0, .bool false] 108)) (w.heap.size + 1) 79 [.bool false, .int .u64 0, .int .u64 0, .int .u64 0, .slice none 0 0, .slice none 0 0, .int .i64 0, .int .u64 0, .slice none 0 0, .bool false] := (Row.new_at _ _ (by simp) _ _ _ rfl).alloc _
 have hR2 : Row (((w.alloc (.cells (lD x D).toArray 27)).alloc (.cells #[.bool false, .int .u64 0, .int .u64 0, .int .u64 0, .slice none 0 0, .slice none 0 0, .int .i64 0, .int .u64 0, .slice none 0 0, .bool false] 79)).alloc (.cells #[.bool false, .int .u64 0, .int .u64 0, .int .u64 0, .slice none 0 0, .slice none 0 0, .int .i64 0, .int .u64 0, .slice none 0 0, .bool false, .bool false, .int .u64 0, .int .u64 0, .int .u64 0, .slice none 0 0, .slice none 0 0, .int .i64 0, .int .u64 0, .slice none 0 0, .bool false] 108)) (w.heap.size + 1 + 1) 108 [.bool false, .int .u64 0, .int .u64 0, .int .u64 0, .slice none 0 0, .slice none 0 0, .int .i64 0, .int .u64 0, .slice none 0 0, .bool false, .bool false, .int .u64 0, .int .u64 0, .int .u64 0, .slice none 0 0, .slice none 0 0, .int .i64 0, .int .u64 0, .slice none 0 0, .bool false] := Row.new_at _ _ (by simp) _ _ _ rfl
 have hB := zak (zak (zak (Below.refl _ w) (.cells (lD x D).toArray 27)) (.cells #[.bool false, .int .u64 0, .int .u64 0, .int .u64 0, .slice none 0 0, .slice none 0 0, .int .i64 0, .int .u64 0, .slice none 0 0, .bool false] 79)) (.cells #[.bool false, .int .u64 0, .int .u64 0, .int .u64 0, .slice none 0 0, .slice none 0 0, .int .i64 0, .int .u64 0, .slice none 0 0, .bool false, .bool false, .int .u64 0, .int .u64 0, .int .u64 0, .slice none 0 0, .slice none 0 0, .int .i64 0, .int .u64 0, .slice none 0 0, .bool false] 108)
 obtain ⟨G, hG⟩ : ∃ G, hasK fS D = G := ⟨_, rfl⟩
 have HG := Lib.hid hG
 rw [hG]
 obtain ⟨l0, h0, r0, l1, h1, r1⟩ := h
 have HH0 := Lib.hid (fun W (hb : Below w.heap.size w W) => zi3 D.a0.b x.n0 x.A0 x.c0 W (Lib.hid l0) (r0.keep hb) h0 hn0 (Lib.hid (HK.out.keep hb)))
 have HH1 := Lib.hid (fun W (hb : Below w.heap.size w W) => zi3 D.a1.b x.n1 x.A1 x.c1 W (Lib.hid l1) (r1.keep hb) h1 hn1 (Lib.hid (HK.out.keep hb)))
 have HL0 := Lib.hid l0
 have HL1 := Lib.hid l1
 clear hG l0 h0 r0 l1 h1 r1
 unfold aggD
 go_enter Tryz.func31, Tryz.ntmps31
 go_upto_region 2 with fail
 generalize ((w.alloc (.cells (lD x D).toArray 27)).alloc (.cells #[.bool false, .int .u64 0, .int .u64 0, .int .u64 0, .slice none 0 0, .slice none 0 0, .int .i64 0, .int .u64 0, .slice none 0 0, .bool false] 79)).alloc (.cells #[.bool false, .int .u64 0, .int .u64 0, .int .u64 0, .slice none 0 0, .slice none 0 0, .int .i64 0, .int .u64 0, .slice none 0 0, .bool false, .bool false, .int .u64 0, .int .u64 0, .int .u64 0, .slice none 0 0, .slice none 0 0, .int .i64 0, .int .u64 0, .slice none 0 0, .bool false] 108) = W at hR0 hR1 hR2 hB ⊢
 have t0 := hR0.cell (i := 0) rfl
 have t1 := hR0.cell (i := 1) rfl
 have t2 := hR0.cell (i := 2) rfl
 have t3 := hR0.cell (i := 3) rfl
 have hlt := hR2.lt
 have hgb : w.heap.size + 1 + 1 < W.heap.size := hlt
 go_wp2_with fail
 clear t0 t1 t2 t3
 refine wp_loop_rounds 3 ?_
 have ih0 := zoK (w.heap.size + 1 + 1)
 have ih1 := zoL (w.heap.size + 1 + 1)
 have ix0 := zdv (.slice x.A0 x.n0 x.c0) (.int .i64 D.a0.s) (.slice x.A1 x.n1 x.c1) (.int .i64 D.a1.s)
 have ix1 := zdw (.slice x.A0 x.n0 x.c0) (.int .i64 D.a0.s) (.slice x.A1 x.n1 x.c1) (.int .i64 D.a1.s)
 rw [rounds_succ]
 obtain ⟨hRa, hBa⟩ := zat W 24 [.slice none 0 0, .int .i64 0] _ rfl
 go_upto_region 5 with (refine zab rfl 24 (.tmp 6) (.tmp 12) rfl (W.heap.size) rfl ([.slice x.A0 x.n0 x.c0, .int .i64 D.a0.s]) rfl _ _ (hRa) (by exact zau) rfl (zaN x.A0 x.n0 x.c0 D.a0.s) ?_)
 have hRa2 := hRa.setRow [.slice x.A0 x.n0 x.c0, .int .i64 D.a0.s]
 have hB2 := below_setRow hBa (Nat.le_refl _) [.slice x.A0 x.n0 x.c0, .int .i64 D.a0.s].toArray
 clear hRa hBa
 generalize (W.alloc (.cells #[.slice none 0 0, .int .i64 0] 24)).setRow W.heap.size [.slice x.A0 x.n0 x.c0, .int .i64 D.a0.s].toArray = V0 at hRa2 hB2 ⊢
 have t0 : V0.cell? ⟨W.heap.size, 0, none⟩ = some (.slice x.A0 x.n0 x.c0) := hRa2.cell rfl
 replace hR1 := hR1.later hB2
 replace hR2 := hR2.later hB2
 replace hB := zaa hB hB2
 have hs2 := hB2.size
 clear hB2 hRa2
 go_wp2_with fail
 refine (HH0.out _ hB).mono ?_
 rintro e w1 ⟨s0, n0, x0, m0, a0, rfl, hI0, ho0, hnum0, HO0, hb1⟩
 replace hR1 := hR1.later hb1
 replace hR2 := hR2.later hb1
 replace hB := zaa hB hb1
 have hs3 := hb1.size
 have hth := zaV hR2 0 10 (by simp)
 have hO6 := Only.setCells (g := w.heap.size + 1 + 1) [.bool s0, .int .u64 (n0 : Int), .int .u64 (m0.clock : Int), .int .u64 (m0.b.1 : Int), .slice x0.b.eA x0.b.n x0.b.ec, .slice x0.b.gA x0.b.g x0.b.gc, .int .i64 m0.c.1, .int .u64 (m0.c.2.1 : Int), .slice x0.c.A x0.c.s x0.c.c, .bool a0] 0 (Only.refl _ w1)
 have hR26 : Row (w1.setCells (w.heap.size + 1 + 1) 0 [.bool s0, .int .u64 (n0 : Int), .int .u64 (m0.clock : Int), .int .u64 (m0.b.1 : Int), .slice x0.b.eA x0.b.n x0.b.ec, .slice x0.b.gA x0.b.g x0.b.gc, .int .i64 m0.c.1, .int .u64 (m0.c.2.1 : Int), .slice x0.c.A x0.c.s x0.c.c, .bool a0]) (w.heap.size + 1 + 1) 108 [.bool s0, .int .u64 (n0 : Int), .int .u64 (m0.clock : Int), .int .u64 (m0.b.1 : Int), .slice x0.b.eA x0.b.n x0.b.ec, .slice x0.b.gA x0.b.g x0.b.gc, .int .i64 m0.c.1, .int .u64 (m0.c.2.1 : Int), .slice x0.c.A x0.c.s x0.c.c, .bool a0, .bool false, .int .u64 0, .int .u64 0, .int .u64 0, .slice none 0 0, .slice none 0 0, .int .i64 0, .int .u64 0, .slice none 0 0, .bool false] := hR2.setCells _ 0 (by simp)
 have hR16 := hR1.only hO6 (by omega)
 have hB6 := hB.trans (hO6.below.mono (by omega))
 replace hI0 := hI0.at_only hO6 ho0 (Nat.zero_le _) (by omega)
 have hs6 := hO6.below.size
 clear hb1 t0
 go_upto_region 6 with (refine wpList_store_mid rfl 79 (.tmp 17) (.tmp 16) rfl (w.heap.size + 1 + 1) 0 (#[.bool s0, .int .u64 (n0 : Int), .int .u64 (m0.clock : Int), .int .u64 (m0.b.1 : Int), .slice x0.b.eA x0.b.n x0.b.ec, .slice x0.b.gA x0.b.g x0.b.gc, .int .i64 m0.c.1, .int .u64 (m0.c.2.1 : Int), .slice x0.c.A x0.c.s x0.c.c, .bool a0]) rfl rfl (hth) (by exact zaG) (by exact all_oneCell_toArray (zbQ s0 n0 x0 m0 a0)) ?_)
 clear hR2 hR1 hB hO6 hth
 generalize w1.setCells (w.heap.size + 1 + 1) 0 [.bool s0, .int .u64 (n0 : Int), .int .u64 (m0.clock : Int), .int .u64 (m0.b.1 : Int), .slice x0.b.eA x0.b.n x0.b.ec, .slice x0.b.gA x0.b.g x0.b.gc, .int .i64 m0.c.1, .int .u64 (m0.c.2.1 : Int), .slice x0.c.A x0.c.s x0.c.c, .bool a0] = W6 at *
 have hR2 := hR26
 have hR1 := hR16
 have hB := hB6
 clear hR26 hR16 hB6
 go_wp2_with fail
 rw [rounds_succ]
 obtain ⟨hRa, hBa⟩ := zat W6 24 [.slice none 0 0, .int .i64 0] _ rfl
 go_upto_region 5 with (refine zab rfl 24 (.tmp 6) (.tmp 12) rfl (W6.heap.size) rfl ([.slice x.A1 x.n1 x.c1, .int .i64 D.a1.s]) rfl _ _ (hRa) (by exact zau) rfl (zaN x.A1 x.n1 x.c1 D.a1.s) ?_)
 have hRa2 := hRa.setRow [.slice x.A1 x.n1 x.c1, .int .i64 D.a1.s]
 have hB2 := below_setRow hBa (Nat.le_refl _) [.slice x.A1 x.n1 x.c1, .int .i64 D.a1.s].toArray
 clear hRa hBa
 generalize (W6.alloc (.cells #[.slice none 0 0, .int .i64 0] 24)).setRow W6.heap.size [.slice x.A1 x.n1 x.c1, .int .i64 D.a1.s].toArray = V1 at hRa2 hB2 ⊢
 have t0 : V1.cell? ⟨W6.heap.size, 0, none⟩ = some (.slice x.A1 x.n1 x.c1) := hRa2.cell rfl
 replace hR1 := hR1.later hB2
 replace hR2 := hR2.later hB2
 replace hB := zaa hB hB2
 replace hI0 := hI0.keep hB2
 have hs2 := hB2.size
 clear hB2 hRa2
 go_wp2_with fail
 refine (HH1.out _ hB).mono ?_
 rintro e w2 ⟨s1, n1, x1, m1, a1, rfl, hI1, ho1, hnum1, HO1, hb1⟩
 replace hR1 := hR1.later hb1
 replace hR2 := hR2.later hb1
 replace hB := zaa hB hb1
 replace hI0 := hI0.keep hb1
 have hs3 := hb1.size
 have hth := zaV hR2 10 10 (by simp)
 have hO6 := Only.setCells (g := w.heap.size + 1 + 1) [.bool s1, .int .u64 (n1 : Int), .int .u64 (m1.clock : Int), .int .u64 (m1.b.1 : Int), .slice x1.b.eA x1.b.n x1.b.ec, .slice x1.b.gA x1.b.g x1.b.gc, .int .i64 m1.c.1, .int .u64 (m1.c.2.1 : Int), .slice x1.c.A x1.c.s x1.c.c, .bool a1] 10 (Only.refl _ w2)
 have hR26 : Row (w2.setCells (w.heap.size + 1 + 1) 10 [.bool s1, .int .u64 (n1 : Int), .int .u64 (m1.clock : Int), .int .u64 (m1.b.1 : Int), .slice x1.b.eA x1.b.n x1.b.ec, .slice x1.b.gA x1.b.g x1.b.gc, .int .i64 m1.c.1, .int .u64 (m1.c.2.1 : Int), .slice x1.c.A x1.c.s x1.c.c, .bool a1]) (w.heap.size + 1 + 1) 108 [.bool s0, .int .u64 (n0 : Int), .int .u64 (m0.clock : Int), .int .u64 (m0.b.1 : Int), .slice x0.b.eA x0.b.n x0.b.ec, .slice x0.b.gA x0.b.g x0.b.gc, .int .i64 m0.c.1, .int .u64 (m0.c.2.1 : Int), .slice x0.c.A x0.c.s x0.c.c, .bool a0, .bool s1, .int .u64 (n1 : Int), .int .u64 (m1.clock : Int), .int .u64 (m1.b.1 : Int), .slice x1.b.eA x1.b.n x1.b.ec, .slice x1.b.gA x1.b.g x1.b.gc, .int .i64 m1.c.1, .int .u64 (m1.c.2.1 : Int), .slice x1.c.A x1.c.s x1.c.c, .bool a1] := hR2.setCells _ 10 (by simp)
 have hR16 := hR1.only hO6 (by omega)
 have hB6 := hB.trans (hO6.below.mono (by omega))
 replace hI1 := hI1.at_only hO6 ho1 (Nat.zero_le _) (by omega)
 replace hI0 := hI0.at_only hO6 ho0 (Nat.zero_le _) (by omega)
 have hs6 := hO6.below.size
 clear hb1 t0
 go_upto_region 6 with (refine wpList_store_mid rfl 79 (.tmp 17) (.tmp 16) rfl (w.heap.size + 1 + 1) 10 (#[.bool s1, .int .u64 (n1 : Int), .int .u64 (m1.clock : Int), .int .u64 (m1.b.1 : Int), .slice x1.b.eA x1.b.n x1.b.ec, .slice x1.b.gA x1.b.g x1.b.gc, .int .i64 m1.c.1, .int .u64 (m1.c.2.1 : Int), .slice x1.c.A x1.c.s x1.c.c, .bool a1]) rfl rfl (hth) (by exact zaG) (by exact all_oneCell_toArray (zbQ s1 n1 x1 m1 a1)) ?_)
 clear hR2 hR1 hB hO6 hth
 generalize w2.setCells (w.heap.size + 1 + 1) 10 [.bool s1, .int .u64 (n1 : Int), .int .u64 (m1.clock : Int), .int .u64 (m1.b.1 : Int), .slice x1.b.eA x1.b.n x1.b.ec, .slice x1.b.gA x1.b.g x1.b.gc, .int .i64 m1.c.1, .int .u64 (m1.c.2.1 : Int), .slice x1.c.A x1.c.s x1.c.c, .bool a1] = W9 at *
 have hR2 := hR26
 have hR1 := hR16
 have hB := hB6
 clear hR26 hR16 hB6
 go_wp2_with fail
 rw [rounds_succ]
 clear ix0 ix1 HH0 HH1
 have k0 := hR2.cell (i := 0) rfl
 have k1 := hR2.cell (i := 1) rfl
 have k10 := hR2.cell (i := 10) rfl
 have k11 := hR2.cell (i := 11) rfl
 have hsz := hR1.lt
 have HD0 : Hid (HoG s0 n0 m0 a0 D.a0.b.length (za6 fS D.a0.b)) := by have := HO0.out; unfold Hid; rw [HL0.out]; exact this
 have HD1 : Hid (HoG s1 n1 m1 a1 D.a1.b.length (za6 fS D.a1.b)) := by have := HO1.out; unfold Hid; rw [HL1.out]; exact this
 clear HO0 HO1
 cases s0 with
 | false =>
  have HFF := Lib.hid (znB HD0.out HD1.out (.inl rfl))
  go_upto_region 8 with fail
  have hR2' : Row W9.drew (w.heap.size + 1 + 1) 108 [.bool false, .int .u64 (n0 : Int), .int .u64 (m0.clock : Int), .int .u64 (m0.b.1 : Int), .slice x0.b.eA x0.b.n x0.b.ec, .slice x0.b.gA x0.b.g x0.b.gc, .int .i64 m0.c.1, .int .u64 (m0.c.2.1 : Int), .slice x0.c.A x0.c.s x0.c.c, .bool a0, .bool s1, .int .u64 (n1 : Int), .int .u64 (m1.clock : Int), .int .u64 (m1.b.1 : Int), .slice x1.b.eA x1.b.n x1.b.ec, .slice x1.b.gA x1.b.g x1.b.gc, .int .i64 m1.c.1, .int .u64 (m1.c.2.1 : Int), .slice x1.c.A x1.c.s x1.c.c, .bool a1] := hR2
  have hR1' := hR1.drew
  have hB' := hB.drew
  have hI' := hI1.keep ((Below.refl _ W9).drew)
  refine zah (fun _ => True) (.step 0 false (.step 2 false (.step 1 true (.step 3 true (.nil))))) trivial (by kernel_rfl) (by kernel_rfl) (by rfl) (by kernel_rfl) ?_
  clear hR2 hR1 hB hI0 hI1
  generalize W9.drew = wv at *
  iterate 2 (refine zae rfl (by rfl) (v := ?_) ?_ ?_; rotate_left 1; (intro W hW; go_simp <;> with_reducible rfl); simp only [pA, pB, pC, Act.put, pD, pE, pF])
  refine zad rfl (by rfl) (fun K hK => ?_)
  refine wp_load_mid 79 (.tmp 37) rfl (w.heap.size + 1 + 1) 10 rfl [.bool s1, .int .u64 (n1 : Int), .int .u64 (m1.clock : Int), .int .u64 (m1.b.1 : Int), .slice x1.b.eA x1.b.n x1.b.ec, .slice x1.b.gA x1.b.g x1.b.gc, .int .i64 m1.c.1, .int .u64 (m1.c.2.1 : Int), .slice x1.c.A x1.c.s x1.c.c, .bool a1] _ (hR2'.range_part 10 _ rfl) Tryz.underlying79 rfl (by exact zaG) ?_
  refine hK.out _ _ trivial ?_
  clear hK K
  simp only [pA, pB, pC, Act.put, pD, pE, pF]
  refine zad rfl (by rfl) (fun K hK => ?_)
  refine hR1'.wp_store 79 (.tmp 3) (.tmp 38) rfl rfl [.bool s1, .int .u64 (n1 : Int), .int .u64 (m1.clock : Int), .int .u64 (m1.b.1 : Int), .slice x1.b.eA x1.b.n x1.b.ec, .slice x1.b.gA x1.b.g x1.b.gc, .int .i64 m1.c.1, .int .u64 (m1.c.2.1 : Int), .slice x1.c.A x1.c.s x1.c.c, .bool a1] rfl (by exact zaG) rfl (zbQ s1 n1 x1 m1 a1) ?_
  refine hK.out _ _ trivial ?_
  clear hK K
  simp only [pA, pB, pC, Act.put, pD, pE, pF]
  refine zal ?_
  go_wp2_with fail
  refine bodyPost_ret (zcb (p := 3) (u := 2) (ty := 79) (by rfl) _ _ (w.heap.size + 1) 79 _ _ (by rfl) (by exact hR1'.setRow _) Tryz.underlying79 (by rfl) (by exact zaG)) (by rfl) ?_
  have hO9 := (Only.refl (w.heap.size + 1) wv).setRow [.bool s1, .int .u64 (n1 : Int), .int .u64 (m1.clock : Int), .int .u64 (m1.b.1 : Int), .slice x1.b.eA x1.b.n x1.b.ec, .slice x1.b.gA x1.b.g x1.b.gc, .int .i64 m1.c.1, .int .u64 (m1.c.2.1 : Int), .slice x1.c.A x1.c.s x1.c.c, .bool a1].toArray
  have HF := HFF.out
  rw [HG.out] at HF
  exact ⟨1, s1, n1, x1, m1, a1, rfl, hI'.at_only hO9 ho1 (Nat.zero_le _) (by omega), ho1.mono (Nat.le_refl _) (by omega), hnum1, .inr rfl, (fun h => by first | exact HF.1 h | cases h), (fun h => by first | exact HF.2 h | exact HF.2 trivial), below_setRow hB' (by omega) _⟩
 | true =>
  cases s1 with
  | false =>
   have HFF := Lib.hid (zkL HD0.out HD1.out rfl (.inl rfl))
   go_upto_region 9 with fail
   have hR2' : Row W9.drew (w.heap.size + 1 + 1) 108 [.bool true, .int .u64 (n0 : Int), .int .u64 (m0.clock : Int), .int .u64 (m0.b.1 : Int), .slice x0.b.eA x0.b.n x0.b.ec, .slice x0.b.gA x0.b.g x0.b.gc, .int .i64 m0.c.1, .int .u64 (m0.c.2.1 : Int), .slice x0.c.A x0.c.s x0.c.c, .bool a0, .bool false, .int .u64 (n1 : Int), .int .u64 (m1.clock : Int), .int .u64 (m1.b.1 : Int), .slice x1.b.eA x1.b.n x1.b.ec, .slice x1.b.gA x1.b.g x1.b.gc, .int .i64 m1.c.1, .int .u64 (m1.c.2.1 : Int), .slice x1.c.A x1.c.s x1.c.c, .bool a1] := hR2
   have hR1' := hR1.drew
   have hB' := hB.drew
   have hI' := hI0.keep ((Below.refl _ W9).drew)
   refine zah (fun _ => True) (.step 0 false (.step 2 false (.step 1 true (.step 3 true (.nil))))) trivial (by kernel_rfl) (by kernel_rfl) (by rfl) (by kernel_rfl) ?_
   clear hR2 hR1 hB hI0 hI1
   generalize W9.drew = wv at *
   iterate 2 (refine zae rfl (by rfl) (v := ?_) ?_ ?_; rotate_left 1; (intro W hW; go_simp <;> with_reducible rfl); simp only [pA, pB, pC, Act.put, pD, pE, pF])
   refine zad rfl (by rfl) (fun K hK => ?_)
   refine wp_load_mid 79 (.tmp 39) rfl (w.heap.size + 1 + 1) 0 rfl [.bool true, .int .u64 (n0 : Int), .int .u64 (m0.clock : Int), .int .u64 (m0.b.1 : Int), .slice x0.b.eA x0.b.n x0.b.ec, .slice x0.b.gA x0.b.g x0.b.gc, .int .i64 m0.c.1, .int .u64 (m0.c.2.1 : Int), .slice x0.c.A x0.c.s x0.c.c, .bool a0] _ (hR2'.range_part 0 _ rfl) Tryz.underlying79 rfl (by exact zaG) ?_
   refine hK.out _ _ trivial ?_
   clear hK K
   simp only [pA, pB, pC, Act.put, pD, pE, pF]
   refine zad rfl (by rfl) (fun K hK => ?_)
   refine hR1'.wp_store 79 (.tmp 3) (.tmp 40) rfl rfl [.bool true, .int .u64 (n0 : Int), .int .u64 (m0.clock : Int), .int .u64 (m0.b.1 : Int), .slice x0.b.eA x0.b.n x0.b.ec, .slice x0.b.gA x0.b.g x0.b.gc, .int .i64 m0.c.1, .int .u64 (m0.c.2.1 : Int), .slice x0.c.A x0.c.s x0.c.c, .bool a0] rfl (by exact zaG) rfl (zbQ true n0 x0 m0 a0) ?_
   refine hK.out _ _ trivial ?_
   clear hK K
   simp only [pA, pB, pC, Act.put, pD, pE, pF]
   refine zal ?_
   go_wp2_with fail
   refine bodyPost_ret (zcb (p := 3) (u := 2) (ty := 79) (by rfl) _ _ (w.heap.size + 1) 79 _ _ (by rfl) (by exact hR1'.setRow _) Tryz.underlying79 (by rfl) (by exact zaG)) (by rfl) ?_
   have hO9 := (Only.refl (w.heap.size + 1) wv).setRow [.bool true, .int .u64 (n0 : Int), .int .u64 (m0.clock : Int), .int .u64 (m0.b.1 : Int), .slice x0.b.eA x0.b.n x0.b.ec, .slice x0.b.gA x0.b.g x0.b.gc, .int .i64 m0.c.1, .int .u64 (m0.c.2.1 : Int), .slice x0.c.A x0.c.s x0.c.c, .bool a0].toArray
   have HF : (true = false → G = none) ∧ (true = true → ∃ z, G = some (0, n0, m0, z) ∧ (a0 = true ↔ z = D.a0.b.length)) := ⟨(fun h => by cases h), fun _ => by have := HFF.out; rw [HG.out] at this; exact this⟩
   exact ⟨0, true, n0, x0, m0, a0, rfl, hI'.at_only hO9 ho0 (Nat.zero_le _) (by omega), ho0.mono (Nat.le_refl _) (by omega), hnum0, .inl rfl, (fun h => by first | exact HF.1 h | cases h), (fun h => by first | exact HF.2 h | exact HF.2 trivial), below_setRow hB' (by omega) _⟩
  | true =>
   by_cases hlt : n0 < n1
   ·have HFF := Lib.hid (znB HD0.out HD1.out (.inr ⟨rfl, hlt⟩))
    have i1 : (n0 : Int) < (n1 : Int) := by omega
    clear hlt
    go_upto_region 8 with fail
    have hR2' : Row W9.drew (w.heap.size + 1 + 1) 108 [.bool true, .int .u64 (n0 : Int), .int .u64 (m0.clock : Int), .int .u64 (m0.b.1 : Int), .slice x0.b.eA x0.b.n x0.b.ec, .slice x0.b.gA x0.b.g x0.b.gc, .int .i64 m0.c.1, .int .u64 (m0.c.2.1 : Int), .slice x0.c.A x0.c.s x0.c.c, .bool a0, .bool true, .int .u64 (n1 : Int), .int .u64 (m1.clock : Int), .int .u64 (m1.b.1 : Int), .slice x1.b.eA x1.b.n x1.b.ec, .slice x1.b.gA x1.b.g x1.b.gc, .int .i64 m1.c.1, .int .u64 (m1.c.2.1 : Int), .slice x1.c.A x1.c.s x1.c.c, .bool a1] := hR2
    have hR1' := hR1.drew
    have hB' := hB.drew
    have hI' := hI1.keep ((Below.refl _ W9).drew)
    refine zah (fun _ => True) (.step 0 false (.step 2 false (.step 1 true (.step 3 true (.nil))))) trivial (by kernel_rfl) (by kernel_rfl) (by rfl) (by kernel_rfl) ?_
    clear hR2 hR1 hB hI0 hI1
    generalize W9.drew = wv at *
    iterate 2 (refine zae rfl (by rfl) (v := ?_) ?_ ?_; rotate_left 1; (intro W hW; go_simp <;> with_reducible rfl); simp only [pA, pB, pC, Act.put, pD, pE, pF])
    refine zad rfl (by rfl) (fun K hK => ?_)
    refine wp_load_mid 79 (.tmp 37) rfl (w.heap.size + 1 + 1) 10 rfl [.bool true, .int .u64 (n1 : Int), .int .u64 (m1.clock : Int), .int .u64 (m1.b.1 : Int), .slice x1.b.eA x1.b.n x1.b.ec, .slice x1.b.gA x1.b.g x1.b.gc, .int .i64 m1.c.1, .int .u64 (m1.c.2.1 : Int), .slice x1.c.A x1.c.s x1.c.c, .bool a1] _ (hR2'.range_part 10 _ rfl) Tryz.underlying79 rfl (by exact zaG) ?_
    refine hK.out _ _ trivial ?_
    clear hK K
    simp only [pA, pB, pC, Act.put, pD, pE, pF]
    refine zad rfl (by rfl) (fun K hK => ?_)
    refine hR1'.wp_store 79 (.tmp 3) (.tmp 38) rfl rfl [.bool true, .int .u64 (n1 : Int), .int .u64 (m1.clock : Int), .int .u64 (m1.b.1 : Int), .slice x1.b.eA x1.b.n x1.b.ec, .slice x1.b.gA x1.b.g x1.b.gc, .int .i64 m1.c.1, .int .u64 (m1.c.2.1 : Int), .slice x1.c.A x1.c.s x1.c.c, .bool a1] rfl (by exact zaG) rfl (zbQ true n1 x1 m1 a1) ?_
    refine hK.out _ _ trivial ?_
    clear hK K
    simp only [pA, pB, pC, Act.put, pD, pE, pF]
    refine zal ?_
    go_wp2_with fail
    refine bodyPost_ret (zcb (p := 3) (u := 2) (ty := 79) (by rfl) _ _ (w.heap.size + 1) 79 _ _ (by rfl) (by exact hR1'.setRow _) Tryz.underlying79 (by rfl) (by exact zaG)) (by rfl) ?_
    have hO9 := (Only.refl (w.heap.size + 1) wv).setRow [.bool true, .int .u64 (n1 : Int), .int .u64 (m1.clock : Int), .int .u64 (m1.b.1 : Int), .slice x1.b.eA x1.b.n x1.b.ec, .slice x1.b.gA x1.b.g x1.b.gc, .int .i64 m1.c.1, .int .u64 (m1.c.2.1 : Int), .slice x1.c.A x1.c.s x1.c.c, .bool a1].toArray
    have HF := HFF.out
    rw [HG.out] at HF
    exact ⟨1, true, n1, x1, m1, a1, rfl, hI'.at_only hO9 ho1 (Nat.zero_le _) (by omega), ho1.mono (Nat.le_refl _) (by omega), hnum1, .inr rfl, (fun h => by first | exact HF.1 h | cases h), (fun h => by first | exact HF.2 h | exact HF.2 trivial), below_setRow hB' (by omega) _⟩
   ·have HFF := Lib.hid (zkL HD0.out HD1.out rfl (.inr hlt))
    have i1 : ¬ (n0 : Int) < (n1 : Int) := by omega
    clear hlt
    go_upto_region 9 with fail
    have hR2' : Row W9.drew (w.heap.size + 1 + 1) 108 [.bool true, .int .u64 (n0 : Int), .int .u64 (m0.clock : Int), .int .u64 (m0.b.1 : Int), .slice x0.b.eA x0.b.n x0.b.ec, .slice x0.b.gA x0.b.g x0.b.gc, .int .i64 m0.c.1, .int .u64 (m0.c.2.1 : Int), .slice x0.c.A x0.c.s x0.c.c, .bool a0, .bool true, .int .u64 (n1 : Int), .int .u64 (m1.clock : Int), .int .u64 (m1.b.1 : Int), .slice x1.b.eA x1.b.n x1.b.ec, .slice x1.b.gA x1.b.g x1.b.gc, .int .i64 m1.c.1, .int .u64 (m1.c.2.1 : Int), .slice x1.c.A x1.c.s x1.c.c, .bool a1] := hR2
    have hR1' := hR1.drew
    have hB' := hB.drew
    have hI' := hI0.keep ((Below.refl _ W9).drew)
    refine zah (fun _ => True) (.step 0 false (.step 2 false (.step 1 true (.step 3 true (.nil))))) trivial (by kernel_rfl) (by kernel_rfl) (by rfl) (by kernel_rfl) ?_
    clear hR2 hR1 hB hI0 hI1
    generalize W9.drew = wv at *
    iterate 2 (refine zae rfl (by rfl) (v := ?_) ?_ ?_; rotate_left 1; (intro W hW; go_simp <;> with_reducible rfl); simp only [pA, pB, pC, Act.put, pD, pE, pF])
    refine zad rfl (by rfl) (fun K hK => ?_)
    refine wp_load_mid 79 (.tmp 39) rfl (w.heap.size + 1 + 1) 0 rfl [.bool true, .int .u64 (n0 : Int), .int .u64 (m0.clock : Int), .int .u64 (m0.b.1 : Int), .slice x0.b.eA x0.b.n x0.b.ec, .slice x0.b.gA x0.b.g x0.b.gc, .int .i64 m0.c.1, .int .u64 (m0.c.2.1 : Int), .slice x0.c.A x0.c.s x0.c.c, .bool a0] _ (hR2'.range_part 0 _ rfl) Tryz.underlying79 rfl (by exact zaG) ?_
    refine hK.out _ _ trivial ?_
    clear hK K
    simp only [pA, pB, pC, Act.put, pD, pE, pF]
    refine zad rfl (by rfl) (fun K hK => ?_)
    refine hR1'.wp_store 79 (.tmp 3) (.tmp 40) rfl rfl [.bool true, .int .u64 (n0 : Int), .int .u64 (m0.clock : Int), .int .u64 (m0.b.1 : Int), .slice x0.b.eA x0.b.n x0.b.ec, .slice x0.b.gA x0.b.g x0.b.gc, .int .i64 m0.c.1, .int .u64 (m0.c.2.1 : Int), .slice x0.c.A x0.c.s x0.c.c, .bool a0] rfl (by exact zaG) rfl (zbQ true n0 x0 m0 a0) ?_
    refine hK.out _ _ trivial ?_
    clear hK K
    simp only [pA, pB, pC, Act.put, pD, pE, pF]
    refine zal ?_
    go_wp2_with fail
    refine bodyPost_ret (zcb (p := 3) (u := 2) (ty := 79) (by rfl) _ _ (w.heap.size + 1) 79 _ _ (by rfl) (by exact hR1'.setRow _) Tryz.underlying79 (by rfl) (by exact zaG)) (by rfl) ?_
    have hO9 := (Only.refl (w.heap.size + 1) wv).setRow [.bool true, .int .u64 (n0 : Int), .int .u64 (m0.clock : Int), .int .u64 (m0.b.1 : Int), .slice x0.b.eA x0.b.n x0.b.ec, .slice x0.b.gA x0.b.g x0.b.gc, .int .i64 m0.c.1, .int .u64 (m0.c.2.1 : Int), .slice x0.c.A x0.c.s x0.c.c, .bool a0].toArray
    have HF : (true = false → G = none) ∧ (true = true → ∃ z, G = some (0, n0, m0, z) ∧ (a0 = true ↔ z = D.a0.b.length)) := ⟨(fun h => by cases h), fun _ => by have := HFF.out; rw [HG.out] at this; exact this⟩
    exact ⟨0, true, n0, x0, m0, a0, rfl, hI'.at_only hO9 ho0 (Nat.zero_le _) (by omega), ho0.mono (Nat.le_refl _) (by omega), hnum0, .inl rfl, (fun h => by first | exact HF.1 h | cases h), (fun h => by first | exact HF.2 h | exact HF.2 trivial), below_setRow hB' (by omega) _⟩
end Go.Proofs.YteljklkgdejhpaaGreatDoor
