/-
  What the calls awake and small of layer 16's statements answer. Conditions: the package's table holds sixty-four words (for tags); errors.errorType holds the handle of the type error (EtC).
-/
import Derived.Test.YtknjpmoimjhddaaGreatDoorQ10
import Derived.Lib.SmallJoins
import Derived.Lib.SlBytesConst
import Derived.Deep.DeepCutAuto
namespace Go.Proofs.YtknjpmoimjhddaaGreatDoor
set_option maxRecDepth 100000
open Go.RowKit
set_option linter.unusedSimpArgs false
set_option linter.unusedVariables false

def smallB (cs : List Tm) (n m : Nat) : Bool := shortT cs && (decide (n ≤ 300) && decide (m ≤ 4000))
theorem smallB_any (K : Int) (ts : List TD) (p n m : Nat) (A B D : Option Addr) (c bd f : Nat) (w : World) (HP : Hid (ts.length = p)) (ht : RdT w A ts) (hml : ∀ x ∈ ts, x.k.length ≤ 9223372036854775807 ∧ x.m.length ≤ 9223372036854775807) (hp : p ≤ 9223372036854775807) (hn : n ≤ 9223372036854775807) (hm : m ≤ 9223372036854775807) :
    Calls Tryz.prog 21 #[.agg #[.int .i64 K, .slice A p c], .slice B n bd, .slice D m f] w fun e w' => e = .returned (.bool (smallB (conT ts) n m)) ∧ Below w.heap.size w w' := by
  obtain ⟨hR, hB⟩ := box_rows w 48 (.int .i64 K) (.slice A p c)
  replace ht := ht.keep hB
  obtain ⟨R, hR'⟩ : ∃ R, smallB (conT ts) n m = R := ⟨_, rfl⟩
  rw [hR']
  unfold smallB at hR'
  obtain ⟨S, hS⟩ : ∃ S, shortT (conT ts) = S := ⟨_, rfl⟩
  have HS := Lib.hid hS
  rw [hS] at hR'
  have HR' := Lib.hid hR'
  clear hS hR'
  go_enter Tryz.func21, Tryz.ntmps21
  go_upto_region 1 with fail
  generalize (w.alloc (.cells #[.int .i64 K, .slice A p c] 48)) = w1 at hR hB ht ⊢
  have c0 : w1.cell? ⟨w.heap.size, 1, none⟩ = some (.slice A p c) := hR.cell rfl
  go_wp2_with fail
  refine (refshort_any ts p A c _ HP ht hml hp).mono ?_
  rintro e' w3 ⟨rfl, rfl⟩
  rw [HS.out]
  cases S with
  | false =>
    have eR : R = false := HR'.out.symm
    subst eR
    clear HR'
    go_wp2_with fail
    go_ret
    exact ⟨rfl, hB⟩
  | true =>
    by_cases h1 : n ≤ 300
    · have g1 : decide ((n : Int) ≤ 300) = true := decide_eq_true (by omega)
      have z1 : (n : Int) ≤ 300 := by omega
      by_cases h2 : m ≤ 4000
      · have g2 : decide ((m : Int) ≤ 4000) = true := decide_eq_true (by omega)
        have z2 : (m : Int) ≤ 4000 := by omega
        have eR : R = true := by rw [← HR'.out, decide_eq_true h1, decide_eq_true h2]; rfl
        subst eR
        clear h1 h2 HR'
        go_wp2_with fail
        go_ret
        exact ⟨rfl, hB⟩
      · have g2 : decide ((m : Int) ≤ 4000) = false := decide_eq_false (by omega)
        have z2 : ¬ (m : Int) ≤ 4000 := by omega
        have eR : R = false := by rw [← HR'.out, decide_eq_true h1, decide_eq_false h2]; rfl
        subst eR
        clear h1 h2 HR'
        go_wp2_with fail
        go_ret
        exact ⟨rfl, hB⟩
    · have g1 : decide ((n : Int) ≤ 300) = false := decide_eq_false (by omega)
      have z1 : ¬ (n : Int) ≤ 300 := by omega
      have eR : R = false := by rw [← HR'.out, decide_eq_false h1]; rfl
      subst eR
      clear h1 HR'
      go_wp2_with fail
      go_ret
      exact ⟨rfl, hB⟩


/-! ### awake -/
theorem RdE.of_row {W : World} {g : Nat} {x : ED} (h : Row W g 35 x.cells) : RdE W (some ⟨g, 0, none⟩) [x] := fun _ => by
  refine ⟨g, 0, rfl, fun i hi => ?_⟩
  have e : i = 0 := by simpa using hi
  subst e
  exact ⟨h.cell rfl, h.cell rfl, h.cell rfl⟩
theorem RdG.of_row {W : World} {g : Nat} {x : Gn} (h : Row W g 91 (cellG x)) : RdG W (some ⟨g, 0, none⟩) [x] := fun _ => by
  refine ⟨g, 0, rfl, fun i hi => ?_⟩
  have e : i = 0 := by simpa using hi
  subst e
  exact ⟨h.cell rfl, h.cell rfl⟩
def bwE : List En := [(3, 1, [115])]
def bwG : List Gn := [(2, 1)]
def bwB : List UInt8 := bytesB 7 bwE bwG
theorem bw_right : rightB bwE bwG = true := by decide +kernel
theorem bw_len : bwB.length = 45 := by decide +kernel
theorem bw_fit : fitE bwE ∧ fitG bwG := by
  constructor
  · intro x hx
    rw [List.mem_singleton.1 hx]
    decide
  · intro x hx
    rw [List.mem_singleton.1 hx]
    decide
theorem bw_open [Inhabited Tab] : openB 2 (termsE 2 [] ([107], bwB)) [107] (sealBx 2 [] [107] 7 bwE bwG) = (7, bwE, bwG, 45, 0) := by
  have := openB_made (K := 2) (cs := []) (key := [107]) bw_right (v := 7) (by decide) bw_fit.1 bw_fit.2 (by decide +kernel)
  rw [show (bytesB 7 bwE bwG).length = 45 from bw_len] at this
  exact this
theorem bw_shut [Inhabited Tab] : openB 2 (termsE 2 [] ([107], bwB)) [108] (sealBx 2 [] [107] 7 bwE bwG) = badB 5 :=
  openB_unfit bw_right (by decide) bw_fit.1 bw_fit.2 (by
    have e : termsE 2 [] ([107], bwB) = [([107], bwB)] := by
      unfold termsE
      rw [if_pos (by decide)]
      rfl
    show ([108], bwB) ∉ termsE 2 [] ([107], bwB)
    rw [e]
    intro h
    have := List.mem_singleton.1 h
    injection this with this _
    exact absurd this (by decide))
theorem bw_lenT : lenT (termsE 2 [] ([107], bwB)) := by
  unfold termsE
  rw [if_pos (by decide)]
  exact lenT.nil.put (by decide) (by rw [bw_len]; decide)
theorem bw_xlen [Inhabited Tab] : (sealBx 2 [] [107] 7 bwE bwG).length = 53 := by
  rw [sealBx_length]
  show bwB.length + 8 = 53
  rw [bw_len]
theorem bw_x8 [Inhabited Tab] : (sealBx 2 [] [107] 7 bwE bwG)[8]'(by rw [bw_xlen]; omega) = 7 := by
  unfold sealBx
  rw [List.getElem_append_left (by show 8 < bwB.length; rw [bw_len]; omega)]
  decide +kernel
theorem bw_cell [Inhabited Tab] {w : World} {A : Option Addr} (h : Rd vB w A (sealBx 2 [] [107] 7 bwE bwG)) : ∃ g o, A = some ⟨g, o, none⟩ ∧ ∀ W, Below w.heap.size w W → W.cell? ⟨g, o + 8, none⟩ = some (.int .u8 7) := by
  obtain ⟨g, o, rfl, hg, hc⟩ := h.at (k := 8) (by rw [bw_xlen]; omega)
  refine ⟨g, o, rfl, fun W hW => (hW.cell (p := ⟨g, o + 8, none⟩) hg).trans ?_⟩
  rw [hc 8 (by rw [bw_xlen]; omega), bw_x8]
  rfl
theorem okT_nilB (w : World) : okT w [] := fun x hx => by cases hx
theorem bw_one {es : List ED} (h : conE es = bwE) : ∃ x, es = [x] ∧ x.con = (3, 1, [115]) := by
  have hl := congrArg List.length h
  rw [conE_length] at hl
  match es, hl, h with
  | [x], _, h =>
    injection h with h _
    exact ⟨x, rfl, h⟩
theorem find_three {w w' : World} {es : List ED} {e : Ending} (h : conE es = bwE) (hf : RetFind w es 3 e w') : ∃ A c, e = .returned (.tuple #[aggN 3 1 A 1 c, .int .i64 0]) ∧ Rd vB w' A [115] ∧ Below w.heap.size w w' := by
  obtain ⟨x, rfl, hx⟩ := bw_one h
  obtain ⟨t, en, A, q, c, code, s, rfl, hq, hqc, hr, hb, hD⟩ := hf
  have ht : x.t = 3 := congrArg Prod.fst hx
  rcases hD.out with ⟨k, hk, rfl, _, h3⟩ | ⟨_, h2, _⟩
  · have : k = 0 := by simpa using hk
    subst this
    have h4 : (t, en, s) = (3, 1, [115]) := h3.trans hx
    injection h4 with a1 h4
    injection h4 with a2 a3
    subst a1 a2 a3
    have eq : q = 1 := hq.out.symm
    subst eq
    exact ⟨A, c, rfl, hr, hb⟩
  · rcases h2 with ⟨k, _, h3, _⟩ | ⟨_, h3⟩
    · omega
    · exact absurd ht (h3 x (List.mem_singleton.2 rfl))
theorem find_two {w w' : World} {es : List ED} {e : Ending} (h : conE es = bwE) (hf : RetFind w es 2 e w') : ∃ t en A q c, e = .returned (.tuple #[aggN t en A q c, .int .i64 7]) ∧ Below w.heap.size w w' := by
  obtain ⟨x, rfl, hx⟩ := bw_one h
  obtain ⟨t, en, A, q, c, code, s, rfl, hq, hqc, hr, hb, hD⟩ := hf
  have ht : x.t = 3 := congrArg Prod.fst hx
  rcases hD.out with ⟨k, hk, _, h2, _⟩ | ⟨rfl, _, _⟩
  · rcases h2 with ⟨k', hk', _, h3, _⟩ | ⟨h3, _⟩
    · have : k' = 0 := by simpa using hk'
      subst this
      have h4 : x.t = 2 := h3
      rw [ht] at h4
      exact absurd h4 (by decide)
    · omega
  · exact ⟨t, en, A, q, c, rfl, hb⟩

set_option maxHeartbeats 16000000 in
theorem awake16_any [Inhabited Tab] (w : World) (HK : Hid (KTab w)) (hg : EtC w) : Calls Tryz.prog 9 #[] w fun e w' => e = .returned (.bool true) ∧ Below w.heap.size w w' := by
  go_enter Tryz.func9, Tryz.ntmps9
  have hcv := Lib.run_convert_bytes_const (P := Tryz.prog) w 27 5 #[.int .u8 115] 1 1 Tryz.underlying27 Tryz.underlying5
  have hs0 : Rd vB (w.alloc (.cells #[.int .u8 115] 5 (1, 2))) (some ⟨w.heap.size, 0, none⟩) [115] := Rd.new_fr w _ rfl _ _ _ _ rfl
  have hb0 := below_new (Below.refl _ w) (.cells #[.int .u8 115] 5 (1, 2))
  have hRE : Row ((w.alloc (.cells #[.int .u8 115] 5 (1, 2))).alloc (.cells #[.int .u64 3, .int .u64 1, .slice (some ⟨w.heap.size, 0, none⟩) 1 1] 35)) (w.heap.size + 1) 35 (ED.mk 3 1 (some ⟨w.heap.size, 0, none⟩) 1 [115]).cells := Row.new_at _ _ (by simp) _ _ _ rfl
  have hb1 := below_new (Below.refl _ (w.alloc (.cells #[.int .u8 115] 5 (1, 2)))) (.cells #[.int .u64 3, .int .u64 1, .slice (some ⟨w.heap.size, 0, none⟩) 1 1] 35)
  have hRG : Row (((w.alloc (.cells #[.int .u8 115] 5 (1, 2))).alloc (.cells #[.int .u64 3, .int .u64 1, .slice (some ⟨w.heap.size, 0, none⟩) 1 1] 35)).alloc (.cells #[.int .u64 2, .int .u64 1] 91)) (w.heap.size + 2) 91 (cellG (2, 1)) := Row.new_at _ _ (by simp) _ _ _ rfl
  have hb2 := below_new hb1 (.cells #[.int .u64 2, .int .u64 1] 91)
  replace hRE := hRE.alloc (.cells #[.int .u64 2, .int .u64 1] 91)
  have hRn : Row ((((w.alloc (.cells #[.int .u8 115] 5 (1, 2))).alloc (.cells #[.int .u64 3, .int .u64 1, .slice (some ⟨w.heap.size, 0, none⟩) 1 1] 35)).alloc (.cells #[.int .u64 2, .int .u64 1] 91)).alloc (.cells #[.int .u64 0, .slice none 0 0, .slice none 0 0] 26)) (w.heap.size + 3) 26 zeroB := Row.new_at _ _ (by simp) _ _ _ rfl
  have hb3 := below_new hb2 (.cells #[.int .u64 0, .slice none 0 0, .slice none 0 0] 26)
  replace hRE := hRE.alloc (.cells #[.int .u64 0, .slice none 0 0, .slice none 0 0] 26)
  replace hRG := hRG.alloc (.cells #[.int .u64 0, .slice none 0 0, .slice none 0 0] 26)
  replace hs0 := hs0.keep hb3
  have hB := below_step hb0 hb3
  go_upto_region 1 with fail
  go_upto_region 2 with (refine wpList_store_row rfl 26 (.tmp 1) (.tmp 21) rfl (w.heap.size + 3) rfl [.int .u64 7, .slice (some ⟨w.heap.size + 1, 0, none⟩) 1 1, .slice (some ⟨w.heap.size + 2, 0, none⟩) 1 1] rfl _ _ hRn (by exact size_bundle) rfl (one_three _ _ _ rfl rfl rfl) ?_)
  have hRb := hRn.setRow [.int .u64 7, .slice (some ⟨w.heap.size + 1, 0, none⟩) 1 1, .slice (some ⟨w.heap.size + 2, 0, none⟩) 1 1]
  replace hs0 := hs0.setRow_row hRn bun_no_byte [.int .u64 7, .slice (some ⟨w.heap.size + 1, 0, none⟩) 1 1, .slice (some ⟨w.heap.size + 2, 0, none⟩) 1 1].toArray
  replace hRE := hRE.setRow_other (k := w.heap.size + 3) (by omega) [.int .u64 7, .slice (some ⟨w.heap.size + 1, 0, none⟩) 1 1, .slice (some ⟨w.heap.size + 2, 0, none⟩) 1 1].toArray
  replace hRG := hRG.setRow_other (k := w.heap.size + 3) (by omega) [.int .u64 7, .slice (some ⟨w.heap.size + 1, 0, none⟩) 1 1, .slice (some ⟨w.heap.size + 2, 0, none⟩) 1 1].toArray
  replace hB := below_setRow hB (Nat.le_add_right _ 3) [.int .u64 7, .slice (some ⟨w.heap.size + 1, 0, none⟩) 1 1, .slice (some ⟨w.heap.size + 2, 0, none⟩) 1 1].toArray
  generalize ((((w.alloc (.cells #[.int .u8 115] 5 (1, 2))).alloc (.cells #[.int .u64 3, .int .u64 1, .slice (some ⟨w.heap.size, 0, none⟩) 1 1] 35)).alloc (.cells #[.int .u64 2, .int .u64 1] 91)).alloc (.cells #[.int .u64 0, .slice none 0 0, .slice none 0 0] 26)).setRow (w.heap.size + 3) [.int .u64 7, .slice (some ⟨w.heap.size + 1, 0, none⟩) 1 1, .slice (some ⟨w.heap.size + 2, 0, none⟩) 1 1].toArray = w1 at hRb hs0 hRE hRG hB ⊢
  clear hcv hb0 hb1 hb2 hb3 hRn
  have hre : RdE w1 (some ⟨w.heap.size + 1, 0, none⟩) [ED.mk 3 1 (some ⟨w.heap.size, 0, none⟩) 1 [115]] := RdE.of_row hRE
  have hoe : okD w1 [ED.mk 3 1 (some ⟨w.heap.size, 0, none⟩) 1 [115]] := fun x hx => by rw [List.mem_singleton.1 hx]; exact ⟨Nat.le_refl _, hs0⟩
  have hrg : RdG w1 (some ⟨w.heap.size + 2, 0, none⟩) [(2, 1)] := RdG.of_row hRG
  have HC0 : Hid (conE [ED.mk 3 1 (some ⟨w.heap.size, 0, none⟩) 1 [115]] = bwE) := rfl
  have HG0 : Hid (([(2, 1)] : List Gn) = bwG) := rfl
  have HL0 : Hid (([ED.mk 3 1 (some ⟨w.heap.size, 0, none⟩) 1 [115]] : List ED).length = 1) := rfl
  have HM0 : Hid (∀ x ∈ ([ED.mk 3 1 (some ⟨w.heap.size, 0, none⟩) 1 [115]] : List ED), x.s.length ≤ 9223372036854775807) := fun x hx => by rw [List.mem_singleton.1 hx]; show ([115] : List UInt8).length ≤ 9223372036854775807; decide
  have HN0 : Hid (([(2, 1)] : List Gn).length = 1) := rfl
  generalize ([ED.mk 3 1 (some ⟨w.heap.size, 0, none⟩) 1 [115]] : List ED) = es0 at hre hoe HC0 HL0 HM0
  generalize ([(2, 1)] : List Gn) = gs0 at hrg HG0 HN0
  generalize (some ⟨w.heap.size + 1, 0, none⟩ : Option Addr) = eA0 at hre hRb ⊢
  generalize (some ⟨w.heap.size + 2, 0, none⟩ : Option Addr) = gA0 at hrg hRb ⊢
  generalize hgb : w.heap.size + 3 = gb at hRb ⊢
  clear hgb hs0 hRE hRG
  replace HK := Lib.hid (HK.out.keep hB)
  replace hg := hg.later hB
  -- Seal
  have hcv := Lib.run_convert_bytes_const (P := Tryz.prog) w1 27 5 #[.int .u8 107] 1 1 Tryz.underlying27 Tryz.underlying5
  have hk0 : Rd vB (w1.alloc (.cells #[.int .u8 107] 5 (1, 2))) (some ⟨w1.heap.size, 0, none⟩) [107] := Rd.new_fr w1 _ rfl _ _ _ _ rfl
  have hbk := below_new (Below.refl _ w1) (.cells #[.int .u8 107] 5 (1, 2))
  have hRb1 := hRb.later hbk
  go_wp2_with (refine wpList_load_part rfl 26 (.tmp 1) rfl gb 0 rfl _ _ hRb1 [.int .u64 7, .slice eA0 1 1, .slice gA0 1 1] (by rfl) _ Tryz.underlying26 rfl (by exact size_bundle) ?_)
  clear hcv hRb1
  refine (sealB_good 2 [] [107] 0 1 none (some ⟨w1.heap.size, 0, none⟩) 0 1 7 1 1 1 1 es0 gs0 eA0 gA0 _ (Lib.hid rfl) (Lib.hid lenT.nil) RdT.nil (okT_nilB _) (by omega) (by omega) HL0 HN0 (hre.keep hbk) (hoe.keep hbk) (hrg.keep hbk) (by omega) (by rw [HC0.out]; exact bw_fit.1) (by unfold Hid; rw [HG0.out]; exact bw_fit.2) (by omega) (by omega) HM0.out (by rw [HC0.out, HG0.out]; exact bw_right) (Lib.hid rfl) hk0 (by omega) (by omega) (Lib.hid (by decide +kernel)) (Lib.hid (HK.out.keep hbk))).mono ?_
  rw [HC0.out, HG0.out]
  rintro e' w2 ⟨us, p, A2, c2, n, tA, tc, rfl, HP, hpc, htu, hoku, HC, HSL, hntc, hrt, hb⟩
  have hrt' : Rd vB w2 tA (sealBx 2 [] [107] 7 bwE bwG) := hrt
  have HSL' : Hid ((sealBx 2 [] [107] 7 bwE bwG).length = n) := HSL
  have en : n = 53 := HSL'.out.symm.trans bw_xlen
  subst en
  replace hb := below_step hbk hb
  replace hRb := hRb.later hb
  replace hre := hre.keep hb
  replace hoe := hoe.keep hb
  replace hrg := hrg.keep hb
  replace HK := Lib.hid (HK.out.keep hb)
  replace hg := hg.later hb
  replace hB := below_step hB hb
  clear hb
  clear hbk hk0 hrt HSL
  have hRn : Row (w2.alloc (.cells #[.int .i64 0, .slice none 0 0] 48)) w2.heap.size 48 [.int .i64 0, .slice none 0 0] := Row.new w2 _ _ _ rfl
  go_upto_region 3 with (refine wpList_store_row rfl 48 (.tmp 2) (.tmp 28) rfl w2.heap.size rfl [.int .i64 2, .slice A2 p c2] rfl _ _ hRn (by exact size_engine) rfl (one_pair _ _ rfl rfl) ?_)
  have hRe := hRn.setRow [.int .i64 2, .slice A2 p c2]
  have hbn : Below w2.heap.size w2 ((w2.alloc (.cells #[.int .i64 0, .slice none 0 0] 48)).setRow w2.heap.size [.int .i64 2, .slice A2 p c2].toArray) := below_setRow (below_new (Below.refl _ _) _) (Nat.le_refl _) _
  generalize (w2.alloc (.cells #[.int .i64 0, .slice none 0 0] 48)).setRow w2.heap.size [.int .i64 2, .slice A2 p c2].toArray = w3 at hRe hbn ⊢
  replace hRb := hRb.later hbn
  replace hre := hre.keep hbn
  replace hoe := hoe.keep hbn
  replace hrg := hrg.keep hbn
  replace HK := Lib.hid (HK.out.keep hbn)
  replace hg := hg.later hbn
  replace hB := below_step hB hbn
  replace htu := htu.keep hbn
  replace hoku := hoku.keep hbn
  replace hrt' := hrt'.keep hbn
  clear hbn
  clear hRn
  generalize w2.heap.size = ge at hRe ⊢
  have HC' : Hid (conT us = termsE 2 [] ([107], bwB)) := HC
  have hp1 : p ≤ 1 := by
    have := congrArg List.length HC'.out
    rw [conT_length, HP.out] at this
    have h2 := termsE_le (K := 2) (cs := []) (([107], bwB) : Tm)
    rw [← this] at h2
    simpa using h2
  have HLT : Hid (lenT (conT us)) := by unfold Hid; rw [HC'.out]; exact bw_lenT
  have HO1 : Hid (openB 2 (conT us) [107] (sealBx 2 [] [107] 7 bwE bwG) = (7, bwE, bwG, 45, 0)) := by unfold Hid; rw [HC'.out]; exact bw_open
  have HO2 : Hid (openB 2 (conT us) [108] (sealBx 2 [] [107] 7 bwE bwG) = badB 5) := by unfold Hid; rw [HC'.out]; exact bw_shut
  obtain ⟨gx, ox, rfl, hx8⟩ := bw_cell hrt'
  have HX8 := Lib.hid hx8
  clear HC HC' hx8
  generalize sealBx 2 [] [107] 7 bwE bwG = X at hrt' HSL' HO1 HO2
  -- Open, by the key
  have hcv := Lib.run_convert_bytes_const (P := Tryz.prog) w3 27 5 #[.int .u8 107] 1 1 Tryz.underlying27 Tryz.underlying5
  have hk0 : Rd vB (w3.alloc (.cells #[.int .u8 107] 5 (1, 2))) (some ⟨w3.heap.size, 0, none⟩) [107] := Rd.new_fr w3 _ rfl _ _ _ _ rfl
  have hbk := below_new (Below.refl _ w3) (.cells #[.int .u8 107] 5 (1, 2))
  go_wp2_with (refine wpList_load_part rfl 48 (.tmp 2) rfl ge 0 rfl _ _ hRe [.int .i64 2, .slice A2 p c2] (by rfl) _ Tryz.underlying48 rfl (by exact size_engine) ?_)
  clear hcv
  refine (openB_any 2 us [107] X p 1 53 A2 (some ⟨w3.heap.size, 0, none⟩) (some ⟨gx, ox, none⟩) c2 1 tc _ HP HLT (htu.keep hbk) (hoku.keep hbk) (by omega) hpc (Lib.hid rfl) hk0 (by omega) (by omega) HSL' (hrt'.keep hbk) hntc (by omega) (Lib.hid (HK.out.keep hbk))).mono ?_
  rw [HO1.out]
  rintro e' w4 ⟨eA5, es5, n5, ec5, gA5, m5, gc5, ev5, rfl, HE5, HN5, HM5, hec5, hgc5, hre5, hoe5, hrg5, hb, hE5⟩
  dsimp only at HE5 HM5 hrg5 hE5 ⊢
  have eev : ev5 = .nilIface := by rcases hE5 with ⟨_, h⟩ | ⟨h, _⟩; exact h; exact absurd rfl h
  subst eev
  have en5 : n5 = 1 := by
    have := congrArg List.length HE5.out
    rw [conE_length, HN5.out] at this
    exact this
  subst en5
  have em5 : m5 = 1 := HM5.out.symm
  subst em5
  unfold aggB
  replace hb := below_step hbk hb
  obtain ⟨WX, hWX⟩ : ∃ W, W = w3 := ⟨_, rfl⟩
  have HBX := Lib.hid hb
  replace hRb := hRb.later hb
  replace hre := hre.keep hb
  replace hoe := hoe.keep hb
  replace hrg := hrg.keep hb
  replace HK := Lib.hid (HK.out.keep hb)
  replace hg := hg.later hb
  replace hB := below_step hB hb
  replace htu := htu.keep hb
  replace hoku := hoku.keep hb
  replace hrt' := hrt'.keep hb
  replace hRe := hRe.later hb
  clear hb
  clear hbk hk0 hE5 hWX WX
  have hRn : Row (w4.alloc (.cells #[.int .u64 0, .slice none 0 0, .slice none 0 0] 26)) w4.heap.size 26 zeroB := Row.new w4 _ _ _ rfl
  go_upto_region 4 with (refine wpList_store_row rfl 26 (.tmp 5) (.tmp 37) rfl w4.heap.size rfl [.int .u64 7, .slice eA5 1 ec5, .slice gA5 1 gc5] rfl _ _ hRn (by exact size_bundle) rfl (one_three _ _ _ rfl rfl rfl) ?_)
  have hRc := hRn.setRow [.int .u64 7, .slice eA5 1 ec5, .slice gA5 1 gc5]
  have hbn : Below w4.heap.size w4 ((w4.alloc (.cells #[.int .u64 0, .slice none 0 0, .slice none 0 0] 26)).setRow w4.heap.size [.int .u64 7, .slice eA5 1 ec5, .slice gA5 1 gc5].toArray) := below_setRow (below_new (Below.refl _ _) _) (Nat.le_refl _) _
  generalize (w4.alloc (.cells #[.int .u64 0, .slice none 0 0, .slice none 0 0] 26)).setRow w4.heap.size [.int .u64 7, .slice eA5 1 ec5, .slice gA5 1 gc5].toArray = w5 at hRc hbn ⊢
  replace HBX := Lib.hid (below_step HBX.out hbn)
  replace hRb := hRb.later hbn
  replace hre := hre.keep hbn
  replace hoe := hoe.keep hbn
  replace hrg := hrg.keep hbn
  replace HK := Lib.hid (HK.out.keep hbn)
  replace hg := hg.later hbn
  replace hB := below_step hB hbn
  replace htu := htu.keep hbn
  replace hoku := hoku.keep hbn
  replace hrt' := hrt'.keep hbn
  replace hRe := hRe.later hbn
  replace hre5 := hre5.keep hbn
  replace hoe5 := hoe5.keep hbn
  replace hrg5 := hrg5.keep hbn
  clear hbn
  clear hRn
  generalize w4.heap.size = gc at hRc ⊢
  -- Open, by another key
  have hcv := Lib.run_convert_bytes_const (P := Tryz.prog) w5 27 5 #[.int .u8 108] 1 1 Tryz.underlying27 Tryz.underlying5
  have hk0 : Rd vB (w5.alloc (.cells #[.int .u8 108] 5 (1, 2))) (some ⟨w5.heap.size, 0, none⟩) [108] := Rd.new_fr w5 _ rfl _ _ _ _ rfl
  have hbk := below_new (Below.refl _ w5) (.cells #[.int .u8 108] 5 (1, 2))
  go_wp2_with (refine wpList_load_part rfl 48 (.tmp 2) rfl ge 0 rfl _ _ hRe [.int .i64 2, .slice A2 p c2] (by rfl) _ Tryz.underlying48 rfl (by exact size_engine) ?_)
  clear hcv
  refine (openB_any 2 us [108] X p 1 53 A2 (some ⟨w5.heap.size, 0, none⟩) (some ⟨gx, ox, none⟩) c2 1 tc _ HP HLT (htu.keep hbk) (hoku.keep hbk) (by omega) hpc (Lib.hid rfl) hk0 (by omega) (by omega) HSL' (hrt'.keep hbk) hntc (by omega) (Lib.hid (HK.out.keep hbk))).mono ?_
  rw [HO2.out]
  rintro e' w6 ⟨eA7, es7, n7, ec7, gA7, m7, gc7, ev7, rfl, HE7, HN7, HM7, hec7, hgc7, hre7, hoe7, hrg7, hb, hE7⟩
  dsimp only [badB] at HE7 HM7 hrg7 hE7 ⊢
  obtain ⟨g7, rfl, hF⟩ : ∃ g, ev7 = errV g ∧ Flt w6 g 4 5 := by rcases hE7 with ⟨h, _⟩ | ⟨_, g, h1, h2⟩; exact absurd h (by decide); exact ⟨g, h1, h2⟩
  unfold aggB
  replace hb := below_step hbk hb
  replace HBX := Lib.hid (below_step HBX.out hb)
  replace hRb := hRb.later hb
  replace hre := hre.keep hb
  replace hoe := hoe.keep hb
  replace hrg := hrg.keep hb
  replace hg := hg.later hb
  replace hB := below_step hB hb
  replace hre5 := hre5.keep hb
  replace hoe5 := hoe5.keep hb
  replace hrg5 := hrg5.keep hb
  replace hRc := hRc.later hb
  clear hb
  clear hbk hk0 hE7 hre7 hoe7 hrg7 hRe htu hoku hrt' HK HLT HO1 HO2
  have hRn : Row (w6.alloc (.cells #[.int .u64 0, .slice none 0 0, .slice none 0 0] 26)) w6.heap.size 26 zeroB := Row.new w6 _ _ _ rfl
  go_upto_region 5 with (refine wpList_store_row rfl 26 (.tmp 7) (.tmp 45) rfl w6.heap.size rfl [.int .u64 0, .slice eA7 n7 ec7, .slice gA7 m7 gc7] rfl _ _ hRn (by exact size_bundle) rfl (one_three _ _ _ rfl rfl rfl) ?_)
  have hbn : Below w6.heap.size w6 ((w6.alloc (.cells #[.int .u64 0, .slice none 0 0, .slice none 0 0] 26)).setRow w6.heap.size [.int .u64 0, .slice eA7 n7 ec7, .slice gA7 m7 gc7].toArray) := below_setRow (below_new (Below.refl _ _) _) (Nat.le_refl _) _
  generalize (w6.alloc (.cells #[.int .u64 0, .slice none 0 0, .slice none 0 0] 26)).setRow w6.heap.size [.int .u64 0, .slice eA7 n7 ec7, .slice gA7 m7 gc7].toArray = w7 at hbn ⊢
  replace HBX := Lib.hid (below_step HBX.out hbn)
  replace hRb := hRb.later hbn
  replace hre := hre.keep hbn
  replace hoe := hoe.keep hbn
  replace hrg := hrg.keep hbn
  replace hg := hg.later hbn
  replace hB := below_step hB hbn
  replace hre5 := hre5.keep hbn
  replace hoe5 := hoe5.keep hbn
  replace hrg5 := hrg5.keep hbn
  replace hRc := hRc.later hbn
  replace hF := hF.later hbn
  clear hbn
  clear hRn
  go_wp2_with fail
  refine (told_flt g7 4 5 w7 hg hF).mono ?_
  rintro e' w8 ⟨rfl, hb⟩
  replace HBX := Lib.hid (below_step HBX.out hb)
  replace hRb := hRb.later hb
  replace hre := hre.keep hb
  replace hoe := hoe.keep hb
  replace hrg := hrg.keep hb
  replace hB := below_step hB hb
  replace hre5 := hre5.keep hb
  replace hoe5 := hoe5.keep hb
  replace hrg5 := hrg5.keep hb
  replace hRc := hRc.later hb
  clear hb
  clear hg hF
  have HMS : Hid (∀ x ∈ es5, x.s.length ≤ 70368744177664) := fun x hx => by
    obtain ⟨y, rfl, hy⟩ := bw_one HE5.out
    rw [List.mem_singleton.1 hx]
    have : y.s = [115] := congrArg (fun z => z.2.2) hy
    rw [this]
    decide
  go_upto_region 6 with fail
  go_wp2_with (refine wpList_load_part rfl 26 (.tmp 5) rfl gc 0 rfl _ _ hRc [.int .u64 7, .slice eA5 1 ec5, .slice gA5 1 gc5] (by rfl) _ Tryz.underlying26 rfl (by exact size_bundle) ?_)
  refine (findB_any 7 es5 1 ec5 1 gc5 3 eA5 gA5 _ HN5 hre5 hoe5 (by omega) HMS.out).mono ?_
  intro e' w9 hf
  obtain ⟨A9, c9, rfl, hr9, hb⟩ := find_three HE5.out hf
  replace HBX := Lib.hid (below_step HBX.out hb)
  replace hRb := hRb.later hb
  replace hre := hre.keep hb
  replace hoe := hoe.keep hb
  replace hrg := hrg.keep hb
  replace hB := below_step hB hb
  replace hre5 := hre5.keep hb
  replace hoe5 := hoe5.keep hb
  replace hrg5 := hrg5.keep hb
  replace hRc := hRc.later hb
  clear hb
  clear hf
  unfold aggN
  have hRn : Row (w9.alloc (.cells #[.int .u64 0, .int .u64 0, .slice none 0 0] 35)) w9.heap.size 35 [.int .u64 0, .int .u64 0, .slice none 0 0] := Row.new w9 _ _ _ rfl
  go_upto_region 7 with (refine wpList_store_row rfl 35 (.tmp 11) (.tmp 55) rfl w9.heap.size rfl [.int .u64 3, .int .u64 1, .slice A9 1 c9] rfl _ _ hRn (by exact size_entry) rfl (one_three _ _ _ rfl rfl rfl) ?_)
  have hRf := hRn.setRow [.int .u64 3, .int .u64 1, .slice A9 1 c9]
  have hbn : Below w9.heap.size w9 ((w9.alloc (.cells #[.int .u64 0, .int .u64 0, .slice none 0 0] 35)).setRow w9.heap.size [.int .u64 3, .int .u64 1, .slice A9 1 c9].toArray) := below_setRow (below_new (Below.refl _ _) _) (Nat.le_refl _) _
  generalize (w9.alloc (.cells #[.int .u64 0, .int .u64 0, .slice none 0 0] 35)).setRow w9.heap.size [.int .u64 3, .int .u64 1, .slice A9 1 c9].toArray = w10 at hRf hbn ⊢
  replace HBX := Lib.hid (below_step HBX.out hbn)
  replace hRb := hRb.later hbn
  replace hre := hre.keep hbn
  replace hoe := hoe.keep hbn
  replace hrg := hrg.keep hbn
  replace hB := below_step hB hbn
  replace hre5 := hre5.keep hbn
  replace hoe5 := hoe5.keep hbn
  replace hrg5 := hrg5.keep hbn
  replace hRc := hRc.later hbn
  replace hr9 := hr9.keep hbn
  clear hbn
  clear hRn
  generalize w9.heap.size = gf at hRf ⊢
  go_wp2_with (refine wpList_load_part rfl 26 (.tmp 5) rfl gc 0 rfl _ _ hRc [.int .u64 7, .slice eA5 1 ec5, .slice gA5 1 gc5] (by rfl) _ Tryz.underlying26 rfl (by exact size_bundle) ?_)
  refine (findB_any 7 es5 1 ec5 1 gc5 2 eA5 gA5 _ HN5 hre5 hoe5 (by omega) HMS.out).mono ?_
  intro e' w11 hf
  obtain ⟨t11, en11, A11, q11, c11, rfl, hb⟩ := find_two HE5.out hf
  replace HBX := Lib.hid (below_step HBX.out hb)
  replace hRb := hRb.later hb
  replace hre := hre.keep hb
  replace hoe := hoe.keep hb
  replace hrg := hrg.keep hb
  replace hB := below_step hB hb
  replace hre5 := hre5.keep hb
  replace hoe5 := hoe5.keep hb
  replace hrg5 := hrg5.keep hb
  replace hRc := hRc.later hb
  replace hr9 := hr9.keep hb
  replace hRf := hRf.later hb
  clear hb
  clear hf
  unfold aggN
  have hRn : Row (w11.alloc (.cells #[.int .u64 0, .int .u64 0, .slice none 0 0] 35)) w11.heap.size 35 [.int .u64 0, .int .u64 0, .slice none 0 0] := Row.new w11 _ _ _ rfl
  go_upto_region 8 with (refine wpList_store_row rfl 35 (.tmp 13) (.tmp 60) rfl w11.heap.size rfl [.int .u64 (t11 : Int), .int .u64 (en11 : Int), .slice A11 q11 c11] rfl _ _ hRn (by exact size_entry) rfl (one_three _ _ _ rfl rfl rfl) ?_)
  have hbn : Below w11.heap.size w11 ((w11.alloc (.cells #[.int .u64 0, .int .u64 0, .slice none 0 0] 35)).setRow w11.heap.size [.int .u64 (t11 : Int), .int .u64 (en11 : Int), .slice A11 q11 c11].toArray) := below_setRow (below_new (Below.refl _ _) _) (Nat.le_refl _) _
  generalize (w11.alloc (.cells #[.int .u64 0, .int .u64 0, .slice none 0 0] 35)).setRow w11.heap.size [.int .u64 (t11 : Int), .int .u64 (en11 : Int), .slice A11 q11 c11].toArray = w12 at hbn ⊢
  replace HBX := Lib.hid (below_step HBX.out hbn)
  replace hRb := hRb.later hbn
  replace hre := hre.keep hbn
  replace hoe := hoe.keep hbn
  replace hrg := hrg.keep hbn
  replace hB := below_step hB hbn
  replace hre5 := hre5.keep hbn
  replace hoe5 := hoe5.keep hbn
  replace hrg5 := hrg5.keep hbn
  replace hRc := hRc.later hbn
  replace hr9 := hr9.keep hbn
  replace hRf := hRf.later hbn
  clear hbn
  clear hRn
  have x8 := HX8.out w12 HBX.out
  have a0 : w12.cell? ⟨gb, 0, none⟩ = some (.int .u64 7) := hRb.cell rfl
  have a1 : w12.cell? ⟨gb, 1, none⟩ = some (.slice eA0 1 1) := hRb.cell rfl
  have a2 : w12.cell? ⟨gb, 2, none⟩ = some (.slice gA0 1 1) := hRb.cell rfl
  have d0 : w12.cell? ⟨gc, 0, none⟩ = some (.int .u64 7) := hRc.cell rfl
  have d1 : w12.cell? ⟨gc, 1, none⟩ = some (.slice eA5 1 ec5) := hRc.cell rfl
  have d2 : w12.cell? ⟨gc, 2, none⟩ = some (.slice gA5 1 gc5) := hRc.cell rfl
  go_wp2_with fail
  refine (sameB_any 7 7 es0 es5 gs0 bwG 1 1 1 1 1 ec5 1 gc5 eA0 gA0 eA5 gA5 w12 HL0 HN0 HN5 HM5 hre hoe hrg hre5 hoe5 hrg5 (by omega) (by omega)).mono ?_
  rw [HC0.out, HG0.out, HE5.out]
  rw [decide_eq_true rfl]
  rintro e' w13 ⟨rfl, hb⟩
  replace hRb := hRb.later hb
  replace hre := hre.keep hb
  replace hoe := hoe.keep hb
  replace hrg := hrg.keep hb
  replace hRf := hRf.later hb
  replace hr9 := hr9.keep hb
  replace hB := below_step hB hb
  clear hb
  clear a0 a1 a2 d0 d1 d2 x8
  have a0 : w13.cell? ⟨gb, 0, none⟩ = some (.int .u64 7) := hRb.cell rfl
  have a1 : w13.cell? ⟨gb, 1, none⟩ = some (.slice eA0 1 1) := hRb.cell rfl
  have a2 : w13.cell? ⟨gb, 2, none⟩ = some (.slice gA0 1 1) := hRb.cell rfl
  have f2 : w13.cell? ⟨gf, 2, none⟩ = some (.slice A9 1 c9) := hRf.cell rfl
  have hs1 : (convert 27 9 (.slice A9 1 c9)).run Tryz.prog w13 = .ok (.string ⟨#[115]⟩) w13 := run_str _ _ _ _ Tryz.underlying27 Tryz.underlying5 Tryz.underlying9 A9 [115] 1 c9 rfl hr9
  go_wp2_with fail
  refine (rightB_any 7 es0 gs0 1 1 1 1 eA0 gA0 w13 HL0 HN0 hre hrg (by unfold Hid; rw [HG0.out]; exact bw_fit.2) (by omega) (by omega) HM0.out).mono ?_
  rw [HC0.out, HG0.out, bw_right]
  rintro e' w14 ⟨rfl, hb2⟩
  go_wp2_with fail
  go_ret
  exact ⟨rfl, below_step hB hb2⟩
end Go.Proofs.YtknjpmoimjhddaaGreatDoor
/-
  The walk of the law BundleFinds: of a bundle that is right each entry is found by its ticket, and no other ticket's. Conditions: the package's table holds sixty-four words (for tags); errors.errorType holds the handle of the type error (EtC).
-/
namespace Go.Proofs.YtknjpmoimjhddaaGreatDoor
set_option maxRecDepth 100000
open Go.RowKit
set_option linter.unusedSimpArgs false
set_option linter.unusedVariables false

/-! ### tickets rise -/
theorem okE_rise {l : List En} (h : okE l = true) : ∀ (k j : Nat) (hk : k < l.length) (hj : j < k), (l[j]'(by omega)).1 < l[k].1
  | 0, _, _, hj => by omega
  | k + 1, j, hk, hj => by
    have h1 := ((okE_at l).1 h (k + 1) hk).2 (by omega)
    simp only [Nat.add_sub_cancel] at h1
    by_cases e : j = k
    · subst e; exact h1
    · exact Nat.lt_trans (okE_rise h k j (by omega) (by omega)) h1
theorem isAt_one {es : List ED} {k : Nat} (hk : k < es.length) (h : okE (conE es) = true) {i : Int} (hi : IsAt es es[k].t i) : i = (k : Int) := by
  have hr : ∀ a b (ha : a < es.length) (hb : b < a), (es[b]'(by omega)).t < es[a].t := fun a b ha hb => by
    have := okE_rise h a b (by rw [conE_length]; exact ha) hb
    rw [conE_get es a ha, conE_get es b (by omega)] at this
    exact this
  rcases hi with ⟨j, hj, rfl, hjt, hbef⟩ | ⟨_, hn⟩
  · rcases Nat.lt_trichotomy j k with h1 | h1 | h1
    · have := hr k j hk h1
      omega
    · rw [h1]
    · exact absurd rfl (hbef k hk h1)
  · exact absurd rfl (hn _ (List.getElem_mem hk))
def hasK (es : List ED) (tk k : Nat) : Bool := (es.take k).any (fun x => decide (x.t = tk))
theorem hasK_next {es : List ED} {tk k : Nat} (h : k < es.length) : hasK es tk (k + 1) = (hasK es tk k || decide (es[k].t = tk)) := by
  unfold hasK
  rw [List.take_succ_eq_append_getElem h, List.any_append]
  simp
theorem hasK_all {es : List ED} {tk : Nat} : hasK es tk es.length = true ↔ ∃ x ∈ es, x.t = tk := by
  unfold hasK
  rw [List.take_length, List.any_eq_true]
  simp
/-- Find in a bundle that is right, at an entry's own ticket. -/
theorem find_own {w w' : World} {es : List ED} {k : Nat} (hk : k < es.length) (h : okE (conE es) = true) {e : Ending} (hf : RetFind w es es[k].t e w') : ∃ A q c, e = .returned (.tuple #[aggN es[k].t es[k].e A q c, .int .i64 0]) ∧ Hid (es[k].s.length = q) ∧ q ≤ c ∧ Rd vB w' A es[k].s ∧ Below w.heap.size w w' := by
  obtain ⟨t, en, A, q, c, code, s, rfl, hq, hqc, hr, hb, hD⟩ := hf
  rcases hD.out with ⟨k', hk', rfl, h2, h3⟩ | ⟨_, h2, _⟩
  · have e1 := isAt_one hk h h2
    have e2 : k' = k := by omega
    subst e2
    unfold ED.con at h3
    injection h3 with a1 h3
    injection h3 with a2 a3
    subst a1 a2 a3
    exact ⟨A, q, c, rfl, hq, hqc, hr, hb⟩
  · have e1 := isAt_one hk h h2
    omega
/-- Find at any ticket: there just if it is, and else none. -/
theorem find_any {w w' : World} {es : List ED} {tk : Nat} {e : Ending} (hf : RetFind w es tk e w') : ∃ t en A q c code s, e = .returned (.tuple #[aggN t en A q c, .int .i64 code]) ∧ Hid ((s : List UInt8).length = q) ∧ q ≤ c ∧ Rd vB w' A s ∧ Below w.heap.size w w' ∧ ((hasK es tk es.length = true ∧ code = 0) ∨ (hasK es tk es.length = false ∧ code = 7 ∧ t = 0 ∧ en = 0 ∧ s = [])) := by
  obtain ⟨t, en, A, q, c, code, s, rfl, hq, hqc, hr, hb, hD⟩ := hf
  refine ⟨t, en, A, q, c, code, s, rfl, hq, hqc, hr, hb, ?_⟩
  rcases hD.out with ⟨k, hk, rfl, h2, h3⟩ | ⟨rfl, h2, h3⟩
  · left
    refine ⟨hasK_all.2 ?_, rfl⟩
    rcases h2 with ⟨j, hj, _, hjt, _⟩ | ⟨h2, _⟩
    · exact ⟨_, List.getElem_mem hj, hjt⟩
    · omega
  · right
    injection h3 with a1 h3
    injection h3 with a2 a3
    refine ⟨?_, rfl, a1, a2, a3⟩
    rw [Bool.eq_false_iff]
    intro h
    obtain ⟨x, hx, hxt⟩ := hasK_all.1 h
    rcases h2 with ⟨k, _, h4, _⟩ | ⟨_, h4⟩
    · omega
    · exact h4 x hx hxt

def finS (g b o : Nat) (v : Nat) (x y : Value) (t : Nat) (W : World) : Prop := W.cell? ⟨b, o, none⟩ = some (.int .u64 (t : Int)) ∧ (W.cell? ⟨g, 0, none⟩ = some (.int .u64 (v : Int)) ∧ (W.cell? ⟨g, 1, none⟩ = some x ∧ W.cell? ⟨g, 2, none⟩ = some y))
theorem finS.keep {g b o v t : Nat} {x y : Value} {W W' : World} (h : finS g b o v x y t W) (hb : Below W.heap.size W W') : finS g b o v x y t W' := by
  obtain ⟨h1, h2, h3, h4⟩ := h
  exact ⟨(hb.cell (World.block_lt_of_cell? W _ h1)).trans h1, (hb.cell (World.block_lt_of_cell? W _ h2)).trans h2, (hb.cell (World.block_lt_of_cell? W _ h3)).trans h3, (hb.cell (World.block_lt_of_cell? W _ h4)).trans h4⟩
set_option maxHeartbeats 8000000 in
theorem bundlefinds_core [Inhabited Tab] (v : Nat) (es : List ED) (gs : List Gn) (n ec m gc tk : Nat) (eA gA : Option Addr) (w : World) (HN : Hid (es.length = n)) (HM : Hid (gs.length = m)) (hre : RdE w eA es) (hoe : okD w es) (hrg : RdG w gA gs) (hv : v < 18446744073709551616) (hfe : fitE (conE es)) (HF : Hid (fitG gs)) (hec : n ≤ ec) (hgc : m ≤ gc) (hn63 : n ≤ 9223372036854775807) (hm63 : m ≤ 9223372036854775807)
    (hml : ∀ x ∈ es, x.s.length ≤ 9223372036854775807) (HK : Hid (KTab w)) (hg : EtC w) :
    Calls Tryz.prog 6 #[aggB v eA n ec gA m gc, .int .u64 (tk : Int)] w fun e w' => e = .returned (.bool true) ∧ Below w.heap.size w w' := by
  obtain ⟨hR, hB⟩ := box_three w 26 (.int .u64 (v : Int)) (.slice eA n ec) (.slice gA m gc)
  have HML := Lib.hid hml
  obtain ⟨SB, hSB⟩ : ∃ S, shortB es m = S := ⟨_, rfl⟩
  have HSB := Lib.hid hSB
  clear hml hSB
  replace hre := hre.keep hB
  replace hoe := hoe.keep hB
  replace hrg := hrg.keep hB
  replace HK := Lib.hid (HK.out.keep hB)
  replace hg := hg.later hB
  unfold aggB
  go_enter Tryz.func6, Tryz.ntmps6
  go_upto_region 1 with fail
  generalize (w.alloc (.cells #[.int .u64 (v : Int), .slice eA n ec, .slice gA m gc] 26)) = w0 at hR hB hre hoe hrg HK hg ⊢
  go_wp2_with fail
  refine (awake16_any _ HK hg).mono ?_
  rintro e₁ w1 ⟨rfl, hb⟩
  replace hR := hR.later hb
  replace hre := hre.keep hb
  replace hoe := hoe.keep hb
  replace hrg := hrg.keep hb
  replace hB := below_step hB hb
  clear hb
  clear HK hg
  go_wp2_with (refine wpList_load_part rfl 26 (.tmp 2) rfl w.heap.size 0 rfl _ _ hR (cellsB v eA n ec gA m gc) (by rfl) _ Tryz.underlying26 rfl (by exact size_bundle) ?_)
  refine (refshortB_any v es n ec m gc eA gA _ HN hre hn63 HML.out hm63).mono ?_
  rw [HSB.out]
  rintro e₁ w2 ⟨rfl, hb⟩
  replace hR := hR.later hb
  replace hre := hre.keep hb
  replace hoe := hoe.keep hb
  replace hrg := hrg.keep hb
  replace hB := below_step hB hb
  clear hb
  cases SB with
  | false =>
    go_wp2_with fail
    go_ret
    exact ⟨rfl, hB⟩
  | true =>
    have hn99 : n ≤ 99 ∧ m ≤ 99 := by
      have := HSB.out
      unfold shortB at this
      simp only [Bool.and_eq_true, decide_eq_true_eq] at this
      rw [HN.out] at this
      exact ⟨this.2.1, this.2.2⟩
    obtain ⟨hn9, hm9⟩ := hn99
    obtain ⟨RB, hRB⟩ : ∃ S, rightB (conE es) gs = S := ⟨_, rfl⟩
    have HRB := Lib.hid hRB
    clear hRB
    have c0 : w2.cell? ⟨w.heap.size, 0, none⟩ = some (.int .u64 (v : Int)) := hR.cell rfl
    have c1 : w2.cell? ⟨w.heap.size, 1, none⟩ = some (.slice eA n ec) := hR.cell rfl
    have c2 : w2.cell? ⟨w.heap.size, 2, none⟩ = some (.slice gA m gc) := hR.cell rfl
    go_wp2_with fail
    refine (rightB_any v es gs n ec m gc eA gA _ HN HM hre hrg HF (by omega) (by omega) HML.out).mono ?_
    rw [HRB.out]
    rintro e₁ w3 ⟨rfl, hb⟩
    replace hR := hR.later hb
    replace hre := hre.keep hb
    replace hoe := hoe.keep hb
    replace hrg := hrg.keep hb
    replace hB := below_step hB hb
    clear hb
    clear c0 c1 c2
    cases RB with
    | false =>
      go_wp2_with fail
      go_ret
      exact ⟨rfl, hB⟩
    | true =>
      obtain ⟨_, _, hokE⟩ := right_b.1 HRB.out
      have HOKE := Lib.hid hokE
      have HMS : Hid (∀ x ∈ es, x.s.length ≤ 70368744177664) := fun x hx => by
        have := (okE_all hokE x.con (List.mem_map_of_mem hx)).2
        have h2 : x.s.length ≤ 32 := this
        omega
      clear hokE
      go_upto_region 7 with fail
      have HB3 := Lib.hid hB
      go_loopw [5, 6] (fun h i wr => (∃ k : Nat, i = .int .i64 (k : Int) ∧ k ≤ n ∧ h = .bool (hasK es tk k)) ∧ Below w3.heap.size w3 wr) (fun _ i _ => n - (intOf i).toNat)
      case atStart => exact ⟨⟨0, rfl, by omega, rfl⟩, Below.refl _ _⟩
      case round =>
        obtain ⟨⟨k, rfl, hk, rfl⟩, hBr⟩ := hrel
        have hRr := hR.later hBr
        have hrer := hre.keep hBr
        have hoer := hoe.keep hBr
        have HBr := Lib.hid hBr
        have HBB := Lib.hid (below_step HB3.out hBr)
        have c1 : wr.cell? ⟨w.heap.size, 1, none⟩ = some (.slice eA n ec) := hRr.cell rfl
        by_cases hlt : k < n
        · have hkl : k < es.length := by rw [HN.out]; exact hlt
          obtain ⟨b, o, rfl, hb, hrng, p0, _, _⟩ := hrer.one hkl
          have hi0 : (0 : Int) ≤ (k : Int) := by omega
          have hi1 : (k : Int) < (n : Int) := by omega
          have HFO := Lib.hid (fun (W W' : World) (e : Ending) (h : RetFind W es es[k].t e W') => find_own hkl HOKE.out h)
          have HNX := Lib.hid (hasK_next (tk := tk) hkl)
          have hrng2 : wr.rangeAt b (o + k * 3) [.int .u64 (es[k].t : Int), .int .u64 (es[k].e : Int), .slice es[k].A es[k].s.length es[k].c] := hrng
          have hxr := (hoer _ (List.getElem_mem hkl)).2
          unfold vNG at p0
          generalize es[k].t = xt at *
          generalize es[k].e = xe at *
          generalize es[k].A = xA at *
          generalize es[k].c = xc at *
          generalize es[k].s = xs at *
          obtain ⟨q, hq⟩ : ∃ q, xs.length = q := ⟨_, rfl⟩
          have HQ := Lib.hid hq
          rw [hq] at hrng2 HFO
          clear hrng hq
          go_upto_region 9 with fail
          go_cut [7, 8] (fun v7 v8 wx => ∃ g A9 c9, v7 = .pointer (some ⟨g, 0, none⟩) ∧ v8 = .int .i64 0 ∧ Row wx g 35 [.int .u64 (xt : Int), .int .u64 (xe : Int), .slice A9 q c9] ∧ Rd vB wx A9 xs ∧ Below wr.heap.size wr wx)
          case first =>
            have hS : finS w.heap.size b (o + k * 3) v (.slice (some ⟨b, o, none⟩) n ec) (.slice gA m gc) xt wr.drew := ⟨p0, hRr.cell rfl, hRr.cell rfl, hRr.cell rfl⟩
            have hBd : Below wr.heap.size wr wr.drew := (Below.refl _ _).drew
            have hreD := hrer.keep hBd
            have hoeD := hoer.keep hBd
            refine wp_region_plan_of (finS w.heap.size b (o + k * 3) v (.slice (some ⟨b, o, none⟩) n ec) (.slice gA m gc) xt) (.step 0 false (.step 1 false (.step 2 false (.step 3 false (.step 4 false (.step 5 false (.step 6 false (.fork 7 (.step 8 false (.step 9 false (.step 10 false (.step 11 true (.step 12 true (.step 13 false .nil)))))) 11 (.step 7 true (.step 8 false (.step 9 false (.step 10 false (.step 12 true (.step 13 false .nil)))))))))))))) hS (by kernel_rfl) (by kernel_rfl) (by rfl) (by kernel_rfl) ?_
            clear hrer hoer hrng2 hxr hRr p0 c1
            generalize wr.drew = wd at *
            iterate 7 (refine plan_read rfl (by rfl) (v := ?_) ?_ ?_; rotate_left 1; (intro W hW; (try dsimp only at hW); obtain ⟨hW0, hW1⟩ := hW; go_simp <;> with_reducible rfl); simp only [List.getElem_toArray, List.getElem_cons_zero, List.getElem_cons_succ, Act.put, List.setIfInBounds_toArray, List.set_cons_zero, List.set_cons_succ])
            refine plan_fork rfl rfl (by rfl) (by rfl) (fun K hK => ?_) (fun K hK => ?_)
            · go_simp
              refine (findB_any v es n ec m gc xt _ gA wd HN hreD hoeD (by omega) HMS.out).mono ?_
              intro e' w7 hf
              obtain ⟨A9, q9, c9, rfl, HQ9, hc9, hr9, hb7⟩ := HFO.out _ _ _ hf
              have eq9 : q9 = q := HQ9.out.symm
              subst eq9
              refine hK.out _ _ (hS.keep hb7) ?_
              clear hK K hf
              unfold aggN
              iterate 3 (refine plan_read rfl (by rfl) (v := ?_) ?_ ?_; rotate_left 1; (intro W hW; (try dsimp only at hW); obtain ⟨hW0, hW1⟩ := hW; go_simp <;> with_reducible rfl); simp only [List.getElem_toArray, List.getElem_cons_zero, List.getElem_cons_succ, Act.put, List.setIfInBounds_toArray, List.set_cons_zero, List.set_cons_succ])
              have hRn : Row (w7.alloc (.cells #[.int .u64 0, .int .u64 0, .slice none 0 0] 35)) w7.heap.size 35 [.int .u64 0, .int .u64 0, .slice none 0 0] := Row.new w7 _ _ _ rfl
              have hb8 := below_new hb7 (.cells #[.int .u64 0, .int .u64 0, .slice none 0 0] 35)
              have hb9 : Below w7.heap.size w7 ((w7.alloc (.cells #[.int .u64 0, .int .u64 0, .slice none 0 0] 35)).setRow w7.heap.size [.int .u64 (xt : Int), .int .u64 (xe : Int), .slice A9 q9 c9].toArray) := below_setRow (below_new (Below.refl _ _) _) (Nat.le_refl _) _
              (refine plan_make_of rfl (by rfl) (fun K hK => ?_); go_simp; refine hK.out _ _ (hS.keep hb8) ?_; clear hK K)
              (refine plan_make_of rfl (by rfl) (fun K hK => ?_); refine Row.wp_store 35 (.tmp 7) (.tmp 37) rfl rfl [.int .u64 (xt : Int), .int .u64 (xe : Int), .slice A9 q9 c9] rfl hRn (by exact size_entry) rfl (one_three _ _ _ rfl rfl rfl) ?_; refine hK.out _ _ (hS.keep (below_step hb7 hb9)) ?_; clear hK K)
              iterate 1 (refine plan_read rfl (by rfl) (v := ?_) ?_ ?_; rotate_left 1; (intro W hW; (try dsimp only at hW); obtain ⟨hW0, hW1⟩ := hW; go_simp <;> with_reducible rfl); simp only [List.getElem_toArray, List.getElem_cons_zero, List.getElem_cons_succ, Act.put, List.setIfInBounds_toArray, List.set_cons_zero, List.set_cons_succ])
              refine plan_done ?_
              have HREL := Lib.hid (And.intro (hRn.setRow [.int .u64 (xt : Int), .int .u64 (xe : Int), .slice A9 q9 c9]) (And.intro (hr9.keep hb9) (below_step hBd (below_step hb7 hb9))))
              go_wp2_with fail
              go_meet
              case rel => exact ⟨w7.heap.size, A9, c9, rfl, rfl, HREL.out.1, HREL.out.2.1, HREL.out.2.2⟩
            · go_simp
              have hb8 := below_new (Below.refl wd.heap.size wd) (.cells #[.int .u64 0, .int .u64 0, .slice none 0 0] 35)
              have hRn : Row (wd.alloc (.cells #[.int .u64 0, .int .u64 0, .slice none 0 0] 35)) wd.heap.size 35 [.int .u64 0, .int .u64 0, .slice none 0 0] := Row.new wd _ _ _ rfl
              refine hK.out _ _ (hS.keep hb8) ?_
              clear hK K
              refine plan_make_of rfl (by rfl) (fun K hK => ?_)
              go_simp
              refine (findB_any v es n ec m gc xt _ gA _ HN (hreD.keep hb8) (hoeD.keep hb8) (by omega) HMS.out).mono ?_
              intro e' w7 hf
              obtain ⟨A9, q9, c9, rfl, HQ9, hc9, hr9, hb7⟩ := HFO.out _ _ _ hf
              have eq9 : q9 = q := HQ9.out.symm
              subst eq9
              have hR7 := hRn.later hb7
              have hb78 := below_step hb8 hb7
              refine hK.out _ _ (hS.keep hb78) ?_
              clear hK K hf
              unfold aggN
              iterate 3 (refine plan_read rfl (by rfl) (v := ?_) ?_ ?_; rotate_left 1; (intro W hW; (try dsimp only at hW); obtain ⟨hW0, hW1⟩ := hW; go_simp <;> with_reducible rfl); simp only [List.getElem_toArray, List.getElem_cons_zero, List.getElem_cons_succ, Act.put, List.setIfInBounds_toArray, List.set_cons_zero, List.set_cons_succ])
              have hne : Hid (∀ cs, finS w.heap.size b (o + k * 3) v (.slice (some ⟨b, o, none⟩) n ec) (.slice gA m gc) xt (w7.setRow wd.heap.size cs)) := fun cs => hS.keep (below_setRow hb78 (Nat.le_refl _) cs)
              (refine plan_make_of rfl (by rfl) (fun K hK => ?_); refine Row.wp_store 35 (.tmp 7) (.tmp 37) rfl rfl [.int .u64 (xt : Int), .int .u64 (xe : Int), .slice A9 q9 c9] rfl hR7 (by exact size_entry) rfl (one_three _ _ _ rfl rfl rfl) ?_; refine hK.out _ _ (hne.out _) ?_; clear hK K)
              iterate 1 (refine plan_read rfl (by rfl) (v := ?_) ?_ ?_; rotate_left 1; (intro W hW; (try dsimp only at hW); obtain ⟨hW0, hW1⟩ := hW; go_simp <;> with_reducible rfl); simp only [List.getElem_toArray, List.getElem_cons_zero, List.getElem_cons_succ, Act.put, List.setIfInBounds_toArray, List.set_cons_zero, List.set_cons_succ])
              refine plan_done ?_
              have hnb : ∀ u ∈ ([.int .u64 0, .int .u64 0, .slice none 0 0] : List Value), ∀ x, u ≠ vB x := fun u hu x e => by
                subst e
                simp [vB] at hu
              have HREL := Lib.hid (And.intro (hR7.setRow [.int .u64 (xt : Int), .int .u64 (xe : Int), .slice A9 q9 c9]) (And.intro (hr9.setRow_row hR7 hnb [.int .u64 (xt : Int), .int .u64 (xe : Int), .slice A9 q9 c9].toArray) (below_step hBd (below_setRow hb78 (Nat.le_refl _) [.int .u64 (xt : Int), .int .u64 (xe : Int), .slice A9 q9 c9].toArray))))
              go_wp2_with fail
              go_meet
              case rel => exact ⟨wd.heap.size, A9, c9, rfl, rfl, HREL.out.1, HREL.out.2.1, HREL.out.2.2⟩
          case rest =>
          rename World => w9
          obtain ⟨gE, A9, c9, rfl, rfl, hRE, hr9, hb9⟩ := hcut
          have HB9 := Lib.hid (HBr.out.trans (hb9.mono HBr.out.size))
          have hRr9 := hRr.later hb9
          have hxr9 := hxr.keep hb9
          have hrng9 : w9.rangeAt b (o + k * 3) [.int .u64 (xt : Int), .int .u64 (xe : Int), .slice xA q xc] := fun j u hu => (hb9.cell (p := ⟨b, o + k * 3 + j, none⟩) (World.block_lt_of_cell? wr ⟨b, o + k * 3, none⟩ p0)).trans (hrng2 j u hu)
          clear hrer hoer hrng2 hxr hRr p0 c1 HFO hb9 hBr
          go_upto_region 10 with fail
          go_cut [50] (fun v wx => v = .bool false ∧ Below w9.heap.size w9 wx)
          case first =>
            have hBase := (Below.refl w9.heap.size w9).drew
            have e0 : ∀ W, Below w9.heap.size w9 W → W.cell? ⟨gE, 0, none⟩ = some (.int .u64 (xt : Int)) := fun W hW => (hRE.later hW).cell rfl
            have e1 : ∀ W, Below w9.heap.size w9 W → W.cell? ⟨gE, 1, none⟩ = some (.int .u64 (xe : Int)) := fun W hW => (hRE.later hW).cell rfl
            have e2 : ∀ W, Below w9.heap.size w9 W → W.cell? ⟨gE, 2, none⟩ = some (.slice A9 q c9) := fun W hW => (hRE.later hW).cell rfl
            have c1 : ∀ W, Below w9.heap.size w9 W → W.cell? ⟨w.heap.size, 1, none⟩ = some (.slice (some ⟨b, o, none⟩) n ec) := fun W hW => (hRr9.later hW).cell rfl
            have h0 := hrng9 0 _ rfl
            have h1 := hrng9 1 _ rfl
            have h2 := hrng9 2 _ rfl
            have d0 : ∀ W, Below w9.heap.size w9 W → W.cell? ⟨b, o + k * 3, none⟩ = some (.int .u64 (xt : Int)) := fun W hW => (hW.cell (p := ⟨b, o + k * 3, none⟩) (World.block_lt_of_cell? w9 _ h0)).trans h0
            have d1 : ∀ W, Below w9.heap.size w9 W → W.cell? ⟨b, o + k * 3 + 1, none⟩ = some (.int .u64 (xe : Int)) := fun W hW => (hW.cell (p := ⟨b, o + k * 3 + 1, none⟩) (World.block_lt_of_cell? w9 _ h1)).trans h1
            have d2 : ∀ W, Below w9.heap.size w9 W → W.cell? ⟨b, o + k * 3 + 2, none⟩ = some (.slice xA q xc) := fun W hW => (hW.cell (p := ⟨b, o + k * 3 + 2, none⟩) (World.block_lt_of_cell? w9 _ h2)).trans h2
            clear h0 h1 h2 hrng9 hRr9 hRE
            refine wp_region_plan (.step 0 false (.step 1 false (.step 2 false (.step 3 false (.step 4 false (.step 5 false (.step 6 false (.step 7 false (.step 8 false (.step 9 true (.step 10 false (.step 11 false (.nil))))))))))))) (by kernel_rfl) (by kernel_rfl) (by rfl) (by kernel_rfl) ?_
            iterate 9 (refine plan_read rfl (by rfl) (v := ?_) ?_ ?_; rotate_left 1; (intro W hW; have hW0 := below_step hBase hW; (try dsimp only at hW); go_simp <;> with_reducible rfl); simp only [List.getElem_toArray, List.getElem_cons_zero, List.getElem_cons_succ, Act.put, List.setIfInBounds_toArray, List.set_cons_zero, List.set_cons_succ])
            (refine plan_make rfl (by rfl) (fun K hK => ?_); go_simp; (refine (refentryB_any xt xe xt xe xs xs q c9 q xc A9 xA _ HQ HQ (hr9.keep hBase) (hxr9.keep hBase)).mono ?_; rw [decide_eq_true rfl]; rintro e₁ w5 ⟨rfl, hbx⟩); refine hK.out _ _ hbx ?_; clear hK K; replace hBase := below_step hBase hbx)
            iterate 2 (refine plan_read rfl (by rfl) (v := ?_) ?_ ?_; rotate_left 1; (intro W hW; have hW0 := below_step hBase hW; (try dsimp only at hW); go_simp <;> with_reducible rfl); simp only [List.getElem_toArray, List.getElem_cons_zero, List.getElem_cons_succ, Act.put, List.setIfInBounds_toArray, List.set_cons_zero, List.set_cons_succ])
            refine plan_done ?_
            clear e0 e1 e2 c1 d0 d1 d2
            go_wp2_with fail
            go_meet
            case rel => exact ⟨rfl, hBase⟩
          case rest =>
          rename World => w10
          obtain ⟨rfl, hb10⟩ := hcut
          have HB10 := Lib.hid (HB9.out.trans (hb10.mono HB9.out.size))
          have hRr10 := hRr9.later hb10
          have h0 := hrng9 0 _ rfl
          have d0 : w10.cell? ⟨b, o + k * 3, none⟩ = some (.int .u64 (xt : Int)) := (hb10.cell (p := ⟨b, o + k * 3, none⟩) (World.block_lt_of_cell? w9 _ h0)).trans h0
          have c1 : w10.cell? ⟨w.heap.size, 1, none⟩ = some (.slice (some ⟨b, o, none⟩) n ec) := hRr10.cell rfl
          clear hRr9 hrng9 hRE hr9 hxr9 hb10 h0
          generalize hasK es tk k = H at *
          cases H with
          | true =>
            have HH : Hid (hasK es tk (k + 1) = true) := by unfold Hid; rw [HNX.out]; rfl
            go_wp2_with fail
            go_roundw
            case rel => exact ⟨⟨k + 1, by go_num, by omega, by rw [HH.out]⟩, HB10.out⟩
            case measure => simp [intOf]; omega
          | false =>
            by_cases hx : xt = tk
            · have HH : Hid (hasK es tk (k + 1) = true) := by unfold Hid; rw [HNX.out, decide_eq_true hx]; rfl
              subst hx
              go_wp2_with fail
              go_roundw
              case rel => exact ⟨⟨k + 1, by go_num, by omega, by rw [HH.out]⟩, HB10.out⟩
              case measure => simp [intOf]; omega
            · have HH : Hid (hasK es tk (k + 1) = false) := by unfold Hid; rw [HNX.out, decide_eq_false hx]; rfl
              have hxd : decide (xt = tk) = false := decide_eq_false hx
              have hxi : ((xt : Int) == (tk : Int)) = false := beq_eq_false_iff_ne.2 (by omega)
              go_wp2_with fail
              go_roundw
              case rel => exact ⟨⟨k + 1, by go_num, by omega, by rw [HH.out]⟩, HB10.out⟩
              case measure => simp [intOf]; omega
        · have ekn : k = es.length := by rw [HN.out]; omega
          have hkn : ¬ (k : Int) < (n : Int) := by omega
          have HKE := Lib.hid ekn
          clear hBr ekn
          go_upto_region 13 with fail
          go_wp2_with (refine wpList_load_part rfl 26 (.tmp 2) rfl w.heap.size 0 rfl _ _ hRr (cellsB v eA n ec gA m gc) (by rfl) _ Tryz.underlying26 rfl (by exact size_bundle) ?_)
          refine (findB_any v es n ec m gc tk eA gA _ HN hrer hoer (by omega) HMS.out).mono ?_
          intro e' w5 hf
          obtain ⟨t5, en5, A5, q5, c5, code5, s5, rfl, HQ5, hc5, hr5, hb5, hD5⟩ := find_any hf
          rw [← HKE.out] at hD5
          clear hf
          unfold aggN
          have hRn : Row (w5.alloc (.cells #[.int .u64 0, .int .u64 0, .slice none 0 0] 35)) w5.heap.size 35 [.int .u64 0, .int .u64 0, .slice none 0 0] := Row.new w5 _ _ _ rfl
          have hRE := hRn.setRow [.int .u64 (t5 : Int), .int .u64 (en5 : Int), .slice A5 q5 c5]
          have hb6 : Below w5.heap.size w5 ((w5.alloc (.cells #[.int .u64 0, .int .u64 0, .slice none 0 0] 35)).setRow w5.heap.size [.int .u64 (t5 : Int), .int .u64 (en5 : Int), .slice A5 q5 c5].toArray) := below_setRow (below_new (Below.refl _ _) _) (Nat.le_refl _) _
          go_upto_region 14 with (refine wpList_store_row rfl 35 (.tmp 9) (.tmp 66) rfl w5.heap.size rfl [.int .u64 (t5 : Int), .int .u64 (en5 : Int), .slice A5 q5 c5] rfl _ _ hRn (by exact size_entry) rfl (one_three _ _ _ rfl rfl rfl) ?_)
          generalize (w5.alloc (.cells #[.int .u64 0, .int .u64 0, .slice none 0 0] 35)).setRow w5.heap.size [.int .u64 (t5 : Int), .int .u64 (en5 : Int), .slice A5 q5 c5].toArray = w6 at hRE hb6 ⊢
          have hr6 := hr5.keep hb6
          have HB6 := Lib.hid (below_step (below_step HBB.out hb5) hb6)
          have e0 : w6.cell? ⟨w5.heap.size, 0, none⟩ = some (.int .u64 (t5 : Int)) := hRE.cell rfl
          have e1 : w6.cell? ⟨w5.heap.size, 1, none⟩ = some (.int .u64 (en5 : Int)) := hRE.cell rfl
          have e2 : w6.cell? ⟨w5.heap.size, 2, none⟩ = some (.slice A5 q5 c5) := hRE.cell rfl
          generalize hasK es tk k = H at *
          clear hRn hRE hb6 hr5 hRr hrer hoer c1 hb5
          rcases hD5 with ⟨rfl, rfl⟩ | ⟨rfl, rfl, rfl, rfl, rfl⟩
          · go_wp2_with fail
            go_ret
            exact ⟨rfl, HB6.out⟩
          · have eq5 : q5 = 0 := HQ5.out.symm
            subst eq5
            go_wp2_with fail
            refine (refentryB_any 0 0 0 0 [] [] 0 c5 0 0 A5 none _ (Lib.hid rfl) (Lib.hid rfl) Rd.nil Rd.nil).mono ?_
            rw [decide_eq_true rfl]
            rintro e₁ w7 ⟨rfl, hb7⟩
            go_wp2_with fail
            go_ret
            exact ⟨rfl, below_step HB6.out hb7⟩
end Go.Proofs.YtknjpmoimjhddaaGreatDoor
/-
  The walk of the law BundleRight: whether any bundle is right, any ticket's entry, its bytes, and which bundle any bytes begin with, is what the document says. Conditions: the package's table holds sixty-four words (for tags); errors.errorType holds the handle of the type error (EtC).
-/
namespace Go.Proofs.YtknjpmoimjhddaaGreatDoor
set_option maxRecDepth 100000
open Go.RowKit
set_option linter.unusedSimpArgs false
set_option linter.unusedVariables false

theorem isAt_same {es : List ED} {t : Nat} {i j : Int} (hi : IsAt es t i) (hj : IsAt es t j) : i = j := by
  rcases hi with ⟨a, ha, rfl, hat, hab⟩ | ⟨rfl, ha⟩
  · rcases hj with ⟨b, hb, rfl, hbt, hbb⟩ | ⟨rfl, hb⟩
    · rcases Nat.lt_trichotomy a b with h | h | h
      · exact absurd hat (hbb a ha h)
      · rw [h]
      · exact absurd hbt (hab b hb h)
    · exact absurd hat (hb _ (List.getElem_mem ha))
  · rcases hj with ⟨b, hb, rfl, hbt, hbb⟩ | ⟨rfl, hb⟩
    · exact absurd hbt (ha _ (List.getElem_mem hb))
    · rfl
theorem readBun_len (b : List UInt8) : (readBun b).2.1.length ≤ 64 ∧ (readBun b).2.2.1.length ≤ 64 := by
  obtain ⟨v, es, gs, m, k, hb⟩ : ∃ v es gs m k, readBun b = (v, es, gs, m, k) := ⟨_, _, _, _, _, rfl⟩
  by_cases h : k = 0
  · subst h
    rw [hb]
    obtain ⟨h1, h2, _⟩ := right_b.1 (bun_good hb).1
    exact ⟨h1, (right_parts.1 h2).2⟩
  · obtain ⟨_, rfl, rfl, _⟩ := bun_bad hb h
    rw [hb]
    exact ⟨Nat.zero_le _, Nat.zero_le _⟩
set_option maxHeartbeats 16000000 in
theorem bundleright_core [Inhabited Tab] (v : Nat) (es : List ED) (gs : List Gn) (b : List UInt8) (n ec m gc tk nb f : Nat) (eA gA D : Option Addr) (w : World) (HN : Hid (es.length = n)) (HM : Hid (gs.length = m)) (HB : Hid (b.length = nb)) (hre : RdE w eA es) (hoe : okD w es) (hrg : RdG w gA gs) (hrb : Rd vB w D b) (hv : v < 18446744073709551616) (hfe : fitE (conE es)) (HF : Hid (fitG gs)) (hec : n ≤ ec) (hgc : m ≤ gc) (hbf : nb ≤ f) (hn63 : n ≤ 9223372036854775807) (hm63 : m ≤ 9223372036854775807) (hb63 : nb ≤ 9223372036854775807)
    (hml : ∀ x ∈ es, x.s.length ≤ 9223372036854775807) (HK : Hid (KTab w)) (hg : EtC w) :
    Calls Tryz.prog 3 #[aggB v eA n ec gA m gc, .int .u64 (tk : Int), .slice D nb f] w fun e w' => e = .returned (.bool true) ∧ Below w.heap.size w w' := by
  obtain ⟨hR, hB⟩ := box_three w 26 (.int .u64 (v : Int)) (.slice eA n ec) (.slice gA m gc)
  have HML := Lib.hid hml
  have HFE := Lib.hid hfe
  obtain ⟨SB, hSB⟩ : ∃ S, shortB es m = S := ⟨_, rfl⟩
  have HSB := Lib.hid hSB
  clear hml hSB hfe
  replace hre := hre.keep hB
  replace hoe := hoe.keep hB
  replace hrg := hrg.keep hB
  replace hrb := hrb.keep hB
  replace HK := Lib.hid (HK.out.keep hB)
  replace hg := hg.later hB
  unfold aggB
  go_enter Tryz.func3, Tryz.ntmps3
  go_upto_region 1 with fail
  generalize (w.alloc (.cells #[.int .u64 (v : Int), .slice eA n ec, .slice gA m gc] 26)) = w0 at hR hB hre hoe hrg hrb HK hg ⊢
  go_wp2_with fail
  refine (awake16_any _ HK hg).mono ?_
  rintro e₁ w1 ⟨rfl, hb⟩
  replace hR := hR.later hb
  replace hre := hre.keep hb
  replace hoe := hoe.keep hb
  replace hrg := hrg.keep hb
  replace hrb := hrb.keep hb
  replace hB := below_step hB hb
  clear hb
  clear HK hg
  go_wp2_with (refine wpList_load_part rfl 26 (.tmp 3) rfl w.heap.size 0 rfl _ _ hR (cellsB v eA n ec gA m gc) (by rfl) _ Tryz.underlying26 rfl (by exact size_bundle) ?_)
  refine (refshortB_any v es n ec m gc eA gA _ HN hre hn63 HML.out hm63).mono ?_
  rw [HSB.out]
  rintro e₁ w2 ⟨rfl, hb⟩
  replace hR := hR.later hb
  replace hre := hre.keep hb
  replace hoe := hoe.keep hb
  replace hrg := hrg.keep hb
  replace hrb := hrb.keep hb
  replace hB := below_step hB hb
  clear hb
  cases SB with
  | false =>
    go_wp2_with fail
    go_ret
    exact ⟨rfl, hB⟩
  | true =>
    have hn99 : n ≤ 99 ∧ m ≤ 99 := by
      have := HSB.out
      unfold shortB at this
      simp only [Bool.and_eq_true, decide_eq_true_eq] at this
      rw [HN.out] at this
      exact ⟨this.2.1, this.2.2⟩
    obtain ⟨hn9, hm9⟩ := hn99
    have HMS : Hid (∀ x ∈ es, x.s.length ≤ 70368744177664) := fun x hx => by
      have h1 := HSB.out
      unfold shortB at h1
      simp only [Bool.and_eq_true, decide_eq_true_eq] at h1
      have h2 : x ∈ es.take 99 := by rw [List.take_of_length_le (by rw [HN.out]; omega)]; exact hx
      have := h1.1 x h2
      omega
    by_cases hb4 : nb ≤ 4000
    · have hb40 : ¬ (4000 : Int) < (nb : Int) := by omega
      go_upto_region 5 with fail
      clear hb40
      obtain ⟨RB, hRB⟩ : ∃ S, rightB (conE es) gs = S := ⟨_, rfl⟩
      have HRB := Lib.hid hRB
      clear hRB
      go_wp2_with (refine wpList_load_part rfl 26 (.tmp 3) rfl w.heap.size 0 rfl _ _ hR (cellsB v eA n ec gA m gc) (by rfl) _ Tryz.underlying26 rfl (by exact size_bundle) ?_)
      refine (refrightB_any v es gs n ec m gc eA gA _ HN HM hre hrg (by omega) (by omega) HML.out).mono ?_
      rw [HRB.out]
      rintro e₁ w3 ⟨rfl, hb⟩
      replace hR := hR.later hb
      replace hre := hre.keep hb
      replace hoe := hoe.keep hb
      replace hrg := hrg.keep hb
      replace hrb := hrb.keep hb
      replace hB := below_step hB hb
      clear hb
      go_wp2_with (refine wpList_load_part rfl 26 (.tmp 3) rfl w.heap.size 0 rfl _ _ hR (cellsB v eA n ec gA m gc) (by rfl) _ Tryz.underlying26 rfl (by exact size_bundle) ?_)
      obtain ⟨L8, K8, HLK⟩ : ∃ L K, Hid (bytesBR v (conE es) gs = (L, K)) := ⟨_, _, Lib.hid rfl⟩
      have hby := bytesB_any v es gs n ec m gc eA gA _ HN HM hre hoe hrg hv HFE.out HF (by omega) (by omega) HML.out
      rw [HLK.out] at hby
      refine hby.mono ?_
      clear hby
      rintro e₁ w4 ⟨A8, n8, c8, rfl, HL8, hc8, hr8, hb⟩
      replace hR := hR.later hb
      replace hre := hre.keep hb
      replace hoe := hoe.keep hb
      replace hrg := hrg.keep hb
      replace hrb := hrb.keep hb
      replace hB := below_step hB hb
      clear hb
      go_upto_region 7 with fail
      go_cut [61] (fun u wx => u = .bool false ∧ Below w4.heap.size w4 wx)
      case first =>
        have hBase := (Below.refl w4.heap.size w4).drew
        cases RB with
        | true =>
          have hlk := HLK.out
          rw [bytesBR_ok HRB.out] at hlk
          injection hlk with hl hk
          subst hl hk
          have hs0 := strBz (c := c8) n8 HL8 hr8
          have c0 : ∀ W, Below w4.heap.size w4 W → W.cell? ⟨w.heap.size, 0, none⟩ = some (.int .u64 (v : Int)) := fun W hW => (hR.later hW).cell rfl
          have c1 : ∀ W, Below w4.heap.size w4 W → W.cell? ⟨w.heap.size, 1, none⟩ = some (.slice eA n ec) := fun W hW => (hR.later hW).cell rfl
          have c2 : ∀ W, Below w4.heap.size w4 W → W.cell? ⟨w.heap.size, 2, none⟩ = some (.slice gA m gc) := fun W hW => (hR.later hW).cell rfl
          have HBY := Lib.hid (fun W (hW : Below w4.heap.size w4 W) => refbytesB_any v es gs n ec m gc eA gA W HN HM (hre.keep hW) (hoe.keep hW) (hrg.keep hW) hv HFE.out HF HRB.out)
          clear HLK
          generalize bytesB v (conE es) gs = L at HL8 hr8 hs0 HBY
          clear hR hre hoe hrg hrb hr8
          refine wp_region_plan (.step 0 false (.step 1 false (.step 2 false (.step 3 false (.step 4 false (.step 5 false (.step 6 false (.step 7 false (.step 8 true (.step 9 false (.step 10 false (.step 11 false (.step 12 false (.step 13 false (.step 14 false (.step 15 false (.step 16 false (.step 17 false (.step 18 false (.step 19 false (.step 20 false (.step 21 false (.step 22 false (.step 23 false (.step 24 false (.step 25 false (.nil))))))))))))))))))))))))))) (by kernel_rfl) (by kernel_rfl) (by rfl) (by kernel_rfl) ?_
          iterate 8 (refine plan_read rfl (by rfl) (v := ?_) ?_ ?_; rotate_left 1; (intro W hW; have hW0 := below_step hBase hW; (try dsimp only at hW); go_simp <;> with_reducible rfl); simp only [List.getElem_toArray, List.getElem_cons_zero, List.getElem_cons_succ, Act.put, List.setIfInBounds_toArray, List.set_cons_zero, List.set_cons_succ])
          (refine plan_make rfl (by rfl) (fun K hK => ?_); go_simp; (refine (HBY.out _ hBase).mono ?_; rintro e' w5 ⟨v5, rfl, hown5, hbx⟩); refine hK.out _ _ hbx ?_; clear hK K; replace hBase := below_step hBase hbx)
          obtain ⟨A5, c5, rfl, hc5, hr5⟩ := own_slice hown5
          rw [HL8.out]
          have hs1 := strBz (c := c5) n8 HL8 hr5
          clear hown5 hr5 hc5
          generalize strL L = SL at hs0 hs1
          iterate 5 (refine plan_read rfl (by rfl) (v := ?_) ?_ ?_; rotate_left 1; (intro W hW; have hW0 := below_step hBase hW; (try dsimp only at hW); go_simp <;> with_reducible rfl); simp only [List.getElem_toArray, List.getElem_cons_zero, List.getElem_cons_succ, Act.put, List.setIfInBounds_toArray, List.set_cons_zero, List.set_cons_succ])
          iterate 3 (refine plan_read rfl (by rfl) (v := ?_) ?_ ?_; rotate_left 1; (intro W hW; have hW0 := below_step hBase hW; (try dsimp only at hW); go_simp <;> with_reducible rfl); simp only [List.getElem_toArray, List.getElem_cons_zero, List.getElem_cons_succ, Act.put, List.setIfInBounds_toArray, List.set_cons_zero, List.set_cons_succ])
          iterate 7 (refine plan_skip rfl (by rfl) ?_; simp only [List.getElem_toArray, List.getElem_cons_zero, List.getElem_cons_succ, Act.put, List.setIfInBounds_toArray, List.set_cons_zero, List.set_cons_succ])
          iterate 2 (refine plan_read rfl (by rfl) (v := ?_) ?_ ?_; rotate_left 1; (intro W hW; have hW0 := below_step hBase hW; (try dsimp only at hW); go_simp <;> with_reducible rfl); simp only [List.getElem_toArray, List.getElem_cons_zero, List.getElem_cons_succ, Act.put, List.setIfInBounds_toArray, List.set_cons_zero, List.set_cons_succ])
          refine plan_done ?_
          clear hs0 hs1 c0 c1 c2
          go_wp2_with fail
          go_meet
          case rel => exact ⟨rfl, hBase⟩
        | false =>
          have hlk := HLK.out
          rw [bytesBR_no HRB.out] at hlk
          injection hlk with hl hk
          subst hl hk
          have en8 : n8 = 0 := HL8.out.symm
          subst en8
          clear hR hre hoe hrg hrb hr8
          refine wp_region_plan (.step 0 false (.step 1 false (.step 2 false (.step 3 false (.step 4 false (.step 5 false (.step 6 false (.step 7 false (.step 8 true (.step 9 false (.step 10 false (.step 11 false (.step 12 false (.step 13 false (.step 14 false (.step 15 false (.step 16 false (.step 17 false (.step 18 false (.step 19 false (.step 20 false (.step 21 false (.step 22 false (.step 23 false (.step 24 false (.step 25 false (.nil))))))))))))))))))))))))))) (by kernel_rfl) (by kernel_rfl) (by rfl) (by kernel_rfl) ?_
          iterate 2 (refine plan_read rfl (by rfl) (v := ?_) ?_ ?_; rotate_left 1; (intro W hW; have hW0 := below_step hBase hW; (try dsimp only at hW); go_simp <;> with_reducible rfl); simp only [List.getElem_toArray, List.getElem_cons_zero, List.getElem_cons_succ, Act.put, List.setIfInBounds_toArray, List.set_cons_zero, List.set_cons_succ])
          iterate 10 (refine plan_skip rfl (by rfl) ?_; simp only [List.getElem_toArray, List.getElem_cons_zero, List.getElem_cons_succ, Act.put, List.setIfInBounds_toArray, List.set_cons_zero, List.set_cons_succ])
          iterate 14 (refine plan_read rfl (by rfl) (v := ?_) ?_ ?_; rotate_left 1; (intro W hW; have hW0 := below_step hBase hW; (try dsimp only at hW); go_simp <;> with_reducible rfl); simp only [List.getElem_toArray, List.getElem_cons_zero, List.getElem_cons_succ, Act.put, List.setIfInBounds_toArray, List.set_cons_zero, List.set_cons_succ])
          refine plan_done ?_
          go_wp2_with fail
          go_meet
          case rel => exact ⟨rfl, hBase⟩
      case rest =>
      rename World => w5
      obtain ⟨rfl, hb⟩ := hcut
      replace hR := hR.later hb
      replace hre := hre.keep hb
      replace hoe := hoe.keep hb
      replace hrg := hrg.keep hb
      replace hrb := hrb.keep hb
      replace hB := below_step hB hb
      clear hb
      clear HL8 hr8 hc8
      go_wp2_with (refine wpList_load_part rfl 26 (.tmp 3) rfl w.heap.size 0 rfl _ _ hR (cellsB v eA n ec gA m gc) (by rfl) _ Tryz.underlying26 rfl (by exact size_bundle) ?_)
      refine (findB_any v es n ec m gc tk eA gA _ HN hre hoe (by omega) HMS.out).mono ?_
      rintro e' w6 ⟨t6, en6, A6, q6, c6, k6, s6, rfl, HQ6, hc6, hr6, hb, HD6⟩
      replace hR := hR.later hb
      replace hre := hre.keep hb
      replace hoe := hoe.keep hb
      replace hrg := hrg.keep hb
      replace hrb := hrb.keep hb
      replace hB := below_step hB hb
      clear hb
      unfold aggN
      have hRn : Row (w6.alloc (.cells #[.int .u64 0, .int .u64 0, .slice none 0 0] 35)) w6.heap.size 35 [.int .u64 0, .int .u64 0, .slice none 0 0] := Row.new w6 _ _ _ rfl
      have hRE := hRn.setRow [.int .u64 (t6 : Int), .int .u64 (en6 : Int), .slice A6 q6 c6]
      have hb7 : Below w6.heap.size w6 ((w6.alloc (.cells #[.int .u64 0, .int .u64 0, .slice none 0 0] 35)).setRow w6.heap.size [.int .u64 (t6 : Int), .int .u64 (en6 : Int), .slice A6 q6 c6].toArray) := below_setRow (below_new (Below.refl _ _) _) (Nat.le_refl _) _
      go_upto_region 10 with (refine wpList_store_row rfl 35 (.tmp 10) (.tmp 66) rfl w6.heap.size rfl [.int .u64 (t6 : Int), .int .u64 (en6 : Int), .slice A6 q6 c6] rfl _ _ hRn (by exact size_entry) rfl (one_three _ _ _ rfl rfl rfl) ?_)
      generalize (w6.alloc (.cells #[.int .u64 0, .int .u64 0, .slice none 0 0] 35)).setRow w6.heap.size [.int .u64 (t6 : Int), .int .u64 (en6 : Int), .slice A6 q6 c6].toArray = w7 at hRE hb7 ⊢
      replace hR := hR.later hb7
      replace hre := hre.keep hb7
      replace hoe := hoe.keep hb7
      replace hrg := hrg.keep hb7
      replace hrb := hrb.keep hb7
      replace hB := below_step hB hb7
      replace hr6 := hr6.keep hb7
      clear hb7
      clear hRn
      generalize w6.heap.size = gE at hRE ⊢
      go_wp2_with (refine wpList_load_part rfl 26 (.tmp 3) rfl w.heap.size 0 rfl _ _ hR (cellsB v eA n ec gA m gc) (by rfl) _ Tryz.underlying26 rfl (by exact size_bundle) ?_)
      refine (reffindB_any v es n ec m gc tk eA gA _ HN hre (by omega)).mono ?_
      rintro e' w8 ⟨⟨i8, rfl, hi8⟩, hb⟩
      replace hR := hR.later hb
      replace hre := hre.keep hb
      replace hoe := hoe.keep hb
      replace hrg := hrg.keep hb
      replace hrb := hrb.keep hb
      replace hB := below_step hB hb
      replace hr6 := hr6.keep hb
      replace hRE := hRE.later hb
      clear hb
      have HI8 := Lib.hid hi8
      clear hi8
      go_upto_region 11 with fail
      go_cut [100] (fun u wx => u = .bool false ∧ Below w8.heap.size w8 wx)
      case first =>
        have hBase := (Below.refl w8.heap.size w8).drew
        have e0 : ∀ W, Below w8.heap.size w8 W → W.cell? ⟨gE, 0, none⟩ = some (.int .u64 (t6 : Int)) := fun W hW => (hRE.later hW).cell rfl
        have e1 : ∀ W, Below w8.heap.size w8 W → W.cell? ⟨gE, 1, none⟩ = some (.int .u64 (en6 : Int)) := fun W hW => (hRE.later hW).cell rfl
        have e2 : ∀ W, Below w8.heap.size w8 W → W.cell? ⟨gE, 2, none⟩ = some (.slice A6 q6 c6) := fun W hW => (hRE.later hW).cell rfl
        have c1 : ∀ W, Below w8.heap.size w8 W → W.cell? ⟨w.heap.size, 1, none⟩ = some (.slice eA n ec) := fun W hW => (hR.later hW).cell rfl
        have hd6 := HD6.out
        rcases hd6 with ⟨k, hkl, rfl, h2, h3⟩ | ⟨rfl, h2, h3⟩
        · have ei := isAt_same HI8.out h2
          subst ei
          obtain ⟨bb, o, rfl, hbb, hrng, _, _, _⟩ := hre.one hkl
          have hxr := (hoe _ (List.getElem_mem hkl)).2
          have HEQ : Hid (decide ((t6, en6, s6) = (es[k].t, es[k].e, es[k].s)) = true) := decide_eq_true h3
          have h0 : w8.cell? ⟨bb, o + k * 3, none⟩ = some (.int .u64 (es[k].t : Int)) := hrng 0 _ rfl
          have h1 : w8.cell? ⟨bb, o + k * 3 + 1, none⟩ = some (.int .u64 (es[k].e : Int)) := hrng 1 _ rfl
          have h4 : w8.cell? ⟨bb, o + k * 3 + 2, none⟩ = some (.slice es[k].A es[k].s.length es[k].c) := hrng 2 _ rfl
          have i0 : (0 : Int) ≤ (k : Int) := by omega
          have i1 : (k : Int) < (n : Int) := by rw [← HN.out]; omega
          clear hrng h2 h3 HD6 HI8 hR hre hoe hrg hrb hRE
          generalize es[k].t = xt at *
          generalize es[k].e = xe at *
          generalize es[k].A = xA at *
          generalize es[k].c = xc at *
          generalize es[k].s = xs at *
          obtain ⟨q, hq⟩ : ∃ q, xs.length = q := ⟨_, rfl⟩
          have HQ := Lib.hid hq
          rw [hq] at h4
          have d0 : ∀ W, Below w8.heap.size w8 W → W.cell? ⟨bb, o + k * 3, none⟩ = some (.int .u64 (xt : Int)) := fun W hW => (hW.cell (p := ⟨bb, o + k * 3, none⟩) (World.block_lt_of_cell? w8 _ h0)).trans h0
          have d1 : ∀ W, Below w8.heap.size w8 W → W.cell? ⟨bb, o + k * 3 + 1, none⟩ = some (.int .u64 (xe : Int)) := fun W hW => (hW.cell (p := ⟨bb, o + k * 3 + 1, none⟩) (World.block_lt_of_cell? w8 _ h1)).trans h1
          have d2 : ∀ W, Below w8.heap.size w8 W → W.cell? ⟨bb, o + k * 3 + 2, none⟩ = some (.slice xA q xc) := fun W hW => (hW.cell (p := ⟨bb, o + k * 3 + 2, none⟩) (World.block_lt_of_cell? w8 _ h4)).trans h4
          have hk0 : ¬ (k : Int) < 0 := by omega
          clear h0 h1 h4 hq
          refine wp_region_plan (.step 0 false (.step 1 false (.step 2 false (.step 3 false (.step 4 false (.step 5 false (.step 6 false (.step 7 false (.step 8 false (.step 9 false (.step 10 false (.step 11 false (.step 12 true (.step 13 false (.step 14 false (.step 15 false (.step 16 false (.step 17 false (.step 18 false (.step 19 false (.step 20 false (.step 21 false (.step 22 false (.step 23 false (.step 24 false (.step 25 true (.step 26 false (.step 27 false (.step 28 false (.step 29 false (.nil))))))))))))))))))))))))))))))) (by kernel_rfl) (by kernel_rfl) (by rfl) (by kernel_rfl) ?_
          iterate 12 (refine plan_read rfl (by rfl) (v := ?_) ?_ ?_; rotate_left 1; (intro W hW; have hW0 := below_step hBase hW; (try dsimp only at hW); go_simp <;> with_reducible rfl); simp only [List.getElem_toArray, List.getElem_cons_zero, List.getElem_cons_succ, Act.put, List.setIfInBounds_toArray, List.set_cons_zero, List.set_cons_succ])
          (refine plan_make rfl (by rfl) (fun K hK => ?_); go_simp; (refine (refentryB_any t6 en6 xt xe s6 xs q6 c6 q xc A6 xA _ HQ6 HQ (hr6.keep hBase) (hxr.keep hBase)).mono ?_; rw [HEQ.out]; rintro e₁ w9 ⟨rfl, hbx⟩); refine hK.out _ _ hbx ?_; clear hK K; replace hBase := below_step hBase hbx)
          iterate 4 (refine plan_read rfl (by rfl) (v := ?_) ?_ ?_; rotate_left 1; (intro W hW; have hW0 := below_step hBase hW; (try dsimp only at hW); go_simp <;> with_reducible rfl); simp only [List.getElem_toArray, List.getElem_cons_zero, List.getElem_cons_succ, Act.put, List.setIfInBounds_toArray, List.set_cons_zero, List.set_cons_succ])
          iterate 3 (refine plan_read rfl (by rfl) (v := ?_) ?_ ?_; rotate_left 1; (intro W hW; have hW0 := below_step hBase hW; (try dsimp only at hW); go_simp <;> with_reducible rfl); simp only [List.getElem_toArray, List.getElem_cons_zero, List.getElem_cons_succ, Act.put, List.setIfInBounds_toArray, List.set_cons_zero, List.set_cons_succ])
          iterate 8 (refine plan_skip rfl (by rfl) ?_; simp only [List.getElem_toArray, List.getElem_cons_zero, List.getElem_cons_succ, Act.put, List.setIfInBounds_toArray, List.set_cons_zero, List.set_cons_succ])
          iterate 2 (refine plan_read rfl (by rfl) (v := ?_) ?_ ?_; rotate_left 1; (intro W hW; have hW0 := below_step hBase hW; (try dsimp only at hW); go_simp <;> with_reducible rfl); simp only [List.getElem_toArray, List.getElem_cons_zero, List.getElem_cons_succ, Act.put, List.setIfInBounds_toArray, List.set_cons_zero, List.set_cons_succ])
          refine plan_done ?_
          clear e0 e1 e2 c1 d0 d1 d2
          go_wp2_with fail
          go_meet
          case rel => exact ⟨rfl, hBase⟩
        · have ei := isAt_same HI8.out h2
          subst ei
          injection h3 with a1 h3
          injection h3 with a2 a3
          subst a1 a2 a3
          have eq6 : q6 = 0 := HQ6.out.symm
          subst eq6
          clear h2 HD6 HI8 hR hre hoe hrg hrb hRE c1
          refine wp_region_plan (.step 0 false (.step 1 false (.step 2 false (.step 3 false (.step 4 false (.step 5 false (.step 6 false (.step 7 false (.step 8 false (.step 9 false (.step 10 false (.step 11 false (.step 12 true (.step 13 false (.step 14 false (.step 15 false (.step 16 false (.step 17 false (.step 18 false (.step 19 false (.step 20 false (.step 21 false (.step 22 false (.step 23 false (.step 24 false (.step 25 true (.step 26 false (.step 27 false (.step 28 false (.step 29 false (.nil))))))))))))))))))))))))))))))) (by kernel_rfl) (by kernel_rfl) (by rfl) (by kernel_rfl) ?_
          iterate 3 (refine plan_read rfl (by rfl) (v := ?_) ?_ ?_; rotate_left 1; (intro W hW; have hW0 := below_step hBase hW; (try dsimp only at hW); go_simp <;> with_reducible rfl); simp only [List.getElem_toArray, List.getElem_cons_zero, List.getElem_cons_succ, Act.put, List.setIfInBounds_toArray, List.set_cons_zero, List.set_cons_succ])
          iterate 12 (refine plan_skip rfl (by rfl) ?_; simp only [List.getElem_toArray, List.getElem_cons_zero, List.getElem_cons_succ, Act.put, List.setIfInBounds_toArray, List.set_cons_zero, List.set_cons_succ])
          iterate 10 (refine plan_read rfl (by rfl) (v := ?_) ?_ ?_; rotate_left 1; (intro W hW; have hW0 := below_step hBase hW; (try dsimp only at hW); go_simp <;> with_reducible rfl); simp only [List.getElem_toArray, List.getElem_cons_zero, List.getElem_cons_succ, Act.put, List.setIfInBounds_toArray, List.set_cons_zero, List.set_cons_succ])
          (refine plan_make rfl (by rfl) (fun K hK => ?_); go_simp; (refine (refentryB_any 0 0 0 0 [] [] 0 c6 0 0 A6 none _ (Lib.hid rfl) (Lib.hid rfl) Rd.nil Rd.nil).mono ?_; rw [decide_eq_true rfl]; rintro e₁ w9 ⟨rfl, hbx⟩); refine hK.out _ _ hbx ?_; clear hK K; replace hBase := below_step hBase hbx)
          iterate 4 (refine plan_read rfl (by rfl) (v := ?_) ?_ ?_; rotate_left 1; (intro W hW; have hW0 := below_step hBase hW; (try dsimp only at hW); go_simp <;> with_reducible rfl); simp only [List.getElem_toArray, List.getElem_cons_zero, List.getElem_cons_succ, Act.put, List.setIfInBounds_toArray, List.set_cons_zero, List.set_cons_succ])
          refine plan_done ?_
          clear e0 e1 e2
          go_wp2_with fail
          go_meet
          case rel => exact ⟨rfl, hBase⟩
      case rest =>
      rename World => w9
      obtain ⟨rfl, hb⟩ := hcut
      replace hR := hR.later hb
      replace hre := hre.keep hb
      replace hoe := hoe.keep hb
      replace hrg := hrg.keep hb
      replace hrb := hrb.keep hb
      replace hB := below_step hB hb
      clear hb
      clear HD6 HI8 hRE hr6 HQ6 hc6
      go_wp2_with fail
      refine (readBunP_any b nb f D _ HB hrb (by omega) hbf).mono ?_
      rintro e' w10 ⟨eA1, es1, n1, ec1, gA1, m1, gc1, rfl, HE1, HN1, HM1, hec1, hgc1, hre1, hoe1, hrg1, hb⟩
      unfold aggB
      replace hR := hR.later hb
      replace hre := hre.keep hb
      replace hoe := hoe.keep hb
      replace hrg := hrg.keep hb
      replace hrb := hrb.keep hb
      replace hB := below_step hB hb
      clear hb
      have hRn : Row (w10.alloc (.cells #[.int .u64 0, .slice none 0 0, .slice none 0 0] 26)) w10.heap.size 26 zeroB := Row.new w10 _ _ _ rfl
      have HRB2 := Lib.hid (refreadBun_any b nb f D)
      have hlen := readBun_len b
      generalize readBun b = Y at *
      obtain ⟨y1, y2, y3, y4, y5⟩ := Y
      dsimp only at HE1 HM1 hrg1 hlen ⊢
      have hn1 : n1 ≤ 1000000000 := by have h1 := congrArg List.length HE1.out; rw [conE_length, HN1.out] at h1; omega
      have hm1 : m1 ≤ 1000000000 := by have h1 := HM1.out; omega
      clear hlen
      have hRz := hRn.setRow [.int .u64 (y1 : Int), .slice eA1 n1 ec1, .slice gA1 m1 gc1]
      have hbn : Below w10.heap.size w10 ((w10.alloc (.cells #[.int .u64 0, .slice none 0 0, .slice none 0 0] 26)).setRow w10.heap.size [.int .u64 (y1 : Int), .slice eA1 n1 ec1, .slice gA1 m1 gc1].toArray) := below_setRow (below_new (Below.refl _ _) _) (Nat.le_refl _) _
      go_upto_region 14 with (refine wpList_store_row rfl 26 (.tmp 13) (.tmp 104) rfl w10.heap.size rfl [.int .u64 (y1 : Int), .slice eA1 n1 ec1, .slice gA1 m1 gc1] rfl _ _ hRn (by exact size_bundle) rfl (one_three _ _ _ rfl rfl rfl) ?_)
      generalize (w10.alloc (.cells #[.int .u64 0, .slice none 0 0, .slice none 0 0] 26)).setRow w10.heap.size [.int .u64 (y1 : Int), .slice eA1 n1 ec1, .slice gA1 m1 gc1].toArray = w11 at hRz hbn ⊢
      replace hR := hR.later hbn
      replace hre := hre.keep hbn
      replace hoe := hoe.keep hbn
      replace hrg := hrg.keep hbn
      replace hrb := hrb.keep hbn
      replace hB := below_step hB hbn
      replace hre1 := hre1.keep hbn
      replace hoe1 := hoe1.keep hbn
      replace hrg1 := hrg1.keep hbn
      clear hbn
      clear hRn
      generalize w10.heap.size = gz at hRz ⊢
      go_wp2_with fail
      refine (HRB2.out _ HB hrb (by omega) hbf).mono ?_
      rintro e' w12 ⟨eA2, es2, n2, ec2, gA2, m2, gc2, rfl, HE2, HN2, HM2, hec2, hgc2, hre2, hoe2, hrg2, hb⟩
      unfold aggB
      dsimp only at HE2 HM2 hrg2 ⊢
      replace hR := hR.later hb
      replace hre := hre.keep hb
      replace hoe := hoe.keep hb
      replace hrg := hrg.keep hb
      replace hrb := hrb.keep hb
      replace hB := below_step hB hb
      replace hre1 := hre1.keep hb
      replace hoe1 := hoe1.keep hb
      replace hrg1 := hrg1.keep hb
      replace hRz := hRz.later hb
      clear hb
      clear HRB2
      have hRn : Row (w12.alloc (.cells #[.int .u64 0, .slice none 0 0, .slice none 0 0] 26)) w12.heap.size 26 zeroB := Row.new w12 _ _ _ rfl
      have hRw := hRn.setRow [.int .u64 (y1 : Int), .slice eA2 n2 ec2, .slice gA2 m2 gc2]
      have hbn : Below w12.heap.size w12 ((w12.alloc (.cells #[.int .u64 0, .slice none 0 0, .slice none 0 0] 26)).setRow w12.heap.size [.int .u64 (y1 : Int), .slice eA2 n2 ec2, .slice gA2 m2 gc2].toArray) := below_setRow (below_new (Below.refl _ _) _) (Nat.le_refl _) _
      go_upto_region 15 with (refine wpList_store_row rfl 26 (.tmp 16) (.tmp 110) rfl w12.heap.size rfl [.int .u64 (y1 : Int), .slice eA2 n2 ec2, .slice gA2 m2 gc2] rfl _ _ hRn (by exact size_bundle) rfl (one_three _ _ _ rfl rfl rfl) ?_)
      generalize (w12.alloc (.cells #[.int .u64 0, .slice none 0 0, .slice none 0 0] 26)).setRow w12.heap.size [.int .u64 (y1 : Int), .slice eA2 n2 ec2, .slice gA2 m2 gc2].toArray = w13 at hRw hbn ⊢
      replace hR := hR.later hbn
      replace hre := hre.keep hbn
      replace hoe := hoe.keep hbn
      replace hrg := hrg.keep hbn
      replace hrb := hrb.keep hbn
      replace hB := below_step hB hbn
      replace hre1 := hre1.keep hbn
      replace hoe1 := hoe1.keep hbn
      replace hrg1 := hrg1.keep hbn
      replace hRz := hRz.later hbn
      replace hre2 := hre2.keep hbn
      replace hoe2 := hoe2.keep hbn
      replace hrg2 := hrg2.keep hbn
      clear hbn
      clear hRn
      generalize w12.heap.size = gw at hRw ⊢
      have eE : Hid (decide ((y1, conE es1, y3) = (y1, conE es2, y3)) = true) := decide_eq_true (by rw [HE1.out, HE2.out])
      go_wp2_with (refine wpList_load_part rfl 26 (.tmp 3) rfl w.heap.size 0 rfl _ _ hR (cellsB v eA n ec gA m gc) (by rfl) _ Tryz.underlying26 rfl (by exact size_bundle) ?_)
      refine (rightB_any v es gs n ec m gc eA gA _ HN HM hre hrg HF (by omega) (by omega) HML.out).mono ?_
      rw [HRB.out]
      rintro e' w14 ⟨rfl, hb⟩
      replace hR := hR.later hb
      replace hre := hre.keep hb
      replace hoe := hoe.keep hb
      replace hrg := hrg.keep hb
      replace hrb := hrb.keep hb
      replace hB := below_step hB hb
      replace hre1 := hre1.keep hb
      replace hoe1 := hoe1.keep hb
      replace hrg1 := hrg1.keep hb
      replace hRz := hRz.later hb
      replace hre2 := hre2.keep hb
      replace hoe2 := hoe2.keep hb
      replace hrg2 := hrg2.keep hb
      replace hRw := hRw.later hb
      clear hb
      have z0 : w14.cell? ⟨gz, 0, none⟩ = some (.int .u64 (y1 : Int)) := hRz.cell rfl
      have z1 : w14.cell? ⟨gz, 1, none⟩ = some (.slice eA1 n1 ec1) := hRz.cell rfl
      have z2 : w14.cell? ⟨gz, 2, none⟩ = some (.slice gA1 m1 gc1) := hRz.cell rfl
      have x0 : w14.cell? ⟨gw, 0, none⟩ = some (.int .u64 (y1 : Int)) := hRw.cell rfl
      have x1 : w14.cell? ⟨gw, 1, none⟩ = some (.slice eA2 n2 ec2) := hRw.cell rfl
      have x2 : w14.cell? ⟨gw, 2, none⟩ = some (.slice gA2 m2 gc2) := hRw.cell rfl
      have hRB2 : (RB == RB) = true := by cases RB <;> rfl
      go_wp2_with fail
      refine (sameB_any y1 y1 es1 es2 y3 y3 n1 ec1 m1 gc1 n2 ec2 m2 gc2 eA1 gA1 eA2 gA2 w14 HN1 HM1 HN2 HM2 hre1 hoe1 hrg1 hre2 hoe2 hrg2 hn1 hm1).mono ?_
      rw [eE.out]
      rintro e' w15 ⟨rfl, hb⟩
      replace hB := below_step hB hb
      clear hb
      clear z0 z1 z2 x0 x1 x2
      go_wp2_with fail
      go_ret
      exact ⟨rfl, hB⟩
    · have hb40 : (4000 : Int) < (nb : Int) := by omega
      go_wp2_with fail
      go_ret
      exact ⟨rfl, hB⟩
end Go.Proofs.YtknjpmoimjhddaaGreatDoor
