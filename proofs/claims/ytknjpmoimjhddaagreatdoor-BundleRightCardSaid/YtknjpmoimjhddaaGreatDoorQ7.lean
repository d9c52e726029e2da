/-
  What the program's Read of layer 16 answers (landed code). No conditions but those typed.
-/
import Derived.Test.YtknjpmoimjhddaaGreatDoorQ6
import Derived.Test.YtknjpmoimjhddaaGreatDoorChecked
import Derived.WalkKit
import Derived.LaidEql
import Derived.Stop.Asserts
import Derived.RowKitTokens
import Derived.Handy
import Derived.Deep.DeepCutAuto
import Derived.Maps.AppendAt
namespace Go.Proofs.YtknjpmoimjhddaaGreatDoor
set_option maxRecDepth 100000
open Go.RowKit
set_option linter.unusedSimpArgs false
set_option linter.unusedVariables false

theorem OwnE.only {B g : Nat} {t : TypeId} {xs : List ED} {v : Value} {w w' : World} (h : OwnE B t xs v w) (k : Only g w w') (hg : g < B) : OwnE B t xs v w' := h.same (fun b hb hl => k.other b (by omega) hl)
def BunI (q : Nat) (k2 : Int) (S2 : List UInt8) (v : Nat) (vS : Value) (w : World) (g1 g2 B : Nat) (i : Value) (wr : World) : Prop :=
  ∃ k es u kk S, i = .int .i64 ((k : Nat) : Int) ∧ k ≤ q ∧ (es : List ED).length = k ∧ Hid (entsK q k2 S2 = (conE es ++ (entsK (q - k) kk S).1, (entsK (q - k) kk S).2)) ∧ (∀ x ∈ es, x.s.length ≤ 32) ∧ Row wr w.heap.size 26 zeroB ∧ Row wr g2 26 [.int .u64 (v : Int), u, .slice none 0 0] ∧
    OwnE B 35 es u wr ∧ RdRF g1 kk S wr ∧ IsW g1 1 32 vS wr ∧ Below w.heap.size w wr ∧ B ≤ wr.heap.size
def codeRd (g : Nat) (k : Int) (W : World) : Prop := W.cell? ⟨g, 1, none⟩ = some (.int .i64 k) ∧ True
def endRd (g1 g2 : Nat) (v : Value) (a b c : Value) (W : World) : Prop := W.cell? ⟨g1, 0, none⟩ = some v ∧ (W.cell? ⟨g2, 0, none⟩ = some a ∧ (W.cell? ⟨g2, 1, none⟩ = some b ∧ W.cell? ⟨g2, 2, none⟩ = some c))

set_option maxHeartbeats 8000000 in
theorem readBunP_any (b : List UInt8) (n c : Nat) (A : Option Addr) (w : World) (HN : Hid (b.length = n)) (hr : Rd vB w A b) (hn : n ≤ 1000000) (hc : n ≤ c) :
    Calls Tryz.prog 17 #[.slice A n c] w (RetBr w (readBun b)) := by
  obtain ⟨j0, hj, gz0, gz1, gz2⟩ := info_parts info_entry
  obtain ⟨P, hP⟩ : ∃ P, readBun b = P := ⟨_, rfl⟩
  rw [hP]
  obtain ⟨k0, S0, H0⟩ : ∃ k S, markK 66 b = (k, S) := ⟨_, _, rfl⟩
  obtain ⟨v, k1, S1, H1⟩ : ∃ x k S, num8K k0 S0 = (x, k, S) := ⟨_, _, _, rfl⟩
  obtain ⟨q, k2, S2, H2⟩ : ∃ x k S, cntK 0 64 k1 S1 = (x, k, S) := ⟨_, _, _, rfl⟩
  have hq64 : q ≤ 64 := by have := cntK_le 0 64 k1 S1; rw [H2] at this; exact this
  have HFN : Hid (∀ {es : List En} {k3 : Int} {S3 : List UInt8}, entsK q k2 S2 = (es, k3, S3) → ∀ (k' : Int) (S' : List UInt8) (l : List Gn), (k3 ≠ 0 → k' = k3) → (k3 = 0 → k' = (readG S3).2.2 ∧ (k' = 0 → l = (readG S3).1 ∧ S' = S3.drop (readG S3).2.1 ∧ (readG S3).2.1 ≤ S3.length)) →
      (finK (rightB es l) k' ≠ 0 → P = badB (finK (rightB es l) k')) ∧ (finK (rightB es l) k' = 0 → P = (v, es, l, n - S'.length, 0) ∧ S'.length ≤ n)) := by
    intro es k3 S3 h3 k' S' l g1 g2
    have := bun_final H0 H1 H2 h3 g1 g2
    rw [hP, HN.out] at this
    exact this
  have HFIT : Hid (∀ x ∈ (entsK q k2 S2).1, x.1 < 18446744073709551616 ∧ x.2.1 < 18446744073709551616 ∧ x.2.2.length ≤ 32) := entsK_fit q k2 S2
  have hvlt : v < 18446744073709551616 := by have := num8K_lt k0 S0; rw [H1] at this; exact this
  replace H0 := Lib.hid H0
  replace H1 := Lib.hid H1
  replace H2 := Lib.hid H2
  clear hP
  obtain ⟨hR0, hB0⟩ := box_three w 26 (.int .u64 0) (.slice none 0 0) (.slice none 0 0)
  go_enter Tryz.func17, Tryz.ntmps17
  go_upto_region 1 with fail
  generalize (w.alloc (.cells #[.int .u64 0, .slice none 0 0, .slice none 0 0] 26)) = W0 at hR0 hB0 ⊢
  go_wp2_with fail
  refine (counts_any W0).mono ?_
  rintro e W1 ⟨vE, vS, rfl, hWE, hWS, hb⟩
  replace hR0 := hR0.later hb
  replace hB0 := below_step hB0 hb
  replace hr := hr.keep hB0
  clear hb
  go_upto_region 2 with fail
  have hgl := hR0.lt
  have hA : b ≠ [] → ∀ a, A = some a → a.block < W1.heap.size := hr.off
  have hRs : Row (W1.alloc (.cells #[.slice A n c, .int .i64 0] 104)) W1.heap.size 104 [.slice A n c, .int .i64 0] := Row.new W1 _ _ _ rfl
  have hb2 := below_new (Below.refl W1.heap.size W1) (.cells #[.slice A n c, .int .i64 0] 104)
  go_upto_region 3 with fail
  replace hr := hr.keep hb2
  replace hR0 := hR0.later hb2
  replace hB0 := below_step hB0 hb2
  replace hWE := hWE.below hb2 (Nat.le_refl _)
  replace hWS := hWS.below hb2 (Nat.le_refl _)
  generalize (W1.alloc (.cells #[.slice A n c, .int .i64 0] 104)) = W2 at hr hR0 hRs hB0 hWE hWS ⊢
  clear hb2
  generalize W1.heap.size = g1 at hgl hRs hA hWE hWS ⊢
  have hS : RdS g1 b n 0 W2 := ⟨A, c, hRs, HN, hc, hr, hA⟩
  have hg1 := hRs.lt
  clear hRs hr hA
  have hle : w.heap.size ≤ g1 := by omega
  have hne : w.heap.size ≠ g1 := by omega
  have hRx : Row (W2.alloc (.cells #[.int .u64 0, .slice none 0 0, .slice none 0 0] 26)) W2.heap.size 26 zeroB := Row.new W2 _ _ _ rfl
  have hbn := below_new (Below.refl W2.heap.size W2) (.cells #[.int .u64 0, .slice none 0 0, .slice none 0 0] 26)
  have hS1 : RdS g1 b n 0 (W2.alloc (.cells #[.int .u64 0, .slice none 0 0, .slice none 0 0] 26)) := by
    obtain ⟨A', c', h1, h2, h3, h4, h5⟩ := hS
    exact ⟨A', c', h1.later hbn, h2, h3, h4.keep hbn, h5⟩
  replace hR0 := hR0.later hbn
  replace hB0 := below_step hB0 hbn
  replace hWE := hWE.below hbn (by omega)
  replace hWS := hWS.below hbn (by omega)
  go_upto_region 4 with fail
  generalize W2.alloc (.cells #[.int .u64 0, .slice none 0 0, .slice none 0 0] 26) = W3 at hS1 hR0 hB0 hRx hWE hWS ⊢
  clear hbn hS
  generalize W2.heap.size = g2 at hg1 hRx ⊢
  have hn2 : g2 ≠ g1 := by omega
  have hn4 : w.heap.size ≠ g2 := by omega
  have hl2 : w.heap.size ≤ g2 := by omega
  have hl12 : g1 + 1 ≤ g2 := by omega
  have hl1 : g1 ≤ g2 := by omega
  go_wp2_with fail
  refine (mark_any 66 66 rfl (by decide) g1 b n W3 hS1 (by omega)).mono ?_
  rw [H0.out]
  rintro e₁ W4 ⟨rfl, hT, hO⟩
  dsimp only at hT
  replace hR0 := hR0.only hO hne
  replace hRx := hRx.only hO hn2
  replace hWE := hWE.below hO.below (Nat.le_refl _)
  replace hWS := hWS.below hO.below (Nat.le_refl _)
  replace hB0 := hB0.trans (hO.below.mono hle)
  clear hO hS1
  go_wp2_with fail
  refine (number8_any g1 k0 S0 W4 hT).mono ?_
  rw [H1.out]
  rintro e₁ w4 ⟨rfl, hT4, hO⟩
  dsimp only at hT4 ⊢
  replace hR0 := hR0.only hO hne
  replace hRx := hRx.only hO hn2
  replace hWE := hWE.below hO.below (Nat.le_refl _)
  replace hWS := hWS.below hO.below (Nat.le_refl _)
  replace hB0 := hB0.trans (hO.below.mono hle)
  clear hO hT
  have f0 := hRx.frozen 0
  have c0 : w4.cell? ⟨g2, 0, none⟩ = some (.int .u64 0) := hRx.cell rfl
  have hT5 := hT4.below ((Below.refl _ w4).setCell (p := ⟨g2, 0, none⟩) hl12 (.int .u64 (v : Int)))
  have hR05 := hR0.setCell_other (p := ⟨g2, 0, none⟩) hn4 (.int .u64 (v : Int))
  have hRx5 : Row (w4.setCell ⟨g2, 0, none⟩ (.int .u64 (v : Int))) g2 26 [.int .u64 (v : Int), .slice none 0 0, .slice none 0 0] := hRx.setCell 0 (.int .u64 (v : Int))
  have hB5 := hB0.setCell (p := ⟨g2, 0, none⟩) hl2 (.int .u64 (v : Int))
  have hWE5 := hWE.below ((Below.refl g2 w4).setCell (p := ⟨g2, 0, none⟩) (Nat.le_refl _) (.int .u64 (v : Int))) hl1
  have hWS5 := hWS.below ((Below.refl g2 w4).setCell (p := ⟨g2, 0, none⟩) (Nat.le_refl _) (.int .u64 (v : Int))) hl1
  clear hT4 hR0 hRx hB0 hWE hWS
  go_upto_region 6 with fail
  generalize w4.setCell ⟨g2, 0, none⟩ (.int .u64 (v : Int)) = W5 at hT5 hR05 hRx5 hB5 hWE5 hWS5 ⊢
  clear c0 f0
  go_wp2_with fail
  refine (count_any g1 k1 S1 g1 0 64 vE W5 hT5 hWE5 (Nat.le_refl _)).mono ?_
  rw [H2.out]
  rintro e₁ W6 ⟨rfl, hT6, hO⟩
  dsimp only at hT6 ⊢
  have hR06 := hR05.only hO hne
  have hRx6 := hRx5.only hO hn2
  have hWS6 := hWS5.below hO.below (Nat.le_refl _)
  have hB6 := hB5.trans (hO.below.mono hle)
  clear hO hT5 hR05 hRx5 hB5 hWE5 hWS5
  have hB2 : g2 < W6.heap.size := hRx6.lt
  obtain ⟨B, hBB⟩ : ∃ B, B = W6.heap.size := ⟨_, rfl⟩
  have hBle : B ≤ W6.heap.size := by omega
  have hg2B : g2 < B := by omega
  have hg1B : g1 < B := by omega
  clear hBB hB2
  go_upto_region 7 with fail
  go_loopw [24] (fun i wr => BunI q k2 S2 v vS w g1 g2 B i wr) (fun i _ => q - (intOf i).toNat)
  case atStart => exact ⟨0, [], .slice none 0 0, k2, S2, rfl, Nat.zero_le _, rfl, Lib.hid rfl, (fun x hx => by cases hx), hR06, hRx6, OwnE.nil _ _ _, hT6, hWS6, hB6, hBle⟩
  case round =>
    clear hT6 hR06 hRx6 hWS6 hB6 hBle
    obtain ⟨k, es, u, kk, S, rfl, hk, hes, hents, hsd, hR, hX, hown, hT, hWS, hbel, hszr⟩ := hrel
    by_cases hlt : k < q
    · have HMORE := Lib.hid (ents_more hlt hents.out)
      have hi1 : (k : Int) < (q : Int) := by omega
      obtain ⟨eA, ec, hu, hec, _⟩ := hown.slice
      rw [hes] at hu hec
      subst hu
      have HES := Lib.hid hes
      have HSD := Lib.hid hsd
      have HENT := Lib.hid (fun W (hT : RdRF g1 kk S W) (hv : IsW g1 1 32 vS W) => readent_any g1 kk S g1 vS W hT hv (Nat.le_refl _))
      have HELT := Lib.hid (entK_fit kk S)
      generalize entK kk S = X at HMORE HENT HELT
      obtain ⟨⟨x1, x2, x3⟩, kX, SX⟩ := X
      dsimp only at HMORE HENT HELT
      clear hents hes hsd
      have c1 : wr.cell? ⟨g2, 1, none⟩ = some (.slice eA k ec) := hX.cell rfl
      go_upto_region 8 with fail
      have hS : wr.drew.cell? ⟨g2, 1, none⟩ = some (.slice eA k ec) ∧ True := ⟨c1, trivial⟩
      refine wp_region_last (fun W => W.cell? ⟨g2, 1, none⟩ = some (.slice eA k ec) ∧ True) (.step 0 false (.step 1 false (.step 2 false (.step 3 false (.step 4 true (.step 5 true (.step 6 true (.step 7 false .nil)))))))) hS (by rfl) (by kernel_rfl) (by kernel_rfl) (by decide) (by kernel_rfl) (by kernel_rfl) (by kernel_rfl) (by kernel_rfl) ?_
      simp only [initO, List.dropLast]
      have hSd : wr.drew.cell? ⟨g2, 1, none⟩ = some (.slice eA k ec) := c1
      have hownD : OwnE B 35 es (.slice eA k ec) wr.drew := hown.later (Below.refl _ _).drew
      have hRD : Row wr.drew w.heap.size 26 zeroB := hR
      have hXD : Row wr.drew g2 26 [.int .u64 (v : Int), .slice eA k ec, .slice none 0 0] := hX
      have hTD : RdRF g1 kk S wr.drew := hT.below (Below.refl _ _).drew
      have hWD : IsW g1 1 32 vS wr.drew := hWS.below (Below.refl _ _).drew (Nat.le_refl _)
      have hBD : Below w.heap.size w wr.drew := hbel.drew
      have hsz : wr.heap.size = wr.drew.heap.size := rfl
      rw [hsz] at hszr
      clear hR hX hown hT hWS hbel c1 hS
      iterate 4 (refine plan_read rfl (by rfl) (v := ?_) ?_ ?_; rotate_left 1; (intro W hW; (try dsimp only at hW); obtain ⟨hW0, hW1⟩ := hW; go_simp <;> with_reducible rfl); simp only [List.getElem_toArray, List.getElem_cons_zero, List.getElem_cons_succ, Act.put, List.setIfInBounds_toArray, List.set_cons_zero, List.set_cons_succ])
      generalize wr.drew = wd at hSd hownD hRD hXD hTD hWD hBD hszr ⊢
      clear hsz
      refine plan_make_of rfl (by rfl) (fun K hK => ?_)
      go_simp
      refine (HENT.out wd hTD hWD).mono ?_
      rintro e₁ w7 ⟨A7, l7, c7, rfl, HL7, hl7, hr7, hA7, hT7, hO⟩
      have hR7 := hRD.only hO hne
      have hX7 := hXD.only hO hn2
      have hW7 := hWD.below hO.below (Nat.le_refl _)
      have hB7 := hBD.trans (hO.below.mono hle)
      have hown7 := hownD.only hO hg1B
      have hs7 := hO.below.size
      have hS7 : w7.cell? ⟨g2, 1, none⟩ = some (.slice eA k ec) ∧ True := ⟨hX7.cell rfl, trivial⟩
      refine hK.out _ _ hS7 ?_
      clear hK K hO hTD hRD hXD hWD hBD hSd
      have hl7e := HL7.out
      subst hl7e
      have hb8 : Below w7.heap.size w7 (w7.alloc (.cells #[.int .u64 (x1 : Int), .int .u64 (x2 : Int), .slice A7 x3.length c7] 35)) := below_new (Below.refl _ _) _
      have hg27 := hX7.lt
      (refine plan_make_of rfl (by rfl) (fun K hK => ?_); unfold aggN; go_simp; refine hK.out _ _ ⟨(hb8.cell (p := ⟨g2, 1, none⟩) hg27).trans hS7.1, trivial⟩ ?_; clear hK K)
      have hown8k : w7.ownsRow B 35 3 (.slice eA k ec) k (cellsE es) := by
        have := hown7.1
        rw [HES.out] at this
        exact this
      have hown8 := ownsRowE_later hown8k hb8
      have hnews := (Row.new w7 35 (ED.mk x1 x2 A7 c7 x3).cells #[.int .u64 (x1 : Int), .int .u64 (x2 : Int), .slice A7 x3.length c7] rfl).newsD
      have hs8 := hb8.size
      refine plan_make_of rfl (by rfl) (fun K hK => ?_)
      refine wp_append_own3 _ (.tmp 27) (.tmp 31) 23 (by rfl) B 35 j0 (.agg #[.int .u64 0, .int .u64 0, .slice none 0 0]) 3 40 Tryz.underlying23 hj gz0 gz1 gz2 rfl (by decide) (.slice eA k ec) k (cellsE es) (by rfl) hown8 ⟨w7.heap.size, 0, none⟩ 1 1 (ED.mk x1 x2 A7 c7 x3).cells (by rfl) (by rfl) hnews (ED.one _) (by unfold maxLen; omega) (by omega) (by omega) ?_
      intro v9 w9 hown9 hgrow9 hat9
      obtain ⟨A9, c9, rfl, hc9q⟩ := own_formE hown9
      have hO9 : OwnE B 35 (es ++ [ED.mk x1 x2 A7 c7 x3]) (.slice A9 (k + 1) c9) w9 := hownD.more2 hown7 ⟨hl7, hr7⟩ (fun _ a ha => hA7 a ha) hszr hb8 (by rw [HES.out]; exact hown9) hgrow9 hat9
      have hbd9 : Below B w7 w9 := (hb8.mono (by omega)).grown hgrow9 (by omega) (fun j hj => (hown8.lt j hj).1)
      have hR9 := (hR7.later hb8).grown hgrow9 (fun e => by have := (hown8.lt _ e).1; omega)
      have hX9 := (hX7.later hb8).grown hgrow9 (fun e => by have := (hown8.lt _ e).1; omega)
      have hT9 := hT7.below (hbd9.mono (by omega))
      have hW9 := hW7.below hbd9 (by omega)
      have HB9 := Lib.hid (hB7.trans (hbd9.mono (by omega)))
      have hs9 := hbd9.size
      simp only [List.getElem_toArray, List.getElem_cons_zero, List.getElem_cons_succ, Act.put, List.setIfInBounds_toArray, List.set_cons_zero, List.set_cons_succ]
      refine hK.out _ _ ⟨hX9.cell rfl, trivial⟩ ?_
      clear hK K hown9 hgrow9 hat9 hbd9 hown8 hb8 hnews hown8k hown7 hownD hR7 hX7 hT7 hW7 hB7 hr7 hS7
      iterate 1 (refine plan_read rfl (by rfl) (v := ?_) ?_ ?_; rotate_left 1; (intro W hW; (try dsimp only at hW); obtain ⟨hW0, hW1⟩ := hW; go_simp <;> with_reducible rfl); simp only [List.getElem_toArray, List.getElem_cons_zero, List.getElem_cons_succ, Act.put, List.setIfInBounds_toArray, List.set_cons_zero, List.set_cons_succ])
      have hc9 : w9.cell? ⟨g2, 1, none⟩ = some (.slice eA k ec) := hX9.cell rfl
      have hf9 : w9.frozen? ⟨g2, 1, none⟩ = false := hX9.frozen 1
      refine planLast_done rfl (by rfl) ?_
      go_simp
      have HO10 := Lib.hid (hO9.same (w' := w9.setCell ⟨g2, 1, none⟩ (.slice A9 (k + 1) c9)) (fun j h1 _ => Below.heap_setCell w9 ⟨g2, 1, none⟩ (.slice A9 (k + 1) c9) j (by show j ≠ g2; omega)))
      have hR10 := hR9.setCell_other (p := ⟨g2, 1, none⟩) (by show w.heap.size ≠ g2; omega) (.slice A9 (k + 1) c9)
      have hX10 : Row (w9.setCell ⟨g2, 1, none⟩ (.slice A9 (k + 1) c9)) g2 26 [.int .u64 (v : Int), (.slice A9 (k + 1) c9), .slice none 0 0] := hX9.setCell 1 (.slice A9 (k + 1) c9)
      have HB10 := Lib.hid (HB9.out.setCell (p := ⟨g2, 1, none⟩) (by show w.heap.size ≤ g2; omega) (.slice A9 (k + 1) c9))
      have HT10 := Lib.hid (hT9.below ((Below.refl _ w9).setCell (p := ⟨g2, 1, none⟩) hl12 (.slice A9 (k + 1) c9)))
      have HW10 := Lib.hid (hW9.below ((Below.refl g2 w9).setCell (p := ⟨g2, 1, none⟩) (Nat.le_refl _) (.slice A9 (k + 1) c9)) hl1)
      have hs10 : (w9.setCell ⟨g2, 1, none⟩ (.slice A9 (k + 1) c9)).heap.size = w9.heap.size := by simp [World.setCell]
      clear hO9 hR9 hX9 hc9 hf9 HB9 hT9 hW9
      generalize w9.setCell ⟨g2, 1, none⟩ (.slice A9 (k + 1) c9) = w10 at HO10 hR10 hX10 HB10 HT10 HW10 hs10 ⊢
      have hsd9 : Hid (∀ x ∈ es ++ [ED.mk x1 x2 A7 c7 x3], x.s.length ≤ 32) := fun x hx => by
        rcases List.mem_append.1 hx with hx | hx
        · exact HSD.out x hx
        · rw [List.mem_singleton.1 hx]
          exact HELT.out.2.2
      go_wp2_with fail
      go_roundw
      case rel => exact ⟨k + 1, es ++ [ED.mk x1 x2 A7 c7 x3], (.slice A9 (k + 1) c9), kX, SX, by go_num, by omega, by rw [List.length_append, HES.out]; rfl, by unfold Hid; rw [conE_snoc]; exact HMORE.out, hsd9.out, hR10, hX10, HO10.out, HT10.out, HW10.out, HB10.out, by omega⟩
      case measure => simp [intOf]; omega
    · have ekq : k = q := by omega
      subst ekq
      have hents' : entsK k k2 S2 = (conE es, kk, S) := by
        rw [hents.out, Nat.sub_self]
        simp [entsK]
      have HF3 := Lib.hid (HFN.out hents')
      have HFE : Hid (fitE (conE es)) := fun x hx => by
        have := HFIT.out x (by rw [hents']; exact hx)
        exact ⟨this.1, this.2.1⟩
      obtain ⟨eA, ec, hu, hec, _⟩ := hown.slice
      rw [hes] at hu hec
      subst hu
      have HES := Lib.hid hes
      have HSD := Lib.hid hsd
      have HEC := Lib.hid hec
      have hi1 : ¬ (k : Int) < (k : Int) := by omega
      clear hents hents' hes hsd hec HFIT hWS
      go_wp2_with fail
      refine (readgone_any g1 kk S wr hT).mono ?_
      rintro e₁ w5 ⟨A5, l, m, c5, rfl, HL, hmc, hm64, hrg, hfl, hA5, hO, k', S', hT5, hk1', hk2'⟩
      have hR5 := hR.only hO hne
      have hX5 := hX.only hO hn2
      have hB5 := hbel.trans (hO.below.mono hle)
      have hown5 := hown.only hO hg1B
      have hA5B : Hid (∀ a, A5 = some a → g2 < a.block) := fun a ha => by have := hA5 a ha; omega
      have hs5 := hO.below.size
      have HFF := Lib.hid (HF3.out k' S' l hk1' hk2')
      have HFL := Lib.hid hfl
      clear hO hT hR hX hbel hown hA5 hk1' hk2' HF3 hfl
      have f0 := hX5.frozen 2
      have c0 : w5.cell? ⟨g2, 2, none⟩ = some (.slice none 0 0) := hX5.cell rfl
      have hT6 := hT5.below ((Below.refl _ w5).setCell (p := ⟨g2, 2, none⟩) hl12 (.slice A5 m c5))
      have hR6 := hR5.setCell_other (p := ⟨g2, 2, none⟩) hn4 (.slice A5 m c5)
      have hX6 : Row (w5.setCell ⟨g2, 2, none⟩ (.slice A5 m c5)) g2 26 [.int .u64 (v : Int), .slice eA k ec, .slice A5 m c5] := hX5.setCell 2 (.slice A5 m c5)
      have hB6 := hB5.setCell (p := ⟨g2, 2, none⟩) hl2 (.slice A5 m c5)
      have hOs := (Only.refl g2 w5).setCell 2 (.slice A5 m c5)
      have hown6 := hown5.only hOs hg2B
      have hrg6 := hrg.only hOs (fun a ha => by have := hA5B.out a ha; omega)
      clear hT5 hR5 hX5 hB5 hown5 hrg hOs
      go_upto_region 11 with fail
      generalize w5.setCell ⟨g2, 2, none⟩ (.slice A5 m c5) = w6 at hT6 hR6 hX6 hB6 hown6 hrg6 ⊢
      clear c0 f0
      have HRT := Lib.hid (rightB_any v es l k ec m c5 eA A5 w6 HES.out HL (hown6.rd HES.out) hrg6 HFL (by omega) (by omega) (fun x hx => by have := HSD.out x hx; omega))
      unfold aggB at HRT
      obtain ⟨R, hR⟩ : ∃ R, rightB (conE es) l = R := ⟨_, rfl⟩
      rw [hR] at HRT HFF
      clear hR
      go_wp2_with (refine wpList_load_part rfl 26 (.tmp 8) rfl g2 0 rfl _ _ hX6 [.int .u64 (v : Int), .slice eA k ec, .slice A5 m c5] (by rfl) _ Tryz.underlying26 rfl (by exact size_bundle) ?_)
      refine HRT.out.mono ?_
      rintro e₁ w7 ⟨rfl, hb7⟩
      have hlt6 := hT6.lt
      replace hT6 := hT6.below (hb7.mono (show g1 + 1 ≤ w6.heap.size by omega))
      replace hR6 := hR6.later hb7
      replace hX6 := hX6.later hb7
      replace hB6 := below_step hB6 hb7
      replace hown6 := hown6.later hb7
      replace hrg6 := hrg6.keep hb7
      clear hb7 HRT
      go_upto_if 40 with fail
      go_cut [] (fun wx => RdRF g1 (finK R k') S' wx ∧ Row wx w.heap.size 26 zeroB ∧ Row wx g2 26 [.int .u64 (v : Int), .slice eA k ec, .slice A5 m c5] ∧ Below w.heap.size w wx ∧ OwnE B 35 es (.slice eA k ec) wx ∧ RdG wx A5 l)
      case first =>
        cases R with
        | true =>
          go_wp2_with fail
          go_meet
          case rel => exact ⟨hT6, hR6, hX6, hB6, hown6, hrg6⟩
        | false =>
          go_wp2_with fail
          refine (keep_any g1 k' 3 S' w7 hT6).mono ?_
          rintro e₁ w8 ⟨rfl, hT8, hO⟩
          have hR8 := hR6.only hO hne
          have hX8 := hX6.only hO hn2
          have hB8 := hB6.trans (hO.below.mono hle)
          have hown8 := hown6.only hO hg1B
          have hrg8 := hrg6.only hO (fun a ha => by have := hA5B.out a ha; omega)
          go_wp2_with fail
          go_meet
          case rel => exact ⟨hT8, hR8, hX8, hB8, hown8, hrg8⟩
      case rest =>
      clear hT6 hR6 hX6 hB6 hown6 hrg6
      rename World => w8
      obtain ⟨hT8, hR8, hX8, hB8, hown8, hrg8⟩ := hcut
      obtain ⟨KF, hKF⟩ : ∃ K, finK R k' = K := ⟨_, rfl⟩
      rw [hKF] at hT8 HFF
      clear hKF
      obtain ⟨T', n8, ⟨A8, c8, hRr8, HN8, hc8, hr8, hA8⟩, hn8, hT8'⟩ := hT8
      have cd : w8.cell? ⟨g1, 1, none⟩ = some (.int .i64 KF) := hRr8.cell rfl
      have hgl8 := hR8.lt
      have hxl8 := hX8.lt
      by_cases hz : KF = 0
      · subst hz
        have eT := hT8' rfl
        subst eT
        obtain ⟨hPP, hSl⟩ := HFF.out.2 rfl
        rw [HN8.out] at hPP hSl
        have HPP := Lib.hid hPP
        have cs : w8.cell? ⟨g1, 0, none⟩ = some (.slice A8 n8 c8) := hRr8.cell rfl
        clear hPP HFF hT8' hr8 hA8 hc8
        go_upto_region 15 with fail
        have hS : endRd g1 g2 (.slice A8 n8 c8) (.int .u64 (v : Int)) (.slice eA k ec) (.slice A5 m c5) w8.drew := ⟨cs, hX8.cell rfl, hX8.cell rfl, hX8.cell rfl⟩
        have hR9 := hR8.drew
        have hB9 := hB8.drew
        have hown9 := hown8.later ((Below.refl _ w8).drew)
        have hrg9 := hrg8.keep ((Below.refl _ w8).drew)
        have wnn : IntKind.i64.wrap ((n : Int) - (n8 : Int)) = ((n - n8 : Nat) : Int) := by rw [IntKind.wrap_i64]; omega
        obtain ⟨nn, hnn⟩ : ∃ x, n - n8 = x := ⟨_, rfl⟩
        rw [hnn] at wnn HPP
        clear hnn
        refine wp_region_plan_of (endRd g1 g2 (.slice A8 n8 c8) (.int .u64 (v : Int)) (.slice eA k ec) (.slice A5 m c5)) (.step 0 false (.step 1 false (.step 2 false (.step 3 false (.step 4 false (.step 5 false (.step 6 false (.step 7 false (.step 8 false (.step 9 true (.step 10 false (.step 11 false (.nil))))))))))))) hS (by kernel_rfl) (by kernel_rfl) (by rfl) (by kernel_rfl) ?_
        clear hR8 hB8 hown8 hrg8 cs cd hX8 hRr8
        generalize w8.drew = wv at *
        iterate 9 (refine plan_read rfl (by rfl) (v := ?_) ?_ ?_; rotate_left 1; (intro W hW; (try dsimp only at hW); obtain ⟨hW0, hW1⟩ := hW; go_simp <;> with_reducible rfl); simp only [List.getElem_toArray, List.getElem_cons_zero, List.getElem_cons_succ, Act.put, List.setIfInBounds_toArray, List.set_cons_zero, List.set_cons_succ])
        have hcs : ∀ (cs : Array Value) (p : Addr), p.block ≠ w.heap.size → (wv.setRow w.heap.size cs).cell? p = wv.cell? p := fun cs p hp => cell_setRow_other wv w.heap.size cs p hp
        obtain ⟨s1, s2, s3, s4⟩ := hS
        refine plan_make_of rfl (by rfl) (fun K hK => ?_)
        refine hR9.wp_store 26 (.tmp 2) (.tmp 53) rfl rfl [.int .u64 (v : Int), .slice eA k ec, .slice A5 m c5] rfl (by exact size_bundle) rfl (one_three _ _ _ rfl rfl rfl) ?_
        refine hK.out _ _ ⟨(hcs _ _ hne.symm).trans s1, (hcs _ _ hn4.symm).trans s2, (hcs _ _ hn4.symm).trans s3, (hcs _ _ hn4.symm).trans s4⟩ ?_
        clear hK K hcs
        simp only [List.getElem_toArray, List.getElem_cons_zero, List.getElem_cons_succ, Act.put, List.setIfInBounds_toArray, List.set_cons_zero, List.set_cons_succ]
        iterate 2 (refine plan_read rfl (by rfl) (v := ?_) ?_ ?_; rotate_left 1; (intro W hW; (try dsimp only at hW); obtain ⟨hW0, hW1⟩ := hW; go_simp <;> with_reducible rfl); simp only [List.getElem_toArray, List.getElem_cons_zero, List.getElem_cons_succ, Act.put, List.setIfInBounds_toArray, List.set_cons_zero, List.set_cons_succ])
        refine plan_done ?_
        go_wp2_with fail
        refine bodyPost_ret (results_row_two (p := 2) (u := 3) (v := 4) (ty := 26) (by rfl) _ _ w.heap.size 26 _ _ (by rfl) (by exact hR9.setRow _) Tryz.underlying26 (by rfl) (by exact size_bundle)) (by rfl) ?_
        have hother : ∀ j, j ≠ w.heap.size → (wv.setRow w.heap.size [.int .u64 (v : Int), .slice eA k ec, .slice A5 m c5].toArray).heap[j]? = wv.heap[j]? := fun j hj => Go.setRow_other wv w.heap.size j _ hj
        have hown10 := hown9.same (fun j h1 _ => hother j (by omega))
        have hrg10 : RdG (wv.setRow w.heap.size [.int .u64 (v : Int), .slice eA k ec, .slice A5 m c5].toArray) A5 l := hrg9.only ((Only.refl w.heap.size wv).setRow _) (fun a ha => by have := hA5B.out a ha; omega)
        rw [HPP.out]
        exact ⟨eA, es, k, ec, A5, m, c5, rfl, Lib.hid rfl, HES.out, HL, HEC.out, hmc, hown10.rd HES.out, hown10.2.1, hrg10, below_setRow hB9 (Nat.le_refl _) _⟩
      · have hk0 : (KF == 0) = false := beq_eq_false_iff_ne.2 hz
        have hk1 : (KF != 0) = true := by rw [bne, hk0]; rfl
        have HPP : Hid (P = badB KF) := HFF.out.1 hz
        clear HFF hT8' hr8 hA8 hc8 hown8 hrg8
        go_upto_region 14 with fail
        have hS : codeRd g1 KF w8.drew := ⟨cd, trivial⟩
        have hR9 := hR8.drew
        have hB9 := hB8.drew
        refine wp_region_plan_of (codeRd g1 KF) (.step 0 false (.step 1 false (.step 2 false (.step 3 false (.step 4 false (.step 5 true (.step 6 false (.step 7 false (.nil))))))))) hS (by kernel_rfl) (by kernel_rfl) (by rfl) (by kernel_rfl) ?_
        clear hR8 hB8 cd hX8 hRr8
        generalize w8.drew = wv at *
        iterate 5 (refine plan_read rfl (by rfl) (v := ?_) ?_ ?_; rotate_left 1; (intro W hW; (try dsimp only at hW); obtain ⟨hW0, hW1⟩ := hW; go_simp <;> with_reducible rfl); simp only [List.getElem_toArray, List.getElem_cons_zero, List.getElem_cons_succ, Act.put, List.setIfInBounds_toArray, List.set_cons_zero, List.set_cons_succ])
        have hcs : ∀ (cs : Array Value), (wv.setRow w.heap.size cs).cell? ⟨g1, 1, none⟩ = wv.cell? ⟨g1, 1, none⟩ := fun cs => cell_setRow_other wv w.heap.size cs ⟨g1, 1, none⟩ (show g1 ≠ w.heap.size by omega)
        refine plan_make_of rfl (by rfl) (fun K hK => ?_)
        refine hR9.wp_store 26 (.tmp 2) (.tmp 48) rfl rfl zeroB rfl (by exact size_bundle) rfl (one_three _ _ _ rfl rfl rfl) ?_
        refine hK.out _ _ ⟨(hcs _).trans hS.1, trivial⟩ ?_
        clear hK K hcs
        simp only [List.getElem_toArray, List.getElem_cons_zero, List.getElem_cons_succ, Act.put, List.setIfInBounds_toArray, List.set_cons_zero, List.set_cons_succ]
        iterate 2 (refine plan_read rfl (by rfl) (v := ?_) ?_ ?_; rotate_left 1; (intro W hW; (try dsimp only at hW); obtain ⟨hW0, hW1⟩ := hW; go_simp <;> with_reducible rfl); simp only [List.getElem_toArray, List.getElem_cons_zero, List.getElem_cons_succ, Act.put, List.setIfInBounds_toArray, List.set_cons_zero, List.set_cons_succ])
        refine plan_done ?_
        go_wp2_with fail
        refine bodyPost_ret (results_row_two (p := 2) (u := 3) (v := 4) (ty := 26) (by rfl) _ _ w.heap.size 26 _ _ (by rfl) (by exact hR9.setRow _) Tryz.underlying26 (by rfl) (by exact size_bundle)) (by rfl) ?_
        exact retbr_bad HPP (below_setRow hB9 (Nat.le_refl _) _)
end Go.Proofs.YtknjpmoimjhddaaGreatDoor
/-
  What the reference's Bytes of layer 16 answers, of a bundle that is right. No conditions but those typed.
-/
namespace Go.Proofs.YtknjpmoimjhddaaGreatDoor
set_option maxRecDepth 100000
open Go.RowKit
set_option linter.unusedSimpArgs false
set_option linter.unusedVariables false

/-- The mark, the version, how many entries, and the first k of them. -/
def beB (v : Nat) (es : List En) (k : Nat) : List UInt8 := 66 :: (putL v ++ (UInt8.ofNat es.length :: flatE (es.take k)))
theorem beB_next (v : Nat) (es : List En) (k : Nat) (h : k < es.length) : beB v es (k + 1) = beB v es k ++ putL es[k].1 ++ putL es[k].2.1 ++ [UInt8.ofNat es[k].2.2.length] ++ es[k].2.2 := by
  unfold beB flatE
  rw [List.take_succ_eq_append_getElem h, List.flatMap_append]
  simp [oneE]
theorem beB_all (v : Nat) (es : List En) (gs : List Gn) : beB v es es.length ++ bytesG gs = bytesB v es gs := by
  unfold beB bytesB
  rw [List.take_length]
  simp
theorem flatE_short : ∀ (es : List En), (∀ x ∈ es, x.2.2.length ≤ 32) → (flatE es).length ≤ 49 * es.length
  | [], _ => by simp [flatE]
  | a :: es, h => by
    have ih := flatE_short es (fun x hx => h x (List.mem_cons_of_mem _ hx))
    have ha := h a (List.mem_cons_self ..)
    rw [flatE_cons, List.length_append, oneE_length, List.length_cons]
    omega
theorem beB_short (v : Nat) (es : List En) (k : Nat) (h : ∀ x ∈ es, x.2.2.length ≤ 32) : (beB v es k).length ≤ 10 + 49 * es.length := by
  have h1 := flatE_short (es.take k) (fun x hx => h x (List.mem_of_mem_take hx))
  unfold beB
  rw [List.length_cons, List.length_append, putL_l8, List.length_cons]
  have : (es.take k).length ≤ es.length := by rw [List.length_take]; omega
  omega
def ByB (v : Nat) (es : List ED) (w : World) (u i : Value) (wr : World) : Prop := ∃ k : Nat, k ≤ es.length ∧ i = .int .i64 (k : Int) ∧ wr.ownsRow w.heap.size 5 1 u (beB v (conE es) k).length ((beB v (conE es) k).map vB) ∧ Below w.heap.size w wr
theorem byB_next {v : Nat} {es : List ED} {w wr : World} {u : Value} {k n1 : Nat} {L1 L2 : List UInt8} {Y : List UInt8} (h : k < es.length) (h1 : putL es[k].t = L1) (h2 : putL es[k].e = L2) (ho : wr.ownsRow w.heap.size 5 1 u n1 ((beB v (conE es) k).map vB ++ L1.map vB ++ L2.map vB ++ [vB (UInt8.ofNat es[k].s.length)] ++ es[k].s.map vB)) (hn : n1 = (beB v (conE es) k).length + L1.length + L2.length + 1 + es[k].s.length) (hB : Below w.heap.size w wr) : ByB v es w u (.int .i64 ((k : Int) + 1)) wr := by
  refine ⟨k + 1, by omega, by go_num, ?_, hB⟩
  have hk : k < (conE es).length := by rw [conE_length]; exact h
  have hN := beB_next v (conE es) k hk
  rw [conE_get es k h] at hN
  unfold ED.con at hN
  dsimp only at hN
  rw [h1, h2] at hN
  rw [hN]
  subst hn
  simpa [Nat.add_assoc, Nat.add_comm 1 es[k].s.length] using ho

theorem byte_one (n : Nat) (h : n ≤ 255) : vB (UInt8.ofNat n) = .int .u8 (n : Int) := by
  unfold vB
  rw [UInt8.toNat_ofNat']
  congr 1
  omega

set_option maxHeartbeats 2000000 in
theorem refbytesB_any (v : Nat) (es : List ED) (gs : List Gn) (n ec m gc : Nat) (eA gA : Option Addr) (w : World) (HN : Hid (es.length = n)) (HM : Hid (gs.length = m)) (hre : RdE w eA es) (hoe : okD w es) (hrg : RdG w gA gs) (hv : v < 18446744073709551616) (hfe : fitE (conE es)) (HF : Hid (fitG gs)) (hok : rightB (conE es) gs = true) :
    Calls Tryz.prog 13 #[aggB v eA n ec gA m gc] w (RetO 5 vB w (bytesB v (conE es) gs)) := by
  obtain ⟨i0, hi, hz0, hz1, hz2⟩ := info_parts info_u8
  obtain ⟨hn64, hgr, hoe2⟩ := right_b.1 hok
  have hseed := okE_all hoe2
  have hsh : ∀ x ∈ conE es, x.2.2.length ≤ 32 := fun x hx => (hseed x hx).2
  rw [conE_length] at hn64
  have e1 := HN.out
  subst e1
  obtain ⟨hR, hB⟩ := box_three w 26 (.int .u64 (v : Int)) (.slice eA es.length ec) (.slice gA m gc)
  unfold aggB
  have HFE := Lib.hid hfe
  have HSH := Lib.hid hsh
  have HV := Lib.hid hv
  have hm64 : m ≤ 64 := by have := (right_parts.1 hgr).2; have := HM.out; omega
  clear hok hoe2 hseed hgr hfe hsh HN
  go_enter Tryz.func13, Tryz.ntmps13
  go_upto_region 1 with fail
  generalize (w.alloc (.cells #[.int .u64 (v : Int), .slice eA es.length ec, .slice gA m gc] 26)) = w1 at hR hB ⊢
  have hbg := hR.lt
  have hre1 := hre.keep hB
  have hoe1 := hoe.keep hB
  have hrg1 := hrg.keep hB
  have HB1 := Lib.hid hB
  obtain ⟨L0, hL0⟩ : ∃ L, putL v = L := ⟨_, rfl⟩
  have HL0 := Lib.hid hL0
  have hL0' := hL0
  have HL0Q := Lib.hid hL0'
  clear hL0'
  have HN0 : Hid (L0.length = 8) := by unfold Hid; rw [← hL0]; rfl
  have hown0 : (w1.alloc (.cells #[.int .u8 66] 5)).ownsRow w1.heap.size 5 1 (.slice (some ⟨w1.heap.size, 0, none⟩) 1 1) 1 ([(66 : UInt8)].map vB) := own_lit w1 5 ([(66 : UInt8)].map vB) #[.int .u8 66] rfl (by unfold maxLen; simp)
  have hb2 := below_new (Below.refl w1.heap.size w1) (.cells #[.int .u8 66] 5)
  have c0 : (w1.alloc (.cells #[.int .u8 66] 5)).cell? ⟨w.heap.size, 0, none⟩ = some (.int .u64 (v : Int)) := (hR.later hb2).cell rfl
  clear hL0 hB hre hoe hrg
  go_wp2_with fail
  refine (refputG_at v L0 HV.out HL0 _).mono ?_
  rintro ee w3 ⟨A1, k1, rfl, hk1, hr1, hb3⟩
  have hown3 := ownsRow_later hown0 hb3
  have hB3 := below_step hb2 hb3
  have hsz3 := hB3.size
  clear hown0 hb2 hb3 c0
  have hnb := byte_one es.length (by omega)
  have HNB := Lib.hid hnb
  clear hnb
  go_wp2_with (first
    | (at_builtin; refine wpList_append_apart _ rfl (.tmp 6) (.tmp 9) 27 rfl w1.heap.size 5 i0 (.int .u8 0) 1 Tryz.underlying27 hi hz0 hz1 hz2 rfl _ _ _ rfl hown3 A1 L0 k1 (by rw [HN0.out]; rfl) hr1 vB_one (by rw [HN0.out]; unfold maxLen; omega) (by rw [HN0.out]; omega) (by omega) ?_; intro v4 w4 hown4 hgrow4 hat4; have hB4 := hB3.grown hgrow4 hsz3 (fun k hk => (hown3.lt k hk).1); have hc1 : w4.cell? ⟨w.heap.size, 1, none⟩ = some (.slice eA es.length ec) := (hR.later hB4).cell rfl)
    | (at_builtin; refine wpList_append_apart _ rfl (.tmp 11) (.tmp 16) 27 rfl w1.heap.size 5 i0 (.int .u8 0) 1 Tryz.underlying27 hi hz0 hz1 hz2 rfl _ _ _ rfl (ownsRow_later hown4 (below_new (Below.refl _ _) _)) (some ⟨w4.heap.size, 0, none⟩) [UInt8.ofNat es.length] 1 rfl (Rd.new w4 [UInt8.ofNat es.length] _ _ (by rw [List.map_cons, HNB.out]; rfl)) vB_one (by simp only [HN0.out, List.length_cons, List.length_nil]; unfold maxLen; omega) (by simp only [HN0.out, List.length_cons, List.length_nil]; omega) (by have := hB4.size; simp; omega) ?_; intro v5 w5 hown5 hgrow5 hat5; have hB5 := (below_new hB4 (.cells #[.int .u8 (es.length : Int)] 5)).grown hgrow5 (by have := hB4.size; simp; omega) (fun k hk => (hown4.lt k hk).1)))
  have hstart : beB v (conE es) 0 = 66 :: (L0 ++ [UInt8.ofNat es.length]) := by unfold beB; rw [HL0Q.out, conE_length]; rfl
  have hown6 : w5.ownsRow w1.heap.size 5 1 v5 (beB v (conE es) 0).length ((beB v (conE es) 0).map vB) := by
    rw [hstart]
    simpa [HN0.out, Nat.add_comm] using hown5
  clear hown3 hown4 hgrow4 hat4 hgrow5 hat5 hc1 hB4 hB3 hsz3 hr1 hown5 hstart
  go_loopw [3, 4] (fun u i wr => ByB v es w1 u i wr) (fun _ i _ => es.length - (intOf i).toNat)
  case atStart => exact ⟨0, Nat.zero_le _, rfl, hown6, hB5⟩
  case round =>
    clear hown6 hB5
    obtain ⟨k, hk, rfl, hown, hbel⟩ := hrel
    have hRr := hR.later hbel
    by_cases hlt : k < es.length
    · obtain ⟨b, o, rfl, hb, hrng, _, _, _⟩ := (hre1.keep hbel).one hlt
      have hx := hoe1 _ (List.getElem_mem hlt)
      have hlc : k < (conE es).length := by rw [conE_length]; exact hlt
      have hfx := HFE.out _ (List.getElem_mem hlc)
      have hsx := HSH.out _ (List.getElem_mem hlc)
      rw [conE_get es k hlt] at hfx hsx
      obtain ⟨L1, hL1⟩ : ∃ L, putL es[k].t = L := ⟨_, rfl⟩
      obtain ⟨L2, hL2⟩ : ∃ L, putL es[k].e = L := ⟨_, rfl⟩
      have HN1 : Hid (L1.length = 8) := by unfold Hid; rw [← hL1]; rfl
      have HN2 : Hid (L2.length = 8) := by unfold Hid; rw [← hL2]; rfl
      have HNX := Lib.hid (fun (u : Value) (n1 : Nat) (wr : World) (h) hn hB => byB_next (v := v) (es := es) (w := w1) (wr := wr) (u := u) (k := k) (n1 := n1) (L1 := L1) (L2 := L2) (Y := []) hlt hL1 hL2 h hn hB)
      have hbl := beB_short v (conE es) k HSH.out
      rw [conE_length] at hbl
      have HL1 := Lib.hid hL1
      have HL2 := Lib.hid hL2
      clear hL1 hL2
      generalize es[k] = x at hrng hx hfx hsx HNX HL1 HL2
      obtain ⟨xt, xe, xA, xc, xs⟩ := x
      obtain ⟨hxc, hxr⟩ := hx
      have HXW : Hid (∀ W, Below w1.heap.size w1 W → Rd vB W xA xs) := fun W hW => hxr.keep hW
      unfold ED.con at hfx hsx
      unfold ED.cells ED.at2 vNG at hrng
      dsimp only at hrng hfx hsx HNX HL1 HL2 hxc hxr
      generalize beB v (conE es) k = Lk at hown HNX hbl
      have c1 : wr.cell? ⟨w.heap.size, 1, none⟩ = some (.slice (some ⟨b, o, none⟩) es.length ec) := hRr.cell rfl
      have i2 : (0 : Int) ≤ (k : Int) := by omega
      have i3 : (k : Int) < (es.length : Int) := by omega
      have hR0 : Row (wr.alloc (.cells #[.int .u64 0, .int .u64 0, .slice none 0 0] 35)) wr.heap.size 35 [.int .u64 0, .int .u64 0, .slice none 0 0] := Row.new wr _ _ _ rfl
      have HS1 := byte_one xs.length (by omega)
      generalize hxl : xs.length = xl at *
      have HXL := Lib.hid hxl
      clear hxl
      go_upto_region 7 with (first
        | (refine wpList_load_mid rfl 35 (.tmp 28) rfl b (o + k * 3) rfl [.int .u64 (xt : Int), .int .u64 (xe : Int), .slice xA xl xc] _ hrng Tryz.underlying35 rfl (by exact size_entry) ?_)
        | (refine wpList_store_row rfl 35 (.tmp 5) (.tmp 29) rfl wr.heap.size rfl [.int .u64 (xt : Int), .int .u64 (xe : Int), .slice xA xl xc] rfl _ _ hR0 (by exact size_entry) rfl (one_three _ _ _ rfl rfl rfl) ?_))
      have hR1 := hR0.setRow [.int .u64 (xt : Int), .int .u64 (xe : Int), .slice xA xl xc]
      have hbn : Below wr.heap.size wr ((wr.alloc (.cells #[.int .u64 0, .int .u64 0, .slice none 0 0] 35)).setRow wr.heap.size [.int .u64 (xt : Int), .int .u64 (xe : Int), .slice xA xl xc].toArray) := below_setRow (below_new (Below.refl _ _) _) (Nat.le_refl _) _
      generalize (wr.alloc (.cells #[.int .u64 0, .int .u64 0, .slice none 0 0] 35)).setRow wr.heap.size [.int .u64 (xt : Int), .int .u64 (xe : Int), .slice xA xl xc].toArray = wb at hR1 hbn ⊢
      have hap := own_apart hown
      replace hown := ownsRow_later hown hbn
      replace hbel := below_step hbel hbn
      have hg3 := hR1.lt
      have HBB := Lib.hid hbel
      clear hbn hR0 hrng c1 hxr hRr
      generalize wr.heap.size = gx at hR1 hap hg3 ⊢
      have c0 : wb.cell? ⟨gx, 0, none⟩ = some (.int .u64 (xt : Int)) := hR1.cell rfl
      go_wp2_with fail
      refine (refputG_at xt L1 hfx.1 HL1 _).mono ?_
      rintro ee wc ⟨A4, c4, rfl, hc4, hr4, hb4⟩
      have hown4 := ownsRow_later hown hb4
      have hR4 := hR1.later hb4
      have hB4 := below_step HBB.out hb4
      have hsz4 := hB4.size
      have hg4 := hR4.lt
      clear hown hb4 c0 hR1
      go_wp2_with (at_builtin; refine wpList_append_apart _ rfl (.tmp 30) (.tmp 33) 27 rfl w1.heap.size 5 i0 (.int .u8 0) 1 Tryz.underlying27 hi hz0 hz1 hz2 rfl _ _ _ rfl hown4 A4 L1 c4 (by rw [HN1.out]; rfl) hr4 vB_one (by rw [HN1.out]; unfold maxLen; omega) (by rw [HN1.out]; omega) (by omega) ?_; intro u5 wd hown5 hgrow5 hat5; have hR5 := hR4.grown hgrow5 hap; have hap5 := apart_of hap hg4 hat5; have hB5 := hB4.grown hgrow5 hsz4 (fun k hk => (hown4.lt k hk).1); have c1' : wd.cell? ⟨gx, 1, none⟩ = some (.int .u64 (xe : Int)) := hR5.cell rfl)
      refine (refputG_at xe L2 hfx.2 HL2 _).mono ?_
      rintro ee we ⟨A6, c6, rfl, hc6, hr6, hb6⟩
      have hown6 := ownsRow_later hown5 hb6
      have hR6 := hR5.later hb6
      have hB6 := below_step hB5 hb6
      have hsz6 := hB6.size
      have hg6 := hR6.lt
      have hg5 := hR5.lt
      have hap6 := hap5
      clear hown5 hb6 c1' hR5 hap
      go_wp2_with (first
        | (at_builtin; refine wpList_append_apart _ rfl (.tmp 35) (.tmp 38) 27 rfl w1.heap.size 5 i0 (.int .u8 0) 1 Tryz.underlying27 hi hz0 hz1 hz2 rfl _ _ _ rfl hown6 A6 L2 c6 (by rw [HN2.out]; rfl) hr6 vB_one (by rw [HN2.out, HN1.out]; unfold maxLen; omega) (by rw [HN2.out, HN1.out]; omega) (by omega) ?_; intro u7 wf hown7 hgrow7 hat7; have hR7 := hR6.grown hgrow7 hap6; have hap7 := apart_of hap6 hg6 hat7; have hB7 := hB6.grown hgrow7 hsz6 (fun k hk => (hown6.lt k hk).1); have c2' : wf.cell? ⟨gx, 2, none⟩ = some (.slice xA xl xc) := hR7.cell rfl; have hg7 := hR7.lt)
        | (at_builtin; refine wpList_append_apart _ rfl (.tmp 40) (.tmp 45) 27 rfl w1.heap.size 5 i0 (.int .u8 0) 1 Tryz.underlying27 hi hz0 hz1 hz2 rfl _ _ _ rfl (ownsRow_later hown7 (below_new (Below.refl _ _) _)) (some ⟨wf.heap.size, 0, none⟩) [UInt8.ofNat xl] 1 rfl (Rd.new wf [UInt8.ofNat xl] _ _ (by rw [List.map_cons, HS1]; rfl)) vB_one (by simp only [HN2.out, HN1.out, List.length_cons, List.length_nil]; unfold maxLen; omega) (by simp only [HN2.out, HN1.out, List.length_cons, List.length_nil]; omega) (by have := hB7.size; simp; omega) ?_; intro u8 wg hown8 hgrow8 hat8; have hR8 := (hR7.alloc (.cells #[.int .u8 (xl : Int)] 5)).grown hgrow8 hap7; have hB8 := (below_new hB7 (.cells #[.int .u8 (xl : Int)] 5)).grown hgrow8 (by have := hB7.size; simp; omega) (fun k hk => (hown7.lt k hk).1); have c3' : wg.cell? ⟨gx, 2, none⟩ = some (.slice xA xl xc) := hR8.cell rfl)
        | (at_builtin; refine wpList_append_apart _ rfl (.tmp 47) (.tmp 49) 27 rfl w1.heap.size 5 i0 (.int .u8 0) 1 Tryz.underlying27 hi hz0 hz1 hz2 rfl _ _ _ rfl hown8 xA xs xc (by rw [HXL.out]; rfl) (HXW.out _ hB8) vB_one (by simp only [HXL.out, HN2.out, HN1.out, List.length_cons, List.length_nil]; unfold maxLen; omega) (by simp only [HXL.out, HN2.out, HN1.out, List.length_cons, List.length_nil]; omega) (by have := hB8.size; omega) ?_; intro u9 wh hown9 hgrow9 hat9; have hB9 := hB8.grown hgrow9 hB8.size (fun k hk => (hown8.lt k hk).1)))
      go_roundw
      case rel => exact HNX.out _ _ _ hown9 (by simp only [List.length_cons, List.length_nil, HXL.out]) hB9
      case measure => simp [intOf]; omega
    · have hkl : k = es.length := by omega
      subst hkl
      have hbl := beB_short v (conE es) es.length HSH.out
      rw [conE_length] at hbl
      have hall := beB_all v (conE es) gs
      rw [conE_length] at hall
      have HALL := Lib.hid hall
      generalize beB v (conE es) es.length = Lk at hown hbl HALL
      have c1 : wr.cell? ⟨w.heap.size, 1, none⟩ = some (.slice eA es.length ec) := hRr.cell rfl
      have c2 : wr.cell? ⟨w.heap.size, 2, none⟩ = some (.slice gA m gc) := hRr.cell rfl
      have hme := HM.out
      subst hme
      have hrgw := hrg1.keep hbel
      have HBB := Lib.hid hbel
      have j1 : ¬ (es.length : Int) < (es.length : Int) := by omega
      clear hbel hall hk
      go_wp2_with fail
      refine (refbytes15_any gs gc gA _ hrgw HF hm64).mono ?_
      rintro ee w9 ⟨v9, rfl, hown9, hb9⟩
      obtain ⟨A9, c9, rfl, hc9, hr9⟩ := own_slice hown9
      have hown10 := ownsRow_later hown hb9
      have HB9 := Lib.hid (below_step HBB.out hb9)
      have HBYL := Lib.hid (bytes_length gs)
      have hsz9 := HB9.out.size
      clear c1 c2 hb9 hown
      go_wp2_with (at_builtin; refine wpList_append_apart _ rfl (.tmp 51) (.tmp 54) 27 rfl w1.heap.size 5 i0 (.int .u8 0) 1 Tryz.underlying27 hi hz0 hz1 hz2 rfl _ _ _ rfl hown10 A9 (bytesG gs) c9 rfl hr9 vB_one (by rw [HBYL.out]; unfold maxLen; omega) (by rw [HBYL.out]; omega) hsz9 ?_; intro v10 w10 hown11 hgrow11 _; have hB10 := HB9.out.grown hgrow11 hsz9 (fun k hk => (hown10.lt k hk).1))
      go_ret
      refine ⟨_, rfl, ?_, HB1.out.trans (hB10.mono HB1.out.size)⟩
      rw [← HALL.out, List.length_append, List.map_append]
      exact own_base hown11 HB1.out.size
end Go.Proofs.YtknjpmoimjhddaaGreatDoor
/-
  What the program's Bytes of layer 16 answers (landed code). No conditions but those typed.
-/
namespace Go.Proofs.YtknjpmoimjhddaaGreatDoor
set_option maxRecDepth 100000
open Go.RowKit
set_option linter.unusedSimpArgs false
set_option linter.unusedVariables false

set_option maxHeartbeats 2000000 in
theorem bytesB_ok (v : Nat) (es : List ED) (gs : List Gn) (n ec m gc : Nat) (eA gA : Option Addr) (w : World) (HN : Hid (es.length = n)) (HM : Hid (gs.length = m)) (hre : RdE w eA es) (hoe : okD w es) (hrg : RdG w gA gs) (hv : v < 18446744073709551616) (hfe : fitE (conE es)) (HF : Hid (fitG gs)) (hok : rightB (conE es) gs = true) :
    Calls Tryz.prog 12 #[aggB v eA n ec gA m gc] w (RetBs w (bytesB v (conE es) gs) 0) := by
  obtain ⟨i0, hi, hz0, hz1, hz2⟩ := info_parts info_u8
  obtain ⟨hn64, hgr, hoe2⟩ := right_b.1 hok
  have hseed := okE_all hoe2
  have hsh : ∀ x ∈ conE es, x.2.2.length ≤ 32 := fun x hx => (hseed x hx).2
  rw [conE_length] at hn64
  have e1 := HN.out
  subst e1
  obtain ⟨hR, hB⟩ := box_three w 26 (.int .u64 (v : Int)) (.slice eA es.length ec) (.slice gA m gc)
  unfold aggB
  have HFE := Lib.hid hfe
  have HSH := Lib.hid hsh
  have HV := Lib.hid hv
  have hm64 : m ≤ 64 := by have := (right_parts.1 hgr).2; have := HM.out; omega
  have HOK := Lib.hid hok
  have HGB : Hid (bytesR gs = (bytesG gs, 0)) := bytesR_ok hgr
  have HML : Hid (∀ x ∈ es, x.s.length ≤ 9223372036854775807) := fun x hx => by
    have := hsh _ (List.mem_map_of_mem (f := ED.con) hx)
    have h2 : x.s.length ≤ 32 := this
    omega
  clear hok hoe2 hseed hgr hfe hsh HN
  go_enter Tryz.func12, Tryz.ntmps12
  go_upto_region 1 with fail
  generalize (w.alloc (.cells #[.int .u64 (v : Int), .slice eA es.length ec, .slice gA m gc] 26)) = w0 at hR hB ⊢
  go_wp2_with (refine wpList_load_part rfl 26 (.tmp 1) rfl w.heap.size 0 rfl _ _ hR (cellsB v eA es.length ec gA m gc) (by rfl) _ Tryz.underlying26 rfl (by exact size_bundle) ?_)
  refine (rightB_any v es gs es.length ec m gc eA gA w0 (Lib.hid rfl) HM (hre.keep hB) (hrg.keep hB) HF (by omega) (by omega) (HML.out)).mono ?_
  rw [HOK.out]
  rintro ee w1 ⟨rfl, hb⟩
  replace hR := hR.later hb
  replace hB := below_step hB hb
  clear hb
  go_upto_region 3 with fail
  have hbg := hR.lt
  have hre1 := hre.keep hB
  have hoe1 := hoe.keep hB
  have hrg1 := hrg.keep hB
  have HB1 := Lib.hid hB
  obtain ⟨L0, hL0⟩ : ∃ L, putL v = L := ⟨_, rfl⟩
  have HL0 := Lib.hid hL0
  have hL0' := hL0
  have HL0Q := Lib.hid hL0'
  clear hL0'
  have HN0 : Hid (L0.length = 8) := by unfold Hid; rw [← hL0]; rfl
  have hown0 : (w1.alloc (.cells #[.int .u8 66] 5)).ownsRow w1.heap.size 5 1 (.slice (some ⟨w1.heap.size, 0, none⟩) 1 1) 1 ([(66 : UInt8)].map vB) := own_lit w1 5 ([(66 : UInt8)].map vB) #[.int .u8 66] rfl (by unfold maxLen; simp)
  have hb2 := below_new (Below.refl w1.heap.size w1) (.cells #[.int .u8 66] 5)
  have c0 : (w1.alloc (.cells #[.int .u8 66] 5)).cell? ⟨w.heap.size, 0, none⟩ = some (.int .u64 (v : Int)) := (hR.later hb2).cell rfl
  clear hL0 hB hre hoe hrg
  go_wp2_with fail
  refine (putG_at v L0 HV.out HL0 _).mono ?_
  rintro ee w3 ⟨A1, k1, rfl, hk1, hr1, hb3⟩
  have hown3 := ownsRow_later hown0 hb3
  have hB3 := below_step hb2 hb3
  have hsz3 := hB3.size
  clear hown0 hb2 hb3 c0
  have hnb := byte_one es.length (by omega)
  have HNB := Lib.hid hnb
  clear hnb
  go_wp2_with (first
    | (at_builtin; refine wpList_append_apart _ rfl (.tmp 13) (.tmp 16) 27 rfl w1.heap.size 5 i0 (.int .u8 0) 1 Tryz.underlying27 hi hz0 hz1 hz2 rfl _ _ _ rfl hown3 A1 L0 k1 (by rw [HN0.out]; rfl) hr1 vB_one (by rw [HN0.out]; unfold maxLen; omega) (by rw [HN0.out]; omega) (by omega) ?_; intro v4 w4 hown4 hgrow4 hat4; have hB4 := hB3.grown hgrow4 hsz3 (fun k hk => (hown3.lt k hk).1); have hc1 : w4.cell? ⟨w.heap.size, 1, none⟩ = some (.slice eA es.length ec) := (hR.later hB4).cell rfl)
    | (at_builtin; refine wpList_append_apart _ rfl (.tmp 18) (.tmp 23) 27 rfl w1.heap.size 5 i0 (.int .u8 0) 1 Tryz.underlying27 hi hz0 hz1 hz2 rfl _ _ _ rfl (ownsRow_later hown4 (below_new (Below.refl _ _) _)) (some ⟨w4.heap.size, 0, none⟩) [UInt8.ofNat es.length] 1 rfl (Rd.new w4 [UInt8.ofNat es.length] _ _ (by rw [List.map_cons, HNB.out]; rfl)) vB_one (by simp only [HN0.out, List.length_cons, List.length_nil]; unfold maxLen; omega) (by simp only [HN0.out, List.length_cons, List.length_nil]; omega) (by have := hB4.size; simp; omega) ?_; intro v5 w5 hown5 hgrow5 hat5; have hB5 := (below_new hB4 (.cells #[.int .u8 (es.length : Int)] 5)).grown hgrow5 (by have := hB4.size; simp; omega) (fun k hk => (hown4.lt k hk).1)); have hc2 : w5.cell? ⟨w.heap.size, 1, none⟩ = some (.slice eA es.length ec) := (hR.later hB5).cell rfl)
  have hstart : beB v (conE es) 0 = 66 :: (L0 ++ [UInt8.ofNat es.length]) := by unfold beB; rw [HL0Q.out, conE_length]; rfl
  have hown6 : w5.ownsRow w1.heap.size 5 1 v5 (beB v (conE es) 0).length ((beB v (conE es) 0).map vB) := by
    rw [hstart]
    simpa [HN0.out, Nat.add_comm] using hown5
  clear hown3 hown4 hgrow4 hat4 hgrow5 hat5 hc1 hc2 hB4 hB3 hsz3 hr1 hown5 hstart
  go_loopw [4, 28] (fun u i wr => ByB v es w1 u i wr) (fun _ i _ => es.length - (intOf i).toNat)
  case atStart => exact ⟨0, Nat.zero_le _, rfl, hown6, hB5⟩
  case round =>
    clear hown6 hB5
    obtain ⟨k, hk, rfl, hown, hbel⟩ := hrel
    have hRr := hR.later hbel
    by_cases hlt : k < es.length
    · obtain ⟨b, o, rfl, hb, hrng, _, _, _⟩ := (hre1.keep hbel).one hlt
      have hx := hoe1 _ (List.getElem_mem hlt)
      have hlc : k < (conE es).length := by rw [conE_length]; exact hlt
      have hfx := HFE.out _ (List.getElem_mem hlc)
      have hsx := HSH.out _ (List.getElem_mem hlc)
      rw [conE_get es k hlt] at hfx hsx
      obtain ⟨L1, hL1⟩ : ∃ L, putL es[k].t = L := ⟨_, rfl⟩
      obtain ⟨L2, hL2⟩ : ∃ L, putL es[k].e = L := ⟨_, rfl⟩
      have HN1 : Hid (L1.length = 8) := by unfold Hid; rw [← hL1]; rfl
      have HN2 : Hid (L2.length = 8) := by unfold Hid; rw [← hL2]; rfl
      have HNX := Lib.hid (fun (u : Value) (n1 : Nat) (wr : World) (h) hn hB => byB_next (v := v) (es := es) (w := w1) (wr := wr) (u := u) (k := k) (n1 := n1) (L1 := L1) (L2 := L2) (Y := []) hlt hL1 hL2 h hn hB)
      have hbl := beB_short v (conE es) k HSH.out
      rw [conE_length] at hbl
      have HL1 := Lib.hid hL1
      have HL2 := Lib.hid hL2
      clear hL1 hL2
      generalize es[k] = x at hrng hx hfx hsx HNX HL1 HL2
      obtain ⟨xt, xe, xA, xc, xs⟩ := x
      obtain ⟨hxc, hxr⟩ := hx
      have HXW : Hid (∀ W, Below w1.heap.size w1 W → Rd vB W xA xs) := fun W hW => hxr.keep hW
      unfold ED.con at hfx hsx
      unfold ED.cells ED.at2 vNG at hrng
      dsimp only at hrng hfx hsx HNX HL1 HL2 hxc hxr
      generalize beB v (conE es) k = Lk at hown HNX hbl
      have c1 : wr.cell? ⟨w.heap.size, 1, none⟩ = some (.slice (some ⟨b, o, none⟩) es.length ec) := hRr.cell rfl
      have i2 : (0 : Int) ≤ (k : Int) := by omega
      have i3 : (k : Int) < (es.length : Int) := by omega
      have hR0 : Row (wr.alloc (.cells #[.int .u64 0, .int .u64 0, .slice none 0 0] 35)) wr.heap.size 35 [.int .u64 0, .int .u64 0, .slice none 0 0] := Row.new wr _ _ _ rfl
      have HS1 := byte_one xs.length (by omega)
      generalize hxl : xs.length = xl at *
      have HXL := Lib.hid hxl
      clear hxl
      go_upto_region 9 with (first
        | (refine wpList_load_mid rfl 35 (.tmp 30) rfl b (o + k * 3) rfl [.int .u64 (xt : Int), .int .u64 (xe : Int), .slice xA xl xc] _ hrng Tryz.underlying35 rfl (by exact size_entry) ?_)
        | (refine wpList_store_row rfl 35 (.tmp 6) (.tmp 31) rfl wr.heap.size rfl [.int .u64 (xt : Int), .int .u64 (xe : Int), .slice xA xl xc] rfl _ _ hR0 (by exact size_entry) rfl (one_three _ _ _ rfl rfl rfl) ?_))
      have hR1 := hR0.setRow [.int .u64 (xt : Int), .int .u64 (xe : Int), .slice xA xl xc]
      have hbn : Below wr.heap.size wr ((wr.alloc (.cells #[.int .u64 0, .int .u64 0, .slice none 0 0] 35)).setRow wr.heap.size [.int .u64 (xt : Int), .int .u64 (xe : Int), .slice xA xl xc].toArray) := below_setRow (below_new (Below.refl _ _) _) (Nat.le_refl _) _
      generalize (wr.alloc (.cells #[.int .u64 0, .int .u64 0, .slice none 0 0] 35)).setRow wr.heap.size [.int .u64 (xt : Int), .int .u64 (xe : Int), .slice xA xl xc].toArray = wb at hR1 hbn ⊢
      have hap := own_apart hown
      replace hown := ownsRow_later hown hbn
      replace hbel := below_step hbel hbn
      have hg3 := hR1.lt
      have HBB := Lib.hid hbel
      clear hbn hR0 hrng c1 hxr hRr
      generalize wr.heap.size = gx at hR1 hap hg3 ⊢
      have c0 : wb.cell? ⟨gx, 0, none⟩ = some (.int .u64 (xt : Int)) := hR1.cell rfl
      go_wp2_with fail
      refine (putG_at xt L1 hfx.1 HL1 _).mono ?_
      rintro ee wc ⟨A4, c4, rfl, hc4, hr4, hb4⟩
      have hown4 := ownsRow_later hown hb4
      have hR4 := hR1.later hb4
      have hB4 := below_step HBB.out hb4
      have hsz4 := hB4.size
      have hg4 := hR4.lt
      clear hown hb4 c0 hR1
      go_wp2_with (at_builtin; refine wpList_append_apart _ rfl (.tmp 32) (.tmp 35) 27 rfl w1.heap.size 5 i0 (.int .u8 0) 1 Tryz.underlying27 hi hz0 hz1 hz2 rfl _ _ _ rfl hown4 A4 L1 c4 (by rw [HN1.out]; rfl) hr4 vB_one (by rw [HN1.out]; unfold maxLen; omega) (by rw [HN1.out]; omega) (by omega) ?_; intro u5 wd hown5 hgrow5 hat5; have hR5 := hR4.grown hgrow5 hap; have hap5 := apart_of hap hg4 hat5; have hB5 := hB4.grown hgrow5 hsz4 (fun k hk => (hown4.lt k hk).1); have c1' : wd.cell? ⟨gx, 1, none⟩ = some (.int .u64 (xe : Int)) := hR5.cell rfl)
      refine (putG_at xe L2 hfx.2 HL2 _).mono ?_
      rintro ee we ⟨A6, c6, rfl, hc6, hr6, hb6⟩
      have hown6 := ownsRow_later hown5 hb6
      have hR6 := hR5.later hb6
      have hB6 := below_step hB5 hb6
      have hsz6 := hB6.size
      have hg6 := hR6.lt
      have hg5 := hR5.lt
      have hap6 := hap5
      clear hown5 hb6 c1' hR5 hap
      go_wp2_with (first
        | (at_builtin; refine wpList_append_apart _ rfl (.tmp 37) (.tmp 40) 27 rfl w1.heap.size 5 i0 (.int .u8 0) 1 Tryz.underlying27 hi hz0 hz1 hz2 rfl _ _ _ rfl hown6 A6 L2 c6 (by rw [HN2.out]; rfl) hr6 vB_one (by rw [HN2.out, HN1.out]; unfold maxLen; omega) (by rw [HN2.out, HN1.out]; omega) (by omega) ?_; intro u7 wf hown7 hgrow7 hat7; have hR7 := hR6.grown hgrow7 hap6; have hap7 := apart_of hap6 hg6 hat7; have hB7 := hB6.grown hgrow7 hsz6 (fun k hk => (hown6.lt k hk).1); have c2' : wf.cell? ⟨gx, 2, none⟩ = some (.slice xA xl xc) := hR7.cell rfl; have hg7 := hR7.lt)
        | (at_builtin; refine wpList_append_apart _ rfl (.tmp 42) (.tmp 47) 27 rfl w1.heap.size 5 i0 (.int .u8 0) 1 Tryz.underlying27 hi hz0 hz1 hz2 rfl _ _ _ rfl (ownsRow_later hown7 (below_new (Below.refl _ _) _)) (some ⟨wf.heap.size, 0, none⟩) [UInt8.ofNat xl] 1 rfl (Rd.new wf [UInt8.ofNat xl] _ _ (by rw [List.map_cons, HS1]; rfl)) vB_one (by simp only [HN2.out, HN1.out, List.length_cons, List.length_nil]; unfold maxLen; omega) (by simp only [HN2.out, HN1.out, List.length_cons, List.length_nil]; omega) (by have := hB7.size; simp; omega) ?_; intro u8 wg hown8 hgrow8 hat8; have hR8 := (hR7.alloc (.cells #[.int .u8 (xl : Int)] 5)).grown hgrow8 hap7; have hB8 := (below_new hB7 (.cells #[.int .u8 (xl : Int)] 5)).grown hgrow8 (by have := hB7.size; simp; omega) (fun k hk => (hown7.lt k hk).1); have c3' : wg.cell? ⟨gx, 2, none⟩ = some (.slice xA xl xc) := hR8.cell rfl)
        | (at_builtin; refine wpList_append_apart _ rfl (.tmp 49) (.tmp 51) 27 rfl w1.heap.size 5 i0 (.int .u8 0) 1 Tryz.underlying27 hi hz0 hz1 hz2 rfl _ _ _ rfl hown8 xA xs xc (by rw [HXL.out]; rfl) (HXW.out _ hB8) vB_one (by simp only [HXL.out, HN2.out, HN1.out, List.length_cons, List.length_nil]; unfold maxLen; omega) (by simp only [HXL.out, HN2.out, HN1.out, List.length_cons, List.length_nil]; omega) (by have := hB8.size; omega) ?_; intro u9 wh hown9 hgrow9 hat9; have hB9 := hB8.grown hgrow9 hB8.size (fun k hk => (hown8.lt k hk).1)))
      go_roundw
      case rel => exact HNX.out _ _ _ hown9 (by simp only [List.length_cons, List.length_nil, HXL.out]) hB9
      case measure => simp [intOf]; omega
    · have hkl : k = es.length := by omega
      subst hkl
      have hbl := beB_short v (conE es) es.length HSH.out
      rw [conE_length] at hbl
      have hall := beB_all v (conE es) gs
      rw [conE_length] at hall
      have HALL := Lib.hid hall
      generalize beB v (conE es) es.length = Lk at hown hbl HALL
      have c1 : wr.cell? ⟨w.heap.size, 1, none⟩ = some (.slice eA es.length ec) := hRr.cell rfl
      have c2 : wr.cell? ⟨w.heap.size, 2, none⟩ = some (.slice gA m gc) := hRr.cell rfl
      have hme := HM.out
      subst hme
      have hrgw := hrg1.keep hbel
      have HBB := Lib.hid hbel
      have j1 : ¬ (es.length : Int) < (es.length : Int) := by omega
      clear hbel hall hk
      go_wp2_with fail
      refine (bytes15_any gs gs.length gc gA _ (Lib.hid rfl) hrgw HF (by omega)).mono ?_
      rw [HGB.out]
      rintro ee w9 ⟨v9, rfl, hown9, hb9⟩
      obtain ⟨A9, c9, rfl, hc9, hr9⟩ := own_slice hown9
      have hown10 := ownsRow_later hown hb9
      have HB9 := Lib.hid (below_step HBB.out hb9)
      have HBYL := Lib.hid (bytes_length gs)
      have hsz9 := HB9.out.size
      clear c1 c2 hb9 hown
      go_wp2_with (at_builtin; refine wpList_append_apart _ rfl (.tmp 60) (.tmp 61) 27 rfl w1.heap.size 5 i0 (.int .u8 0) 1 Tryz.underlying27 hi hz0 hz1 hz2 rfl _ _ _ rfl hown10 A9 (bytesG gs) c9 rfl hr9 vB_one (by rw [HBYL.out]; unfold maxLen; omega) (by rw [HBYL.out]; omega) hsz9 ?_; intro v10 w10 hown11 hgrow11 _; have hB10 := HB9.out.grown hgrow11 hsz9 (fun k hk => (hown10.lt k hk).1))
      rw [← List.map_append, ← List.length_append, HALL.out] at hown11
      obtain ⟨A11, c11, rfl, hc11, hr11⟩ := own_slice hown11
      go_ret2
      exact ⟨A11, _, c11, rfl, Lib.hid rfl, hc11, hr11, HB1.out.trans (hB10.mono HB1.out.size)⟩

/-- Bytes of any bundle. -/
def bytesBR (v : Nat) (es : List En) (gs : List Gn) : List UInt8 × Int := if rightB es gs = true then (bytesB v es gs, 0) else ([], 1)
theorem bytesBR_ok {v : Nat} {es : List En} {gs : List Gn} (h : rightB es gs = true) : bytesBR v es gs = (bytesB v es gs, 0) := if_pos h
theorem bytesBR_no {v : Nat} {es : List En} {gs : List Gn} (h : rightB es gs = false) : bytesBR v es gs = ([], 1) := by unfold bytesBR; rw [h]; rfl
theorem bytesB_no (v : Nat) (es : List ED) (gs : List Gn) (n ec m gc : Nat) (eA gA : Option Addr) (w : World) (HN : Hid (es.length = n)) (HM : Hid (gs.length = m)) (hre : RdE w eA es) (hrg : RdG w gA gs) (HF : Hid (fitG gs)) (hn : n ≤ 1000000000) (hm : m ≤ 1000000000) (hml : ∀ x ∈ es, x.s.length ≤ 9223372036854775807) (hok : rightB (conE es) gs = false) :
    Calls Tryz.prog 12 #[aggB v eA n ec gA m gc] w (RetBs w [] 1) := by
  obtain ⟨hR, hB⟩ := box_three w 26 (.int .u64 (v : Int)) (.slice eA n ec) (.slice gA m gc)
  have HOK := Lib.hid hok
  have HML := Lib.hid hml
  clear hok hml
  unfold aggB
  go_enter Tryz.func12, Tryz.ntmps12
  go_upto_region 1 with fail
  generalize (w.alloc (.cells #[.int .u64 (v : Int), .slice eA n ec, .slice gA m gc] 26)) = w0 at hR hB ⊢
  go_wp2_with (refine wpList_load_part rfl 26 (.tmp 1) rfl w.heap.size 0 rfl _ _ hR (cellsB v eA n ec gA m gc) (by rfl) _ Tryz.underlying26 rfl (by exact size_bundle) ?_)
  refine (rightB_any v es gs n ec m gc eA gA w0 HN HM (hre.keep hB) (hrg.keep hB) HF hn hm HML.out).mono ?_
  rw [HOK.out]
  rintro ee w1 ⟨rfl, hb⟩
  go_wp2_with fail
  go_ret2
  exact ⟨none, 0, 0, rfl, Lib.hid rfl, Nat.le_refl _, Rd.nil, below_step hB hb⟩
theorem bytesB_any (v : Nat) (es : List ED) (gs : List Gn) (n ec m gc : Nat) (eA gA : Option Addr) (w : World) (HN : Hid (es.length = n)) (HM : Hid (gs.length = m)) (hre : RdE w eA es) (hoe : okD w es) (hrg : RdG w gA gs) (hv : v < 18446744073709551616) (hfe : fitE (conE es)) (HF : Hid (fitG gs)) (hn : n ≤ 1000000000) (hm : m ≤ 1000000000) (hml : ∀ x ∈ es, x.s.length ≤ 9223372036854775807) :
    Calls Tryz.prog 12 #[aggB v eA n ec gA m gc] w (RetBs w (bytesBR v (conE es) gs).1 (bytesBR v (conE es) gs).2) := by
  cases h : rightB (conE es) gs with
  | true => rw [bytesBR_ok h]; exact bytesB_ok v es gs n ec m gc eA gA w HN HM hre hoe hrg hv hfe HF h
  | false => rw [bytesBR_no h]; exact bytesB_no v es gs n ec m gc eA gA w HN HM hre hrg HF hn hm hml h
end Go.Proofs.YtknjpmoimjhddaaGreatDoor
/-
  errors.As by its contracts, at the targets 'var c api.Errno' and 'var f *api.Fault': an error that is just that (one round), and a fault that wraps a code (two rounds: its Unwrap between them). Condition: the package-level variable errors.errorType holds the handle of the type error (EtC), as the rows list it.
-/
namespace Go.Proofs.YtknjpmoimjhddaaGreatDoor
set_option maxRecDepth 100000
open Go.RowKit Go.Extern.Stop Go.Stop Go.Extern
set_option linter.unusedSimpArgs false
set_option linter.unusedVariables false

def EtC (w : World) : Prop := w.cell? ⟨0, 0, none⟩ = some (.iface 216 (.agg #[.pointer (some ⟨2, 51, none⟩)]))
theorem etC_lt {w : World} (hg : EtC w) : 0 < w.heap.size := World.block_lt_of_cell? w ⟨0, 0, none⟩ hg
theorem EtC.later {w w' : World} (hg : EtC w) (hb : Below w.heap.size w w') : EtC w' := (hb.cell (p := ⟨0, 0, none⟩) (etC_lt hg)).trans hg
theorem EtC.drew {w : World} (hg : EtC w) : EtC w.drew := hg
theorem EtC.only {g : Nat} {w w' : World} (hg : EtC w) (h : Only g w w') (hne : 0 ≠ g) : EtC w' := (World.cell?_of_block (w := w) (a := ⟨0, 0, none⟩) (h.other _ hne (etC_lt hg))).trans hg

/-- errors.As(nil, target). -/
theorem as_nil (t : Value) (w : World) : Calls Tryz.prog 70 #[.nilIface, t] w fun e w' => e = .returned (.bool false) ∧ w' = w := by
  go_enter Tryz.func70, Tryz.ntmps70
  go_wp2
  go_ret
  exact ⟨rfl, rfl⟩
theorem rlmV (z : Sem Value) (f : TypeId → Addr → Nat → Nat → Sem Value) (v : Value) :
    ReflectliteValue.method z f #[v] = (do match ← ReflectliteValue.parts v with | none => z | some (t, a, fl) => f t a fl (fl % 32)) := rfl
theorem rlsV (v x : Value) : ReflectliteValue.set #[v, x] = (do
    let (some (dst, a, fl), some (src, b, _)) := (← ReflectliteValue.parts v, ← ReflectliteValue.parts x)
      | unsupported (.noEntry "extern/(internal/reflectlite.Value).Set.zeroValue")
    if fl / ReflectliteValue.flagAddr % 2 == 0 then unsupported (.noEntry "extern/(internal/reflectlite.Value).Set.unaddressable")
    let val ← loadVar src b
    if ← Rtype.directlyAssignable dst src then storeVar dst a val
    else if ← Rtype.implements dst src then
      if (← Rtype.kind src) == 20 then
        match val with
        | .nilIface => unsupported (.noEntry "extern/reflectlite: a nil value of one interface type handed on as a value of another")
        | _ => storeVar dst a val
      else storeVar dst a (.iface src val)
    else panicString ("reflectlite.Set: value of type " ++ (← Rtype.spelt src) ++ " is not assignable to type " ++ (← Rtype.spelt dst))
    pure (.tuple #[])) := rfl

/-! ### At a target of type *api.Errno -/
theorem vTarE (t : Addr) (w : World) : (ReflectliteValue.unpack (.iface 122 (.pointer (some t)))).run Tryz.prog w = .ok (.agg #[.pointer (some ⟨2, 122, none⟩), .pointer (some ⟨w.heap.size, 0, none⟩), .int .u64 150]) (w.alloc (.cells #[.pointer (some t)] 122)) := by kernel_rfl
theorem tTarE (a : Addr) (w : World) : (ReflectliteValue.methodAny (ReflectliteValue.valueError "reflectlite.Value.Type" 0) (fun t _ _ _ => ReflectliteType.toType t) #[.agg #[.pointer (some ⟨2, 122, none⟩), .pointer (some a), .int .u64 150]]).run Tryz.prog w = .ok (.iface 216 (.agg #[.pointer (some ⟨2, 122, none⟩)])) w := by kernel_rfl
theorem kTarE (w : World) : ((ReflectliteType.abiMethod fun t => (fun a : Nat => Value.int IntKind.u8 (a : Int)) <$> Rtype.kind t) #[.pointer (some ⟨2, 122, none⟩)]).run Tryz.prog w = .ok (.int .u8 22) w := by kernel_rfl
theorem kElE (w : World) : ((ReflectliteType.abiMethod fun t => (fun a : Nat => Value.int IntKind.u8 (a : Int)) <$> Rtype.kind t) #[.pointer (some ⟨2, 30, none⟩)]).run Tryz.prog w = .ok (.int .u8 2) w := by kernel_rfl
theorem pTarE (a : Addr) (w : World) : (ReflectliteValue.parts (.agg #[.pointer (some ⟨2, 122, none⟩), .pointer (some a), .int .u64 150])).run Tryz.prog w = .ok (some (122, a, 150)) w := by kernel_rfl
theorem isNilTarE (a p : Addr) (W : World) (ha : W.cell? a = some (.pointer (some p))) :
    (ReflectliteValue.method (ReflectliteValue.valueError "reflectlite.Value.IsNil" 0) ReflectliteValue.isNil #[.agg #[.pointer (some ⟨2, 122, none⟩), .pointer (some a), .int .u64 150]]).run Tryz.prog W = .ok (.bool false) W := by
  rw [rlmV]
  simp only [Sem.run_bind, pTarE, Result.andThen]
  simp [ReflectliteValue.isNil, loadVar, isAgg, underlying, Tryz.underlying122, ha, Result.andThen]
theorem eTarE (w : World) : (ReflectliteType.method ReflectliteType.elem #[.agg #[.pointer (some ⟨2, 122, none⟩)]]).run Tryz.prog w = .ok (.iface 216 (.agg #[.pointer (some ⟨2, 30, none⟩)])) w := by kernel_rfl
theorem iElE (w : World) : (ReflectliteType.relation "Implements" ReflectliteType.implements_ #[.agg #[.pointer (some ⟨2, 30, none⟩)], .iface 216 (.agg #[.pointer (some ⟨2, 51, none⟩)])]).run Tryz.prog w = .ok (.bool true) w := by kernel_rfl
theorem oElE (v : Value) (w : World) : (ReflectliteType.typeOf #[.iface 30 v]).run Tryz.prog w = .ok (.iface 216 (.agg #[.pointer (some ⟨2, 30, none⟩)])) w := by kernel_rfl
theorem aElE (w : World) : (ReflectliteType.relation "AssignableTo" ReflectliteType.assignableTo #[.agg #[.pointer (some ⟨2, 30, none⟩)], .iface 216 (.agg #[.pointer (some ⟨2, 30, none⟩)])]).run Tryz.prog w = .ok (.bool true) w := by kernel_rfl
theorem vElE (k : Int) (w : World) : (ReflectliteValue.unpack (.iface 30 (.int .i64 k))).run Tryz.prog w = .ok (.agg #[.pointer (some ⟨2, 30, none⟩), .pointer (some ⟨w.heap.size, 0, none⟩), .int .u64 130]) (w.alloc (.cells #[.int .i64 k] 30)) := by kernel_rfl
theorem elemOfE (w : World) : (Rtype.elem? 122).run Tryz.prog w = .ok (some 30) w := by kernel_rfl
theorem mkElE (p : Addr) (w : World) : (ReflectliteValue.mk 30 p ReflectliteValue.flagAddr).run Tryz.prog w = .ok (.agg #[.pointer (some ⟨2, 30, none⟩), .pointer (some p), .int .u64 386]) w := by kernel_rfl
theorem elemVE (a p : Addr) (W : World) (ha : W.cell? a = some (.pointer (some p))) :
    (ReflectliteValue.method (ReflectliteValue.valueError "reflectlite.Value.Elem" 0) ReflectliteValue.elem #[.agg #[.pointer (some ⟨2, 122, none⟩), .pointer (some a), .int .u64 150]]).run Tryz.prog W = .ok (.agg #[.pointer (some ⟨2, 30, none⟩), .pointer (some p), .int .u64 386]) W := by
  rw [rlmV]
  simp only [Sem.run_bind, pTarE, Result.andThen]
  simp [ReflectliteValue.elem, loadVar, isAgg, underlying, Tryz.underlying122, ha, Result.andThen, elemOfE, mkElE]
theorem pElAE (a : Addr) (w : World) : (ReflectliteValue.parts (.agg #[.pointer (some ⟨2, 30, none⟩), .pointer (some a), .int .u64 386])).run Tryz.prog w = .ok (some (30, a, 386)) w := by kernel_rfl
theorem pElE (a : Addr) (w : World) : (ReflectliteValue.parts (.agg #[.pointer (some ⟨2, 30, none⟩), .pointer (some a), .int .u64 130])).run Tryz.prog w = .ok (some (30, a, 130)) w := by kernel_rfl
theorem dElE (w : World) : (Rtype.directlyAssignable 30 30).run Tryz.prog w = .ok true w := by kernel_rfl
theorem setElE (ta b : Addr) (k : Int) (old : Value) (W : World) (hb : W.cell? b = some (.int .i64 k)) (ht : W.cell? ta = some old) (hf : W.frozen? ta = false) :
    (ReflectliteValue.set #[.agg #[.pointer (some ⟨2, 30, none⟩), .pointer (some ta), .int .u64 386], .agg #[.pointer (some ⟨2, 30, none⟩), .pointer (some b), .int .u64 130]]).run Tryz.prog W = .ok (.tuple #[]) (W.setCell ta (.int .i64 k)) := by
  rw [rlsV]
  simp only [Sem.run_bind, pElAE, pElE, Result.andThen]
  simp [ReflectliteValue.flagAddr, loadVar, isAgg, underlying, Tryz.underlying30, hb, Result.andThen, dElE, storeVar, Value.cells, storeCells, Addr.add]
  rw [run_store Tryz.prog W ta _ _ (by rfl)]
  simp [ht, hf]

/-! ### At a target of type **api.Faul -/
theorem vTarF (t : Addr) (w : World) : (ReflectliteValue.unpack (.iface 121 (.pointer (some t)))).run Tryz.prog w = .ok (.agg #[.pointer (some ⟨2, 121, none⟩), .pointer (some ⟨w.heap.size, 0, none⟩), .int .u64 150]) (w.alloc (.cells #[.pointer (some t)] 121)) := by kernel_rfl
theorem tTarF (a : Addr) (w : World) : (ReflectliteValue.methodAny (ReflectliteValue.valueError "reflectlite.Value.Type" 0) (fun t _ _ _ => ReflectliteType.toType t) #[.agg #[.pointer (some ⟨2, 121, none⟩), .pointer (some a), .int .u64 150]]).run Tryz.prog w = .ok (.iface 216 (.agg #[.pointer (some ⟨2, 121, none⟩)])) w := by kernel_rfl
theorem kTarF (w : World) : ((ReflectliteType.abiMethod fun t => (fun a : Nat => Value.int IntKind.u8 (a : Int)) <$> Rtype.kind t) #[.pointer (some ⟨2, 121, none⟩)]).run Tryz.prog w = .ok (.int .u8 22) w := by kernel_rfl
theorem kElF (w : World) : ((ReflectliteType.abiMethod fun t => (fun a : Nat => Value.int IntKind.u8 (a : Int)) <$> Rtype.kind t) #[.pointer (some ⟨2, 119, none⟩)]).run Tryz.prog w = .ok (.int .u8 22) w := by kernel_rfl
theorem pTarF (a : Addr) (w : World) : (ReflectliteValue.parts (.agg #[.pointer (some ⟨2, 121, none⟩), .pointer (some a), .int .u64 150])).run Tryz.prog w = .ok (some (121, a, 150)) w := by kernel_rfl
theorem isNilTarF (a p : Addr) (W : World) (ha : W.cell? a = some (.pointer (some p))) :
    (ReflectliteValue.method (ReflectliteValue.valueError "reflectlite.Value.IsNil" 0) ReflectliteValue.isNil #[.agg #[.pointer (some ⟨2, 121, none⟩), .pointer (some a), .int .u64 150]]).run Tryz.prog W = .ok (.bool false) W := by
  rw [rlmV]
  simp only [Sem.run_bind, pTarF, Result.andThen]
  simp [ReflectliteValue.isNil, loadVar, isAgg, underlying, Tryz.underlying121, ha, Result.andThen]
theorem eTarF (w : World) : (ReflectliteType.method ReflectliteType.elem #[.agg #[.pointer (some ⟨2, 121, none⟩)]]).run Tryz.prog w = .ok (.iface 216 (.agg #[.pointer (some ⟨2, 119, none⟩)])) w := by kernel_rfl
theorem iElF (w : World) : (ReflectliteType.relation "Implements" ReflectliteType.implements_ #[.agg #[.pointer (some ⟨2, 119, none⟩)], .iface 216 (.agg #[.pointer (some ⟨2, 51, none⟩)])]).run Tryz.prog w = .ok (.bool true) w := by kernel_rfl
theorem oElF (v : Value) (w : World) : (ReflectliteType.typeOf #[.iface 119 v]).run Tryz.prog w = .ok (.iface 216 (.agg #[.pointer (some ⟨2, 119, none⟩)])) w := by kernel_rfl
theorem aElF (w : World) : (ReflectliteType.relation "AssignableTo" ReflectliteType.assignableTo #[.agg #[.pointer (some ⟨2, 119, none⟩)], .iface 216 (.agg #[.pointer (some ⟨2, 119, none⟩)])]).run Tryz.prog w = .ok (.bool true) w := by kernel_rfl
theorem vElF (e : Addr) (w : World) : (ReflectliteValue.unpack (.iface 119 (.pointer (some e)))).run Tryz.prog w = .ok (.agg #[.pointer (some ⟨2, 119, none⟩), .pointer (some ⟨w.heap.size, 0, none⟩), .int .u64 150]) (w.alloc (.cells #[.pointer (some e)] 119)) := by kernel_rfl
theorem elemOfF (w : World) : (Rtype.elem? 121).run Tryz.prog w = .ok (some 119) w := by kernel_rfl
theorem mkElF (p : Addr) (w : World) : (ReflectliteValue.mk 119 p ReflectliteValue.flagAddr).run Tryz.prog w = .ok (.agg #[.pointer (some ⟨2, 119, none⟩), .pointer (some p), .int .u64 406]) w := by kernel_rfl
theorem elemVF (a p : Addr) (W : World) (ha : W.cell? a = some (.pointer (some p))) :
    (ReflectliteValue.method (ReflectliteValue.valueError "reflectlite.Value.Elem" 0) ReflectliteValue.elem #[.agg #[.pointer (some ⟨2, 121, none⟩), .pointer (some a), .int .u64 150]]).run Tryz.prog W = .ok (.agg #[.pointer (some ⟨2, 119, none⟩), .pointer (some p), .int .u64 406]) W := by
  rw [rlmV]
  simp only [Sem.run_bind, pTarF, Result.andThen]
  simp [ReflectliteValue.elem, loadVar, isAgg, underlying, Tryz.underlying121, ha, Result.andThen, elemOfF, mkElF]
theorem pElAF (a : Addr) (w : World) : (ReflectliteValue.parts (.agg #[.pointer (some ⟨2, 119, none⟩), .pointer (some a), .int .u64 406])).run Tryz.prog w = .ok (some (119, a, 406)) w := by kernel_rfl
theorem pElF (a : Addr) (w : World) : (ReflectliteValue.parts (.agg #[.pointer (some ⟨2, 119, none⟩), .pointer (some a), .int .u64 150])).run Tryz.prog w = .ok (some (119, a, 150)) w := by kernel_rfl
theorem dElF (w : World) : (Rtype.directlyAssignable 119 119).run Tryz.prog w = .ok true w := by kernel_rfl
theorem setElF (ta b : Addr) (e : Addr) (old : Value) (W : World) (hb : W.cell? b = some (.pointer (some e))) (ht : W.cell? ta = some old) (hf : W.frozen? ta = false) :
    (ReflectliteValue.set #[.agg #[.pointer (some ⟨2, 119, none⟩), .pointer (some ta), .int .u64 406], .agg #[.pointer (some ⟨2, 119, none⟩), .pointer (some b), .int .u64 150]]).run Tryz.prog W = .ok (.tuple #[]) (W.setCell ta (.pointer (some e))) := by
  rw [rlsV]
  simp only [Sem.run_bind, pElAF, pElF, Result.andThen]
  simp [ReflectliteValue.flagAddr, loadVar, isAgg, underlying, Tryz.underlying119, hb, Result.andThen, dElF, storeVar, Value.cells, storeCells, Addr.add]
  rw [run_store Tryz.prog W ta _ _ (by rfl)]
  simp [ht, hf]

/-! ### A fault that is asked for its code: it isn't one; it has no As; it has Unwrap -/
theorem oFault (v : Value) (w : World) : (ReflectliteType.typeOf #[.iface 119 v]).run Tryz.prog w = .ok (.iface 216 (.agg #[.pointer (some ⟨2, 119, none⟩)])) w := by kernel_rfl
theorem aFault (w : World) : (ReflectliteType.relation "AssignableTo" ReflectliteType.assignableTo #[.agg #[.pointer (some ⟨2, 119, none⟩)], .iface 216 (.agg #[.pointer (some ⟨2, 30, none⟩)])]).run Tryz.prog w = .ok (.bool false) w := by kernel_rfl
theorem noAsF (v : Value) (xT : TypeId) (w : World) : (Instr.typeAssert (.iface 119 v) xT 221 true).run Tryz.prog w = .ok (.tuple #[.nilIface, .bool false]) w := run_typeAssert_lacksB Tryz.underlying221 (by kernel_rfl) (by kernel_rfl) v xT w
theorem unwrapF (v : Value) (xT : TypeId) (w : World) : (Instr.typeAssert (.iface 119 v) xT 224 true).run Tryz.prog w = .ok (.tuple #[.iface 119 v, .bool true]) w := run_typeAssert_hasB Tryz.underlying224 (by kernel_rfl) v xT w

set_option maxHeartbeats 4000000 in
theorem as_errno (k : Int) (t : Addr) (old : Value) (w : World) (hg : EtC w) (ht0 : w.cell? t = some old) (hf0 : w.frozen? t = false) :
    Calls Tryz.prog 70 #[.iface 30 (.int .i64 k), .iface 122 (.pointer (some t))] w fun ev w' => ev = .returned (.bool true) ∧ w' = ((((w.alloc (.cells #[.pointer (some t)] 122)).alloc (.cells #[.pointer (some ⟨2, 122, none⟩), .pointer (some ⟨w.heap.size, 0, none⟩), .int .u64 150] 171)).alloc (.cells #[.pointer (some ⟨2, 122, none⟩), .pointer (some ⟨w.heap.size, 0, none⟩), .int .u64 150] 171)).alloc (.cells #[.int .i64 k] 30)).setCell t (.int .i64 k) := by
  have x1 := @run_callFunc_extern Tryz.prog 103 _ (fun args => ReflectliteValue.unpack (args.getD 0 (.tuple #[]))) Tryz.func103 (by kernel_rfl) (by kernel_rfl) (by kernel_rfl) (by kernel_rfl)
  have x2 := @run_callFunc_extern Tryz.prog 104 _ (ReflectliteValue.methodAny (ReflectliteValue.valueError "reflectlite.Value.Type" 0) (fun t _ _ _ => ReflectliteType.toType t)) Tryz.func104 (by kernel_rfl) (by kernel_rfl) (by kernel_rfl) (by kernel_rfl)
  have x3 := @run_callFunc_extern Tryz.prog 105 _ (ReflectliteValue.method (ReflectliteValue.valueError "reflectlite.Value.IsNil" 0) ReflectliteValue.isNil) Tryz.func105 (by kernel_rfl) (by kernel_rfl) (by kernel_rfl) (by kernel_rfl)
  have x4 := @run_callFunc_extern Tryz.prog 209 _ (ReflectliteType.abiMethod fun t => do pure (.int .u8 (← Rtype.kind t))) Tryz.func209 (by kernel_rfl) (by kernel_rfl) (by kernel_rfl) (by kernel_rfl)
  have x5 := @run_callFunc_extern Tryz.prog 255 _ (ReflectliteType.method ReflectliteType.elem) Tryz.func255 (by kernel_rfl) (by kernel_rfl) (by kernel_rfl) (by kernel_rfl)
  have x6 := @run_callFunc_extern Tryz.prog 256 _ (ReflectliteType.relation "Implements" ReflectliteType.implements_) Tryz.func256 (by kernel_rfl) (by kernel_rfl) (by kernel_rfl) (by kernel_rfl)
  have x7 := @run_callFunc_extern Tryz.prog 143 _ ReflectliteType.typeOf Tryz.func143 (by kernel_rfl) (by kernel_rfl) (by kernel_rfl) (by kernel_rfl)
  have x8 := @run_callFunc_extern Tryz.prog 253 _ (ReflectliteType.relation "AssignableTo" ReflectliteType.assignableTo) Tryz.func253 (by kernel_rfl) (by kernel_rfl) (by kernel_rfl) (by kernel_rfl)
  have x9 := @run_callFunc_extern Tryz.prog 144 _ (ReflectliteValue.method (ReflectliteValue.valueError "reflectlite.Value.Elem" 0) ReflectliteValue.elem) Tryz.func144 (by kernel_rfl) (by kernel_rfl) (by kernel_rfl) (by kernel_rfl)
  have x0 := @run_callFunc_extern Tryz.prog 145 _ ReflectliteValue.set Tryz.func145 (by kernel_rfl) (by kernel_rfl) (by kernel_rfl) (by kernel_rfl)
  have y0 := vTarE
  have y1 := tTarE
  have y2 := kTarE
  have y3 := kElE
  have y4 := eTarE
  have y5 := iElE
  have y6 := oElE
  have y7 := aElE
  have y8 := vElE
  have n8 := isNilTarE ⟨w.heap.size, 0, none⟩ t ((w.alloc (.cells #[.pointer (some t)] 122)).alloc (.cells #[.pointer (some ⟨2, 122, none⟩), .pointer (some ⟨w.heap.size, 0, none⟩), .int .u64 150] 171)) (by simp)
  have hlt : 0 < w.heap.size := etC_lt hg
  have hg2 : ((w.alloc (.cells #[.pointer (some t)] 122)).alloc (.cells #[.pointer (some ⟨2, 122, none⟩), .pointer (some ⟨w.heap.size, 0, none⟩), .int .u64 150] 171)).cell? ⟨0, 0, none⟩ = some (.iface 216 (.agg #[.pointer (some ⟨2, 51, none⟩)])) := by
    rw [World.cell?_alloc_lt _ _ ⟨0, 0, none⟩ (by simp <;> omega), World.cell?_alloc_lt _ _ ⟨0, 0, none⟩ hlt]
    exact hg
  have htl : t.block < w.heap.size := by
    rcases Nat.lt_or_ge t.block w.heap.size with h | h
    · exact h
    · simp [World.cell?, Array.getElem?_eq_none h] at ht0
  have el := elemVE ⟨w.heap.size, 0, none⟩ t (((w.alloc (.cells #[.pointer (some t)] 122)).alloc (.cells #[.pointer (some ⟨2, 122, none⟩), .pointer (some ⟨w.heap.size, 0, none⟩), .int .u64 150] 171)).alloc (.cells #[.pointer (some ⟨2, 122, none⟩), .pointer (some ⟨w.heap.size, 0, none⟩), .int .u64 150] 171)) (by rw [World.cell?_alloc_lt _ _ ⟨w.heap.size, 0, none⟩ (by simp; omega)]; simp)
  have st := setElE t ⟨w.heap.size + 1 + 1 + 1, 0, none⟩ k old ((((w.alloc (.cells #[.pointer (some t)] 122)).alloc (.cells #[.pointer (some ⟨2, 122, none⟩), .pointer (some ⟨w.heap.size, 0, none⟩), .int .u64 150] 171)).alloc (.cells #[.pointer (some ⟨2, 122, none⟩), .pointer (some ⟨w.heap.size, 0, none⟩), .int .u64 150] 171)).alloc (.cells #[.int .i64 k] 30))
    (by rw [World.cell?_alloc_at _ _ _ _ (by simp)]; rfl)
    (by rw [World.cell?_alloc_lt _ _ t (by simp; omega), World.cell?_alloc_lt _ _ t (by simp; omega), World.cell?_alloc_lt _ _ t (by simp; omega), World.cell?_alloc_lt _ _ t htl]; exact ht0)
    (by rw [World.frozen?_alloc_old _ _ t (by simp; omega), World.frozen?_alloc_old _ _ t (by simp; omega), World.frozen?_alloc_old _ _ t (by simp; omega), World.frozen?_alloc_old _ _ t (Nat.ne_of_lt htl)]; exact hf0)
  clear hg
  go_enter Tryz.func70, Tryz.ntmps70
  go_wp2
  refine wp_loop_rounds 1 ?_
  rw [rounds_succ]
  go_wp2
  go_ret
  exact ⟨rfl, rfl⟩

set_option maxHeartbeats 4000000 in
theorem as_fault (e : Addr) (t : Addr) (old : Value) (w : World) (hg : EtC w) (ht0 : w.cell? t = some old) (hf0 : w.frozen? t = false) :
    Calls Tryz.prog 70 #[.iface 119 (.pointer (some e)), .iface 121 (.pointer (some t))] w fun ev w' => ev = .returned (.bool true) ∧ w' = ((((w.alloc (.cells #[.pointer (some t)] 121)).alloc (.cells #[.pointer (some ⟨2, 121, none⟩), .pointer (some ⟨w.heap.size, 0, none⟩), .int .u64 150] 171)).alloc (.cells #[.pointer (some ⟨2, 121, none⟩), .pointer (some ⟨w.heap.size, 0, none⟩), .int .u64 150] 171)).alloc (.cells #[.pointer (some e)] 119)).setCell t (.pointer (some e)) := by
  have x1 := @run_callFunc_extern Tryz.prog 103 _ (fun args => ReflectliteValue.unpack (args.getD 0 (.tuple #[]))) Tryz.func103 (by kernel_rfl) (by kernel_rfl) (by kernel_rfl) (by kernel_rfl)
  have x2 := @run_callFunc_extern Tryz.prog 104 _ (ReflectliteValue.methodAny (ReflectliteValue.valueError "reflectlite.Value.Type" 0) (fun t _ _ _ => ReflectliteType.toType t)) Tryz.func104 (by kernel_rfl) (by kernel_rfl) (by kernel_rfl) (by kernel_rfl)
  have x3 := @run_callFunc_extern Tryz.prog 105 _ (ReflectliteValue.method (ReflectliteValue.valueError "reflectlite.Value.IsNil" 0) ReflectliteValue.isNil) Tryz.func105 (by kernel_rfl) (by kernel_rfl) (by kernel_rfl) (by kernel_rfl)
  have x4 := @run_callFunc_extern Tryz.prog 209 _ (ReflectliteType.abiMethod fun t => do pure (.int .u8 (← Rtype.kind t))) Tryz.func209 (by kernel_rfl) (by kernel_rfl) (by kernel_rfl) (by kernel_rfl)
  have x5 := @run_callFunc_extern Tryz.prog 255 _ (ReflectliteType.method ReflectliteType.elem) Tryz.func255 (by kernel_rfl) (by kernel_rfl) (by kernel_rfl) (by kernel_rfl)
  have x6 := @run_callFunc_extern Tryz.prog 256 _ (ReflectliteType.relation "Implements" ReflectliteType.implements_) Tryz.func256 (by kernel_rfl) (by kernel_rfl) (by kernel_rfl) (by kernel_rfl)
  have x7 := @run_callFunc_extern Tryz.prog 143 _ ReflectliteType.typeOf Tryz.func143 (by kernel_rfl) (by kernel_rfl) (by kernel_rfl) (by kernel_rfl)
  have x8 := @run_callFunc_extern Tryz.prog 253 _ (ReflectliteType.relation "AssignableTo" ReflectliteType.assignableTo) Tryz.func253 (by kernel_rfl) (by kernel_rfl) (by kernel_rfl) (by kernel_rfl)
  have x9 := @run_callFunc_extern Tryz.prog 144 _ (ReflectliteValue.method (ReflectliteValue.valueError "reflectlite.Value.Elem" 0) ReflectliteValue.elem) Tryz.func144 (by kernel_rfl) (by kernel_rfl) (by kernel_rfl) (by kernel_rfl)
  have x0 := @run_callFunc_extern Tryz.prog 145 _ ReflectliteValue.set Tryz.func145 (by kernel_rfl) (by kernel_rfl) (by kernel_rfl) (by kernel_rfl)
  have y0 := vTarF
  have y1 := tTarF
  have y2 := kTarF
  have y3 := kElF
  have y4 := eTarF
  have y5 := iElF
  have y6 := oElF
  have y7 := aElF
  have y8 := vElF
  have n8 := isNilTarF ⟨w.heap.size, 0, none⟩ t ((w.alloc (.cells #[.pointer (some t)] 121)).alloc (.cells #[.pointer (some ⟨2, 121, none⟩), .pointer (some ⟨w.heap.size, 0, none⟩), .int .u64 150] 171)) (by simp)
  have hlt : 0 < w.heap.size := etC_lt hg
  have hg2 : ((w.alloc (.cells #[.pointer (some t)] 121)).alloc (.cells #[.pointer (some ⟨2, 121, none⟩), .pointer (some ⟨w.heap.size, 0, none⟩), .int .u64 150] 171)).cell? ⟨0, 0, none⟩ = some (.iface 216 (.agg #[.pointer (some ⟨2, 51, none⟩)])) := by
    rw [World.cell?_alloc_lt _ _ ⟨0, 0, none⟩ (by simp <;> omega), World.cell?_alloc_lt _ _ ⟨0, 0, none⟩ hlt]
    exact hg
  have htl : t.block < w.heap.size := by
    rcases Nat.lt_or_ge t.block w.heap.size with h | h
    · exact h
    · simp [World.cell?, Array.getElem?_eq_none h] at ht0
  have el := elemVF ⟨w.heap.size, 0, none⟩ t (((w.alloc (.cells #[.pointer (some t)] 121)).alloc (.cells #[.pointer (some ⟨2, 121, none⟩), .pointer (some ⟨w.heap.size, 0, none⟩), .int .u64 150] 171)).alloc (.cells #[.pointer (some ⟨2, 121, none⟩), .pointer (some ⟨w.heap.size, 0, none⟩), .int .u64 150] 171)) (by rw [World.cell?_alloc_lt _ _ ⟨w.heap.size, 0, none⟩ (by simp; omega)]; simp)
  have st := setElF t ⟨w.heap.size + 1 + 1 + 1, 0, none⟩ e old ((((w.alloc (.cells #[.pointer (some t)] 121)).alloc (.cells #[.pointer (some ⟨2, 121, none⟩), .pointer (some ⟨w.heap.size, 0, none⟩), .int .u64 150] 171)).alloc (.cells #[.pointer (some ⟨2, 121, none⟩), .pointer (some ⟨w.heap.size, 0, none⟩), .int .u64 150] 171)).alloc (.cells #[.pointer (some e)] 119))
    (by rw [World.cell?_alloc_at _ _ _ _ (by simp)]; rfl)
    (by rw [World.cell?_alloc_lt _ _ t (by simp; omega), World.cell?_alloc_lt _ _ t (by simp; omega), World.cell?_alloc_lt _ _ t (by simp; omega), World.cell?_alloc_lt _ _ t htl]; exact ht0)
    (by rw [World.frozen?_alloc_old _ _ t (by simp; omega), World.frozen?_alloc_old _ _ t (by simp; omega), World.frozen?_alloc_old _ _ t (by simp; omega), World.frozen?_alloc_old _ _ t (Nat.ne_of_lt htl)]; exact hf0)
  clear hg
  go_enter Tryz.func70, Tryz.ntmps70
  go_wp2
  refine wp_loop_rounds 1 ?_
  rw [rounds_succ]
  go_wp2
  go_ret
  exact ⟨rfl, rfl⟩

set_option maxHeartbeats 4000000 in
theorem as_through (k : Int) (pb : Nat) (t : Addr) (old : Value) (w : World) (h1 : w.cell? ⟨pb, 1, none⟩ = some (.iface 30 (.int .i64 k))) (hg : EtC w) (ht0 : w.cell? t = some old) (hf0 : w.frozen? t = false) :
    Calls Tryz.prog 70 #[.iface 119 (.pointer (some ⟨pb, 0, none⟩)), .iface 122 (.pointer (some t))] w fun ev w' => ev = .returned (.bool true) ∧ w' = ((((w.alloc (.cells #[.pointer (some t)] 122)).alloc (.cells #[.pointer (some ⟨2, 122, none⟩), .pointer (some ⟨w.heap.size, 0, none⟩), .int .u64 150] 171)).alloc (.cells #[.pointer (some ⟨2, 122, none⟩), .pointer (some ⟨w.heap.size, 0, none⟩), .int .u64 150] 171)).alloc (.cells #[.int .i64 k] 30)).setCell t (.int .i64 k) := by
  have x1 := @run_callFunc_extern Tryz.prog 103 _ (fun args => ReflectliteValue.unpack (args.getD 0 (.tuple #[]))) Tryz.func103 (by kernel_rfl) (by kernel_rfl) (by kernel_rfl) (by kernel_rfl)
  have x2 := @run_callFunc_extern Tryz.prog 104 _ (ReflectliteValue.methodAny (ReflectliteValue.valueError "reflectlite.Value.Type" 0) (fun t _ _ _ => ReflectliteType.toType t)) Tryz.func104 (by kernel_rfl) (by kernel_rfl) (by kernel_rfl) (by kernel_rfl)
  have x3 := @run_callFunc_extern Tryz.prog 105 _ (ReflectliteValue.method (ReflectliteValue.valueError "reflectlite.Value.IsNil" 0) ReflectliteValue.isNil) Tryz.func105 (by kernel_rfl) (by kernel_rfl) (by kernel_rfl) (by kernel_rfl)
  have x4 := @run_callFunc_extern Tryz.prog 209 _ (ReflectliteType.abiMethod fun t => do pure (.int .u8 (← Rtype.kind t))) Tryz.func209 (by kernel_rfl) (by kernel_rfl) (by kernel_rfl) (by kernel_rfl)
  have x5 := @run_callFunc_extern Tryz.prog 255 _ (ReflectliteType.method ReflectliteType.elem) Tryz.func255 (by kernel_rfl) (by kernel_rfl) (by kernel_rfl) (by kernel_rfl)
  have x6 := @run_callFunc_extern Tryz.prog 256 _ (ReflectliteType.relation "Implements" ReflectliteType.implements_) Tryz.func256 (by kernel_rfl) (by kernel_rfl) (by kernel_rfl) (by kernel_rfl)
  have x7 := @run_callFunc_extern Tryz.prog 143 _ ReflectliteType.typeOf Tryz.func143 (by kernel_rfl) (by kernel_rfl) (by kernel_rfl) (by kernel_rfl)
  have x8 := @run_callFunc_extern Tryz.prog 253 _ (ReflectliteType.relation "AssignableTo" ReflectliteType.assignableTo) Tryz.func253 (by kernel_rfl) (by kernel_rfl) (by kernel_rfl) (by kernel_rfl)
  have x9 := @run_callFunc_extern Tryz.prog 144 _ (ReflectliteValue.method (ReflectliteValue.valueError "reflectlite.Value.Elem" 0) ReflectliteValue.elem) Tryz.func144 (by kernel_rfl) (by kernel_rfl) (by kernel_rfl) (by kernel_rfl)
  have x0 := @run_callFunc_extern Tryz.prog 145 _ ReflectliteValue.set Tryz.func145 (by kernel_rfl) (by kernel_rfl) (by kernel_rfl) (by kernel_rfl)
  have y0 := vTarE
  have y1 := tTarE
  have y2 := kTarE
  have y3 := kElE
  have y4 := eTarE
  have y5 := iElE
  have y6 := oElE
  have y7 := aElE
  have y8 := vElE
  have y9 := oFault
  have y10 := aFault
  have y11 := noAsF
  have y12 := unwrapF
  have n8 := isNilTarE ⟨w.heap.size, 0, none⟩ t ((w.alloc (.cells #[.pointer (some t)] 122)).alloc (.cells #[.pointer (some ⟨2, 122, none⟩), .pointer (some ⟨w.heap.size, 0, none⟩), .int .u64 150] 171)) (by simp)
  have hlt : 0 < w.heap.size := etC_lt hg
  have hg2 : ((w.alloc (.cells #[.pointer (some t)] 122)).alloc (.cells #[.pointer (some ⟨2, 122, none⟩), .pointer (some ⟨w.heap.size, 0, none⟩), .int .u64 150] 171)).cell? ⟨0, 0, none⟩ = some (.iface 216 (.agg #[.pointer (some ⟨2, 51, none⟩)])) := by
    rw [World.cell?_alloc_lt _ _ ⟨0, 0, none⟩ (by simp <;> omega), World.cell?_alloc_lt _ _ ⟨0, 0, none⟩ hlt]
    exact hg
  have htl : t.block < w.heap.size := by
    rcases Nat.lt_or_ge t.block w.heap.size with h | h
    · exact h
    · simp [World.cell?, Array.getElem?_eq_none h] at ht0
  have el := elemVE ⟨w.heap.size, 0, none⟩ t (((w.alloc (.cells #[.pointer (some t)] 122)).alloc (.cells #[.pointer (some ⟨2, 122, none⟩), .pointer (some ⟨w.heap.size, 0, none⟩), .int .u64 150] 171)).alloc (.cells #[.pointer (some ⟨2, 122, none⟩), .pointer (some ⟨w.heap.size, 0, none⟩), .int .u64 150] 171)) (by rw [World.cell?_alloc_lt _ _ ⟨w.heap.size, 0, none⟩ (by simp; omega)]; simp)
  have st := setElE t ⟨w.heap.size + 1 + 1 + 1, 0, none⟩ k old ((((w.alloc (.cells #[.pointer (some t)] 122)).alloc (.cells #[.pointer (some ⟨2, 122, none⟩), .pointer (some ⟨w.heap.size, 0, none⟩), .int .u64 150] 171)).alloc (.cells #[.pointer (some ⟨2, 122, none⟩), .pointer (some ⟨w.heap.size, 0, none⟩), .int .u64 150] 171)).alloc (.cells #[.int .i64 k] 30))
    (by rw [World.cell?_alloc_at _ _ _ _ (by simp)]; rfl)
    (by rw [World.cell?_alloc_lt _ _ t (by simp; omega), World.cell?_alloc_lt _ _ t (by simp; omega), World.cell?_alloc_lt _ _ t (by simp; omega), World.cell?_alloc_lt _ _ t htl]; exact ht0)
    (by rw [World.frozen?_alloc_old _ _ t (by simp; omega), World.frozen?_alloc_old _ _ t (by simp; omega), World.frozen?_alloc_old _ _ t (by simp; omega), World.frozen?_alloc_old _ _ t (Nat.ne_of_lt htl)]; exact hf0)
  clear hg
  have hpl : pb < w.heap.size := World.block_lt_of_cell? w ⟨pb, 1, none⟩ h1
  have h3 : (((w.alloc (.cells #[.pointer (some t)] 122)).alloc (.cells #[.pointer (some ⟨2, 122, none⟩), .pointer (some ⟨w.heap.size, 0, none⟩), .int .u64 150] 171)).alloc (.cells #[.pointer (some ⟨2, 122, none⟩), .pointer (some ⟨w.heap.size, 0, none⟩), .int .u64 150] 171)).cell? ⟨pb, 1, none⟩ = some (.iface 30 (.int .i64 k)) := by
    rw [World.cell?_alloc_lt _ _ ⟨pb, 1, none⟩ (by simp; omega), World.cell?_alloc_lt _ _ ⟨pb, 1, none⟩ (by simp; omega), World.cell?_alloc_lt _ _ ⟨pb, 1, none⟩ hpl]
    exact h1
  clear h1
  go_enter Tryz.func70, Tryz.ntmps70
  go_wp2
  refine wp_loop_rounds 2 ?_
  rw [rounds_succ]
  go_wp2
  rw [rounds_succ]
  go_wp2
  go_ret
  exact ⟨rfl, rfl⟩
end Go.Proofs.YtknjpmoimjhddaaGreatDoor
/-
  What a call of errors.As leaves of its target's block, and of the others. No conditions.
-/
namespace Go.Proofs.YtknjpmoimjhddaaGreatDoor
set_option maxRecDepth 100000
open Go.RowKit

theorem one_row {W : World} {g : Nat} {t : TypeId} {v : Value} (h : Row W g t [v]) : W.cell? ⟨g, 0, none⟩ = some v := h.cell rfl
theorem asR {w w' : World} {g : Nat} {ty a b c d : TypeId} {v z : Value} {x y u r : Array Value} (hR : Row w g ty [z]) (hw : w' = ((((w.alloc (.cells x a)).alloc (.cells y b)).alloc (.cells u c)).alloc (.cells r d)).setCell ⟨g, 0, none⟩ v) : Row w' g ty [v] ∧ Only g w w' := by
  subst hw
  refine ⟨((((hR.alloc _).alloc _).alloc _).alloc _).setCell 0 v, Only.setCell (Only.later ?_ (Nat.le_of_lt hR.lt)) 0 v⟩
  exact below_new (below_new (below_new (below_new (Below.refl _ _) _) _) _) _
theorem below_only {B g : Nat} {w w' w'' : World} (hb : Below B w w') (ho : Only g w' w'') (hg : B ≤ g) : Below B w w'' := hb.trans (ho.below.mono hg)
end Go.Proofs.YtknjpmoimjhddaaGreatDoor
/-
  Faults in their blocks, and what the statements' Told makes of an error. Condition: errors.errorType holds the handle of the type error (EtC).
-/
namespace Go.Proofs.YtknjpmoimjhddaaGreatDoor
set_option maxRecDepth 100000
open Go.RowKit
set_option linter.unusedSimpArgs false
set_option linter.unusedVariables false

/-! ### Faults -/
/-- A fault in its block. -/
def Flt (W : World) (g : Nat) (s k : Int) : Prop := Row W g 125 [.int .i64 s, .iface 30 (.int .i64 k)]
theorem Flt.later {w w' : World} {g : Nat} {s k : Int} (h : Flt w g s k) (hb : Below w.heap.size w w') : Flt w' g s k := Row.later h hb
/-- What a call says of an error: the value, and the block of a fault. -/
abbrev errV (g : Nat) : Value := .iface 119 (.pointer (some ⟨g, 0, none⟩))
theorem size_flt : (Tryz.prog.info? 125).map (·.size) = some 2 := by kernel_rfl

/-! ### Told -/
theorem told_nil (w : World) : Calls Tryz.prog 23 #[.nilIface] w fun e w' => e = .returned (.tuple #[.int .i64 0, .int .i64 0]) ∧ Below w.heap.size w w' := by
  go_enter Tryz.func23, Tryz.ntmps23
  go_wp2
  go_ret2
  exact ⟨rfl, Below.refl _ _⟩
set_option maxHeartbeats 4000000 in
theorem told_flt (g : Nat) (s k : Int) (w : World) (hg : EtC w) (hF : Flt w g s k) :
    Calls Tryz.prog 23 #[errV g] w fun e w' => e = .returned (.tuple #[.int .i64 s, .int .i64 k]) ∧ Below w.heap.size w w' := by
  unfold errV
  go_enter Tryz.func23, Tryz.ntmps23
  go_upto_region 5 with fail
  have hgl := etC_lt hg
  have hgF := Row.lt hF
  have hR1 : Row (w.alloc (.cells #[.pointer none] 119)) w.heap.size 119 [.pointer none] := Row.new w _ _ _ rfl
  have hR2 : Row ((w.alloc (.cells #[.pointer none] 119)).alloc (.cells #[.int .i64 0] 30)) (w.heap.size + 1) 30 [.int .i64 0] := Row.new_at _ _ (by simp) _ _ _ rfl
  replace hR1 := hR1.alloc (.cells #[.int .i64 0] 30)
  have hb := below_new (below_new (Below.refl w.heap.size w) (.cells #[.pointer none] 119)) (.cells #[.int .i64 0] 30)
  generalize (w.alloc (.cells #[.pointer none] 119)).alloc (.cells #[.int .i64 0] 30) = W1 at hR1 hR2 hb ⊢
  have hg1 := hg.later hb
  have hF1 := hF.later hb
  go_wp2_with fail
  refine (as_fault ⟨g, 0, none⟩ ⟨w.heap.size, 0, none⟩ (.pointer none) W1 hg1 (one_row hR1) (hR1.frozen 0)).mono ?_
  rintro e w2 ⟨rfl, hw2⟩
  obtain ⟨hR3, ho⟩ := asR hR1 hw2
  have hg2 := hg1.only ho (by omega)
  have hF2 : Flt w2 g s k := (ho.other g (by omega) (Row.lt hF1)).trans hF1
  have hR4 : Row w2 (w.heap.size + 1) 30 [.int .i64 0] := (ho.other _ (by omega) hR2.lt).trans hR2
  replace hb := below_only hb ho (Nat.le_refl _)
  clear hw2 hR1 hR2 hg1 hF1 ho
  have hf1 : w2.cell? ⟨g, 1, none⟩ = some (.iface 30 (.int .i64 k)) := Row.cell hF2 rfl
  go_wp2_with fail
  refine (as_through k g ⟨w.heap.size + 1, 0, none⟩ (.int .i64 0) w2 hf1 hg2 (one_row hR4) (hR4.frozen 0)).mono ?_
  rintro e w3 ⟨rfl, hw3⟩
  obtain ⟨hR5, ho⟩ := asR hR4 hw3
  have hF3 : Flt w3 g s k := (ho.other g (by omega) (Row.lt hF2)).trans hF2
  have hR6 : Row w3 w.heap.size 119 [.pointer (some ⟨g, 0, none⟩)] := (ho.other _ (by omega) hR3.lt).trans hR3
  replace hb := below_only hb ho (by omega)
  clear hw3 hR3 hR4 hg2 hF2 hf1 ho
  have c0 := one_row hR6
  have c1 := one_row hR5
  have c2 : w3.cell? ⟨g, 0, none⟩ = some (.int .i64 s) := Row.cell hF3 rfl
  go_wp2_with fail
  go_upto_region 7 with fail
  go_region
  all_goals go_wp2_with fail
  all_goals go_ret2
  all_goals exact ⟨rfl, hb.drew⟩

/-- What a call says of an error: nil, or a fault in its block. -/
def ErrV (W : World) (v : Value) (s k : Int) : Prop := (k = 0 ∧ v = .nilIface) ∨ (k ≠ 0 ∧ ∃ g, v = errV g ∧ Flt W g s k)
theorem ErrV.later {w w' : World} {v : Value} {s k : Int} (h : ErrV w v s k) (hb : Below w.heap.size w w') : ErrV w' v s k := by
  rcases h with h | ⟨h, g, e, hF⟩
  · exact .inl h
  · exact .inr ⟨h, g, e, hF.later hb⟩
/-- What Told makes of any such error. -/
theorem told_err (v : Value) (s k : Int) (w : World) (hg : EtC w) (hE : ErrV w v s k) (h0 : Hid (k = 0 → s = 0)) :
    Calls Tryz.prog 23 #[v] w fun e w' => e = .returned (.tuple #[.int .i64 s, .int .i64 k]) ∧ Below w.heap.size w w' := by
  rcases hE with ⟨rfl, rfl⟩ | ⟨_, g, rfl, hF⟩
  · have hs := h0.out rfl
    subst hs
    exact told_nil w
  · exact told_flt g s k w hg hF
end Go.Proofs.YtknjpmoimjhddaaGreatDoor
/-
  SHA-256 as plain functions on words and bytes, and what the program's operations on words are in their terms (no program is named here). No conditions but those typed.
-/
namespace Go.Proofs.YtknjpmoimjhddaaGreatDoor
set_option maxRecDepth 100000
open Go.RowKit

/-! ### The operations on words, as the walk spells them (each behind a name of its own: 'simp' would take 'toNat' apart) -/
def xorW (x y : UInt32) : UInt32 := x ^^^ y
def andW (x y : UInt32) : UInt32 := x &&& y
def orW (x y : UInt32) : UInt32 := x ||| y
def addW (x y : UInt32) : UInt32 := x + y
def notW (x : UInt32) : UInt32 := ~~~x
theorem u32_xor_w (x y : UInt32) : bits .xor .u32 (x.toNat : Int) (y.toNat : Int) = ((xorW x y).toNat : Int) := by
  rw [u32_xor_nat _ _ (u32_lt x) (u32_lt y)]
  rfl
theorem u32_and_w (x y : UInt32) : bits .and .u32 (x.toNat : Int) (y.toNat : Int) = ((andW x y).toNat : Int) := by
  rw [u32_and_nat _ _ (u32_lt x) (u32_lt y)]
  rfl
theorem u32_or_w (x y : UInt32) : bits .or .u32 (x.toNat : Int) (y.toNat : Int) = ((orW x y).toNat : Int) := by
  rw [u32_or_nat _ _ (u32_lt x) (u32_lt y)]
  rfl
theorem addW_toNat (x y : UInt32) : (addW x y).toNat = (x.toNat + y.toNat) % 4294967296 := UInt32.toNat_add x y
theorem u32_add_w (x y : UInt32) : IntKind.u32.wrap ((x.toNat : Int) + (y.toNat : Int)) = ((addW x y).toNat : Int) := by
  rw [IntKind.wrap_u32', addW_toNat]
  omega
theorem u32_add_m (x y : UInt32) : ((x.toNat : Int) + (y.toNat : Int)) % 4294967296 = ((addW x y).toNat : Int) := by
  rw [addW_toNat]
  omega
theorem u32_not_w (x : UInt32) : 4294967295 - (x.toNat : Int) = ((notW x).toNat : Int) := by
  have hx := u32_lt x
  have : (notW x).toNat = 4294967295 - x.toNat := by
    show (~~~x.toBitVec).toNat = _
    rw [BitVec.toNat_not]
    rfl
  rw [this]
  omega
theorem u32_not_ww (x : UInt32) : IntKind.u32.wrap (4294967295 - (x.toNat : Int)) = ((notW x).toNat : Int) := by
  rw [← u32_not_w, IntKind.wrap_u32']
  have hx := u32_lt x
  omega

theorem u32_mod_w (x : UInt32) : (x.toNat : Int) % 4294967296 = (x.toNat : Int) := by
  have hx := u32_lt x
  omega
theorem u32_wrap_w (x : UInt32) : IntKind.u32.wrap (x.toNat : Int) = (x.toNat : Int) := by
  rw [IntKind.wrap_u32']
  exact u32_mod_w x

/-- A word moved down. -/
def dn (x : UInt32) (k : Nat) : UInt32 := UInt32.ofNat (x.toNat / 2 ^ k)
theorem dn_toNat (x : UInt32) (k : Nat) : (dn x k).toNat = x.toNat / 2 ^ k := by
  have hx := u32_lt x
  have h : x.toNat / 2 ^ k ≤ x.toNat := Nat.div_le_self _ _
  rw [dn, UInt32.toNat_ofNat']
  exact Nat.mod_eq_of_lt (by omega)
theorem dn_zero (x : UInt32) : dn x 0 = x := UInt32.toNat_inj.1 (by rw [dn_toNat]; simp)
theorem dn_succ (x : UInt32) (k : Nat) : (dn x (k + 1)).toNat = (dn x k).toNat / 2 := by
  rw [dn_toNat, dn_toNat, Nat.pow_succ, Nat.div_div_eq_div_mul]

/-! ### SHA-256 -/
def kL : List UInt32 := [1116352408, 1899447441, 3049323471, 3921009573, 961987163, 1508970993, 2453635748, 2870763221, 3624381080, 310598401, 607225278, 1426881987, 1925078388, 2162078206, 2614888103, 3248222580, 3835390401, 4022224774, 264347078, 604807628, 770255983, 1249150122, 1555081692, 1996064986, 2554220882, 2821834349, 2952996808, 3210313671, 3336571891, 3584528711, 113926993, 338241895, 666307205, 773529912, 1294757372, 1396182291, 1695183700, 1986661051, 2177026350, 2456956037, 2730485921, 2820302411, 3259730800, 3345764771, 3516065817, 3600352804, 4094571909, 275423344, 430227734, 506948616, 659060556, 883997877, 958139571, 1322822218, 1537002063, 1747873779, 1955562222, 2024104815, 2227730452, 2361852424, 2428436474, 2756734187, 3204031479, 3329325298]
def firstL : List UInt32 := [1779033703, 3144134277, 1013904242, 2773480762, 1359893119, 2600822924, 528734635, 1541459225]
def sig0 (x : UInt32) : UInt32 := xorW (xorW (rotR x 7) (rotR x 18)) (dn x 3)
def sig1 (x : UInt32) : UInt32 := xorW (xorW (rotR x 17) (rotR x 19)) (dn x 10)
def Sig0 (x : UInt32) : UInt32 := xorW (xorW (rotR x 2) (rotR x 13)) (rotR x 22)
def Sig1 (x : UInt32) : UInt32 := xorW (xorW (rotR x 6) (rotR x 11)) (rotR x 25)
def chW (e f g : UInt32) : UInt32 := orW (andW e f) (andW (notW e) g)
def majW (a b c : UInt32) : UInt32 := orW (orW (andW a b) (andW a c)) (andW b c)
/-- One word more behind those that are there. -/
def nextW (l : List UInt32) : UInt32 := addW (addW (addW (sig1 (l.getD (l.length - 2) 0)) (l.getD (l.length - 7) 0)) (sig0 (l.getD (l.length - 15) 0))) (l.getD (l.length - 16) 0)
def moreW : Nat → List UInt32 → List UInt32
  | 0, l => l
  | n + 1, l => moreW n l ++ [nextW (moreW n l)]
theorem moreW_length (n : Nat) (l : List UInt32) : (moreW n l).length = l.length + n := by
  induction n with
  | zero => rfl
  | succ n ih => rw [moreW, List.length_append, ih]; rfl

structure St where
  a : UInt32
  b : UInt32
  c : UInt32
  d : UInt32
  e : UInt32
  f : UInt32
  g : UInt32
  h : UInt32
def St.toL (s : St) : List UInt32 := [s.a, s.b, s.c, s.d, s.e, s.f, s.g, s.h]
def tW (s : St) (k w : UInt32) : UInt32 := addW (addW (addW (addW s.h (Sig1 s.e)) (chW s.e s.f s.g)) k) w
def uW (s : St) : UInt32 := addW (Sig0 s.a) (majW s.a s.b s.c)
def St.round (s : St) (k w : UInt32) : St := ⟨addW (tW s k w) (uW s), s.a, s.b, s.c, addW s.d (tW s k w), s.e, s.f, s.g⟩
/-- The table that stands in the place of the sixty-four constants (kL): in the program it is a package's variable; where no row lists it, whichever words it holds. -/
structure Tab where
  k : List UInt32
def kT [I : Inhabited Tab] : List UInt32 := I.default.k
def St.rounds [Inhabited Tab] (l : List UInt32) : Nat → St → St
  | 0, s => s
  | n + 1, s => (St.rounds l n s).round (kT.getD n 0) (l.getD n 0)
def St.plus (s t : St) : St := ⟨addW s.a t.a, addW s.b t.b, addW s.c t.c, addW s.d t.d, addW s.e t.e, addW s.f t.f, addW s.g t.g, addW s.h t.h⟩
/-- The state behind a block of 64 bytes. -/
def St.block [Inhabited Tab] (s : St) (b : List UInt8) : St := s.plus (St.rounds (moreW 48 (wordsL b)) 64 s)
/-- The state behind the whole blocks of some bytes. -/
def St.from [Inhabited Tab] (s : St) (b : List UInt8) : St := if 64 ≤ b.length then St.from (s.block (b.take 64)) (b.drop 64) else s
termination_by b.length
decreasing_by simp; omega
def fillL (b : List UInt8) (many : Nat) : List UInt8 := b ++ 128 :: List.replicate ((119 - b.length % 64) % 64) 0 ++ putL (8 * many % 18446744073709551616)
def startSt : St := ⟨1779033703, 3144134277, 1013904242, 2773480762, 1359893119, 2600822924, 528734635, 1541459225⟩
def sumL [Inhabited Tab] (b : List UInt8) : List UInt8 := bytesL (startSt.from (fillL b b.length)).toL

end Go.Proofs.YtknjpmoimjhddaaGreatDoor
/-
  The table of SHA-256's own constants, where nothing else is said. No conditions.
-/
namespace Go.Proofs.YtknjpmoimjhddaaGreatDoor
set_option maxRecDepth 100000
instance tabK : Inhabited Tab := ⟨⟨kL⟩⟩
theorem kT_kL : kT = kL := rfl
end Go.Proofs.YtknjpmoimjhddaaGreatDoor
/-
  What the reference's call Words answers, for any bytes (up to 2^47): the same as the program's.
-/
namespace Go.Proofs.YtknjpmoimjhddaaGreatDoor
set_option maxRecDepth 100000
open Go.RowKit
set_option linter.unusedSimpArgs false

theorem wordsL_take (L : List UInt8) (k : Nat) (h : 4 * k + 3 < L.length) :
    wordsL (L.take (4 * k + 4)) = wordsL (L.take (4 * k)) ++ [UInt32.ofNat (valN [L[4 * k], L[4 * k + 1], L[4 * k + 2], L[4 * k + 3]])] := by
  induction k generalizing L with
  | zero =>
    match L, h with
    | a :: b :: c :: d :: r, h => simp [wordsL]
    | [], h => simp at h
    | [_], h => simp at h
    | [_, _], h => simp at h
    | [_, _, _], h => simp at h
  | succ k ih =>
    match L, h with
    | a :: b :: c :: d :: r, h =>
      have h' : 4 * k + 3 < r.length := by simp at h; omega
      have := ih r h'
      have e1 : (a :: b :: c :: d :: r).take (4 * (k + 1) + 4) = a :: b :: c :: d :: r.take (4 * k + 4) := by
        rw [show 4 * (k + 1) + 4 = (4 * k + 4) + 1 + 1 + 1 + 1 by omega]; simp
      have e2 : (a :: b :: c :: d :: r).take (4 * (k + 1)) = a :: b :: c :: d :: r.take (4 * k) := by
        rw [show 4 * (k + 1) = (4 * k) + 1 + 1 + 1 + 1 by omega]; simp
      rw [e1, e2, wordsL, wordsL, this]
      simp [show 4 * (k + 1) = 4 * k + 4 by omega]
    | [], h => simp at h
    | [_], h => simp at h
    | [_, _], h => simp at h; omega
    | [_, _, _], h => simp at h; omega

theorem wordsL_end (L : List UInt8) (k : Nat) (h1 : 4 * k ≤ L.length) (h2 : L.length < 4 * k + 4) : wordsL L = wordsL (L.take (4 * k)) := by
  induction k generalizing L with
  | zero => rw [wordsL_short L (by omega)]; rfl
  | succ k ih =>
    match L, h1, h2 with
    | a :: b :: c :: d :: r, h1, h2 =>
      have e2 : (a :: b :: c :: d :: r).take (4 * (k + 1)) = a :: b :: c :: d :: r.take (4 * k) := by
        rw [show 4 * (k + 1) = (4 * k) + 1 + 1 + 1 + 1 by omega]; simp
      rw [e2, wordsL, wordsL, ← ih r (by simp at h1; omega) (by simp at h2; omega)]
    | [], h1, _ => simp at h1
    | [_], h1, _ => simp at h1; omega
    | [_, _], h1, _ => simp at h1; omega
    | [_, _, _], h1, _ => simp at h1; omega

def RefWordsRel (L : List UInt8) (w : World) (v i : Value) (wr : World) : Prop :=
  ∃ k : Nat, 4 * k ≤ L.length ∧ i = .int .i64 ((4 * k : Nat) : Int) ∧ wr.ownsRow w.heap.size 258 1 v k ((wordsL (L.take (4 * k))).map vW) ∧ Below w.heap.size w wr

theorem words_value (a b c d : Nat) (ha : a < 256) (hb : b < 256) (hc : c < 256) (hd : d < 256) :
    IntKind.u32.wrap (IntKind.u32.wrap (IntKind.u32.wrap (IntKind.u32.wrap (16777216 * IntKind.u32.wrap (a : Int)) + IntKind.u32.wrap (65536 * IntKind.u32.wrap (b : Int))) + IntKind.u32.wrap (256 * IntKind.u32.wrap (c : Int))) + IntKind.u32.wrap (d : Int)) =
      ((((a * 256 + b) * 256 + c) * 256 + d : Nat) : Int) := by
  simp only [IntKind.wrap_u32']
  omega
theorem refwords_round {L : List UInt8} {w wr wx w1 : World} {k V : Nat} {u v : Value} (hL : 4 * k + 4 ≤ L.length) (ho : wr.ownsRow w.heap.size 258 1 u k ((wordsL (L.take (4 * k))).map vW)) (hb : Below w.heap.size w wx) (hV : V < 4294967296)
    (HT : Hid (wordsL (L.take (4 * k + 4)) = wordsL (L.take (4 * k)) ++ [UInt32.ofNat V])) (ho' : w1.ownsRow w.heap.size 258 1 v (k + 1) ((wordsL (L.take (4 * k))).map vW ++ [.int .u32 (V : Int)])) (hg : wx.grownBy w1 u.ownBlock) :
    RefWordsRel L w v (.int .i64 (((4 * k : Nat) : Int) + 4)) w1 := by
  have e : Value.int .u32 (V : Int) = vW (UInt32.ofNat V) := by unfold vW; rw [UInt32.toNat_ofNat', Nat.mod_eq_of_lt hV]
  refine ⟨k + 1, by omega, ?_, ?_, hb.grown hg hb.size (fun g hk => (ho.lt g hk).1)⟩
  · congr 1
  · rw [show 4 * (k + 1) = 4 * k + 4 by omega, HT.out]
    rw [e] at ho'
    simpa using ho'


set_option maxHeartbeats 1000000 in
theorem refwords_own (L : List UInt8) (A : Option Addr) (cap : Nat) (w : World) (hr : Rd vB w A L) (hl : L.length ≤ 140737488351232) :
    Calls Tryz.prog 191 #[.slice A L.length cap] w (RetO 258 vW w (wordsL L)) := by
  obtain ⟨i0, hi, hz0, hz1, hz2⟩ := info_parts info_u32
  go_enter Tryz.func191, Tryz.ntmps191
  go_wp2_with fail
  go_loopw [3, 4] (fun v i wr => RefWordsRel L w v i wr) (fun _ i _ => L.length - (intOf i).toNat)
  case atStart => exact ⟨0, Nat.zero_le _, rfl, World.ownsRow_nil _ _ _ _, Below.refl _ _⟩
  case round =>
    obtain ⟨k, hk, rfl, hown1, hbel1⟩ := hrel
    by_cases hlt : 4 * k + 3 < L.length
    · obtain ⟨blk, o, rfl, hb, hcell⟩ := hr.at hlt
      have HT := Lib.hid (wordsL_take L k hlt)
      have hc0 : ∀ W, Below w.heap.size wr W → W.cell? ⟨blk, o + 4 * k, none⟩ = some (.int .u8 (L[4 * k].toNat : Int)) := fun W hW => by rw [(hbel1.trans hW).cell (p := ⟨blk, o + 4 * k, none⟩) hb]; exact hcell (4 * k) (by omega)
      have hc1 : ∀ W, Below w.heap.size wr W → W.cell? ⟨blk, o + (4 * k + 1), none⟩ = some (.int .u8 (L[4 * k + 1].toNat : Int)) := fun W hW => by rw [(hbel1.trans hW).cell (p := ⟨blk, o + (4 * k + 1), none⟩) hb]; exact hcell (4 * k + 1) (by omega)
      have hc2 : ∀ W, Below w.heap.size wr W → W.cell? ⟨blk, o + (4 * k + 2), none⟩ = some (.int .u8 (L[4 * k + 2].toNat : Int)) := fun W hW => by rw [(hbel1.trans hW).cell (p := ⟨blk, o + (4 * k + 2), none⟩) hb]; exact hcell (4 * k + 2) (by omega)
      have hc3 : ∀ W, Below w.heap.size wr W → W.cell? ⟨blk, o + (4 * k + 3), none⟩ = some (.int .u8 (L[4 * k + 3].toNat : Int)) := fun W hW => by rw [(hbel1.trans hW).cell (p := ⟨blk, o + (4 * k + 3), none⟩) hb]; exact hcell (4 * k + 3) (by omega)
      have ha : L[4 * k].toNat < 256 := L[4 * k].toNat_lt
      have hb' : L[4 * k + 1].toNat < 256 := L[4 * k + 1].toNat_lt
      have hc' : L[4 * k + 2].toNat < 256 := L[4 * k + 2].toNat_lt
      have hd : L[4 * k + 3].toNat < 256 := L[4 * k + 3].toNat_lt
      generalize L[4 * k] = a at HT hc0 ha
      generalize L[4 * k + 1] = b at HT hc1 hb'
      generalize L[4 * k + 2] = c at HT hc2 hc'
      generalize L[4 * k + 3] = d at HT hc3 hd
      obtain ⟨j, hj⟩ : ∃ j, j = 4 * k := ⟨_, rfl⟩
      have HJ := Lib.hid hj
      rw [← hj] at hc0 hc1 hc2 hc3 hlt ⊢
      clear hj hcell hr
      have i0' : (0 : Int) ≤ (j : Int) := by omega
      have i3 : (j : Int) + 3 < (L.length : Int) := by omega
      go_wp2_with fail
      have hBase : Below w.heap.size wr wr.drew := (Below.refl _ _).drew
      have j0 : (j : Int) < (L.length : Int) := by omega
      have j1 : IntKind.i64.wrap ((j : Int) + 1) = (j : Int) + 1 := by rw [IntKind.wrap_i64]; omega
      have j2 : IntKind.i64.wrap ((j : Int) + 2) = (j : Int) + 2 := by rw [IntKind.wrap_i64]; omega
      have j3 : IntKind.i64.wrap ((j : Int) + 3) = (j : Int) + 3 := by rw [IntKind.wrap_i64]; omega
      have k1 : (0 : Int) ≤ (j : Int) + 1 := by omega
      have k2 : (0 : Int) ≤ (j : Int) + 2 := by omega
      have k3 : (0 : Int) ≤ (j : Int) + 3 := by omega
      have l1 : (j : Int) + 1 < (L.length : Int) := by omega
      have l2 : (j : Int) + 2 < (L.length : Int) := by omega
      have t1 : ((j : Int) + 1).toNat = j + 1 := by omega
      have t2 : ((j : Int) + 2).toNat = j + 2 := by omega
      have t3 : ((j : Int) + 3).toNat = j + 3 := by omega
      refine wp_region_plan_at w.heap.size (.step 0 false (.step 1 false (.step 2 false (.step 3 false (.step 4 false (.step 5 false (.step 6 false (.step 7 false (.step 8 false (.step 9 false (.step 10 false (.step 11 false (.step 12 false (.step 13 false (.step 14 false (.step 15 false (.step 16 false (.step 17 false (.step 18 false (.step 19 false (.step 20 false (.step 21 false (.step 22 false (.step 23 false (.step 24 false (.step 25 false (.step 26 false (.step 27 false (.step 28 false (.step 29 false (.step 30 true (.step 31 true (.step 32 false (.nil)))))))))))))))))))))))))))))))))) (by kernel_rfl) (by kernel_rfl) (by rfl) (by kernel_rfl) ?_
      iterate 30 (refine plan_read rfl (by rfl) (v := ?_) ?_ ?_; rotate_left 1; (intro W hW; have hW0 := Below.trans hBase hW; (try dsimp only at hW); go_simp <;> with_reducible rfl); simp only [List.getElem_toArray, List.getElem_cons_zero, List.getElem_cons_succ, Act.put, List.setIfInBounds_toArray, List.set_cons_zero, List.set_cons_succ])
      have HV : Hid _ := words_value a.toNat b.toNat c.toNat d.toNat ha hb' hc' hd
      have hv : valN [a, b, c, d] = ((a.toNat * 256 + b.toNat) * 256 + c.toNat) * 256 + d.toNat := by simp [valN]
      have hV : ((a.toNat * 256 + b.toNat) * 256 + c.toNat) * 256 + d.toNat < 4294967296 := by omega
      rw [hv] at HT
      rw [HV.out]
      generalize ((a.toNat * 256 + b.toNat) * 256 + c.toNat) * 256 + d.toNat = V at HT hV
      clear hv HV hc0 hc1 hc2 hc3 ha hb' hc' hd j1 j2 j3 k1 k2 k3 l1 l2 t1 t2 t3
      (refine plan_make_at rfl (by rfl) (fun K hK => ?_); go_simp; refine hK.out _ _ (below_from_drew ((Below.refl _ wr).alloc hbel1.size _).drew) ?_; clear hK K)
      refine plan_make_at rfl (by rfl) (fun K hK => ?_)
      refine wp_append_own _ (.tmp 12) (.tmp 42) 249 (by rfl) w.heap.size 258 i0 (.int .u32 0) 1 4 Tryz.underlying249 hi hz0 hz1 hz2 rfl (by decide) _ _ _ (by rfl) (hown1.alloc _).drew ⟨wr.heap.size, 0, none⟩ 1 1 [.int .u32 (V : Int)] (by rfl) rfl (cell_one_new _ _ _) (by intro u hu; simp at hu; subst hu; rfl) (by unfold maxLen; omega) (by omega) (by have := hbel1.size; simp; omega) ?_
      intro v' w1 hown' hgrow' _
      simp only [List.getElem_toArray, List.getElem_cons_zero, List.getElem_cons_succ, Act.put, List.setIfInBounds_toArray, List.set_cons_zero, List.set_cons_succ]
      refine hK.out _ _ ((Below.refl _ _).grown hgrow' (by have := hbel1.size; simp; omega) (fun g hk => (hown1.lt g hk).1)) ?_
      clear hK K
      have hBase : Below w.heap.size w1 w1 := Below.refl _ _
      iterate 1 (refine plan_read rfl (by rfl) (v := ?_) ?_ ?_; rotate_left 1; (intro W hW; have hW0 := Below.trans hBase hW; (try dsimp only at hW); go_simp <;> with_reducible rfl); simp only [List.getElem_toArray, List.getElem_cons_zero, List.getElem_cons_succ, Act.put, List.setIfInBounds_toArray, List.set_cons_zero, List.set_cons_succ])
      refine plan_done ?_
      have HL : Hid (4 * k + 4 ≤ L.length) := by have := HJ.out; unfold Hid; omega
      have HR : Hid (RefWordsRel L w v' (.int .i64 ((j : Int) + 4)) w1) := by
        unfold Hid
        rw [HJ.out]
        exact refwords_round HL.out hown1 ((hbel1.alloc hbel1.size _).drew) hV HT hown' hgrow'
      clear hown' hgrow' hown1 hbel1 HT hBase
      go_wp2_with fail
      go_roundw
      case rel => exact HR.out
      case measure => simp [intOf]; omega
    · have HE : Hid (wordsL L = wordsL (L.take (4 * k))) := by
        exact wordsL_end L k hk (by omega)
      go_wp2_with fail
      go_ret
      rw [HE.out]
      have hn : (wordsL (L.take (4 * k))).length = k := by have := hown1.1; simpa using this
      refine ⟨_, rfl, ?_, hbel1⟩
      rw [hn]
      exact hown1
theorem refwords_any (L : List UInt8) (A : Option Addr) (cap : Nat) (w : World) (hr : Rd vB w A L) (hl : L.length ≤ 140737488351232) :
    Calls Tryz.prog 191 #[.slice A L.length cap] w (RetS vW w (wordsL L)) := (refwords_own L A cap w hr hl).mono fun _ _ h => h.ret

end Go.Proofs.YtknjpmoimjhddaaGreatDoor
/-
  What the reference's calls down, constant and First of layer 2 answer.
-/
namespace Go.Proofs.YtknjpmoimjhddaaGreatDoor
set_option maxRecDepth 100000
open Go.RowKit
set_option linter.unusedSimpArgs false

theorem down_any (x : UInt32) (n : Nat) (hn : n < 32) (w : World) :
    Calls Tryz.prog 193 #[.int .u32 (x.toNat : Int), .int .i64 (n : Int)] w fun e w' => e = .returned (.int .u32 ((dn x n).toNat : Int)) ∧ w = w' := by
  go_enter Tryz.func193, Tryz.ntmps193
  go_wp2
  go_loop [0, 5] (fun u i => ∃ k : Nat, k ≤ n ∧ i = .int .i64 k ∧ u = .int .u32 ((dn x k).toNat : Int)) (fun _ i => n - (intOf i).toNat)
  case atStart => exact ⟨0, Nat.zero_le _, rfl, by rw [dn_zero]⟩
  case round =>
    obtain ⟨k, hk, rfl, rfl⟩ := hrel
    by_cases hlt : k < n
    · have HS := Lib.hid (dn_succ x k)
      have hy := u32_lt (dn x k)
      generalize dn x k = y at HS hy
      go_wp2
      go_round
      case rel => exact ⟨k + 1, by omega, by go_num, by rw [HS.out]; go_num⟩
      case measure => simp [intOf]; omega
    · have hkc : k = n := by omega
      subst hkc
      go_wp2
      go_ret
      exact ⟨rfl, rfl⟩

theorem const_any (k : Nat) (hk : k < 64) (w : World) :
    Calls Tryz.prog 194 #[.int .i64 (k : Int)] w fun e w' => e = .returned (.int .u32 ((kL.getD k 0).toNat : Int)) ∧ Below w.heap.size w w' := by
  have hk' : (k : Int) < 64 := by omega
  have hk0 : (0 : Int) ≤ (k : Int) := by omega
  have hcell : (w.alloc (.cells #[Value.int IntKind.u32 1116352408, Value.int IntKind.u32 1899447441, Value.int IntKind.u32 3049323471, Value.int IntKind.u32 3921009573, Value.int IntKind.u32 961987163, Value.int IntKind.u32 1508970993, Value.int IntKind.u32 2453635748, Value.int IntKind.u32 2870763221, Value.int IntKind.u32 3624381080, Value.int IntKind.u32 310598401, Value.int IntKind.u32 607225278, Value.int IntKind.u32 1426881987, Value.int IntKind.u32 1925078388, Value.int IntKind.u32 2162078206, Value.int IntKind.u32 2614888103, Value.int IntKind.u32 3248222580, Value.int IntKind.u32 3835390401, Value.int IntKind.u32 4022224774, Value.int IntKind.u32 264347078, Value.int IntKind.u32 604807628, Value.int IntKind.u32 770255983, Value.int IntKind.u32 1249150122, Value.int IntKind.u32 1555081692, Value.int IntKind.u32 1996064986, Value.int IntKind.u32 2554220882, Value.int IntKind.u32 2821834349, Value.int IntKind.u32 2952996808, Value.int IntKind.u32 3210313671, Value.int IntKind.u32 3336571891, Value.int IntKind.u32 3584528711, Value.int IntKind.u32 113926993, Value.int IntKind.u32 338241895, Value.int IntKind.u32 666307205, Value.int IntKind.u32 773529912, Value.int IntKind.u32 1294757372, Value.int IntKind.u32 1396182291, Value.int IntKind.u32 1695183700, Value.int IntKind.u32 1986661051, Value.int IntKind.u32 2177026350, Value.int IntKind.u32 2456956037, Value.int IntKind.u32 2730485921, Value.int IntKind.u32 2820302411, Value.int IntKind.u32 3259730800, Value.int IntKind.u32 3345764771, Value.int IntKind.u32 3516065817, Value.int IntKind.u32 3600352804, Value.int IntKind.u32 4094571909, Value.int IntKind.u32 275423344, Value.int IntKind.u32 430227734, Value.int IntKind.u32 506948616, Value.int IntKind.u32 659060556, Value.int IntKind.u32 883997877, Value.int IntKind.u32 958139571, Value.int IntKind.u32 1322822218, Value.int IntKind.u32 1537002063, Value.int IntKind.u32 1747873779, Value.int IntKind.u32 1955562222, Value.int IntKind.u32 2024104815, Value.int IntKind.u32 2227730452, Value.int IntKind.u32 2361852424, Value.int IntKind.u32 2428436474, Value.int IntKind.u32 2756734187, Value.int IntKind.u32 3204031479, Value.int IntKind.u32 3329325298] 258)).cell? ⟨w.heap.size, k, none⟩ = some (.int .u32 ((kL.getD k 0).toNat : Int)) := by
    have h := Rd.new (f := vW) w kL #[Value.int IntKind.u32 1116352408, Value.int IntKind.u32 1899447441, Value.int IntKind.u32 3049323471, Value.int IntKind.u32 3921009573, Value.int IntKind.u32 961987163, Value.int IntKind.u32 1508970993, Value.int IntKind.u32 2453635748, Value.int IntKind.u32 2870763221, Value.int IntKind.u32 3624381080, Value.int IntKind.u32 310598401, Value.int IntKind.u32 607225278, Value.int IntKind.u32 1426881987, Value.int IntKind.u32 1925078388, Value.int IntKind.u32 2162078206, Value.int IntKind.u32 2614888103, Value.int IntKind.u32 3248222580, Value.int IntKind.u32 3835390401, Value.int IntKind.u32 4022224774, Value.int IntKind.u32 264347078, Value.int IntKind.u32 604807628, Value.int IntKind.u32 770255983, Value.int IntKind.u32 1249150122, Value.int IntKind.u32 1555081692, Value.int IntKind.u32 1996064986, Value.int IntKind.u32 2554220882, Value.int IntKind.u32 2821834349, Value.int IntKind.u32 2952996808, Value.int IntKind.u32 3210313671, Value.int IntKind.u32 3336571891, Value.int IntKind.u32 3584528711, Value.int IntKind.u32 113926993, Value.int IntKind.u32 338241895, Value.int IntKind.u32 666307205, Value.int IntKind.u32 773529912, Value.int IntKind.u32 1294757372, Value.int IntKind.u32 1396182291, Value.int IntKind.u32 1695183700, Value.int IntKind.u32 1986661051, Value.int IntKind.u32 2177026350, Value.int IntKind.u32 2456956037, Value.int IntKind.u32 2730485921, Value.int IntKind.u32 2820302411, Value.int IntKind.u32 3259730800, Value.int IntKind.u32 3345764771, Value.int IntKind.u32 3516065817, Value.int IntKind.u32 3600352804, Value.int IntKind.u32 4094571909, Value.int IntKind.u32 275423344, Value.int IntKind.u32 430227734, Value.int IntKind.u32 506948616, Value.int IntKind.u32 659060556, Value.int IntKind.u32 883997877, Value.int IntKind.u32 958139571, Value.int IntKind.u32 1322822218, Value.int IntKind.u32 1537002063, Value.int IntKind.u32 1747873779, Value.int IntKind.u32 1955562222, Value.int IntKind.u32 2024104815, Value.int IntKind.u32 2227730452, Value.int IntKind.u32 2361852424, Value.int IntKind.u32 2428436474, Value.int IntKind.u32 2756734187, Value.int IntKind.u32 3204031479, Value.int IntKind.u32 3329325298] 258 (by rfl)
    obtain ⟨b, o, e, hc⟩ := h (by simp [kL])
    injection e with e
    injection e with e1 e2 _
    subst e1 e2
    have h64 : kL.length = 64 := rfl
    have := hc k (by omega)
    rw [Nat.zero_add] at this
    rw [this]
    simp [vW, List.getD, h64, hk]
  go_enter Tryz.func194, Tryz.ntmps194
  go_wp2
  go_ret
  exact ⟨rfl, below_new (Below.refl _ _) _⟩

theorem first_any (w : World) : Calls Tryz.prog 177 #[] w (RetS vW w firstL) := by
  go_enter Tryz.func177, Tryz.ntmps177
  go_wp2
  go_ret
  exact ⟨_, 8, rfl, Nat.le_refl _, Rd.new _ _ _ _ (by rfl), below_new (Below.refl _ _) _⟩

end Go.Proofs.YtknjpmoimjhddaaGreatDoor
