/-
  What the program's readMemory of layer 20 answers (landed code). No conditions but those typed.
-/
import Derived.Test.YteppocjgodmpdaaGreatDoorQO8
import Derived.Maps.AppendAt
import Derived.Deep.QuietTactic
import Derived.BigQuiet
set_option linter.unusedSimpArgs false
set_option linter.unusedVariables false
set_option maxRecDepth 100000
namespace Go.Proofs.YteppocjgodmpdaaGreatDoor
open Go.RowKit
theorem results_cell_mid {fn : Func} {p u v : Tmp} {ty : TypeId} (h : fn.results = #[.tmp u, .cell p ty, .tmp v]) (tmps : Array Value) (P : Program) (w : World) :
    (results fn tmps).run P w = ((asAddr (tmps.getD p undef)).run P w).andThen fun a w₁ => ((loadVar ty a).run P w₁).andThen fun x w₂ => .ok (.tuple #[tmps.getD u undef, x, tmps.getD v undef]) w₂ := by
  simp only [results, h]
  simp [Sem.run_bind, Result.andThen]
theorem results_row_mid {P : Program} {fn : Func} {p u v : Tmp} {ty : TypeId} (h : fn.results = #[.tmp u, .cell p ty, .tmp v]) (tmps : Array Value) (w : World) (g : Nat) (t : TypeId) (l : List Value) (d : TypeDesc) (hp : tmps.getD p undef = .pointer (some ⟨g, 0, none⟩)) (hg : Row w g t l)
    (hu : P.underlying ty = some d) (hd : d.isRow = true) (hi : (P.info? ty).map (·.size) = some l.length) : (results fn tmps).run P w = .ok (.tuple #[tmps.getD u undef, .agg l.toArray, tmps.getD v undef]) w := by
  rw [results_cell_mid h, hp]
  simp only [asAddr, Sem.run_pure, Result.andThen_ok, hg.loadVar (P := P) ty d hu hd hi]
theorem usesK_fit : ∀ (q : Nat) (k : Int) (S : List UInt8), fitU (usesK q k S).1
  | 0, _, _ => fun x hx => by cases hx
  | q + 1, k, S => fun x hx => by
    rcases List.mem_cons.1 hx with rfl | hx
    · exact useK_fit k S
    · exact usesK_fit q _ _ x hx
theorem usesK_len : ∀ (q : Nat) (k : Int) (S : List UInt8), (usesK q k S).1.length = q
  | 0, _, _ => rfl
  | q + 1, k, S => by
    show ((usesK q _ _).1).length + 1 = q + 1
    rw [usesK_len q _ _]
theorem ownU_only {B g : Nat} {e : TypeId} {v : Value} {n : Nat} {xs : List Value} {w w' : World} (h : w.ownsRow B e 3 v n xs) (k : Only g w w') (hg : g < B) : w'.ownsRow B e 3 v n xs := ownsRowU_same h (fun b hb hl => k.other b (by omega) hl)
def RmI (q : Nat) (k5 : Int) (S5 : List UInt8) (c rm fl : Nat) (w : World) (g1 gm B : Nat) (i : Value) (wr : World) : Prop :=
  ∃ (j : Nat) (l : List Us) (u : Value) (kk : Int) (S : List UInt8), i = .int .i64 (j : Int) ∧ j ≤ q ∧ Hid (l.length = j) ∧ Hid (usesK q k5 S5 = (l ++ (usesK (q - j) kk S).1, (usesK (q - j) kk S).2)) ∧ Row wr w.heap.size 37 l0M ∧ Row wr gm 37 [.int .u64 (c : Int), .int .u64 0, .slice none 0 0, .slice none 0 0, .int .i64 (rm : Int), .int .u64 (fl : Int), u] ∧
    wr.ownsRow B 57 3 u j (cellsU l) ∧ RdRF g1 kk S wr ∧ Below w.heap.size w wr ∧ B ≤ wr.heap.size
theorem keep_row (g : Nat) (v : Value) (k e : Int) (w : World) (hR : Row w g 220 [v, .int .i64 k]) :
    Calls Tryz.prog 207 #[.pointer (some ⟨g, 0, none⟩), .int .i64 e] w fun e₁ w' => e₁ = .returned (.tuple #[]) ∧ Row w' g 220 [v, .int .i64 (keepK k e)] ∧ Only g w w' := by
  by_cases hk : k = 0
  · subst hk
    exact keep_ok g v e w hR
  · refine (keep_bad g v k e w hR hk).mono ?_
    rintro e₁ w' ⟨rfl, rfl⟩
    unfold keepK
    rw [if_neg hk]
    exact ⟨rfl, hR, Only.refl g w⟩
theorem finK_zero {R : Bool} {k : Int} : finK R k = 0 ↔ R = true ∧ k = 0 := by
  unfold finK keepK
  cases R with
  | true => simp
  | false =>
    by_cases h : k = 0
    · simp [h]
    · simp [h]
def memT (g : Nat) (v : Value) (W : World) : Prop := W.cell? ⟨g, 6, none⟩ = some v ∧ True
def RetRm (w : World) (b : List UInt8) (e : Ending) (w' : World) : Prop :=
  ∃ x m num er, e = .returned (.tuple #[.int .u64 ((num : Nat) : Int), aggM x m, .int .i64 er]) ∧ InM w' x m ∧ FreshM w.heap.size x ∧ num < 18446744073709551616 ∧ Hid (er = 0 → readMem b = some (num, m)) ∧ Hid (er ≠ 0 → readMem b = none) ∧ Below w.heap.size w w'
def memR (g g1 : Nat) (a b c d e f h k : Value) (W : World) : Prop := W.cell? ⟨g1, 1, none⟩ = some k ∧ (W.cell? ⟨g, 0, none⟩ = some a ∧ (W.cell? ⟨g, 1, none⟩ = some b ∧ (W.cell? ⟨g, 2, none⟩ = some c ∧ (W.cell? ⟨g, 3, none⟩ = some d ∧ (W.cell? ⟨g, 4, none⟩ = some e ∧ (W.cell? ⟨g, 5, none⟩ = some f ∧ W.cell? ⟨g, 6, none⟩ = some h))))))
theorem memR_of {g g1 : Nat} {t t1 : TypeId} {v a b c d e f h k : Value} {W : World} (hX : Row W g t [a, b, c, d, e, f, h]) (hG : Row W g1 t1 [v, k]) : memR g g1 a b c d e f h k W := ⟨hG.cell rfl, hX.cell rfl, hX.cell rfl, hX.cell rfl, hX.cell rfl, hX.cell rfl, hX.cell rfl, hX.cell rfl⟩
set_option maxHeartbeats 16000000 in
theorem readmem_any (b : List UInt8) (n : Nat) (A : Option Addr) (c0 : Nat) (w : World) (HN : Hid (b.length = n)) (hr : Rd vB w A b) (hc : n ≤ c0) (hn : n ≤ 1000000) :
    Calls Tryz.prog 149 #[.slice A n c0] w (RetRm w b) := by
  obtain ⟨i0, hi, hz0, hz1, hz2⟩ := info_parts info_use
  obtain ⟨k0, S0, H0⟩ : ∃ k S, markK 77 b = (k, S) := ⟨_, _, rfl⟩
  obtain ⟨num, k1, S1, H1⟩ : ∃ x k S, num8K k0 S0 = (x, k, S) := ⟨_, _, _, rfl⟩
  obtain ⟨c, k2, S2, H2⟩ : ∃ x k S, num8K k1 S1 = (x, k, S) := ⟨_, _, _, rfl⟩
  obtain ⟨rm, k3, S3, H3⟩ : ∃ x k S, oneK k2 S2 = (x, k, S) := ⟨_, _, _, rfl⟩
  obtain ⟨fl, k4, S4, H4⟩ : ∃ x k S, num8K k3 S3 = (x, k, S) := ⟨_, _, _, rfl⟩
  obtain ⟨q, k5, S5, H5⟩ : ∃ x k S, oneK k4 S4 = (x, k, S) := ⟨_, _, _, rfl⟩
  obtain ⟨l6, k6, S6, H6⟩ : ∃ x k S, usesK q k5 S5 = (x, k, S) := ⟨_, _, _, rfl⟩
  have hnum : num < 18446744073709551616 := by have := num8_lt k0 S0; rw [H1] at this; exact this
  have hclk : c < 18446744073709551616 := by have := num8_lt k1 S1; rw [H2] at this; exact this
  have hflr : fl < 18446744073709551616 := by have := num8_lt k3 S3; rw [H4] at this; exact this
  have hrm : rm < 256 := by have := oneK_lt k2 S2; rw [H3] at this; exact this
  have hq : q < 256 := by have := oneK_lt k4 S4; rw [H5] at this; exact this
  have HFU : Hid (fitU l6) := by have := usesK_fit q k5 S5; rw [H6] at this; exact this
  have HLU : Hid (l6.length = q) := by have := usesK_len q k5 S5; rw [H6] at this; exact this
  have HST : Hid (∀ {k7 : Int} {x : Bn}, BunK k6 S6 k7 x → readMem b = if k7 = 0 then (if rightM ⟨c, x, ((rm : Int), fl, l6)⟩ = true then some (num, ⟨c, x, ((rm : Int), fl, l6)⟩) else none) else none) := fun h7 => steps_mem H0 H1 H2 H3 H4 H5 H6 h7
  replace H0 := Lib.hid H0
  replace H1 := Lib.hid H1
  replace H2 := Lib.hid H2
  replace H3 := Lib.hid H3
  replace H4 := Lib.hid H4
  replace H5 := Lib.hid H5
  replace H6 := Lib.hid H6
  have hA := hr.off
  have hR0 : Row (((w.alloc (.cells l0M.toArray 37)).alloc (.cells #[.slice A n c0, .int .i64 0] 220)).alloc (.cells l0M.toArray 37)) w.heap.size 37 l0M := ((Row.new w _ _ _ rfl).alloc _).alloc _
  have hR1 : Row (((w.alloc (.cells l0M.toArray 37)).alloc (.cells #[.slice A n c0, .int .i64 0] 220)).alloc (.cells l0M.toArray 37)) (w.heap.size + 1) 220 [.slice A n c0, .int .i64 0] := (Row.new_at _ _ (by simp) _ _ _ rfl).alloc _
  have hR2 : Row (((w.alloc (.cells l0M.toArray 37)).alloc (.cells #[.slice A n c0, .int .i64 0] 220)).alloc (.cells l0M.toArray 37)) (w.heap.size + 1 + 1) 37 l0M := Row.new_at _ _ (by simp) _ _ _ rfl
  have hB := below_new (below_new (below_new (Below.refl _ w) (.cells l0M.toArray 37)) (.cells #[.slice A n c0, .int .i64 0] 220)) (.cells l0M.toArray 37)
  go_enter Tryz.func149, Tryz.ntmps149
  go_upto_region 3 with fail
  generalize ((w.alloc (.cells l0M.toArray 37)).alloc (.cells #[.slice A n c0, .int .i64 0] 220)).alloc (.cells l0M.toArray 37) = W0 at hR0 hR1 hR2 hB ⊢
  have hS : RdS (w.heap.size + 1) b n 0 W0 := ⟨A, c0, hR1, HN, hc, hr.keep hB, fun h0 a ha => by have := hA h0 a ha; omega⟩
  clear hr hA hR1
  obtain ⟨g0, hg0⟩ : ∃ g, g = w.heap.size := ⟨_, rfl⟩
  obtain ⟨g1, hg1⟩ : ∃ g, g = w.heap.size + 1 := ⟨_, rfl⟩
  obtain ⟨gm, hgm⟩ : ∃ g, g = w.heap.size + 1 + 1 := ⟨_, rfl⟩
  rw [← hg1] at hS
  rw [← hgm] at hR2
  rw [← hgm, ← hg1]
  have HG1 := Lib.hid hg1
  have HGM := Lib.hid hgm
  have l01 : w.heap.size < g1 := by omega
  have l1m : g1 < gm := by omega
  clear hg1 hgm hg0 g0
  go_wp2_with fail
  refine (mark_any 77 77 rfl (by decide) g1 b n W0 hS hn).mono ?_
  rw [H0.out]
  rintro e V0 ⟨rfl, hT, hO⟩
  dsimp only at hT
  replace hR0 := hR0.only hO (by omega)
  replace hR2 := hR2.only hO (by omega)
  replace hB := hB.trans (hO.below.mono (by omega))
  clear hO hS
  go_wp2_with fail
  refine (number8_any g1 k0 S0 V0 hT).mono ?_
  rw [H1.out]
  rintro e V1 ⟨rfl, hT1, hO⟩
  dsimp only at hT1 ⊢
  replace hR0 := hR0.only hO (by omega)
  replace hR2 := hR2.only hO (by omega)
  replace hB := hB.trans (hO.below.mono (by omega))
  clear hO hT
  go_wp2_with fail
  refine (number8_any g1 k1 S1 V1 hT1).mono ?_
  rw [H2.out]
  rintro e V2 ⟨rfl, hV2, hO⟩
  dsimp only at hV2 ⊢
  replace hR0 := hR0.only hO (by omega)
  replace hR2 := hR2.only hO (by omega)
  replace hB := hB.trans (hO.below.mono (by omega))
  clear hO hT1
  have f0 := hR2.frozen 0
  have c0 : V2.cell? ⟨gm, 0, none⟩ = some (.int .u64 0) := hR2.cell rfl
  have hT := hV2.below ((Below.refl _ V2).setCell (p := ⟨gm, 0, none⟩) (show g1 + 1 ≤ gm by omega) (.int .u64 (c : Int)))
  have hR2' : Row (V2.setCell ⟨gm, 0, none⟩ (.int .u64 (c : Int))) gm 37 [.int .u64 (c : Int), .int .u64 0, .slice none 0 0, .slice none 0 0, .int .i64 0, .int .u64 0, .slice none 0 0] := hR2.setCell 0 _
  have hR0' := hR0.setCell_other (p := ⟨gm, 0, none⟩) (by show w.heap.size ≠ gm; omega) (.int .u64 (c : Int))
  have hB' := hB.setCell (p := ⟨gm, 0, none⟩) (by show w.heap.size ≤ gm; omega) (.int .u64 (c : Int))
  go_upto_region 6 with fail
  clear hV2 hR2 hR0 hB f0 c0
  generalize V2.setCell ⟨gm, 0, none⟩ (.int .u64 (c : Int)) = U0 at hT hR2' hR0' hB' ⊢
  have hR2 := hR2'
  have hR0 := hR0'
  have hB := hB'
  clear hR2' hR0' hB'
  go_wp2_with fail
  refine (one_any g1 k2 S2 U0 hT).mono ?_
  rw [H3.out]
  rintro e V3 ⟨rfl, hV3, hO⟩
  dsimp only at hV3 ⊢
  replace hR0 := hR0.only hO (by omega)
  replace hR2 := hR2.only hO (by omega)
  replace hB := hB.trans (hO.below.mono (by omega))
  clear hO hT
  have f4 := hR2.frozen 4
  have c4 : V3.cell? ⟨gm, 4, none⟩ = some (.int .i64 0) := hR2.cell rfl
  have hT := hV3.below ((Below.refl _ V3).setCell (p := ⟨gm, 4, none⟩) (show g1 + 1 ≤ gm by omega) (.int .i64 (rm : Int)))
  have hR2' : Row (V3.setCell ⟨gm, 4, none⟩ (.int .i64 (rm : Int))) gm 37 [.int .u64 (c : Int), .int .u64 0, .slice none 0 0, .slice none 0 0, .int .i64 (rm : Int), .int .u64 0, .slice none 0 0] := hR2.setCell 4 _
  have hR0' := hR0.setCell_other (p := ⟨gm, 4, none⟩) (by show w.heap.size ≠ gm; omega) (.int .i64 (rm : Int))
  have hB' := hB.setCell (p := ⟨gm, 4, none⟩) (by show w.heap.size ≤ gm; omega) (.int .i64 (rm : Int))
  go_upto_region 7 with fail
  clear hV3 hR2 hR0 hB f4 c4
  generalize V3.setCell ⟨gm, 4, none⟩ (.int .i64 (rm : Int)) = U4 at hT hR2' hR0' hB' ⊢
  have hR2 := hR2'
  have hR0 := hR0'
  have hB := hB'
  clear hR2' hR0' hB'
  go_wp2_with fail
  refine (number8_any g1 k3 S3 U4 hT).mono ?_
  rw [H4.out]
  rintro e V4 ⟨rfl, hV4, hO⟩
  dsimp only at hV4 ⊢
  replace hR0 := hR0.only hO (by omega)
  replace hR2 := hR2.only hO (by omega)
  replace hB := hB.trans (hO.below.mono (by omega))
  clear hO hT
  have f5 := hR2.frozen 5
  have c5 : V4.cell? ⟨gm, 5, none⟩ = some (.int .u64 0) := hR2.cell rfl
  have hT := hV4.below ((Below.refl _ V4).setCell (p := ⟨gm, 5, none⟩) (show g1 + 1 ≤ gm by omega) (.int .u64 (fl : Int)))
  have hR2' : Row (V4.setCell ⟨gm, 5, none⟩ (.int .u64 (fl : Int))) gm 37 [.int .u64 (c : Int), .int .u64 0, .slice none 0 0, .slice none 0 0, .int .i64 (rm : Int), .int .u64 (fl : Int), .slice none 0 0] := hR2.setCell 5 _
  have hR0' := hR0.setCell_other (p := ⟨gm, 5, none⟩) (by show w.heap.size ≠ gm; omega) (.int .u64 (fl : Int))
  have hB' := hB.setCell (p := ⟨gm, 5, none⟩) (by show w.heap.size ≤ gm; omega) (.int .u64 (fl : Int))
  go_upto_region 8 with fail
  clear hV4 hR2 hR0 hB f5 c5
  generalize V4.setCell ⟨gm, 5, none⟩ (.int .u64 (fl : Int)) = U5 at hT hR2' hR0' hB' ⊢
  have hR2 := hR2'
  have hR0 := hR0'
  have hB := hB'
  clear hR2' hR0' hB'
  go_wp2_with fail
  refine (one_any g1 k4 S4 U5 hT).mono ?_
  rw [H5.out]
  rintro e V5 ⟨rfl, hV5, hO⟩
  dsimp only at hV5 ⊢
  replace hR0 := hR0.only hO (by omega)
  replace hR2 := hR2.only hO (by omega)
  replace hB := hB.trans (hO.below.mono (by omega))
  clear hO hT
  obtain ⟨B, hBB⟩ : ∃ B, B = V5.heap.size := ⟨_, rfl⟩
  have hgl2 := hR2.lt
  have hBle : B ≤ V5.heap.size := by omega
  have hgB : gm < B := by omega
  clear hBB hgl2
  go_upto_region 9 with fail
  go_loopw [30] (fun i wr => RmI q k5 S5 c rm fl w g1 gm B i wr) (fun i _ => q - (intOf i).toNat)
  case atStart => exact ⟨0, [], .slice none 0 0, k5, S5, rfl, Nat.zero_le _, Lib.hid rfl, Lib.hid rfl, hR0, hR2, World.ownsRow_nil _ _ _ _, hV5, hB, hBle⟩
  case round =>
    clear hR0 hR2 hB hV5 hBle
    obtain ⟨j, l, u, kk, S, rfl, hj, HL, HU, hR0, hR2, hown, hT, hB, hsz⟩ := hrel
    by_cases hlt : j < q
    · have HMORE := Lib.hid (usesK_more hlt HU.out)
      have hi1 : (j : Int) < (q : Int) := by omega
      obtain ⟨A6, c6, hu, hc6⟩ : ∃ A6 c6, u = .slice A6 j c6 ∧ j ≤ c6 := by
        have h1 : wr.ownsRow B 57 3 u l.length (cellsU l) := by rw [HL.out]; exact hown
        obtain ⟨A6, c6, h2, h3, _⟩ := own_sliceU h1
        rw [HL.out] at h2 h3
        exact ⟨A6, c6, h2, h3⟩
      subst hu
      have HENT := Lib.hid (fun W (hT : RdRF g1 kk S W) => readuse_any g1 kk S W hT)
      obtain ⟨⟨x1, x2, x3⟩, kX, SX, hX⟩ : ∃ x k T, useK kk S = (x, k, T) := ⟨_, _, _, rfl⟩
      rw [hX] at HENT HMORE
      dsimp only at HMORE HENT
      clear hX HU
      go_upto_region 10 with fail
      have hS : memT gm (.slice A6 j c6) wr.drew := ⟨hR2.cell rfl, trivial⟩
      refine wp_region_last2 (memT gm (.slice A6 j c6)) (.step 0 false (.step 1 false (.step 2 false (.step 3 false (.step 4 true (.step 5 true (.step 6 true (.step 7 false (.step 8 false (.nil)))))))))) hS (by rfl) (by kernel_rfl) (by kernel_rfl) (by decide) (by kernel_rfl) (by kernel_rfl) (by kernel_rfl) (by kernel_rfl) ?_
      simp only [initO, List.dropLast]
      have hownD : wr.drew.ownsRow B 57 3 (.slice A6 j c6) j (cellsU l) := hown
      have hRD : Row wr.drew w.heap.size 37 l0M := hR0
      have hXD : Row wr.drew gm 37 [.int .u64 (c : Int), .int .u64 0, .slice none 0 0, .slice none 0 0, .int .i64 (rm : Int), .int .u64 (fl : Int), .slice A6 j c6] := hR2
      have hTD : RdRF g1 kk S wr.drew := hT.below (Below.refl _ _).drew
      have hBD : Below w.heap.size w wr.drew := hB.drew
      have hszD : B ≤ wr.drew.heap.size := hsz
      clear hR0 hR2 hown hT hB hsz
      iterate 4 (refine plan_read rfl (by rfl) (v := ?_) ?_ ?_; rotate_left 1; (rintro W ⟨hW0, hW1⟩; go_simp <;> with_reducible rfl); simp only [pA, pB, pC, Act.put, pD, pE, pF])
      generalize wr.drew = wd at hS hownD hRD hXD hTD hBD hszD ⊢
      refine plan_make_of rfl (by rfl) (fun K hK => ?_)
      go_simp
      refine (HENT.out wd hTD).mono ?_
      rintro e w7 ⟨rfl, hT7, hO⟩
      have hR7 := hRD.only hO (by omega)
      have hX7 := hXD.only hO (by omega)
      have hB7 := hBD.trans (hO.below.mono (by omega))
      have hown7 := ownU_only hownD hO (by omega)
      have hs7 := hO.below.size
      have hS7 : memT gm (.slice A6 j c6) w7 := ⟨hX7.cell rfl, trivial⟩
      refine hK.out _ _ hS7 ?_
      clear hK K hO hTD hRD hXD hBD hS hownD
      have hb8 : Below w7.heap.size w7 (w7.alloc (.cells #[.int .u64 (x1 : Int), .int .u64 (x2 : Int), .int .u64 (x3 : Int)] 57)) := below_new (Below.refl _ _) _
      have hg27 := hX7.lt
      refine plan_make_of rfl (by rfl) (fun K hK => ?_)
      go_simp
      refine hK.out _ _ ⟨(hb8.cell (p := ⟨gm, 6, none⟩) hg27).trans hS7.1, trivial⟩ ?_
      clear hK K
      have hown8 := ownsRowU_later hown7 hb8
      have hrd8 : RdU (w7.alloc (.cells #[.int .u64 (x1 : Int), .int .u64 (x2 : Int), .int .u64 (x3 : Int)] 57)) (some ⟨w7.heap.size, 0, none⟩) [(x1, x2, x3)] := fun _ => by
        have hN := Row.new w7 57 [.int .u64 (x1 : Int), .int .u64 (x2 : Int), .int .u64 (x3 : Int)] #[.int .u64 (x1 : Int), .int .u64 (x2 : Int), .int .u64 (x3 : Int)] rfl
        refine ⟨w7.heap.size, 0, rfl, fun i hi => ?_⟩
        have hi0 : i = 0 := by simpa using hi
        subst hi0
        exact ⟨hN.cell rfl, hN.cell rfl, hN.cell rfl⟩
      have hs8 := hb8.size
      refine plan_make_of rfl (by rfl) (fun K hK => ?_)
      refine wp_append_rdU _ (.tmp 34) (.tmp 37) 33 (by rfl) B 57 i0 (.agg #[.int .u64 0, .int .u64 0, .int .u64 0]) 24 Tryz.underlying33 hi hz0 hz1 hz2 rfl (.slice A6 j c6) j (cellsU l) (by rfl) hown8 (some ⟨w7.heap.size, 0, none⟩) [(x1, x2, x3)] 1 (by rfl) hrd8 (by simp only [List.length_cons, List.length_nil]; unfold maxLen; omega) (by simp only [List.length_cons, List.length_nil]; omega) (by omega) ?_
      intro v9 w9 hown9 hgrow9 hat9
      rw [← cellsU_app] at hown9
      have hown9' : w9.ownsRow B 57 3 v9 (j + 1) (cellsU (l ++ [(x1, x2, x3)])) := hown9
      obtain ⟨A9, c9, rfl, hc9q⟩ := own_formE hown9'
      clear hc9q
      have hbd9 : Below B w7 w9 := (hb8.mono (by omega)).grown hgrow9 (by omega) (fun j hj => (hown8.lt j hj).1)
      have hR9 := (hR7.later hb8).grown hgrow9 (fun e => by have := (hown8.lt _ e).1; omega)
      have hX9 := (hX7.later hb8).grown hgrow9 (fun e => by have := (hown8.lt _ e).1; omega)
      have hT9 := hT7.below (hbd9.mono (by omega))
      have hB9 := hB7.trans (hbd9.mono (by omega))
      have hs9 := hbd9.size
      simp only [pA, pB, pC, Act.put, pD, pE, pF]
      refine hK.out _ _ ⟨hX9.cell rfl, trivial⟩ ?_
      clear hK K hown9 hgrow9 hat9 hbd9 hown8 hb8 hrd8 hown7 hR7 hX7 hT7 hB7 hS7
      iterate 2 (refine plan_read rfl (by rfl) (v := ?_) ?_ ?_; rotate_left 1; (rintro W ⟨hW0, hW1⟩; go_simp <;> with_reducible rfl); simp only [pA, pB, pC, Act.put, pD, pE, pF])
      have hc9 : w9.cell? ⟨gm, 6, none⟩ = some (.slice A6 j c6) := hX9.cell rfl
      have hf9 : w9.frozen? ⟨gm, 6, none⟩ = false := hX9.frozen 6
      refine planLast_done rfl (by rfl) ?_
      go_simp
      have hOs := (Only.refl gm w9).setCell 6 (.slice A9 (j + 1) c9)
      have hown10 := ownU_only hown9' hOs hgB
      have hR10 := hR9.only hOs (by omega)
      have hX10 : Row (w9.setCell ⟨gm, 6, none⟩ (.slice A9 (j + 1) c9)) gm 37 [.int .u64 (c : Int), .int .u64 0, .slice none 0 0, .slice none 0 0, .int .i64 (rm : Int), .int .u64 (fl : Int), (.slice A9 (j + 1) c9)] := hX9.setCell 6 (.slice A9 (j + 1) c9)
      have hB10 := hB9.trans (hOs.below.mono (by omega))
      have hT10 := hT9.below (hOs.below.mono (by omega))
      have hs10 := hOs.below.size
      clear hown9' hR9 hX9 hB9 hT9 hc9 hf9 hOs
      generalize w9.setCell ⟨gm, 6, none⟩ (.slice A9 (j + 1) c9) = w10 at hown10 hR10 hX10 hB10 hT10 hs10 ⊢
      go_wp2_with fail
      go_roundw
      case rel => exact ⟨j + 1, l ++ [(x1, x2, x3)], (.slice A9 (j + 1) c9), kX, SX, by go_num, by omega, by unfold Hid; rw [List.length_append, HL.out]; rfl, HMORE, hR10, hX10, hown10, hT10, hB10, by omega⟩
      case measure => simp [intOf]; omega
    · have ejq : j = q := by omega
      subst ejq
      have HE : Hid (l6 = l ∧ k6 = kk ∧ S6 = S) := by
        have h1 := HU.out
        rw [H6.out, Nat.sub_self] at h1
        have h2 : usesK 0 kk S = ([], kk, S) := rfl
        rw [h2, List.append_nil] at h1
        injection h1 with e1 e2
        injection e2 with e2 e3
        exact ⟨e1, e2, e3⟩
      obtain ⟨e1, e2, e3⟩ := HE.out
      subst e1 e2 e3
      obtain ⟨A6, c6, hu, hc6, hru6, hA6⟩ : ∃ A6 c6, u = .slice A6 j c6 ∧ j ≤ c6 ∧ RdU wr A6 l6 ∧ ∀ a, A6 = some a → B ≤ a.block := by
        have h1 : wr.ownsRow B 57 3 u l6.length (cellsU l6) := by rw [HL.out]; exact hown
        obtain ⟨A6, c6, h2, h3, h4, h5⟩ := own_sliceU h1
        rw [HL.out] at h2 h3
        exact ⟨A6, c6, h2, h3, h4, h5⟩
      subst hu
      have hi1 : ¬ (j : Int) < (j : Int) := by omega
      clear HU HE hown H0 H1 H2 H3 H4 H5 H6
      go_wp2_with fail
      refine (readbundle_any g1 k6 S6 wr hT).mono ?_
      rintro e w5 ⟨xb, bn, kE, vg, rfl, hIn, hFr, hBK, hRg, hO⟩
      unfold aggBW aggB
      have HRM := Lib.hid (HST.out hBK)
      have hFrB := hFr.mono (show gm + 1 ≤ wr.heap.size by omega)
      have hR5 := hR0.only hO (by omega)
      have hX5 := hR2.only hO (by omega)
      have hB5 := hB.trans (hO.below.mono (by omega))
      have hru5 := hru6.only hO (fun _ a ha => by have := hA6 a ha; omega)
      clear hR0 hR2 hB hru6 hO hT hBK HST hsz hFr
      go_upto_region 13 with (refine wpList_store_mid rfl 32 (.tmp 44) (.tmp 43) rfl (gm) 1 ((lB xb bn).toArray) rfl rfl (there_of hX5 1 3 (by simp)) (by exact size_bundle) (by exact all_oneCell_toArray (one_three _ _ _ rfl rfl rfl)) ?_)
      have hOs := Only.setCells (g := gm) (lB xb bn) 1 (Only.refl _ w5)
      have hX6 : Row (w5.setCells gm 1 (lB xb bn)) gm 37 [.int .u64 (c : Int), .int .u64 (bn.1 : Int), .slice xb.eA xb.n xb.ec, .slice xb.gA xb.g xb.gc, .int .i64 (rm : Int), .int .u64 (fl : Int), .slice A6 j c6] := hX5.setCells _ 1 (by simp)
      have hR6 := hR5.only hOs (by omega)
      have hG6 := hRg.only hOs (by omega)
      have hB6 := hB5.trans (hOs.below.mono (by omega))
      have hIn6 := hIn.only hOs hFrB
      have hru6 := hru5.only hOs (fun _ a ha => by have := hA6 a ha; omega)
      clear hX5 hR5 hRg hB5 hIn hru5 hOs
      generalize w5.setCells gm 1 (lB xb bn) = w6 at hX6 hR6 hG6 hB6 hIn6 hru6 ⊢
      have hIM : InM w6 ⟨xb, ⟨A6, j, c6⟩⟩ ⟨c, bn, ((rm : Int), fl, l6)⟩ := ⟨hclk, hIn6, ⟨HL.out, hc6, hru6, by show j ≤ 1000000; omega, ⟨hflr, HFU.out⟩⟩⟩
      have HRT := Lib.hid (rightmem_any _ _ w6 hIM)
      unfold aggM at HRT
      dsimp only at HRT
      obtain ⟨R, hR⟩ : ∃ R, rightM ⟨c, bn, ((rm : Int), fl, l6)⟩ = R := ⟨_, rfl⟩
      rw [hR] at HRT HRM
      clear hR hIn6 hru6
      go_wp2_with (refine wpList_load_part rfl 37 (.tmp 6) rfl (gm) 0 rfl _ _ (hX6) ([.int .u64 (c : Int), .int .u64 (bn.1 : Int), .slice xb.eA xb.n xb.ec, .slice xb.gA xb.g xb.gc, .int .i64 (rm : Int), .int .u64 (fl : Int), .slice A6 j c6]) (by rfl) _ Tryz.underlying37 rfl (by exact size_memory) ?_)
      refine HRT.out.mono ?_
      rintro e w7 ⟨rfl, hb7⟩
      have hX7 := hX6.later hb7
      have hR7 := hR6.later hb7
      have hG7 := hG6.later hb7
      have hB7 := below_step hB6 hb7
      have hIM7 := hIM.keep hb7
      clear hX6 hR6 hG6 hB6 hIM hb7 HRT
      go_upto_if 47 with fail
      go_cut [] (fun wx => Row wx g1 220 [vg, .int .i64 (finK R kE)] ∧ Row wx w.heap.size 37 l0M ∧ Row wx gm 37 [.int .u64 (c : Int), .int .u64 (bn.1 : Int), .slice xb.eA xb.n xb.ec, .slice xb.gA xb.g xb.gc, .int .i64 (rm : Int), .int .u64 (fl : Int), .slice A6 j c6] ∧ InM wx ⟨xb, ⟨A6, j, c6⟩⟩ ⟨c, bn, ((rm : Int), fl, l6)⟩ ∧ Below w.heap.size w wx)
      case first =>
        cases R with
        | true =>
          go_wp2_with fail
          go_meet
          case rel => exact ⟨hG7, hR7, hX7, hIM7, hB7⟩
        | false =>
          go_wp2_with fail
          refine (keep_row g1 vg kE 3 w7 hG7).mono ?_
          rintro e w8 ⟨rfl, hG8, hO⟩
          have hX8 := hX7.only hO (by omega)
          have hR8 := hR7.only hO (by omega)
          have hB8 := hB7.trans (hO.below.mono (by omega))
          have hIM8 := hIM7.only hO ⟨hFrB.mono (by omega), fun a ha => by have := hA6 a ha; omega⟩
          go_wp2_with fail
          go_meet
          case rel => exact ⟨hG8, hR8, hX8, hIM8, hB8⟩
      case rest =>
      clear hX7 hR7 hG7 hB7 hIM7
      rename World => w8
      obtain ⟨hG8, hR8, hX8, hIM8, hB8⟩ := hcut
      obtain ⟨KF, hKF⟩ : ∃ K, finK R kE = K := ⟨_, rfl⟩
      have HKF := Lib.hid hKF
      rw [hKF] at hG8
      clear hKF
      have hgl8 := hR8.lt
      go_upto_region 15 with fail
      have hS := memR_of (W := w8.drew) (show Row w8.drew gm 37 [.int .u64 (c : Int), .int .u64 (bn.1 : Int), .slice xb.eA xb.n xb.ec, .slice xb.gA xb.g xb.gc, .int .i64 (rm : Int), .int .u64 (fl : Int), .slice A6 j c6] from hX8) (show Row w8.drew g1 220 [vg, .int .i64 KF] from hG8)
      have hR9 := hR8.drew
      have hX9 := hX8.drew
      have hG9 := hG8.drew
      have hB9 := hB8.drew
      have hI9 := hIM8.keep ((Below.refl _ w8).drew)
      refine wp_region_plan_of (memR gm g1 (.int .u64 (c : Int)) (.int .u64 (bn.1 : Int)) (.slice xb.eA xb.n xb.ec) (.slice xb.gA xb.g xb.gc) (.int .i64 (rm : Int)) (.int .u64 (fl : Int)) (.slice A6 j c6) (.int .i64 KF)) (.step 0 false (.step 1 false (.step 2 false (.step 3 false (.step 4 false (.step 5 false (.step 6 false (.step 7 true (.step 8 false (.nil)))))))))) hS (by kernel_rfl) (by kernel_rfl) (by rfl) (by kernel_rfl) ?_
      clear hR8 hX8 hG8 hB8 hIM8
      generalize w8.drew = wv at *
      iterate 7 (refine plan_read rfl (by rfl) (v := ?_) ?_ ?_; rotate_left 1; (rintro W ⟨hW0, hW1⟩; go_simp <;> with_reducible rfl); simp only [pA, pB, pC, Act.put, pD, pE, pF])
      refine plan_make_of rfl (by rfl) (fun K hK => ?_)
      refine hR9.wp_store 37 (.tmp 3) (.tmp 51) rfl rfl [.int .u64 (c : Int), .int .u64 (bn.1 : Int), .slice xb.eA xb.n xb.ec, .slice xb.gA xb.g xb.gc, .int .i64 (rm : Int), .int .u64 (fl : Int), .slice A6 j c6] rfl (by exact size_memory) rfl (one_memory ⟨xb, ⟨A6, j, c6⟩⟩ ⟨c, bn, ((rm : Int), fl, l6)⟩) ?_
      refine hK.out _ _ (memR_of (hX9.setRow_other (by omega) _) (hG9.setRow_other (by omega) _)) ?_
      clear hK K
      simp only [pA, pB, pC, Act.put, pD, pE, pF]
      iterate 1 (refine plan_read rfl (by rfl) (v := ?_) ?_ ?_; rotate_left 1; (rintro W ⟨hW0, hW1⟩; go_simp <;> with_reducible rfl); simp only [pA, pB, pC, Act.put, pD, pE, pF])
      refine plan_done ?_
      go_wp2_with fail
      refine bodyPost_ret (results_row_mid (u := 2) (p := 3) (v := 4) (ty := 37) (by rfl) _ _ w.heap.size 37 _ _ (by rfl) (by exact hR9.setRow _) Tryz.underlying37 (by rfl) (by exact size_memory)) (by rfl) ?_
      have hOr := (Only.refl w.heap.size wv).setRow [.int .u64 (c : Int), .int .u64 (bn.1 : Int), .slice xb.eA xb.n xb.ec, .slice xb.gA xb.g xb.gc, .int .i64 (rm : Int), .int .u64 (fl : Int), .slice A6 j c6].toArray
      refine ⟨⟨xb, ⟨A6, j, c6⟩⟩, ⟨c, bn, ((rm : Int), fl, l6)⟩, num, KF, rfl, hI9.only hOr ⟨hFrB.mono (by omega), fun a ha => by have := hA6 a ha; omega⟩, ⟨hFrB.mono (by omega), fun a ha => by have := hA6 a ha; omega⟩, hnum, ?_, ?_, below_setRow hB9 (Nat.le_refl _) _⟩
      · intro h0
        rw [← HKF.out, finK_zero] at h0
        rw [HRM.out, if_pos h0.2, if_pos h0.1]
      · intro h0
        rw [HRM.out]
        by_cases hk : kE = 0
        · rw [if_pos hk, if_neg (fun hr => h0 (by rw [← HKF.out, finK_zero]; exact ⟨hr, hk⟩))]
        · rw [if_neg hk]
end Go.Proofs.YteppocjgodmpdaaGreatDoor
namespace Go.Proofs.YteppocjgodmpdaaGreatDoor
theorem numAt_lt (b : List UInt8) (k : Nat) : numAt b k < 18446744073709551616 := by
  have h := valN_lt ((b.drop k).take 8)
  have hl : ((b.drop k).take 8).length ≤ 8 := by rw [List.length_take]; omega
  have h2 : (256 : Nat) ^ ((b.drop k).take 8).length ≤ 256 ^ 8 := Nat.pow_le_pow_right (by decide) hl
  unfold numAt
  omega
theorem useAt_fit (b : List UInt8) (k : Nat) : fitU1 (useAt b k) := ⟨numAt_lt _ _, numAt_lt _ _, numAt_lt _ _⟩
theorem usesAt_fit (b : List UInt8) : ∀ (n k : Nat), fitU (usesAt b k n)
  | 0, _ => fun x hx => by cases hx
  | n + 1, k => fun x hx => by
    rcases List.mem_cons.1 hx with rfl | hx
    · exact useAt_fit b k
    · exact usesAt_fit b n (k + 24) x hx
theorem readMem_fit {b : List UInt8} {n : Nat} {m : MemK} (h : readMem b = some (n, m)) : n < 18446744073709551616 ∧ fitM m := by
  unfold readMem at h
  split at h
  · cases h
  · split at h
    · cases h
    · split at h
      · cases h
      · rename_i x hx
        split at h
        · injection h with h
          injection h with h1 h2
          rw [← h1, ← h2]
          exact ⟨numAt_lt _ _, numAt_lt _ _, (allB_good hx).2.1, numAt_lt _ _, usesAt_fit _ _ _⟩
        · cases h
theorem raise_floor {c : Ca} (f : Nat) (hc : c.2.1 < 18446744073709551616) (hf : f < 18446744073709551616) : (raiseC c f).1.2.1 < 18446744073709551616 := by
  unfold raiseC
  split
  · exact hc
  · dsimp only
    omega
theorem put_floor (c : Ca) (u : Us) : (putC c u).1.2.1 = c.2.1 := by
  unfold putC
  repeat' split
  all_goals rfl
theorem take_fit {m : MemK} {u : Us} {clock floor : Nat} (h : fitM m) (hu : fitU1 u) (hc : clock < 18446744073709551616) (hf : floor < 18446744073709551616) : fitM (takeM m u clock floor).1 := by
  obtain ⟨h1, h2, h3, h5⟩ := h
  unfold takeM
  split
  · exact ⟨h1, h2, h3, h5⟩
  · split
    · exact ⟨h1, h2, h3, h5⟩
    · refine ⟨hc, h2, ?_, putC_fit (raiseC_fit floor h5) hu⟩
      show (putC (raiseC m.c floor).1 u).1.2.1 < _
      rw [put_floor]
      exact raise_floor floor h3 hf
theorem goes_fit {m k : MemK} {b : List UInt8} (h : fitM m) (hg : goesM m b = some k) : fitM k := by
  unfold goesM at hg
  split at hg
  · split at hg
    · injection hg with hg
      rw [← hg]
      exact take_fit h (useAt_fit _ _) (numAt_lt _ _) (numAt_lt _ _)
    · cases hg
  · split at hg
    · split at hg
      · cases hg
      · rename_i x hx
        split at hg
        · injection hg with hg
          rw [← hg]
          exact ⟨h.1, (allB_good hx).2.1, h.2.2⟩
        · cases hg
    · cases hg
theorem goOn_fit : ∀ (ts : List (List UInt8)) (m : MemK) (s : Nat), fitM m → fitM (goOn m s ts).1
  | [], _, _, h => h
  | t :: ts, m, s, h => by
    unfold goOn
    cases hg : goesM m t with
    | none => exact h
    | some k => exact goOn_fit ts k _ (goes_fit h hg)
theorem area_fit {f : List UInt8 → List UInt8} {b : List UInt8} {n s : Nat} {m : MemK} (h : areaK f b = some (n, m, s)) : n < 18446744073709551616 ∧ fitM m := by
  unfold areaK at h
  split at h
  · cases h
  · rename_i t ts _
    split at h
    · cases h
    · rename_i x hx
      injection h with h
      injection h with h1 h
      obtain ⟨h2, h3⟩ := readMem_fit (n := x.1) (m := x.2) hx
      have := goOn_fit ts x.2 (t.length + 6) h3
      rw [h] at this
      exact ⟨by omega, this⟩
section
variable {f : List UInt8 → List UInt8} (h4 : ∀ b, (f b).length = 4)
include h4
end
end Go.Proofs.YteppocjgodmpdaaGreatDoor
namespace Go.Proofs.YteppocjgodmpdaaGreatDoor
open Go.RowKit
def Agree (lo hi : Nat) (w W : World) : Prop := ∀ b, b < w.heap.size → (b < lo ∨ hi ≤ b) → W.heap[b]? = w.heap[b]?
theorem Agree.of_below {lo hi B : Nat} {w W : World} (h : Below B w W) (hl : lo ≤ B) (hh : w.heap.size ≤ hi) : Agree lo hi w W := fun b hb hc => h.block b (by omega)
theorem Agree.of_only {lo hi g : Nat} {w W : World} (h : Only g w W) (hl : lo ≤ g) (hh : g < hi) : Agree lo hi w W := fun b hb hc => h.other b (by omega) hb
theorem Agree.cell {lo hi : Nat} {w W : World} (h : Agree lo hi w W) {p : Addr} {v : Value} (hv : w.cell? p = some v) (hp : p.block < lo ∨ hi ≤ p.block) : W.cell? p = some v := (World.cell?_of_block (w := w) (a := p) (h p.block (World.block_lt_of_cell? w _ hv) hp)).trans hv
theorem Rd.agree {α : Type} {f : α → Value} {lo hi : Nat} {w W : World} {A : Option Addr} {l : List α} (h : Rd f w A l) (k : Agree lo hi w W) (hA : l ≠ [] → ∀ a, A = some a → a.block < lo ∨ hi ≤ a.block) : Rd f W A l := fun hn => by
  obtain ⟨b, o, e, hc⟩ := h hn
  have hb := hA hn _ e
  exact ⟨b, o, e, fun i hi => k.cell (hc i hi) hb⟩
structure OffB (lo hi : Nat) (x : WB) : Prop where
  e : x.n ≠ 0 → ∀ a, x.eA = some a → a.block < lo ∨ hi ≤ a.block
  s : ∀ y ∈ x.es, y.s ≠ [] → ∀ a, y.A = some a → a.block < lo ∨ hi ≤ a.block
  g : x.g ≠ 0 → ∀ a, x.gA = some a → a.block < lo ∨ hi ≤ a.block
def OffC (lo hi : Nat) (x : WC) : Prop := x.s ≠ 0 → ∀ a, x.A = some a → a.block < lo ∨ hi ≤ a.block
structure OffM (lo hi : Nat) (x : WM) : Prop where
  b : OffB lo hi x.b
  c : OffC lo hi x.c
section
variable {lo hi lo' hi' : Nat} {w W : World}
theorem OffB.mono {x : WB} (h : OffB lo hi x) (hl : lo ≤ lo') (hh : hi' ≤ hi) : OffB lo' hi' x := ⟨fun h0 a ha => by have := h.e h0 a ha; omega, fun y hy hs a ha => by have := h.s y hy hs a ha; omega, fun h0 a ha => by have := h.g h0 a ha; omega⟩
theorem OffC.mono {x : WC} (h : OffC lo hi x) (hl : lo ≤ lo') (hh : hi' ≤ hi) : OffC lo' hi' x := fun h0 a ha => by have := h h0 a ha; omega
theorem OffM.mono {x : WM} (h : OffM lo hi x) (hl : lo ≤ lo') (hh : hi' ≤ hi) : OffM lo' hi' x := ⟨h.b.mono hl hh, h.c.mono hl hh⟩
theorem FreshB.off {B : Nat} {x : WB} (h : FreshB B x) (lo : Nat) : OffB lo B x := ⟨fun _ a ha => .inr (h.e a ha), fun y hy hs a ha => .inr (h.s y hy hs a ha), fun _ a ha => .inr (h.g a ha)⟩
theorem FreshC.off {B : Nat} {x : WC} (h : FreshC B x) (lo : Nat) : OffC lo B x := fun _ a ha => .inr (h a ha)
theorem FreshM.off {B : Nat} {x : WM} (h : FreshM B x) (lo : Nat) : OffM lo B x := ⟨h.b.off lo, h.c.off lo⟩
theorem InB.off {x : WB} {b : Bn} (h : InB w x b) (hi : Nat) : OffB w.heap.size hi x :=
  ⟨fun h0 a ha => by
    obtain ⟨b', o, e, hc⟩ := h.re (by intro e; exact h0 (by rw [← h.ne, e]; rfl))
    rw [ha] at e
    injection e with e
    subst e
    exact .inl (World.block_lt_of_cell? w _ (hc 0 (by rw [h.ne]; omega)).1), fun y hy hs a ha => .inl ((h.oe y hy).2.off hs a ha), fun h0 a ha => by
    obtain ⟨b', o, e, hb, _⟩ := h.rg.at (k := 0) (by rw [h.ng]; omega)
    rw [ha] at e
    injection e with e
    subst e
    exact .inl hb⟩
theorem InC.off {x : WC} {c : Ca} (h : InC w x c) (hi : Nat) : OffC w.heap.size hi x := fun h0 a ha => by
  obtain ⟨b', o, e, hb, _⟩ := h.ru.at (k := 0) (by rw [h.ns]; omega)
  rw [ha] at e
  injection e with e
  subst e
  exact .inl hb
theorem InM.off {x : WM} {m : MemK} (h : InM w x m) (hi : Nat) : OffM w.heap.size hi x := ⟨h.ib.off hi, h.ic.off hi⟩
theorem InB.agree {x : WB} {b : Bn} (h : InB w x b) (k : Agree lo hi w W) (ho : OffB lo hi x) : InB W x b :=
  { h with
    re := fun hn => by
      obtain ⟨b', o, e, hc⟩ := h.re hn
      have hb := ho.e (by rw [← h.ne]; intro h0; exact hn (List.eq_nil_of_length_eq_zero h0)) _ e
      exact ⟨b', o, e, fun i hi' => ⟨k.cell (p := ⟨b', o + i * 3, none⟩) (hc i hi').1 hb, k.cell (p := ⟨b', o + i * 3 + 1, none⟩) (hc i hi').2.1 hb, k.cell (p := ⟨b', o + i * 3 + 2, none⟩) (hc i hi').2.2 hb⟩⟩
    oe := fun y hy => ⟨(h.oe y hy).1, (h.oe y hy).2.agree k (ho.s y hy)⟩
    rg := fun hn => by
      obtain ⟨b', o, e, hc⟩ := h.rg hn
      have hb := ho.g (by rw [← h.ng]; intro h0; exact hn (List.eq_nil_of_length_eq_zero h0)) _ e
      exact ⟨b', o, e, fun i hi' => ⟨k.cell (p := ⟨b', o + i * 2, none⟩) (hc i hi').1 hb, k.cell (p := ⟨b', o + i * 2 + 1, none⟩) (hc i hi').2 hb⟩⟩ }
theorem InC.agree {x : WC} {c : Ca} (h : InC w x c) (k : Agree lo hi w W) (ho : OffC lo hi x) : InC W x c :=
  { h with
    ru := fun hn => by
      obtain ⟨b', o, e, hc⟩ := h.ru hn
      have hb := ho (by rw [← h.ns]; intro h0; exact hn (List.eq_nil_of_length_eq_zero h0)) _ e
      exact ⟨b', o, e, fun i hi' => ⟨k.cell (p := ⟨b', o + i * 3, none⟩) (hc i hi').1 hb, k.cell (p := ⟨b', o + i * 3 + 1, none⟩) (hc i hi').2.1 hb, k.cell (p := ⟨b', o + i * 3 + 2, none⟩) (hc i hi').2.2 hb⟩⟩ }
theorem InM.agree {x : WM} {m : MemK} (h : InM w x m) (k : Agree lo hi w W) (ho : OffM lo hi x) : InM W x m := ⟨h.fc, h.ib.agree k ho.b, h.ic.agree k ho.c⟩
theorem InM.at_only {g : Nat} {x : WM} {m : MemK} (h : InM w x m) (k : Only g w W) (ho : OffM lo hi x) (hl : lo ≤ g) (hh : g < hi) : InM W x m := h.agree (Agree.of_only k hl hh) ho
theorem InB.at_only {g : Nat} {x : WB} {b : Bn} (h : InB w x b) (k : Only g w W) (ho : OffB lo hi x) (hl : lo ≤ g) (hh : g < hi) : InB W x b := h.agree (Agree.of_only k hl hh) ho
theorem InM.old {x : WM} {m : MemK} (h : InM w x m) (ho : OffM lo w.heap.size x) (hb : Below lo w W) : InM W x m := h.agree (Agree.of_below hb (Nat.le_refl _) (Nat.le_refl _)) ho
theorem OffM.any {x : WM} {m : MemK} (ho : OffM lo w.heap.size x) (h : InM w x m) (hi : Nat) : OffM lo hi x :=
  ⟨⟨fun h0 a ha => by have h1 := ho.b.e h0 a ha; have h2 := (h.off (a.block + 1)).b.e h0 a ha; omega, fun y hy hs a ha => by have h1 := ho.b.s y hy hs a ha; have h2 := (h.off (a.block + 1)).b.s y hy hs a ha; omega, fun h0 a ha => by have h1 := ho.b.g h0 a ha; have h2 := (h.off (a.block + 1)).b.g h0 a ha; omega⟩,
    fun h0 a ha => by have h1 := ho.c h0 a ha; have h2 := (h.off (a.block + 1)).c h0 a ha; omega⟩
end
end Go.Proofs.YteppocjgodmpdaaGreatDoor
namespace Go.Proofs.YteppocjgodmpdaaGreatDoor
open Go.RowKit
def RetMe (w : World) (x : WM) (m' : MemK) (er : Int) (e : Ending) (w' : World) : Prop :=
  ∃ x', e = .returned (.tuple #[aggM x' m', .int .i64 er]) ∧ InM w' x' m' ∧ (∀ lo hi, hi ≤ w.heap.size → OffM lo hi x → OffM lo hi x') ∧ Below w.heap.size w w'
theorem put_short {c : Ca} {u : Us} (h : (putC c u).2 = 0) : (putC c u).1.2.2.length ≤ 64 := by
  cases hr : rightC c with
  | false =>
    unfold putC at h
    rw [hr, if_pos rfl] at h
    exact absurd h (by show ¬ (1 : Int) = 0; decide)
  | true =>
    obtain ⟨⟨h1, h2⟩, h3, _⟩ := right_c.1 (put_right (u := u) hr)
    omega
theorem take_old {m : MemK} {u : Us} {clock floor : Nat} (h : clock < m.clock) : takeM m u clock floor = (m, 13) := if_pos h
theorem take_no {m : MemK} {u : Us} {clock floor : Nat} (h : ¬ clock < m.clock) (h2 : (putC (raiseC m.c floor).1 u).2 ≠ 0) : takeM m u clock floor = (m, (putC (raiseC m.c floor).1 u).2) := by
  unfold takeM
  rw [if_neg h, if_pos h2]
theorem take_yes {m : MemK} {u : Us} {clock floor : Nat} (h : ¬ clock < m.clock) (h2 : (putC (raiseC m.c floor).1 u).2 = 0) : takeM m u clock floor = (⟨clock, m.b, (putC (raiseC m.c floor).1 u).1⟩, 0) := by
  unfold takeM
  rw [if_neg h, if_neg (not_not_intro h2)]
def cacS (g : Nat) (a b c : Value) (W : World) : Prop := W.cell? ⟨g, 0, none⟩ = some a ∧ (W.cell? ⟨g, 1, none⟩ = some b ∧ W.cell? ⟨g, 2, none⟩ = some c)
theorem cacS_of {g : Nat} {t : TypeId} {a b c : Value} {W : World} (h : Row W g t [a, b, c]) : cacS g a b c W := ⟨h.cell rfl, h.cell rfl, h.cell rfl⟩
set_option maxHeartbeats 8000000 in
theorem used_any (x : WM) (m : MemK) (u : Us) (clock floor : Nat) (w : World) (h : InM w x m) (hu : fitU1 u) (hc : clock < 18446744073709551616) (hf : floor < 18446744073709551616) :
    Calls Tryz.prog 53 #[aggM x m, .agg #[.int .u64 (u.1 : Int), .int .u64 (u.2.1 : Int), .int .u64 (u.2.2 : Int)], .int .u64 (clock : Int), .int .u64 (floor : Int)] w (RetMe w x (takeM m u clock floor).1 (takeM m u clock floor).2) := by
  obtain ⟨hR0, hR1, hR2, hB⟩ := three_boxes w 37 57 37 (lM x m) [.int .u64 (u.1 : Int), .int .u64 (u.2.1 : Int), .int .u64 (u.2.2 : Int)] l0M _ _ _ rfl rfl rfl
  have HM := Lib.hid h
  have HU := Lib.hid hu
  have HFIT := Lib.hid (take_fit (clock := clock) (floor := floor) h.fit hu hc hf)
  obtain ⟨⟨⟨r1, f1, l1⟩, er1⟩, hX1⟩ : ∃ y, raiseC m.c floor = y := ⟨_, rfl⟩
  obtain ⟨⟨⟨r2, f2, l2⟩, er2⟩, hX2⟩ : ∃ y, putC (r1, f1, l1) u = y := ⟨_, rfl⟩
  have HL1 : Hid (l1.length ≤ 1000000) := by have := raiseC_len m.c floor; rw [hX1, h.ic.ns] at this; exact Nat.le_trans this h.ic.ls
  have HF1 : Hid (fitU l1) := by have := raiseC_fit floor h.ic.fit.2; rw [hX1] at this; exact this
  have HT1 : Hid (¬ clock < m.clock → er2 ≠ 0 → takeM m u clock floor = (m, er2)) := fun h1 h2 => by
    have := take_no (u := u) (floor := floor) h1 (by rw [hX1, hX2]; exact h2)
    rw [hX1, hX2] at this
    exact this
  have HT2 : Hid (¬ clock < m.clock → er2 = 0 → takeM m u clock floor = (⟨clock, m.b, (r2, f2, l2)⟩, 0)) := fun h1 h2 => by
    have := take_yes (u := u) (floor := floor) h1 (by rw [hX1, hX2]; exact h2)
    rw [hX1, hX2] at this
    exact this
  have HS2 : Hid (er2 = 0 → l2.length ≤ 64) := fun h2 => by have := put_short (c := (r1, f1, l1)) (u := u) (by rw [hX2]; exact h2); rw [hX2] at this; exact this
  have HRA := Lib.hid (fun W (hb : Below w.heap.size w W) => raise19_any m.c.1 m.c.2.1 m.c.2.2 floor x.c.s x.c.c x.c.A W (Lib.hid h.ic.ns) (h.ic.ru.keep hb) (Lib.hid h.ic.fit.2) h.ic.ls)
  rw [show (m.c.1, m.c.2.1, m.c.2.2) = m.c from rfl, hX1] at HRA
  have HPU := Lib.hid (fun n A c W (HN : Hid (l1.length = n)) (hr : RdU W A l1) (hn : n ≤ 1000000) => put19_any r1 f1 l1 u.1 u.2.1 u.2.2 n c A W HN hr HF1 (Lib.hid hu) hn)
  rw [show (u.1, u.2.1, u.2.2) = u from rfl, hX2] at HPU
  unfold aggC at HRA HPU
  clear h hu hX1 hX2
  unfold aggM
  by_cases hcl : clock < m.clock
  · rw [take_old hcl]
    have i1 : (clock : Int) < (m.clock : Int) := by omega
    clear HFIT HRA HPU HT1 HT2 HS2 HL1 HF1 hcl
    go_enter Tryz.func53, Tryz.ntmps53
    go_upto_region 1 with fail
    generalize ((w.alloc (.cells (lM x m).toArray 37)).alloc (.cells [.int .u64 (u.1 : Int), .int .u64 (u.2.1 : Int), .int .u64 (u.2.2 : Int)].toArray 57)).alloc (.cells l0M.toArray 37) = W0 at hR0 hR1 hR2 hB ⊢
    have k0 := hR0.cell (i := 0) rfl
    go_wp2_with (first
      | (refine wpList_load_part rfl 37 (.tmp 4) rfl (w.heap.size) 0 rfl _ _ (hR0) ((lM x m)) (by rfl) _ Tryz.underlying37 rfl (by exact size_memory) ?_)
      | (refine wpList_store_row rfl 37 (.tmp 8) (.tmp 18) rfl (w.heap.size + 1 + 1) rfl ((lM x m)) rfl _ _ (hR2) (by exact size_memory) rfl (one_memory x m) ?_))
    refine bodyPost_ret (results_row_tmp (p := 8) (u := 9) (ty := 37) (by rfl) _ _ (w.heap.size + 1 + 1) 37 _ _ (by rfl) (by exact hR2.setRow _) Tryz.underlying37 (by rfl) (by exact size_memory)) (by rfl) ?_
    have hB2 := below_setRow hB (show w.heap.size ≤ w.heap.size + 1 + 1 by omega) (lM x m).toArray
    exact ⟨x, rfl, HM.out.keep hB2, (fun _ _ _ hf => hf), hB2⟩
  · have i1 : ¬ (clock : Int) < (m.clock : Int) := by omega
    go_enter Tryz.func53, Tryz.ntmps53
    go_upto_region 1 with fail
    generalize ((w.alloc (.cells (lM x m).toArray 37)).alloc (.cells [.int .u64 (u.1 : Int), .int .u64 (u.2.1 : Int), .int .u64 (u.2.2 : Int)].toArray 57)).alloc (.cells l0M.toArray 37) = W0 at hR0 hR1 hR2 hB ⊢
    have k0 := hR0.cell (i := 0) rfl
    go_wp2_with (refine wpList_load_part rfl 35 (.tmp 20) rfl (w.heap.size) 4 rfl _ _ (hR0) ((lC x.c m.c)) (by rfl) _ Tryz.underlying35 rfl (by exact size_cache) ?_)
    refine (HRA.out _ hB).mono ?_
    rintro e w1 ⟨A1, n1, c1, rfl, HN1, hc1, hr1, hf1, hb1⟩
    unfold aggC
    dsimp only at HN1 hr1 ⊢
    replace hR0 := hR0.later hb1
    replace hR1 := hR1.later hb1
    replace hR2 := hR2.later hb1
    have hB1 := below_step hB hb1
    have hz1 := hB1.size
    obtain ⟨hRc, hBc⟩ := box_of w1 35 l0C _ rfl
    clear hb1 k0 HRA hB
    go_upto_region 4 with (refine wpList_store_row rfl 35 (.tmp 10) (.tmp 24) rfl (w1.heap.size) rfl ([.int .i64 r1, .int .u64 (f1 : Int), .slice A1 n1 c1]) rfl _ _ (hRc) (by exact size_cache) rfl (one_cache r1 f1 A1 n1 c1) ?_)
    have hRc2 := hRc.setRow [.int .i64 r1, .int .u64 (f1 : Int), .slice A1 n1 c1]
    have hbn := below_setRow hBc (Nat.le_refl _) [.int .i64 r1, .int .u64 (f1 : Int), .slice A1 n1 c1].toArray
    clear hRc hBc
    have hgz := hR2.lt
    generalize (w1.alloc (.cells l0C.toArray 35)).setRow w1.heap.size [.int .i64 r1, .int .u64 (f1 : Int), .slice A1 n1 c1].toArray = w2 at hRc2 hbn ⊢
    replace hr1 := hr1.keep hbn
    replace hR0 := hR0.later hbn
    replace hR1 := hR1.later hbn
    replace hR2 := hR2.later hbn
    have hB2 := below_step hB1 hbn
    clear hbn hB1
    generalize w1.heap.size = gc at hRc2 hgz ⊢
    have hn1 : n1 ≤ 1000000 := by rw [← HN1.out]; exact HL1.out
    go_wp2_with (first
      | (refine wpList_load_part rfl 35 (.tmp 10) rfl (gc) 0 rfl _ _ (hRc2) ([.int .i64 r1, .int .u64 (f1 : Int), .slice A1 n1 c1]) (by rfl) _ Tryz.underlying35 rfl (by exact size_cache) ?_)
      | (refine wpList_load_part rfl 57 (.tmp 5) rfl (w.heap.size + 1) 0 rfl _ _ (hR1) ([.int .u64 (u.1 : Int), .int .u64 (u.2.1 : Int), .int .u64 (u.2.2 : Int)]) (by rfl) _ Tryz.underlying57 rfl (by exact size_use) ?_))
    refine (HPU.out n1 A1 c1 _ HN1 hr1 hn1).mono ?_
    rintro e w3 ⟨A3, n3, c3, rfl, HN3, hc3, hr3, hf3, hb3⟩
    unfold aggC
    dsimp only at HN3 hr3 ⊢
    have hz3 := hb3.size
    have hgc := hRc2.lt
    replace hR0 := hR0.later hb3
    replace hR2 := hR2.later hb3
    have hB3 := below_step hB2 hb3
    have HF3 : Hid (∀ a, A3 = some a → gc < a.block) := fun a ha => by have := hf3 a ha; omega
    obtain ⟨hRd, hBd⟩ := box_of w3 35 l0C _ rfl
    clear hb3 HPU hB2 hRc2 hR1 hr1 hf3
    have hgz3 := hR2.lt
    go_upto_region 5 with (refine wpList_store_row rfl 35 (.tmp 12) (.tmp 30) rfl (w3.heap.size) rfl ([.int .i64 r2, .int .u64 (f2 : Int), .slice A3 n3 c3]) rfl _ _ (hRd) (by exact size_cache) rfl (one_cache r2 f2 A3 n3 c3) ?_)
    have hRd2 := hRd.setRow [.int .i64 r2, .int .u64 (f2 : Int), .slice A3 n3 c3]
    have hbn := below_setRow hBd (Nat.le_refl _) [.int .i64 r2, .int .u64 (f2 : Int), .slice A3 n3 c3].toArray
    clear hRd hBd
    generalize (w3.alloc (.cells l0C.toArray 35)).setRow w3.heap.size [.int .i64 r2, .int .u64 (f2 : Int), .slice A3 n3 c3].toArray = w4 at hRd2 hbn ⊢
    replace hr3 := hr3.keep hbn
    replace hR0 := hR0.later hbn
    replace hR2 := hR2.later hbn
    have hB4 := below_step hB3 hbn
    clear hbn hB3
    generalize w3.heap.size = gd at hRd2 hgz3 hz3 ⊢
    by_cases he : er2 = 0
    · subst he
      have HTT := Lib.hid (HT2.out hcl rfl)
      rw [HTT.out] at HFIT
      have hl2 := HS2.out rfl
      have HM2 := Lib.hid hl2
      rw [HN3.out] at hl2
      clear HT1 HT2 HS2 hcl
      go_upto_region 7 with fail
      have hS := cacS_of (W := w4.drew) (show Row w4.drew gd 35 [.int .i64 r2, .int .u64 (f2 : Int), .slice A3 n3 c3] from hRd2)
      have hR0' := hR0.drew
      have hR2' := hR2.drew
      have hRd' := hRd2.drew
      have hB' := hB4.drew
      have hr' := hr3.keep ((Below.refl _ w4).drew)
      refine wp_region_plan_of (cacS gd (.int .i64 r2) (.int .u64 (f2 : Int)) (.slice A3 n3 c3)) (.step 0 false (.step 1 false (.step 2 false (.step 3 true (.step 4 false (.step 5 true (.nil))))))) hS (by kernel_rfl) (by kernel_rfl) (by rfl) (by kernel_rfl) ?_
      clear hR0 hR2 hRd2 hB4 hr3
      generalize w4.drew = wv at *
      iterate 3 (refine plan_read rfl (by rfl) (v := ?_) ?_ ?_; rotate_left 1; (rintro W ⟨hW0, hW1⟩; go_simp <;> with_reducible rfl); simp only [pA, pB, pC, Act.put, pD, pE, pF])
      have hfr := hR0'.frozen 0
      have hc0 : wv.cell? ⟨w.heap.size, 0, none⟩ = some (.int .u64 (m.clock : Int)) := hR0'.cell rfl
      have hO5 := (Only.refl w.heap.size wv).setCell 0 (.int .u64 (clock : Int))
      have hR5 : Row (wv.setCell ⟨w.heap.size, 0, none⟩ (.int .u64 (clock : Int))) w.heap.size 37 [.int .u64 (clock : Int), .int .u64 (m.b.1 : Int), .slice x.b.eA x.b.n x.b.ec, .slice x.b.gA x.b.g x.b.gc, .int .i64 m.c.1, .int .u64 (m.c.2.1 : Int), .slice x.c.A x.c.s x.c.c] := hR0'.setCell 0 _
      have hRd5 := hRd'.only hO5 (show gd ≠ w.heap.size by omega)
      refine plan_make_of rfl (by rfl) (fun K hK => ?_)
      go_simp
      refine hK.out _ _ (cacS_of hRd5) ?_
      clear hK K
      have hR25 := hR2'.only hO5 (by omega)
      have hB5 := hB'.trans hO5.below
      have hr5 := hr'.only hO5 (fun _ a ha => by have := HF3.out a ha; omega)
      clear hR0' hR2' hRd' hB' hr' hO5 hfr hc0 hS
      generalize wv.setCell ⟨w.heap.size, 0, none⟩ (.int .u64 (clock : Int)) = w6 at *
      iterate 1 (refine plan_read rfl (by rfl) (v := ?_) ?_ ?_; rotate_left 1; (rintro W ⟨hW0, hW1⟩; go_simp <;> with_reducible rfl); simp only [pA, pB, pC, Act.put, pD, pE, pF])
      refine plan_make_of rfl (by rfl) (fun K hK => ?_)
      refine wp_store_mid 35 (.tmp 39) (.tmp 37) rfl w.heap.size 4 #[.int .i64 r2, .int .u64 (f2 : Int), .slice A3 n3 c3] rfl rfl (there_of hR5 4 3 (by simp)) (by exact size_cache) (by exact all_oneCell_toArray (one_three _ _ _ rfl rfl rfl)) ?_
      have hO7 := Only.setCells (g := w.heap.size) [.int .i64 r2, .int .u64 (f2 : Int), .slice A3 n3 c3] 4 (Only.refl _ w6)
      refine hK.out _ _ (cacS_of (hRd5.only hO7 (by omega))) ?_
      clear hK K
      have hR7 : Row (w6.setCells w.heap.size 4 [.int .i64 r2, .int .u64 (f2 : Int), .slice A3 n3 c3]) w.heap.size 37 [.int .u64 (clock : Int), .int .u64 (m.b.1 : Int), .slice x.b.eA x.b.n x.b.ec, .slice x.b.gA x.b.g x.b.gc, .int .i64 r2, .int .u64 (f2 : Int), .slice A3 n3 c3] := hR5.setCells _ 4 (by simp)
      have hR27 := hR25.only hO7 (by omega)
      have hB7 := hB5.trans hO7.below
      have hr7 := hr5.only hO7 (fun _ a ha => by have := HF3.out a ha; omega)
      clear hR5 hR25 hB5 hr5 hO7 hRd5
      generalize w6.setCells w.heap.size 4 [.int .i64 r2, .int .u64 (f2 : Int), .slice A3 n3 c3] = w8 at *
      refine plan_done ?_
      go_wp2_with (first
        | (refine wpList_load_part rfl 37 (.tmp 4) rfl (w.heap.size) 0 rfl _ _ (hR7) ([.int .u64 (clock : Int), .int .u64 (m.b.1 : Int), .slice x.b.eA x.b.n x.b.ec, .slice x.b.gA x.b.g x.b.gc, .int .i64 r2, .int .u64 (f2 : Int), .slice A3 n3 c3]) (by rfl) _ Tryz.underlying37 rfl (by exact size_memory) ?_)
        | (refine wpList_store_row rfl 37 (.tmp 8) (.tmp 40) rfl (w.heap.size + 1 + 1) rfl ([.int .u64 (clock : Int), .int .u64 (m.b.1 : Int), .slice x.b.eA x.b.n x.b.ec, .slice x.b.gA x.b.g x.b.gc, .int .i64 r2, .int .u64 (f2 : Int), .slice A3 n3 c3]) rfl _ _ (hR27) (by exact size_memory) rfl (one_memory ⟨x.b, ⟨A3, n3, c3⟩⟩ ⟨clock, m.b, (r2, f2, l2)⟩) ?_))
      refine bodyPost_ret (results_row_tmp (p := 8) (u := 9) (ty := 37) (by rfl) _ _ (w.heap.size + 1 + 1) 37 _ _ (by rfl) (by exact hR27.setRow _) Tryz.underlying37 (by rfl) (by exact size_memory)) (by rfl) ?_
      have hO9 := (Only.refl (w.heap.size + 1 + 1) w8).setRow [.int .u64 (clock : Int), .int .u64 (m.b.1 : Int), .slice x.b.eA x.b.n x.b.ec, .slice x.b.gA x.b.g x.b.gc, .int .i64 r2, .int .u64 (f2 : Int), .slice A3 n3 c3].toArray
      have hB9 := hB7.trans (hO9.below.mono (by omega))
      try (first | rw [HTT.out] | rw [HTT])
      exact ⟨⟨x.b, ⟨A3, n3, c3⟩⟩, rfl, ⟨HFIT.out.1, HM.out.ib.keep hB9, ⟨HN3.out, hc3, hr7.only hO9 (fun _ a ha => by have := HF3.out a ha; omega), by show n3 ≤ 1000000; omega, HFIT.out.2.2⟩⟩, (fun lo hi hh hf => ⟨hf.b, fun _ a ha => by have := HF3.out a ha; right; omega⟩), hB9⟩
    · have HTT := HT1.out hcl he
      rw [HTT] at HFIT ⊢
      have he1 : (er2 == 0) = false := beq_eq_false_iff_ne.2 he
      have he2 : (er2 != 0) = true := by rw [bne, he1]; rfl
      clear HT1 HT2 HS2 hcl he hr3 hRd2
      go_wp2_with (first
        | (refine wpList_load_part rfl 37 (.tmp 4) rfl (w.heap.size) 0 rfl _ _ (hR0) ((lM x m)) (by rfl) _ Tryz.underlying37 rfl (by exact size_memory) ?_)
        | (refine wpList_store_row rfl 37 (.tmp 8) (.tmp 34) rfl (w.heap.size + 1 + 1) rfl ((lM x m)) rfl _ _ (hR2) (by exact size_memory) rfl (one_memory x m) ?_))
      refine bodyPost_ret (results_row_tmp (p := 8) (u := 9) (ty := 37) (by rfl) _ _ (w.heap.size + 1 + 1) 37 _ _ (by rfl) (by exact hR2.setRow _) Tryz.underlying37 (by rfl) (by exact size_memory)) (by rfl) ?_
      have hB2 := below_setRow hB4 (show w.heap.size ≤ w.heap.size + 1 + 1 by omega) (lM x m).toArray
      try (first | rw [HTT.out] | rw [HTT])
      exact ⟨x, rfl, HM.out.keep hB2, (fun _ _ _ hf => hf), hB2⟩
theorem installed_any (x : WM) (m : MemK) (y : WB) (b : Bn) (w : World) (h : InM w x m) (hb : InB w y b) :
    Calls Tryz.prog 59 #[aggM x m, aggBW y b] w fun e w' => ((b.1 ≤ m.b.1 ∧ e = .returned (.tuple #[aggM x m, .int .i64 13])) ∨ (m.b.1 < b.1 ∧ e = .returned (.tuple #[aggM ⟨y, x.c⟩ { m with b := b }, .int .i64 0]))) ∧ Below w.heap.size w w' := by
  obtain ⟨hR0, hR1, hR2, hB⟩ := three_boxes w 37 32 37 (lM x m) (lB y b) l0M _ _ _ rfl rfl rfl
  clear h hb
  unfold aggM aggBW aggB
  by_cases hv : b.1 ≤ m.b.1
  · have i1 : (b.1 : Int) ≤ (m.b.1 : Int) := by omega
    have HV := Lib.hid hv
    clear hv
    go_enter Tryz.func59, Tryz.ntmps59
    go_upto_region 1 with fail
    generalize ((w.alloc (.cells (lM x m).toArray 37)).alloc (.cells (lB y b).toArray 32)).alloc (.cells l0M.toArray 37) = W0 at hR0 hR1 hR2 hB ⊢
    have k0 := hR0.cell (i := 1) rfl
    have k1 := hR1.cell (i := 0) rfl
    go_wp2_with (first
      | (refine wpList_load_part rfl 37 (.tmp 2) rfl (w.heap.size) 0 rfl _ _ (hR0) ((lM x m)) (by rfl) _ Tryz.underlying37 rfl (by exact size_memory) ?_)
      | (refine wpList_store_row rfl 37 (.tmp 4) (.tmp 12) rfl (w.heap.size + 1 + 1) rfl ((lM x m)) rfl _ _ (hR2) (by exact size_memory) rfl (one_memory x m) ?_))
    refine bodyPost_ret (results_row_tmp (p := 4) (u := 5) (ty := 37) (by rfl) _ _ (w.heap.size + 1 + 1) 37 _ _ (by rfl) (by exact hR2.setRow _) Tryz.underlying37 (by rfl) (by exact size_memory)) (by rfl) ?_
    exact ⟨.inl ⟨HV.out, rfl⟩, below_setRow hB (by omega) _⟩
  · have i1 : ¬ (b.1 : Int) ≤ (m.b.1 : Int) := by omega
    have HV := Lib.hid hv
    clear hv
    go_enter Tryz.func59, Tryz.ntmps59
    go_upto_region 1 with fail
    generalize ((w.alloc (.cells (lM x m).toArray 37)).alloc (.cells (lB y b).toArray 32)).alloc (.cells l0M.toArray 37) = W0 at hR0 hR1 hR2 hB ⊢
    have k0 := hR0.cell (i := 1) rfl
    have k1 := hR1.cell (i := 0) rfl
    have hX6 : Row (W0.setCells w.heap.size 1 (lB y b)) w.heap.size 37 [.int .u64 (m.clock : Int), .int .u64 (b.1 : Int), .slice y.eA y.n y.ec, .slice y.gA y.g y.gc, .int .i64 m.c.1, .int .u64 (m.c.2.1 : Int), .slice x.c.A x.c.s x.c.c] := hR0.setCells _ 1 (by simp)
    have hOs := Only.setCells (g := w.heap.size) (lB y b) 1 (Only.refl _ W0)
    have hR6 := hR2.only hOs (by omega)
    have hB6 := hB.trans hOs.below
    go_upto_region 4 with (first
      | (refine wpList_load_part rfl 32 (.tmp 3) rfl (w.heap.size + 1) 0 rfl _ _ (hR1) ((lB y b)) (by rfl) _ Tryz.underlying32 rfl (by exact size_bundle) ?_)
      | (refine wpList_store_mid rfl 32 (.tmp 14) (.tmp 13) rfl (w.heap.size) 1 ((lB y b).toArray) rfl rfl (there_of hR0 1 3 (by simp)) (by exact size_bundle) (by exact all_oneCell_toArray (one_three _ _ _ rfl rfl rfl)) ?_))
    clear hR0 hR1 hR2 hB hOs k0 k1
    generalize W0.setCells w.heap.size 1 (lB y b) = w6 at hX6 hR6 hB6 ⊢
    go_wp2_with (first
      | (refine wpList_load_part rfl 37 (.tmp 2) rfl (w.heap.size) 0 rfl _ _ (hX6) ([.int .u64 (m.clock : Int), .int .u64 (b.1 : Int), .slice y.eA y.n y.ec, .slice y.gA y.g y.gc, .int .i64 m.c.1, .int .u64 (m.c.2.1 : Int), .slice x.c.A x.c.s x.c.c]) (by rfl) _ Tryz.underlying37 rfl (by exact size_memory) ?_)
      | (refine wpList_store_row rfl 37 (.tmp 4) (.tmp 15) rfl (w.heap.size + 1 + 1) rfl ([.int .u64 (m.clock : Int), .int .u64 (b.1 : Int), .slice y.eA y.n y.ec, .slice y.gA y.g y.gc, .int .i64 m.c.1, .int .u64 (m.c.2.1 : Int), .slice x.c.A x.c.s x.c.c]) rfl _ _ (hR6) (by exact size_memory) rfl (one_memory ⟨y, x.c⟩ { m with b := b }) ?_))
    refine bodyPost_ret (results_row_tmp (p := 4) (u := 5) (ty := 37) (by rfl) _ _ (w.heap.size + 1 + 1) 37 _ _ (by rfl) (by exact hR6.setRow _) Tryz.underlying37 (by rfl) (by exact size_memory)) (by rfl) ?_
    exact ⟨.inr ⟨Nat.lt_of_not_le HV.out, rfl⟩, below_setRow hB6 (by omega) _⟩
def RetOn (g : Nat) (x : WM) (G : Option MemK) (w : World) (e : Ending) (w' : World) : Prop :=
  ∃ x' m' er, e = .returned (.tuple #[aggM x' m', .int .i64 er]) ∧ InM w' x' m' ∧ (∀ lo hi, hi ≤ w.heap.size → OffM lo hi x → OffM lo hi x') ∧ Hid (er = 0 → G = some m') ∧ Hid (er ≠ 0 → G = none) ∧ Only g w w'
def useG (m : MemK) (S : List UInt8) : Option MemK := if S.length = 40 then (if (takeM m (useAt S 0) (numAt S 24) (numAt S 32)).2 = 0 then some (takeM m (useAt S 0) (numAt S 24) (numAt S 32)).1 else none) else none
def bunG (m : MemK) (S : List UInt8) : Option MemK := match allB S with
  | none => none
  | some x => if m.b.1 < x.1 then some { m with b := x } else none
set_option maxHeartbeats 8000000 in
theorem onuse_any (x : WM) (m : MemK) (lo g : Nat) (S : List UInt8) (w : World) (hX : InM w x m) (hoff : OffM lo w.heap.size x) (hlo : lo ≤ g) (hT : RdRF g 0 S w) :
    Calls Tryz.prog 218 #[aggM x m, .pointer (some ⟨g, 0, none⟩)] w (RetOn g x (useG m S) w) := by
  have hgl := hT.lt
  obtain ⟨⟨u0, u1, u2⟩, k1, S1, H1⟩ : ∃ y k T, useK 0 S = (y, k, T) := ⟨_, _, _, rfl⟩
  obtain ⟨c, k2, S2, H2⟩ : ∃ y k T, num8K k1 S1 = (y, k, T) := ⟨_, _, _, rfl⟩
  obtain ⟨f, k3, S3, H3⟩ : ∃ y k T, num8K k2 S2 = (y, k, T) := ⟨_, _, _, rfl⟩
  obtain ⟨kE, hkE⟩ : ∃ k, endK k3 S3 = k := ⟨_, rfl⟩
  have hfu : fitU1 (u0, u1, u2) := by have := useK_fit 0 S; rw [H1] at this; exact this
  have hfc : c < 18446744073709551616 := by have := num8_lt k1 S1; rw [H2] at this; exact this
  have hff : f < 18446744073709551616 := by have := num8_lt k2 S2; rw [H3] at this; exact this
  have hst := steps_use H1 H2 H3
  rw [hkE] at hst
  have HG : Hid ((kE ≠ 0 → useG m S = none) ∧ (kE = 0 → useG m S = if (takeM m (u0, u1, u2) c f).2 = 0 then some (takeM m (u0, u1, u2) c f).1 else none)) := by
    obtain ⟨h1, h2⟩ := hst
    unfold useG
    by_cases hl : S.length = 40
    · obtain ⟨e0, e1, e2, e3⟩ := h1 hl
      rw [if_pos hl, ← e1, ← e2, ← e3]
      exact ⟨fun h => absurd e0 h, fun _ => rfl⟩
    · rw [if_neg hl]
      exact ⟨fun _ => rfl, fun h => absurd h (h2 hl)⟩
  replace H1 := Lib.hid H1
  replace H2 := Lib.hid H2
  replace H3 := Lib.hid H3
  have HKE := Lib.hid hkE
  have HX := Lib.hid (fun W (hb : Below g w W) => hX.old hoff (hb.mono hlo))
  have HOF := Lib.hid (fun hi => hoff.any hX hi)
  have HFU := Lib.hid hfu
  clear hst hkE hX hfu hoff
  obtain ⟨hR0, hR1, hB⟩ := two_boxes w 37 37 (lM x m) l0M _ _ rfl rfl
  have hT0 := hT.below (hB.mono (show g + 1 ≤ w.heap.size by omega))
  unfold aggM
  go_enter Tryz.func218, Tryz.ntmps218
  go_upto_region 1 with fail
  generalize (w.alloc (.cells (lM x m).toArray 37)).alloc (.cells l0M.toArray 37) = W0 at hR0 hR1 hB hT0 ⊢
  have hBg := Only.later hB (show g ≤ w.heap.size by omega)
  have hs0 := hB.size
  clear hT hB
  go_wp2_with fail
  refine (readuse_any g 0 S W0 hT0).mono ?_
  rw [H1.out]
  rintro e w1 ⟨rfl, hT1, hO⟩
  dsimp only at hT1 ⊢
  replace hR0 := hR0.only hO (by omega)
  replace hR1 := hR1.only hO (by omega)
  replace hBg := hBg.trans hO
  have hl1 := hR1.lt
  obtain ⟨hRu, hBu⟩ := box_of w1 57 [.int .u64 0, .int .u64 0, .int .u64 0] _ rfl
  clear hO hT0
  go_upto_region 2 with (refine wpList_store_row rfl 57 (.tmp 6) (.tmp 10) rfl (w1.heap.size) rfl ([.int .u64 (u0 : Int), .int .u64 (u1 : Int), .int .u64 (u2 : Int)]) rfl _ _ (hRu) (by exact size_use) rfl (one_three _ _ _ rfl rfl rfl) ?_)
  have hRu2 := hRu.setRow [.int .u64 (u0 : Int), .int .u64 (u1 : Int), .int .u64 (u2 : Int)]
  have hbn := below_setRow hBu (Nat.le_refl _) [.int .u64 (u0 : Int), .int .u64 (u1 : Int), .int .u64 (u2 : Int)].toArray
  clear hRu hBu
  generalize (w1.alloc (.cells #[.int .u64 0, .int .u64 0, .int .u64 0] 57)).setRow w1.heap.size [.int .u64 (u0 : Int), .int .u64 (u1 : Int), .int .u64 (u2 : Int)].toArray = w2 at hRu2 hbn ⊢
  replace hR0 := hR0.later hbn
  replace hR1 := hR1.later hbn
  have hT2 := hT1.below (hbn.mono (show g + 1 ≤ w1.heap.size by omega))
  replace hBg := hBg.laterBy (by omega) (hbn.mono (by omega))
  clear hT1 hbn
  generalize w1.heap.size = gu at hRu2 hl1 ⊢
  go_wp2_with fail
  refine (number8_any g k1 S1 w2 hT2).mono ?_
  rw [H2.out]
  rintro e w3 ⟨rfl, hT3, hO⟩
  dsimp only at hT3 ⊢
  replace hR0 := hR0.only hO (by omega)
  replace hR1 := hR1.only hO (by omega)
  replace hRu2 := hRu2.only hO (by omega)
  replace hBg := hBg.trans hO
  clear hO hT2
  go_wp2_with fail
  refine (number8_any g k2 S2 w3 hT3).mono ?_
  rw [H3.out]
  rintro e w4 ⟨rfl, hT4, hO⟩
  dsimp only at hT4 ⊢
  replace hR0 := hR0.only hO (by omega)
  replace hR1 := hR1.only hO (by omega)
  replace hRu2 := hRu2.only hO (by omega)
  replace hBg := hBg.trans hO
  clear hO hT3
  go_wp2_with fail
  refine (endF_any g k3 S3 w4 hT4).mono ?_
  rw [HKE.out]
  rintro e w5 ⟨rfl, ⟨vg, hG⟩, hO⟩
  replace hR0 := hR0.only hO (by omega)
  replace hR1 := hR1.only hO (by omega)
  replace hRu2 := hRu2.only hO (by omega)
  replace hBg := hBg.trans hO
  clear hO hT4
  have cg : w5.cell? ⟨g, 1, none⟩ = some (.int .i64 kE) := hG.cell rfl
  by_cases hz : kE = 0
  · subst hz
    have HUS := Lib.hid (used_any x m (u0, u1, u2) c f w5 (HX.out _ hBg.below) HFU.out hfc hff)
    obtain ⟨P, hP⟩ : ∃ P, takeM m (u0, u1, u2) c f = P := ⟨_, rfl⟩
    have HG2 := Lib.hid (HG.out.2 rfl)
    rw [hP] at HUS HG2
    unfold aggM at HUS
    clear hP HG
    go_wp2_with (first
      | (refine wpList_load_part rfl 37 (.tmp 2) rfl (w.heap.size) 0 rfl _ _ (hR0) ((lM x m)) (by rfl) _ Tryz.underlying37 rfl (by exact size_memory) ?_)
      | (refine wpList_load_part rfl 57 (.tmp 6) rfl (gu) 0 rfl _ _ (hRu2) ([.int .u64 (u0 : Int), .int .u64 (u1 : Int), .int .u64 (u2 : Int)]) (by rfl) _ Tryz.underlying57 rfl (by exact size_use) ?_))
    refine HUS.out.mono ?_
    rintro e w6 ⟨x', rfl, hI6, hf6, hb6⟩
    unfold aggM
    have hl5 := hRu2.lt
    have hR16 := hR1.later hb6
    have hl16 := hR1.lt
    have hs5 := hBg.below.size
    have hB6 := hBg.laterBy (by omega) (hb6.mono (by omega))
    obtain ⟨M', er⟩ := P
    dsimp only at hI6 HG2 ⊢
    clear hR0 hR1 hRu2 cg HUS hb6
    go_wp2_with (refine wpList_store_row rfl 37 (.tmp 4) (.tmp 32) rfl (w.heap.size + 1) rfl ((lM x' M')) rfl _ _ (hR16) (by exact size_memory) rfl (one_memory x' M') ?_)
    refine bodyPost_ret (results_row_tmp (p := 4) (u := 5) (ty := 37) (by rfl) _ _ (w.heap.size + 1) 37 _ _ (by rfl) (by exact hR16.setRow _) Tryz.underlying37 (by rfl) (by exact size_memory)) (by rfl) ?_
    have hoff5 := hf6 lo _ (Nat.le_refl _) (HOF.out _)
    have hO7 := (Only.refl (w.heap.size + 1) w6).setRow (lM x' M').toArray
    refine ⟨x', M', er, rfl, hI6.at_only hO7 hoff5 (by omega) (by omega), (fun lo' hi hh ho => hf6 lo' hi (by omega) ho), ?_, ?_, hB6.setRowNew (by omega) (by omega) _⟩
    · intro h0
      rw [HG2.out, if_pos h0]
    · intro h0
      rw [HG2.out, if_neg h0]
  · have hz1 : (kE == 0) = false := beq_eq_false_iff_ne.2 hz
    have hz2 : (kE != 0) = true := by rw [bne, hz1]; rfl
    have HG2 := Lib.hid (HG.out.1 hz)
    clear HG
    go_upto_region 5 with fail
    have hS := memR_of (W := w5.drew) (show Row w5.drew w.heap.size 37 (lM x m) from hR0) (show Row w5.drew g 220 [vg, .int .i64 kE] from hG)
    have hR0' := hR0.drew
    have hR1' := hR1.drew
    have hG' := hG.drew
    have hBg' := hBg.drew
    refine wp_region_plan_of (memR w.heap.size g (.int .u64 (m.clock : Int)) (.int .u64 (m.b.1 : Int)) (.slice x.b.eA x.b.n x.b.ec) (.slice x.b.gA x.b.g x.b.gc) (.int .i64 m.c.1) (.int .u64 (m.c.2.1 : Int)) (.slice x.c.A x.c.s x.c.c) (.int .i64 kE)) (.step 0 false (.step 1 false (.step 2 false (.step 3 false (.step 4 false (.step 5 true (.step 6 false (.nil)))))))) hS (by kernel_rfl) (by kernel_rfl) (by rfl) (by kernel_rfl) ?_
    clear hR0 hR1 hG hBg hRu2 cg
    generalize w5.drew = wv at *
    iterate 5 (refine plan_read rfl (by rfl) (v := ?_) ?_ ?_; rotate_left 1; (rintro W ⟨hW0, hW1⟩; go_simp <;> with_reducible rfl); simp only [pA, pB, pC, Act.put, pD, pE, pF])
    refine plan_make_of rfl (by rfl) (fun K hK => ?_)
    refine hR1'.wp_store 37 (.tmp 4) (.tmp 22) rfl rfl (lM x m) rfl (by exact size_memory) rfl (one_memory x m) ?_
    refine hK.out _ _ (memR_of (hR0'.setRow_other (by omega) _) (hG'.setRow_other (by omega) _)) ?_
    clear hK K
    simp only [pA, pB, pC, Act.put, pD, pE, pF]
    iterate 1 (refine plan_read rfl (by rfl) (v := ?_) ?_ ?_; rotate_left 1; (rintro W ⟨hW0, hW1⟩; go_simp <;> with_reducible rfl); simp only [pA, pB, pC, Act.put, pD, pE, pF])
    refine plan_done ?_
    go_wp2_with fail
    refine bodyPost_ret (results_row_tmp (p := 4) (u := 5) (ty := 37) (by rfl) _ _ (w.heap.size + 1) 37 _ _ (by rfl) (by exact hR1'.setRow _) Tryz.underlying37 (by rfl) (by exact size_memory)) (by rfl) ?_
    have hBf := hBg'.setRowNew (by omega) (show w.heap.size ≤ w.heap.size + 1 by omega) (lM x m).toArray
    refine ⟨x, m, kE, rfl, HX.out _ hBf.below, (fun _ _ _ ho => ho), fun h0 => absurd h0 hz, fun _ => HG2.out, hBf⟩
set_option maxHeartbeats 8000000 in
theorem onbun_any (x : WM) (m : MemK) (lo g : Nat) (S : List UInt8) (w : World) (hX : InM w x m) (hoff : OffM lo w.heap.size x) (hlo : lo ≤ g) (hT : RdRF g 0 S w) :
    Calls Tryz.prog 219 #[aggM x m, .pointer (some ⟨g, 0, none⟩)] w (RetOn g x (bunG m S) w) := by
  have hgl := hT.lt
  have HX := Lib.hid (fun W (hb : Below g w W) => hX.old hoff (hb.mono hlo))
  have HOF := Lib.hid (fun hi => hoff.any hX hi)
  clear hX hoff
  obtain ⟨hR0, hR1, hB⟩ := two_boxes w 37 37 (lM x m) l0M _ _ rfl rfl
  have hT0 := hT.below (hB.mono (show g + 1 ≤ w.heap.size by omega))
  unfold aggM
  go_enter Tryz.func219, Tryz.ntmps219
  go_upto_region 1 with fail
  generalize (w.alloc (.cells (lM x m).toArray 37)).alloc (.cells l0M.toArray 37) = W0 at hR0 hR1 hB hT0 ⊢
  have hBg := Only.later hB (show g ≤ w.heap.size by omega)
  have hs0 := hR1.lt
  clear hT hB
  go_wp2_with fail
  refine (readbundle_any g 0 S W0 hT0).mono ?_
  rintro e w1 ⟨y, b, kE, vg, rfl, hIb, hFb, hBK, hG, hO⟩
  unfold aggBW aggB
  replace hR0 := hR0.only hO (by omega)
  replace hR1 := hR1.only hO (by omega)
  replace hBg := hBg.trans hO
  have hs1 := hO.below.size
  have hOb := hFb.off lo
  obtain ⟨hRu, hBu⟩ := box_of w1 32 l0B _ rfl
  have HGG : Hid ((kE ≠ 0 → bunG m S = none) ∧ (kE = 0 → bunG m S = if m.b.1 < b.1 then some { m with b := b } else none)) := by
    unfold bunG
    rcases hBK.2 rfl with ⟨h1, h2⟩ | ⟨h1, h2⟩
    · rw [h2]
      exact ⟨fun h => absurd h1 h, fun _ => rfl⟩
    · rw [h2]
      exact ⟨fun _ => rfl, fun h => absurd h h1⟩
  clear hO hT0 hBK
  go_upto_region 2 with (refine wpList_store_row rfl 32 (.tmp 6) (.tmp 8) rfl (w1.heap.size) rfl ((lB y b)) rfl _ _ (hRu) (by exact size_bundle) rfl (one_three _ _ _ rfl rfl rfl) ?_)
  have hRu2 := hRu.setRow (lB y b)
  have hbn := below_setRow hBu (Nat.le_refl _) (lB y b).toArray
  clear hRu hBu
  generalize (w1.alloc (.cells l0B.toArray 32)).setRow w1.heap.size (lB y b).toArray = w2 at hRu2 hbn ⊢
  replace hR0 := hR0.later hbn
  replace hR1 := hR1.later hbn
  replace hG := hG.later hbn
  replace hIb := hIb.keep hbn
  replace hBg := hBg.laterBy (by omega) (hbn.mono (by omega))
  clear hbn
  generalize w1.heap.size = gu at hRu2 hs1 ⊢
  have cg : w2.cell? ⟨g, 1, none⟩ = some (.int .i64 kE) := hG.cell rfl
  by_cases hz : kE = 0
  · subst hz
    have HG2 := Lib.hid (HGG.out.2 rfl)
    have HIN := Lib.hid (installed_any x m y b w2 (HX.out _ hBg.below) hIb)
    unfold aggM aggBW aggB at HIN
    clear HGG
    go_wp2_with (first
      | (refine wpList_load_part rfl 37 (.tmp 2) rfl (w.heap.size) 0 rfl _ _ (hR0) ((lM x m)) (by rfl) _ Tryz.underlying37 rfl (by exact size_memory) ?_)
      | (refine wpList_load_part rfl 32 (.tmp 6) rfl (gu) 0 rfl _ _ (hRu2) ((lB y b)) (by rfl) _ Tryz.underlying32 rfl (by exact size_bundle) ?_))
    refine HIN.out.mono ?_
    rintro e w3 ⟨hcase, hb3⟩
    have hl2 := hRu2.lt
    have hR13 := hR1.later hb3
    have hl1 := hR1.lt
    have hI3 := hIb.keep hb3
    have hB3 := hBg.laterBy (by omega) (hb3.mono (by omega))
    clear hR0 hR1 hRu2 cg HIN hG hb3 hIb
    rcases hcase with ⟨hv, rfl⟩ | ⟨hv, rfl⟩
    · have HV := Lib.hid hv
      clear hv
      go_wp2_with (refine wpList_store_row rfl 37 (.tmp 4) (.tmp 22) rfl (w.heap.size + 1) rfl ((lM x m)) rfl _ _ (hR13) (by exact size_memory) rfl (one_memory x m) ?_)
      refine bodyPost_ret (results_row_tmp (p := 4) (u := 5) (ty := 37) (by rfl) _ _ (w.heap.size + 1) 37 _ _ (by rfl) (by exact hR13.setRow _) Tryz.underlying37 (by rfl) (by exact size_memory)) (by rfl) ?_
      have hBf := hB3.setRowNew (by omega) (show w.heap.size ≤ w.heap.size + 1 by omega) (lM x m).toArray
      refine ⟨x, m, 13, rfl, HX.out _ hBf.below, (fun _ _ _ ho => ho), fun h0 => absurd h0 (by decide), fun _ => by rw [HG2.out, if_neg (by have := HV.out; omega)], hBf⟩
    · have HV := Lib.hid hv
      clear hv
      go_wp2_with (refine wpList_store_row rfl 37 (.tmp 4) (.tmp 22) rfl (w.heap.size + 1) rfl ([.int .u64 (m.clock : Int), .int .u64 (b.1 : Int), .slice y.eA y.n y.ec, .slice y.gA y.g y.gc, .int .i64 m.c.1, .int .u64 (m.c.2.1 : Int), .slice x.c.A x.c.s x.c.c]) rfl _ _ (hR13) (by exact size_memory) rfl (one_memory ⟨y, x.c⟩ { m with b := b }) ?_)
      refine bodyPost_ret (results_row_tmp (p := 4) (u := 5) (ty := 37) (by rfl) _ _ (w.heap.size + 1) 37 _ _ (by rfl) (by exact hR13.setRow _) Tryz.underlying37 (by rfl) (by exact size_memory)) (by rfl) ?_
      have hO7 := (Only.refl (w.heap.size + 1) w3).setRow [.int .u64 (m.clock : Int), .int .u64 (b.1 : Int), .slice y.eA y.n y.ec, .slice y.gA y.g y.gc, .int .i64 m.c.1, .int .u64 (m.c.2.1 : Int), .slice x.c.A x.c.s x.c.c].toArray
      have hBf := hB3.setRowNew (by omega) (show w.heap.size ≤ w.heap.size + 1 by omega) [.int .u64 (m.clock : Int), .int .u64 (b.1 : Int), .slice y.eA y.n y.ec, .slice y.gA y.g y.gc, .int .i64 m.c.1, .int .u64 (m.c.2.1 : Int), .slice x.c.A x.c.s x.c.c].toArray
      have hXf := HX.out _ hBf.below
      refine ⟨⟨y, x.c⟩, { m with b := b }, 0, rfl, ⟨hXf.fc, hI3.at_only hO7 hOb (by omega) (by omega), hXf.ic⟩, (fun lo' hi hh ho => ⟨(hFb.off lo').mono (Nat.le_refl _) (by omega), ho.c⟩), fun _ => by rw [HG2.out, if_pos HV.out], fun h0 => absurd rfl h0, hBf⟩
  · have hz1 : (kE == 0) = false := beq_eq_false_iff_ne.2 hz
    have hz2 : (kE != 0) = true := by rw [bne, hz1]; rfl
    have HG2 := Lib.hid (HGG.out.1 hz)
    clear HGG
    go_upto_region 3 with fail
    have hS := memR_of (W := w2.drew) (show Row w2.drew w.heap.size 37 (lM x m) from hR0) (show Row w2.drew g 220 [vg, .int .i64 kE] from hG)
    have hR0' := hR0.drew
    have hR1' := hR1.drew
    have hG' := hG.drew
    have hBg' := hBg.drew
    refine wp_region_plan_of (memR w.heap.size g (.int .u64 (m.clock : Int)) (.int .u64 (m.b.1 : Int)) (.slice x.b.eA x.b.n x.b.ec) (.slice x.b.gA x.b.g x.b.gc) (.int .i64 m.c.1) (.int .u64 (m.c.2.1 : Int)) (.slice x.c.A x.c.s x.c.c) (.int .i64 kE)) (.step 0 false (.step 1 false (.step 2 false (.step 3 false (.step 4 false (.step 5 true (.step 6 false (.nil)))))))) hS (by kernel_rfl) (by kernel_rfl) (by rfl) (by kernel_rfl) ?_
    clear hR0 hR1 hG hBg hRu2 cg hIb
    generalize w2.drew = wv at *
    iterate 5 (refine plan_read rfl (by rfl) (v := ?_) ?_ ?_; rotate_left 1; (rintro W ⟨hW0, hW1⟩; go_simp <;> with_reducible rfl); simp only [pA, pB, pC, Act.put, pD, pE, pF])
    refine plan_make_of rfl (by rfl) (fun K hK => ?_)
    refine hR1'.wp_store 37 (.tmp 4) (.tmp 14) rfl rfl (lM x m) rfl (by exact size_memory) rfl (one_memory x m) ?_
    refine hK.out _ _ (memR_of (hR0'.setRow_other (by omega) _) (hG'.setRow_other (by omega) _)) ?_
    clear hK K
    simp only [pA, pB, pC, Act.put, pD, pE, pF]
    iterate 1 (refine plan_read rfl (by rfl) (v := ?_) ?_ ?_; rotate_left 1; (rintro W ⟨hW0, hW1⟩; go_simp <;> with_reducible rfl); simp only [pA, pB, pC, Act.put, pD, pE, pF])
    refine plan_done ?_
    go_wp2_with fail
    refine bodyPost_ret (results_row_tmp (p := 4) (u := 5) (ty := 37) (by rfl) _ _ (w.heap.size + 1) 37 _ _ (by rfl) (by exact hR1'.setRow _) Tryz.underlying37 (by rfl) (by exact size_memory)) (by rfl) ?_
    have hBf := hBg'.setRowNew (by omega) (show w.heap.size ≤ w.heap.size + 1 by omega) (lM x m).toArray
    refine ⟨x, m, kE, rfl, HX.out _ hBf.below, (fun _ _ _ ho => ho), fun h0 => absurd h0 hz, fun _ => HG2.out, hBf⟩
end Go.Proofs.YteppocjgodmpdaaGreatDoor
namespace Go.Proofs.YteppocjgodmpdaaGreatDoor
open Go.RowKit
def xorW (x y : UInt32) : UInt32 := x ^^^ y
def andW (x y : UInt32) : UInt32 := x &&& y
def orW (x y : UInt32) : UInt32 := x ||| y
def addW (x y : UInt32) : UInt32 := x + y
def notW (x : UInt32) : UInt32 := ~~~x
theorem u32_xor_w (x y : UInt32) : bits .xor .u32 (x.toNat : Int) (y.toNat : Int) = ((xorW x y).toNat : Int) := by
  rw [u32_xor_nat _ _ (u32_lt x) (u32_lt y)]
  rfl
theorem u32_and_w (x y : UInt32) : bits .and .u32 (x.toNat : Int) (y.toNat : Int) = ((andW x y).toNat : Int) := by
  rw [u32_and_nat _ _ (u32_lt x) (u32_lt y)]
  rfl
theorem u32_or_w (x y : UInt32) : bits .or .u32 (x.toNat : Int) (y.toNat : Int) = ((orW x y).toNat : Int) := by
  rw [u32_or_nat _ _ (u32_lt x) (u32_lt y)]
  rfl
theorem addW_toNat (x y : UInt32) : (addW x y).toNat = (x.toNat + y.toNat) % 4294967296 := UInt32.toNat_add x y
theorem u32_add_w (x y : UInt32) : IntKind.u32.wrap ((x.toNat : Int) + (y.toNat : Int)) = ((addW x y).toNat : Int) := by
  rw [IntKind.wrap_u32', addW_toNat]
  omega
theorem u32_add_m (x y : UInt32) : ((x.toNat : Int) + (y.toNat : Int)) % 4294967296 = ((addW x y).toNat : Int) := by
  rw [addW_toNat]
  omega
theorem u32_not_w (x : UInt32) : 4294967295 - (x.toNat : Int) = ((notW x).toNat : Int) := by
  have hx := u32_lt x
  have : (notW x).toNat = 4294967295 - x.toNat := by
    show (~~~x.toBitVec).toNat = _
    rw [BitVec.toNat_not]
    rfl
  rw [this]
  omega
theorem u32_not_ww (x : UInt32) : IntKind.u32.wrap (4294967295 - (x.toNat : Int)) = ((notW x).toNat : Int) := by
  rw [← u32_not_w, IntKind.wrap_u32']
  have hx := u32_lt x
  omega
theorem u32_mod_w (x : UInt32) : (x.toNat : Int) % 4294967296 = (x.toNat : Int) := by
  have hx := u32_lt x
  omega
theorem u32_wrap_w (x : UInt32) : IntKind.u32.wrap (x.toNat : Int) = (x.toNat : Int) := by
  rw [IntKind.wrap_u32']
  exact u32_mod_w x
def dn (x : UInt32) (k : Nat) : UInt32 := UInt32.ofNat (x.toNat / 2 ^ k)
theorem dn_toNat (x : UInt32) (k : Nat) : (dn x k).toNat = x.toNat / 2 ^ k := by
  have hx := u32_lt x
  have h : x.toNat / 2 ^ k ≤ x.toNat := Nat.div_le_self _ _
  rw [dn, UInt32.toNat_ofNat']
  exact Nat.mod_eq_of_lt (by omega)
def kL : List UInt32 := [1116352408, 1899447441, 3049323471, 3921009573, 961987163, 1508970993, 2453635748, 2870763221, 3624381080, 310598401, 607225278, 1426881987, 1925078388, 2162078206, 2614888103, 3248222580, 3835390401, 4022224774, 264347078, 604807628, 770255983, 1249150122, 1555081692, 1996064986, 2554220882, 2821834349, 2952996808, 3210313671, 3336571891, 3584528711, 113926993, 338241895, 666307205, 773529912, 1294757372, 1396182291, 1695183700, 1986661051, 2177026350, 2456956037, 2730485921, 2820302411, 3259730800, 3345764771, 3516065817, 3600352804, 4094571909, 275423344, 430227734, 506948616, 659060556, 883997877, 958139571, 1322822218, 1537002063, 1747873779, 1955562222, 2024104815, 2227730452, 2361852424, 2428436474, 2756734187, 3204031479, 3329325298]
def sig0 (x : UInt32) : UInt32 := xorW (xorW (rotR x 7) (rotR x 18)) (dn x 3)
def sig1 (x : UInt32) : UInt32 := xorW (xorW (rotR x 17) (rotR x 19)) (dn x 10)
def Sig0 (x : UInt32) : UInt32 := xorW (xorW (rotR x 2) (rotR x 13)) (rotR x 22)
def Sig1 (x : UInt32) : UInt32 := xorW (xorW (rotR x 6) (rotR x 11)) (rotR x 25)
def chW (e f g : UInt32) : UInt32 := orW (andW e f) (andW (notW e) g)
def majW (a b c : UInt32) : UInt32 := orW (orW (andW a b) (andW a c)) (andW b c)
def nextW (l : List UInt32) : UInt32 := addW (addW (addW (sig1 (l.getD (l.length - 2) 0)) (l.getD (l.length - 7) 0)) (sig0 (l.getD (l.length - 15) 0))) (l.getD (l.length - 16) 0)
def moreW : Nat → List UInt32 → List UInt32
  | 0, l => l
  | n + 1, l => moreW n l ++ [nextW (moreW n l)]
theorem moreW_length (n : Nat) (l : List UInt32) : (moreW n l).length = l.length + n := by
  induction n with
  | zero => rfl
  | succ n ih => rw [moreW, List.length_append, ih]; rfl
structure St where
  a : UInt32
  b : UInt32
  c : UInt32
  d : UInt32
  e : UInt32
  f : UInt32
  g : UInt32
  h : UInt32
def St.toL (s : St) : List UInt32 := [s.a, s.b, s.c, s.d, s.e, s.f, s.g, s.h]
def tW (s : St) (k w : UInt32) : UInt32 := addW (addW (addW (addW s.h (Sig1 s.e)) (chW s.e s.f s.g)) k) w
def uW (s : St) : UInt32 := addW (Sig0 s.a) (majW s.a s.b s.c)
def St.round (s : St) (k w : UInt32) : St := ⟨addW (tW s k w) (uW s), s.a, s.b, s.c, addW s.d (tW s k w), s.e, s.f, s.g⟩
structure Tab where
  k : List UInt32
def kT [I : Inhabited Tab] : List UInt32 := I.default.k
def St.rounds [Inhabited Tab] (l : List UInt32) : Nat → St → St
  | 0, s => s
  | n + 1, s => (St.rounds l n s).round (kT.getD n 0) (l.getD n 0)
def St.plus (s t : St) : St := ⟨addW s.a t.a, addW s.b t.b, addW s.c t.c, addW s.d t.d, addW s.e t.e, addW s.f t.f, addW s.g t.g, addW s.h t.h⟩
def St.block [Inhabited Tab] (s : St) (b : List UInt8) : St := s.plus (St.rounds (moreW 48 (wordsL b)) 64 s)
def St.from [Inhabited Tab] (s : St) (b : List UInt8) : St := if 64 ≤ b.length then St.from (s.block (b.take 64)) (b.drop 64) else s
termination_by b.length
decreasing_by simp; omega
def fillL (b : List UInt8) (many : Nat) : List UInt8 := b ++ 128 :: List.replicate ((119 - b.length % 64) % 64) 0 ++ putL (8 * many % 18446744073709551616)
def startSt : St := ⟨1779033703, 3144134277, 1013904242, 2773480762, 1359893119, 2600822924, 528734635, 1541459225⟩
def sumL [Inhabited Tab] (b : List UInt8) : List UInt8 := bytesL (startSt.from (fillL b b.length)).toL
end Go.Proofs.YteppocjgodmpdaaGreatDoor
namespace Go.Proofs.YteppocjgodmpdaaGreatDoor
instance tabK : Inhabited Tab := ⟨⟨kL⟩⟩
end Go.Proofs.YteppocjgodmpdaaGreatDoor
namespace Go.Proofs.YteppocjgodmpdaaGreatDoor
open Go.RowKit
end Go.Proofs.YteppocjgodmpdaaGreatDoor
namespace Go.Proofs.YteppocjgodmpdaaGreatDoor
open Go.RowKit
end Go.Proofs.YteppocjgodmpdaaGreatDoor
namespace Go.Proofs.YteppocjgodmpdaaGreatDoor
open Go.RowKit
attribute [local go_sem] u32_xor_w u32_and_w u32_or_w u32_add_w u32_add_m u32_not_w u32_not_ww u32_mod_w u32_wrap_w
def RoundRel [Inhabited Tab] (s : St) (L : List UInt32) (w : World) (a b c d e f g h i : Value) (wr : World) : Prop :=
  ∃ n : Nat, n ≤ 64 ∧ i = .int .i64 (n : Int) ∧ a = .int .u32 ((St.rounds L n s).a.toNat : Int) ∧ b = .int .u32 ((St.rounds L n s).b.toNat : Int) ∧ c = .int .u32 ((St.rounds L n s).c.toNat : Int) ∧ d = .int .u32 ((St.rounds L n s).d.toNat : Int) ∧
    e = .int .u32 ((St.rounds L n s).e.toNat : Int) ∧ f = .int .u32 ((St.rounds L n s).f.toNat : Int) ∧ g = .int .u32 ((St.rounds L n s).g.toNat : Int) ∧ h = .int .u32 ((St.rounds L n s).h.toNat : Int) ∧ Below w.heap.size w wr
theorem round_next [Inhabited Tab] {s : St} {L : List UInt32} {w wr : World} {n : Nat} {S : St} (hn : n < 64) (HS : Hid (St.rounds L (n + 1) s = S.round (kT.getD n 0) (L.getD n 0))) (hb : Below w.heap.size w wr) :
    RoundRel s L w (.int .u32 ((addW (tW S (kT.getD n 0) (L.getD n 0)) (uW S)).toNat : Int)) (.int .u32 (S.a.toNat : Int)) (.int .u32 (S.b.toNat : Int)) (.int .u32 (S.c.toNat : Int)) (.int .u32 ((addW S.d (tW S (kT.getD n 0) (L.getD n 0))).toNat : Int)) (.int .u32 (S.e.toNat : Int)) (.int .u32 (S.f.toNat : Int)) (.int .u32 (S.g.toNat : Int)) (.int .i64 ((n : Int) + 1)) wr :=
  ⟨n + 1, by omega, rfl, by rw [HS.out]; rfl, by rw [HS.out]; rfl, by rw [HS.out]; rfl, by rw [HS.out]; rfl, by rw [HS.out]; rfl, by rw [HS.out]; rfl, by rw [HS.out]; rfl, by rw [HS.out]; rfl, hb⟩
end Go.Proofs.YteppocjgodmpdaaGreatDoor
namespace Go.Proofs.YteppocjgodmpdaaGreatDoor
open Go.RowKit
theorem from_step [Inhabited Tab] (s : St) (b : List UInt8) (h : 64 ≤ b.length) : s.from b = (s.block (b.take 64)).from (b.drop 64) := by
  rw [St.from, if_pos h]
theorem from_stop [Inhabited Tab] (s : St) (b : List UInt8) (h : ¬ 64 ≤ b.length) : s.from b = s := by
  rw [St.from, if_neg h]
end Go.Proofs.YteppocjgodmpdaaGreatDoor
namespace Go.Proofs.YteppocjgodmpdaaGreatDoor
open Go.RowKit
end Go.Proofs.YteppocjgodmpdaaGreatDoor
namespace Go.Proofs.YteppocjgodmpdaaGreatDoor
open Go.RowKit
theorem ch_xor (e f g : UInt32) : xorW (andW e f) (andW (notW e) g) = chW e f g := by
  unfold chW xorW andW notW orW
  apply UInt32.toBitVec_inj.1
  apply BitVec.eq_of_getLsbD_eq
  intro i hi
  simp only [UInt32.toBitVec_xor, UInt32.toBitVec_and, UInt32.toBitVec_not, UInt32.toBitVec_or, BitVec.getLsbD_xor, BitVec.getLsbD_and, BitVec.getLsbD_or, BitVec.getLsbD_not, hi, decide_true, Bool.true_and]
  cases e.toBitVec.getLsbD i <;> simp
theorem maj_xor (a b c : UInt32) : xorW (xorW (andW a b) (andW a c)) (andW b c) = majW a b c := by
  unfold majW xorW andW orW
  apply UInt32.toBitVec_inj.1
  apply BitVec.eq_of_getLsbD_eq
  intro i hi
  simp only [UInt32.toBitVec_xor, UInt32.toBitVec_and, UInt32.toBitVec_or, BitVec.getLsbD_xor, BitVec.getLsbD_and, BitVec.getLsbD_or]
  cases a.toBitVec.getLsbD i <;> cases b.toBitVec.getLsbD i <;> simp
theorem not_xor (x : UInt32) : xorW 4294967295 x = notW x := by
  unfold xorW notW
  apply UInt32.toBitVec_inj.1
  apply BitVec.eq_of_getLsbD_eq
  intro i hi
  have h1 : (4294967295 : UInt32).toBitVec = BitVec.allOnes 32 := rfl
  simp only [UInt32.toBitVec_xor, UInt32.toBitVec_not, h1, BitVec.getLsbD_xor, BitVec.getLsbD_not, BitVec.getLsbD_allOnes, hi, decide_true, Bool.true_and, Bool.true_xor]
theorem u32_not_x (x : UInt32) : bits .xor .u32 IntKind.u32.max (x.toNat : Int) = ((notW x).toNat : Int) := by
  have := u32_xor_w 4294967295 x
  rw [not_xor] at this
  exact this
theorem rot_c (x : UInt32) (c : Nat) (hc : c < 32) (w : World) :
    Calls Tryz.prog 287 #[.int .u32 (x.toNat : Int), .int .i64 (c : Int)] w fun e w' => e = .returned (.int .u32 ((rotR x c).toNat : Int)) ∧ w = w' :=
  (rot_any x c w).mono fun _ _ ⟨he, hw⟩ => ⟨by rw [he, show ((c : Int) % 32).toNat = c by omega], hw⟩
section
attribute [local go_sem] u32_xor_w u32_and_w u32_or_w u32_add_w u32_add_m u32_not_w u32_not_ww u32_not_x u32_mod_w u32_wrap_w
theorem turned_any (x : UInt32) (i j k : Nat) (hi : i < 32) (hj : j < 32) (hk : k < 32) (w : World) :
    Calls Tryz.prog 281 #[.int .u32 (x.toNat : Int), .int .i64 (i : Int), .int .i64 (j : Int), .int .i64 (k : Int)] w fun e w' => e = .returned (.int .u32 ((xorW (xorW (rotR x i) (rotR x j)) (rotR x k)).toNat : Int)) ∧ w = w' := by
  go_enter Tryz.func281, Tryz.ntmps281
  go_wp2_with fail
  refine (rot_c x i hi _).mono ?_
  rintro e w' ⟨rfl, rfl⟩
  go_wp2_with fail
  refine (rot_c x j hj _).mono ?_
  rintro e w' ⟨rfl, rfl⟩
  go_wp2_with fail
  refine (rot_c x k hk _).mono ?_
  rintro e w' ⟨rfl, rfl⟩
  go_wp2_with fail
  go_ret
  exact ⟨rfl, rfl⟩
theorem mixed_any (x : UInt32) (i j k : Nat) (hi : i < 32) (hj : j < 32) (hk : k < 32) (w : World) :
    Calls Tryz.prog 286 #[.int .u32 (x.toNat : Int), .int .i64 (i : Int), .int .i64 (j : Int), .int .u64 (k : Int)] w fun e w' => e = .returned (.int .u32 ((xorW (xorW (rotR x i) (rotR x j)) (dn x k)).toNat : Int)) ∧ w = w' := by
  have hd : (x.toNat : Int) / 2 ^ k = ((dn x k).toNat : Int) := by rw [dn_toNat, Int.natCast_ediv, Int.natCast_pow]; rfl
  go_enter Tryz.func286, Tryz.ntmps286
  go_wp2_with fail
  refine (rot_c x i hi _).mono ?_
  rintro e w' ⟨rfl, rfl⟩
  go_wp2_with fail
  refine (rot_c x j hj _).mono ?_
  rintro e w' ⟨rfl, rfl⟩
  go_wp2_with fail
  go_ret
  exact ⟨rfl, rfl⟩
theorem choice_any (x y z : UInt32) (w : World) :
    Calls Tryz.prog 282 #[.int .u32 (x.toNat : Int), .int .u32 (y.toNat : Int), .int .u32 (z.toNat : Int)] w fun e w' => e = .returned (.int .u32 ((chW x y z).toNat : Int)) ∧ w = w' := by
  have H := Lib.hid (ch_xor x y z)
  go_enter Tryz.func282, Tryz.ntmps282
  go_wp2_with fail
  go_ret
  rw [← H.out]
  exact ⟨rfl, rfl⟩
theorem majority_any (x y z : UInt32) (w : World) :
    Calls Tryz.prog 283 #[.int .u32 (x.toNat : Int), .int .u32 (y.toNat : Int), .int .u32 (z.toNat : Int)] w fun e w' => e = .returned (.int .u32 ((majW x y z).toNat : Int)) ∧ w = w' := by
  have H := Lib.hid (maj_xor x y z)
  go_enter Tryz.func283, Tryz.ntmps283
  go_wp2_with fail
  go_ret
  rw [← H.out]
  exact ⟨rfl, rfl⟩
end
end Go.Proofs.YteppocjgodmpdaaGreatDoor
namespace Go.Proofs.YteppocjgodmpdaaGreatDoor
open Go.RowKit
theorem words_64 (b : List UInt8) (A : Option Addr) (c : Nat) (w : World) (H : Hid (b.length = 64)) (hr : Rd vB w A b) (hc : 64 ≤ c) : Calls Tryz.prog 285 #[.slice A 64 c] w (RetS vW w (wordsL b)) := by
  have h := H.out
  have := words_any b A c w hr (by omega) (by omega)
  rwa [h] at this
theorem wordsL_64 (b : List UInt8) (h : b.length = 64) : (wordsL b).length = 16 := by
  have := congrArg List.length (bytesL_wordsL b)
  rw [bytesL_length, List.length_take, h] at this
  omega
def schedL (W0 : List UInt32) (k : Nat) : List UInt32 := moreW k W0 ++ List.replicate (48 - k) 0
theorem schedL_length (W0 : List UInt32) (k : Nat) (h : W0.length = 16) (hk : k ≤ 48) : (schedL W0 k).length = 64 := by
  rw [schedL, List.length_append, moreW_length, List.length_replicate]
  omega
theorem schedL_next (W0 : List UInt32) (k : Nat) (h : W0.length = 16) (hk : k < 48) : (schedL W0 k).set (16 + k) (nextW (moreW k W0)) = schedL W0 (k + 1) := by
  have e : (moreW k W0).length = 16 + k := by rw [moreW_length, h]
  unfold schedL
  rw [List.set_append_right _ _ (by omega), e, Nat.sub_self, moreW, show 48 - k = (48 - (k + 1)) + 1 by omega, List.replicate_succ, List.set_cons_zero]
  simp
theorem schedL_at (W0 : List UInt32) (k j : Nat) (h : W0.length = 16) (hj : j < 16 + k) : ((schedL W0 k).map vW)[j]? = some (.int .u32 (((moreW k W0).getD j 0).toNat : Int)) := by
  have e : (moreW k W0).length = 16 + k := by rw [moreW_length, h]
  rw [schedL, List.map_append, List.getElem?_append_left (by simp; omega)]
  simp [List.getD, e, hj, vW]
theorem schedL_zero (W0 : List UInt32) : schedL W0 0 = W0 ++ List.replicate 48 0 := rfl
theorem schedL_end (W0 : List UInt32) : schedL W0 48 = moreW 48 W0 := by simp [schedL]
def SpreadRel (W0 : List UInt32) (w : World) (i : Value) (wr : World) : Prop :=
  ∃ k : Nat, k ≤ 48 ∧ i = .int .i64 ((16 + k : Nat) : Int) ∧ Row wr (w.heap.size + 1) 343 ((schedL W0 k).map vW) ∧ Row wr w.heap.size 343 (List.replicate 64 (.int .u32 0)) ∧ Below w.heap.size w wr
def SprS (g n : Nat) (x2 x7 x15 x16 : UInt32) (W : World) : Prop :=
  W.cell? ⟨g, n - 2, none⟩ = some (.int .u32 (x2.toNat : Int)) ∧ W.cell? ⟨g, n - 7, none⟩ = some (.int .u32 (x7.toNat : Int)) ∧ W.cell? ⟨g, n - 15, none⟩ = some (.int .u32 (x15.toNat : Int)) ∧ W.cell? ⟨g, n - 16, none⟩ = some (.int .u32 (x16.toNat : Int))
theorem SprS.set {g n : Nat} {x2 x7 x15 x16 : UInt32} {w : World} (hn : 16 ≤ n) (h : SprS g n x2 x7 x15 x16 w) (v : Value) : SprS g n x2 x7 x15 x16 (w.setCell ⟨g, n, none⟩ v) := by
  obtain ⟨h1, h2, h3, h4⟩ := h
  have e : ∀ j, j < n → (w.setCell ⟨g, n, none⟩ v).cell? ⟨g, j, none⟩ = w.cell? ⟨g, j, none⟩ := fun j hj => World.cell?_setCell_other _ _ _ _ (by intro e; injection e with _ e2 _; omega)
  exact ⟨(e _ (by omega)).trans h1, (e _ (by omega)).trans h2, (e _ (by omega)).trans h3, (e _ (by omega)).trans h4⟩
theorem spread_round {W0 : List UInt32} {w wr : World} {k n : Nat} {y : UInt32} (hk : k < 48) (HK : Hid (n = 16 + k)) (HX : Hid ((schedL W0 k).set n y = schedL W0 (k + 1))) (hR1 : Row wr (w.heap.size + 1) 343 ((schedL W0 k).map vW))
    (hR0 : Row wr w.heap.size 343 (List.replicate 64 (.int .u32 0))) (hB : Below w.heap.size w wr) : SpreadRel W0 w (.int .i64 ((n : Int) + 1)) (wr.setCell ⟨w.heap.size + 1, n, none⟩ (.int .u32 (y.toNat : Int))) := by
  have e := HK.out
  refine ⟨k + 1, by omega, by congr 1; omega, ?_, hR0.setCell_other (by simp) _, hB.setCell (by simp) _⟩
  rw [← HX.out, List.map_set]
  exact hR1.setCell n _
section
attribute [local go_sem] u32_add_w u32_add_m u32_mod_w u32_wrap_w
set_option maxRecDepth 100000 in
set_option maxHeartbeats 600000 in
theorem spread_any (b : List UInt8) (A : Option Addr) (c : Nat) (w : World) (HL : Hid (b.length = 64)) (hr : Rd vB w A b) (hc : 64 ≤ c) :
    Calls Tryz.prog 280 #[.slice A 64 c] w fun e w' => e = .returned (.agg ((moreW 48 (wordsL b)).map vW).toArray) ∧ Below w.heap.size w w' := by
  have H16 := Lib.hid (wordsL_64 b HL.out)
  go_enter Tryz.func280, Tryz.ntmps280
  go_wp2_with fail
  refine at_world (Q := Code.wp _ _ _ _) (fun W => Row W w.heap.size 343 (List.replicate 64 (.int .u32 0)) ∧ Row W (w.heap.size + 1) 343 (List.replicate 64 (.int .u32 0)) ∧ Below w.heap.size w W)
    ⟨(Row.new w _ _ _ rfl).alloc _, Row.new_at _ _ (by simp) _ _ _ rfl, below_new (below_new (Below.refl _ _) _) _⟩ ?_
  rintro W ⟨hR0, hR1, hB⟩
  have hrW := hr.keep hB
  clear hr
  refine wp_region_plan_at w.heap.size (.step 0 false (.step 1 false (.step 2 true (.step 3 true (.nil))))) (by kernel_rfl) (by kernel_rfl) (by rfl) (by kernel_rfl) ?_
  have hBase : Below w.heap.size W W.drew := (Below.refl _ _).drew
  iterate 2 (refine plan_read rfl (by rfl) (v := ?_) ?_ ?_; rotate_left 1; (intro W hW; have hW0 := Below.trans hBase hW; (try dsimp only at hW); go_simp <;> with_reducible rfl); simp only [List.getElem_toArray, List.getElem_cons_zero, List.getElem_cons_succ, Act.put, List.setIfInBounds_toArray, List.set_cons_zero, List.set_cons_succ])
  refine plan_make_at rfl (by rfl) (fun K hK => ?_)
  go_simp
  refine (words_64 b _ _ _ HL (by exact hrW) hc).mono ?_
  rintro e w1 ⟨A1, c1, rfl, hc1, hr1, hb1⟩
  refine hK.out _ _ (hb1.mono hB.size) ?_
  clear hK K
  replace hR0 := hR0.drew.later hb1
  replace hR1 := hR1.drew.later hb1
  replace hB := below_step hB.drew hb1
  clear hb1 hrW hBase W
  obtain ⟨W0, e⟩ : ∃ W0, W0 = wordsL b := ⟨_, rfl⟩
  have HE : Hid (wordsL b = W0) := e.symm
  rw [← e] at H16 hr1 hc1 ⊢
  clear e
  refine plan_make_at rfl (by rfl) (fun K hK => ?_)
  refine wp_copy_row (.tmp 5) (.tmp 7) 316 316 (by rfl) 325 Tryz.underlying316 (by kernel_rfl) (w.heap.size + 1) 0 64 64 A1 W0 c1 (by rfl) (by rfl) _ _ hR1 hr1 vW_one (by have := H16.out; omega) (by have := H16.out; simp; omega) ?_
  simp only [List.getElem_toArray, List.getElem_cons_zero, List.getElem_cons_succ, Act.put, List.setIfInBounds_toArray, List.set_cons_zero, List.set_cons_succ]
  refine hK.out _ _ (below_setRow (Below.refl _ _) (by omega) _) ?_
  clear hK K
  refine plan_done ?_
  refine at_world (Q := _) (fun W => Row W w.heap.size 343 (List.replicate 64 (.int .u32 0)) ∧ Row W (w.heap.size + 1) 343 ((schedL W0 0).map vW) ∧ Below w.heap.size w W)
    ⟨hR0.setRow_other (by omega) _, ?_, below_setRow hB (by omega) _⟩ ?_
  · have e : (List.replicate 64 (Value.int .u32 0)).take 0 ++ W0.map vW ++ (List.replicate 64 (Value.int .u32 0)).drop (0 + W0.length) = (schedL W0 0).map vW := by
      rw [H16.out, schedL_zero, List.map_append, List.map_replicate]
      rfl
    rw [e]
    exact hR1.setRow _
  clear hR0 hR1 hB hr1
  rintro W ⟨hR0, hR1, hB⟩
  go_wp2_with fail
  go_loopw [4] (fun i wr => SpreadRel W0 w i wr) (fun i _ => 64 - (intOf i).toNat)
  case atStart => exact ⟨0, by omega, rfl, hR1, hR0, hB⟩
  case round =>
    clear hR0 hR1 hB
    obtain ⟨k, hk, rfl, hR1, hR0, hB⟩ := hrel
    by_cases hlt : k < 48
    · have h16 := H16.out
      have HN : Hid (nextW (moreW k W0) = addW (addW (addW (sig1 ((moreW k W0).getD (16 + k - 2) 0)) ((moreW k W0).getD (16 + k - 7) 0)) (sig0 ((moreW k W0).getD (16 + k - 15) 0))) ((moreW k W0).getD (16 + k - 16) 0)) := by unfold Hid nextW; rw [moreW_length, h16]
      have h15 := hR1.cell (schedL_at W0 k (16 + k - 15) h16 (by omega))
      have h2 := hR1.cell (schedL_at W0 k (16 + k - 2) h16 (by omega))
      have h7 := hR1.cell (schedL_at W0 k (16 + k - 7) h16 (by omega))
      have hh16 := hR1.cell (schedL_at W0 k (16 + k - 16) h16 (by omega))
      have HX : Hid ((schedL W0 k).set (16 + k) (nextW (moreW k W0)) = schedL W0 (k + 1)) := schedL_next W0 k h16 hlt
      have HLn : Hid ((schedL W0 k).length = 64) := schedL_length W0 k h16 hk
      rw [HN.out] at HX
      obtain ⟨n, hn⟩ : ∃ n, n = 16 + k := ⟨_, rfl⟩
      have HK := Lib.hid hn
      rw [← hn] at h15 h2 h7 hh16 HX ⊢
      have hn1 : 16 ≤ n := by omega
      have hn2 : n < 64 := by omega
      clear hn h16 HN
      generalize (moreW k W0).getD (n - 15) 0 = x15 at h15 HX
      generalize (moreW k W0).getD (n - 2) 0 = x2 at h2 HX
      generalize (moreW k W0).getD (n - 7) 0 = x7 at h7 HX
      generalize (moreW k W0).getD (n - 16) 0 = x16 at hh16 HX
      have HS1 : Hid (sig1 x2 = xorW (xorW (rotR x2 17) (rotR x2 19)) (dn x2 10)) := rfl
      have HS0 : Hid (sig0 x15 = xorW (xorW (rotR x15 7) (rotR x15 18)) (dn x15 3)) := rfl
      have hcn : wr.cell? ⟨w.heap.size + 1, n, none⟩ = some (((schedL W0 k).map vW).getD n undef) := hR1.cell (by have := HLn.out; simp [List.getD, this, hn2])
      have hfz : wr.frozen? ⟨w.heap.size + 1, n, none⟩ = false := hR1.frozen n
      have j2 : IntKind.i64.wrap ((n : Int) - 2) = (n : Int) - 2 := by rw [IntKind.wrap_i64]; omega
      have j7 : IntKind.i64.wrap ((n : Int) - 7) = (n : Int) - 7 := by rw [IntKind.wrap_i64]; omega
      have j15 : IntKind.i64.wrap ((n : Int) - 15) = (n : Int) - 15 := by rw [IntKind.wrap_i64]; omega
      have j16 : IntKind.i64.wrap ((n : Int) - 16) = (n : Int) - 16 := by rw [IntKind.wrap_i64]; omega
      have m2 : (2 : Int) ≤ (n : Int) := by omega
      have m7 : (7 : Int) ≤ (n : Int) := by omega
      have m15 : (15 : Int) ≤ (n : Int) := by omega
      have m16 : (16 : Int) ≤ (n : Int) := by omega
      have k2 : (0 : Int) ≤ (n : Int) - 2 := by omega
      have k7 : (0 : Int) ≤ (n : Int) - 7 := by omega
      have k15 : (0 : Int) ≤ (n : Int) - 15 := by omega
      have k16 : (0 : Int) ≤ (n : Int) - 16 := by omega
      have l0 : (n : Int) < 64 := by omega
      have l2 : (n : Int) - 2 < 64 := by omega
      have l7 : (n : Int) - 7 < 64 := by omega
      have l15 : (n : Int) - 15 < 64 := by omega
      have l16 : (n : Int) - 16 < 64 := by omega
      have t2 : ((n : Int) - 2).toNat = n - 2 := by omega
      have t7 : ((n : Int) - 7).toNat = n - 7 := by omega
      have t15 : ((n : Int) - 15).toNat = n - 15 := by omega
      have t16 : ((n : Int) - 16).toNat = n - 16 := by omega
      have p0 : (0 : Int) ≤ (n : Int) := by omega
      have hS : SprS (w.heap.size + 1) n x2 x7 x15 x16 wr.drew := ⟨h2, h7, h15, hh16⟩
      clear h2 h7 h15 hh16
      go_wp2_with fail
      refine wp_region_plan_of (SprS (w.heap.size + 1) n x2 x7 x15 x16) (.step 0 false (.step 1 false (.step 2 false (.step 3 false (.step 4 false (.step 6 false (.step 7 false (.step 8 false (.step 9 false (.step 11 false (.step 12 false (.step 13 false (.step 14 false (.step 17 false (.step 18 false (.step 19 false (.step 20 false (.step 5 true (.step 10 false (.step 15 true (.step 16 false (.step 21 false (.step 22 false (.step 23 true (.nil))))))))))))))))))))))))) hS (by kernel_rfl) (by kernel_rfl) (by rfl) (by kernel_rfl) ?_
      iterate 17 (refine plan_read rfl (by rfl) (v := ?_) ?_ ?_; rotate_left 1; (intro W hW; (try dsimp only at hW); obtain ⟨hW0, hW1⟩ := hW; go_simp <;> with_reducible rfl); simp only [List.getElem_toArray, List.getElem_cons_zero, List.getElem_cons_succ, Act.put, List.setIfInBounds_toArray, List.set_cons_zero, List.set_cons_succ])
      (refine plan_make_of rfl (by rfl) (fun K hK => ?_); go_simp; (refine (mixed_any x2 17 19 10 (by omega) (by omega) (by omega) _).mono ?_; rintro e w' ⟨rfl, rfl⟩); refine hK.out _ _ hS ?_; clear hK K)
      iterate 1 (refine plan_read rfl (by rfl) (v := ?_) ?_ ?_; rotate_left 1; (intro W hW; (try dsimp only at hW); obtain ⟨hW0, hW1⟩ := hW; go_simp <;> with_reducible rfl); simp only [List.getElem_toArray, List.getElem_cons_zero, List.getElem_cons_succ, Act.put, List.setIfInBounds_toArray, List.set_cons_zero, List.set_cons_succ])
      (refine plan_make_of rfl (by rfl) (fun K hK => ?_); go_simp; (refine (mixed_any x15 7 18 3 (by omega) (by omega) (by omega) _).mono ?_; rintro e w' ⟨rfl, rfl⟩); refine hK.out _ _ hS ?_; clear hK K)
      iterate 3 (refine plan_read rfl (by rfl) (v := ?_) ?_ ?_; rotate_left 1; (intro W hW; (try dsimp only at hW); obtain ⟨hW0, hW1⟩ := hW; go_simp <;> with_reducible rfl); simp only [List.getElem_toArray, List.getElem_cons_zero, List.getElem_cons_succ, Act.put, List.setIfInBounds_toArray, List.set_cons_zero, List.set_cons_succ])
      clear j2 j7 j15 j16 m2 m7 m15 m16 k2 k7 k15 k16 l2 l7 l15 l16 t2 t7 t15 t16
      refine plan_make_of rfl (by rfl) (fun K hK => ?_)
      go_simp
      refine hK.out _ _ (hS.set hn1 _) ?_
      clear hK K hcn hfz
      refine plan_done ?_
      refine at_world (Q := _) (fun W => SpreadRel W0 w (.int .i64 ((n : Int) + 1)) W) (spread_round hlt HK HX hR1.drew hR0.drew hB.drew) ?_
      intro W HR
      replace HR := Lib.hid HR
      clear hR1 hR0 hB hS HX
      go_wp2_with fail
      go_roundw
      case rel => exact HR.out
      case measure => simp [intOf]; omega
    · have hk48 : k = 48 := by omega
      subst hk48
      have h64 : (moreW 48 W0).length = 64 := by rw [moreW_length, H16.out]
      have HR : Hid (moreW 48 (wordsL b) = moreW 48 W0) := by unfold Hid; rw [HE.out]
      rw [schedL_end] at hR1
      generalize moreW 48 W0 = L at hR1 h64 HR
      have H64 := Lib.hid h64
      have hmo := map_one vW_one L
      have HMO := Lib.hid hmo
      clear h64 hmo
      go_wp2_with (first
        | (with_reducible refine wpList_load_part rfl 343 (.tmp 3) rfl (w.heap.size + 1) 0 rfl _ _ hR1 (L.map vW) List.take_length _ Tryz.underlying343 rfl (by rw [List.length_map, H64.out]; kernel_rfl) ?_)
        | (with_reducible refine wpList_store_row rfl 343 (.tmp 2) (.tmp 36) rfl w.heap.size rfl (L.map vW) rfl _ _ hR0 (by rw [List.length_map, H64.out]; kernel_rfl) (by simp [H64.out]) HMO.out ?_))
      refine bodyPost_ret (results_cell_row (p := 2) (ty := 343) rfl _ _ w.heap.size 343 (L.map vW).toArray (0, 0) _ rfl (hR0.setRow _) Tryz.underlying343 rfl (by rw [List.size_toArray, List.length_map, H64.out]; kernel_rfl)) rfl ⟨by rw [HR.out], below_setRow hB (Nat.le_refl _) _⟩
end
end Go.Proofs.YteppocjgodmpdaaGreatDoor
namespace Go.Proofs.YteppocjgodmpdaaGreatDoor
open Go.RowKit
def KTab [Inhabited Tab] (w : World) : Prop := ∀ i, i < 64 → w.cell? ⟨1, i, none⟩ = some (.int .u32 ((kT.getD i 0).toNat : Int))
theorem KTab.keep [Inhabited Tab] {w w' : World} (h : KTab w) (hb : Below w.heap.size w w') : KTab w' := fun i hi => by
  rw [hb.cell (p := ⟨1, i, none⟩) (World.block_lt_of_cell? w _ (h i hi))]
  exact h i hi
def kcS (n : Nat) (kc : UInt32) (W : World) : Prop := W.cell? ⟨1, n, none⟩ = some (.int .u32 (kc.toNat : Int)) ∧ True
theorem run_index_agg {P : Program} (w : World) (t e : TypeId) (n : Nat) (cs : Array Value) (i : Nat) (v : Value) (ht : P.underlying t = some (.array n e)) (hz : (sizeOf e).run P w = .ok 1 w) (ha : (isAgg e).run P w = .ok false w) (hi : i < n) (hc : cs[i]? = some v) :
    (Instr.index t (.agg cs) (.int .i64 (i : Int))).run P w = .ok v w := by
  have h1 : (0 : Int) ≤ (i : Int) ∧ (i : Int) < (n : Int) := by omega
  simp [Instr.index, asIntOf, Sem.run_bind, run_underlying ht, h1, hz, part, ha, hc]
  omega
theorem size_st : (Tryz.prog.info? 326).map (·.size) = some 8 := by kernel_rfl
theorem one_st (a b c d e f g h : UInt32) : ∀ v ∈ [Value.int .u32 (a.toNat : Int), .int .u32 (b.toNat : Int), .int .u32 (c.toNat : Int), .int .u32 (d.toNat : Int), .int .u32 (e.toNat : Int), .int .u32 (f.toNat : Int), .int .u32 (g.toNat : Int), .int .u32 (h.toNat : Int)], v.oneCell' = true := map_one vW_one [a, b, c, d, e, f, g, h]
def RetSt (w : World) (s : St) (e : Ending) (w' : World) : Prop := ∃ S : St, Hid (S = s) ∧ e = .returned (.agg #[.int .u32 (S.a.toNat : Int), .int .u32 (S.b.toNat : Int), .int .u32 (S.c.toNat : Int), .int .u32 (S.d.toNat : Int), .int .u32 (S.e.toNat : Int), .int .u32 (S.f.toNat : Int), .int .u32 (S.g.toNat : Int), .int .u32 (S.h.toNat : Int)]) ∧ Below w.heap.size w w'
section
attribute [local go_sem] u32_add_w u32_add_m u32_mod_w u32_wrap_w
set_option maxRecDepth 100000 in
set_option maxHeartbeats 1000000 in
theorem behind_any [Inhabited Tab] (s : St) (b : List UInt8) (A : Option Addr) (c : Nat) (w : World) (HL : Hid (b.length = 64)) (hr : Rd vB w A b) (hc : 64 ≤ c) (HK : Hid (KTab w)) :
    Calls Tryz.prog 277 #[.agg #[.int .u32 (s.a.toNat : Int), .int .u32 (s.b.toNat : Int), .int .u32 (s.c.toNat : Int), .int .u32 (s.d.toNat : Int), .int .u32 (s.e.toNat : Int), .int .u32 (s.f.toNat : Int), .int .u32 (s.g.toNat : Int), .int .u32 (s.h.toNat : Int)], .slice A 64 c] w (RetSt w (s.block b)) := by
  have HB : Hid (s.block b = s.plus (St.rounds (moreW 48 (wordsL b)) 64 s)) := rfl
  have h64 : (moreW 48 (wordsL b)).length = 64 := by rw [moreW_length, wordsL_64 b HL.out]
  go_enter Tryz.func277, Tryz.ntmps277
  go_wp2_with fail
  refine at_world (Q := Code.wp _ _ _ _) (fun W => Row W w.heap.size 326 [.int .u32 (s.a.toNat : Int), .int .u32 (s.b.toNat : Int), .int .u32 (s.c.toNat : Int), .int .u32 (s.d.toNat : Int), .int .u32 (s.e.toNat : Int), .int .u32 (s.f.toNat : Int), .int .u32 (s.g.toNat : Int), .int .u32 (s.h.toNat : Int)] ∧ Row W (w.heap.size + 1) 326 (List.replicate 8 (.int .u32 0)) ∧ Below w.heap.size w W)
    ⟨(Row.new w _ _ _ rfl).alloc _, Row.new_at _ _ (by simp) _ _ _ rfl, below_new (below_new (Below.refl _ _) _) _⟩ ?_
  rintro W ⟨hR0, hR1, hB⟩
  have st0 : ∀ W', Below W.heap.size W W' → W'.cell? ⟨w.heap.size, 0, none⟩ = some (.int .u32 (s.a.toNat : Int)) := fun W' h => (hR0.later h).cell rfl
  have st1 : ∀ W', Below W.heap.size W W' → W'.cell? ⟨w.heap.size, 1, none⟩ = some (.int .u32 (s.b.toNat : Int)) := fun W' h => (hR0.later h).cell rfl
  have st2 : ∀ W', Below W.heap.size W W' → W'.cell? ⟨w.heap.size, 2, none⟩ = some (.int .u32 (s.c.toNat : Int)) := fun W' h => (hR0.later h).cell rfl
  have st3 : ∀ W', Below W.heap.size W W' → W'.cell? ⟨w.heap.size, 3, none⟩ = some (.int .u32 (s.d.toNat : Int)) := fun W' h => (hR0.later h).cell rfl
  have hBase : Below W.heap.size W W.drew := (Below.refl _ _).drew
  refine wp_region_plan (.step 0 false (.step 1 false (.step 2 false (.step 3 false (.step 4 false (.step 5 false (.step 6 false (.step 7 false (.step 8 false (.step 9 false (.step 10 false (.step 11 false (.nil))))))))))))) (by kernel_rfl) (by kernel_rfl) (by rfl) (by kernel_rfl) ?_
  iterate 12 (refine plan_read rfl (by rfl) (v := ?_) ?_ ?_; rotate_left 1; (intro W hW; have hW0 := below_step hBase hW; (try dsimp only at hW); go_simp <;> with_reducible rfl); simp only [List.getElem_toArray, List.getElem_cons_zero, List.getElem_cons_succ, Act.put, List.setIfInBounds_toArray, List.set_cons_zero, List.set_cons_succ])
  refine plan_done ?_
  clear st0 st1 st2 st3 hBase
  go_wp2_with fail
  have st4 : ∀ W', Below W.heap.size W W' → W'.cell? ⟨w.heap.size, 4, none⟩ = some (.int .u32 (s.e.toNat : Int)) := fun W' h => (hR0.later h).cell rfl
  have st5 : ∀ W', Below W.heap.size W W' → W'.cell? ⟨w.heap.size, 5, none⟩ = some (.int .u32 (s.f.toNat : Int)) := fun W' h => (hR0.later h).cell rfl
  have st6 : ∀ W', Below W.heap.size W W' → W'.cell? ⟨w.heap.size, 6, none⟩ = some (.int .u32 (s.g.toNat : Int)) := fun W' h => (hR0.later h).cell rfl
  have st7 : ∀ W', Below W.heap.size W W' → W'.cell? ⟨w.heap.size, 7, none⟩ = some (.int .u32 (s.h.toNat : Int)) := fun W' h => (hR0.later h).cell rfl
  have hBase : Below W.heap.size W W.drew.drew := (Below.refl _ _).drew.drew
  refine wp_region_plan (.step 0 false (.step 1 false (.step 2 false (.step 3 false (.step 4 false (.step 5 false (.step 6 false (.step 7 false (.step 8 false (.step 9 false (.step 10 false (.step 11 false (.nil))))))))))))) (by kernel_rfl) (by kernel_rfl) (by rfl) (by kernel_rfl) ?_
  iterate 12 (refine plan_read rfl (by rfl) (v := ?_) ?_ ?_; rotate_left 1; (intro W hW; have hW0 := below_step hBase hW; (try dsimp only at hW); go_simp <;> with_reducible rfl); simp only [List.getElem_toArray, List.getElem_cons_zero, List.getElem_cons_succ, Act.put, List.setIfInBounds_toArray, List.set_cons_zero, List.set_cons_succ])
  refine plan_done ?_
  clear st4 st5 st6 st7 hBase
  go_wp2_with fail
  refine (spread_any b _ _ _ HL (by exact hr.keep hB.drew.drew) hc).mono ?_
  rintro e wx ⟨rfl, hbx⟩
  replace hR0 := hR0.drew.drew.later hbx
  replace hR1 := hR1.drew.drew.later hbx
  replace hB := below_step hB.drew.drew hbx
  have HKx := Lib.hid (HK.out.keep hB)
  generalize moreW 48 (wordsL b) = L at h64 HB
  have H64 := Lib.hid h64
  clear hbx h64 hr HK W
  go_wp2_with fail
  go_loopw [5, 6, 7, 8, 9, 10, 11, 12, 35] (fun a b c d e f g h i wr => RoundRel s L wx a b c d e f g h i wr) (fun _ _ _ _ _ _ _ _ i _ => 64 - (intOf i).toNat)
  case atStart => exact ⟨0, by omega, rfl, rfl, rfl, rfl, rfl, rfl, rfl, rfl, rfl, Below.refl _ _⟩
  case round =>
    obtain ⟨n, hn, rfl, rfl, rfl, rfl, rfl, rfl, rfl, rfl, rfl, hbr⟩ := hrel
    by_cases hlt : n < 64
    · have hkc : kcS n (kT.getD n 0) wr.drew := ⟨(HKx.out.keep hbr) n hlt, trivial⟩
      have HS : Hid (St.rounds L (n + 1) s = (St.rounds L n s).round (kT.getD n 0) (L.getD n 0)) := rfl
      generalize St.rounds L n s = S at HS
      have HS2 : Hid (∀ wr, Below wx.heap.size wx wr → RoundRel s L wx (.int .u32 ((addW (tW S (kT.getD n 0) (L.getD n 0)) (uW S)).toNat : Int)) (.int .u32 (S.a.toNat : Int)) (.int .u32 (S.b.toNat : Int)) (.int .u32 (S.c.toNat : Int)) (.int .u32 ((addW S.d (tW S (kT.getD n 0) (L.getD n 0))).toNat : Int)) (.int .u32 (S.e.toNat : Int)) (.int .u32 (S.f.toNat : Int)) (.int .u32 (S.g.toNat : Int)) (.int .i64 ((n : Int) + 1)) wr) := fun wr hb => round_next hlt HS hb
      clear HS
      generalize kT.getD n 0 = kc at hkc HS2
      have hix : ∀ W, (Instr.index 343 (.agg (L.map vW).toArray) (.int .i64 (n : Int))).run Tryz.prog W = .ok (.int .u32 ((L.getD n 0).toNat : Int)) W := fun W => run_index_agg W _ 325 64 _ n _ Tryz.underlying343 (by kernel_rfl) (by kernel_rfl) hlt (by have := H64.out; simp [List.getD, this, hlt, vW])
      generalize L.getD n 0 = x at hix HS2
      obtain ⟨sa, sb, sc, sd, se, sf, sg, sh⟩ := S
      dsimp only at HS2 ⊢
      have i0' : (0 : Int) ≤ (n : Int) := by omega
      have i1' : (n : Int) < 64 := by omega
      have hS := hkc
      clear hkc
      go_wp2_with fail
      refine wp_region_plan_of (kcS n kc) (.step 0 false (.step 1 false (.step 4 false (.step 5 false (.step 6 false (.step 9 false (.step 10 false (.step 11 false (.step 13 false (.step 2 true (.step 3 false (.step 7 true (.step 8 false (.step 12 false (.step 14 false (.step 15 false (.nil))))))))))))))))) hS (by kernel_rfl) (by kernel_rfl) (by rfl) (by kernel_rfl) ?_
      iterate 9 (refine plan_read rfl (by rfl) (v := ?_) ?_ ?_; rotate_left 1; (intro W hW; (try dsimp only at hW); obtain ⟨hW0, hW1⟩ := hW; go_simp <;> with_reducible rfl); simp only [List.getElem_toArray, List.getElem_cons_zero, List.getElem_cons_succ, Act.put, List.setIfInBounds_toArray, List.set_cons_zero, List.set_cons_succ])
      (refine plan_make_of rfl (by rfl) (fun K hK => ?_); go_simp; (refine (turned_any se 6 11 25 (by omega) (by omega) (by omega) _).mono ?_; rintro e w' ⟨rfl, rfl⟩); refine hK.out _ _ hS ?_; clear hK K)
      iterate 1 (refine plan_read rfl (by rfl) (v := ?_) ?_ ?_; rotate_left 1; (intro W hW; (try dsimp only at hW); obtain ⟨hW0, hW1⟩ := hW; go_simp <;> with_reducible rfl); simp only [List.getElem_toArray, List.getElem_cons_zero, List.getElem_cons_succ, Act.put, List.setIfInBounds_toArray, List.set_cons_zero, List.set_cons_succ])
      (refine plan_make_of rfl (by rfl) (fun K hK => ?_); go_simp; (refine (choice_any se sf sg _).mono ?_; rintro e w' ⟨rfl, rfl⟩); refine hK.out _ _ hS ?_; clear hK K)
      iterate 4 (refine plan_read rfl (by rfl) (v := ?_) ?_ ?_; rotate_left 1; (intro W hW; (try dsimp only at hW); obtain ⟨hW0, hW1⟩ := hW; go_simp <;> with_reducible rfl); simp only [List.getElem_toArray, List.getElem_cons_zero, List.getElem_cons_succ, Act.put, List.setIfInBounds_toArray, List.set_cons_zero, List.set_cons_succ])
      refine plan_done ?_
      clear hS hix
      go_wp2_with fail
      refine (turned_any sa 2 13 22 (by omega) (by omega) (by omega) _).mono ?_
      rintro e w' ⟨rfl, rfl⟩
      go_wp2_with fail
      refine (majority_any sa sb sc _).mono ?_
      rintro e w' ⟨rfl, rfl⟩
      have HR := Lib.hid (HS2.out _ hbr.drew)
      clear HS2 hbr
      go_wp2_with fail
      go_roundw
      case rel => first | exact HR.out | ((repeat apply Exists.intro); exact ⟨HR.out, rfl⟩)
      case measure => simp [intOf]; omega
    · have hn64 : n = 64 := by omega
      subst hn64
      have HE : Hid (s.block b = s.plus (St.rounds L 64 s)) := HB.out
      generalize St.rounds L 64 s = S at HE
      obtain ⟨sa, sb, sc, sd, se, sf, sg, sh⟩ := S
      dsimp only
      replace hR0 := hR0.later hbr
      replace hR1 := hR1.later hbr
      replace hB := below_step hB hbr
      have c0 : wr.cell? ⟨w.heap.size, 0, none⟩ = some (.int .u32 (s.a.toNat : Int)) := hR0.cell rfl
      have c1 : wr.cell? ⟨w.heap.size, 1, none⟩ = some (.int .u32 (s.b.toNat : Int)) := hR0.cell rfl
      have c2 : wr.cell? ⟨w.heap.size, 2, none⟩ = some (.int .u32 (s.c.toNat : Int)) := hR0.cell rfl
      have c3 : wr.cell? ⟨w.heap.size, 3, none⟩ = some (.int .u32 (s.d.toNat : Int)) := hR0.cell rfl
      have c4 : wr.cell? ⟨w.heap.size, 4, none⟩ = some (.int .u32 (s.e.toNat : Int)) := hR0.cell rfl
      have c5 : wr.cell? ⟨w.heap.size, 5, none⟩ = some (.int .u32 (s.f.toNat : Int)) := hR0.cell rfl
      have c6 : wr.cell? ⟨w.heap.size, 6, none⟩ = some (.int .u32 (s.g.toNat : Int)) := hR0.cell rfl
      have c7 : wr.cell? ⟨w.heap.size, 7, none⟩ = some (.int .u32 (s.h.toNat : Int)) := hR0.cell rfl
      clear hbr
      go_wp2_with (refine wpList_store_row rfl 326 (.tmp 4) (.tmp 106) rfl (w.heap.size + 1) rfl [.int .u32 ((addW s.a sa).toNat : Int), .int .u32 ((addW s.b sb).toNat : Int), .int .u32 ((addW s.c sc).toNat : Int), .int .u32 ((addW s.d sd).toNat : Int), .int .u32 ((addW s.e se).toNat : Int), .int .u32 ((addW s.f sf).toNat : Int), .int .u32 ((addW s.g sg).toNat : Int), .int .u32 ((addW s.h sh).toNat : Int)] rfl _ _ hR1 (by exact size_st) (by exact List.length_replicate) (by exact one_st _ _ _ _ _ _ _ _) ?_)
      refine bodyPost_ret (results_cell_row (p := 4) (ty := 326) (by rfl) _ _ (w.heap.size + 1) 326 _ (0, 0) _ (by rfl) (by exact hR1.setRow _) Tryz.underlying326 (by rfl) (by exact size_st)) (by rfl) ?_
      exact ⟨St.plus s ⟨sa, sb, sc, sd, se, sf, sg, sh⟩, HE.out.symm, rfl, below_setRow hB (by omega) _⟩
end
end Go.Proofs.YteppocjgodmpdaaGreatDoor
