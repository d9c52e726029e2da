/-
  What the reference's Read of layer 16 answers. No conditions but those typed.
-/
import Derived.Test.YtmljhkdojopljaaGreatDoorQ5
namespace Go.Proofs.YtmljhkdojopljaaGreatDoor
set_option maxRecDepth 100000
open Go.RowKit
set_option linter.unusedSimpArgs false
set_option linter.unusedVariables false

theorem results_cell_two {fn : Func} {p u v : Tmp} {ty : TypeId} (h : fn.results = #[.cell p ty, .tmp u, .tmp v]) (tmps : Array Value) (P : Program) (w : World) :
    (results fn tmps).run P w = ((asAddr (tmps.getD p undef)).run P w).andThen fun a w₁ => ((loadVar ty a).run P w₁).andThen fun x w₂ => .ok (.tuple #[x, tmps.getD u undef, tmps.getD v undef]) w₂ := by
  simp only [results, h]
  simp [Sem.run_bind, Result.andThen]
theorem results_row_two {P : Program} {fn : Func} {p u v : Tmp} {ty : TypeId} (h : fn.results = #[.cell p ty, .tmp u, .tmp v]) (tmps : Array Value) (w : World) (g : Nat) (t : TypeId) (l : List Value) (d : TypeDesc) (hp : tmps.getD p undef = .pointer (some ⟨g, 0, none⟩)) (hg : Row w g t l)
    (hu : P.underlying ty = some d) (hd : d.isRow = true) (hi : (P.info? ty).map (·.size) = some l.length) : (results fn tmps).run P w = .ok (.tuple #[.agg l.toArray, tmps.getD u undef, tmps.getD v undef]) w := by
  rw [results_cell_two h, hp]
  simp only [asAddr, Sem.run_pure, Result.andThen_ok, hg.loadVar (P := P) ty d hu hd hi]
/-- What a Read of bundles hands back: a bundle that lies somewhere, how many bytes, a code. -/
def RetBr (w : World) (X : ResB) (e : Ending) (w' : World) : Prop :=
  ∃ eA es n ec gA m gc, e = .returned (.tuple #[aggB X.1 eA n ec gA m gc, .int .i64 (X.2.2.2.1 : Int), .int .i64 X.2.2.2.2]) ∧ Hid (conE es = X.2.1) ∧ Hid (es.length = n) ∧ Hid (X.2.2.1.length = m) ∧ n ≤ ec ∧ m ≤ gc ∧ RdE w' eA es ∧ okD w' es ∧ RdG w' gA X.2.2.1 ∧ Below w.heap.size w w'
def zeroB : List Value := [.int .u64 0, .slice none 0 0, .slice none 0 0]
theorem retbr_bad {w w' : World} {X : ResB} {k : Int} (hX : Hid (X = badB k)) (hb : Below w.heap.size w w') : RetBr w X (.returned (.tuple #[.agg zeroB.toArray, .int .i64 0, .int .i64 k])) w' := by
  rw [hX.out]
  exact ⟨none, [], 0, 0, none, 0, 0, rfl, Lib.hid rfl, Lib.hid rfl, Lib.hid rfl, Nat.le_refl _, Nat.le_refl _, RdE.nil, okD.nil _, RdG.nil, hb⟩

theorem OwnE.rd {B : Nat} {t : TypeId} {xs : List ED} {A : Option Addr} {n c : Nat} {w : World} (h : OwnE B t xs (.slice A n c) w) (hn : xs.length = n) : RdE w A xs := by subst hn; exact RdE.own h.1
/-- The loop: how many entries are read, and what is left. -/
def EntI (b : List UInt8) (q v : Nat) (w : World) (Bx B : Nat) (at' i : Value) (wr : World) : Prop :=
  ∃ k a es u, i = .int .i64 ((k : Nat) : Int) ∧ at' = .int .i64 ((a : Nat) : Int) ∧ k ≤ q ∧ 10 ≤ a ∧ a ≤ b.length ∧ (es : List ED).length = k ∧ Hid (readEs q (b.drop 10) = preE (conE es) (readEs (q - k) (b.drop a))) ∧ (∀ x ∈ es, x.s.length ≤ 32) ∧
    Row wr w.heap.size 26 zeroB ∧ Row wr Bx 26 [.int .u64 (v : Int), u, .slice none 0 0] ∧ OwnE B 35 es u wr ∧ Below w.heap.size w wr ∧ B ≤ wr.heap.size

theorem Row.newsD {w : World} {g : Nat} {t : TypeId} {l : List Value} (h : Row w g t l) : ∀ j u, l[j]? = some u → w.cell? ((⟨g, 0, none⟩ : Addr).add j) = some u := fun j u hu => by
  have e1 : (⟨g, 0, none⟩ : Addr).add j = ⟨g, 0 + j, none⟩ := by unfold Addr.add; split <;> simp_all
  rw [e1]
  exact h.range j u hu
theorem info_entry : (Tryz.prog.info? 35).map (fun i => (i.zero, i.size, i.bytes)) = some (some (.agg #[.int .u64 0, .int .u64 0, .slice none 0 0]), 3, 40) := by kernel_rfl
set_option maxHeartbeats 1000000 in
theorem refreadBun_any (b : List UInt8) (n c : Nat) (A : Option Addr) (w : World) (HN : Hid (b.length = n)) (hr : Rd vB w A b) (hn : n ≤ 1000000000) (hc : n ≤ c) :
    Calls Tryz.prog 15 #[.slice A n c] w (RetBr w (readBun b)) := by
  obtain ⟨i0, hi, hz0, hz1, hz2⟩ := info_parts info_u8
  obtain ⟨j0, hj, gz0, gz1, gz2⟩ := info_parts info_entry
  obtain ⟨P, hP⟩ : ∃ P, P = readBun b := ⟨_, rfl⟩
  rw [← hP]
  have hlen := HN.out
  obtain ⟨hR0, hB0⟩ := box_three w 26 (.int .u64 0) (.slice none 0 0) (.slice none 0 0)
  go_enter Tryz.func15, Tryz.ntmps15
  go_upto_region 1 with fail
  generalize (w.alloc (.cells #[.int .u64 0, .slice none 0 0, .slice none 0 0] 26)) = W0 at hR0 hB0 ⊢
  have hgw := hR0.lt
  by_cases h0 : n = 0
  · have HP : Hid (P = badB 2) := hP.trans (bun_zero b (by omega))
    clear hP
    subst h0
    go_wp2_with (refine wpList_store_row rfl 26 (.tmp 2) (.tmp 15) rfl w.heap.size rfl zeroB rfl _ _ hR0 (by exact size_bundle) rfl (one_three _ _ _ rfl rfl rfl) ?_)
    refine bodyPost_ret (results_row_two (p := 2) (u := 3) (v := 4) (ty := 26) (by rfl) _ _ w.heap.size 26 _ _ (by rfl) (by exact hR0.setRow _) Tryz.underlying26 (by rfl) (by exact size_bundle)) (by rfl) ?_
    exact retbr_bad HP (below_setRow hB0 (Nat.le_refl _) _)
  · obtain ⟨blk, o, rfl, hblk, hcell⟩ := hr.at (k := 0) (by omega)
    have hr1 := hr.keep hB0
    have hc0 := hcell 0 (by omega)
    have hg0 : b.getD 0 0 = b[0]'(by omega) := by rw [List.getD_eq_getElem?_getD, List.getElem?_eq_getElem (by omega)]; rfl
    rw [Nat.add_zero] at hc0
    unfold vB at hc0
    rw [← hg0] at hc0
    have hcA : W0.cell? ⟨blk, o, none⟩ = some (.int .u8 ((b.getD 0 0).toNat : Int)) := (hB0.cell (p := ⟨blk, o, none⟩) hblk).trans hc0
    have z1 : ((n : Int) == 0) = false := beq_eq_false_iff_ne.2 (by omega)
    have hp : (0 : Int) < (n : Int) := by omega
    by_cases h66 : b.getD 0 0 = 66
    · rw [h66] at hcA
      clear hc0 hg0
      replace hcA : W0.cell? ⟨blk, o, none⟩ = some (.int .u8 66) := hcA
      by_cases h10 : n < 10
      · have HP : Hid (P = badB 2) := hP.trans (bun_short b (by omega) h66 (by omega))
        clear hP hcell
        have d10 : (n : Int) < 10 := by omega
        go_wp2_with (refine wpList_store_row rfl 26 (.tmp 2) (.tmp 24) rfl w.heap.size rfl zeroB rfl _ _ hR0 (by exact size_bundle) rfl (one_three _ _ _ rfl rfl rfl) ?_)
        refine bodyPost_ret (results_row_two (p := 2) (u := 3) (v := 4) (ty := 26) (by rfl) _ _ w.heap.size 26 _ _ (by rfl) (by exact hR0.setRow _) Tryz.underlying26 (by rfl) (by exact size_bundle)) (by rfl) ?_
        exact retbr_bad HP (below_setRow hB0 (Nat.le_refl _) _)
      · have h10' : ¬ b.length < 10 := by omega
        have hc9 := hcell 9 (by omega)
        have hg9 : b.getD 9 0 = b[9]'(by omega) := by rw [List.getD_eq_getElem?_getD, List.getElem?_eq_getElem (by omega)]; rfl
        unfold vB at hc9
        rw [← hg9] at hc9
        have H9 : Hid (∀ W, Below w.heap.size w W → W.cell? ⟨blk, o + 9, none⟩ = some (.int .u8 ((b.getD 9 0).toNat : Int))) := fun W hW => (hW.cell (p := ⟨blk, o + 9, none⟩) hblk).trans hc9
        clear hc9 hg9
        have d10 : ¬ (n : Int) < 10 := by omega
        have HBD : Hid (P = _) := hP.trans (rfl : readBun b = readBun b)
        have hcut : ∀ W, (Instr.slice 27 (.slice (some ⟨blk, o, none⟩) n c) (some (.int .i64 1)) (some (.int .i64 9)) none).run Tryz.prog W = .ok (.slice (chA (some ⟨blk, o, none⟩) 1) 8 (c - 1)) W := fun W => by
          have := cut_mid (some ⟨blk, o, none⟩) n c 1 8 (by omega) W
          rw [if_neg (by omega)] at this
          exact this
        obtain ⟨v, hv⟩ : ∃ v, valN ((b.drop 1).take 8) = v := ⟨_, rfl⟩
        have hvlt : v < 18446744073709551616 := by rw [← hv]; exact valN_lt8 _ (by rw [List.length_take, List.length_drop]; omega)
        have HC1 := Lib.hid (val8_any ((b.drop 1).take 8) (chA (some ⟨blk, o, none⟩) 1) (c - 1) W0 ((hr1.chA 1).take 8) (by unfold Hid; rw [List.length_take, List.length_drop]; omega) v hv)
        generalize chA (some ⟨blk, o, none⟩) 1 = A1 at hcut HC1
        have HV := Lib.hid hv
        clear hv
        generalize (b.drop 1).take 8 = L1 at HC1
        go_upto_region 7 with fail
        have hRn : Row (W0.alloc (.cells #[.int .u64 0, .slice none 0 0, .slice none 0 0] 26)) W0.heap.size 26 zeroB := Row.new W0 _ _ _ rfl
        have hb1 : Below W0.heap.size W0 ((W0.alloc (.cells #[.int .u64 0, .slice none 0 0, .slice none 0 0] 26)).setRow W0.heap.size [.int .u64 (v : Int), .slice none 0 0, .slice none 0 0].toArray) := below_setRow (below_new (Below.refl _ _) _) (Nat.le_refl _) _
        have hRx := hRn.setRow [.int .u64 (v : Int), .slice none 0 0, .slice none 0 0]
        go_wp2_with fail
        refine HC1.out.mono ?_
        rintro e₁ w4 ⟨rfl, h4⟩
        replace h4 := h4.symm
        subst h4
        go_upto_region 8 with (refine wpList_store_row rfl 26 (.tmp 5) (.tmp 28) rfl W0.heap.size rfl [.int .u64 (v : Int), .slice none 0 0, .slice none 0 0] rfl _ _ hRn (by exact size_bundle) rfl (one_three _ _ _ rfl rfl rfl) ?_)
        replace hR0 := hR0.later hb1
        replace hB0 := below_step hB0 hb1
        generalize (W0.alloc (.cells #[.int .u64 0, .slice none 0 0, .slice none 0 0] 26)).setRow W0.heap.size [.int .u64 (v : Int), .slice none 0 0, .slice none 0 0].toArray = W1 at hR0 hB0 hRx ⊢
        generalize W0.heap.size = Bx at hRx hgw ⊢
        clear hRn hb1 hr1 hcA HC1 hcut z1 hp d10
        have c9 : W1.cell? ⟨blk, o + 9, none⟩ = some (.int .u8 ((b.getD 9 0).toNat : Int)) := H9.out W1 hB0
        obtain ⟨q, hq⟩ : ∃ q, (b.getD 9 0).toNat = q := ⟨_, rfl⟩
        have hq256 : q < 256 := by rw [← hq]; exact UInt8.toNat_lt _
        rw [hq] at c9
        have H9q : Hid (∀ W, Below w.heap.size w W → W.cell? ⟨blk, o + 9, none⟩ = some (.int .u8 (q : Int))) := by rw [← hq]; exact H9.out
        by_cases h64 : 64 < q
        · have HP : Hid (P = badB 3) := hP.trans (bun_many b h66 h10' (by omega))
          clear hP HBD H9 H9q HV hq hcell
          go_wp2_with (refine wpList_store_row rfl 26 (.tmp 2) (.tmp 33) rfl w.heap.size rfl zeroB rfl _ _ hR0 (by exact size_bundle) rfl (one_three _ _ _ rfl rfl rfl) ?_)
          refine bodyPost_ret (results_row_two (p := 2) (u := 3) (v := 4) (ty := 26) (by rfl) _ _ w.heap.size 26 _ _ (by rfl) (by exact hR0.setRow _) Tryz.underlying26 (by rfl) (by exact size_bundle)) (by rfl) ?_
          exact retbr_bad HP (below_setRow hB0 (Nat.le_refl _) _)
        · obtain ⟨E, hE⟩ : ∃ E, readEs q (b.drop 10) = E := ⟨_, rfl⟩
          have HP := Lib.hid (hP.trans (bun_body b h66 h10' (by omega) E (by rw [hq]; exact hE)))
          rw [HV.out] at HP
          have HE := Lib.hid hE
          clear hP HBD H9 HV hq hE h66
          have d64 : ¬ (64 : Int) < (q : Int) := by omega
          have hBW := hRx.lt
          have hsz := hB0.size
          go_upto_region 12 with fail
          go_loopw [6, 7] (fun a i wr => EntI b q v w Bx W1.heap.size a i wr) (fun _ i _ => q - (intOf i).toNat)
          case atStart => exact ⟨0, 10, [], .slice none 0 0, rfl, rfl, by omega, by omega, by omega, rfl, (preE_nil q (b.drop 10)).symm, (fun x hx => by cases hx), hR0, hRx, OwnE.nil _ _ _, hB0, Nat.le_refl _⟩
          case round =>
            obtain ⟨k, a, es, u, rfl, rfl, hk, ha10, han, hes, hpre, hsd, hRr, hRb, hown, hbel, hszr⟩ := hrel
            by_cases hlt : k < q
            · have e1 : q - k = (q - (k + 1)) + 1 := by omega
              rw [e1] at hpre
              have HES := Lib.hid hes
              have HSD := Lib.hid hsd
              have hdl : (b.drop a).length = n - a := by rw [List.length_drop, hlen]
              have c9w := H9q.out wr hbel
              have HBL := Lib.hid hbel
              have jk : (k : Int) < (q : Int) := by omega
              have HQ := Lib.hid hlt
              rw [hlen] at han
              clear e1 hes hsd
              by_cases hs1 : n < a + 17
              · have HPP : Hid (P = badB 2) := by
                  rw [← HE.out, hpre.out, readEs_s1 _ _ _ (by rw [hdl]; omega)] at HP
                  exact HP
                clear HP HE hpre
                have d17 : (n : Int) - (a : Int) < 17 := by omega
                go_wp2_with (refine wpList_store_row rfl 26 (.tmp 2) (.tmp 47) rfl w.heap.size rfl zeroB rfl _ _ hRr (by exact size_bundle) rfl (one_three _ _ _ rfl rfl rfl) ?_)
                refine bodyPost_ret (results_row_two (p := 2) (u := 3) (v := 4) (ty := 26) (by rfl) _ _ w.heap.size 26 _ _ (by rfl) (by exact hRr.setRow _) Tryz.underlying26 (by rfl) (by exact size_bundle)) (by rfl) ?_
                exact retbr_bad HPP (below_setRow HBL.out (Nat.le_refl _) _)
              · obtain ⟨p, hp16⟩ : ∃ p, ((b.drop a).getD 16 0).toNat = p := ⟨_, rfl⟩
                have hp256 : p < 256 := by rw [← hp16]; exact UInt8.toNat_lt _
                have c16 : wr.cell? ⟨blk, o + (a + 16), none⟩ = some (.int .u8 (p : Int)) := by
                  have h1 := hcell (a + 16) (by omega)
                  have h2 : (b.drop a).getD 16 0 = b[a + 16]'(by omega) := by rw [List.getD_eq_getElem?_getD, List.getElem?_drop, List.getElem?_eq_getElem (by omega)]; rfl
                  unfold vB at h1
                  rw [← h2, hp16] at h1
                  exact (HBL.out.cell (p := ⟨blk, o + (a + 16), none⟩) hblk).trans h1
                have d17 : ¬ (n : Int) - (a : Int) < 17 := by omega
                by_cases hs2 : p = 0 ∨ 32 < p
                · have HPP : Hid (P = badB 3) := by
                    rw [← HE.out, hpre.out, readEs_s2 _ _ _ (by rw [hdl]; omega) (by rw [hp16]; exact hs2)] at HP
                    exact HP
                  clear HP HE hpre hp16
                  rcases hs2 with rfl | hs2
                  · go_wp2_with (refine wpList_store_row rfl 26 (.tmp 2) (.tmp 60) rfl w.heap.size rfl zeroB rfl _ _ hRr (by exact size_bundle) rfl (one_three _ _ _ rfl rfl rfl) ?_)
                    refine bodyPost_ret (results_row_two (p := 2) (u := 3) (v := 4) (ty := 26) (by rfl) _ _ w.heap.size 26 _ _ (by rfl) (by exact hRr.setRow _) Tryz.underlying26 (by rfl) (by exact size_bundle)) (by rfl) ?_
                    exact retbr_bad HPP (below_setRow HBL.out (Nat.le_refl _) _)
                  · have zp : ((p : Int) == 0) = false := beq_eq_false_iff_ne.2 (by omega)
                    have dp : (32 : Int) < (p : Int) := by omega
                    go_wp2_with (refine wpList_store_row rfl 26 (.tmp 2) (.tmp 60) rfl w.heap.size rfl zeroB rfl _ _ hRr (by exact size_bundle) rfl (one_three _ _ _ rfl rfl rfl) ?_)
                    refine bodyPost_ret (results_row_two (p := 2) (u := 3) (v := 4) (ty := 26) (by rfl) _ _ w.heap.size 26 _ _ (by rfl) (by exact hRr.setRow _) Tryz.underlying26 (by rfl) (by exact size_bundle)) (by rfl) ?_
                    exact retbr_bad HPP (below_setRow HBL.out (Nat.le_refl _) _)
                · have zp : ((p : Int) == 0) = false := beq_eq_false_iff_ne.2 (by omega)
                  have dp : ¬ (32 : Int) < (p : Int) := by omega
                  by_cases hs3 : n < a + 17 + p
                  · have HPP : Hid (P = badB 2) := by
                      rw [← HE.out, hpre.out, readEs_s3 _ _ _ (by rw [hdl]; omega) (by rw [hp16]; exact hs2) (by rw [hdl, hp16]; omega)] at HP
                      exact HP
                    clear HP HE hpre hp16
                    have dn : (n : Int) - (a : Int) - 17 < (p : Int) := by omega
                    go_wp2_with (refine wpList_store_row rfl 26 (.tmp 2) (.tmp 68) rfl w.heap.size rfl zeroB rfl _ _ hRr (by exact size_bundle) rfl (one_three _ _ _ rfl rfl rfl) ?_)
                    refine bodyPost_ret (results_row_two (p := 2) (u := 3) (v := 4) (ty := 26) (by rfl) _ _ w.heap.size 26 _ _ (by rfl) (by exact hRr.setRow _) Tryz.underlying26 (by rfl) (by exact size_bundle)) (by rfl) ?_
                    exact retbr_bad HPP (below_setRow HBL.out (Nat.le_refl _) _)
                  · have hE4 := readEs_s4 (conE es) (q - (k + 1)) (b.drop a) (by rw [hdl]; omega) (by rw [hp16]; exact hs2) (by rw [hdl, hp16]; omega)
                    rw [hp16, List.drop_drop] at hE4
                    have HE4 := Lib.hid (hpre.out.trans hE4)
                    have HP4 := HP
                    have HE0 := HE
                    have hcA : ∀ W, (Instr.slice 27 (.slice (some ⟨blk, o, none⟩) n c) (some (.int .i64 (a : Int))) (some (.int .i64 ((a : Int) + 8))) none).run Tryz.prog W = .ok (.slice (chA (some ⟨blk, o, none⟩) a) 8 (c - a)) W := fun W => by
                      have := cut_mid (some ⟨blk, o, none⟩) n c a 8 (by omega) W
                      rw [if_neg (by omega)] at this
                      exact this
                    have hcB : ∀ W, (Instr.slice 27 (.slice (some ⟨blk, o, none⟩) n c) (some (.int .i64 ((a : Int) + 8))) (some (.int .i64 ((a : Int) + 16))) none).run Tryz.prog W = .ok (.slice (chA (some ⟨blk, o, none⟩) (a + 8)) 8 (c - (a + 8))) W := fun W => by
                      have := cut_mid (some ⟨blk, o, none⟩) n c (a + 8) 8 (by omega) W
                      rw [if_neg (by omega), show (((a + 8 : Nat) : Int)) = (a : Int) + 8 by omega, show (a : Int) + 8 + ((8 : Nat) : Int) = (a : Int) + 16 by omega] at this
                      exact this
                    have hcC : ∀ W, (Instr.slice 27 (.slice (some ⟨blk, o, none⟩) n c) (some (.int .i64 ((a : Int) + 17))) (some (.int .i64 ((a : Int) + 17 + (p : Int)))) none).run Tryz.prog W = .ok (.slice (chA (some ⟨blk, o, none⟩) (a + 17)) p (c - (a + 17))) W := fun W => by
                      have := cut_mid (some ⟨blk, o, none⟩) n c (a + 17) p (by omega) W
                      rw [if_neg (by omega), show (((a + 17 : Nat) : Int)) = (a : Int) + 17 by omega] at this
                      exact this
                    have hrw := hr.keep HBL.out
                    obtain ⟨L1, hL1⟩ : ∃ L, (b.drop a).take 8 = L := ⟨_, rfl⟩
                    obtain ⟨L2, hL2⟩ : ∃ L, (b.drop (a + 8)).take 8 = L := ⟨_, rfl⟩
                    obtain ⟨L3, hL3⟩ : ∃ L, (b.drop (a + 17)).take p = L := ⟨_, rfl⟩
                    have hn1 : L1.length = 8 := by rw [← hL1, List.length_take, List.length_drop]; omega
                    have hn2 : L2.length = 8 := by rw [← hL2, List.length_take, List.length_drop]; omega
                    have hn3 : L3.length = p := by rw [← hL3, List.length_take, List.length_drop]; omega
                    obtain ⟨v1, hv1⟩ : ∃ v, valN L1 = v := ⟨_, rfl⟩
                    obtain ⟨v2, hv2⟩ : ∃ v, valN L2 = v := ⟨_, rfl⟩
                    have hen : entE (b.drop a) = (v1, v2, L3) := by
                      unfold entE
                      rw [hp16, List.drop_drop, List.drop_drop, hL1, hL2, hL3, hv1, hv2]
                    rw [hen] at HE4
                    have hr1 : Rd vB wr (chA (some ⟨blk, o, none⟩) a) L1 := by rw [← hL1]; exact (hrw.chA a).take 8
                    have hr2 : Rd vB wr (chA (some ⟨blk, o, none⟩) (a + 8)) L2 := by rw [← hL2]; exact (hrw.chA (a + 8)).take 8
                    have hr3 : Rd vB wr (chA (some ⟨blk, o, none⟩) (a + 17)) L3 := by rw [← hL3]; exact (hrw.chA (a + 17)).take p
                    generalize chA (some ⟨blk, o, none⟩) a = A1 at hr1 hcA
                    generalize chA (some ⟨blk, o, none⟩) (a + 8) = A2 at hr2 hcB
                    generalize chA (some ⟨blk, o, none⟩) (a + 17) = A3 at hr3 hcC
                    have HC1 := Lib.hid (fun W (hW : Below wr.heap.size wr W) => val8_any L1 A1 (c - a) W (hr1.keep hW) hn1 v1 hv1)
                    have HC2 := Lib.hid (fun W (hW : Below wr.heap.size wr W) => val8_any L2 A2 (c - (a + 8)) W (hr2.keep hW) hn2 v2 hv2)
                    have HN3 := Lib.hid hn3
                    have HS2 := Lib.hid hs2
                    obtain ⟨eA, ec, hu, hec, hre⟩ := hown.slice
                    rw [HES.out] at hu hec
                    subst hu
                    have c1 : wr.cell? ⟨Bx, 1, none⟩ = some (.slice eA k ec) := hRb.cell rfl
                    have HEC := Lib.hid hec
                    have dn : ¬ (n : Int) - (a : Int) - 17 < (p : Int) := by omega
                    have han17 : a + 17 + p ≤ n := by omega
                    clear hr1 hr2 hrw hL1 hL2 hL3 hn1 hn2 hn3 hv1 hv2 hE4 hen hp16 hpre hre hec hdl HP HE hcell hs1 hs3 hs2
                    go_upto_region 21 with fail
                    have w8 : IntKind.i64.wrap ((a : Int) + 8) = (a : Int) + 8 := by rw [IntKind.wrap_i64]; omega
                    have w16 : IntKind.i64.wrap ((a : Int) + 16) = (a : Int) + 16 := by rw [IntKind.wrap_i64]; omega
                    have w17 : IntKind.i64.wrap ((a : Int) + 17) = (a : Int) + 17 := by rw [IntKind.wrap_i64]; omega
                    have w17p : IntKind.i64.wrap ((a : Int) + 17 + (p : Int)) = (a : Int) + 17 + (p : Int) := by rw [IntKind.wrap_i64]; omega
                    have hS : wr.drew.cell? ⟨Bx, 1, none⟩ = some (.slice eA k ec) ∧ True := ⟨c1, trivial⟩
                    refine wp_region_last (fun W => W.cell? ⟨Bx, 1, none⟩ = some (.slice eA k ec) ∧ True) (.step 0 false (.step 1 false (.step 2 false (.step 3 false (.step 4 false (.step 5 false (.step 6 false (.step 8 false (.step 9 false (.step 10 false (.step 11 false (.step 12 false (.step 13 false (.step 16 false (.step 17 false (.step 18 false (.step 19 false (.step 20 false (.step 21 false (.step 22 false (.step 23 false (.fork 7 (.fork 14 (.step 15 true (.step 24 true (.step 25 false (.step 26 true (.step 27 true (.step 28 false .nil)))))) 15 (.step 14 true (.step 24 true (.step 25 false (.step 26 true (.step 27 true (.step 28 false .nil))))))) 15 (.step 7 true (.step 14 true (.step 24 true (.step 25 false (.step 26 true (.step 27 true (.step 28 false .nil))))))))))))))))))))))))))))) hS (by rfl) (by kernel_rfl) (by kernel_rfl) (by decide) (by kernel_rfl) (by kernel_rfl) (by kernel_rfl) (by kernel_rfl) ?_
                    simp only [initO, List.dropLast]
                    have hSd : wr.drew.cell? ⟨Bx, 1, none⟩ = some (.slice eA k ec) := c1
                    have hownD : OwnE W1.heap.size 35 es (.slice eA k ec) wr.drew := hown.later (Below.refl _ _).drew
                    have hRrD : Row wr.drew w.heap.size 26 zeroB := hRr
                    have hRbD : Row wr.drew Bx 26 [.int .u64 (v : Int), .slice eA k ec, .slice none 0 0] := hRb
                    have HBD : Hid (Below w.heap.size w wr.drew) := HBL.out.drew
                    have HCd1 : Hid (∀ W, Below wr.drew.heap.size wr.drew W → Calls Tryz.prog 38 #[.slice A1 8 (c - a)] W fun e w' => e = .returned (.int .u64 (v1 : Int)) ∧ w' = W) := fun W hW => HC1.out W (below_step (Below.refl _ _).drew hW)
                    have HCd2 : Hid (∀ W, Below wr.drew.heap.size wr.drew W → Calls Tryz.prog 38 #[.slice A2 8 (c - (a + 8))] W fun e w' => e = .returned (.int .u64 (v2 : Int)) ∧ w' = W) := fun W hW => HC2.out W (below_step (Below.refl _ _).drew hW)
                    have hr3d : Rd vB wr.drew A3 L3 := hr3.keep (Below.refl _ _).drew
                    clear HC1 HC2 hown hRr hRb HBL c1 hr3 c9w c16 hS
                    iterate 21 (refine plan_read rfl (by rfl) (v := ?_) ?_ ?_; rotate_left 1; (intro W hW; (try dsimp only at hW); obtain ⟨hW0, hW1⟩ := hW; go_simp <;> with_reducible rfl); simp only [List.getElem_toArray, List.getElem_cons_zero, List.getElem_cons_succ, Act.put, List.setIfInBounds_toArray, List.set_cons_zero, List.set_cons_succ])
                    have hszd : wr.heap.size = wr.drew.heap.size := rfl
                    generalize wr.drew = wd at hSd hownD hRrD hRbD HBD HCd1 HCd2 hr3d hszd ⊢
                    rw [hszd] at hszr
                    have hS : wd.cell? ⟨Bx, 1, none⟩ = some (.slice eA k ec) ∧ True := ⟨hSd, trivial⟩
                    have hBxd := hRbD.lt
                    have hSE : (wd.alloc (.cells #[] 5)).cell? ⟨Bx, 1, none⟩ = some (.slice eA k ec) ∧ True := ⟨by rw [World.cell?_alloc_lt _ _ _ hBxd]; exact hSd, trivial⟩
                    have hownk : wd.ownsRow W1.heap.size 35 3 (.slice eA k ec) k (cellsE es) := by
                      have := hownD.1
                      rw [HES.out] at this
                      exact this
                    have hownE : (wd.alloc (.cells #[] 5)).ownsRow wd.heap.size 5 1 (.slice (some ⟨wd.heap.size, 0, none⟩) 0 0) 0 [] := own_lit wd 5 [] #[] rfl (by simp)
                    have hr3E : Rd vB (wd.alloc (.cells #[] 5)) A3 L3 := hr3d.keep (below_new (Below.refl _ _) _)
                    have hsd9 : ∀ A7 c7, ∀ x ∈ es ++ [ED.mk v1 v2 A7 c7 L3], x.s.length ≤ 32 := fun A7 c7 x hx => by
                      rcases List.mem_append.1 hx with hx | hx
                      · exact HSD.out x hx
                      · rw [List.mem_singleton.1 hx]
                        show L3.length ≤ 32
                        have := HN3.out
                        have := HS2.out
                        omega
                    refine plan_fork rfl rfl (by rfl) (by rfl) (fun K hK => ?_) (fun K hK => ?_)
                    · go_simp
                      refine (HCd1.out _ (Below.refl _ _)).mono ?_; rintro e₁ w4 ⟨rfl, h4⟩; replace h4 := h4.symm; subst h4
                      refine hK.out _ _ hS ?_
                      clear hK K
                      refine plan_fork rfl rfl (by rfl) (by rfl) (fun K hK => ?_) (fun K hK => ?_)
                      · go_simp
                        refine (HCd2.out _ (Below.refl _ _)).mono ?_; rintro e₁ w4 ⟨rfl, h4⟩; replace h4 := h4.symm; subst h4
                        refine hK.out _ _ hS ?_
                        clear hK K
                        (refine plan_make_of rfl (by rfl) (fun K hK => ?_); go_simp; refine hK.out _ _ hSE ?_; clear hK K)
                        refine plan_make_of rfl (by rfl) (fun K hK => ?_)
                        refine wp_append_apart _ (.tmp 84) (.tmp 92) 27 (by rfl) wd.heap.size 5 i0 (.int .u8 0) 1 Tryz.underlying27 hi hz0 hz1 hz2 rfl _ 0 _ (by rfl) hownE A3 L3 (c - (a + 17)) (by rw [HN3.out]; rfl) hr3E vB_one (by rw [HN3.out]; unfold maxLen; omega) (by rw [HN3.out]; omega) (by simp) ?_
                        intro v7 w7 hown7 hgrow7 hat7
                        have hb7 : Below wd.heap.size wd w7 := (below_new (Below.refl wd.heap.size wd) (.cells #[] 5)).grown hgrow7 (by simp) (fun j hj => (hownE.lt j hj).1)
                        rw [Nat.zero_add, List.nil_append] at hown7
                        obtain ⟨A7, c7, rfl, hc7, hr7⟩ := own_slice hown7
                        have hn7 : L3 ≠ [] → ∀ a, A7 = some a → wd.heap.size ≤ a.block := fun _ a' ha' => by subst ha'; exact (hown7.lt _ rfl).1
                        simp only [List.getElem_toArray, List.getElem_cons_zero, List.getElem_cons_succ, Act.put, List.setIfInBounds_toArray, List.set_cons_zero, List.set_cons_succ]
                        refine hK.out _ _ ⟨(hb7.cell (p := ⟨Bx, 1, none⟩) hBxd).trans hSd, trivial⟩ ?_
                        clear hK K hown7 hgrow7 hat7
                        iterate 1 (refine plan_read rfl (by rfl) (v := ?_) ?_ ?_; rotate_left 1; (intro W hW; (try dsimp only at hW); obtain ⟨hW0, hW1⟩ := hW; go_simp <;> with_reducible rfl); simp only [List.getElem_toArray, List.getElem_cons_zero, List.getElem_cons_succ, Act.put, List.setIfInBounds_toArray, List.set_cons_zero, List.set_cons_succ])
                        have hb8 : Below wd.heap.size wd (w7.alloc (.cells #[.int .u64 (v1 : Int), .int .u64 (v2 : Int), .slice A7 L3.length c7] 35)) := below_new hb7 _
                        (refine plan_make_of rfl (by rfl) (fun K hK => ?_); go_simp; refine hK.out _ _ ⟨(hb8.cell (p := ⟨Bx, 1, none⟩) hBxd).trans hSd, trivial⟩ ?_; clear hK K)
                        have hown8 := ownsRowE_later hownk hb8
                        have hnews := (Row.new w7 35 (ED.mk v1 v2 A7 c7 L3).cells #[.int .u64 (v1 : Int), .int .u64 (v2 : Int), .slice A7 L3.length c7] rfl).newsD
                        have hs8 := hb8.size
                        refine plan_make_of rfl (by rfl) (fun K hK => ?_)
                        refine wp_append_own3 _ (.tmp 70) (.tmp 95) 23 (by rfl) W1.heap.size 35 j0 (.agg #[.int .u64 0, .int .u64 0, .slice none 0 0]) 3 40 Tryz.underlying23 hj gz0 gz1 gz2 rfl (by decide) (.slice eA k ec) k (cellsE es) (by rfl) hown8 ⟨w7.heap.size, 0, none⟩ 1 1 (ED.mk v1 v2 A7 c7 L3).cells (by rfl) (by rfl) hnews (ED.one _) (by unfold maxLen; omega) (by omega) (by omega) ?_
                        intro v9 w9 hown9 hgrow9 hat9
                        obtain ⟨A9, c9, rfl, hc9q⟩ := own_formE hown9
                        have hO9 : OwnE W1.heap.size 35 (es ++ [ED.mk v1 v2 A7 c7 L3]) (.slice A9 (k + 1) c9) w9 := hownD.more hb7 ⟨hc7, hr7⟩ hn7 hszr (below_new (Below.refl _ _) _) (by rw [HES.out]; exact hown9) hgrow9 hat9
                        have hbd9 : Below W1.heap.size wd w9 := (hb8.mono hszr).grown hgrow9 (by omega) (fun j hj => (hown8.lt j hj).1)
                        have hRr9 := (hRrD.later hb8).grown hgrow9 (fun e => by have := (hown8.lt _ e).1; omega)
                        have hRb9 := (hRbD.later hb8).grown hgrow9 (fun e => by have := (hown8.lt _ e).1; omega)
                        have HB9 := Lib.hid (HBD.out.trans (hbd9.mono hsz))
                        have hs9 := hbd9.size
                        simp only [List.getElem_toArray, List.getElem_cons_zero, List.getElem_cons_succ, Act.put, List.setIfInBounds_toArray, List.set_cons_zero, List.set_cons_succ]
                        refine hK.out _ _ ⟨hRb9.cell rfl, trivial⟩ ?_
                        clear hK K hown9 hgrow9 hat9 hbd9 hown8 hb8 hb7 hnews
                        iterate 1 (refine plan_read rfl (by rfl) (v := ?_) ?_ ?_; rotate_left 1; (intro W hW; (try dsimp only at hW); obtain ⟨hW0, hW1⟩ := hW; go_simp <;> with_reducible rfl); simp only [List.getElem_toArray, List.getElem_cons_zero, List.getElem_cons_succ, Act.put, List.setIfInBounds_toArray, List.set_cons_zero, List.set_cons_succ])
                        have hc9 : w9.cell? ⟨Bx, 1, none⟩ = some (.slice eA k ec) := hRb9.cell rfl
                        have hf9 : w9.frozen? ⟨Bx, 1, none⟩ = false := hRb9.frozen 1
                        refine planLast_done rfl (by rfl) ?_
                        go_simp
                        have HO10 := Lib.hid (hO9.same (w' := w9.setCell ⟨Bx, 1, none⟩ (.slice A9 (k + 1) c9)) (fun j h1 _ => Below.heap_setCell w9 ⟨Bx, 1, none⟩ (.slice A9 (k + 1) c9) j (by show j ≠ Bx; omega)))
                        have hRr10 := hRr9.setCell_other (p := ⟨Bx, 1, none⟩) (by show w.heap.size ≠ Bx; omega) (.slice A9 (k + 1) c9)
                        have hRb10 : Row (w9.setCell ⟨Bx, 1, none⟩ (.slice A9 (k + 1) c9)) Bx 26 [.int .u64 (v : Int), (.slice A9 (k + 1) c9), .slice none 0 0] := hRb9.setCell 1 (.slice A9 (k + 1) c9)
                        have HB10 := Lib.hid (HB9.out.setCell (p := ⟨Bx, 1, none⟩) (by show w.heap.size ≤ Bx; omega) (.slice A9 (k + 1) c9))
                        have hs10 : (w9.setCell ⟨Bx, 1, none⟩ (.slice A9 (k + 1) c9)).heap.size = w9.heap.size := by simp [World.setCell]
                        clear hO9 hRr9 hRb9 hc9 hf9 HB9
                        generalize w9.setCell ⟨Bx, 1, none⟩ (.slice A9 (k + 1) c9) = w10 at HO10 hRr10 hRb10 HB10 hs10 ⊢
                        go_wp2_with fail
                        go_roundw
                        case rel => exact ⟨k + 1, a + 17 + p, es ++ [ED.mk v1 v2 A7 c7 L3], (.slice A9 (k + 1) c9), by go_num, by go_num, by omega, by omega, by omega, by rw [List.length_append, HES.out]; rfl, by unfold Hid; rw [conE_snoc, show a + 17 + p = a + (17 + p) by omega]; exact HE4.out, hsd9 A7 c7, hRr10, hRb10, HO10.out, HB10.out, by omega⟩
                        case measure => simp [intOf]; omega
                      · go_simp
                        refine hK.out _ _ hSE ?_
                        clear hK K
                        refine plan_make_of rfl (by rfl) (fun K hK => ?_)
                        go_simp
                        refine (HCd2.out _ (below_new (Below.refl _ _) _)).mono ?_; rintro e₁ w4 ⟨rfl, h4⟩; replace h4 := h4.symm; subst h4
                        refine hK.out _ _ hSE ?_
                        clear hK K
                        refine plan_make_of rfl (by rfl) (fun K hK => ?_)
                        refine wp_append_apart _ (.tmp 84) (.tmp 92) 27 (by rfl) wd.heap.size 5 i0 (.int .u8 0) 1 Tryz.underlying27 hi hz0 hz1 hz2 rfl _ 0 _ (by rfl) hownE A3 L3 (c - (a + 17)) (by rw [HN3.out]; rfl) hr3E vB_one (by rw [HN3.out]; unfold maxLen; omega) (by rw [HN3.out]; omega) (by simp) ?_
                        intro v7 w7 hown7 hgrow7 hat7
                        have hb7 : Below wd.heap.size wd w7 := (below_new (Below.refl wd.heap.size wd) (.cells #[] 5)).grown hgrow7 (by simp) (fun j hj => (hownE.lt j hj).1)
                        rw [Nat.zero_add, List.nil_append] at hown7
                        obtain ⟨A7, c7, rfl, hc7, hr7⟩ := own_slice hown7
                        have hn7 : L3 ≠ [] → ∀ a, A7 = some a → wd.heap.size ≤ a.block := fun _ a' ha' => by subst ha'; exact (hown7.lt _ rfl).1
                        simp only [List.getElem_toArray, List.getElem_cons_zero, List.getElem_cons_succ, Act.put, List.setIfInBounds_toArray, List.set_cons_zero, List.set_cons_succ]
                        refine hK.out _ _ ⟨(hb7.cell (p := ⟨Bx, 1, none⟩) hBxd).trans hSd, trivial⟩ ?_
                        clear hK K hown7 hgrow7 hat7
                        iterate 1 (refine plan_read rfl (by rfl) (v := ?_) ?_ ?_; rotate_left 1; (intro W hW; (try dsimp only at hW); obtain ⟨hW0, hW1⟩ := hW; go_simp <;> with_reducible rfl); simp only [List.getElem_toArray, List.getElem_cons_zero, List.getElem_cons_succ, Act.put, List.setIfInBounds_toArray, List.set_cons_zero, List.set_cons_succ])
                        have hb8 : Below wd.heap.size wd (w7.alloc (.cells #[.int .u64 (v1 : Int), .int .u64 (v2 : Int), .slice A7 L3.length c7] 35)) := below_new hb7 _
                        (refine plan_make_of rfl (by rfl) (fun K hK => ?_); go_simp; refine hK.out _ _ ⟨(hb8.cell (p := ⟨Bx, 1, none⟩) hBxd).trans hSd, trivial⟩ ?_; clear hK K)
                        have hown8 := ownsRowE_later hownk hb8
                        have hnews := (Row.new w7 35 (ED.mk v1 v2 A7 c7 L3).cells #[.int .u64 (v1 : Int), .int .u64 (v2 : Int), .slice A7 L3.length c7] rfl).newsD
                        have hs8 := hb8.size
                        refine plan_make_of rfl (by rfl) (fun K hK => ?_)
                        refine wp_append_own3 _ (.tmp 70) (.tmp 95) 23 (by rfl) W1.heap.size 35 j0 (.agg #[.int .u64 0, .int .u64 0, .slice none 0 0]) 3 40 Tryz.underlying23 hj gz0 gz1 gz2 rfl (by decide) (.slice eA k ec) k (cellsE es) (by rfl) hown8 ⟨w7.heap.size, 0, none⟩ 1 1 (ED.mk v1 v2 A7 c7 L3).cells (by rfl) (by rfl) hnews (ED.one _) (by unfold maxLen; omega) (by omega) (by omega) ?_
                        intro v9 w9 hown9 hgrow9 hat9
                        obtain ⟨A9, c9, rfl, hc9q⟩ := own_formE hown9
                        have hO9 : OwnE W1.heap.size 35 (es ++ [ED.mk v1 v2 A7 c7 L3]) (.slice A9 (k + 1) c9) w9 := hownD.more hb7 ⟨hc7, hr7⟩ hn7 hszr (below_new (Below.refl _ _) _) (by rw [HES.out]; exact hown9) hgrow9 hat9
                        have hbd9 : Below W1.heap.size wd w9 := (hb8.mono hszr).grown hgrow9 (by omega) (fun j hj => (hown8.lt j hj).1)
                        have hRr9 := (hRrD.later hb8).grown hgrow9 (fun e => by have := (hown8.lt _ e).1; omega)
                        have hRb9 := (hRbD.later hb8).grown hgrow9 (fun e => by have := (hown8.lt _ e).1; omega)
                        have HB9 := Lib.hid (HBD.out.trans (hbd9.mono hsz))
                        have hs9 := hbd9.size
                        simp only [List.getElem_toArray, List.getElem_cons_zero, List.getElem_cons_succ, Act.put, List.setIfInBounds_toArray, List.set_cons_zero, List.set_cons_succ]
                        refine hK.out _ _ ⟨hRb9.cell rfl, trivial⟩ ?_
                        clear hK K hown9 hgrow9 hat9 hbd9 hown8 hb8 hb7 hnews
                        iterate 1 (refine plan_read rfl (by rfl) (v := ?_) ?_ ?_; rotate_left 1; (intro W hW; (try dsimp only at hW); obtain ⟨hW0, hW1⟩ := hW; go_simp <;> with_reducible rfl); simp only [List.getElem_toArray, List.getElem_cons_zero, List.getElem_cons_succ, Act.put, List.setIfInBounds_toArray, List.set_cons_zero, List.set_cons_succ])
                        have hc9 : w9.cell? ⟨Bx, 1, none⟩ = some (.slice eA k ec) := hRb9.cell rfl
                        have hf9 : w9.frozen? ⟨Bx, 1, none⟩ = false := hRb9.frozen 1
                        refine planLast_done rfl (by rfl) ?_
                        go_simp
                        have HO10 := Lib.hid (hO9.same (w' := w9.setCell ⟨Bx, 1, none⟩ (.slice A9 (k + 1) c9)) (fun j h1 _ => Below.heap_setCell w9 ⟨Bx, 1, none⟩ (.slice A9 (k + 1) c9) j (by show j ≠ Bx; omega)))
                        have hRr10 := hRr9.setCell_other (p := ⟨Bx, 1, none⟩) (by show w.heap.size ≠ Bx; omega) (.slice A9 (k + 1) c9)
                        have hRb10 : Row (w9.setCell ⟨Bx, 1, none⟩ (.slice A9 (k + 1) c9)) Bx 26 [.int .u64 (v : Int), (.slice A9 (k + 1) c9), .slice none 0 0] := hRb9.setCell 1 (.slice A9 (k + 1) c9)
                        have HB10 := Lib.hid (HB9.out.setCell (p := ⟨Bx, 1, none⟩) (by show w.heap.size ≤ Bx; omega) (.slice A9 (k + 1) c9))
                        have hs10 : (w9.setCell ⟨Bx, 1, none⟩ (.slice A9 (k + 1) c9)).heap.size = w9.heap.size := by simp [World.setCell]
                        clear hO9 hRr9 hRb9 hc9 hf9 HB9
                        generalize w9.setCell ⟨Bx, 1, none⟩ (.slice A9 (k + 1) c9) = w10 at HO10 hRr10 hRb10 HB10 hs10 ⊢
                        go_wp2_with fail
                        go_roundw
                        case rel => exact ⟨k + 1, a + 17 + p, es ++ [ED.mk v1 v2 A7 c7 L3], (.slice A9 (k + 1) c9), by go_num, by go_num, by omega, by omega, by omega, by rw [List.length_append, HES.out]; rfl, by unfold Hid; rw [conE_snoc, show a + 17 + p = a + (17 + p) by omega]; exact HE4.out, hsd9 A7 c7, hRr10, hRb10, HO10.out, HB10.out, by omega⟩
                        case measure => simp [intOf]; omega
                    · go_simp
                      refine hK.out _ _ hSE ?_
                      clear hK K
                      refine plan_make_of rfl (by rfl) (fun K hK => ?_)
                      go_simp
                      refine (HCd1.out _ (below_new (Below.refl _ _) _)).mono ?_; rintro e₁ w4 ⟨rfl, h4⟩; replace h4 := h4.symm; subst h4
                      refine hK.out _ _ hSE ?_
                      clear hK K
                      refine plan_make_of rfl (by rfl) (fun K hK => ?_)
                      go_simp
                      refine (HCd2.out _ (below_new (Below.refl _ _) _)).mono ?_; rintro e₁ w4 ⟨rfl, h4⟩; replace h4 := h4.symm; subst h4
                      refine hK.out _ _ hSE ?_
                      clear hK K
                      refine plan_make_of rfl (by rfl) (fun K hK => ?_)
                      refine wp_append_apart _ (.tmp 84) (.tmp 92) 27 (by rfl) wd.heap.size 5 i0 (.int .u8 0) 1 Tryz.underlying27 hi hz0 hz1 hz2 rfl _ 0 _ (by rfl) hownE A3 L3 (c - (a + 17)) (by rw [HN3.out]; rfl) hr3E vB_one (by rw [HN3.out]; unfold maxLen; omega) (by rw [HN3.out]; omega) (by simp) ?_
                      intro v7 w7 hown7 hgrow7 hat7
                      have hb7 : Below wd.heap.size wd w7 := (below_new (Below.refl wd.heap.size wd) (.cells #[] 5)).grown hgrow7 (by simp) (fun j hj => (hownE.lt j hj).1)
                      rw [Nat.zero_add, List.nil_append] at hown7
                      obtain ⟨A7, c7, rfl, hc7, hr7⟩ := own_slice hown7
                      have hn7 : L3 ≠ [] → ∀ a, A7 = some a → wd.heap.size ≤ a.block := fun _ a' ha' => by subst ha'; exact (hown7.lt _ rfl).1
                      simp only [List.getElem_toArray, List.getElem_cons_zero, List.getElem_cons_succ, Act.put, List.setIfInBounds_toArray, List.set_cons_zero, List.set_cons_succ]
                      refine hK.out _ _ ⟨(hb7.cell (p := ⟨Bx, 1, none⟩) hBxd).trans hSd, trivial⟩ ?_
                      clear hK K hown7 hgrow7 hat7
                      iterate 1 (refine plan_read rfl (by rfl) (v := ?_) ?_ ?_; rotate_left 1; (intro W hW; (try dsimp only at hW); obtain ⟨hW0, hW1⟩ := hW; go_simp <;> with_reducible rfl); simp only [List.getElem_toArray, List.getElem_cons_zero, List.getElem_cons_succ, Act.put, List.setIfInBounds_toArray, List.set_cons_zero, List.set_cons_succ])
                      have hb8 : Below wd.heap.size wd (w7.alloc (.cells #[.int .u64 (v1 : Int), .int .u64 (v2 : Int), .slice A7 L3.length c7] 35)) := below_new hb7 _
                      (refine plan_make_of rfl (by rfl) (fun K hK => ?_); go_simp; refine hK.out _ _ ⟨(hb8.cell (p := ⟨Bx, 1, none⟩) hBxd).trans hSd, trivial⟩ ?_; clear hK K)
                      have hown8 := ownsRowE_later hownk hb8
                      have hnews := (Row.new w7 35 (ED.mk v1 v2 A7 c7 L3).cells #[.int .u64 (v1 : Int), .int .u64 (v2 : Int), .slice A7 L3.length c7] rfl).newsD
                      have hs8 := hb8.size
                      refine plan_make_of rfl (by rfl) (fun K hK => ?_)
                      refine wp_append_own3 _ (.tmp 70) (.tmp 95) 23 (by rfl) W1.heap.size 35 j0 (.agg #[.int .u64 0, .int .u64 0, .slice none 0 0]) 3 40 Tryz.underlying23 hj gz0 gz1 gz2 rfl (by decide) (.slice eA k ec) k (cellsE es) (by rfl) hown8 ⟨w7.heap.size, 0, none⟩ 1 1 (ED.mk v1 v2 A7 c7 L3).cells (by rfl) (by rfl) hnews (ED.one _) (by unfold maxLen; omega) (by omega) (by omega) ?_
                      intro v9 w9 hown9 hgrow9 hat9
                      obtain ⟨A9, c9, rfl, hc9q⟩ := own_formE hown9
                      have hO9 : OwnE W1.heap.size 35 (es ++ [ED.mk v1 v2 A7 c7 L3]) (.slice A9 (k + 1) c9) w9 := hownD.more hb7 ⟨hc7, hr7⟩ hn7 hszr (below_new (Below.refl _ _) _) (by rw [HES.out]; exact hown9) hgrow9 hat9
                      have hbd9 : Below W1.heap.size wd w9 := (hb8.mono hszr).grown hgrow9 (by omega) (fun j hj => (hown8.lt j hj).1)
                      have hRr9 := (hRrD.later hb8).grown hgrow9 (fun e => by have := (hown8.lt _ e).1; omega)
                      have hRb9 := (hRbD.later hb8).grown hgrow9 (fun e => by have := (hown8.lt _ e).1; omega)
                      have HB9 := Lib.hid (HBD.out.trans (hbd9.mono hsz))
                      have hs9 := hbd9.size
                      simp only [List.getElem_toArray, List.getElem_cons_zero, List.getElem_cons_succ, Act.put, List.setIfInBounds_toArray, List.set_cons_zero, List.set_cons_succ]
                      refine hK.out _ _ ⟨hRb9.cell rfl, trivial⟩ ?_
                      clear hK K hown9 hgrow9 hat9 hbd9 hown8 hb8 hb7 hnews
                      iterate 1 (refine plan_read rfl (by rfl) (v := ?_) ?_ ?_; rotate_left 1; (intro W hW; (try dsimp only at hW); obtain ⟨hW0, hW1⟩ := hW; go_simp <;> with_reducible rfl); simp only [List.getElem_toArray, List.getElem_cons_zero, List.getElem_cons_succ, Act.put, List.setIfInBounds_toArray, List.set_cons_zero, List.set_cons_succ])
                      have hc9 : w9.cell? ⟨Bx, 1, none⟩ = some (.slice eA k ec) := hRb9.cell rfl
                      have hf9 : w9.frozen? ⟨Bx, 1, none⟩ = false := hRb9.frozen 1
                      refine planLast_done rfl (by rfl) ?_
                      go_simp
                      have HO10 := Lib.hid (hO9.same (w' := w9.setCell ⟨Bx, 1, none⟩ (.slice A9 (k + 1) c9)) (fun j h1 _ => Below.heap_setCell w9 ⟨Bx, 1, none⟩ (.slice A9 (k + 1) c9) j (by show j ≠ Bx; omega)))
                      have hRr10 := hRr9.setCell_other (p := ⟨Bx, 1, none⟩) (by show w.heap.size ≠ Bx; omega) (.slice A9 (k + 1) c9)
                      have hRb10 : Row (w9.setCell ⟨Bx, 1, none⟩ (.slice A9 (k + 1) c9)) Bx 26 [.int .u64 (v : Int), (.slice A9 (k + 1) c9), .slice none 0 0] := hRb9.setCell 1 (.slice A9 (k + 1) c9)
                      have HB10 := Lib.hid (HB9.out.setCell (p := ⟨Bx, 1, none⟩) (by show w.heap.size ≤ Bx; omega) (.slice A9 (k + 1) c9))
                      have hs10 : (w9.setCell ⟨Bx, 1, none⟩ (.slice A9 (k + 1) c9)).heap.size = w9.heap.size := by simp [World.setCell]
                      clear hO9 hRr9 hRb9 hc9 hf9 HB9
                      generalize w9.setCell ⟨Bx, 1, none⟩ (.slice A9 (k + 1) c9) = w10 at HO10 hRr10 hRb10 HB10 hs10 ⊢
                      go_wp2_with fail
                      go_roundw
                      case rel => exact ⟨k + 1, a + 17 + p, es ++ [ED.mk v1 v2 A7 c7 L3], (.slice A9 (k + 1) c9), by go_num, by go_num, by omega, by omega, by omega, by rw [List.length_append, HES.out]; rfl, by unfold Hid; rw [conE_snoc, show a + 17 + p = a + (17 + p) by omega]; exact HE4.out, hsd9 A7 c7, hRr10, hRb10, HO10.out, HB10.out, by omega⟩
                      case measure => simp [intOf]; omega
            · have hkq : k = q := by omega
              subst hkq
              have hE2 : E = (conE es, b.drop a, 0) := by rw [← HE.out, hpre.out, Nat.sub_self, readEs_none]
              subst hE2
              dsimp only at HP
              obtain ⟨Gs, gn, ge, hG⟩ : ∃ Gs gn ge, readG (b.drop a) = (Gs, gn, ge) := ⟨_, _, _, rfl⟩
              rw [hG] at HP
              dsimp only at HP
              have hdl : (b.drop a).length = n - a := by rw [List.length_drop, hlen]
              have hrd := (hr.keep hbel).drop a c (by omega)
              have hct : ∀ W, (Instr.slice 27 (.slice (some ⟨blk, o, none⟩) n c) (some (.int .i64 (a : Int))) none none).run Tryz.prog W = .ok (.slice (if c = a then (some ⟨blk, o, none⟩ : Option Addr) else (some ⟨blk, o, none⟩ : Option Addr).map (·.add (a * 1))) (n - a) (c - a)) W := fun W => by
                have he : Tryz.prog.elem 27 = 5 := by simp [Program.elem, Tryz.underlying27]
                rw [run_slice_l W 27 _ n c (by rw [he]; exact Tryz.underlying27) .i64 (a : Int) (by omega) (by omega), he, size_uint8]
                simp only [Result.andThen, sliced, Int.toNat_natCast]
              have HCR := Lib.hid (refread15_any (b.drop a) (n - a) (c - a) _ wr hdl hrd (by omega) (by omega))
              rw [hG] at HCR
              dsimp only at HCR
              generalize (if c = a then (some ⟨blk, o, none⟩ : Option Addr) else (some ⟨blk, o, none⟩ : Option Addr).map (·.add (a * 1))) = A2 at hct HCR
              have j1 : ¬ (k : Int) < (k : Int) := by omega
              have c9w := H9q.out wr hbel
              have HBL := Lib.hid hbel
              clear hbel hrd hpre HE
              go_wp2_with fail
              refine HCR.out.mono ?_
              rintro e₁ w5 ⟨v5, rfl, hown5, hb5⟩
              obtain ⟨A5, c5, rfl, hc5⟩ := own_formG hown5
              replace hRr := hRr.later hb5
              replace hRb := hRb.later hb5
              replace hown := hown.later hb5
              have HB5 := Lib.hid (below_step HBL.out hb5)
              have hsz5 := hb5.size
              clear hb5 HBL hct HCR c9w c9 H9q hdl hr hcell
              simp only [ne_eq, not_true_eq_false, if_false] at HP
              by_cases hge : ge = 0
              · subst hge
                simp only [not_true_eq_false, if_false] at HP
                obtain ⟨g1, g2, g3, g4, g5⟩ := readG_good hG
                have hgl := (right_parts.1 g1).2
                rw [List.length_drop, hlen] at g3
                rw [List.length_drop, hlen, show n - (n - a) + gn = a + gn by omega] at HP
                obtain ⟨eA, ec, hu, hec, hre⟩ := hown.slice
                rw [hes] at hu hec
                subst hu
                have HES := Lib.hid hes
                have HSD := Lib.hid hsd
                clear hes hsd g1 g2 g4 g5 hG hre
                have c2 : w5.cell? ⟨Bx, 2, none⟩ = some (.slice none 0 0) := hRb.cell rfl
                have f2 : w5.frozen? ⟨Bx, 2, none⟩ = false := hRb.frozen 2
                go_upto_region 27 with fail
                have hRb6 : Row (w5.setCell ⟨Bx, 2, none⟩ (.slice A5 Gs.length c5)) Bx 26 [.int .u64 (v : Int), .slice eA k ec, .slice A5 Gs.length c5] := hRb.setCell 2 _
                have hRr6 := hRr.setCell_other (p := ⟨Bx, 2, none⟩) (by show w.heap.size ≠ Bx; omega) (.slice A5 Gs.length c5)
                have hs65 : (w5.setCell ⟨Bx, 2, none⟩ (.slice A5 Gs.length c5)).heap.size = w5.heap.size := by simp [World.setCell]
                have hother : ∀ j, j ≠ Bx → (w5.setCell ⟨Bx, 2, none⟩ (.slice A5 Gs.length c5)).heap[j]? = w5.heap[j]? := fun j hj => Below.heap_setCell w5 ⟨Bx, 2, none⟩ _ j hj
                have hown6 := hown.same (fun j h1 _ => hother j (by omega))
                have hgs6 := ownsRowG_same hown5 (fun j h1 _ => hother j (by omega))
                have HB6 := Lib.hid (HB5.out.setCell (p := ⟨Bx, 2, none⟩) (by show w.heap.size ≤ Bx; omega) (.slice A5 Gs.length c5))
                clear hown hown5 hRb hRr hother c2 f2 HB5
                generalize w5.setCell ⟨Bx, 2, none⟩ (.slice A5 Gs.length c5) = w6 at hRb6 hRr6 hown6 hgs6 HB6 hs65 ⊢
                have HRT := Lib.hid (refrightB_any v es Gs k ec Gs.length c5 eA A5 w6 HES.out (Lib.hid rfl) (hown6.rd HES.out) (RdG.own hgs6) (by omega) (by omega) (fun x hx => by have := HSD.out x hx; omega))
                unfold aggB at HRT
                obtain ⟨R, hR⟩ : ∃ R, rightB (conE es) Gs = R := ⟨_, rfl⟩
                rw [hR] at HRT HP
                have HGC := Lib.hid hc5
                have HEC := Lib.hid hec
                clear hR hc5 hec
                have hsz6 := HB6.out.size
                have hB61 : W1.heap.size ≤ w6.heap.size := by omega
                cases R with
                | false =>
                  have HPP : Hid (P = badB 3) := HP.out
                  go_wp2_with (refine wpList_load_part rfl 26 (.tmp 5) rfl Bx 0 rfl _ _ hRb6 [.int .u64 (v : Int), .slice eA k ec, .slice A5 Gs.length c5] (by rfl) _ Tryz.underlying26 rfl (by exact size_bundle) ?_)
                  refine HRT.out.mono ?_
                  rintro e₁ w7 ⟨rfl, hb7⟩
                  replace hRr6 := hRr6.later hb7
                  have HB7 := Lib.hid (below_step HB6.out hb7)
                  clear hb7 HRT
                  go_wp2_with (refine wpList_store_row rfl 26 (.tmp 2) (.tmp 119) rfl w.heap.size rfl zeroB rfl _ _ hRr6 (by exact size_bundle) rfl (one_three _ _ _ rfl rfl rfl) ?_)
                  refine bodyPost_ret (results_row_two (p := 2) (u := 3) (v := 4) (ty := 26) (by rfl) _ _ w.heap.size 26 _ _ (by rfl) (by exact hRr6.setRow _) Tryz.underlying26 (by rfl) (by exact size_bundle)) (by rfl) ?_
                  exact retbr_bad HPP (below_setRow HB7.out (Nat.le_refl _) _)
                | true =>
                  have HPP : Hid (P = (v, conE es, Gs, a + gn, 0)) := HP.out
                  have wan : IntKind.i64.wrap ((a : Int) + (gn : Int)) = (a : Int) + (gn : Int) := by rw [IntKind.wrap_i64]; omega
                  go_wp2_with (refine wpList_load_part rfl 26 (.tmp 5) rfl Bx 0 rfl _ _ hRb6 [.int .u64 (v : Int), .slice eA k ec, .slice A5 Gs.length c5] (by rfl) _ Tryz.underlying26 rfl (by exact size_bundle) ?_)
                  refine HRT.out.mono ?_
                  rintro e₁ w7 ⟨rfl, hb7⟩
                  have hRr7 := hRr6.later hb7
                  have hRb7 := hRb6.later hb7
                  have hown7 := hown6.later hb7
                  have hgs7 := ownsRowG_later hgs6 hb7
                  have HB7 := Lib.hid (below_step HB6.out hb7)
                  clear hb7 HRT hRr6 hRb6 hown6 hgs6
                  go_wp2_with (first
                    | (refine wpList_load_part rfl 26 (.tmp 5) rfl Bx 0 rfl _ _ hRb7 [.int .u64 (v : Int), .slice eA k ec, .slice A5 Gs.length c5] (by rfl) _ Tryz.underlying26 rfl (by exact size_bundle) ?_)
                    | (refine wpList_store_row rfl 26 (.tmp 2) (.tmp 120) rfl w.heap.size rfl [.int .u64 (v : Int), .slice eA k ec, .slice A5 Gs.length c5] rfl _ _ hRr7 (by exact size_bundle) rfl (one_three _ _ _ rfl rfl rfl) ?_))
                  refine bodyPost_ret (results_row_two (p := 2) (u := 3) (v := 4) (ty := 26) (by rfl) _ _ w.heap.size 26 _ _ (by rfl) (by exact hRr7.setRow _) Tryz.underlying26 (by rfl) (by exact size_bundle)) (by rfl) ?_
                  have hother : ∀ j, j ≠ w.heap.size → (w7.setRow w.heap.size [.int .u64 (v : Int), .slice eA k ec, .slice A5 Gs.length c5].toArray).heap[j]? = w7.heap[j]? := fun j hj => Go.setRow_other w7 w.heap.size j _ hj
                  have hown8 := hown7.same (fun j h1 _ => hother j (by omega))
                  have hgs8 := ownsRowG_same hgs7 (fun j h1 _ => hother j (by omega))
                  refine ⟨eA, es, k, ec, A5, Gs.length, c5, ?_, by rw [HPP.out]; exact Lib.hid rfl, HES.out, by rw [HPP.out]; exact Lib.hid rfl, HEC.out, HGC.out, hown8.rd HES.out, hown8.2.1, by rw [HPP.out]; exact RdG.own hgs8, below_setRow HB7.out (Nat.le_refl _) _⟩
                  rw [HPP.out]
                  dsimp only
                  rw [Int.natCast_add]
                  rfl
              · rw [if_pos hge] at HP
                have zge : (ge == 0) = false := beq_eq_false_iff_ne.2 hge
                go_wp2_with (refine wpList_store_row rfl 26 (.tmp 2) (.tmp 112) rfl w.heap.size rfl zeroB rfl _ _ hRr (by exact size_bundle) rfl (one_three _ _ _ rfl rfl rfl) ?_)
                refine bodyPost_ret (results_row_two (p := 2) (u := 3) (v := 4) (ty := 26) (by rfl) _ _ w.heap.size 26 _ _ (by rfl) (by exact hRr.setRow _) Tryz.underlying26 (by rfl) (by exact size_bundle)) (by rfl) ?_
                exact retbr_bad HP (below_setRow HB5.out (Nat.le_refl _) _)
    · have HP : Hid (P = badB 3) := hP.trans (bun_mark b (by omega) h66)
      have hm : (b.getD 0 0).toNat ≠ 66 := fun h => h66 (UInt8.toNat_inj.1 h)
      generalize (b.getD 0 0).toNat = m0 at hcA hm
      clear hP hcell hc0 hg0 h66
      have z2 : ((m0 : Int) == 66) = false := beq_eq_false_iff_ne.2 (by omega)
      go_wp2_with (refine wpList_store_row rfl 26 (.tmp 2) (.tmp 20) rfl w.heap.size rfl zeroB rfl _ _ hR0 (by exact size_bundle) rfl (one_three _ _ _ rfl rfl rfl) ?_)
      refine bodyPost_ret (results_row_two (p := 2) (u := 3) (v := 4) (ty := 26) (by rfl) _ _ w.heap.size 26 _ _ (by rfl) (by exact hR0.setRow _) Tryz.underlying26 (by rfl) (by exact size_bundle)) (by rfl) ?_
      exact retbr_bad HP (below_setRow hB0 (Nat.le_refl _) _)
end Go.Proofs.YtmljhkdojopljaaGreatDoor
/-
  What the program's Read of layer 16 answers (landed code). No conditions but those typed.
-/
namespace Go.Proofs.YtmljhkdojopljaaGreatDoor
set_option maxRecDepth 100000
open Go.RowKit
set_option linter.unusedSimpArgs false
set_option linter.unusedVariables false

theorem OwnE.only {B g : Nat} {t : TypeId} {xs : List ED} {v : Value} {w w' : World} (h : OwnE B t xs v w) (k : Only g w w') (hg : g < B) : OwnE B t xs v w' := h.same (fun b hb hl => k.other b (by omega) hl)
def BunI (q : Nat) (k2 : Int) (S2 : List UInt8) (v : Nat) (vS : Value) (w : World) (g1 g2 B : Nat) (i : Value) (wr : World) : Prop :=
  ∃ k es u kk S, i = .int .i64 ((k : Nat) : Int) ∧ k ≤ q ∧ (es : List ED).length = k ∧ Hid (entsK q k2 S2 = (conE es ++ (entsK (q - k) kk S).1, (entsK (q - k) kk S).2)) ∧ (∀ x ∈ es, x.s.length ≤ 32) ∧ Row wr w.heap.size 26 zeroB ∧ Row wr g2 26 [.int .u64 (v : Int), u, .slice none 0 0] ∧
    OwnE B 35 es u wr ∧ RdRF g1 kk S wr ∧ IsW g1 1 32 vS wr ∧ Below w.heap.size w wr ∧ B ≤ wr.heap.size
def codeRd (g : Nat) (k : Int) (W : World) : Prop := W.cell? ⟨g, 1, none⟩ = some (.int .i64 k) ∧ True
def endRd (g1 g2 : Nat) (v : Value) (a b c : Value) (W : World) : Prop := W.cell? ⟨g1, 0, none⟩ = some v ∧ (W.cell? ⟨g2, 0, none⟩ = some a ∧ (W.cell? ⟨g2, 1, none⟩ = some b ∧ W.cell? ⟨g2, 2, none⟩ = some c))

set_option maxHeartbeats 8000000 in
theorem readBunP_any (b : List UInt8) (n c : Nat) (A : Option Addr) (w : World) (HN : Hid (b.length = n)) (hr : Rd vB w A b) (hn : n ≤ 1000000) (hc : n ≤ c) :
    Calls Tryz.prog 14 #[.slice A n c] w (RetBr w (readBun b)) := by
  obtain ⟨j0, hj, gz0, gz1, gz2⟩ := info_parts info_entry
  obtain ⟨P, hP⟩ : ∃ P, readBun b = P := ⟨_, rfl⟩
  rw [hP]
  obtain ⟨k0, S0, H0⟩ : ∃ k S, markK 66 b = (k, S) := ⟨_, _, rfl⟩
  obtain ⟨v, k1, S1, H1⟩ : ∃ x k S, num8K k0 S0 = (x, k, S) := ⟨_, _, _, rfl⟩
  obtain ⟨q, k2, S2, H2⟩ : ∃ x k S, cntK 0 64 k1 S1 = (x, k, S) := ⟨_, _, _, rfl⟩
  have hq64 : q ≤ 64 := by have := cntK_le 0 64 k1 S1; rw [H2] at this; exact this
  have HFN : Hid (∀ {es : List En} {k3 : Int} {S3 : List UInt8}, entsK q k2 S2 = (es, k3, S3) → ∀ (k' : Int) (S' : List UInt8) (l : List Gn), (k3 ≠ 0 → k' = k3) → (k3 = 0 → k' = (readG S3).2.2 ∧ (k' = 0 → l = (readG S3).1 ∧ S' = S3.drop (readG S3).2.1 ∧ (readG S3).2.1 ≤ S3.length)) →
      (finK (rightB es l) k' ≠ 0 → P = badB (finK (rightB es l) k')) ∧ (finK (rightB es l) k' = 0 → P = (v, es, l, n - S'.length, 0) ∧ S'.length ≤ n)) := by
    intro es k3 S3 h3 k' S' l g1 g2
    have := bun_final H0 H1 H2 h3 g1 g2
    rw [hP, HN.out] at this
    exact this
  have HFIT : Hid (∀ x ∈ (entsK q k2 S2).1, x.1 < 18446744073709551616 ∧ x.2.1 < 18446744073709551616 ∧ x.2.2.length ≤ 32) := entsK_fit q k2 S2
  have hvlt : v < 18446744073709551616 := by have := num8K_lt k0 S0; rw [H1] at this; exact this
  replace H0 := Lib.hid H0
  replace H1 := Lib.hid H1
  replace H2 := Lib.hid H2
  clear hP
  obtain ⟨hR0, hB0⟩ := box_three w 26 (.int .u64 0) (.slice none 0 0) (.slice none 0 0)
  go_enter Tryz.func14, Tryz.ntmps14
  go_upto_region 1 with fail
  generalize (w.alloc (.cells #[.int .u64 0, .slice none 0 0, .slice none 0 0] 26)) = W0 at hR0 hB0 ⊢
  go_wp2_with fail
  refine (counts_any W0).mono ?_
  rintro e W1 ⟨vE, vS, rfl, hWE, hWS, hb⟩
  replace hR0 := hR0.later hb
  replace hB0 := below_step hB0 hb
  replace hr := hr.keep hB0
  clear hb
  go_upto_region 2 with fail
  have hgl := hR0.lt
  have hA : b ≠ [] → ∀ a, A = some a → a.block < W1.heap.size := hr.off
  have hRs : Row (W1.alloc (.cells #[.slice A n c, .int .i64 0] 75)) W1.heap.size 75 [.slice A n c, .int .i64 0] := Row.new W1 _ _ _ rfl
  have hb2 := below_new (Below.refl W1.heap.size W1) (.cells #[.slice A n c, .int .i64 0] 75)
  go_upto_region 3 with fail
  replace hr := hr.keep hb2
  replace hR0 := hR0.later hb2
  replace hB0 := below_step hB0 hb2
  replace hWE := hWE.below hb2 (Nat.le_refl _)
  replace hWS := hWS.below hb2 (Nat.le_refl _)
  generalize (W1.alloc (.cells #[.slice A n c, .int .i64 0] 75)) = W2 at hr hR0 hRs hB0 hWE hWS ⊢
  clear hb2
  generalize W1.heap.size = g1 at hgl hRs hA hWE hWS ⊢
  have hS : RdS g1 b n 0 W2 := ⟨A, c, hRs, HN, hc, hr, hA⟩
  have hg1 := hRs.lt
  clear hRs hr hA
  have hle : w.heap.size ≤ g1 := by omega
  have hne : w.heap.size ≠ g1 := by omega
  have hRx : Row (W2.alloc (.cells #[.int .u64 0, .slice none 0 0, .slice none 0 0] 26)) W2.heap.size 26 zeroB := Row.new W2 _ _ _ rfl
  have hbn := below_new (Below.refl W2.heap.size W2) (.cells #[.int .u64 0, .slice none 0 0, .slice none 0 0] 26)
  have hS1 : RdS g1 b n 0 (W2.alloc (.cells #[.int .u64 0, .slice none 0 0, .slice none 0 0] 26)) := by
    obtain ⟨A', c', h1, h2, h3, h4, h5⟩ := hS
    exact ⟨A', c', h1.later hbn, h2, h3, h4.keep hbn, h5⟩
  replace hR0 := hR0.later hbn
  replace hB0 := below_step hB0 hbn
  replace hWE := hWE.below hbn (by omega)
  replace hWS := hWS.below hbn (by omega)
  go_upto_region 4 with fail
  generalize W2.alloc (.cells #[.int .u64 0, .slice none 0 0, .slice none 0 0] 26) = W3 at hS1 hR0 hB0 hRx hWE hWS ⊢
  clear hbn hS
  generalize W2.heap.size = g2 at hg1 hRx ⊢
  have hn2 : g2 ≠ g1 := by omega
  have hn4 : w.heap.size ≠ g2 := by omega
  have hl2 : w.heap.size ≤ g2 := by omega
  have hl12 : g1 + 1 ≤ g2 := by omega
  have hl1 : g1 ≤ g2 := by omega
  go_wp2_with fail
  refine (mark_any 66 66 rfl (by decide) g1 b n W3 hS1 (by omega)).mono ?_
  rw [H0.out]
  rintro e₁ W4 ⟨rfl, hT, hO⟩
  dsimp only at hT
  replace hR0 := hR0.only hO hne
  replace hRx := hRx.only hO hn2
  replace hWE := hWE.below hO.below (Nat.le_refl _)
  replace hWS := hWS.below hO.below (Nat.le_refl _)
  replace hB0 := hB0.trans (hO.below.mono hle)
  clear hO hS1
  go_wp2_with fail
  refine (number8_any g1 k0 S0 W4 hT).mono ?_
  rw [H1.out]
  rintro e₁ w4 ⟨rfl, hT4, hO⟩
  dsimp only at hT4 ⊢
  replace hR0 := hR0.only hO hne
  replace hRx := hRx.only hO hn2
  replace hWE := hWE.below hO.below (Nat.le_refl _)
  replace hWS := hWS.below hO.below (Nat.le_refl _)
  replace hB0 := hB0.trans (hO.below.mono hle)
  clear hO hT
  have f0 := hRx.frozen 0
  have c0 : w4.cell? ⟨g2, 0, none⟩ = some (.int .u64 0) := hRx.cell rfl
  have hT5 := hT4.below ((Below.refl _ w4).setCell (p := ⟨g2, 0, none⟩) hl12 (.int .u64 (v : Int)))
  have hR05 := hR0.setCell_other (p := ⟨g2, 0, none⟩) hn4 (.int .u64 (v : Int))
  have hRx5 : Row (w4.setCell ⟨g2, 0, none⟩ (.int .u64 (v : Int))) g2 26 [.int .u64 (v : Int), .slice none 0 0, .slice none 0 0] := hRx.setCell 0 (.int .u64 (v : Int))
  have hB5 := hB0.setCell (p := ⟨g2, 0, none⟩) hl2 (.int .u64 (v : Int))
  have hWE5 := hWE.below ((Below.refl g2 w4).setCell (p := ⟨g2, 0, none⟩) (Nat.le_refl _) (.int .u64 (v : Int))) hl1
  have hWS5 := hWS.below ((Below.refl g2 w4).setCell (p := ⟨g2, 0, none⟩) (Nat.le_refl _) (.int .u64 (v : Int))) hl1
  clear hT4 hR0 hRx hB0 hWE hWS
  go_upto_region 6 with fail
  generalize w4.setCell ⟨g2, 0, none⟩ (.int .u64 (v : Int)) = W5 at hT5 hR05 hRx5 hB5 hWE5 hWS5 ⊢
  clear c0 f0
  go_wp2_with fail
  refine (count_any g1 k1 S1 g1 0 64 vE W5 hT5 hWE5 (Nat.le_refl _)).mono ?_
  rw [H2.out]
  rintro e₁ W6 ⟨rfl, hT6, hO⟩
  dsimp only at hT6 ⊢
  have hR06 := hR05.only hO hne
  have hRx6 := hRx5.only hO hn2
  have hWS6 := hWS5.below hO.below (Nat.le_refl _)
  have hB6 := hB5.trans (hO.below.mono hle)
  clear hO hT5 hR05 hRx5 hB5 hWE5 hWS5
  have hB2 : g2 < W6.heap.size := hRx6.lt
  obtain ⟨B, hBB⟩ : ∃ B, B = W6.heap.size := ⟨_, rfl⟩
  have hBle : B ≤ W6.heap.size := by omega
  have hg2B : g2 < B := by omega
  have hg1B : g1 < B := by omega
  clear hBB hB2
  go_upto_region 7 with fail
  go_loopw [24] (fun i wr => BunI q k2 S2 v vS w g1 g2 B i wr) (fun i _ => q - (intOf i).toNat)
  case atStart => exact ⟨0, [], .slice none 0 0, k2, S2, rfl, Nat.zero_le _, rfl, Lib.hid rfl, (fun x hx => by cases hx), hR06, hRx6, OwnE.nil _ _ _, hT6, hWS6, hB6, hBle⟩
  case round =>
    clear hT6 hR06 hRx6 hWS6 hB6 hBle
    obtain ⟨k, es, u, kk, S, rfl, hk, hes, hents, hsd, hR, hX, hown, hT, hWS, hbel, hszr⟩ := hrel
    by_cases hlt : k < q
    · have HMORE := Lib.hid (ents_more hlt hents.out)
      have hi1 : (k : Int) < (q : Int) := by omega
      obtain ⟨eA, ec, hu, hec, _⟩ := hown.slice
      rw [hes] at hu hec
      subst hu
      have HES := Lib.hid hes
      have HSD := Lib.hid hsd
      have HENT := Lib.hid (fun W (hT : RdRF g1 kk S W) (hv : IsW g1 1 32 vS W) => readent_any g1 kk S g1 vS W hT hv (Nat.le_refl _))
      have HELT := Lib.hid (entK_fit kk S)
      generalize entK kk S = X at HMORE HENT HELT
      obtain ⟨⟨x1, x2, x3⟩, kX, SX⟩ := X
      dsimp only at HMORE HENT HELT
      clear hents hes hsd
      have c1 : wr.cell? ⟨g2, 1, none⟩ = some (.slice eA k ec) := hX.cell rfl
      go_upto_region 8 with fail
      have hS : wr.drew.cell? ⟨g2, 1, none⟩ = some (.slice eA k ec) ∧ True := ⟨c1, trivial⟩
      refine wp_region_last (fun W => W.cell? ⟨g2, 1, none⟩ = some (.slice eA k ec) ∧ True) (.step 0 false (.step 1 false (.step 2 false (.step 3 false (.step 4 true (.step 5 true (.step 6 true (.step 7 false .nil)))))))) hS (by rfl) (by kernel_rfl) (by kernel_rfl) (by decide) (by kernel_rfl) (by kernel_rfl) (by kernel_rfl) (by kernel_rfl) ?_
      simp only [initO, List.dropLast]
      have hSd : wr.drew.cell? ⟨g2, 1, none⟩ = some (.slice eA k ec) := c1
      have hownD : OwnE B 35 es (.slice eA k ec) wr.drew := hown.later (Below.refl _ _).drew
      have hRD : Row wr.drew w.heap.size 26 zeroB := hR
      have hXD : Row wr.drew g2 26 [.int .u64 (v : Int), .slice eA k ec, .slice none 0 0] := hX
      have hTD : RdRF g1 kk S wr.drew := hT.below (Below.refl _ _).drew
      have hWD : IsW g1 1 32 vS wr.drew := hWS.below (Below.refl _ _).drew (Nat.le_refl _)
      have hBD : Below w.heap.size w wr.drew := hbel.drew
      have hsz : wr.heap.size = wr.drew.heap.size := rfl
      rw [hsz] at hszr
      clear hR hX hown hT hWS hbel c1 hS
      iterate 4 (refine plan_read rfl (by rfl) (v := ?_) ?_ ?_; rotate_left 1; (intro W hW; (try dsimp only at hW); obtain ⟨hW0, hW1⟩ := hW; go_simp <;> with_reducible rfl); simp only [List.getElem_toArray, List.getElem_cons_zero, List.getElem_cons_succ, Act.put, List.setIfInBounds_toArray, List.set_cons_zero, List.set_cons_succ])
      generalize wr.drew = wd at hSd hownD hRD hXD hTD hWD hBD hszr ⊢
      clear hsz
      refine plan_make_of rfl (by rfl) (fun K hK => ?_)
      go_simp
      refine (HENT.out wd hTD hWD).mono ?_
      rintro e₁ w7 ⟨A7, l7, c7, rfl, HL7, hl7, hr7, hA7, hT7, hO⟩
      have hR7 := hRD.only hO hne
      have hX7 := hXD.only hO hn2
      have hW7 := hWD.below hO.below (Nat.le_refl _)
      have hB7 := hBD.trans (hO.below.mono hle)
      have hown7 := hownD.only hO hg1B
      have hs7 := hO.below.size
      have hS7 : w7.cell? ⟨g2, 1, none⟩ = some (.slice eA k ec) ∧ True := ⟨hX7.cell rfl, trivial⟩
      refine hK.out _ _ hS7 ?_
      clear hK K hO hTD hRD hXD hWD hBD hSd
      have hl7e := HL7.out
      subst hl7e
      have hb8 : Below w7.heap.size w7 (w7.alloc (.cells #[.int .u64 (x1 : Int), .int .u64 (x2 : Int), .slice A7 x3.length c7] 35)) := below_new (Below.refl _ _) _
      have hg27 := hX7.lt
      (refine plan_make_of rfl (by rfl) (fun K hK => ?_); unfold aggN; go_simp; refine hK.out _ _ ⟨(hb8.cell (p := ⟨g2, 1, none⟩) hg27).trans hS7.1, trivial⟩ ?_; clear hK K)
      have hown8k : w7.ownsRow B 35 3 (.slice eA k ec) k (cellsE es) := by
        have := hown7.1
        rw [HES.out] at this
        exact this
      have hown8 := ownsRowE_later hown8k hb8
      have hnews := (Row.new w7 35 (ED.mk x1 x2 A7 c7 x3).cells #[.int .u64 (x1 : Int), .int .u64 (x2 : Int), .slice A7 x3.length c7] rfl).newsD
      have hs8 := hb8.size
      refine plan_make_of rfl (by rfl) (fun K hK => ?_)
      refine wp_append_own3 _ (.tmp 27) (.tmp 31) 23 (by rfl) B 35 j0 (.agg #[.int .u64 0, .int .u64 0, .slice none 0 0]) 3 40 Tryz.underlying23 hj gz0 gz1 gz2 rfl (by decide) (.slice eA k ec) k (cellsE es) (by rfl) hown8 ⟨w7.heap.size, 0, none⟩ 1 1 (ED.mk x1 x2 A7 c7 x3).cells (by rfl) (by rfl) hnews (ED.one _) (by unfold maxLen; omega) (by omega) (by omega) ?_
      intro v9 w9 hown9 hgrow9 hat9
      obtain ⟨A9, c9, rfl, hc9q⟩ := own_formE hown9
      have hO9 : OwnE B 35 (es ++ [ED.mk x1 x2 A7 c7 x3]) (.slice A9 (k + 1) c9) w9 := hownD.more2 hown7 ⟨hl7, hr7⟩ (fun _ a ha => hA7 a ha) hszr hb8 (by rw [HES.out]; exact hown9) hgrow9 hat9
      have hbd9 : Below B w7 w9 := (hb8.mono (by omega)).grown hgrow9 (by omega) (fun j hj => (hown8.lt j hj).1)
      have hR9 := (hR7.later hb8).grown hgrow9 (fun e => by have := (hown8.lt _ e).1; omega)
      have hX9 := (hX7.later hb8).grown hgrow9 (fun e => by have := (hown8.lt _ e).1; omega)
      have hT9 := hT7.below (hbd9.mono (by omega))
      have hW9 := hW7.below hbd9 (by omega)
      have HB9 := Lib.hid (hB7.trans (hbd9.mono (by omega)))
      have hs9 := hbd9.size
      simp only [List.getElem_toArray, List.getElem_cons_zero, List.getElem_cons_succ, Act.put, List.setIfInBounds_toArray, List.set_cons_zero, List.set_cons_succ]
      refine hK.out _ _ ⟨hX9.cell rfl, trivial⟩ ?_
      clear hK K hown9 hgrow9 hat9 hbd9 hown8 hb8 hnews hown8k hown7 hownD hR7 hX7 hT7 hW7 hB7 hr7 hS7
      iterate 1 (refine plan_read rfl (by rfl) (v := ?_) ?_ ?_; rotate_left 1; (intro W hW; (try dsimp only at hW); obtain ⟨hW0, hW1⟩ := hW; go_simp <;> with_reducible rfl); simp only [List.getElem_toArray, List.getElem_cons_zero, List.getElem_cons_succ, Act.put, List.setIfInBounds_toArray, List.set_cons_zero, List.set_cons_succ])
      have hc9 : w9.cell? ⟨g2, 1, none⟩ = some (.slice eA k ec) := hX9.cell rfl
      have hf9 : w9.frozen? ⟨g2, 1, none⟩ = false := hX9.frozen 1
      refine planLast_done rfl (by rfl) ?_
      go_simp
      have HO10 := Lib.hid (hO9.same (w' := w9.setCell ⟨g2, 1, none⟩ (.slice A9 (k + 1) c9)) (fun j h1 _ => Below.heap_setCell w9 ⟨g2, 1, none⟩ (.slice A9 (k + 1) c9) j (by show j ≠ g2; omega)))
      have hR10 := hR9.setCell_other (p := ⟨g2, 1, none⟩) (by show w.heap.size ≠ g2; omega) (.slice A9 (k + 1) c9)
      have hX10 : Row (w9.setCell ⟨g2, 1, none⟩ (.slice A9 (k + 1) c9)) g2 26 [.int .u64 (v : Int), (.slice A9 (k + 1) c9), .slice none 0 0] := hX9.setCell 1 (.slice A9 (k + 1) c9)
      have HB10 := Lib.hid (HB9.out.setCell (p := ⟨g2, 1, none⟩) (by show w.heap.size ≤ g2; omega) (.slice A9 (k + 1) c9))
      have HT10 := Lib.hid (hT9.below ((Below.refl _ w9).setCell (p := ⟨g2, 1, none⟩) hl12 (.slice A9 (k + 1) c9)))
      have HW10 := Lib.hid (hW9.below ((Below.refl g2 w9).setCell (p := ⟨g2, 1, none⟩) (Nat.le_refl _) (.slice A9 (k + 1) c9)) hl1)
      have hs10 : (w9.setCell ⟨g2, 1, none⟩ (.slice A9 (k + 1) c9)).heap.size = w9.heap.size := by simp [World.setCell]
      clear hO9 hR9 hX9 hc9 hf9 HB9 hT9 hW9
      generalize w9.setCell ⟨g2, 1, none⟩ (.slice A9 (k + 1) c9) = w10 at HO10 hR10 hX10 HB10 HT10 HW10 hs10 ⊢
      have hsd9 : Hid (∀ x ∈ es ++ [ED.mk x1 x2 A7 c7 x3], x.s.length ≤ 32) := fun x hx => by
        rcases List.mem_append.1 hx with hx | hx
        · exact HSD.out x hx
        · rw [List.mem_singleton.1 hx]
          exact HELT.out.2.2
      go_wp2_with fail
      go_roundw
      case rel => exact ⟨k + 1, es ++ [ED.mk x1 x2 A7 c7 x3], (.slice A9 (k + 1) c9), kX, SX, by go_num, by omega, by rw [List.length_append, HES.out]; rfl, by unfold Hid; rw [conE_snoc]; exact HMORE.out, hsd9.out, hR10, hX10, HO10.out, HT10.out, HW10.out, HB10.out, by omega⟩
      case measure => simp [intOf]; omega
    · have ekq : k = q := by omega
      subst ekq
      have hents' : entsK k k2 S2 = (conE es, kk, S) := by
        rw [hents.out, Nat.sub_self]
        simp [entsK]
      have HF3 := Lib.hid (HFN.out hents')
      have HFE : Hid (fitE (conE es)) := fun x hx => by
        have := HFIT.out x (by rw [hents']; exact hx)
        exact ⟨this.1, this.2.1⟩
      obtain ⟨eA, ec, hu, hec, _⟩ := hown.slice
      rw [hes] at hu hec
      subst hu
      have HES := Lib.hid hes
      have HSD := Lib.hid hsd
      have HEC := Lib.hid hec
      have hi1 : ¬ (k : Int) < (k : Int) := by omega
      clear hents hents' hes hsd hec HFIT hWS
      go_wp2_with fail
      refine (readgone_any g1 kk S wr hT).mono ?_
      rintro e₁ w5 ⟨A5, l, m, c5, rfl, HL, hmc, hm64, hrg, hfl, hA5, hO, k', S', hT5, hk1', hk2'⟩
      have hR5 := hR.only hO hne
      have hX5 := hX.only hO hn2
      have hB5 := hbel.trans (hO.below.mono hle)
      have hown5 := hown.only hO hg1B
      have hA5B : Hid (∀ a, A5 = some a → g2 < a.block) := fun a ha => by have := hA5 a ha; omega
      have hs5 := hO.below.size
      have HFF := Lib.hid (HF3.out k' S' l hk1' hk2')
      have HFL := Lib.hid hfl
      clear hO hT hR hX hbel hown hA5 hk1' hk2' HF3 hfl
      have f0 := hX5.frozen 2
      have c0 : w5.cell? ⟨g2, 2, none⟩ = some (.slice none 0 0) := hX5.cell rfl
      have hT6 := hT5.below ((Below.refl _ w5).setCell (p := ⟨g2, 2, none⟩) hl12 (.slice A5 m c5))
      have hR6 := hR5.setCell_other (p := ⟨g2, 2, none⟩) hn4 (.slice A5 m c5)
      have hX6 : Row (w5.setCell ⟨g2, 2, none⟩ (.slice A5 m c5)) g2 26 [.int .u64 (v : Int), .slice eA k ec, .slice A5 m c5] := hX5.setCell 2 (.slice A5 m c5)
      have hB6 := hB5.setCell (p := ⟨g2, 2, none⟩) hl2 (.slice A5 m c5)
      have hOs := (Only.refl g2 w5).setCell 2 (.slice A5 m c5)
      have hown6 := hown5.only hOs hg2B
      have hrg6 := hrg.only hOs (fun a ha => by have := hA5B.out a ha; omega)
      clear hT5 hR5 hX5 hB5 hown5 hrg hOs
      go_upto_region 11 with fail
      generalize w5.setCell ⟨g2, 2, none⟩ (.slice A5 m c5) = w6 at hT6 hR6 hX6 hB6 hown6 hrg6 ⊢
      clear c0 f0
      have HRT := Lib.hid (rightB_any v es l k ec m c5 eA A5 w6 HES.out HL (hown6.rd HES.out) hrg6 HFL (by omega) (by omega) (fun x hx => by have := HSD.out x hx; omega))
      unfold aggB at HRT
      obtain ⟨R, hR⟩ : ∃ R, rightB (conE es) l = R := ⟨_, rfl⟩
      rw [hR] at HRT HFF
      clear hR
      go_wp2_with (refine wpList_load_part rfl 26 (.tmp 8) rfl g2 0 rfl _ _ hX6 [.int .u64 (v : Int), .slice eA k ec, .slice A5 m c5] (by rfl) _ Tryz.underlying26 rfl (by exact size_bundle) ?_)
      refine HRT.out.mono ?_
      rintro e₁ w7 ⟨rfl, hb7⟩
      have hlt6 := hT6.lt
      replace hT6 := hT6.below (hb7.mono (show g1 + 1 ≤ w6.heap.size by omega))
      replace hR6 := hR6.later hb7
      replace hX6 := hX6.later hb7
      replace hB6 := below_step hB6 hb7
      replace hown6 := hown6.later hb7
      replace hrg6 := hrg6.keep hb7
      clear hb7 HRT
      go_upto_if 40 with fail
      go_cut [] (fun wx => RdRF g1 (finK R k') S' wx ∧ Row wx w.heap.size 26 zeroB ∧ Row wx g2 26 [.int .u64 (v : Int), .slice eA k ec, .slice A5 m c5] ∧ Below w.heap.size w wx ∧ OwnE B 35 es (.slice eA k ec) wx ∧ RdG wx A5 l)
      case first =>
        cases R with
        | true =>
          go_wp2_with fail
          go_meet
          case rel => exact ⟨hT6, hR6, hX6, hB6, hown6, hrg6⟩
        | false =>
          go_wp2_with fail
          refine (keep_any g1 k' 3 S' w7 hT6).mono ?_
          rintro e₁ w8 ⟨rfl, hT8, hO⟩
          have hR8 := hR6.only hO hne
          have hX8 := hX6.only hO hn2
          have hB8 := hB6.trans (hO.below.mono hle)
          have hown8 := hown6.only hO hg1B
          have hrg8 := hrg6.only hO (fun a ha => by have := hA5B.out a ha; omega)
          go_wp2_with fail
          go_meet
          case rel => exact ⟨hT8, hR8, hX8, hB8, hown8, hrg8⟩
      case rest =>
      clear hT6 hR6 hX6 hB6 hown6 hrg6
      rename World => w8
      obtain ⟨hT8, hR8, hX8, hB8, hown8, hrg8⟩ := hcut
      obtain ⟨KF, hKF⟩ : ∃ K, finK R k' = K := ⟨_, rfl⟩
      rw [hKF] at hT8 HFF
      clear hKF
      obtain ⟨T', n8, ⟨A8, c8, hRr8, HN8, hc8, hr8, hA8⟩, hn8, hT8'⟩ := hT8
      have cd : w8.cell? ⟨g1, 1, none⟩ = some (.int .i64 KF) := hRr8.cell rfl
      have hgl8 := hR8.lt
      have hxl8 := hX8.lt
      by_cases hz : KF = 0
      · subst hz
        have eT := hT8' rfl
        subst eT
        obtain ⟨hPP, hSl⟩ := HFF.out.2 rfl
        rw [HN8.out] at hPP hSl
        have HPP := Lib.hid hPP
        have cs : w8.cell? ⟨g1, 0, none⟩ = some (.slice A8 n8 c8) := hRr8.cell rfl
        clear hPP HFF hT8' hr8 hA8 hc8
        go_upto_region 15 with fail
        have hS : endRd g1 g2 (.slice A8 n8 c8) (.int .u64 (v : Int)) (.slice eA k ec) (.slice A5 m c5) w8.drew := ⟨cs, hX8.cell rfl, hX8.cell rfl, hX8.cell rfl⟩
        have hR9 := hR8.drew
        have hB9 := hB8.drew
        have hown9 := hown8.later ((Below.refl _ w8).drew)
        have hrg9 := hrg8.keep ((Below.refl _ w8).drew)
        have wnn : IntKind.i64.wrap ((n : Int) - (n8 : Int)) = ((n - n8 : Nat) : Int) := by rw [IntKind.wrap_i64]; omega
        obtain ⟨nn, hnn⟩ : ∃ x, n - n8 = x := ⟨_, rfl⟩
        rw [hnn] at wnn HPP
        clear hnn
        refine wp_region_plan_of (endRd g1 g2 (.slice A8 n8 c8) (.int .u64 (v : Int)) (.slice eA k ec) (.slice A5 m c5)) (.step 0 false (.step 1 false (.step 2 false (.step 3 false (.step 4 false (.step 5 false (.step 6 false (.step 7 false (.step 8 false (.step 9 true (.step 10 false (.step 11 false (.nil))))))))))))) hS (by kernel_rfl) (by kernel_rfl) (by rfl) (by kernel_rfl) ?_
        clear hR8 hB8 hown8 hrg8 cs cd hX8 hRr8
        generalize w8.drew = wv at *
        iterate 9 (refine plan_read rfl (by rfl) (v := ?_) ?_ ?_; rotate_left 1; (intro W hW; (try dsimp only at hW); obtain ⟨hW0, hW1⟩ := hW; go_simp <;> with_reducible rfl); simp only [List.getElem_toArray, List.getElem_cons_zero, List.getElem_cons_succ, Act.put, List.setIfInBounds_toArray, List.set_cons_zero, List.set_cons_succ])
        have hcs : ∀ (cs : Array Value) (p : Addr), p.block ≠ w.heap.size → (wv.setRow w.heap.size cs).cell? p = wv.cell? p := fun cs p hp => cell_setRow_other wv w.heap.size cs p hp
        obtain ⟨s1, s2, s3, s4⟩ := hS
        refine plan_make_of rfl (by rfl) (fun K hK => ?_)
        refine hR9.wp_store 26 (.tmp 2) (.tmp 53) rfl rfl [.int .u64 (v : Int), .slice eA k ec, .slice A5 m c5] rfl (by exact size_bundle) rfl (one_three _ _ _ rfl rfl rfl) ?_
        refine hK.out _ _ ⟨(hcs _ _ hne.symm).trans s1, (hcs _ _ hn4.symm).trans s2, (hcs _ _ hn4.symm).trans s3, (hcs _ _ hn4.symm).trans s4⟩ ?_
        clear hK K hcs
        simp only [List.getElem_toArray, List.getElem_cons_zero, List.getElem_cons_succ, Act.put, List.setIfInBounds_toArray, List.set_cons_zero, List.set_cons_succ]
        iterate 2 (refine plan_read rfl (by rfl) (v := ?_) ?_ ?_; rotate_left 1; (intro W hW; (try dsimp only at hW); obtain ⟨hW0, hW1⟩ := hW; go_simp <;> with_reducible rfl); simp only [List.getElem_toArray, List.getElem_cons_zero, List.getElem_cons_succ, Act.put, List.setIfInBounds_toArray, List.set_cons_zero, List.set_cons_succ])
        refine plan_done ?_
        go_wp2_with fail
        refine bodyPost_ret (results_row_two (p := 2) (u := 3) (v := 4) (ty := 26) (by rfl) _ _ w.heap.size 26 _ _ (by rfl) (by exact hR9.setRow _) Tryz.underlying26 (by rfl) (by exact size_bundle)) (by rfl) ?_
        have hother : ∀ j, j ≠ w.heap.size → (wv.setRow w.heap.size [.int .u64 (v : Int), .slice eA k ec, .slice A5 m c5].toArray).heap[j]? = wv.heap[j]? := fun j hj => Go.setRow_other wv w.heap.size j _ hj
        have hown10 := hown9.same (fun j h1 _ => hother j (by omega))
        have hrg10 : RdG (wv.setRow w.heap.size [.int .u64 (v : Int), .slice eA k ec, .slice A5 m c5].toArray) A5 l := hrg9.only ((Only.refl w.heap.size wv).setRow _) (fun a ha => by have := hA5B.out a ha; omega)
        rw [HPP.out]
        exact ⟨eA, es, k, ec, A5, m, c5, rfl, Lib.hid rfl, HES.out, HL, HEC.out, hmc, hown10.rd HES.out, hown10.2.1, hrg10, below_setRow hB9 (Nat.le_refl _) _⟩
      · have hk0 : (KF == 0) = false := beq_eq_false_iff_ne.2 hz
        have hk1 : (KF != 0) = true := by rw [bne, hk0]; rfl
        have HPP : Hid (P = badB KF) := HFF.out.1 hz
        clear HFF hT8' hr8 hA8 hc8 hown8 hrg8
        go_upto_region 14 with fail
        have hS : codeRd g1 KF w8.drew := ⟨cd, trivial⟩
        have hR9 := hR8.drew
        have hB9 := hB8.drew
        refine wp_region_plan_of (codeRd g1 KF) (.step 0 false (.step 1 false (.step 2 false (.step 3 false (.step 4 false (.step 5 true (.step 6 false (.step 7 false (.nil))))))))) hS (by kernel_rfl) (by kernel_rfl) (by rfl) (by kernel_rfl) ?_
        clear hR8 hB8 cd hX8 hRr8
        generalize w8.drew = wv at *
        iterate 5 (refine plan_read rfl (by rfl) (v := ?_) ?_ ?_; rotate_left 1; (intro W hW; (try dsimp only at hW); obtain ⟨hW0, hW1⟩ := hW; go_simp <;> with_reducible rfl); simp only [List.getElem_toArray, List.getElem_cons_zero, List.getElem_cons_succ, Act.put, List.setIfInBounds_toArray, List.set_cons_zero, List.set_cons_succ])
        have hcs : ∀ (cs : Array Value), (wv.setRow w.heap.size cs).cell? ⟨g1, 1, none⟩ = wv.cell? ⟨g1, 1, none⟩ := fun cs => cell_setRow_other wv w.heap.size cs ⟨g1, 1, none⟩ (show g1 ≠ w.heap.size by omega)
        refine plan_make_of rfl (by rfl) (fun K hK => ?_)
        refine hR9.wp_store 26 (.tmp 2) (.tmp 48) rfl rfl zeroB rfl (by exact size_bundle) rfl (one_three _ _ _ rfl rfl rfl) ?_
        refine hK.out _ _ ⟨(hcs _).trans hS.1, trivial⟩ ?_
        clear hK K hcs
        simp only [List.getElem_toArray, List.getElem_cons_zero, List.getElem_cons_succ, Act.put, List.setIfInBounds_toArray, List.set_cons_zero, List.set_cons_succ]
        iterate 2 (refine plan_read rfl (by rfl) (v := ?_) ?_ ?_; rotate_left 1; (intro W hW; (try dsimp only at hW); obtain ⟨hW0, hW1⟩ := hW; go_simp <;> with_reducible rfl); simp only [List.getElem_toArray, List.getElem_cons_zero, List.getElem_cons_succ, Act.put, List.setIfInBounds_toArray, List.set_cons_zero, List.set_cons_succ])
        refine plan_done ?_
        go_wp2_with fail
        refine bodyPost_ret (results_row_two (p := 2) (u := 3) (v := 4) (ty := 26) (by rfl) _ _ w.heap.size 26 _ _ (by rfl) (by exact hR9.setRow _) Tryz.underlying26 (by rfl) (by exact size_bundle)) (by rfl) ?_
        exact retbr_bad HPP (below_setRow hB9 (Nat.le_refl _) _)
end Go.Proofs.YtmljhkdojopljaaGreatDoor
/-
  What the reference's Bytes of layer 16 answers, of a bundle that is right. No conditions but those typed.
-/
namespace Go.Proofs.YtmljhkdojopljaaGreatDoor
set_option maxRecDepth 100000
open Go.RowKit
set_option linter.unusedSimpArgs false
set_option linter.unusedVariables false

/-- The mark, the version, how many entries, and the first k of them. -/
def beB (v : Nat) (es : List En) (k : Nat) : List UInt8 := 66 :: (putL v ++ (UInt8.ofNat es.length :: flatE (es.take k)))
theorem beB_next (v : Nat) (es : List En) (k : Nat) (h : k < es.length) : beB v es (k + 1) = beB v es k ++ putL es[k].1 ++ putL es[k].2.1 ++ [UInt8.ofNat es[k].2.2.length] ++ es[k].2.2 := by
  unfold beB flatE
  rw [List.take_succ_eq_append_getElem h, List.flatMap_append]
  simp [oneE]
theorem beB_all (v : Nat) (es : List En) (gs : List Gn) : beB v es es.length ++ bytesG gs = bytesB v es gs := by
  unfold beB bytesB
  rw [List.take_length]
  simp
theorem flatE_short : ∀ (es : List En), (∀ x ∈ es, x.2.2.length ≤ 32) → (flatE es).length ≤ 49 * es.length
  | [], _ => by simp [flatE]
  | a :: es, h => by
    have ih := flatE_short es (fun x hx => h x (List.mem_cons_of_mem _ hx))
    have ha := h a (List.mem_cons_self ..)
    rw [flatE_cons, List.length_append, oneE_length, List.length_cons]
    omega
theorem beB_short (v : Nat) (es : List En) (k : Nat) (h : ∀ x ∈ es, x.2.2.length ≤ 32) : (beB v es k).length ≤ 10 + 49 * es.length := by
  have h1 := flatE_short (es.take k) (fun x hx => h x (List.mem_of_mem_take hx))
  unfold beB
  rw [List.length_cons, List.length_append, putL_l8, List.length_cons]
  have : (es.take k).length ≤ es.length := by rw [List.length_take]; omega
  omega
def ByB (v : Nat) (es : List ED) (w : World) (u i : Value) (wr : World) : Prop := ∃ k : Nat, k ≤ es.length ∧ i = .int .i64 (k : Int) ∧ wr.ownsRow w.heap.size 5 1 u (beB v (conE es) k).length ((beB v (conE es) k).map vB) ∧ Below w.heap.size w wr
theorem byB_next {v : Nat} {es : List ED} {w wr : World} {u : Value} {k n1 : Nat} {L1 L2 : List UInt8} {Y : List UInt8} (h : k < es.length) (h1 : putL es[k].t = L1) (h2 : putL es[k].e = L2) (ho : wr.ownsRow w.heap.size 5 1 u n1 ((beB v (conE es) k).map vB ++ L1.map vB ++ L2.map vB ++ [vB (UInt8.ofNat es[k].s.length)] ++ es[k].s.map vB)) (hn : n1 = (beB v (conE es) k).length + L1.length + L2.length + 1 + es[k].s.length) (hB : Below w.heap.size w wr) : ByB v es w u (.int .i64 ((k : Int) + 1)) wr := by
  refine ⟨k + 1, by omega, by go_num, ?_, hB⟩
  have hk : k < (conE es).length := by rw [conE_length]; exact h
  have hN := beB_next v (conE es) k hk
  rw [conE_get es k h] at hN
  unfold ED.con at hN
  dsimp only at hN
  rw [h1, h2] at hN
  rw [hN]
  subst hn
  simpa [Nat.add_assoc, Nat.add_comm 1 es[k].s.length] using ho

theorem byte_one (n : Nat) (h : n ≤ 255) : vB (UInt8.ofNat n) = .int .u8 (n : Int) := by
  unfold vB
  rw [UInt8.toNat_ofNat']
  congr 1
  omega

set_option maxHeartbeats 2000000 in
theorem refbytesB_any (v : Nat) (es : List ED) (gs : List Gn) (n ec m gc : Nat) (eA gA : Option Addr) (w : World) (HN : Hid (es.length = n)) (HM : Hid (gs.length = m)) (hre : RdE w eA es) (hoe : okD w es) (hrg : RdG w gA gs) (hv : v < 18446744073709551616) (hfe : fitE (conE es)) (HF : Hid (fitG gs)) (hok : rightB (conE es) gs = true) :
    Calls Tryz.prog 10 #[aggB v eA n ec gA m gc] w (RetO 5 vB w (bytesB v (conE es) gs)) := by
  obtain ⟨i0, hi, hz0, hz1, hz2⟩ := info_parts info_u8
  obtain ⟨hn64, hgr, hoe2⟩ := right_b.1 hok
  have hseed := okE_all hoe2
  have hsh : ∀ x ∈ conE es, x.2.2.length ≤ 32 := fun x hx => (hseed x hx).2
  rw [conE_length] at hn64
  have e1 := HN.out
  subst e1
  obtain ⟨hR, hB⟩ := box_three w 26 (.int .u64 (v : Int)) (.slice eA es.length ec) (.slice gA m gc)
  unfold aggB
  have HFE := Lib.hid hfe
  have HSH := Lib.hid hsh
  have HV := Lib.hid hv
  have hm64 : m ≤ 64 := by have := (right_parts.1 hgr).2; have := HM.out; omega
  clear hok hoe2 hseed hgr hfe hsh HN
  go_enter Tryz.func10, Tryz.ntmps10
  go_upto_region 1 with fail
  generalize (w.alloc (.cells #[.int .u64 (v : Int), .slice eA es.length ec, .slice gA m gc] 26)) = w1 at hR hB ⊢
  have hbg := hR.lt
  have hre1 := hre.keep hB
  have hoe1 := hoe.keep hB
  have hrg1 := hrg.keep hB
  have HB1 := Lib.hid hB
  obtain ⟨L0, hL0⟩ : ∃ L, putL v = L := ⟨_, rfl⟩
  have HL0 := Lib.hid hL0
  have hL0' := hL0
  have HL0Q := Lib.hid hL0'
  clear hL0'
  have HN0 : Hid (L0.length = 8) := by unfold Hid; rw [← hL0]; rfl
  have hown0 : (w1.alloc (.cells #[.int .u8 66] 5)).ownsRow w1.heap.size 5 1 (.slice (some ⟨w1.heap.size, 0, none⟩) 1 1) 1 ([(66 : UInt8)].map vB) := own_lit w1 5 ([(66 : UInt8)].map vB) #[.int .u8 66] rfl (by unfold maxLen; simp)
  have hb2 := below_new (Below.refl w1.heap.size w1) (.cells #[.int .u8 66] 5)
  have c0 : (w1.alloc (.cells #[.int .u8 66] 5)).cell? ⟨w.heap.size, 0, none⟩ = some (.int .u64 (v : Int)) := (hR.later hb2).cell rfl
  clear hL0 hB hre hoe hrg
  go_wp2_with fail
  refine (refputG_at v L0 HV.out HL0 _).mono ?_
  rintro ee w3 ⟨A1, k1, rfl, hk1, hr1, hb3⟩
  have hown3 := ownsRow_later hown0 hb3
  have hB3 := below_step hb2 hb3
  have hsz3 := hB3.size
  clear hown0 hb2 hb3 c0
  have hnb := byte_one es.length (by omega)
  have HNB := Lib.hid hnb
  clear hnb
  go_wp2_with (first
    | (at_builtin; refine wpList_append_apart _ rfl (.tmp 6) (.tmp 9) 27 rfl w1.heap.size 5 i0 (.int .u8 0) 1 Tryz.underlying27 hi hz0 hz1 hz2 rfl _ _ _ rfl hown3 A1 L0 k1 (by rw [HN0.out]; rfl) hr1 vB_one (by rw [HN0.out]; unfold maxLen; omega) (by rw [HN0.out]; omega) (by omega) ?_; intro v4 w4 hown4 hgrow4 hat4; have hB4 := hB3.grown hgrow4 hsz3 (fun k hk => (hown3.lt k hk).1); have hc1 : w4.cell? ⟨w.heap.size, 1, none⟩ = some (.slice eA es.length ec) := (hR.later hB4).cell rfl)
    | (at_builtin; refine wpList_append_apart _ rfl (.tmp 11) (.tmp 16) 27 rfl w1.heap.size 5 i0 (.int .u8 0) 1 Tryz.underlying27 hi hz0 hz1 hz2 rfl _ _ _ rfl (ownsRow_later hown4 (below_new (Below.refl _ _) _)) (some ⟨w4.heap.size, 0, none⟩) [UInt8.ofNat es.length] 1 rfl (Rd.new w4 [UInt8.ofNat es.length] _ _ (by rw [List.map_cons, HNB.out]; rfl)) vB_one (by simp only [HN0.out, List.length_cons, List.length_nil]; unfold maxLen; omega) (by simp only [HN0.out, List.length_cons, List.length_nil]; omega) (by have := hB4.size; simp; omega) ?_; intro v5 w5 hown5 hgrow5 hat5; have hB5 := (below_new hB4 (.cells #[.int .u8 (es.length : Int)] 5)).grown hgrow5 (by have := hB4.size; simp; omega) (fun k hk => (hown4.lt k hk).1)))
  have hstart : beB v (conE es) 0 = 66 :: (L0 ++ [UInt8.ofNat es.length]) := by unfold beB; rw [HL0Q.out, conE_length]; rfl
  have hown6 : w5.ownsRow w1.heap.size 5 1 v5 (beB v (conE es) 0).length ((beB v (conE es) 0).map vB) := by
    rw [hstart]
    simpa [HN0.out, Nat.add_comm] using hown5
  clear hown3 hown4 hgrow4 hat4 hgrow5 hat5 hc1 hB4 hB3 hsz3 hr1 hown5 hstart
  go_loopw [3, 4] (fun u i wr => ByB v es w1 u i wr) (fun _ i _ => es.length - (intOf i).toNat)
  case atStart => exact ⟨0, Nat.zero_le _, rfl, hown6, hB5⟩
  case round =>
    clear hown6 hB5
    obtain ⟨k, hk, rfl, hown, hbel⟩ := hrel
    have hRr := hR.later hbel
    by_cases hlt : k < es.length
    · obtain ⟨b, o, rfl, hb, hrng, _, _, _⟩ := (hre1.keep hbel).one hlt
      have hx := hoe1 _ (List.getElem_mem hlt)
      have hlc : k < (conE es).length := by rw [conE_length]; exact hlt
      have hfx := HFE.out _ (List.getElem_mem hlc)
      have hsx := HSH.out _ (List.getElem_mem hlc)
      rw [conE_get es k hlt] at hfx hsx
      obtain ⟨L1, hL1⟩ : ∃ L, putL es[k].t = L := ⟨_, rfl⟩
      obtain ⟨L2, hL2⟩ : ∃ L, putL es[k].e = L := ⟨_, rfl⟩
      have HN1 : Hid (L1.length = 8) := by unfold Hid; rw [← hL1]; rfl
      have HN2 : Hid (L2.length = 8) := by unfold Hid; rw [← hL2]; rfl
      have HNX := Lib.hid (fun (u : Value) (n1 : Nat) (wr : World) (h) hn hB => byB_next (v := v) (es := es) (w := w1) (wr := wr) (u := u) (k := k) (n1 := n1) (L1 := L1) (L2 := L2) (Y := []) hlt hL1 hL2 h hn hB)
      have hbl := beB_short v (conE es) k HSH.out
      rw [conE_length] at hbl
      have HL1 := Lib.hid hL1
      have HL2 := Lib.hid hL2
      clear hL1 hL2
      generalize es[k] = x at hrng hx hfx hsx HNX HL1 HL2
      obtain ⟨xt, xe, xA, xc, xs⟩ := x
      obtain ⟨hxc, hxr⟩ := hx
      have HXW : Hid (∀ W, Below w1.heap.size w1 W → Rd vB W xA xs) := fun W hW => hxr.keep hW
      unfold ED.con at hfx hsx
      unfold ED.cells ED.at2 vNG at hrng
      dsimp only at hrng hfx hsx HNX HL1 HL2 hxc hxr
      generalize beB v (conE es) k = Lk at hown HNX hbl
      have c1 : wr.cell? ⟨w.heap.size, 1, none⟩ = some (.slice (some ⟨b, o, none⟩) es.length ec) := hRr.cell rfl
      have i2 : (0 : Int) ≤ (k : Int) := by omega
      have i3 : (k : Int) < (es.length : Int) := by omega
      have hR0 : Row (wr.alloc (.cells #[.int .u64 0, .int .u64 0, .slice none 0 0] 35)) wr.heap.size 35 [.int .u64 0, .int .u64 0, .slice none 0 0] := Row.new wr _ _ _ rfl
      have HS1 := byte_one xs.length (by omega)
      generalize hxl : xs.length = xl at *
      have HXL := Lib.hid hxl
      clear hxl
      go_upto_region 7 with (first
        | (refine wpList_load_mid rfl 35 (.tmp 28) rfl b (o + k * 3) rfl [.int .u64 (xt : Int), .int .u64 (xe : Int), .slice xA xl xc] _ hrng Tryz.underlying35 rfl (by exact size_entry) ?_)
        | (refine wpList_store_row rfl 35 (.tmp 5) (.tmp 29) rfl wr.heap.size rfl [.int .u64 (xt : Int), .int .u64 (xe : Int), .slice xA xl xc] rfl _ _ hR0 (by exact size_entry) rfl (one_three _ _ _ rfl rfl rfl) ?_))
      have hR1 := hR0.setRow [.int .u64 (xt : Int), .int .u64 (xe : Int), .slice xA xl xc]
      have hbn : Below wr.heap.size wr ((wr.alloc (.cells #[.int .u64 0, .int .u64 0, .slice none 0 0] 35)).setRow wr.heap.size [.int .u64 (xt : Int), .int .u64 (xe : Int), .slice xA xl xc].toArray) := below_setRow (below_new (Below.refl _ _) _) (Nat.le_refl _) _
      generalize (wr.alloc (.cells #[.int .u64 0, .int .u64 0, .slice none 0 0] 35)).setRow wr.heap.size [.int .u64 (xt : Int), .int .u64 (xe : Int), .slice xA xl xc].toArray = wb at hR1 hbn ⊢
      have hap := own_apart hown
      replace hown := ownsRow_later hown hbn
      replace hbel := below_step hbel hbn
      have hg3 := hR1.lt
      have HBB := Lib.hid hbel
      clear hbn hR0 hrng c1 hxr hRr
      generalize wr.heap.size = gx at hR1 hap hg3 ⊢
      have c0 : wb.cell? ⟨gx, 0, none⟩ = some (.int .u64 (xt : Int)) := hR1.cell rfl
      go_wp2_with fail
      refine (refputG_at xt L1 hfx.1 HL1 _).mono ?_
      rintro ee wc ⟨A4, c4, rfl, hc4, hr4, hb4⟩
      have hown4 := ownsRow_later hown hb4
      have hR4 := hR1.later hb4
      have hB4 := below_step HBB.out hb4
      have hsz4 := hB4.size
      have hg4 := hR4.lt
      clear hown hb4 c0 hR1
      go_wp2_with (at_builtin; refine wpList_append_apart _ rfl (.tmp 30) (.tmp 33) 27 rfl w1.heap.size 5 i0 (.int .u8 0) 1 Tryz.underlying27 hi hz0 hz1 hz2 rfl _ _ _ rfl hown4 A4 L1 c4 (by rw [HN1.out]; rfl) hr4 vB_one (by rw [HN1.out]; unfold maxLen; omega) (by rw [HN1.out]; omega) (by omega) ?_; intro u5 wd hown5 hgrow5 hat5; have hR5 := hR4.grown hgrow5 hap; have hap5 := apart_of hap hg4 hat5; have hB5 := hB4.grown hgrow5 hsz4 (fun k hk => (hown4.lt k hk).1); have c1' : wd.cell? ⟨gx, 1, none⟩ = some (.int .u64 (xe : Int)) := hR5.cell rfl)
      refine (refputG_at xe L2 hfx.2 HL2 _).mono ?_
      rintro ee we ⟨A6, c6, rfl, hc6, hr6, hb6⟩
      have hown6 := ownsRow_later hown5 hb6
      have hR6 := hR5.later hb6
      have hB6 := below_step hB5 hb6
      have hsz6 := hB6.size
      have hg6 := hR6.lt
      have hg5 := hR5.lt
      have hap6 := hap5
      clear hown5 hb6 c1' hR5 hap
      go_wp2_with (first
        | (at_builtin; refine wpList_append_apart _ rfl (.tmp 35) (.tmp 38) 27 rfl w1.heap.size 5 i0 (.int .u8 0) 1 Tryz.underlying27 hi hz0 hz1 hz2 rfl _ _ _ rfl hown6 A6 L2 c6 (by rw [HN2.out]; rfl) hr6 vB_one (by rw [HN2.out, HN1.out]; unfold maxLen; omega) (by rw [HN2.out, HN1.out]; omega) (by omega) ?_; intro u7 wf hown7 hgrow7 hat7; have hR7 := hR6.grown hgrow7 hap6; have hap7 := apart_of hap6 hg6 hat7; have hB7 := hB6.grown hgrow7 hsz6 (fun k hk => (hown6.lt k hk).1); have c2' : wf.cell? ⟨gx, 2, none⟩ = some (.slice xA xl xc) := hR7.cell rfl; have hg7 := hR7.lt)
        | (at_builtin; refine wpList_append_apart _ rfl (.tmp 40) (.tmp 45) 27 rfl w1.heap.size 5 i0 (.int .u8 0) 1 Tryz.underlying27 hi hz0 hz1 hz2 rfl _ _ _ rfl (ownsRow_later hown7 (below_new (Below.refl _ _) _)) (some ⟨wf.heap.size, 0, none⟩) [UInt8.ofNat xl] 1 rfl (Rd.new wf [UInt8.ofNat xl] _ _ (by rw [List.map_cons, HS1]; rfl)) vB_one (by simp only [HN2.out, HN1.out, List.length_cons, List.length_nil]; unfold maxLen; omega) (by simp only [HN2.out, HN1.out, List.length_cons, List.length_nil]; omega) (by have := hB7.size; simp; omega) ?_; intro u8 wg hown8 hgrow8 hat8; have hR8 := (hR7.alloc (.cells #[.int .u8 (xl : Int)] 5)).grown hgrow8 hap7; have hB8 := (below_new hB7 (.cells #[.int .u8 (xl : Int)] 5)).grown hgrow8 (by have := hB7.size; simp; omega) (fun k hk => (hown7.lt k hk).1); have c3' : wg.cell? ⟨gx, 2, none⟩ = some (.slice xA xl xc) := hR8.cell rfl)
        | (at_builtin; refine wpList_append_apart _ rfl (.tmp 47) (.tmp 49) 27 rfl w1.heap.size 5 i0 (.int .u8 0) 1 Tryz.underlying27 hi hz0 hz1 hz2 rfl _ _ _ rfl hown8 xA xs xc (by rw [HXL.out]; rfl) (HXW.out _ hB8) vB_one (by simp only [HXL.out, HN2.out, HN1.out, List.length_cons, List.length_nil]; unfold maxLen; omega) (by simp only [HXL.out, HN2.out, HN1.out, List.length_cons, List.length_nil]; omega) (by have := hB8.size; omega) ?_; intro u9 wh hown9 hgrow9 hat9; have hB9 := hB8.grown hgrow9 hB8.size (fun k hk => (hown8.lt k hk).1)))
      go_roundw
      case rel => exact HNX.out _ _ _ hown9 (by simp only [List.length_cons, List.length_nil, HXL.out]) hB9
      case measure => simp [intOf]; omega
    · have hkl : k = es.length := by omega
      subst hkl
      have hbl := beB_short v (conE es) es.length HSH.out
      rw [conE_length] at hbl
      have hall := beB_all v (conE es) gs
      rw [conE_length] at hall
      have HALL := Lib.hid hall
      generalize beB v (conE es) es.length = Lk at hown hbl HALL
      have c1 : wr.cell? ⟨w.heap.size, 1, none⟩ = some (.slice eA es.length ec) := hRr.cell rfl
      have c2 : wr.cell? ⟨w.heap.size, 2, none⟩ = some (.slice gA m gc) := hRr.cell rfl
      have hme := HM.out
      subst hme
      have hrgw := hrg1.keep hbel
      have HBB := Lib.hid hbel
      have j1 : ¬ (es.length : Int) < (es.length : Int) := by omega
      clear hbel hall hk
      go_wp2_with fail
      refine (refbytes15_any gs gc gA _ hrgw HF hm64).mono ?_
      rintro ee w9 ⟨v9, rfl, hown9, hb9⟩
      obtain ⟨A9, c9, rfl, hc9, hr9⟩ := own_slice hown9
      have hown10 := ownsRow_later hown hb9
      have HB9 := Lib.hid (below_step HBB.out hb9)
      have HBYL := Lib.hid (bytes_length gs)
      have hsz9 := HB9.out.size
      clear c1 c2 hb9 hown
      go_wp2_with (at_builtin; refine wpList_append_apart _ rfl (.tmp 51) (.tmp 54) 27 rfl w1.heap.size 5 i0 (.int .u8 0) 1 Tryz.underlying27 hi hz0 hz1 hz2 rfl _ _ _ rfl hown10 A9 (bytesG gs) c9 rfl hr9 vB_one (by rw [HBYL.out]; unfold maxLen; omega) (by rw [HBYL.out]; omega) hsz9 ?_; intro v10 w10 hown11 hgrow11 _; have hB10 := HB9.out.grown hgrow11 hsz9 (fun k hk => (hown10.lt k hk).1))
      go_ret
      refine ⟨_, rfl, ?_, HB1.out.trans (hB10.mono HB1.out.size)⟩
      rw [← HALL.out, List.length_append, List.map_append]
      exact own_base hown11 HB1.out.size
end Go.Proofs.YtmljhkdojopljaaGreatDoor
/-
  What the program's Bytes of layer 16 answers (landed code). No conditions but those typed.
-/
namespace Go.Proofs.YtmljhkdojopljaaGreatDoor
set_option maxRecDepth 100000
open Go.RowKit
set_option linter.unusedSimpArgs false
set_option linter.unusedVariables false

set_option maxHeartbeats 2000000 in
theorem bytesB_ok (v : Nat) (es : List ED) (gs : List Gn) (n ec m gc : Nat) (eA gA : Option Addr) (w : World) (HN : Hid (es.length = n)) (HM : Hid (gs.length = m)) (hre : RdE w eA es) (hoe : okD w es) (hrg : RdG w gA gs) (hv : v < 18446744073709551616) (hfe : fitE (conE es)) (HF : Hid (fitG gs)) (hok : rightB (conE es) gs = true) :
    Calls Tryz.prog 9 #[aggB v eA n ec gA m gc] w (RetBs w (bytesB v (conE es) gs) 0) := by
  obtain ⟨i0, hi, hz0, hz1, hz2⟩ := info_parts info_u8
  obtain ⟨hn64, hgr, hoe2⟩ := right_b.1 hok
  have hseed := okE_all hoe2
  have hsh : ∀ x ∈ conE es, x.2.2.length ≤ 32 := fun x hx => (hseed x hx).2
  rw [conE_length] at hn64
  have e1 := HN.out
  subst e1
  obtain ⟨hR, hB⟩ := box_three w 26 (.int .u64 (v : Int)) (.slice eA es.length ec) (.slice gA m gc)
  unfold aggB
  have HFE := Lib.hid hfe
  have HSH := Lib.hid hsh
  have HV := Lib.hid hv
  have hm64 : m ≤ 64 := by have := (right_parts.1 hgr).2; have := HM.out; omega
  have HOK := Lib.hid hok
  have HGB : Hid (bytesR gs = (bytesG gs, 0)) := bytesR_ok hgr
  have HML : Hid (∀ x ∈ es, x.s.length ≤ 9223372036854775807) := fun x hx => by
    have := hsh _ (List.mem_map_of_mem (f := ED.con) hx)
    have h2 : x.s.length ≤ 32 := this
    omega
  clear hok hoe2 hseed hgr hfe hsh HN
  go_enter Tryz.func9, Tryz.ntmps9
  go_upto_region 1 with fail
  generalize (w.alloc (.cells #[.int .u64 (v : Int), .slice eA es.length ec, .slice gA m gc] 26)) = w0 at hR hB ⊢
  go_wp2_with (refine wpList_load_part rfl 26 (.tmp 1) rfl w.heap.size 0 rfl _ _ hR (cellsB v eA es.length ec gA m gc) (by rfl) _ Tryz.underlying26 rfl (by exact size_bundle) ?_)
  refine (rightB_any v es gs es.length ec m gc eA gA w0 (Lib.hid rfl) HM (hre.keep hB) (hrg.keep hB) HF (by omega) (by omega) (HML.out)).mono ?_
  rw [HOK.out]
  rintro ee w1 ⟨rfl, hb⟩
  replace hR := hR.later hb
  replace hB := below_step hB hb
  clear hb
  go_upto_region 3 with fail
  have hbg := hR.lt
  have hre1 := hre.keep hB
  have hoe1 := hoe.keep hB
  have hrg1 := hrg.keep hB
  have HB1 := Lib.hid hB
  obtain ⟨L0, hL0⟩ : ∃ L, putL v = L := ⟨_, rfl⟩
  have HL0 := Lib.hid hL0
  have hL0' := hL0
  have HL0Q := Lib.hid hL0'
  clear hL0'
  have HN0 : Hid (L0.length = 8) := by unfold Hid; rw [← hL0]; rfl
  have hown0 : (w1.alloc (.cells #[.int .u8 66] 5)).ownsRow w1.heap.size 5 1 (.slice (some ⟨w1.heap.size, 0, none⟩) 1 1) 1 ([(66 : UInt8)].map vB) := own_lit w1 5 ([(66 : UInt8)].map vB) #[.int .u8 66] rfl (by unfold maxLen; simp)
  have hb2 := below_new (Below.refl w1.heap.size w1) (.cells #[.int .u8 66] 5)
  have c0 : (w1.alloc (.cells #[.int .u8 66] 5)).cell? ⟨w.heap.size, 0, none⟩ = some (.int .u64 (v : Int)) := (hR.later hb2).cell rfl
  clear hL0 hB hre hoe hrg
  go_wp2_with fail
  refine (putG_at v L0 HV.out HL0 _).mono ?_
  rintro ee w3 ⟨A1, k1, rfl, hk1, hr1, hb3⟩
  have hown3 := ownsRow_later hown0 hb3
  have hB3 := below_step hb2 hb3
  have hsz3 := hB3.size
  clear hown0 hb2 hb3 c0
  have hnb := byte_one es.length (by omega)
  have HNB := Lib.hid hnb
  clear hnb
  go_wp2_with (first
    | (at_builtin; refine wpList_append_apart _ rfl (.tmp 13) (.tmp 16) 27 rfl w1.heap.size 5 i0 (.int .u8 0) 1 Tryz.underlying27 hi hz0 hz1 hz2 rfl _ _ _ rfl hown3 A1 L0 k1 (by rw [HN0.out]; rfl) hr1 vB_one (by rw [HN0.out]; unfold maxLen; omega) (by rw [HN0.out]; omega) (by omega) ?_; intro v4 w4 hown4 hgrow4 hat4; have hB4 := hB3.grown hgrow4 hsz3 (fun k hk => (hown3.lt k hk).1); have hc1 : w4.cell? ⟨w.heap.size, 1, none⟩ = some (.slice eA es.length ec) := (hR.later hB4).cell rfl)
    | (at_builtin; refine wpList_append_apart _ rfl (.tmp 18) (.tmp 23) 27 rfl w1.heap.size 5 i0 (.int .u8 0) 1 Tryz.underlying27 hi hz0 hz1 hz2 rfl _ _ _ rfl (ownsRow_later hown4 (below_new (Below.refl _ _) _)) (some ⟨w4.heap.size, 0, none⟩) [UInt8.ofNat es.length] 1 rfl (Rd.new w4 [UInt8.ofNat es.length] _ _ (by rw [List.map_cons, HNB.out]; rfl)) vB_one (by simp only [HN0.out, List.length_cons, List.length_nil]; unfold maxLen; omega) (by simp only [HN0.out, List.length_cons, List.length_nil]; omega) (by have := hB4.size; simp; omega) ?_; intro v5 w5 hown5 hgrow5 hat5; have hB5 := (below_new hB4 (.cells #[.int .u8 (es.length : Int)] 5)).grown hgrow5 (by have := hB4.size; simp; omega) (fun k hk => (hown4.lt k hk).1)); have hc2 : w5.cell? ⟨w.heap.size, 1, none⟩ = some (.slice eA es.length ec) := (hR.later hB5).cell rfl)
  have hstart : beB v (conE es) 0 = 66 :: (L0 ++ [UInt8.ofNat es.length]) := by unfold beB; rw [HL0Q.out, conE_length]; rfl
  have hown6 : w5.ownsRow w1.heap.size 5 1 v5 (beB v (conE es) 0).length ((beB v (conE es) 0).map vB) := by
    rw [hstart]
    simpa [HN0.out, Nat.add_comm] using hown5
  clear hown3 hown4 hgrow4 hat4 hgrow5 hat5 hc1 hc2 hB4 hB3 hsz3 hr1 hown5 hstart
  go_loopw [4, 28] (fun u i wr => ByB v es w1 u i wr) (fun _ i _ => es.length - (intOf i).toNat)
  case atStart => exact ⟨0, Nat.zero_le _, rfl, hown6, hB5⟩
  case round =>
    clear hown6 hB5
    obtain ⟨k, hk, rfl, hown, hbel⟩ := hrel
    have hRr := hR.later hbel
    by_cases hlt : k < es.length
    · obtain ⟨b, o, rfl, hb, hrng, _, _, _⟩ := (hre1.keep hbel).one hlt
      have hx := hoe1 _ (List.getElem_mem hlt)
      have hlc : k < (conE es).length := by rw [conE_length]; exact hlt
      have hfx := HFE.out _ (List.getElem_mem hlc)
      have hsx := HSH.out _ (List.getElem_mem hlc)
      rw [conE_get es k hlt] at hfx hsx
      obtain ⟨L1, hL1⟩ : ∃ L, putL es[k].t = L := ⟨_, rfl⟩
      obtain ⟨L2, hL2⟩ : ∃ L, putL es[k].e = L := ⟨_, rfl⟩
      have HN1 : Hid (L1.length = 8) := by unfold Hid; rw [← hL1]; rfl
      have HN2 : Hid (L2.length = 8) := by unfold Hid; rw [← hL2]; rfl
      have HNX := Lib.hid (fun (u : Value) (n1 : Nat) (wr : World) (h) hn hB => byB_next (v := v) (es := es) (w := w1) (wr := wr) (u := u) (k := k) (n1 := n1) (L1 := L1) (L2 := L2) (Y := []) hlt hL1 hL2 h hn hB)
      have hbl := beB_short v (conE es) k HSH.out
      rw [conE_length] at hbl
      have HL1 := Lib.hid hL1
      have HL2 := Lib.hid hL2
      clear hL1 hL2
      generalize es[k] = x at hrng hx hfx hsx HNX HL1 HL2
      obtain ⟨xt, xe, xA, xc, xs⟩ := x
      obtain ⟨hxc, hxr⟩ := hx
      have HXW : Hid (∀ W, Below w1.heap.size w1 W → Rd vB W xA xs) := fun W hW => hxr.keep hW
      unfold ED.con at hfx hsx
      unfold ED.cells ED.at2 vNG at hrng
      dsimp only at hrng hfx hsx HNX HL1 HL2 hxc hxr
      generalize beB v (conE es) k = Lk at hown HNX hbl
      have c1 : wr.cell? ⟨w.heap.size, 1, none⟩ = some (.slice (some ⟨b, o, none⟩) es.length ec) := hRr.cell rfl
      have i2 : (0 : Int) ≤ (k : Int) := by omega
      have i3 : (k : Int) < (es.length : Int) := by omega
      have hR0 : Row (wr.alloc (.cells #[.int .u64 0, .int .u64 0, .slice none 0 0] 35)) wr.heap.size 35 [.int .u64 0, .int .u64 0, .slice none 0 0] := Row.new wr _ _ _ rfl
      have HS1 := byte_one xs.length (by omega)
      generalize hxl : xs.length = xl at *
      have HXL := Lib.hid hxl
      clear hxl
      go_upto_region 9 with (first
        | (refine wpList_load_mid rfl 35 (.tmp 30) rfl b (o + k * 3) rfl [.int .u64 (xt : Int), .int .u64 (xe : Int), .slice xA xl xc] _ hrng Tryz.underlying35 rfl (by exact size_entry) ?_)
        | (refine wpList_store_row rfl 35 (.tmp 6) (.tmp 31) rfl wr.heap.size rfl [.int .u64 (xt : Int), .int .u64 (xe : Int), .slice xA xl xc] rfl _ _ hR0 (by exact size_entry) rfl (one_three _ _ _ rfl rfl rfl) ?_))
      have hR1 := hR0.setRow [.int .u64 (xt : Int), .int .u64 (xe : Int), .slice xA xl xc]
      have hbn : Below wr.heap.size wr ((wr.alloc (.cells #[.int .u64 0, .int .u64 0, .slice none 0 0] 35)).setRow wr.heap.size [.int .u64 (xt : Int), .int .u64 (xe : Int), .slice xA xl xc].toArray) := below_setRow (below_new (Below.refl _ _) _) (Nat.le_refl _) _
      generalize (wr.alloc (.cells #[.int .u64 0, .int .u64 0, .slice none 0 0] 35)).setRow wr.heap.size [.int .u64 (xt : Int), .int .u64 (xe : Int), .slice xA xl xc].toArray = wb at hR1 hbn ⊢
      have hap := own_apart hown
      replace hown := ownsRow_later hown hbn
      replace hbel := below_step hbel hbn
      have hg3 := hR1.lt
      have HBB := Lib.hid hbel
      clear hbn hR0 hrng c1 hxr hRr
      generalize wr.heap.size = gx at hR1 hap hg3 ⊢
      have c0 : wb.cell? ⟨gx, 0, none⟩ = some (.int .u64 (xt : Int)) := hR1.cell rfl
      go_wp2_with fail
      refine (putG_at xt L1 hfx.1 HL1 _).mono ?_
      rintro ee wc ⟨A4, c4, rfl, hc4, hr4, hb4⟩
      have hown4 := ownsRow_later hown hb4
      have hR4 := hR1.later hb4
      have hB4 := below_step HBB.out hb4
      have hsz4 := hB4.size
      have hg4 := hR4.lt
      clear hown hb4 c0 hR1
      go_wp2_with (at_builtin; refine wpList_append_apart _ rfl (.tmp 32) (.tmp 35) 27 rfl w1.heap.size 5 i0 (.int .u8 0) 1 Tryz.underlying27 hi hz0 hz1 hz2 rfl _ _ _ rfl hown4 A4 L1 c4 (by rw [HN1.out]; rfl) hr4 vB_one (by rw [HN1.out]; unfold maxLen; omega) (by rw [HN1.out]; omega) (by omega) ?_; intro u5 wd hown5 hgrow5 hat5; have hR5 := hR4.grown hgrow5 hap; have hap5 := apart_of hap hg4 hat5; have hB5 := hB4.grown hgrow5 hsz4 (fun k hk => (hown4.lt k hk).1); have c1' : wd.cell? ⟨gx, 1, none⟩ = some (.int .u64 (xe : Int)) := hR5.cell rfl)
      refine (putG_at xe L2 hfx.2 HL2 _).mono ?_
      rintro ee we ⟨A6, c6, rfl, hc6, hr6, hb6⟩
      have hown6 := ownsRow_later hown5 hb6
      have hR6 := hR5.later hb6
      have hB6 := below_step hB5 hb6
      have hsz6 := hB6.size
      have hg6 := hR6.lt
      have hg5 := hR5.lt
      have hap6 := hap5
      clear hown5 hb6 c1' hR5 hap
      go_wp2_with (first
        | (at_builtin; refine wpList_append_apart _ rfl (.tmp 37) (.tmp 40) 27 rfl w1.heap.size 5 i0 (.int .u8 0) 1 Tryz.underlying27 hi hz0 hz1 hz2 rfl _ _ _ rfl hown6 A6 L2 c6 (by rw [HN2.out]; rfl) hr6 vB_one (by rw [HN2.out, HN1.out]; unfold maxLen; omega) (by rw [HN2.out, HN1.out]; omega) (by omega) ?_; intro u7 wf hown7 hgrow7 hat7; have hR7 := hR6.grown hgrow7 hap6; have hap7 := apart_of hap6 hg6 hat7; have hB7 := hB6.grown hgrow7 hsz6 (fun k hk => (hown6.lt k hk).1); have c2' : wf.cell? ⟨gx, 2, none⟩ = some (.slice xA xl xc) := hR7.cell rfl; have hg7 := hR7.lt)
        | (at_builtin; refine wpList_append_apart _ rfl (.tmp 42) (.tmp 47) 27 rfl w1.heap.size 5 i0 (.int .u8 0) 1 Tryz.underlying27 hi hz0 hz1 hz2 rfl _ _ _ rfl (ownsRow_later hown7 (below_new (Below.refl _ _) _)) (some ⟨wf.heap.size, 0, none⟩) [UInt8.ofNat xl] 1 rfl (Rd.new wf [UInt8.ofNat xl] _ _ (by rw [List.map_cons, HS1]; rfl)) vB_one (by simp only [HN2.out, HN1.out, List.length_cons, List.length_nil]; unfold maxLen; omega) (by simp only [HN2.out, HN1.out, List.length_cons, List.length_nil]; omega) (by have := hB7.size; simp; omega) ?_; intro u8 wg hown8 hgrow8 hat8; have hR8 := (hR7.alloc (.cells #[.int .u8 (xl : Int)] 5)).grown hgrow8 hap7; have hB8 := (below_new hB7 (.cells #[.int .u8 (xl : Int)] 5)).grown hgrow8 (by have := hB7.size; simp; omega) (fun k hk => (hown7.lt k hk).1); have c3' : wg.cell? ⟨gx, 2, none⟩ = some (.slice xA xl xc) := hR8.cell rfl)
        | (at_builtin; refine wpList_append_apart _ rfl (.tmp 49) (.tmp 51) 27 rfl w1.heap.size 5 i0 (.int .u8 0) 1 Tryz.underlying27 hi hz0 hz1 hz2 rfl _ _ _ rfl hown8 xA xs xc (by rw [HXL.out]; rfl) (HXW.out _ hB8) vB_one (by simp only [HXL.out, HN2.out, HN1.out, List.length_cons, List.length_nil]; unfold maxLen; omega) (by simp only [HXL.out, HN2.out, HN1.out, List.length_cons, List.length_nil]; omega) (by have := hB8.size; omega) ?_; intro u9 wh hown9 hgrow9 hat9; have hB9 := hB8.grown hgrow9 hB8.size (fun k hk => (hown8.lt k hk).1)))
      go_roundw
      case rel => exact HNX.out _ _ _ hown9 (by simp only [List.length_cons, List.length_nil, HXL.out]) hB9
      case measure => simp [intOf]; omega
    · have hkl : k = es.length := by omega
      subst hkl
      have hbl := beB_short v (conE es) es.length HSH.out
      rw [conE_length] at hbl
      have hall := beB_all v (conE es) gs
      rw [conE_length] at hall
      have HALL := Lib.hid hall
      generalize beB v (conE es) es.length = Lk at hown hbl HALL
      have c1 : wr.cell? ⟨w.heap.size, 1, none⟩ = some (.slice eA es.length ec) := hRr.cell rfl
      have c2 : wr.cell? ⟨w.heap.size, 2, none⟩ = some (.slice gA m gc) := hRr.cell rfl
      have hme := HM.out
      subst hme
      have hrgw := hrg1.keep hbel
      have HBB := Lib.hid hbel
      have j1 : ¬ (es.length : Int) < (es.length : Int) := by omega
      clear hbel hall hk
      go_wp2_with fail
      refine (bytes15_any gs gs.length gc gA _ (Lib.hid rfl) hrgw HF (by omega)).mono ?_
      rw [HGB.out]
      rintro ee w9 ⟨v9, rfl, hown9, hb9⟩
      obtain ⟨A9, c9, rfl, hc9, hr9⟩ := own_slice hown9
      have hown10 := ownsRow_later hown hb9
      have HB9 := Lib.hid (below_step HBB.out hb9)
      have HBYL := Lib.hid (bytes_length gs)
      have hsz9 := HB9.out.size
      clear c1 c2 hb9 hown
      go_wp2_with (at_builtin; refine wpList_append_apart _ rfl (.tmp 60) (.tmp 61) 27 rfl w1.heap.size 5 i0 (.int .u8 0) 1 Tryz.underlying27 hi hz0 hz1 hz2 rfl _ _ _ rfl hown10 A9 (bytesG gs) c9 rfl hr9 vB_one (by rw [HBYL.out]; unfold maxLen; omega) (by rw [HBYL.out]; omega) hsz9 ?_; intro v10 w10 hown11 hgrow11 _; have hB10 := HB9.out.grown hgrow11 hsz9 (fun k hk => (hown10.lt k hk).1))
      rw [← List.map_append, ← List.length_append, HALL.out] at hown11
      obtain ⟨A11, c11, rfl, hc11, hr11⟩ := own_slice hown11
      go_ret2
      exact ⟨A11, _, c11, rfl, Lib.hid rfl, hc11, hr11, HB1.out.trans (hB10.mono HB1.out.size)⟩

/-- Bytes of any bundle. -/
def bytesBR (v : Nat) (es : List En) (gs : List Gn) : List UInt8 × Int := if rightB es gs = true then (bytesB v es gs, 0) else ([], 1)
theorem bytesBR_ok {v : Nat} {es : List En} {gs : List Gn} (h : rightB es gs = true) : bytesBR v es gs = (bytesB v es gs, 0) := if_pos h
theorem bytesBR_no {v : Nat} {es : List En} {gs : List Gn} (h : rightB es gs = false) : bytesBR v es gs = ([], 1) := by unfold bytesBR; rw [h]; rfl
theorem bytesB_no (v : Nat) (es : List ED) (gs : List Gn) (n ec m gc : Nat) (eA gA : Option Addr) (w : World) (HN : Hid (es.length = n)) (HM : Hid (gs.length = m)) (hre : RdE w eA es) (hrg : RdG w gA gs) (HF : Hid (fitG gs)) (hn : n ≤ 1000000000) (hm : m ≤ 1000000000) (hml : ∀ x ∈ es, x.s.length ≤ 9223372036854775807) (hok : rightB (conE es) gs = false) :
    Calls Tryz.prog 9 #[aggB v eA n ec gA m gc] w (RetBs w [] 1) := by
  obtain ⟨hR, hB⟩ := box_three w 26 (.int .u64 (v : Int)) (.slice eA n ec) (.slice gA m gc)
  have HOK := Lib.hid hok
  have HML := Lib.hid hml
  clear hok hml
  unfold aggB
  go_enter Tryz.func9, Tryz.ntmps9
  go_upto_region 1 with fail
  generalize (w.alloc (.cells #[.int .u64 (v : Int), .slice eA n ec, .slice gA m gc] 26)) = w0 at hR hB ⊢
  go_wp2_with (refine wpList_load_part rfl 26 (.tmp 1) rfl w.heap.size 0 rfl _ _ hR (cellsB v eA n ec gA m gc) (by rfl) _ Tryz.underlying26 rfl (by exact size_bundle) ?_)
  refine (rightB_any v es gs n ec m gc eA gA w0 HN HM (hre.keep hB) (hrg.keep hB) HF hn hm HML.out).mono ?_
  rw [HOK.out]
  rintro ee w1 ⟨rfl, hb⟩
  go_wp2_with fail
  go_ret2
  exact ⟨none, 0, 0, rfl, Lib.hid rfl, Nat.le_refl _, Rd.nil, below_step hB hb⟩
theorem bytesB_any (v : Nat) (es : List ED) (gs : List Gn) (n ec m gc : Nat) (eA gA : Option Addr) (w : World) (HN : Hid (es.length = n)) (HM : Hid (gs.length = m)) (hre : RdE w eA es) (hoe : okD w es) (hrg : RdG w gA gs) (hv : v < 18446744073709551616) (hfe : fitE (conE es)) (HF : Hid (fitG gs)) (hn : n ≤ 1000000000) (hm : m ≤ 1000000000) (hml : ∀ x ∈ es, x.s.length ≤ 9223372036854775807) :
    Calls Tryz.prog 9 #[aggB v eA n ec gA m gc] w (RetBs w (bytesBR v (conE es) gs).1 (bytesBR v (conE es) gs).2) := by
  cases h : rightB (conE es) gs with
  | true => rw [bytesBR_ok h]; exact bytesB_ok v es gs n ec m gc eA gA w HN HM hre hoe hrg hv hfe HF h
  | false => rw [bytesBR_no h]; exact bytesB_no v es gs n ec m gc eA gA w HN HM hre hrg HF hn hm hml h
end Go.Proofs.YtmljhkdojopljaaGreatDoor
