/-
  What slices.BinarySearchFunc answers at a list of uses that is right, by the program's order. No conditions but those typed.
-/
import Derived.Test.YteljklkgdejhpaaGreatDoorQL4
import Derived.Maps.AppendAt
set_option linter.unusedSimpArgs false
set_option linter.unusedVariables false
set_option maxRecDepth 100000
set_option maxHeartbeats 4000000
namespace Go.Proofs.YteljklkgdejhpaaGreatDoor
open Go.RowKit
theorem zjC (l : List Us) (g : Us) (n c : Nat) (A : Option Addr) (w : World) (HN : Hid (l.length = n)) (hr : RdU w A l) (HF : Hid (fitU l)) (HG : Hid (zcF g)) (HS : Hid (zcY l = true)) (hn : n ≤ 1000000000) :
  Calls Tryz.prog 126 #[.slice A n c, aggU g, .func (.func 80) #[] #[]] w fun e w' => (∃ i : Nat, i ≤ n ∧ PlU l g i ∧ e = .returned (.tuple #[.int .i64 (i : Int), .bool (hasU l g)])) ∧ Below w.heap.size w w' := by
 obtain ⟨g0, hg0⟩ : ∃ x, x = g.1 := ⟨_, rfl⟩
 obtain ⟨g1, hg1⟩ : ∃ x, x = g.2.1 := ⟨_, rfl⟩
 obtain ⟨g2, hg2⟩ : ∃ x, x = g.2.2 := ⟨_, rfl⟩
 have HE : Hid (g = (g0, g1, g2)) := by unfold Hid; rw [hg0, hg1, hg2]
 unfold aggU vNU
 rw [← hg0, ← hg1, ← hg2]
 clear hg0 hg1 hg2
 have hR : Row (w.alloc (.cells #[.int .u64 (g0 : Int), .int .u64 (g1 : Int), .int .u64 (g2 : Int)] 57)) w.heap.size 57 [.int .u64 (g0 : Int), .int .u64 (g1 : Int), .int .u64 (g2 : Int)] := Row.new w _ _ _ rfl
 have hB0 := zak (Below.refl _ w) (.cells #[.int .u64 (g0 : Int), .int .u64 (g1 : Int), .int .u64 (g2 : Int)] 57)
 go_enter Tryz.func126, Tryz.ntmps126
 go_upto_region 1 with fail
 generalize w.alloc (.cells #[.int .u64 (g0 : Int), .int .u64 (g1 : Int), .int .u64 (g2 : Int)] 57) = w1 at hR hB0 ⊢
 have hg1 := hR.lt
 generalize w.heap.size = bg at hR hg1 ⊢
 go_wp2_with fail
 go_loopw [9, 10] (fun u v wr => (∃ i j : Nat, u = .int .i64 (i : Int) ∧ v = .int .i64 (j : Int) ∧ i ≤ j ∧ j ≤ n ∧ (∀ k (h : k < l.length), k < i → ltU l[k] g = true) ∧ ∀ k (h : k < l.length), j ≤ k → ltU l[k] g = false) ∧ Below w1.heap.size w1 wr) (fun u v _ => (intOf v - intOf u).toNat)
 case atStart => exact ⟨⟨0, n, rfl, rfl, by omega, Nat.le_refl _, fun k _ hk => by omega, fun k hk hk2 => by have := HN.out; omega⟩, Below.refl _ _⟩
 case round =>
  obtain ⟨⟨i, j, rfl, rfl, hij, hjn, hlo, hhi⟩, hB⟩ := hrel
  by_cases hlt : i < j
  ·obtain ⟨m, hm, hm1, hm2⟩ : ∃ m : Nat, ((i : Int) + (j : Int)) / 2 = (m : Int) ∧ i ≤ m ∧ m < j := ⟨(i + j) / 2, by omega, by omega, by omega⟩
   have hln := HN.out
   have hml : m < l.length := by omega
   obtain ⟨b, o, rfl, hb, hrng, p0, p1, p2⟩ := (hr.keep hB0).pair hml
   replace p0 := (hB.cell (p := ⟨b, o + m * 3, none⟩) hb).trans p0
   replace p1 := (hB.cell (p := ⟨b, o + m * 3 + 1, none⟩) hb).trans p1
   replace p2 := (hB.cell (p := ⟨b, o + m * 3 + 2, none⟩) hb).trans p2
   have HP : Hid (zcF l[m]) := HF.out _ (List.getElem_mem hml)
   have HL : Hid (ltU l[m] g = true → ∀ k (h : k < l.length), k < m + 1 → ltU l[k] g = true) := zn8 HS.out hml
   have HH : Hid (ltU l[m] g = false → ∀ k (h : k < l.length), m ≤ k → ltU l[k] g = false) := zmi HS.out hml
   generalize l[m] = x at p0 p1 p2 HP HL HH
   obtain ⟨x0, x1, x2⟩ := x
   unfold vNU at p0 p1 p2
   dsimp only at p0 p1 p2
   have d0 : ∀ W, Below wr.heap.size wr W → W.cell? ⟨b, o + m * 3, none⟩ = some (.int .u64 (x0 : Int)) := fun W hW => (hW.cell (p := ⟨b, o + m * 3, none⟩) (World.block_lt_of_cell? wr _ p0)).trans p0
   have d4 : ∀ W, Below wr.heap.size wr W → W.cell? ⟨b, o + m * 3 + 2, none⟩ = some (.int .u64 (x2 : Int)) := fun W hW => (hW.cell (p := ⟨b, o + m * 3 + 2, none⟩) (World.block_lt_of_cell? wr _ p2)).trans p2
   have d5 : ∀ W, Below wr.heap.size wr W → W.cell? ⟨bg, 2, none⟩ = some (.int .u64 (g2 : Int)) := fun W hW => ((hR.later hB).later hW).cell rfl
   have d1 : ∀ W, Below wr.heap.size wr W → W.cell? ⟨b, o + m * 3 + 1, none⟩ = some (.int .u64 (x1 : Int)) := fun W hW => (hW.cell (p := ⟨b, o + m * 3 + 1, none⟩) (World.block_lt_of_cell? wr _ p1)).trans p1
   have d2 : ∀ W, Below wr.heap.size wr W → W.cell? ⟨bg, 0, none⟩ = some (.int .u64 (g0 : Int)) := fun W hW => ((hR.later hB).later hW).cell rfl
   have d3 : ∀ W, Below wr.heap.size wr W → W.cell? ⟨bg, 1, none⟩ = some (.int .u64 (g1 : Int)) := fun W hW => ((hR.later hB).later hW).cell rfl
   have HB := Lib.hid hB
   have HLO := Lib.hid hlo
   have HHI := Lib.hid hhi
   have HIJ : Hid (i ≤ m ∧ m < j ∧ j ≤ n) := ⟨hm1, hm2, hjn⟩
   have HM := Lib.hid hm
   clear hrng hB p0 p1 p2 hlo hhi hln hm
   go_wp2_with fail
   rw [HM.out]
   have i2 : (0 : Int) ≤ (m : Int) := by omega
   have i3 : (m : Int) < (n : Int) := by omega
   have hBase := (Below.refl wr.heap.size wr).drew
   refine zaw (.step 0 false (.step 1 false (.step 2 false (.step 3 false (.step 4 false (.step 5 false (.step 6 true (.step 7 false (.nil))))))))) (by kernel_rfl) (by kernel_rfl) (by rfl) (by kernel_rfl) ?_
   iterate 6 (refine zae rfl (by rfl) (v := ?_) ?_ ?_; rotate_left 1; (intro W hW; have hW0 := zaa hBase hW; (try dsimp only at hW); go_simp <;> with_reducible rfl); simp only [List.getElem_toArray, List.getElem_cons_zero, List.getElem_cons_succ, Act.put, List.setIfInBounds_toArray, List.set_cons_zero, List.set_cons_succ])
   (refine zaI rfl (by rfl) (fun K hK => ?_); go_simp; (refine (zfe (x0, x1, x2) (g0, g1, g2) _ HP.out (by have := HG.out; rw [HE.out] at this; exact this)).mono ?_; rintro e₁ w4 ⟨rfl, hbx⟩); refine hK.out _ _ hbx ?_; clear hK K; replace hBase := zaa hBase hbx)
   have hneg := zke (x0, x1, x2) (g0, g1, g2)
   generalize ordU (x0, x1, x2) (g0, g1, g2) = r at hneg ⊢
   rw [← HE.out] at hneg
   have HB2 := Lib.hid (zaa HB.out hBase)
   by_cases hr0 : r < 0
   ·have HL2 := Lib.hid (HL.out (hneg.1 hr0))
    have hd : decide (r < 0) = true := decide_eq_true hr0
    clear hneg
    iterate 1 (refine zae rfl (by rfl) (v := ?_) ?_ ?_; rotate_left 1; (intro W hW; have hW0 := zaa hBase hW; (try dsimp only at hW); go_simp <;> with_reducible rfl); simp only [List.getElem_toArray, List.getElem_cons_zero, List.getElem_cons_succ, Act.put, List.setIfInBounds_toArray, List.set_cons_zero, List.set_cons_succ])
    refine zal ?_
    go_wp2_with fail
    go_roundw
    case rel => exact ⟨⟨m + 1, j, by go_num, rfl, by have := HIJ.out; omega, HIJ.out.2.2, HL2.out, HHI.out⟩, HB2.out⟩
    case measure => have := HIJ.out; simp [intOf]; omega
   ·have hlf : ltU (x0, x1, x2) g = false := by
     rw [Bool.eq_false_iff]
     intro h
     exact hr0 (hneg.2 h)
    have HL2 := Lib.hid (HH.out hlf)
    have hd : decide (r < 0) = false := decide_eq_false hr0
    clear hneg hlf
    iterate 1 (refine zae rfl (by rfl) (v := ?_) ?_ ?_; rotate_left 1; (intro W hW; have hW0 := zaa hBase hW; (try dsimp only at hW); go_simp <;> with_reducible rfl); simp only [List.getElem_toArray, List.getElem_cons_zero, List.getElem_cons_succ, Act.put, List.setIfInBounds_toArray, List.set_cons_zero, List.set_cons_succ])
    refine zal ?_
    go_wp2_with fail
    go_roundw
    case rel => exact ⟨⟨i, m, rfl, rfl, HIJ.out.1, by have := HIJ.out; omega, HLO.out, HL2.out⟩, HB2.out⟩
    case measure => have := HIJ.out; simp [intOf]; omega
  ·have hij2 : i = j := by omega
   subst hij2
   have HPL : Hid (PlU l g i) := ⟨hlo, hhi⟩
   have hmem := zpa HPL.out HS.out
   have HB := Lib.hid hB
   clear hlo hhi
   by_cases hin : i < n
   ·have hil : i < l.length := by rw [HN.out]; exact hin
    obtain ⟨b, o, rfl, hb, hrng, p0, p1, p2⟩ := (hr.keep hB0).pair hil
    replace p0 := (hB.cell (p := ⟨b, o + i * 3, none⟩) hb).trans p0
    replace p1 := (hB.cell (p := ⟨b, o + i * 3 + 1, none⟩) hb).trans p1
    replace p2 := (hB.cell (p := ⟨b, o + i * 3 + 2, none⟩) hb).trans p2
    have HP : Hid (zcF l[i]) := HF.out _ (List.getElem_mem hil)
    have HZ : Hid (hasU l g = decide (ordU l[i] g = 0)) := by
     unfold Hid hasU
     rw [decide_eq_decide, hmem, zmj]
     exact ⟨fun ⟨_, h⟩ => h, fun h => ⟨hil, h⟩⟩
    rw [HE.out] at HZ
    generalize l[i] = x at p0 p1 p2 HP HZ
    obtain ⟨x0, x1, x2⟩ := x
    unfold vNU at p0 p1 p2
    dsimp only at p0 p1 p2
    have d0 : ∀ W, Below wr.heap.size wr W → W.cell? ⟨b, o + i * 3, none⟩ = some (.int .u64 (x0 : Int)) := fun W hW => (hW.cell (p := ⟨b, o + i * 3, none⟩) (World.block_lt_of_cell? wr _ p0)).trans p0
    have d4 : ∀ W, Below wr.heap.size wr W → W.cell? ⟨b, o + i * 3 + 2, none⟩ = some (.int .u64 (x2 : Int)) := fun W hW => (hW.cell (p := ⟨b, o + i * 3 + 2, none⟩) (World.block_lt_of_cell? wr _ p2)).trans p2
    have d5 : ∀ W, Below wr.heap.size wr W → W.cell? ⟨bg, 2, none⟩ = some (.int .u64 (g2 : Int)) := fun W hW => ((hR.later hB).later hW).cell rfl
    have d1 : ∀ W, Below wr.heap.size wr W → W.cell? ⟨b, o + i * 3 + 1, none⟩ = some (.int .u64 (x1 : Int)) := fun W hW => (hW.cell (p := ⟨b, o + i * 3 + 1, none⟩) (World.block_lt_of_cell? wr _ p1)).trans p1
    have d2 : ∀ W, Below wr.heap.size wr W → W.cell? ⟨bg, 0, none⟩ = some (.int .u64 (g0 : Int)) := fun W hW => ((hR.later hB).later hW).cell rfl
    have d3 : ∀ W, Below wr.heap.size wr W → W.cell? ⟨bg, 1, none⟩ = some (.int .u64 (g1 : Int)) := fun W hW => ((hR.later hB).later hW).cell rfl
    have i2 : (0 : Int) ≤ (i : Int) := by omega
    have i3 : (i : Int) < (n : Int) := by omega
    clear hrng hB p0 p1 p2 hmem
    go_wp2_with fail
    have hBase := (Below.refl wr.heap.size wr).drew
    refine zaw (.step 0 false (.step 1 false (.step 2 false (.step 3 false (.step 4 false (.step 5 false (.step 6 false (.step 7 false (.step 8 false (.step 9 false (.step 10 false (.step 11 true (.step 12 false (.step 13 false (.step 14 false (.step 15 false (.nil))))))))))))))))) (by kernel_rfl) (by kernel_rfl) (by rfl) (by kernel_rfl) ?_
    iterate 11 (refine zae rfl (by rfl) (v := ?_) ?_ ?_; rotate_left 1; (intro W hW; have hW0 := zaa hBase hW; (try dsimp only at hW); go_simp <;> with_reducible rfl); simp only [List.getElem_toArray, List.getElem_cons_zero, List.getElem_cons_succ, Act.put, List.setIfInBounds_toArray, List.set_cons_zero, List.set_cons_succ])
    (refine zaI rfl (by rfl) (fun K hK => ?_); go_simp; (refine (zfe (x0, x1, x2) (g0, g1, g2) _ HP.out (by have := HG.out; rw [HE.out] at this; exact this)).mono ?_; rintro e₁ w4 ⟨rfl, hbx⟩); refine hK.out _ _ hbx ?_; clear hK K; replace hBase := zaa hBase hbx)
    generalize ordU (x0, x1, x2) (g0, g1, g2) = r at HZ ⊢
    iterate 4 (refine zae rfl (by rfl) (v := ?_) ?_ ?_; rotate_left 1; (intro W hW; have hW0 := zaa hBase hW; (try dsimp only at hW); go_simp <;> with_reducible rfl); simp only [List.getElem_toArray, List.getElem_cons_zero, List.getElem_cons_succ, Act.put, List.setIfInBounds_toArray, List.set_cons_zero, List.set_cons_succ])
    refine zal ?_
    have HB2 := Lib.hid (hB0.trans ((zaa HB.out hBase).mono hB0.size))
    go_wp2_with fail
    go_ret2
    exact ⟨⟨i, hjn, HPL.out, by rw [HE.out, HZ.out]; rfl⟩, HB2.out⟩
   ·have HZ : Hid (hasU l g = false) := by
     unfold Hid hasU
     rw [decide_eq_false_iff_not, hmem]
     rintro ⟨hi, _⟩
     rw [HN.out] at hi
     exact hin hi
    have j1 : ¬ (i : Int) < (n : Int) := by omega
    clear hB hmem
    go_wp2_with fail
    have hBase := (Below.refl wr.heap.size wr).drew
    refine zaw (.step 0 false (.step 1 false (.step 2 false (.step 3 false (.step 4 false (.step 5 false (.step 6 false (.step 7 false (.step 8 false (.step 9 false (.step 10 false (.step 11 true (.step 12 false (.step 13 false (.step 14 false (.step 15 false (.nil))))))))))))))))) (by kernel_rfl) (by kernel_rfl) (by rfl) (by kernel_rfl) ?_
    iterate 5 (refine zae rfl (by rfl) (v := ?_) ?_ ?_; rotate_left 1; (intro W hW; have hW0 := zaa hBase hW; (try dsimp only at hW); go_simp <;> with_reducible rfl); simp only [List.getElem_toArray, List.getElem_cons_zero, List.getElem_cons_succ, Act.put, List.setIfInBounds_toArray, List.set_cons_zero, List.set_cons_succ])
    iterate 8 (refine zdh rfl (by rfl) ?_; simp only [List.getElem_toArray, List.getElem_cons_zero, List.getElem_cons_succ, Act.put, List.setIfInBounds_toArray, List.set_cons_zero, List.set_cons_succ])
    iterate 3 (refine zae rfl (by rfl) (v := ?_) ?_ ?_; rotate_left 1; (intro W hW; have hW0 := zaa hBase hW; (try dsimp only at hW); go_simp <;> with_reducible rfl); simp only [List.getElem_toArray, List.getElem_cons_zero, List.getElem_cons_succ, Act.put, List.setIfInBounds_toArray, List.set_cons_zero, List.set_cons_succ])
    refine zal ?_
    have HB2 := Lib.hid (hB0.trans ((zaa HB.out hBase).mono hB0.size))
    go_wp2_with fail
    go_ret2
    exact ⟨⟨i, hjn, HPL.out, by rw [HZ.out]; rfl⟩, HB2.out⟩
def puts (a : Act) : List Nat → (Nat → Value) → Act
 | [], _ => a
 | k :: ks, s => puts (a.put (some k) (s k)) ks s
def zbz (ops : Array Oper) (i : Nat) : List Nat := ((ops[i]?).map fun o => ((o.after.toList.filter fun e => Region.binds .any e).map (·.on))).getD []
def seen (L : Nat → Bool) (l : List Nat) : Prop := ∀ j ∈ l, L j = true
theorem zbX {ops : Array Oper} {listed : Array Bool} {i : Nat} (h : i ∈ Region.ready .any ops listed) : i < ops.size ∧ listed.getD i true = false ∧ seen (fun j => listed.getD j false) (zbz ops i) := by
 unfold Region.ready at h
 obtain ⟨h1, h2⟩ := List.mem_filter.1 h
 have hi := List.mem_range.1 h1
 rw [Bool.and_eq_true] at h2
 obtain ⟨h2, h3⟩ := h2
 refine ⟨hi, by simpa using h2, fun j hj => ?_⟩
 unfold zbz at hj
 rw [Array.getElem?_eq_getElem hi] at hj h3
 simp only [Option.map_some, Option.getD_some] at hj h3
 obtain ⟨e, he, rfl⟩ := List.mem_map.1 hj
 obtain ⟨he1, he2⟩ := List.mem_filter.1 he
 have := (Array.all_eq_true'.1 h3) e (Array.mem_toList_iff.1 he1)
 simpa [he2] using this
section
variable {P : Program} {ops : Array Oper} {Q : Exit → Act → World → Prop}
end
theorem zdz {ops : Array Oper} {listed : Array Bool} {i : Nat} (hi : i < ops.size) (hlt : i < listed.size) (hl : listed.getD i false = false) (hd : ∀ j ∈ zbz ops i, listed.getD j false = true) : i ∈ Region.ready .any ops listed := by
 unfold Region.ready
 refine List.mem_filter.2 ⟨List.mem_range.2 hi, ?_⟩
 rw [Bool.and_eq_true]
 refine ⟨?_, ?_⟩
 ·simp [Array.getD, hlt] at hl ⊢
  exact hl
 ·rw [Array.getElem?_eq_getElem hi]
  simp only [Option.map_some, Option.getD_some]
  refine Array.all_eq_true'.2 (fun e he => ?_)
  by_cases hb : Region.binds .any e = true
  ·have hmem : e.on ∈ zbz ops i := by
    unfold zbz
    rw [Array.getElem?_eq_getElem hi]
    simp only [Option.map_some, Option.getD_some]
    exact List.mem_map.2 ⟨e, List.mem_filter.2 ⟨Array.mem_toList_iff.2 he, hb⟩, rfl⟩
   rw [hd _ hmem]
   simp
  ·simp [Bool.eq_false_iff.2 hb]
theorem ziz {ops : Array Oper} {listed : Array Bool} (hdep : (List.range ops.size).all (fun i => (zbz ops i).all (fun j => decide (j < i))) = true) (hsz : listed.size = ops.size) (hr : Region.ready .any ops listed = []) : ∀ i, i < ops.size → listed.getD i false = true := by
 intro i
 induction i using Nat.strongRecOn with
 | _ i ih =>
  intro hi
  cases hli : listed.getD i false with
  | true => rfl
  | false =>
   have : i ∈ Region.ready .any ops listed := zdz hi (by omega) hli (fun j hj => by
    have h1 := List.all_eq_true.1 hdep i (List.mem_range.2 hi)
    have hlt := of_decide_eq_true (List.all_eq_true.1 h1 _ hj)
    exact ih j hlt (by omega))
   rw [hr] at this
   cases this
theorem zdS {l : Array Bool} {i : Nat} (h : i < l.size) : l.getD i true = l.getD i false := by simp [Array.getD, h]
def zbo (ops : Array Oper) : Array Oper := ops.toList.dropLast.toArray
theorem zbg (ops : Array Oper) : (zbo ops).size = ops.size - 1 := by simp [zbo]
theorem zeP (ops : Array Oper) (i : Nat) (h : i < ops.size - 1) : (zbo ops)[i]? = ops[i]? := by
 unfold zbo
 rw [List.getElem?_toArray, List.getElem?_dropLast, if_pos (by simpa using h), Array.getElem?_toList]
theorem zcN (ops : Array Oper) (i : Nat) (h : i < ops.size - 1) : zbz (zbo ops) i = zbz ops i := by
 unfold zbz
 rw [zeP ops i h]
def zeQ (ops : Array Oper) : Bool := ops.toList.all fun o => match o.guard with | none => true | some (j, _) => decide (j < ops.size - 1)
theorem zdA (ops : Array Oper) (hg : zeQ ops = true) (i : Nat) (o : Oper) (ho : ops[i]? = some o) (tmps : Array Value) : Region.wanted o (yielded ops tmps) = Region.wanted o (yielded (zbo ops) tmps) := by
 have h := List.all_eq_true.1 hg o (List.mem_of_getElem? (by rw [Array.getElem?_toList]; exact ho))
 unfold Region.wanted
 cases hgd : o.guard with
 | none => rfl
 | some x =>
  obtain ⟨j, b⟩ := x
  rw [hgd] at h
  dsimp only at h ⊢
  have hj := of_decide_eq_true h
  unfold yielded
  rw [zeP ops j hj]
section
variable {P : Program} {ops : Array Oper} {Q : Exit → Act → World → Prop}
def zgc (P : Program) (ops : Array Oper) (Q : Exit → Act → World → Prop) : Exit → Act → World → Prop
 | .normal, a, w => wpOp P ops Q (ops.size - 1) (fun a' w' => Q .normal a' w') a w
 | _, _, _ => False
theorem zfg : ¬ LetsOut (zgc P ops Q) := fun ⟨_, _, h⟩ => h
theorem zgd {o : Oper} {a : Act} {w : World} {K : Act → World → Prop} (h : o.wp P a w K (zgc P ops Q)) : o.wp P a w K Q := by
 unfold Oper.wp at *
 generalize (execOp a.eval o).run P w = r at *
 cases r with
 | ok x w' =>
  cases x <;> simp only [Oper.upon] at h ⊢
  case enter f args =>
   refine h.mono fun e w'' he => ?_
   cases e with
   | returned v => exact he
   | panicked c => exact he.elim
   | outgrown => exact (zfg he).elim
  all_goals exact h
 | halt x w' =>
  cases x <;> simp only [Oper.upon] at h ⊢
  case panic v => exact h.elim
theorem zmD {S : World → Prop} (hg : zeQ ops = true) (hn : 0 < ops.size) (hdep : (List.range ops.size).all (fun i => (zbz ops i).all (fun j => decide (j < i))) = true) (hlast : (List.range (ops.size - 1)).all (fun j => (zbz ops (ops.size - 1)).contains j) = true) :
  ∀ (fuel : Nat) (L M : Array Bool) (a : Act) (w : World), L.size = ops.size → M.size = ops.size - 1 → (∀ i, i < ops.size - 1 → M.getD i false = L.getD i false) → L.getD (ops.size - 1) false = false → wpAnyH P .any (zbo ops) (zgc P ops Q) S fuel M a w → wpAny P .any ops Q (fuel + 1) L a w := by
 have hdi : (List.range (zbo ops).size).all (fun i => (zbz (zbo ops) i).all (fun j => decide (j < i))) = true := by
  rw [zbg]
  refine List.all_eq_true.2 (fun i hi => ?_)
  have hi' := List.mem_range.1 hi
  rw [zcN ops i hi']
  exact List.all_eq_true.1 hdep i (List.mem_range.2 (by omega))
 have done : ∀ (fuel : Nat) (L : Array Bool) (a : Act) (w : World), L.size = ops.size → (∀ i, i < ops.size → L.getD i false = true) → Q .normal a w → wpAny P .any ops Q fuel L a w := by
  intro fuel L a w hL hall hq
  have hnil : Region.ready .any ops L = [] := by
   refine List.eq_nil_iff_forall_not_mem.2 (fun i hi => ?_)
   obtain ⟨h1, h2, _⟩ := zbX hi
   rw [zdS (by omega), hall i h1] at h2
   cases h2
  cases fuel with
  | zero => exact ⟨hnil, hq⟩
  | succ f => exact ⟨fun _ => hq, fun i hi => by rw [hnil] at hi; cases hi⟩
 have final : ∀ (fuel : Nat) (L M : Array Bool) (a : Act) (w : World), L.size = ops.size → M.size = ops.size - 1 → (∀ i, i < ops.size - 1 → M.getD i false = L.getD i false) → L.getD (ops.size - 1) false = false → Region.ready .any (zbo ops) M = [] → zgc P ops Q .normal a w → wpAny P .any ops Q (fuel + 1) L a w := by
  intro fuel L M a w hL hM hLM hl hr hq
  have hall := ziz hdi (by rw [zbg]; exact hM) hr
  rw [zbg] at hall
  have hmem : ops.size - 1 ∈ Region.ready .any ops L := zdz (by omega) (by omega) hl (fun j hj => by
   have h1 := List.all_eq_true.1 hdep (ops.size - 1) (List.mem_range.2 (by omega))
   have hlt := of_decide_eq_true (List.all_eq_true.1 h1 _ hj)
   rw [← hLM j hlt]
   exact hall j hlt)
  refine ⟨fun hnil => (by rw [hnil] at hmem; cases hmem), fun i hi => ?_⟩
  obtain ⟨h1, h2, _⟩ := zbX hi
  have hin : i = ops.size - 1 := by
   by_cases e : i = ops.size - 1
   ·exact e
   ·rw [zdS (by omega), ← hLM i (by omega), hall i (by omega)] at h2
    cases h2
  subst hin
  refine wpOp_mono (fun a' w' hq' => done fuel _ a' w' (by simp [hL]) (fun j hj => ?_) hq') hq
  have hjl : j < L.size := by omega
  by_cases e : j = ops.size - 1
  ·subst e
   simp [Array.getD, hjl]
  ·have e2 : ops.size - 1 ≠ j := fun h => e h.symm
   have := (hLM j (by omega)).symm.trans (hall j (by omega))
   simp [Array.getD, hjl] at this
   simp [Array.getD, hjl, Array.getElem_setIfInBounds, e2, this]
 intro fuel
 induction fuel with
 | zero =>
  intro L M a w hL hM hLM hl h
  exact final 0 L M a w hL hM hLM hl h.1 h.2
 | succ f ih =>
  intro L M a w hL hM hLM hl h
  by_cases hr : Region.ready .any (zbo ops) M = []
  ·exact final (f + 1) L M a w hL hM hLM hl hr (h.1 hr)
  ·obtain ⟨x, hx⟩ := List.exists_mem_of_ne_nil _ hr
   obtain ⟨x1, x2, x3⟩ := zbX hx
   rw [zbg] at x1
   rw [zcN ops x x1] at x3
   rw [zdS (by omega)] at x2
   have hxr : x ∈ Region.ready .any ops L := zdz (by omega) (by omega) (by rw [← hLM x x1]; exact x2) (fun j hj => by
    have h1 := List.all_eq_true.1 hdep x (List.mem_range.2 (by omega))
    have hlt := of_decide_eq_true (List.all_eq_true.1 h1 _ hj)
    rw [← hLM j (by omega)]
    exact x3 j hj)
   refine ⟨fun hnil => (by rw [hnil] at hxr; cases hxr), fun i hi => ?_⟩
   obtain ⟨h1, h2, h3⟩ := zbX hi
   have hin : i < ops.size - 1 := by
    by_cases e : i = ops.size - 1
    ·subst e
     have hxm := List.all_eq_true.1 hlast x (List.mem_range.2 x1)
     have h4 := h3 x (by simpa using hxm)
     dsimp only at h4
     rw [← hLM x x1, x2] at h4
     cases h4
    ·omega
   have hii : i ∈ Region.ready .any (zbo ops) M := zdz (by rw [zbg]; exact hin) (by omega) (by rw [hLM i hin]; rw [zdS (by omega)] at h2; exact h2) (fun j hj => by
    rw [zcN ops i hin] at hj
    have h5 := List.all_eq_true.1 hdep i (List.mem_range.2 h1)
    have hlt := of_decide_eq_true (List.all_eq_true.1 h5 _ hj)
    rw [hLM j (by omega)]
    exact h3 j hj)
   have hop := h.2 i hii
   have hK : ∀ a' w', (S w' ∧ wpAnyH P .any (zbo ops) (zgc P ops Q) S f (M.setIfInBounds i true) a' w') → wpAny P .any ops Q (f + 1) (L.setIfInBounds i true) a' w' := fun a' w' hk =>
    ih (L.setIfInBounds i true) (M.setIfInBounds i true) a' w' (by simp [hL]) (by simp [hM]) (fun j hj => by
     have hjl : j < L.size := by omega
     have hjm : j < M.size := by omega
     have := hLM j hj
     simp [Array.getD, hjl, hjm] at this
     by_cases e : i = j
     ·subst e
      simp [Array.getD, hjl, hjm]
     ·simp [Array.getD, hjl, hjm, Array.getElem_setIfInBounds, e, this]) (by
     have hjl : ops.size - 1 < L.size := by omega
     have e : i ≠ ops.size - 1 := by omega
     simp [Array.getD, hjl] at hl
     simp [Array.getD, hjl, Array.getElem_setIfInBounds, e, hl]) hk.2
   unfold wpOp at hop ⊢
   rw [zeP ops i hin] at hop
   cases hoi : ops[i]? with
   | none =>
    rw [hoi] at hop
    exact hK _ _ hop
   | some o =>
    rw [hoi] at hop
    dsimp only at hop ⊢
    by_cases hw : Region.wanted o (yielded ops a.tmps) = true
    ·have hwi : Region.wanted o (yielded (zbo ops) a.tmps) = true := by rw [← zdA ops hg i o hoi a.tmps]; exact hw
     rw [if_pos hwi] at hop
     rw [if_pos hw]
     rcases hop with h6 | ⟨_, h6⟩
     ·exact .inl (zgd (Oper.wp_mono hK h6))
     ·exact (zfg h6).elim
    ·have hwi : ¬ Region.wanted o (yielded (zbo ops) a.tmps) = true := by rw [← zdA ops hg i o hoi a.tmps]; exact hw
     rw [if_neg hwi] at hop
     rw [if_neg hw]
     exact hK _ _ hop
theorem zci (S : World → Prop) (plan : Plan) {id : Nat} {a : Act} {w : World} (hS : S w.drew) (hm : P.follows .mixedOrders = true) (hs : Region.noSelect (zbo ops) = true) (hg : zeQ ops = true) (hn : 0 < ops.size) (hdep : (List.range ops.size).all (fun i => (zbz ops i).all (fun j => decide (j < i))) = true) (hlast : (List.range (ops.size - 1)).all (fun j => (zbz ops (ops.size - 1)).contains j) = true)
  (hlen : plan.size = (zbo ops).size) (hp : zcB (zbo ops) plan (Array.replicate (zbo ops).size false) = true) (h : za1 P (zbo ops) (zgc P ops Q) plan S a w.drew) : (Code.region id ops true).wp P Q a w := by
 refine wp_region_any hm ?_
 have h1 := zba hs (fun _ _ _ _ _ h => h) plan S _ a w.drew hS hp h
 rw [hlen, zbg] at h1
 have h2 := zmD (Q := Q) (S := S) hg hn hdep hlast (ops.size - 1) (Array.replicate ops.size false) (Array.replicate (ops.size - 1) false) a w.drew (by simp) (by simp) (fun i hi => by
  have : i < ops.size := by omega
  simp [Array.getD, hi, this]) (by
  have : ops.size - 1 < ops.size := by omega
  simp [Array.getD, this]) h1
 rw [show ops.size - 1 + 1 = ops.size by omega] at h2
 exact h2
theorem zb6 {S : World → Prop} {a : Act} {w : World} {o : Oper} (ho : ops[ops.size - 1]? = some o) (hw : Region.wanted o (yielded ops a.tmps) = true) (h : o.wp P a w (fun a' w' => Q .normal a' w') Q) : za1 P (zbo ops) (zgc P ops Q) .nil S a w := by
 show wpOp P ops Q (ops.size - 1) _ a w
 unfold wpOp
 simp only [ho, hw, if_true]
 exact .inl h
end
def zoh (w : World) (c : Ca) (k : Int) (e : Ending) (w' : World) : Prop := ∃ A m cap, e = .returned (.tuple #[aggC c.1 c.2.1 A m cap, .int .i64 k]) ∧ Hid (c.2.2.length = m) ∧ m ≤ cap ∧ RdU w' A c.2.2 ∧ (∀ a, A = some a → w.heap.size ≤ a.block) ∧ Below w.heap.size w w'
theorem zmE (room : Int) (w : World) : Calls Tryz.prog 34 #[.int .i64 room] w (zoh w (if 0 ≤ room ∧ room ≤ 64 then (room, 0, []) else (0, 0, [])) (if 0 ≤ room ∧ room ≤ 64 then 0 else 1)) := by
 obtain ⟨hR0, hB0⟩ := zat w 35 [.int .i64 0, .int .u64 0, .slice none 0 0] _ rfl
 by_cases h : 0 ≤ room ∧ room ≤ 64
 ·rw [if_pos h, if_pos h]
  have hd : decide (0 ≤ room ∧ room ≤ 64) = true := decide_eq_true h
  have hrm := zhN room
  rw [hd] at hrm
  clear hd h
  go_enter Tryz.func34, Tryz.ntmps34
  go_upto_region 1 with fail
  generalize w.alloc (.cells #[.int .i64 0, .int .u64 0, .slice none 0 0] 35) = w1 at hR0 hB0 ⊢
  go_wp2_with fail
  refine (hrm _).mono ?_
  rintro e w2 ⟨rfl, rfl⟩
  go_wp2_with (refine zab rfl 35 (.tmp 2) (.tmp 9) rfl w.heap.size rfl [.int .i64 room, .int .u64 0, .slice none 0 0] rfl _ _ hR0 (by exact zap) rfl (za3 room 0 none 0 0) ?_)
  refine bodyPost_ret (zag (p := 2) (u := 3) (ty := 35) (by rfl) _ _ w.heap.size 35 _ _ (by rfl) (by exact hR0.setRow _) Tryz.underlying35 (by rfl) (by exact zap)) (by rfl) ?_
  exact ⟨none, 0, 0, rfl, rfl, Nat.le_refl _, RdU.nil, (fun a ha => by cases ha), below_setRow hB0 (Nat.le_refl _) _⟩
 ·rw [if_neg h, if_neg h]
  have hd : decide (0 ≤ room ∧ room ≤ 64) = false := decide_eq_false h
  have hrm := zhN room
  rw [hd] at hrm
  clear hd h
  go_enter Tryz.func34, Tryz.ntmps34
  go_upto_region 1 with fail
  generalize w.alloc (.cells #[.int .i64 0, .int .u64 0, .slice none 0 0] 35) = w1 at hR0 hB0 ⊢
  go_wp2_with fail
  refine (hrm _).mono ?_
  rintro e w2 ⟨rfl, rfl⟩
  go_wp2_with (refine zab rfl 35 (.tmp 2) (.tmp 7) rfl w.heap.size rfl [.int .i64 0, .int .u64 0, .slice none 0 0] rfl _ _ hR0 (by exact zap) rfl (za3 0 0 none 0 0) ?_)
  refine bodyPost_ret (zag (p := 2) (u := 3) (ty := 35) (by rfl) _ _ w.heap.size 35 _ _ (by rfl) (by exact hR0.setRow _) Tryz.underlying35 (by rfl) (by exact zap)) (by rfl) ?_
  exact ⟨none, 0, 0, rfl, rfl, Nat.le_refl _, RdU.nil, (fun a ha => by cases ha), below_setRow hB0 (Nat.le_refl _) _⟩
structure HasC (B : Nat) (w0 : World) (b r : Nat) (room : Int) (fl : Nat) (l : List Us) (A : Option Addr) (c : Nat) (W : World) : Prop where
 box : Row W b 35 [.int .i64 room, .int .u64 (fl : Int), .slice A l.length c]
 out : Row W r 35 [.int .i64 0, .int .u64 0, .slice none 0 0]
 own : W.ownsRow B 57 3 (.slice A l.length c) l.length (zar l)
 cap : l.length ≤ c
 below : Below w0.heap.size w0 W
 size : B ≤ W.heap.size
theorem HasC.later {B : Nat} {w0 : World} {b r : Nat} {room : Int} {fl : Nat} {l : List Us} {A : Option Addr} {c : Nat} {W W' : World} (h : HasC B w0 b r room fl l A c W) (hb : Below W.heap.size W W') : HasC B w0 b r room fl l A c W' :=
 ⟨h.box.later hb, h.out.later hb, zbh h.own hb, h.cap, zaa h.below hb, Nat.le_trans h.size hb.size⟩
theorem HasC.rd {B : Nat} {w0 : World} {b r : Nat} {room : Int} {fl : Nat} {l : List Us} {A : Option Addr} {c : Nat} {W : World} (h : HasC B w0 b r room fl l A c W) : RdU W A l := RdU.own h.own
theorem HasC.ret {B : Nat} {w0 : World} {b r : Nat} {room : Int} {fl : Nat} {l : List Us} {A : Option Addr} {c : Nat} {W : World} (h : HasC B w0 b r room fl l A c W) (k : Int) (hr : w0.heap.size ≤ r) (hr3 : r < B) :
  zoh w0 (room, fl, l) k (.returned (.tuple #[aggC room fl A l.length c, .int .i64 k])) (W.setRow r #[.int .i64 room, .int .u64 (fl : Int), .slice A l.length c]) :=
 ⟨A, l.length, c, rfl, rfl, h.cap, RdU.own (zaT (w' := W.setRow r _) h.own (fun b hb _ => Go.setRow_other W _ b _ (by omega))), (fun a ha => by
  have := (h.own.lt a.block (by rw [ha]; rfl)).1
  omega), below_setRow h.below hr _⟩
theorem zmF (room : Int) (fl : Nat) (l : List Us) (g0 g1 g2 n c : Nat) (A : Option Addr) (w : World) (HN : Hid (l.length = n)) (hr : RdU w A l) (HF : Hid (fitU l)) (HG : Hid (zcF (g0, g1, g2))) (hn : n ≤ 1000000) :
  Calls Tryz.prog 84 #[aggC room fl A n c, .agg #[.int .u64 (g0 : Int), .int .u64 (g1 : Int), .int .u64 (g2 : Int)]] w (zoh w (putC (room, fl, l) (g0, g1, g2)).1 (putC (room, fl, l) (g0, g1, g2)).2) := by
 have e1 := HN.out
 subst e1
 clear HN
 obtain ⟨P, hP⟩ : ∃ P, P = putC (room, fl, l) (g0, g1, g2) := ⟨_, rfl⟩
 rw [← hP]
 have HP := Lib.hid hP
 clear hP
 have hR0 : Row (((w.alloc (.cells #[.int .i64 room, .int .u64 (fl : Int), .slice A l.length c] 35)).alloc (.cells #[.int .u64 (g0 : Int), .int .u64 (g1 : Int), .int .u64 (g2 : Int)] 57)).alloc (.cells #[.int .i64 0, .int .u64 0, .slice none 0 0] 35)) w.heap.size 35 [.int .i64 room, .int .u64 (fl : Int), .slice A l.length c] := ((Row.new w _ _ _ rfl).alloc _).alloc _
 have hR1 : Row (((w.alloc (.cells #[.int .i64 room, .int .u64 (fl : Int), .slice A l.length c] 35)).alloc (.cells #[.int .u64 (g0 : Int), .int .u64 (g1 : Int), .int .u64 (g2 : Int)] 57)).alloc (.cells #[.int .i64 0, .int .u64 0, .slice none 0 0] 35)) (w.heap.size + 1) 57 [.int .u64 (g0 : Int), .int .u64 (g1 : Int), .int .u64 (g2 : Int)] := (Row.new_at _ _ (by simp) _ _ _ rfl).alloc _
 have hR2 : Row (((w.alloc (.cells #[.int .i64 room, .int .u64 (fl : Int), .slice A l.length c] 35)).alloc (.cells #[.int .u64 (g0 : Int), .int .u64 (g1 : Int), .int .u64 (g2 : Int)] 57)).alloc (.cells #[.int .i64 0, .int .u64 0, .slice none 0 0] 35)) (w.heap.size + 1 + 1) 35 [.int .i64 0, .int .u64 0, .slice none 0 0] := Row.new_at _ _ (by simp) _ _ _ rfl
 have hB0 := zak (zak (zak (Below.refl _ w) (.cells #[.int .i64 room, .int .u64 (fl : Int), .slice A l.length c] 35)) (.cells #[.int .u64 (g0 : Int), .int .u64 (g1 : Int), .int .u64 (g2 : Int)] 57)) (.cells #[.int .i64 0, .int .u64 0, .slice none 0 0] 35)
 unfold aggC
 go_enter Tryz.func84, Tryz.ntmps84
 go_upto_region 1 with fail
 generalize ((w.alloc (.cells #[.int .i64 room, .int .u64 (fl : Int), .slice A l.length c] 35)).alloc (.cells #[.int .u64 (g0 : Int), .int .u64 (g1 : Int), .int .u64 (g2 : Int)] 57)).alloc (.cells #[.int .i64 0, .int .u64 0, .slice none 0 0] 35) = w1 at hR0 hR1 hR2 hB0 ⊢
 have hs1 : w.heap.size + 3 ≤ w1.heap.size := hR2.lt
 have c0 := hR0.cell (i := 0) rfl
 have c1 := hR0.cell (i := 1) rfl
 have c2 := hR0.cell (i := 2) rfl
 have hcl := zdR room fl l l.length c A w1 (Lib.hid rfl) (hr.keep hB0) (by omega)
 unfold aggC at hcl
 have HCL := Lib.hid hcl
 clear hcl
 go_wp2_with fail
 refine HCL.out.mono ?_
 rintro e w2 ⟨A2, d2, rfl, hd2, hown2, hb2⟩
 unfold aggC
 have hR0' := hR0.later hb2
 have hH : HasC (w.heap.size + 3) w w.heap.size (w.heap.size + 1 + 1) room fl l A2 d2 (w2.setRow w.heap.size #[.int .i64 room, .int .u64 (fl : Int), .slice A2 l.length d2]) :=
  ⟨hR0'.setRow [.int .i64 room, .int .u64 (fl : Int), .slice A2 l.length d2], (hR2.later hb2).setRow_other (by omega) _, zdy (zaT (w' := w2.setRow w.heap.size _) hown2 (fun b hb _ => Go.setRow_other w2 _ b _ (by omega))) (by omega), hd2, below_setRow (zaa hB0 hb2) (Nat.le_refl _) _, by have := hb2.size; simp; omega⟩
 have hU : Row (w2.setRow w.heap.size #[.int .i64 room, .int .u64 (fl : Int), .slice A2 l.length d2]) (w.heap.size + 1) 57 [.int .u64 (g0 : Int), .int .u64 (g1 : Int), .int .u64 (g2 : Int)] := (hR1.later hb2).setRow_other (by omega) _
 go_upto_region 2 with (refine zab rfl 35 (.tmp 2) (.tmp 9) rfl w.heap.size rfl [.int .i64 room, .int .u64 (fl : Int), .slice A2 l.length d2] rfl _ _ hR0' (by exact zap) rfl (za3 room fl A2 l.length d2) ?_)
 clear hR0 hR1 hR2 hB0 hR0' hown2 hb2 c0 c1 c2 HCL hs1 hr
 generalize w2.setRow w.heap.size #[.int .i64 room, .int .u64 (fl : Int), .slice A2 l.length d2] = w3 at hH hU ⊢
 have c0 := hH.box.cell (i := 0) rfl
 have c1 := hH.box.cell (i := 1) rfl
 have c2 := hH.box.cell (i := 2) rfl
 have hrt := zeu room fl l l.length d2 A2 w3 (Lib.hid rfl) hH.rd HF (by omega)
 unfold aggC at hrt
 have HRT := Lib.hid hrt
 have HH3 := Lib.hid hH
 clear hrt hH
 go_wp2_with fail
 refine HRT.out.mono ?_
 rintro e w4 ⟨rfl, hb4⟩
 have HH4 := Lib.hid (HH3.out.later hb4)
 replace hU := hU.later hb4
 clear HH3 HRT hb4 c0 c1 c2
 cases hrt : zby (room, fl, l) with
 | false =>
  have HP2 : Hid (P = ((room, fl, l), 1)) := by unfold Hid; rw [HP.out]; unfold putC; rw [hrt, if_pos rfl]
  obtain rfl := HP2.out
  have HH := HH4.out
  clear hrt HP HH4
  go_wp2_with (first
   | (refine zac rfl 35 (.tmp 2) rfl w.heap.size 0 rfl _ _ HH.box [.int .i64 room, .int .u64 (fl : Int), .slice A2 l.length d2] (by rfl) _ Tryz.underlying35 rfl (by exact zap) ?_)
   | (refine zab rfl 35 (.tmp 4) (.tmp 13) rfl (w.heap.size + 1 + 1) rfl [.int .i64 room, .int .u64 (fl : Int), .slice A2 l.length d2] rfl _ _ HH.out (by exact zap) rfl (za3 room fl A2 l.length d2) ?_))
  refine bodyPost_ret (zag (p := 4) (u := 5) (ty := 35) (by rfl) _ _ (w.heap.size + 1 + 1) 35 _ _ (by rfl) (by exact HH.out.setRow _) Tryz.underlying35 (by rfl) (by exact zap)) (by rfl) ?_
  exact HH.ret 1 (by omega) (by omega)
 | true =>
  have hsrt : Hid (zcY l = true) := (zd8 l).2 (zct.1 hrt).2.2.2
  have HLE : Hid ((l.length : Int) ≤ room) := (zct.1 hrt).2.1
  have hcs := ze7 (room, fl, l) (g0, g1, g2) hrt
  dsimp only at hcs
  have c0 := HH4.out.box.cell (i := 0) rfl
  have c1 := HH4.out.box.cell (i := 1) rfl
  have c2 := HH4.out.box.cell (i := 2) rfl
  have k0 := hU.cell (i := 0) rfl
  have k1 := hU.cell (i := 1) rfl
  have k2 := hU.cell (i := 2) rfl
  have hse := zjC l (g0, g1, g2) l.length d2 A2 w4 (Lib.hid rfl) HH4.out.rd HF HG hsrt (by omega)
  unfold aggU vNU at hse
  have HSE := Lib.hid hse
  clear hse hrt
  go_wp2_with fail
  refine HSE.out.mono ?_
  clear HSE
  rintro e w5 ⟨⟨i, hin, hpl, rfl⟩, hb5⟩
  have HH5 := Lib.hid (HH4.out.later hb5)
  replace hU := hU.later hb5
  clear HH4 hb5 c0 c1 c2 k0 k1 k2
  have c0 := HH5.out.box.cell (i := 0) rfl
  have c1 := HH5.out.box.cell (i := 1) rfl
  have c2 := HH5.out.box.cell (i := 2) rfl
  have k2 := hU.cell (i := 2) rfl
  rcases hcs with ⟨h1, hpt⟩ | ⟨h1, hm, hpt⟩ | ⟨h1, hm, h2, hpt⟩ | ⟨h1, hm, h2, hpt⟩
  ·have HP2 : Hid (P = ((room, fl, l), 10)) := by unfold Hid; rw [HP.out, hpt]
   obtain rfl := HP2.out
   have HH := HH5.out
   have h1i : (g2 : Int) < (fl : Int) := by omega
   clear hpt HP HH5 hpl
   go_wp2_with (first
    | (refine zac rfl 35 (.tmp 2) rfl w.heap.size 0 rfl _ _ HH.box [.int .i64 room, .int .u64 (fl : Int), .slice A2 l.length d2] (by rfl) _ Tryz.underlying35 rfl (by exact zap) ?_)
    | (refine zab rfl 35 (.tmp 4) (.tmp 27) rfl (w.heap.size + 1 + 1) rfl [.int .i64 room, .int .u64 (fl : Int), .slice A2 l.length d2] rfl _ _ HH.out (by exact zap) rfl (za3 room fl A2 l.length d2) ?_))
   refine bodyPost_ret (zag (p := 4) (u := 5) (ty := 35) (by rfl) _ _ (w.heap.size + 1 + 1) 35 _ _ (by rfl) (by exact HH.out.setRow _) Tryz.underlying35 (by rfl) (by exact zap)) (by rfl) ?_
   exact HH.ret 10 (by omega) (by omega)
  ·have HP2 : Hid (P = ((room, fl, l), 11)) := by unfold Hid; rw [HP.out, hpt]
   obtain rfl := HP2.out
   have hh : hasU l (g0, g1, g2) = true := by unfold hasU; exact decide_eq_true hm
   rw [hh]
   have HH := HH5.out
   have h1i : ¬ (g2 : Int) < (fl : Int) := by omega
   clear hpt HP HH5 hpl hh hm
   go_wp2_with (first
    | (refine zac rfl 35 (.tmp 2) rfl w.heap.size 0 rfl _ _ HH.box [.int .i64 room, .int .u64 (fl : Int), .slice A2 l.length d2] (by rfl) _ Tryz.underlying35 rfl (by exact zap) ?_)
    | (refine zab rfl 35 (.tmp 4) (.tmp 30) rfl (w.heap.size + 1 + 1) rfl [.int .i64 room, .int .u64 (fl : Int), .slice A2 l.length d2] rfl _ _ HH.out (by exact zap) rfl (za3 room fl A2 l.length d2) ?_))
   refine bodyPost_ret (zag (p := 4) (u := 5) (ty := 35) (by rfl) _ _ (w.heap.size + 1 + 1) 35 _ _ (by rfl) (by exact HH.out.setRow _) Tryz.underlying35 (by rfl) (by exact zap)) (by rfl) ?_
   exact HH.ret 11 (by omega) (by omega)
  ·have HP2 : Hid (P = ((room, fl, l), 12)) := by unfold Hid; rw [HP.out, hpt]
   obtain rfl := HP2.out
   have hh : hasU l (g0, g1, g2) = false := by unfold hasU; exact decide_eq_false hm
   rw [hh]
   have hrl : room = (l.length : Int) := by have := HLE.out; omega
   subst hrl
   have HH := HH5.out
   have h1i : ¬ (g2 : Int) < (fl : Int) := by omega
   clear hpt HP HH5 hpl hh hm HLE h2
   go_wp2_with (first
    | (refine zac rfl 35 (.tmp 2) rfl w.heap.size 0 rfl _ _ HH.box [.int .i64 (l.length : Int), .int .u64 (fl : Int), .slice A2 l.length d2] (by rfl) _ Tryz.underlying35 rfl (by exact zap) ?_)
    | (refine zab rfl 35 (.tmp 4) (.tmp 38) rfl (w.heap.size + 1 + 1) rfl [.int .i64 (l.length : Int), .int .u64 (fl : Int), .slice A2 l.length d2] rfl _ _ HH.out (by exact zap) rfl (za3 (l.length : Int) fl A2 l.length d2) ?_))
   refine bodyPost_ret (zag (p := 4) (u := 5) (ty := 35) (by rfl) _ _ (w.heap.size + 1 + 1) 35 _ _ (by rfl) (by exact HH.out.setRow _) Tryz.underlying35 (by rfl) (by exact zap)) (by rfl) ?_
   exact HH.ret 12 (by omega) (by omega)
  ·have HP2 : Hid (P = ((room, fl, insU l (g0, g1, g2)), 0)) := by unfold Hid; rw [HP.out, hpt]
   obtain rfl := HP2.out
   have hh : hasU l (g0, g1, g2) = false := by unfold hasU; exact decide_eq_false hm
   rw [hh]
   have h1i : ¬ (g2 : Int) < (fl : Int) := by omega
   have hrl : ¬ ((l.length : Int) = room) := by omega
   have HI : Hid (insU l (g0, g1, g2) = l.take i ++ (g0, g1, g2) :: l.drop i) := zmh hpl hin
   have k0 := hU.cell (i := 0) rfl
   have k1 := hU.cell (i := 1) rfl
   obtain ⟨hRg, hBg⟩ := zat w5 57 [.int .u64 (g0 : Int), .int .u64 (g1 : Int), .int .u64 (g2 : Int)] _ rfl
   have HH6 := Lib.hid (HH5.out.later hBg)
   have hne : ∀ a, A2 = some a → a.block ≠ w5.heap.size := fun a ha => by
    have := (HH5.out.own.lt a.block (by rw [ha]; rfl)).2
    omega
   have hins := zjz l (g0, g1, g2) i l.length d2 w5.heap.size (w.heap.size + 3) A2 (w5.alloc (.cells #[.int .u64 (g0 : Int), .int .u64 (g1 : Int), .int .u64 (g2 : Int)] 57)) (Lib.hid rfl) HH6.out.own HH6.out.cap hRg hne hin (by omega) HH6.out.size
   have HINS := Lib.hid hins
   clear hpt HP hpl hh hm HH5 hBg hne hins h2
   go_wp2_with fail
   refine HINS.out.mono ?_
   clear HINS
   rintro e w7 ⟨A7, d7, rfl, hd7, hown7, hb7⟩
   rw [← HI.out] at hown7 hd7 ⊢
   have hR0 := HH6.out.box.keep hb7 (by omega)
   have hR2 := HH6.out.out.keep hb7 (by omega)
   have hB7 : Below w.heap.size w w7 := HH6.out.below.trans (hb7.mono (by omega))
   have hs7 := Nat.le_trans HH6.out.size hb7.size
   have f2 := hR0.frozen 2
   have k2' : w7.cell? ⟨w.heap.size, 2, none⟩ = some (.slice A2 l.length d2) := hR0.cell rfl
   have hH : HasC (w.heap.size + 3) w w.heap.size (w.heap.size + 1 + 1) room fl (insU l (g0, g1, g2)) A7 d7 (w7.setCell ⟨w.heap.size, 2, none⟩ (.slice A7 (insU l (g0, g1, g2)).length d7)) :=
    ⟨hR0.setCell 2 _, hR2.setCell_other (p := ⟨w.heap.size, 2, none⟩) (by show w.heap.size + 1 + 1 ≠ w.heap.size; omega) _, zaT (w' := w7.setCell ⟨w.heap.size, 2, none⟩ _) hown7 (fun b hb _ => Below.heap_setCell w7 ⟨w.heap.size, 2, none⟩ _ b (by show b ≠ w.heap.size; omega)), hd7, hB7.setCell (p := ⟨w.heap.size, 2, none⟩) (Nat.le_refl _) _, by simpa using hs7⟩
   clear hRg hb7 hown7 HH6 c0 c1 c2 k0 k1 k2 hU hB7
   go_upto_region 12 with fail
   clear hR0 hR2 f2 k2'
   generalize w7.setCell ⟨w.heap.size, 2, none⟩ (.slice A7 (insU l (g0, g1, g2)).length d7) = w8 at hH ⊢
   have HH := hH
   clear hH
   go_wp2_with (first
    | (refine zac rfl 35 (.tmp 2) rfl w.heap.size 0 rfl _ _ HH.box [.int .i64 room, .int .u64 (fl : Int), .slice A7 (insU l (g0, g1, g2)).length d7] (by rfl) _ Tryz.underlying35 rfl (by exact zap) ?_)
    | (refine zab rfl 35 (.tmp 4) (.tmp 46) rfl (w.heap.size + 1 + 1) rfl [.int .i64 room, .int .u64 (fl : Int), .slice A7 (insU l (g0, g1, g2)).length d7] rfl _ _ HH.out (by exact zap) rfl (za3 room fl A7 (insU l (g0, g1, g2)).length d7) ?_))
   refine bodyPost_ret (zag (p := 4) (u := 5) (ty := 35) (by rfl) _ _ (w.heap.size + 1 + 1) 35 _ _ (by rfl) (by exact HH.out.setRow _) Tryz.underlying35 (by rfl) (by exact zap)) (by rfl) ?_
   exact HH.ret 0 (by omega) (by omega)
theorem zjD (room : Int) (fl : Nat) (l : List Us) (flo n c : Nat) (A : Option Addr) (w : World) (HN : Hid (l.length = n)) (hr : RdU w A l) (HF : Hid (fitU l)) (hn : n ≤ 1000000) :
  Calls Tryz.prog 83 #[aggC room fl A n c, .int .u64 (flo : Int)] w (zoh w (zbi (room, fl, l) flo).1 (zbi (room, fl, l) flo).2) := by
 have e1 := HN.out
 subst e1
 clear HN
 obtain ⟨P, hP⟩ : ∃ P, P = zbi (room, fl, l) flo := ⟨_, rfl⟩
 rw [← hP]
 have HP := Lib.hid hP
 clear hP
 have hR0 : Row ((w.alloc (.cells #[.int .i64 room, .int .u64 (fl : Int), .slice A l.length c] 35)).alloc (.cells #[.int .i64 0, .int .u64 0, .slice none 0 0] 35)) w.heap.size 35 [.int .i64 room, .int .u64 (fl : Int), .slice A l.length c] := (Row.new w _ _ _ rfl).alloc _
 have hR2 : Row ((w.alloc (.cells #[.int .i64 room, .int .u64 (fl : Int), .slice A l.length c] 35)).alloc (.cells #[.int .i64 0, .int .u64 0, .slice none 0 0] 35)) (w.heap.size + 1) 35 [.int .i64 0, .int .u64 0, .slice none 0 0] := Row.new_at _ _ (by simp) _ _ _ rfl
 have hB0 := zak (zak (Below.refl _ w) (.cells #[.int .i64 room, .int .u64 (fl : Int), .slice A l.length c] 35)) (.cells #[.int .i64 0, .int .u64 0, .slice none 0 0] 35)
 unfold aggC
 go_enter Tryz.func83, Tryz.ntmps83
 go_upto_region 1 with fail
 generalize (w.alloc (.cells #[.int .i64 room, .int .u64 (fl : Int), .slice A l.length c] 35)).alloc (.cells #[.int .i64 0, .int .u64 0, .slice none 0 0] 35) = w1 at hR0 hR2 hB0 ⊢
 have hs1 : w.heap.size + 2 ≤ w1.heap.size := hR2.lt
 have c0 := hR0.cell (i := 0) rfl
 have c1 := hR0.cell (i := 1) rfl
 have c2 := hR0.cell (i := 2) rfl
 have hcl := zdR room fl l l.length c A w1 (Lib.hid rfl) (hr.keep hB0) (by omega)
 unfold aggC at hcl
 have HCL := Lib.hid hcl
 clear hcl
 go_wp2_with fail
 refine HCL.out.mono ?_
 rintro e w2 ⟨A2, d2, rfl, hd2, hown2, hb2⟩
 unfold aggC
 have hR0' := hR0.later hb2
 have hH : HasC (w.heap.size + 2) w w.heap.size (w.heap.size + 1) room fl l A2 d2 (w2.setRow w.heap.size #[.int .i64 room, .int .u64 (fl : Int), .slice A2 l.length d2]) :=
  ⟨hR0'.setRow [.int .i64 room, .int .u64 (fl : Int), .slice A2 l.length d2], (hR2.later hb2).setRow_other (by omega) _, zdy (zaT (w' := w2.setRow w.heap.size _) hown2 (fun b hb _ => Go.setRow_other w2 _ b _ (by omega))) (by omega), hd2, below_setRow (zaa hB0 hb2) (Nat.le_refl _) _, by have := hb2.size; simp; omega⟩
 go_upto_region 2 with (refine zab rfl 35 (.tmp 2) (.tmp 7) rfl w.heap.size rfl [.int .i64 room, .int .u64 (fl : Int), .slice A2 l.length d2] rfl _ _ hR0' (by exact zap) rfl (za3 room fl A2 l.length d2) ?_)
 clear hR0 hR2 hB0 hR0' hown2 hb2 c0 c1 c2 HCL hs1 hr
 generalize w2.setRow w.heap.size #[.int .i64 room, .int .u64 (fl : Int), .slice A2 l.length d2] = w3 at hH ⊢
 have c0 := hH.box.cell (i := 0) rfl
 have c1 := hH.box.cell (i := 1) rfl
 have c2 := hH.box.cell (i := 2) rfl
 have hrt := zeu room fl l l.length d2 A2 w3 (Lib.hid rfl) hH.rd HF (by omega)
 unfold aggC at hrt
 have HRT := Lib.hid hrt
 have HH3 := Lib.hid hH
 clear hrt hH
 go_wp2_with fail
 refine HRT.out.mono ?_
 rintro e w4 ⟨rfl, hb4⟩
 have HH4 := Lib.hid (HH3.out.later hb4)
 clear HH3 HRT hb4 c0 c1 c2
 cases hrt : zby (room, fl, l) with
 | false =>
  have HP2 : Hid (P = ((room, fl, l), 1)) := by unfold Hid; rw [HP.out]; unfold zbi; rw [hrt, if_pos rfl]
  obtain rfl := HP2.out
  have HH := HH4.out
  clear hrt HP HH4
  go_wp2_with (first
   | (refine zac rfl 35 (.tmp 2) rfl w.heap.size 0 rfl _ _ HH.box [.int .i64 room, .int .u64 (fl : Int), .slice A2 l.length d2] (by rfl) _ Tryz.underlying35 rfl (by exact zap) ?_)
   | (refine zab rfl 35 (.tmp 4) (.tmp 11) rfl (w.heap.size + 1) rfl [.int .i64 room, .int .u64 (fl : Int), .slice A2 l.length d2] rfl _ _ HH.out (by exact zap) rfl (za3 room fl A2 l.length d2) ?_))
  refine bodyPost_ret (zag (p := 4) (u := 5) (ty := 35) (by rfl) _ _ (w.heap.size + 1) 35 _ _ (by rfl) (by exact HH.out.setRow _) Tryz.underlying35 (by rfl) (by exact zap)) (by rfl) ?_
  exact HH.ret 1 (by omega) (by omega)
 | true =>
  have HP2 : Hid (P = ((room, max fl flo, za9 (max fl flo) l), 0)) := by unfold Hid; rw [HP.out]; unfold zbi; rw [hrt, if_neg (by decide)]
  obtain rfl := HP2.out
  clear HP hrt
  have hB4 := HH4.out.below
  have hR0 := HH4.out.box
  have c1 := hR0.cell (i := 1) rfl
  have f1 := hR0.frozen 1
  have hmx : (if fl < flo then (flo : Int) else (fl : Int)) = ((max fl flo : Nat) : Int) := by split <;> omega
  have hH5 : HasC (w.heap.size + 2) w w.heap.size (w.heap.size + 1) room (max fl flo) l A2 d2 (w4.setCell ⟨w.heap.size, 1, none⟩ (.int .u64 ((max fl flo : Nat) : Int))) :=
   ⟨hR0.setCell 1 _, HH4.out.out.setCell_other (p := ⟨w.heap.size, 1, none⟩) (by show w.heap.size + 1 ≠ w.heap.size; omega) _, zaT (w' := w4.setCell ⟨w.heap.size, 1, none⟩ _) HH4.out.own (fun b hb _ => Below.heap_setCell w4 ⟨w.heap.size, 1, none⟩ _ b (by show b ≠ w.heap.size; omega)), HH4.out.cap, hB4.setCell (p := ⟨w.heap.size, 1, none⟩) (Nat.le_refl _) _, by simpa using HH4.out.size⟩
  go_upto_region 5 with fail
  clear hR0 c1 f1 hB4 HH4 hmx
  generalize w4.setCell ⟨w.heap.size, 1, none⟩ (.int .u64 ((max fl flo : Nat) : Int)) = w5 at hH5 ⊢
  generalize hM : max fl flo = M at hH5 ⊢
  have hS : w5.drew.cell? ⟨w.heap.size, 1, none⟩ = some (.int .u64 (M : Int)) ∧ w5.drew.cell? ⟨w.heap.size, 2, none⟩ = some (.slice A2 l.length d2) := ⟨hH5.box.cell rfl, hH5.box.cell rfl⟩
  refine zci (fun W => W.cell? ⟨w.heap.size, 1, none⟩ = some (.int .u64 (M : Int)) ∧ W.cell? ⟨w.heap.size, 2, none⟩ = some (.slice A2 l.length d2)) (.step 0 false (.step 1 false (.step 2 false (.step 3 false (.step 4 true (.step 5 true (.step 6 false .nil))))))) hS (by rfl) (by kernel_rfl) (by kernel_rfl) (by decide) (by kernel_rfl) (by kernel_rfl) (by kernel_rfl) (by kernel_rfl) ?_
  simp only [zbo, List.dropLast]
  have hHd : HasC (w.heap.size + 2) w w.heap.size (w.heap.size + 1) room M l A2 d2 w5.drew := hH5.later (Below.refl _ _).drew
  clear hH5 hS
  iterate 4 (refine zae rfl (by rfl) (v := ?_) ?_ ?_; rotate_left 1; (intro W hW; (try dsimp only at hW); obtain ⟨hW0, hW1⟩ := hW; go_simp <;> with_reducible rfl); simp only [List.getElem_toArray, List.getElem_cons_zero, List.getElem_cons_succ, Act.put, List.setIfInBounds_toArray, List.set_cons_zero, List.set_cons_succ])
  generalize w5.drew = wd at hHd ⊢
  refine zad rfl (by rfl) (fun K hK => ?_)
  go_simp
  refine (zf7 M _).mono ?_
  rintro e w6 ⟨gb, rfl, hgb, hcb, hb6⟩
  unfold zjt
  have hH6 := hHd.later hb6
  refine hK.out _ _ ⟨hH6.box.cell rfl, hH6.box.cell rfl⟩ ?_
  clear hK K
  have hne : ∀ a, A2 = some a → a.block ≠ gb := fun a ha => by
   have := (hHd.own.lt a.block (by rw [ha]; rfl)).2
   omega
  refine zad rfl (by rfl) (fun K hK => ?_)
  go_simp
  refine (zjB l M l.length d2 gb (w.heap.size + 2) A2 w6 (Lib.hid rfl) hH6.own hH6.cap hne (by omega) hH6.size hcb).mono ?_
  rintro e w7 ⟨A7, d7, rfl, hd7, hown7, hb7⟩
  have hR0 := hH6.box.keep hb7 (by omega)
  have hR2 := hH6.out.keep hb7 (by omega)
  have hB7 : Below w.heap.size w w7 := hH6.below.trans (hb7.mono (by omega))
  have hs7 := Nat.le_trans hH6.size hb7.size
  refine hK.out _ _ ⟨hR0.cell rfl, hR0.cell rfl⟩ ?_
  clear hK K hHd hH6 hne hcb hb6 hb7
  iterate 1 (refine zae rfl (by rfl) (v := ?_) ?_ ?_; rotate_left 1; (intro W hW; (try dsimp only at hW); obtain ⟨hW0, hW1⟩ := hW; go_simp <;> with_reducible rfl); simp only [List.getElem_toArray, List.getElem_cons_zero, List.getElem_cons_succ, Act.put, List.setIfInBounds_toArray, List.set_cons_zero, List.set_cons_succ])
  have f2 := hR0.frozen 2
  have k2' : w7.cell? ⟨w.heap.size, 2, none⟩ = some (.slice A2 l.length d2) := hR0.cell rfl
  have hH : HasC (w.heap.size + 2) w w.heap.size (w.heap.size + 1) room M (za9 M l) A7 d7 (w7.setCell ⟨w.heap.size, 2, none⟩ (.slice A7 (za9 M l).length d7)) :=
   ⟨hR0.setCell 2 _, hR2.setCell_other (p := ⟨w.heap.size, 2, none⟩) (by show w.heap.size + 1 ≠ w.heap.size; omega) _, zaT (w' := w7.setCell ⟨w.heap.size, 2, none⟩ _) hown7 (fun b hb _ => Below.heap_setCell w7 ⟨w.heap.size, 2, none⟩ _ b (by show b ≠ w.heap.size; omega)), hd7, hB7.setCell (p := ⟨w.heap.size, 2, none⟩) (Nat.le_refl _) _, by simpa using hs7⟩
  refine zb6 rfl (by rfl) ?_
  go_simp
  clear hR0 hR2 f2 k2' hown7
  generalize w7.setCell ⟨w.heap.size, 2, none⟩ (.slice A7 (za9 M l).length d7) = w8 at hH ⊢
  have HH := hH
  clear hH
  go_wp2_with (first
   | (refine zac rfl 35 (.tmp 2) rfl w.heap.size 0 rfl _ _ HH.box [.int .i64 room, .int .u64 (M : Int), .slice A7 (za9 M l).length d7] (by rfl) _ Tryz.underlying35 rfl (by exact zap) ?_)
   | (refine zab rfl 35 (.tmp 4) (.tmp 24) rfl (w.heap.size + 1) rfl [.int .i64 room, .int .u64 (M : Int), .slice A7 (za9 M l).length d7] rfl _ _ HH.out (by exact zap) rfl (za3 room M A7 (za9 M l).length d7) ?_))
  refine bodyPost_ret (zag (p := 4) (u := 5) (ty := 35) (by rfl) _ _ (w.heap.size + 1) 35 _ _ (by rfl) (by exact HH.out.setRow _) Tryz.underlying35 (by rfl) (by exact zap)) (by rfl) ?_
  rw [hM]
  exact HH.ret 0 (by omega) (by omega)
end Go.Proofs.YteljklkgdejhpaaGreatDoor
namespace Go.Proofs.YteljklkgdejhpaaGreatDoor
section
variable {t e c : Nat} {tag : List UInt8} (ht : t < 18446744073709551616) (he : e < 18446744073709551616) (hc : c < 18446744073709551616)
include ht he hc
end
end Go.Proofs.YteljklkgdejhpaaGreatDoor
namespace Go.Proofs.YteljklkgdejhpaaGreatDoor
open Go.RowKit
theorem zpg {S : List UInt8} {A : Option Addr} {g : Nat} (h : S ≠ [] → ∀ a, A = some a → a.block < g) : S ≠ [] → ∀ a, A = some a → a.block ≠ g := fun h1 a ha => Nat.ne_of_lt (h h1 a ha)
def RdS (g : Nat) (S : List UInt8) (n : Nat) (k : Int) (w : World) : Prop := ∃ A c, Row w g 186 [.slice A n c, .int .i64 k] ∧ Hid (S.length = n) ∧ n ≤ c ∧ Rd vB w A S ∧ (S ≠ [] → ∀ a, A = some a → a.block < g)
theorem zmG {P : Program} (t e : TypeId) (ht : P.underlying t = some (.slice e)) (hz : ∀ w, (sizeOf e).run P w = .ok 1 w) (A : Option Addr) (n cap k : Nat) (hk : k ≤ n) (hc : n ≤ cap) :
  ∃ A', (∀ w, (Instr.slice t (.slice A n cap) (some (.int .i64 (k : Int))) none none).run P w = .ok (.slice A' (n - k) (cap - k)) w) ∧
   (∀ {α : Type} (f : α → Value) (w : World) (l : List α), l.length = n → Rd f w A l → Rd f w A' (l.drop k)) ∧ (∀ a', A' = some a' → ∃ a, A = some a ∧ a'.block = a.block) := by
 have ht' : P.underlying t = some (.slice (P.elem t)) := by simp [Program.elem, ht]
 have he : P.elem t = e := by simp [Program.elem, ht]
 refine ⟨if cap = k then A else A.map (·.add (k * 1)), fun w => ?_, fun f w l hl h => h.drop k cap (by omega), fun a' h => ?_⟩
 ·rw [run_slice_l w t A n cap ht' .i64 (k : Int) (by omega) (by omega), he, hz]
  simp [sliced]
 ·split at h
  ·exact ⟨a', h, rfl⟩
  ·cases A with
   | none => cases h
   | some a =>
    injection h with h
    subst h
    exact ⟨a, rfl, by show (a.add (k * 1)).block = a.block; simp [Addr.add] <;> (try split) <;> rfl⟩
theorem zeR (g : Nat) (v : Value) (k e : Int) (w : World) (hR : Row w g 186 [v, .int .i64 k]) (hk : k ≠ 0) :
  Calls Tryz.prog 138 #[.pointer (some ⟨g, 0, none⟩), .int .i64 e] w fun e₁ w' => e₁ = .returned (.tuple #[]) ∧ w = w' := by
 have c1 : w.cell? ⟨g, 1, none⟩ = some (.int .i64 k) := hR.cell rfl
 have k1 : (k == 0) = false := beq_eq_false_iff_ne.2 hk
 go_enter Tryz.func138, Tryz.ntmps138
 go_wp2_with fail
 first | go_end0 | refine bodyPost_ret (results_none rfl _ _ _) rfl ?_
 exact ⟨rfl, rfl⟩
theorem zge (g : Nat) (v : Value) (e : Int) (w : World) (hR : Row w g 186 [v, .int .i64 0]) :
  Calls Tryz.prog 138 #[.pointer (some ⟨g, 0, none⟩), .int .i64 e] w fun e₁ w' => e₁ = .returned (.tuple #[]) ∧ Row w' g 186 [v, .int .i64 e] ∧ Only g w w' := by
 have c1 : w.cell? ⟨g, 1, none⟩ = some (.int .i64 0) := hR.cell rfl
 have f1 := hR.frozen 1
 go_enter Tryz.func138, Tryz.ntmps138
 go_wp2_with fail
 first | go_end0 | refine bodyPost_ret (results_none rfl _ _ _) rfl ?_
 exact ⟨rfl, hR.setCell 1 _, (Only.refl g w).setCell 1 _⟩
theorem zkr (g n : Nat) (A : Option Addr) (c : Nat) (k : Int) (m : Int) (w : World) (hR : Row w g 186 [.slice A n c, .int .i64 k]) (hk : k ≠ 0) :
  Calls Tryz.prog 163 #[.pointer (some ⟨g, 0, none⟩), .int .i64 m] w fun e₁ w' => e₁ = .returned (.slice none 0 0) ∧ w = w' := by
 have c0 : w.cell? ⟨g, 0, none⟩ = some (.slice A n c) := hR.cell rfl
 have c1 : w.cell? ⟨g, 1, none⟩ = some (.int .i64 k) := hR.cell rfl
 have k1 : (k == 0) = false := beq_eq_false_iff_ne.2 hk
 have k2 : (k != 0) = true := by rw [bne, k1]; rfl
 by_cases h : (n : Int) < m
 ·go_enter Tryz.func163, Tryz.ntmps163
  go_wp2_with fail
  refine (zeR g _ k 2 w hR hk).mono ?_
  rintro e₁ w1 ⟨rfl, rfl⟩
  go_wp2_with fail
  go_ret
  exact ⟨rfl, rfl⟩
 ·go_enter Tryz.func163, Tryz.ntmps163
  go_wp2_with fail
  go_ret
  exact ⟨rfl, rfl⟩
theorem zg5 (g : Nat) (S : List UInt8) (n m : Nat) (w : World) (h : RdS g S n 0 w) (hm : n < m) :
  Calls Tryz.prog 163 #[.pointer (some ⟨g, 0, none⟩), .int .i64 (m : Int)] w fun e₁ w' => e₁ = .returned (.slice none 0 0) ∧ RdS g S n 2 w' ∧ Only g w w' := by
 obtain ⟨A, c, hR, HN, hc, hr, hA⟩ := h
 have c0 : w.cell? ⟨g, 0, none⟩ = some (.slice A n c) := hR.cell rfl
 have i1 : (n : Int) < (m : Int) := by omega
 go_enter Tryz.func163, Tryz.ntmps163
 go_wp2_with fail
 refine (zge g _ 2 w hR).mono ?_
 rintro e₁ w1 ⟨rfl, hR1, hO⟩
 have hr1 := hr.only hO (zpg hA)
 have c0 : w1.cell? ⟨g, 0, none⟩ = some (.slice A n c) := hR1.cell rfl
 have c1 : w1.cell? ⟨g, 1, none⟩ = some (.int .i64 2) := hR1.cell rfl
 go_wp2_with fail
 go_ret
 exact ⟨rfl, ⟨A, c, hR1, HN, hc, hr1, hA⟩, hO⟩
theorem zmH (g : Nat) (S : List UInt8) (n m : Nat) (w : World) (h : RdS g S n 0 w) (hm : m ≤ n) (hn : n ≤ 1000000) :
  Calls Tryz.prog 163 #[.pointer (some ⟨g, 0, none⟩), .int .i64 (m : Int)] w fun e₁ w' => ∃ A c, e₁ = .returned (.slice A m c) ∧ m ≤ c ∧ Rd vB w' A (S.take m) ∧ RdS g (S.drop m) (n - m) 0 w' ∧ Only g w w' := by
 obtain ⟨A, c, hR, HN, hc, hr, hA⟩ := h
 have c0 : w.cell? ⟨g, 0, none⟩ = some (.slice A n c) := hR.cell rfl
 have c1 : w.cell? ⟨g, 1, none⟩ = some (.int .i64 0) := hR.cell rfl
 have f0 := hR.frozen 0
 have i1 : ¬ (n : Int) < (m : Int) := by omega
 have i0 : (0 : Int) ≤ (m : Int) := by omega
 have i2 : (m : Int) ≤ (c : Int) := by omega
 have hmc : m ≤ c := by omega
 obtain ⟨A', hsl, hcut, hA'⟩ := zmG (P := Tryz.prog) 22 5 Tryz.underlying22 za0 A n c m (by omega) (by omega)
 have hto := zcd (P := Tryz.prog) 22 5 Tryz.underlying22 za0 A n c m (by omega)
 have hO := (Only.refl g w).setCell 0 (.slice A' (n - m) (c - m))
 have hR' := hR.setCell 0 (.slice A' (n - m) (c - m))
 have hr1 := hcut vB w S HN.out hr
 have hr2 := hr.take m
 have hne : ∀ j, S.drop j ≠ [] → S ≠ [] := fun j h e => h (by rw [e, List.drop_nil])
 have hnt : ∀ j, S.take j ≠ [] → S ≠ [] := fun j h e => h (by rw [e, List.take_nil])
 have hX : RdS g (S.drop m) (n - m) 0 (w.setCell ⟨g, 0, none⟩ (.slice A' (n - m) (c - m))) := by
  refine ⟨A', c - m, hR', by unfold Hid; rw [List.length_drop, HN.out], by omega, hr1.only hO ?_, ?_⟩
  ·intro h a' ha'
   obtain ⟨a, ha, e⟩ := hA' a' ha'
   rw [e]
   exact Nat.ne_of_lt (hA (hne m h) a ha)
  ·intro h a' ha'
   obtain ⟨a, ha, e⟩ := hA' a' ha'
   rw [e]
   exact hA (hne m h) a ha
 have hY : Rd vB (w.setCell ⟨g, 0, none⟩ (.slice A' (n - m) (c - m))) A (S.take m) := hr2.only hO (fun h a ha => Nat.ne_of_lt (hA (hnt m h) a ha))
 have HX := Lib.hid (And.intro hX (And.intro hY hO))
 clear hX hY hO hR' hr1 hr2 hne hnt hA' hcut hr hA hR
 go_enter Tryz.func163, Tryz.ntmps163
 go_wp2_with fail
 go_ret
 exact ⟨A, c, rfl, hmc, HX.out.2.1, HX.out.1, HX.out.2.2⟩
theorem zph (g n : Nat) (A : Option Addr) (c : Nat) (k : Int) (w : World) (hR : Row w g 186 [.slice A n c, .int .i64 k]) (hk : k ≠ 0) :
  Calls Tryz.prog 135 #[.pointer (some ⟨g, 0, none⟩)] w fun e₁ w' => e₁ = .returned (.int .u8 0) ∧ w = w' := by
 go_enter Tryz.func135, Tryz.ntmps135
 go_wp2_with fail
 refine (zkr g n A c k 1 w hR hk).mono ?_
 rintro e₁ w1 ⟨rfl, rfl⟩
 go_wp2_with fail
 go_ret
 exact ⟨rfl, rfl⟩
theorem ziA (g : Nat) (w : World) (h : RdS g [] 0 0 w) :
  Calls Tryz.prog 135 #[.pointer (some ⟨g, 0, none⟩)] w fun e₁ w' => e₁ = .returned (.int .u8 0) ∧ RdS g [] 0 2 w' ∧ Only g w w' := by
 go_enter Tryz.func135, Tryz.ntmps135
 go_wp2_with fail
 refine (zg5 g [] 0 1 w h (by omega)).mono ?_
 rintro e₁ w1 ⟨rfl, h1, h2⟩
 go_wp2_with fail
 go_ret
 exact ⟨rfl, h1, h2⟩
theorem zmI (g : Nat) (x : UInt8) (r : List UInt8) (n : Nat) (w : World) (h : RdS g (x :: r) n 0 w) (hn : n ≤ 1000000) :
  Calls Tryz.prog 135 #[.pointer (some ⟨g, 0, none⟩)] w fun e₁ w' => e₁ = .returned (.int .u8 (x.toNat : Int)) ∧ RdS g r (n - 1) 0 w' ∧ Only g w w' := by
 have hn1 : 1 ≤ n := by
  obtain ⟨_, _, _, HN, _⟩ := h
  have := HN.out
  rw [List.length_cons] at this
  omega
 go_enter Tryz.func135, Tryz.ntmps135
 go_wp2_with fail
 refine (zmH g (x :: r) n 1 w h hn1 hn).mono ?_
 rintro e₁ w1 ⟨A, c, rfl, hmc, hr, h1, h2⟩
 have hr' : Rd vB w1 A [x] := hr
 have h1' : RdS g r (n - 1) 0 w1 := h1
 obtain ⟨b, o, rfl, hb, hc⟩ := hr'.at (show 0 < [x].length by simp)
 have hc0 : w1.cell? ⟨b, o, none⟩ = some (.int .u8 (x.toNat : Int)) := hc 0 (by simp)
 clear hr hc h1 hr'
 go_wp2_with fail
 go_ret
 exact ⟨rfl, h1', h2⟩
def RdRF (g : Nat) (k : Int) (S : List UInt8) (w : World) : Prop := ∃ S' n, RdS g S' n k w ∧ n ≤ 1000000 ∧ (k = 0 → S' = S)
theorem RdRF.below {g : Nat} {k : Int} {S : List UInt8} {w w' : World} (h : RdRF g k S w) (hb : Below (g + 1) w w') : RdRF g k S w' := by
 obtain ⟨S', n, ⟨A, c, hR, HN, hc, hr, hA⟩, hn, h2⟩ := h
 refine ⟨S', n, ⟨A, c, hR.keep hb (by omega), HN, hc, fun hne => ?_, hA⟩, hn, h2⟩
 obtain ⟨b, o, rfl, hcell⟩ := hr hne
 have hlt := hA hne _ rfl
 refine ⟨b, o, rfl, fun i hi => ?_⟩
 rw [← hcell i hi]
 exact hb.cell (p := ⟨b, o + i, none⟩) (show b < g + 1 by exact Nat.lt_succ_of_lt hlt)
theorem RdRF.lt {g : Nat} {k : Int} {S : List UInt8} {w : World} (h : RdRF g k S w) : g < w.heap.size := by
 obtain ⟨S', n, ⟨A, c, hR, _⟩, _⟩ := h
 exact hR.lt
def zeS (M : UInt8) : List UInt8 → Int × List UInt8
 | [] => (2, [])
 | x :: r => if x ≠ M then (3, []) else (0, r)
theorem zks (M : UInt8) (m : Nat) (hM : M.toNat = m) (h0 : m ≠ 0) (g : Nat) (b : List UInt8) (n : Nat) (w : World) (h : RdS g b n 0 w) (hn : n ≤ 1000000) :
  Calls Tryz.prog 133 #[.pointer (some ⟨g, 0, none⟩), .int .u8 (m : Int)] w fun e₁ w' => e₁ = .returned (.tuple #[]) ∧ RdRF g (zeS M b).1 (zeS M b).2 w' ∧ Only g w w' := by
 cases b with
 | nil =>
  have en : n = 0 := by
   obtain ⟨_, _, _, HN, _⟩ := h
   exact HN.out.symm
  subst en
  have z1 : ((0 : Int) == (m : Int)) = false := beq_eq_false_iff_ne.2 (by omega)
  have z2 : ((0 : Int) != (m : Int)) = true := by rw [bne, z1]; rfl
  go_enter Tryz.func133, Tryz.ntmps133
  go_wp2_with fail
  refine (ziA g w h).mono ?_
  rintro e₁ w1 ⟨rfl, h1, h2⟩
  go_wp2_with fail
  obtain ⟨A, c, hR, _⟩ := id h1
  refine (zeR g _ 2 3 w1 hR (by decide)).mono ?_
  rintro e₁ w2 ⟨rfl, rfl⟩
  go_wp2_with fail
  first | go_end0 | refine bodyPost_ret (results_none rfl _ _ _) rfl ?_
  exact ⟨rfl, ⟨[], 0, h1, by omega, fun h => absurd (show (2 : Int) = 0 from h) (by decide)⟩, h2⟩
 | cons x r =>
  by_cases hx : x = M
  ·have HM : Hid (zeS M (x :: r) = (0, r)) := if_neg (not_not_intro hx)
   have hO := Lib.hid (zmI g x r n w h hn)
   rw [HM.out]
   have hxm : x.toNat = m := by rw [hx]; exact hM
   rw [hxm] at hO
   clear HM hxm hx hM h
   go_enter Tryz.func133, Tryz.ntmps133
   go_wp2_with fail
   refine hO.out.mono ?_
   rintro e₁ w1 ⟨rfl, h1, h2⟩
   go_wp2_with fail
   first | go_end0 | refine bodyPost_ret (results_none rfl _ _ _) rfl ?_
   exact ⟨rfl, ⟨r, n - 1, h1, by omega, fun _ => rfl⟩, h2⟩
  ·have HM : Hid (zeS M (x :: r) = (3, [])) := if_pos hx
   have hx2 : x.toNat ≠ m := fun e => hx (UInt8.toNat_inj.1 (e.trans hM.symm))
   have hO := Lib.hid (zmI g x r n w h hn)
   rw [HM.out]
   generalize x.toNat = q at hx2 hO
   have hx3 : ((q : Int) == (m : Int)) = false := beq_eq_false_iff_ne.2 (by omega)
   have hx4 : ((q : Int) != (m : Int)) = true := by rw [bne, hx3]; rfl
   clear HM hx hM h hx2
   go_enter Tryz.func133, Tryz.ntmps133
   go_wp2_with fail
   refine hO.out.mono ?_
   rintro e₁ w1 ⟨rfl, h1, h2⟩
   obtain ⟨A, c, hR, HN, hc, hr, hA⟩ := id h1
   go_wp2_with fail
   refine (zge g _ 3 w1 hR).mono ?_
   rintro e₁ w2 ⟨rfl, hR2, h3⟩
   go_wp2_with fail
   first | go_end0 | refine bodyPost_ret (results_none rfl _ _ _) rfl ?_
   exact ⟨rfl, ⟨r, n - 1, ⟨A, c, hR2, HN, hc, hr.only h3 (zpg hA), hA⟩, by omega, fun h => absurd h (by decide)⟩, h2.trans h3⟩
def zdj (k e : Int) : Int := if k = 0 then e else k
theorem zfK (g : Nat) (k e : Int) (S : List UInt8) (w : World) (h : RdRF g k S w) :
  Calls Tryz.prog 138 #[.pointer (some ⟨g, 0, none⟩), .int .i64 e] w fun e₁ w' => e₁ = .returned (.tuple #[]) ∧ RdRF g (zdj k e) S w' ∧ Only g w w' := by
 obtain ⟨S', n, h1, hn, h2⟩ := h
 unfold zdj
 by_cases hk : k = 0
 ·rw [if_pos hk]
  have e' := h2 hk
  subst e' hk
  obtain ⟨A, c, hR, HN, hc, hr, hA⟩ := h1
  refine (zge g _ e w hR).mono ?_
  rintro e₁ w2 ⟨rfl, hR2, h3⟩
  exact ⟨rfl, ⟨S', n, ⟨A, c, hR2, HN, hc, hr.only h3 (zpg hA), hA⟩, hn, fun _ => rfl⟩, h3⟩
 ·rw [if_neg hk]
  obtain ⟨A, c, hR, _⟩ := id h1
  refine (zeR g _ k e w hR hk).mono ?_
  rintro e₁ w' ⟨rfl, rfl⟩
  exact ⟨rfl, ⟨S', n, h1, hn, fun h => absurd h hk⟩, Only.refl g w⟩
def oneK (k : Int) (S : List UInt8) : Nat × Int × List UInt8 := if k = 0 then (match S with | [] => (0, 2, []) | x :: r => (x.toNat, 0, r)) else (0, k, [])
theorem zjE (k : Int) (S : List UInt8) : (oneK k S).1 < 256 := by
 unfold oneK
 split
 ·split
  ·show 0 < 256; omega
  ·exact UInt8.toNat_lt _
 ·show 0 < 256; omega
theorem zgf (g : Nat) (k : Int) (S : List UInt8) (w : World) (h : RdRF g k S w) :
  Calls Tryz.prog 135 #[.pointer (some ⟨g, 0, none⟩)] w fun e₁ w' => e₁ = .returned (.int .u8 ((oneK k S).1 : Int)) ∧ RdRF g (oneK k S).2.1 (oneK k S).2.2 w' ∧ Only g w w' := by
 obtain ⟨S', n, h1, hn, h2⟩ := h
 unfold oneK
 by_cases hk : k = 0
 ·rw [if_pos hk]
  have e' := h2 hk
  subst e' hk
  cases S' with
  | nil =>
   have en : n = 0 := by
    obtain ⟨_, _, _, HN, _⟩ := h1
    exact HN.out.symm
   subst en
   refine (ziA g w h1).mono ?_
   rintro e₁ w1 ⟨rfl, h3, h4⟩
   exact ⟨rfl, ⟨[], 0, h3, by omega, fun h => absurd h (by decide)⟩, h4⟩
  | cons x r =>
   refine (zmI g x r n w h1 hn).mono ?_
   rintro e₁ w1 ⟨rfl, h3, h4⟩
   exact ⟨rfl, ⟨r, n - 1, h3, by omega, fun _ => rfl⟩, h4⟩
 ·rw [if_neg hk]
  obtain ⟨A, c, hR, _⟩ := id h1
  refine (zph g n A c k w hR hk).mono ?_
  rintro e₁ w' ⟨rfl, rfl⟩
  exact ⟨rfl, ⟨S', n, h1, hn, fun h => absurd h hk⟩, Only.refl g w⟩
def zcy (m : Nat) (k : Int) (S : List UInt8) : List UInt8 × Int × List UInt8 := if k = 0 then (if S.length < m then ([], 2, []) else (S.take m, 0, S.drop m)) else ([], k, [])
theorem zfL (g m : Nat) (k : Int) (S : List UInt8) (w : World) (h : RdRF g k S w) :
  Calls Tryz.prog 163 #[.pointer (some ⟨g, 0, none⟩), .int .i64 (m : Int)] w fun e₁ w' => ∃ A q c, e₁ = .returned (.slice A q c) ∧ Hid ((zcy m k S).1.length = q) ∧ q ≤ m ∧ q ≤ c ∧ Rd vB w' A (zcy m k S).1 ∧ RdRF g (zcy m k S).2.1 (zcy m k S).2.2 w' ∧ Only g w w' := by
 obtain ⟨S', n, h1, hn, h2⟩ := h
 unfold zcy
 by_cases hk : k = 0
 ·rw [if_pos hk]
  have e' := h2 hk
  subst e' hk
  have hl : S'.length = n := by
   obtain ⟨_, _, _, HN, _⟩ := h1
   exact HN.out
  by_cases hm : S'.length < m
  ·rw [if_pos hm]
   refine (zg5 g S' n m w h1 (by omega)).mono ?_
   rintro e₁ w1 ⟨rfl, h3, h4⟩
   exact ⟨none, 0, 0, rfl, Lib.hid rfl, Nat.zero_le _, Nat.le_refl _, Rd.nil, ⟨S', n, h3, hn, fun h => absurd h (by decide)⟩, h4⟩
  ·rw [if_neg hm]
   have hcap : ∃ c0 A0, Row w g 186 [.slice A0 n c0, .int .i64 0] ∧ n ≤ c0 := by
    obtain ⟨A0, c0, hR, _, hc, _⟩ := h1
    exact ⟨c0, A0, hR, hc⟩
   refine (zmH g S' n m w h1 (by omega) hn).mono ?_
   rintro e₁ w1 ⟨A, c, rfl, hc1, h5, h3, h4⟩
   exact ⟨A, m, c, rfl, Lib.hid (by rw [List.length_take]; omega), Nat.le_refl _, hc1, h5, ⟨_, n - m, h3, by omega, fun _ => rfl⟩, h4⟩
 ·rw [if_neg hk]
  obtain ⟨A, c, hR, _⟩ := id h1
  refine (zkr g n A c k m w hR hk).mono ?_
  rintro e₁ w' ⟨rfl, rfl⟩
  exact ⟨none, 0, 0, rfl, Lib.hid rfl, Nat.zero_le _, Nat.le_refl _, Rd.nil, ⟨S', n, h1, hn, fun h => absurd h hk⟩, Only.refl g w⟩
def zaH (k : Int) (S : List UInt8) : Nat × Int × List UInt8 := if k = 0 then (if S.length < 8 then (0, 2, []) else (valN (S.take 8), 0, S.drop 8)) else (0, k, [])
theorem zmJ (k : Int) (S : List UInt8) : zaH k S = ((getR (zcy 8 k S).1).1, (zcy 8 k S).2.1, (zcy 8 k S).2.2) := by
 unfold zaH zcy
 split
 ·split
  ·rfl
  ·unfold getR
   rw [if_pos (by rw [List.length_take]; omega)]
 ·rfl
theorem zpi (l : List UInt8) (n : Nat) (A : Option Addr) (cap : Nat) (w : World) (HN : Hid (l.length = n)) (hr : Rd vB w A l) (hl : n ≤ 1000000) :
  Calls Tryz.prog 162 #[.slice A n cap] w fun e w' => e = .returned (.tuple #[.int .u64 ((getR l).1 : Int), .int .i64 (getR l).2]) ∧ w = w' := by
 have e := HN.out
 subst e
 exact zmq l A cap w hr (by omega)
theorem zbb (g : Nat) (k : Int) (S : List UInt8) (w : World) (h : RdRF g k S w) :
  Calls Tryz.prog 134 #[.pointer (some ⟨g, 0, none⟩)] w fun e₁ w' => e₁ = .returned (.int .u64 ((zaH k S).1 : Int)) ∧ RdRF g (zaH k S).2.1 (zaH k S).2.2 w' ∧ Only g w w' := by
 rw [zmJ]
 have hN := Lib.hid (zfL g 8 k S w h)
 generalize zcy 8 k S = X at hN ⊢
 obtain ⟨L, k', S'⟩ := X
 dsimp only at hN ⊢
 clear h
 go_enter Tryz.func134, Tryz.ntmps134
 go_wp2_with fail
 refine hN.out.mono ?_
 rintro e₁ w1 ⟨A, q, c, rfl, HL, hq, hqc, hr, h3, h4⟩
 go_wp2_with fail
 refine (zpi L q A c w1 HL hr (by omega)).mono ?_
 rintro e₁ w2 ⟨rfl, rfl⟩
 go_wp2_with fail
 go_ret
 exact ⟨rfl, h3, h4⟩
def endK (k : Int) (S : List UInt8) : Int := if k = 0 ∧ S ≠ [] then 4 else k
theorem zkt (g : Nat) (k : Int) (S : List UInt8) (w : World) (h : RdRF g k S w) :
  Calls Tryz.prog 165 #[.pointer (some ⟨g, 0, none⟩)] w fun e₁ w' => e₁ = .returned (.tuple #[]) ∧ (∃ v, Row w' g 186 [v, .int .i64 (endK k S)]) ∧ Only g w w' := by
 obtain ⟨S', n, h1, hn, h2⟩ := h
 obtain ⟨A, c, hR, HN, hc, hr, hA⟩ := h1
 have c0 : w.cell? ⟨g, 0, none⟩ = some (.slice A n c) := hR.cell rfl
 by_cases h0 : n = 0
 ·have hE : endK k S = k := by
   unfold endK
   rw [if_neg]
   rintro ⟨h3, h4⟩
   rw [← h2 h3] at h4
   exact h4 (List.eq_nil_of_length_eq_zero (HN.out.trans h0))
  rw [hE]
  have i0 : ¬ (0 : Int) < (n : Int) := by omega
  clear h0
  go_enter Tryz.func165, Tryz.ntmps165
  go_wp2_with fail
  first | go_end0 | refine bodyPost_ret (results_none rfl _ _ _) rfl ?_
  exact ⟨rfl, ⟨_, hR⟩, Only.refl g w⟩
 ·have i0 : (0 : Int) < (n : Int) := by omega
  by_cases hk : k = 0
  ·subst hk
   have hE : endK 0 S = 4 := by
    unfold endK
    rw [if_pos]
    refine ⟨rfl, fun h4 => h0 ?_⟩
    rw [← HN.out, h2 rfl, h4]
    rfl
   rw [hE]
   clear h0
   go_enter Tryz.func165, Tryz.ntmps165
   go_wp2_with fail
   refine (zge g _ 4 w hR).mono ?_
   rintro e₁ w1 ⟨rfl, hR1, h3⟩
   go_wp2_with fail
   first | go_end0 | refine bodyPost_ret (results_none rfl _ _ _) rfl ?_
   exact ⟨rfl, ⟨_, hR1⟩, h3⟩
  ·have hE : endK k S = k := if_neg (fun h => hk h.1)
   rw [hE]
   clear h0
   go_enter Tryz.func165, Tryz.ntmps165
   go_wp2_with fail
   refine (zeR g _ k 4 w hR hk).mono ?_
   rintro e₁ w1 ⟨rfl, rfl⟩
   go_wp2_with fail
   first | go_end0 | refine bodyPost_ret (results_none rfl _ _ _) rfl ?_
   exact ⟨rfl, ⟨_, hR⟩, Only.refl g w⟩
end Go.Proofs.YteljklkgdejhpaaGreatDoor
namespace Go.Proofs.YteljklkgdejhpaaGreatDoor
def cntK (lo hi : Nat) (k : Int) (S : List UInt8) : Nat × Int × List UInt8 := if lo ≤ (oneK k S).1 ∧ (oneK k S).1 ≤ hi then oneK k S else (0, zdj (oneK k S).2.1 3, (oneK k S).2.2)
def entK (k : Int) (S : List UInt8) : En × Int × List UInt8 :=
 let t := zaH k S
 let e := zaH t.2.1 t.2.2
 let c := cntK 1 32 e.2.1 e.2.2
 let s := zcy c.1 c.2.1 c.2.2
 ((t.1, e.1, s.1), s.2.1, s.2.2)
def zb2 : Nat → Int → List UInt8 → List En × Int × List UInt8
 | 0, k, S => ([], k, S)
 | n + 1, k, S => ((entK k S).1 :: (zb2 n (entK k S).2.1 (entK k S).2.2).1, (zb2 n (entK k S).2.1 (entK k S).2.2).2)
theorem zeT {k : Int} (S : List UInt8) (h : k ≠ 0) : zaH k S = (0, k, []) := if_neg h
theorem zoi {k : Int} (S : List UInt8) (h : k ≠ 0) : oneK k S = (0, k, []) := if_neg h
theorem zcS {k : Int} (m : Nat) (S : List UInt8) (h : k ≠ 0) : zcy m k S = ([], k, []) := if_neg h
theorem zeU {k : Int} (e : Int) (h : k ≠ 0) : zdj k e = k := if_neg h
theorem zfM {k : Int} (lo hi : Nat) (S : List UInt8) (h : k ≠ 0) : cntK lo hi k S = (0, k, []) := by
 unfold cntK
 rw [zoi S h]
 dsimp only
 rw [zeU 3 h]
 split <;> rfl
theorem zoj {k : Int} (S : List UInt8) (h : k ≠ 0) : entK k S = ((0, 0, []), k, []) := by
 unfold entK
 rw [zeT S h]
 dsimp only
 rw [zeT _ h]
 dsimp only
 rw [zfM _ _ _ h]
 dsimp only
 rw [zcS _ _ h]
theorem zdT : ∀ (n : Nat) {k : Int} (S : List UInt8), k ≠ 0 → (zb2 n k S).2.1 = k
 | 0, _, _, _ => rfl
 | n + 1, k, S, h => by
  unfold zb2
  rw [zoj S h]
  exact zdT n [] h
theorem zhQ (k : Int) (S : List UInt8) : (zaH k S).1 < 18446744073709551616 := by
 unfold zaH
 split
 ·split
  ·show 0 < 18446744073709551616; omega
  ·exact zcD _ (by rw [List.length_take]; omega)
 ·show 0 < 18446744073709551616; omega
theorem zjF (lo hi : Nat) (k : Int) (S : List UInt8) : (cntK lo hi k S).1 ≤ hi := by
 unfold cntK
 split
 ·rename_i h; exact h.2
 ·exact Nat.zero_le _
theorem zok (m : Nat) (k : Int) (S : List UInt8) : (zcy m k S).1.length ≤ m := by
 unfold zcy
 split
 ·split
  ·exact Nat.zero_le _
  ·rw [List.length_take]; omega
 ·exact Nat.zero_le _
theorem zku (k : Int) (S : List UInt8) : (entK k S).1.1 < 18446744073709551616 ∧ (entK k S).1.2.1 < 18446744073709551616 ∧ (entK k S).1.2.2.length ≤ 32 := by
 unfold entK
 exact ⟨zhQ _ _, zhQ _ _, Nat.le_trans (zok _ _ _) (zjF _ _ _ _)⟩
theorem ziB : ∀ (n : Nat) (k : Int) (S : List UInt8), ∀ x ∈ (zb2 n k S).1, x.1 < 18446744073709551616 ∧ x.2.1 < 18446744073709551616 ∧ x.2.2.length ≤ 32
 | 0, _, _, x, hx => by cases hx
 | n + 1, k, S, x, hx => by
  unfold zb2 at hx
  rcases List.mem_cons.1 hx with rfl | hx
  ·exact zku k S
  ·exact ziB n _ _ x hx
theorem zmK (S : List UInt8) : entK 0 S =
  if S.length < 8 then ((0, 0, []), 2, []) else if S.length < 16 then ((valN (S.take 8), 0, []), 2, []) else if S.length < 17 then ((valN (S.take 8), valN ((S.drop 8).take 8), []), 2, [])
  else if (S.getD 16 0).toNat = 0 ∨ 32 < (S.getD 16 0).toNat then ((valN (S.take 8), valN ((S.drop 8).take 8), []), 3, []) else if S.length < 17 + (S.getD 16 0).toNat then ((valN (S.take 8), valN ((S.drop 8).take 8), []), 2, []) else (entE S, 0, S.drop (17 + (S.getD 16 0).toNat)) := by
 unfold entK
 by_cases h8 : S.length < 8
 ·rw [if_pos h8]
  have e1 : zaH 0 S = (0, 2, []) := by unfold zaH; rw [if_pos rfl, if_pos h8]
  rw [e1]
  dsimp only
  rw [zeT _ (by decide)]
  dsimp only
  rw [zfM _ _ _ (by decide)]
  dsimp only
  rw [zcS _ _ (by decide)]
 ·rw [if_neg h8]
  have e1 : zaH 0 S = (valN (S.take 8), 0, S.drop 8) := by unfold zaH; rw [if_pos rfl, if_neg h8]
  rw [e1]
  dsimp only
  by_cases h16 : S.length < 16
  ·rw [if_pos h16]
   have e2 : zaH 0 (S.drop 8) = (0, 2, []) := by unfold zaH; rw [if_pos rfl, if_pos (by rw [List.length_drop]; omega)]
   rw [e2]
   dsimp only
   rw [zfM _ _ _ (by decide)]
   dsimp only
   rw [zcS _ _ (by decide)]
  ·rw [if_neg h16]
   have e2 : zaH 0 (S.drop 8) = (valN ((S.drop 8).take 8), 0, S.drop 16) := by unfold zaH; rw [if_pos rfl, if_neg (by rw [List.length_drop]; omega), List.drop_drop]
   rw [e2]
   dsimp only
   by_cases h17 : S.length < 17
   ·rw [if_pos h17]
    have e3 : S.drop 16 = [] := List.drop_of_length_le (by omega)
    have e4 : cntK 1 32 0 [] = (0, 2, []) := rfl
    rw [e3, e4]
    dsimp only
    rw [zcS _ _ (by decide)]
   ·rw [if_neg h17]
    have e3 : S.drop 16 = S.getD 16 0 :: S.drop 17 := by
     rw [List.drop_eq_getElem_cons (by omega), List.getD_eq_getElem?_getD, List.getElem?_eq_getElem (by omega)]
     rfl
    rw [e3]
    have e4 : oneK 0 (S.getD 16 0 :: S.drop 17) = ((S.getD 16 0).toNat, 0, S.drop 17) := rfl
    by_cases hm : (S.getD 16 0).toNat = 0 ∨ 32 < (S.getD 16 0).toNat
    ·rw [if_pos hm]
     have e5 : cntK 1 32 0 (S.getD 16 0 :: S.drop 17) = (0, 3, S.drop 17) := by
      unfold cntK
      rw [e4]
      dsimp only
      rw [if_neg (by omega)]
      rfl
     rw [e5]
     dsimp only
     rw [zcS _ _ (by decide)]
    ·rw [if_neg hm]
     have e5 : cntK 1 32 0 (S.getD 16 0 :: S.drop 17) = ((S.getD 16 0).toNat, 0, S.drop 17) := by
      unfold cntK
      rw [e4]
      dsimp only
      rw [if_pos (by omega)]
     rw [e5]
     dsimp only
     unfold zcy
     rw [if_pos rfl, List.length_drop]
     by_cases hl : S.length < 17 + (S.getD 16 0).toNat
     ·rw [if_pos hl, if_pos (by omega)]
     ·rw [if_neg hl, if_neg (by omega), List.drop_drop]
      rfl
theorem ziC : ∀ (n : Nat) (S : List UInt8), if (zaR n S).2.2 = 0 then zb2 n 0 S = ((zaR n S).1, 0, (zaR n S).2.1) else (zb2 n 0 S).2.1 = (zaR n S).2.2
 | 0, S => by
  have h : (zaR 0 S).2.2 = 0 := rfl
  rw [if_pos h]
  rfl
 | n + 1, S => by
  have ez := zmK S
  by_cases h17 : S.length < 17
  ·have hk : (entK 0 S).2.1 = 2 := by
    rw [ez]
    split
    ·rfl
    ·split
     ·rfl
     ·rfl
   have er : zaR (n + 1) S = ([], [], 2) := by unfold zaR; rw [if_pos h17]
   rw [er, if_neg (by decide)]
   unfold zb2
   rw [hk]
   exact zdT n _ (by decide)
  ·rw [if_neg (by omega), if_neg (by omega), if_neg h17] at ez
   by_cases hm : (S.getD 16 0).toNat = 0 ∨ 32 < (S.getD 16 0).toNat
   ·rw [if_pos hm] at ez
    have er : zaR (n + 1) S = ([], [], 3) := by unfold zaR; rw [if_neg h17, if_pos hm]
    rw [er, if_neg (by decide)]
    unfold zb2
    rw [ez]
    dsimp only
    exact zdT n _ (by decide)
   ·rw [if_neg hm] at ez
    by_cases hl : S.length < 17 + (S.getD 16 0).toNat
    ·rw [if_pos hl] at ez
     have er : zaR (n + 1) S = ([], [], 2) := by unfold zaR; rw [if_neg h17, if_neg hm, if_pos hl]
     rw [er, if_neg (by decide)]
     unfold zb2
     rw [ez]
     dsimp only
     exact zdT n _ (by decide)
    ·rw [if_neg hl] at ez
     have ih := ziC n (S.drop (17 + (S.getD 16 0).toNat))
     unfold zb2
     rw [ez]
     dsimp only
     unfold zaR
     rw [if_neg h17, if_neg hm, if_neg hl]
     by_cases h0 : (zaR n (S.drop (17 + (S.getD 16 0).toNat))).2.2 = 0
     ·rw [if_pos h0] at ih ⊢
      rw [if_pos rfl, ih]
     ·rw [if_neg h0] at ih ⊢
      rw [if_neg h0]
      exact ih
theorem ziD : ∀ (n : Nat) (S : List UInt8), (zaR n S).2.1.length ≤ S.length
 | 0, _ => Nat.le_refl _
 | n + 1, S => by
  unfold zaR
  have ih := ziD n (S.drop (17 + (S.getD 16 0).toNat))
  rw [List.length_drop] at ih
  split
  ·exact Nat.zero_le _
  ·split
   ·exact Nat.zero_le _
   ·split
    ·exact Nat.zero_le _
    ·split
     ·dsimp only; omega
     ·exact Nat.zero_le _
theorem zmL {b S0 S1 S2 S3 : List UInt8} {k0 k1 k2 k3 : Int} {v q : Nat} {es : List En} (h0 : zeS 66 b = (k0, S0)) (h1 : zaH k0 S0 = (v, k1, S1)) (h2 : cntK 0 64 k1 S1 = (q, k2, S2)) (h3 : zb2 q k2 S2 = (es, k3, S3)) :
  if k3 = 0 then S3.length ≤ b.length ∧ zaE b = (if (zaO S3).2.2 ≠ 0 then badB (zaO S3).2.2 else if zaJ es (zaO S3).1 = true then (v, es, (zaO S3).1, b.length - S3.length + (zaO S3).2.1, 0) else badB 3) else zaE b = badB k3 := by
 have t3 : k2 ≠ 0 → k3 = k2 := fun h => by
  have := zdT q S2 h
  rw [h3] at this
  exact this
 have t2 : k1 ≠ 0 → k2 = k1 := fun h => by rw [zfM _ _ _ h] at h2; injection h2 with _ h2; injection h2 with h2 _; exact h2.symm
 have t1 : k0 ≠ 0 → k1 = k0 := fun h => by rw [zeT _ h] at h1; injection h1 with _ h1; injection h1 with h1 _; exact h1.symm
 cases b with
 | nil =>
  have e0 : (2 : Int) = k0 := congrArg Prod.fst h0
  subst e0
  have e1 := t1 (by decide)
  have e2 := t2 (by rw [e1]; decide)
  have e3 := t3 (by rw [e2, e1]; decide)
  rw [e3, e2, e1, if_neg (by decide)]
  exact zn1 [] rfl
 | cons x r =>
  unfold zeS at h0
  dsimp only at h0
  by_cases hx : x = 66
  ·subst hx
   rw [if_neg (by simp)] at h0
   injection h0 with h0 h0'
   subst h0
   subst h0'
   unfold zaH at h1
   rw [if_pos rfl] at h1
   have g0 : (66 :: r).getD 0 0 = (66 : UInt8) := rfl
   by_cases h8 : r.length < 8
   ·rw [if_pos h8] at h1
    injection h1 with _ h1
    injection h1 with h1 _
    have e2 := t2 (by rw [← h1]; decide)
    have e3 := t3 (by rw [e2, ← h1]; decide)
    rw [e3, e2, ← h1, if_neg (by decide)]
    exact zh8 _ (by simp) g0 (by rw [List.length_cons]; omega)
   ·rw [if_neg h8] at h1
    injection h1 with hv h1
    injection h1 with h1 h1'
    subst h1
    by_cases h9 : r.length < 9
    ·have eS : S1 = [] := by rw [← h1']; exact List.drop_of_length_le (by omega)
     subst eS
     have e4 : cntK 0 64 0 [] = (0, 2, []) := rfl
     rw [e4] at h2
     injection h2 with _ h2
     injection h2 with h2 _
     have e3 := t3 (by rw [← h2]; decide)
     rw [e3, ← h2, if_neg (by decide)]
     exact zh8 _ (by simp) g0 (by rw [List.length_cons]; omega)
    ·have e9 : (66 :: r).getD 9 0 = r.getD 8 0 := rfl
     have eS : S1 = r.getD 8 0 :: r.drop 9 := by
      rw [← h1', List.drop_eq_getElem_cons (by omega), List.getD_eq_getElem?_getD, List.getElem?_eq_getElem (by omega)]
      rfl
     subst eS
     have e10 : (66 :: r).drop 10 = r.drop 9 := rfl
     have e4 : oneK 0 (r.getD 8 0 :: r.drop 9) = ((r.getD 8 0).toNat, 0, r.drop 9) := rfl
     unfold cntK at h2
     rw [e4] at h2
     dsimp only at h2
     by_cases h64 : 64 < (r.getD 8 0).toNat
     ·rw [if_neg (by omega)] at h2
      injection h2 with _ h2
      injection h2 with h2 _
      have h2' : (3 : Int) = k2 := h2
      have e3 := t3 (by rw [← h2']; decide)
      rw [e3, ← h2', if_neg (by decide)]
      exact zn3 _ g0 (by rw [List.length_cons]; omega) (by rw [e9]; exact h64)
     ·rw [if_pos (by omega)] at h2
      injection h2 with hq h2
      injection h2 with h2 h2'
      subst h2
      have hb := zn4 (66 :: r) g0 (by rw [List.length_cons]; omega) (by rw [e9]; exact h64) _ rfl
      rw [e9, e10, hq, h2'] at hb
      have hr := ziC q S2
      rw [h3] at hr
      have hv' : valN (((66 :: r).drop 1).take 8) = v := hv
      rw [hv'] at hb
      by_cases hz : (zaR q S2).2.2 = 0
      ·rw [if_pos hz] at hr
       injection hr with r1 r2
       injection r2 with r2 r3
       rw [if_pos r2, hb, if_neg (fun h => h hz), r1, r3]
       refine ⟨?_, rfl⟩
       have hl := ziD q S2
       have hl2 := congrArg List.length h2'
       rw [List.length_drop] at hl2
       rw [List.length_cons]
       omega
      ·rw [if_neg hz] at hr
       dsimp only at hr
       rw [if_neg (by rw [hr]; exact hz), hb, if_pos hz, hr]
  ·rw [if_pos hx] at h0
   have e0 : (3 : Int) = k0 := congrArg Prod.fst h0
   subst e0
   have e1 := t1 (by decide)
   have e2 := t2 (by rw [e1]; decide)
   have e3 := t3 (by rw [e2, e1]; decide)
   rw [e3, e2, e1, if_neg (by decide)]
   exact zn2 _ (by simp) hx
def finK (R : Bool) (k : Int) : Int := if R = true then k else zdj k 3
theorem zmM {b S0 S1 S2 S3 : List UInt8} {k0 k1 k2 k3 : Int} {v q : Nat} {es : List En} (h0 : zeS 66 b = (k0, S0)) (h1 : zaH k0 S0 = (v, k1, S1)) (h2 : cntK 0 64 k1 S1 = (q, k2, S2)) (h3 : zb2 q k2 S2 = (es, k3, S3)) {k' : Int} {S' : List UInt8} {l : List Gn} (g1 : k3 ≠ 0 → k' = k3)
  (g2 : k3 = 0 → k' = (zaO S3).2.2 ∧ (k' = 0 → l = (zaO S3).1 ∧ S' = S3.drop (zaO S3).2.1 ∧ (zaO S3).2.1 ≤ S3.length)) :
  (finK (zaJ es l) k' ≠ 0 → zaE b = badB (finK (zaJ es l) k')) ∧ (finK (zaJ es l) k' = 0 → zaE b = (v, es, l, b.length - S'.length, 0) ∧ S'.length ≤ b.length) := by
 have hs := zmL h0 h1 h2 h3
 by_cases hk : k3 = 0
 ·rw [if_pos hk] at hs
  obtain ⟨hl, hr⟩ := hs
  obtain ⟨e1, e2⟩ := g2 hk
  by_cases hk' : k' = 0
  ·obtain ⟨f1, f2, f3⟩ := e2 hk'
   rw [hk'] at e1
   rw [if_neg (fun h => h e1.symm), ← f1] at hr
   unfold finK
   cases hR : zaJ es l with
   | true =>
    rw [if_pos rfl]
    rw [hR, if_pos rfl] at hr
    refine ⟨fun h => absurd hk' h, fun _ => ⟨?_, by rw [f2, List.length_drop]; omega⟩⟩
    rw [hr, f2, List.length_drop]
    congr 4
    omega
   | false =>
    rw [if_neg Bool.false_ne_true]
    rw [hR, if_neg Bool.false_ne_true] at hr
    have : zdj k' 3 = 3 := if_pos hk'
    rw [this]
    exact ⟨fun _ => hr, fun h => absurd h (by decide)⟩
  ·have hf : finK (zaJ es l) k' = k' := by
    unfold finK
    split
    ·rfl
    ·exact zeU 3 hk'
   rw [hf]
   rw [← e1, if_pos hk'] at hr
   exact ⟨fun _ => hr, fun h => absurd h hk'⟩
 ·rw [if_neg hk] at hs
  have e1 := g1 hk
  have hf : finK (zaJ es l) k' = k' := by
   unfold finK
   split
   ·rfl
   ·exact zeU 3 (by rw [e1]; exact hk)
  rw [hf, e1]
  exact ⟨fun _ => hs, fun h => absurd h hk⟩
theorem zmN {q k : Nat} {k2 kk : Int} {S2 S : List UInt8} {C : List En} (hk : k < q) (h : zb2 q k2 S2 = (C ++ (zb2 (q - k) kk S).1, (zb2 (q - k) kk S).2)) : zb2 q k2 S2 = ((C ++ [(entK kk S).1]) ++ (zb2 (q - (k + 1)) (entK kk S).2.1 (entK kk S).2.2).1, (zb2 (q - (k + 1)) (entK kk S).2.1 (entK kk S).2.2).2) := by
 have e : zb2 (q - k) kk S = ((entK kk S).1 :: (zb2 (q - (k + 1)) (entK kk S).2.1 (entK kk S).2.2).1, (zb2 (q - (k + 1)) (entK kk S).2.1 (entK kk S).2.2).2) := by
  rw [show q - k = (q - (k + 1)) + 1 by omega]
  rfl
 rw [h, e]
 simp
end Go.Proofs.YteljklkgdejhpaaGreatDoor
namespace Go.Proofs.YteljklkgdejhpaaGreatDoor
open Go.RowKit
def vNG (n : Nat) : Value := .int .u64 (n : Int)
def zjG (g : Gn) : List Value := [vNG g.1, vNG g.2]
def aggG (g : Gn) : Value := .agg #[vNG g.1, vNG g.2]
def zbm (l : List Gn) : List Value := l.flatMap zjG
def RdG (w : World) (A : Option Addr) (l : List Gn) : Prop :=
 l ≠ [] → ∃ b o, A = some ⟨b, o, none⟩ ∧ ∀ i (h : i < l.length), w.cell? ⟨b, o + i * 2, none⟩ = some (vNG l[i].1) ∧ w.cell? ⟨b, o + i * 2 + 1, none⟩ = some (vNG l[i].2)
theorem zcH : ∀ l : List Gn, (zbm l).length = l.length * 2
 | [] => rfl
 | x :: l => by
  have := zcH l
  unfold zbm at *
  rw [List.flatMap_cons, List.length_append, this, List.length_cons]
  simp [zjG]
  omega
theorem zfh : ∀ (l : List Gn) (i : Nat) (h : i < l.length), (zbm l)[i * 2]? = some (vNG l[i].1) ∧ (zbm l)[i * 2 + 1]? = some (vNG l[i].2)
 | x :: l, 0, _ => ⟨rfl, rfl⟩
 | x :: l, i + 1, h => by
  have ih := zfh l i (by simpa using h)
  have e : zbm (x :: l) = vNG x.1 :: vNG x.2 :: zbm l := rfl
  rw [e, show (i + 1) * 2 = i * 2 + 1 + 1 by omega, List.getElem?_cons_succ, List.getElem?_cons_succ, List.getElem?_cons_succ, List.getElem?_cons_succ]
  exact ih
theorem zk8 (l m : List Gn) : zbm (l ++ m) = zbm l ++ zbm m := by unfold zbm; rw [List.flatMap_append]
theorem zk9 : ∀ (l : List Gn), ∀ u ∈ zbm l, u.oneCell' = true := fun l u hu => by
 obtain ⟨x, _, hx⟩ := List.mem_flatMap.1 hu
 simp [zjG, vNG] at hx
 rcases hx with rfl | rfl <;> rfl
section
variable {w w' : World} {A : Option Addr} {l : List Gn}
theorem RdG.nil : RdG w A [] := fun h => absurd rfl h
theorem RdG.at (h : RdG w A l) {k : Nat} (hk : k < l.length) : ∃ b o, A = some ⟨b, o, none⟩ ∧ b < w.heap.size ∧ ∀ i (h : i < l.length), w.cell? ⟨b, o + i * 2, none⟩ = some (vNG l[i].1) ∧ w.cell? ⟨b, o + i * 2 + 1, none⟩ = some (vNG l[i].2) := by
 obtain ⟨b, o, e, hc⟩ := h (by rintro rfl; simp at hk)
 exact ⟨b, o, e, World.block_lt_of_cell? w _ (hc k hk).1, hc⟩
theorem RdG.keep (h : RdG w A l) (hb : Below w.heap.size w w') : RdG w' A l := fun hn => by
 obtain ⟨b, o, e, hc⟩ := h hn
 refine ⟨b, o, e, fun i hi => ?_⟩
 obtain ⟨h0, h1⟩ := hc i hi
 have hlt := World.block_lt_of_cell? w _ h0
 exact ⟨(hb.cell (p := ⟨b, o + i * 2, none⟩) hlt).trans h0, (hb.cell (p := ⟨b, o + i * 2 + 1, none⟩) hlt).trans h1⟩
theorem RdG.range {b o : Nat} (h : RdG w (some ⟨b, o, none⟩) l) : ∀ j u, (zbm l)[j]? = some u → w.cell? ((⟨b, o, none⟩ : Addr).add j) = some u := fun j u hu => by
 have hj : j < l.length * 2 := by
  rw [← zcH]
  exact (List.getElem?_eq_some_iff.1 hu).1
 have hi : j / 2 < l.length := by omega
 obtain ⟨b', o', e, hc⟩ := h (by rintro rfl; simp at hi)
 injection e with e
 injection e with e1 e2 _
 subst e1 e2
 obtain ⟨h0, h1⟩ := hc (j / 2) hi
 obtain ⟨g0, g1⟩ := zfh l (j / 2) hi
 have e1 : (⟨b, o, none⟩ : Addr).add j = ⟨b, o + j, none⟩ := by unfold Addr.add; split <;> simp_all
 rw [e1]
 by_cases hp : j % 2 = 0
 ·have e2 : j / 2 * 2 = j := by omega
  rw [e2] at h0 g0
  rw [h0, ← g0, hu]
 ·have e2 : j / 2 * 2 + 1 = j := by omega
  rw [Nat.add_assoc, e2] at h1
  rw [e2] at g1
  rw [h1, ← g1, hu]
theorem RdG.pair (h : RdG w A l) {k : Nat} (hk : k < l.length) : ∃ b o, A = some ⟨b, o, none⟩ ∧ b < w.heap.size ∧ w.rangeAt b (o + k * 2) (zjG l[k]) ∧ w.cell? ⟨b, o + k * 2, none⟩ = some (vNG l[k].1) ∧ w.cell? ⟨b, o + k * 2 + 1, none⟩ = some (vNG l[k].2) := by
 obtain ⟨b, o, e, hb, hc⟩ := h.at hk
 obtain ⟨h0, h1⟩ := hc k hk
 refine ⟨b, o, e, hb, fun j u hu => ?_, h0, h1⟩
 match j, hu with
 | 0, hu => injection hu with hu; subst hu; exact h0
 | 1, hu => injection hu with hu; subst hu; exact h1
theorem RdG.own {base : Nat} {e : TypeId} {n c : Nat} (h : w.ownsRow base e 2 (.slice A n c) n (zbm l)) : RdG w A l := fun hn => by
 have hl : l.length = n := by
  have := h.1
  rw [zcH] at this
  omega
 have hpos : 0 < n := by
  rcases Nat.eq_zero_or_pos n with h0 | h0
  ·exact absurd (List.eq_nil_of_length_eq_zero (by omega)) hn
  ·exact h0
 obtain ⟨g, cap, hv, _, hlt⟩ := h.form hpos
 have hA : A = some ⟨g, 0, none⟩ := by injection hv
 subst hA
 refine ⟨g, 0, rfl, fun i hi => ?_⟩
 obtain ⟨g0, g1⟩ := zfh l i hi
 have h0 := h.cells (g := g) rfl _ _ g0
 have h1 := h.cells (g := g) rfl _ _ g1
 have e1 : ∀ j, (⟨g, 0, none⟩ : Addr).add j = ⟨g, 0 + j, none⟩ := fun j => by unfold Addr.add; split <;> simp_all
 rw [e1] at h0 h1
 exact ⟨h0, h1⟩
theorem zg6 {base : Nat} {e : TypeId} {v : Value} (h : w.ownsRow base e 2 v l.length (zbm l)) : ∃ A cap, v = .slice A l.length cap ∧ l.length ≤ cap ∧ RdG w A l ∧ ∀ a, A = some a → base ≤ a.block := by
 rcases h.2 with ⟨rfl, h0⟩ | ⟨g, cap, cur, rfl, hg, _, hc, _⟩
 ·have hl : l = [] := List.eq_nil_of_length_eq_zero h0
  subst hl
  exact ⟨none, 0, rfl, Nat.le_refl _, RdG.nil, fun a h => by cases h⟩
 ·exact ⟨_, cap, rfl, hc, RdG.own h, fun a ha => by injection ha with ha; subst ha; exact hg⟩
theorem zhR {base : Nat} {e : TypeId} {v : Value} {n : Nat} {xs : List Value} (h : w.ownsRow base e 2 v n xs) (hh : ∀ b, base ≤ b → b < w.heap.size → w'.heap[b]? = w.heap[b]?) : w'.ownsRow base e 2 v n xs := by
 refine ⟨h.1, ?_⟩
 rcases h.2 with h0 | ⟨g, cap, cur, hv, hg, hc, r⟩
 ·exact .inl h0
 ·exact .inr ⟨g, cap, cur, hv, hg, (hh g hg (Array.getElem?_eq_some_iff.1 hc).1).trans hc, r⟩
theorem zde {base : Nat} {e : TypeId} {v : Value} {n : Nat} {xs : List Value} (h : w.ownsRow base e 2 v n xs) (hb : Below w.heap.size w w') : w'.ownsRow base e 2 v n xs := zhR h (fun b _ hb' => hb.block b hb')
end
theorem zmO (g : Gn) : ∀ v ∈ zjG g, v.oneCell' = true := fun v hv => by
 simp [zjG, vNG] at hv
 rcases hv with rfl | rfl <;> rfl
section
variable {P : Program} (w : World)
theorem zex (base : Nat) (t ty e : TypeId) (i : TypeInfo) (ht : P.underlying t = some (.slice e)) (hi : P.info? e = some i)
  (v : Value) (n : Nat) (xs : List Value) (hown : w.ownsRow base e 2 v n xs) (c : Nat) : (Builtin.append_ #[t, t] ty #[v, .slice none 0 c]).run P w = .ok v w := by
 rcases hown.2 with ⟨rfl, rfl⟩ | ⟨g, cap, cur, rfl, _, _, hnc, _⟩
 ·simp [Builtin.append_, run_underlying ht, sizeOf, typeInfo, hi, Builtin.lenOf, Builtin.firstCells]
 ·simp [Builtin.append_, run_underlying ht, sizeOf, typeInfo, hi, Builtin.lenOf, Builtin.firstCells, hnc, storeCells]
theorem zgO (base : Nat) (t ty e : TypeId) (i : TypeInfo) (z : Value) (bytes : Nat) (ht : P.underlying t = some (.slice e)) (hi : P.info? e = some i) (hz : i.zero = some z)
  (hsize : i.size = 2) (hby : i.bytes = bytes) (hzs : z.cells.size = 2) (v : Value) (n : Nat) (xs : List Value) (hown : w.ownsRow base e 2 v n xs)
  (A : Option Addr) (l : List Gn) (c : Nat) (hr : RdG w A l)
  (h63 : n + l.length ≤ maxLen) (hbytes : (n + l.length) * bytes ≤ 140737488355328) (hbase : base ≤ w.heap.size) :
  ∃ v' w', (Builtin.append_ #[t, t] ty #[v, .slice A l.length c]).run P w = .ok v' w' ∧ w'.ownsRow base e 2 v' (n + l.length) (xs ++ zbm l) ∧ w.grownBy w' v.ownBlock ∧ (v'.ownBlock = v.ownBlock ∨ v'.ownBlock = some w.heap.size) := by
 by_cases hl : l = []
 ·subst hl
  cases A with
  | none => exact ⟨v, w, zex w base t ty e i ht hi v n xs hown c, by simpa [zbm] using hown, ⟨rfl, rfl, rfl, Nat.le_refl _, fun _ _ _ => rfl⟩, .inl rfl⟩
  | some ad =>
   obtain ⟨v', w', hrun, h2, h3, _, h4⟩ := run_append_own_at (P := P) w base t ty e i z 2 bytes ht hi hz hsize hby hzs (by omega) v n xs hown ad 0 c [] rfl (fun j u h => by simp at h) (fun u h => by simp at h) h63 hbytes hbase
   exact ⟨v', w', hrun, h2, h3, h4⟩
 ·obtain ⟨b, o, rfl, _⟩ := hr hl
  obtain ⟨v', w', hrun, h2, h3, _, h4⟩ := run_append_own_at (P := P) w base t ty e i z 2 bytes ht hi hz hsize hby hzs (by omega) v n xs hown ⟨b, o, none⟩ l.length c (zbm l) (zcH l) hr.range (zk9 l) h63 hbytes hbase
  exact ⟨v', w', hrun, h2, h3, h4⟩
theorem zb7 {o : Oper} {a : Act} {K : Act → World → Prop} {Q : Exit → Act → World → Prop} (s x : Operand) (t : TypeId)
  (ho : o.op = .call { callee := .builtin .append, args := #[s, x], argTypes := #[t, t] })
  (base : Nat) (e : TypeId) (i : TypeInfo) (z : Value) (bytes : Nat) (ht : P.underlying t = some (.slice e)) (hi : P.info? e = some i) (hz : i.zero = some z)
  (hsize : i.size = 2) (hby : i.bytes = bytes) (hzs : z.cells.size = 2) (v : Value) (n : Nat) (xs : List Value) (hs : a.eval s = v) (hown : w.ownsRow base e 2 v n xs)
  (A : Option Addr) (l : List Gn) (c : Nat) (hx : a.eval x = .slice A l.length c) (hr : RdG w A l)
  (h63 : n + l.length ≤ maxLen) (hbytes : (n + l.length) * bytes ≤ 140737488355328) (hbase : base ≤ w.heap.size)
  (h : ∀ v' w', w'.ownsRow base e 2 v' (n + l.length) (xs ++ zbm l) → w.grownBy w' v.ownBlock → (v'.ownBlock = v.ownBlock ∨ v'.ownBlock = some w.heap.size) → K (a.put o.dst v') w') : o.wp P a w K Q := by
 obtain ⟨v', w', hr, h2, h3, h4⟩ := zgO (P := P) w base t o.type e i z bytes ht hi hz hsize hby hzs v n xs hown A l c hr h63 hbytes hbase
 unfold Oper.wp execOp
 simp only [ho, resolve, invoke, builtin, Sem.run_bind, Sem.run_pure, Result.andThen_ok, List.map_toArray, List.map_cons, List.map_nil, hs, hx, hr]
 exact h v' w' h2 h3 h4
theorem zfi {ops : Array Oper} {rest : List Oper} {o : Oper} {a : Act} {Q : Exit → Act → World → Prop} (hgd : o.guard = none) (s x : Operand) (t : TypeId)
  (ho : o.op = .call { callee := .builtin .append, args := #[s, x], argTypes := #[t, t] })
  (base : Nat) (e : TypeId) (i : TypeInfo) (z : Value) (bytes : Nat) (ht : P.underlying t = some (.slice e)) (hi : P.info? e = some i) (hz : i.zero = some z)
  (hsize : i.size = 2) (hby : i.bytes = bytes) (hzs : z.cells.size = 2) (v : Value) (n : Nat) (xs : List Value) (hs : a.eval s = v) (hown : w.ownsRow base e 2 v n xs)
  (A : Option Addr) (l : List Gn) (c : Nat) (hx : a.eval x = .slice A l.length c) (hr : RdG w A l)
  (h63 : n + l.length ≤ maxLen) (hbytes : (n + l.length) * bytes ≤ 140737488355328) (hbase : base ≤ w.heap.size)
  (h : ∀ v' w', w'.ownsRow base e 2 v' (n + l.length) (xs ++ zbm l) → w.grownBy w' v.ownBlock → (v'.ownBlock = v.ownBlock ∨ v'.ownBlock = some w.heap.size) → wpList P ops Q rest (a.put o.dst v') w') : wpList P ops Q (o :: rest) a w :=
 wpList_plain hgd fun _ hK => zb7 w s x t ho base e i z bytes ht hi hz hsize hby hzs v n xs hs hown A l c hx hr h63 hbytes hbase fun v' w' h2 h3 h4 => hK _ _ (h v' w' h2 h3 h4)
end
end Go.Proofs.YteljklkgdejhpaaGreatDoor
