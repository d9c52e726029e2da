/-
  Terms in memory: a slice of structs of two byte slices read as a list; kept, cut, joined. No conditions but those typed.
-/
import Derived.Test.YteljklkgdejhpaaGreatDoorQL6
import Derived.Deep.DeepCutAuto
import Derived.Maps.AppendAt
set_option linter.unusedSimpArgs false
set_option linter.unusedVariables false
set_option maxRecDepth 100000
set_option maxHeartbeats 8000000
namespace Go.Proofs.YteljklkgdejhpaaGreatDoor
open Go.RowKit
structure TD where
 kA : Option Addr
 kc : Nat
 k : List UInt8
 mA : Option Addr
 mc : Nat
 m : List UInt8
section
variable {w w' : World} {A : Option Addr} {ts : List TD}
end
section
variable {P : Program} (w : World)
end
def IsW (B lo hi : Nat) (v : Value) (w : World) : Prop := ∃ g1 g2, v = .func (.func 155) #[] #[.pointer (some ⟨g1, 0, none⟩), .pointer (some ⟨g2, 0, none⟩)] ∧ w.cell? ⟨g1, 0, none⟩ = some (.int .i64 (lo : Int)) ∧ w.cell? ⟨g2, 0, none⟩ = some (.int .i64 (hi : Int)) ∧ g1 < B ∧ g2 < B
theorem IsW.below {B n lo hi : Nat} {v : Value} {w w' : World} (h : IsW B lo hi v w) (hb : Below n w w') (hB : B ≤ n) : IsW B lo hi v w' := by
 obtain ⟨g1, g2, rfl, c1, c2, h1, h2⟩ := h
 exact ⟨g1, g2, rfl, (hb.cell (p := ⟨g1, 0, none⟩) (show g1 < n by omega)).trans c1, (hb.cell (p := ⟨g2, 0, none⟩) (show g2 < n by omega)).trans c2, h1, h2⟩
theorem zhV (lo hi : Nat) (n : Int) (g1 g2 : Nat) (w : World) (c1 : w.cell? ⟨g1, 0, none⟩ = some (.int .i64 (lo : Int))) (c2 : w.cell? ⟨g2, 0, none⟩ = some (.int .i64 (hi : Int))) :
  Calls Tryz.prog 155 #[.int .i64 n, .pointer (some ⟨g1, 0, none⟩), .pointer (some ⟨g2, 0, none⟩)] w fun e w' => e = .returned (.bool (decide ((lo : Int) ≤ n ∧ n ≤ (hi : Int)))) ∧ w = w' := by
 by_cases h1 : (lo : Int) ≤ n
 ·by_cases h2 : n ≤ (hi : Int)
  ·have hd : Hid (decide ((lo : Int) ≤ n ∧ n ≤ (hi : Int)) = true) := decide_eq_true ⟨h1, h2⟩
   rw [hd.out]
   go_enter Tryz.func155, Tryz.ntmps155
   go_wp2_with fail
   go_ret
   exact ⟨rfl, rfl⟩
  ·have hd : Hid (decide ((lo : Int) ≤ n ∧ n ≤ (hi : Int)) = false) := decide_eq_false (fun h => h2 h.2)
   rw [hd.out]
   go_enter Tryz.func155, Tryz.ntmps155
   go_wp2_with fail
   go_ret
   exact ⟨rfl, rfl⟩
 ·have hd : Hid (decide ((lo : Int) ≤ n ∧ n ≤ (hi : Int)) = false) := decide_eq_false (fun h => h1 h.1)
  rw [hd.out]
  go_enter Tryz.func155, Tryz.ntmps155
  go_wp2_with fail
  go_ret
  exact ⟨rfl, rfl⟩
theorem zha (lo hi : Nat) (w : World) :
  Calls Tryz.prog 116 #[.int .i64 (lo : Int), .int .i64 (hi : Int)] w fun e w' => ∃ v, e = .returned v ∧ IsW w'.heap.size lo hi v w' ∧ Below w.heap.size w w' := by
 have hR0 : Row (w.alloc (.cells #[.int .i64 (lo : Int)] 3)) w.heap.size 3 [.int .i64 (lo : Int)] := Row.new w _ _ _ rfl
 have hR1 := hR0.alloc (.cells #[.int .i64 (hi : Int)] 3)
 have hR2 : Row ((w.alloc (.cells #[.int .i64 (lo : Int)] 3)).alloc (.cells #[.int .i64 (hi : Int)] 3)) (w.heap.size + 1) 3 [.int .i64 (hi : Int)] := Row.new_at _ _ (by simp) _ _ _ rfl
 have hB := zak (zak (Below.refl _ w) (.cells #[.int .i64 (lo : Int)] 3)) (.cells #[.int .i64 (hi : Int)] 3)
 go_enter Tryz.func116, Tryz.ntmps116
 go_upto_region 1 with fail
 generalize (w.alloc (.cells #[.int .i64 (lo : Int)] 3)).alloc (.cells #[.int .i64 (hi : Int)] 3) = W at hR1 hR2 hB ⊢
 have h1 := hR1.lt
 have h2 := hR2.lt
 go_wp2_with fail
 go_ret
 exact ⟨_, rfl, ⟨_, _, rfl, hR1.cell rfl, hR2.cell rfl, h1, h2⟩, hB⟩
theorem zhb (w : World) :
  Calls Tryz.prog 75 #[] w fun e w' => ∃ v u, e = .returned (.tuple #[v, u]) ∧ IsW w'.heap.size 0 64 v w' ∧ IsW w'.heap.size 1 32 u w' ∧ Below w.heap.size w w' := by
 go_enter Tryz.func75, Tryz.ntmps75
 go_wp2_with fail
 refine (zha 0 64 _).mono ?_
 rintro e w1 ⟨v, rfl, hv, hb1⟩
 go_wp2_with fail
 refine (zha 1 32 _).mono ?_
 rintro e w2 ⟨u, rfl, hu, hb2⟩
 go_wp2_with fail
 go_ret2
 obtain ⟨g1, g2, hv1, c1, c2, h1, h2⟩ := hv.below hb2 (Nat.le_refl _)
 have hs := hb2.size
 exact ⟨v, u, rfl, ⟨g1, g2, hv1, c1, c2, by omega, by omega⟩, hu, zaa hb1 hb2⟩
theorem ziH (g : Nat) (k : Int) (S : List UInt8) (B lo hi : Nat) (v : Value) (w : World) (h : RdRF g k S w) (hv : IsW B lo hi v w) (hB : B ≤ g) :
  Calls Tryz.prog 176 #[.pointer (some ⟨g, 0, none⟩), v] w fun e w' => e = .returned (.int .i64 ((cntK lo hi k S).1 : Int)) ∧ RdRF g (cntK lo hi k S).2.1 (cntK lo hi k S).2.2 w' ∧ Only g w w' := by
 have hO := Lib.hid (zgf g k S w h)
 have hlt := zjE k S
 have HC : Hid (cntK lo hi k S = if lo ≤ (oneK k S).1 ∧ (oneK k S).1 ≤ hi then oneK k S else (0, zdj (oneK k S).2.1 3, (oneK k S).2.2)) := rfl
 obtain ⟨C, hC⟩ : ∃ C, cntK lo hi k S = C := ⟨_, rfl⟩
 rw [hC] at HC ⊢
 clear hC h
 generalize oneK k S = X at hO HC hlt
 obtain ⟨m, k1, S1⟩ := X
 dsimp only at hO HC hlt ⊢
 obtain ⟨g1, g2, rfl, c1, c2, h1, h2⟩ := hv
 have mw : IntKind.i64.wrap (m : Int) = (m : Int) := by rw [IntKind.wrap_i64]; omega
 by_cases hm : lo ≤ m ∧ m ≤ hi
 ·have HCC : Hid (C = (m, k1, S1)) := by unfold Hid; rw [HC.out, if_pos hm]
  rw [HCC.out]
  have hd : Hid (decide ((lo : Int) ≤ (m : Int) ∧ (m : Int) ≤ (hi : Int)) = true) := decide_eq_true (by omega)
  clear HC hm HCC
  go_enter Tryz.func176, Tryz.ntmps176
  go_wp2_with fail
  refine hO.out.mono ?_
  rintro e w1 ⟨rfl, hR, hOn⟩
  have d1 := (hOn.below.cell (p := ⟨g1, 0, none⟩) (show g1 < g by omega)).trans c1
  have d2 := (hOn.below.cell (p := ⟨g2, 0, none⟩) (show g2 < g by omega)).trans c2
  go_wp2_with fail
  refine (zhV lo hi (m : Int) g1 g2 w1 d1 d2).mono ?_
  rw [hd.out]
  rintro e w2 ⟨rfl, rfl⟩
  go_wp2_with fail
  go_ret
  exact ⟨rfl, hR, hOn⟩
 ·have HCC : Hid (C = (0, zdj k1 3, S1)) := by unfold Hid; rw [HC.out, if_neg hm]
  rw [HCC.out]
  have hd : Hid (decide ((lo : Int) ≤ (m : Int) ∧ (m : Int) ≤ (hi : Int)) = false) := decide_eq_false (by omega)
  clear HC hm HCC
  go_enter Tryz.func176, Tryz.ntmps176
  go_wp2_with fail
  refine hO.out.mono ?_
  rintro e w1 ⟨rfl, hR, hOn⟩
  have d1 := (hOn.below.cell (p := ⟨g1, 0, none⟩) (show g1 < g by omega)).trans c1
  have d2 := (hOn.below.cell (p := ⟨g2, 0, none⟩) (show g2 < g by omega)).trans c2
  go_wp2_with fail
  refine (zhV lo hi (m : Int) g1 g2 w1 d1 d2).mono ?_
  rw [hd.out]
  rintro e w2 ⟨rfl, rfl⟩
  go_wp2_with fail
  refine (zfK g k1 3 S1 w1 hR).mono ?_
  rintro e w3 ⟨rfl, hR2, hO2⟩
  go_wp2_with fail
  go_ret
  exact ⟨rfl, hR2, hOn.trans hO2⟩
theorem zhc (n : Nat) (b : List UInt8) (A : Option Addr) (c : Nat) (w : World) (HN : Hid (b.length = n)) (hr : Rd vB w A b) (hl : n ≤ 70368744177664) :
  Calls Tryz.prog 90 #[.slice A n c] w fun e w' => ∃ A' c', e = .returned (.slice A' n c') ∧ n ≤ c' ∧ Rd vB w' A' b ∧ (∀ a, A' = some a → w.heap.size ≤ a.block) ∧ Below w.heap.size w w' := by
 have e := HN.out
 subst e
 exact zmu b A c w hr hl
theorem zjP (g : Nat) (k : Int) (S : List UInt8) (B : Nat) (v : Value) (w : World) (h : RdRF g k S w) (hv : IsW B 1 32 v w) (hB : B ≤ g) :
  Calls Tryz.prog 177 #[.pointer (some ⟨g, 0, none⟩), v] w fun e w' => ∃ A q c, e = .returned (aggN (entK k S).1.1 (entK k S).1.2.1 A q c) ∧ Hid ((entK k S).1.2.2.length = q) ∧ q ≤ c ∧ Rd vB w' A (entK k S).1.2.2 ∧ (∀ a, A = some a → w.heap.size ≤ a.block) ∧ RdRF g (entK k S).2.1 (entK k S).2.2 w' ∧ Only g w w' := by
 obtain ⟨x1, k1, S1, H1⟩ : ∃ x k' S', zaH k S = (x, k', S') := ⟨_, _, _, rfl⟩
 obtain ⟨x2, k2, S2, H2⟩ : ∃ x k' S', zaH k1 S1 = (x, k', S') := ⟨_, _, _, rfl⟩
 obtain ⟨m, k3, S3, H3⟩ : ∃ x k' S', cntK 1 32 k2 S2 = (x, k', S') := ⟨_, _, _, rfl⟩
 obtain ⟨L, k4, S4, H4⟩ : ∃ x k' S', zcy m k3 S3 = (x, k', S') := ⟨_, _, _, rfl⟩
 have HE : Hid (entK k S = ((x1, x2, L), k4, S4)) := by
  unfold Hid entK
  rw [H1]
  dsimp only
  rw [H2]
  dsimp only
  rw [H3]
  dsimp only
  rw [H4]
 rw [HE.out]
 dsimp only
 have hm : m ≤ 32 := by have := zjF 1 32 k2 S2; rw [H3] at this; exact this
 replace H1 := Lib.hid H1
 replace H2 := Lib.hid H2
 replace H3 := Lib.hid H3
 replace H4 := Lib.hid H4
 clear HE
 have hgw := h.lt
 obtain ⟨hR0, hB0⟩ := zdU w 91 (.int .u64 0) (.int .u64 0) (.slice none 0 0)
 obtain ⟨hR1, hB1⟩ := zdU (w.alloc (.cells #[.int .u64 0, .int .u64 0, .slice none 0 0] 91)) 91 (.int .u64 0) (.int .u64 0) (.slice none 0 0)
 replace hR0 := hR0.later hB1
 replace hB0 := zaa hB0 hB1
 have hz : (w.alloc (.cells #[.int .u64 0, .int .u64 0, .slice none 0 0] 91)).heap.size = w.heap.size + 1 := by simp
 rw [hz] at hR1
 clear hB1 hz
 go_enter Tryz.func177, Tryz.ntmps177
 go_upto_region 2 with fail
 generalize (w.alloc (.cells #[.int .u64 0, .int .u64 0, .slice none 0 0] 91)).alloc (.cells #[.int .u64 0, .int .u64 0, .slice none 0 0] 91) = W at hR0 hR1 hB0 ⊢
 have hT := h.below (hB0.mono (show g + 1 ≤ w.heap.size by omega))
 have hV := hv.below hB0 (by omega)
 have hO0 : Only g w W := Only.later hB0 (by omega)
 have hne1 : w.heap.size + 1 ≠ g := by omega
 have hne0 : w.heap.size ≠ g := by omega
 have hle1 : g + 1 ≤ w.heap.size + 1 := by omega
 have hBg : B ≤ g + 1 := by omega
 have hB1g : B ≤ w.heap.size + 1 := by omega
 have hn01 : w.heap.size ≠ w.heap.size + 1 := by omega
 clear h hv hB0
 go_wp2_with fail
 refine (zbb g k S W hT).mono ?_
 rw [H1.out]
 rintro e w1 ⟨rfl, hT1, hO⟩
 dsimp only at hT1 ⊢
 replace hR0 := hR0.only hO hne0
 replace hR1 := hR1.only hO hne1
 replace hV := hV.below hO.below hB
 replace hO0 := hO0.trans hO
 clear hO hT
 have f0 := hR1.frozen 0
 have hT2 := hT1.below ((Below.refl _ w1).setCell (p := ⟨w.heap.size + 1, 0, none⟩) hle1 (.int .u64 (x1 : Int)))
 have hV2 := hV.below ((Below.refl _ w1).setCell (p := ⟨w.heap.size + 1, 0, none⟩) (Nat.le_refl _) (.int .u64 (x1 : Int))) hB1g
 have hR02 := hR0.setCell_other (p := ⟨w.heap.size + 1, 0, none⟩) hn01 (.int .u64 (x1 : Int))
 have hR12 : Row (w1.setCell ⟨w.heap.size + 1, 0, none⟩ (.int .u64 (x1 : Int))) (w.heap.size + 1) 91 [.int .u64 (x1 : Int), .int .u64 0, .slice none 0 0] := hR1.setCell 0 (.int .u64 (x1 : Int))
 have hO2 : Hid (∀ b, b ≠ g → b < w.heap.size → (w1.setCell ⟨w.heap.size + 1, 0, none⟩ (.int .u64 (x1 : Int))).heap[b]? = w.heap[b]?) := fun b h1 h2 => by
  rw [← hO0.other b h1 h2]
  exact ((Below.refl (w.heap.size + 1) w1).setCell (p := ⟨w.heap.size + 1, 0, none⟩) (Nat.le_refl _) _).block b (by omega)
 have hB2 := hO0.below.setCell (p := ⟨w.heap.size + 1, 0, none⟩) (show g ≤ w.heap.size + 1 by omega) (.int .u64 (x1 : Int))
 have c0 : w1.cell? ⟨w.heap.size + 1, 0, none⟩ = some (.int .u64 0) := hR1.cell rfl
 clear hT1 hV hR0 hR1 hO0
 go_upto_region 3 with fail
 generalize w1.setCell ⟨w.heap.size + 1, 0, none⟩ (.int .u64 (x1 : Int)) = W2 at hT2 hV2 hR02 hR12 hO2 hB2 ⊢
 clear c0 f0
 have hO3 : Only g w W2 := ⟨hB2, hO2.out⟩
 clear hO2 hB2
 go_wp2_with fail
 refine (zbb g k1 S1 W2 hT2).mono ?_
 rw [H2.out]
 rintro e w1 ⟨rfl, hT1, hO⟩
 dsimp only at hT1 ⊢
 replace hR0 := hR02.only hO hne0
 replace hR1 := hR12.only hO hne1
 replace hV := hV2.below hO.below hB
 replace hO0 := hO3.trans hO
 clear hO hT2 hV2 hR02 hR12 hO3
 have f0 := hR1.frozen 1
 have hT2 := hT1.below ((Below.refl _ w1).setCell (p := ⟨w.heap.size + 1, 1, none⟩) hle1 (.int .u64 (x2 : Int)))
 have hV2 := hV.below ((Below.refl _ w1).setCell (p := ⟨w.heap.size + 1, 1, none⟩) (Nat.le_refl _) (.int .u64 (x2 : Int))) hB1g
 have hR02 := hR0.setCell_other (p := ⟨w.heap.size + 1, 1, none⟩) hn01 (.int .u64 (x2 : Int))
 have hR12 : Row (w1.setCell ⟨w.heap.size + 1, 1, none⟩ (.int .u64 (x2 : Int))) (w.heap.size + 1) 91 [.int .u64 (x1 : Int), .int .u64 (x2 : Int), .slice none 0 0] := hR1.setCell 1 (.int .u64 (x2 : Int))
 have hO2 : Hid (∀ b, b ≠ g → b < w.heap.size → (w1.setCell ⟨w.heap.size + 1, 1, none⟩ (.int .u64 (x2 : Int))).heap[b]? = w.heap[b]?) := fun b h1 h2 => by
  rw [← hO0.other b h1 h2]
  exact ((Below.refl (w.heap.size + 1) w1).setCell (p := ⟨w.heap.size + 1, 1, none⟩) (Nat.le_refl _) _).block b (by omega)
 have hB2 := hO0.below.setCell (p := ⟨w.heap.size + 1, 1, none⟩) (show g ≤ w.heap.size + 1 by omega) (.int .u64 (x2 : Int))
 have c0 : w1.cell? ⟨w.heap.size + 1, 1, none⟩ = some (.int .u64 0) := hR1.cell rfl
 clear hT1 hV hR0 hR1 hO0
 go_upto_region 4 with fail
 generalize w1.setCell ⟨w.heap.size + 1, 1, none⟩ (.int .u64 (x2 : Int)) = W2 at hT2 hV2 hR02 hR12 hO2 hB2 ⊢
 clear c0 f0
 have hO3 : Only g w W2 := ⟨hB2, hO2.out⟩
 clear hO2 hB2
 go_wp2_with fail
 refine (ziH g k2 S2 B 1 32 v W2 hT2 hV2 hB).mono ?_
 rw [H3.out]
 rintro e w1 ⟨rfl, hT1, hO⟩
 dsimp only at hT1 ⊢
 replace hR0 := hR02.only hO hne0
 replace hR1 := hR12.only hO hne1
 replace hO0 := hO3.trans hO
 clear hO hT2 hV2 hR02 hR12 hO3
 go_wp2_with fail
 refine (zfL g m k3 S3 w1 hT1).mono ?_
 rw [H4.out]
 rintro e w2 ⟨A, q, c, rfl, HL, hqm, hqc, hr, hT2, hO⟩
 dsimp only at hT2 HL hr ⊢
 replace hR0 := hR0.only hO hne0
 replace hR1 := hR1.only hO hne1
 replace hO0 := hO0.trans hO
 clear hO hT1
 have hlt2 := hR1.lt
 go_wp2_with fail
 refine (zhc q L A c w2 HL hr (by omega)).mono ?_
 rintro e w3 ⟨A3, c3, rfl, hc3, hr3, hA3, hb⟩
 have hsz := hO0.below.size
 replace hT2 := hT2.below (hb.mono (by omega))
 replace hR0 := hR0.later hb
 replace hR1 := hR1.later hb
 replace hO0 := hO0.trans (Only.later hb (by omega))
 clear hb hr
 have HA3 : Hid (∀ a, A3 = some a → w.heap.size + 1 < a.block) := fun a ha => by have := hA3 a ha; omega
 have f0 := hR1.frozen 2
 have c0 : w3.cell? ⟨w.heap.size + 1, 2, none⟩ = some (.slice none 0 0) := hR1.cell rfl
 have hT4 := hT2.below ((Below.refl _ w3).setCell (p := ⟨w.heap.size + 1, 2, none⟩) hle1 (.slice A3 q c3))
 have hR04 := hR0.setCell_other (p := ⟨w.heap.size + 1, 2, none⟩) hn01 (.slice A3 q c3)
 have hR14 : Row (w3.setCell ⟨w.heap.size + 1, 2, none⟩ (.slice A3 q c3)) (w.heap.size + 1) 91 [.int .u64 (x1 : Int), .int .u64 (x2 : Int), .slice A3 q c3] := hR1.setCell 2 (.slice A3 q c3)
 have hr4 : Rd vB (w3.setCell ⟨w.heap.size + 1, 2, none⟩ (.slice A3 q c3)) A3 L := hr3.only ((Only.refl (w.heap.size + 1) w3).setCell 2 (.slice A3 q c3)) (fun _ a ha => by have := HA3.out a ha; omega)
 have hO2 : Hid (∀ b, b ≠ g → b < w.heap.size → (w3.setCell ⟨w.heap.size + 1, 2, none⟩ (.slice A3 q c3)).heap[b]? = w.heap[b]?) := fun b h1 h2 => by
  rw [← hO0.other b h1 h2]
  exact ((Below.refl (w.heap.size + 1) w3).setCell (p := ⟨w.heap.size + 1, 2, none⟩) (Nat.le_refl _) _).block b (by omega)
 have hB2 := hO0.below.setCell (p := ⟨w.heap.size + 1, 2, none⟩) (show g ≤ w.heap.size + 1 by omega) (.slice A3 q c3)
 clear hT2 hR0 hR1 hO0 hr3 hA3
 go_upto_region 5 with fail
 generalize w3.setCell ⟨w.heap.size + 1, 2, none⟩ (.slice A3 q c3) = W4 at hT4 hR04 hR14 hr4 hO2 hB2 ⊢
 clear c0 f0
 go_wp2_with (first
  | (refine zac rfl 91 (.tmp 5) rfl (w.heap.size + 1) 0 rfl _ _ hR14 [.int .u64 (x1 : Int), .int .u64 (x2 : Int), .slice A3 q c3] (by rfl) _ Tryz.underlying91 rfl (by exact zbK) ?_)
  | (refine zab rfl 91 (.tmp 4) (.tmp 19) rfl w.heap.size rfl [.int .u64 (x1 : Int), .int .u64 (x2 : Int), .slice A3 q c3] rfl _ _ hR04 (by exact zbK) rfl (zaK _ _ _ rfl rfl rfl) ?_))
 refine bodyPost_ret (results_cell_row (p := 4) (ty := 91) (by rfl) _ _ w.heap.size 91 _ (0, 0) _ (by rfl) (by exact hR04.setRow _) Tryz.underlying91 (by rfl) (by exact zbK)) (by rfl) ?_
 have hbs := below_setRow (Below.refl w.heap.size W4) (Nat.le_refl w.heap.size) [.int .u64 (x1 : Int), .int .u64 (x2 : Int), .slice A3 q c3].toArray
 exact ⟨A3, q, c3, rfl, HL, hc3, hr4.setRow _ (fun a ha => by have := HA3.out a ha; omega), (fun a ha => by have := HA3.out a ha; omega), hT4.below (hbs.mono (by omega)), ⟨below_setRow hB2 (by omega) _, fun b h1 h2 => (hbs.block b h2).trans (hO2.out b h1 h2)⟩⟩
theorem zoq {b : List UInt8} (h : (zaO b).2.2 = 0) : (zaO b).2.1 ≤ b.length := by
 obtain ⟨l, n, e, hG⟩ : ∃ l n e, zaO b = (l, n, e) := ⟨_, _, _, rfl⟩
 rw [hG] at h ⊢
 dsimp only at h ⊢
 subst h
 exact (zgS hG).2.2.1
theorem RdG.only {g : Nat} {w w' : World} {A : Option Addr} {l : List Gn} (h : RdG w A l) (k : Only g w w') (hA : ∀ a, A = some a → a.block ≠ g) : RdG w' A l := fun hn => by
 obtain ⟨b, o, rfl, hc⟩ := h hn
 refine ⟨b, o, rfl, fun i hi => ?_⟩
 obtain ⟨h0, h1⟩ := hc i hi
 have hlt := World.block_lt_of_cell? w _ h0
 have hbk := k.other b (hA _ rfl) hlt
 exact ⟨(World.cell?_of_block (w := w) (a := ⟨b, o + i * 2, none⟩) hbk).trans h0, (World.cell?_of_block (w := w) (a := ⟨b, o + i * 2 + 1, none⟩) hbk).trans h1⟩
theorem ziI (g : Nat) (k : Int) (S : List UInt8) (w : World) (h : RdRF g k S w) :
  Calls Tryz.prog 178 #[.pointer (some ⟨g, 0, none⟩)] w fun e w' => ∃ A l q c, e = .returned (.slice A q c) ∧ Hid ((l : List Gn).length = q) ∧ q ≤ c ∧ q ≤ 64 ∧ RdG w' A l ∧ fitG l ∧ (∀ a, A = some a → w.heap.size ≤ a.block) ∧ Only g w w' ∧
   ∃ k' S', RdRF g k' S' w' ∧ (k ≠ 0 → k' = k) ∧ (k = 0 → k' = (zaO S).2.2 ∧ (k' = 0 → l = (zaO S).1 ∧ S' = S.drop (zaO S).2.1 ∧ (zaO S).2.1 ≤ S.length)) := by
 obtain ⟨S0, n, ⟨A0, c0, hR, HN, hc, hr, hA⟩, hn, h2⟩ := id h
 have HKS := Lib.hid h2
 have hc0 : w.cell? ⟨g, 0, none⟩ = some (.slice A0 n c0) := hR.cell rfl
 have hgl := hR.lt
 have hread := Lib.hid (zli S0 n c0 A0 w HN hr (by omega) hc)
 have hle : (zaO S0).1.length ≤ 64 ∧ (zaO S0).2.1 ≤ 1025 := zm0
 have HFIT := Lib.hid (@zm1 S0)
 have hbound := Lib.hid (@zoq S0)
 clear hr hA h2 hR
 obtain ⟨l, m, e0, HG⟩ : ∃ l m e0, zaO S0 = (l, m, e0) := ⟨_, _, _, rfl⟩
 rw [HG] at hread hle HFIT hbound
 dsimp only at hread hle HFIT hbound
 have HG2 := Lib.hid HG
 clear HG
 go_enter Tryz.func178, Tryz.ntmps178
 go_wp2_with fail
 refine hread.out.mono ?_
 rintro e w1 hRR
 obtain ⟨v, rfl, hown, hb⟩ := hRR
 obtain ⟨A, c, rfl, hlc, hrg, hfr⟩ := zg6 hown
 have hT := h.below (hb.mono (show g + 1 ≤ w.heap.size by omega))
 have HL : Hid (l.length = l.length) := rfl
 obtain ⟨q, hq⟩ : ∃ q, l.length = q := ⟨_, rfl⟩
 have HQ := Lib.hid hq
 rw [hq] at hlc hle ⊢
 have hO0 := Only.later hb (show g ≤ w.heap.size by omega)
 have HFR : Hid (∀ a, A = some a → w.heap.size ≤ a.block) := hfr
 clear hread hown hb hq HL hfr hc0
 go_wp2_with fail
 refine (zfK g k e0 S w1 hT).mono ?_
 rintro e w2 ⟨rfl, hT2, hO⟩
 have hrg2 := hrg.only hO (fun a ha => by have := HFR.out a ha; omega)
 replace hO0 := hO0.trans hO
 clear hT hO hrg
 go_wp2_with fail
 refine (zfL g m (zdj k e0) S w2 hT2).mono ?_
 rintro e w3 ⟨A3, q3, c3, rfl, _, _, _, _, hT3, hO⟩
 have hrg3 := hrg2.only hO (fun a ha => by have := HFR.out a ha; omega)
 replace hO0 := hO0.trans hO
 clear hT2 hO hrg2
 go_wp2_with fail
 go_ret
 refine ⟨A, l, q, c, rfl, HQ, hlc, by omega, hrg3, HFIT.out, HFR.out, hO0, _, _, hT3, fun hk => ?_, fun hk => ?_⟩
 ·rw [zeU _ hk, zcS _ _ hk]
 ·have eS := HKS.out hk
  subst eS
  subst hk
  have hG := HG2.out
  rw [hG]
  dsimp only
  have e1 : zdj 0 e0 = e0 := if_pos rfl
  rw [e1]
  by_cases h0 : e0 = 0
  ·subst h0
   have hb := hbound.out rfl
   have : zcy m 0 S0 = (S0.take m, 0, S0.drop m) := by unfold zcy; rw [if_pos rfl, if_neg (by omega)]
   rw [this]
   exact ⟨rfl, fun _ => ⟨rfl, rfl, hb⟩⟩
  ·rw [zcS _ _ h0]
   exact ⟨rfl, fun h => absurd h h0⟩
theorem zm2 : ∀ l : List En, okE l = true ↔ ∀ k (h : k < l.length), zc3 l[k] ∧ (0 < k → (l[k - 1]'(by omega)).1 < l[k].1)
 | [] => by simp [okE]
 | [a] => by
  unfold okE
  rw [decide_eq_true_iff]
  constructor
  ·intro h k hk
   have : k = 0 := by simpa using hk
   subst this
   exact ⟨h, fun h0 => by omega⟩
  ·intro h
   exact (h 0 (by simp)).1
 | a :: b :: l => by
  have ih := zm2 (b :: l)
  unfold okE
  rw [Bool.and_eq_true, Bool.and_eq_true, decide_eq_true_iff, decide_eq_true_iff, ih]
  constructor
  ·rintro ⟨h1, h2, h3⟩ k hk
   cases k with
   | zero => exact ⟨h1, fun h0 => by omega⟩
   | succ k =>
    obtain ⟨h4, h5⟩ := h3 k (by simpa using hk)
    refine ⟨h4, fun _ => ?_⟩
    cases k with
    | zero => exact h2
    | succ k => exact h5 (by omega)
  ·intro h
   refine ⟨(h 0 (by simp)).1, (h 1 (by simp)).2 (by omega), fun k hk => ?_⟩
   obtain ⟨h4, h5⟩ := h (k + 1) (by simpa using hk)
   refine ⟨h4, fun h0 => ?_⟩
   have h6 := h5 (by omega)
   cases k with
   | zero => omega
   | succ k => exact h6
theorem zeW (lo hi : Nat) (n : Int) (g1 g2 : Nat) (w : World) (c1 : w.cell? ⟨g1, 0, none⟩ = some (.int .i64 (lo : Int))) (c2 : w.cell? ⟨g2, 0, none⟩ = some (.int .i64 (hi : Int))) :
  Calls Tryz.prog 155 #[.int .i64 n, .pointer (some ⟨g1, 0, none⟩), .pointer (some ⟨g2, 0, none⟩)] w fun e w' => e = .returned (.bool (decide ((lo : Int) ≤ n ∧ n ≤ (hi : Int)))) ∧ Below w.heap.size w w' :=
 (zhV lo hi n g1 g2 w c1 c2).mono fun e w' h => ⟨h.1, h.2 ▸ Below.refl _ _⟩
theorem zee (v : Nat) (es : List ED) (gs : List Gn) (n ec m gc : Nat) (eA gA : Option Addr) (w : World) (HN : Hid (es.length = n)) (HM : Hid (gs.length = m)) (hre : RdE w eA es) (hrg : RdG w gA gs) (HF : Hid (fitG gs)) (hn : n ≤ 1000000000) (hm : m ≤ 1000000000) (hml : ∀ x ∈ es, x.s.length ≤ 9223372036854775807) :
  Calls Tryz.prog 41 #[aggB v eA n ec gA m gc] w fun e w' => e = .returned (.bool (zaJ (conE es) gs)) ∧ Below w.heap.size w w' := by
 obtain ⟨hR, hB⟩ := zdU w 32 (.int .u64 (v : Int)) (.slice eA n ec) (.slice gA m gc)
 obtain ⟨P, hP⟩ : ∃ P, zaJ (conE es) gs = P := ⟨_, rfl⟩
 rw [hP]
 unfold zaJ at hP
 rw [zaF, HN.out] at hP
 have HML := Lib.hid hml
 obtain ⟨G, hG⟩ : ∃ G, zb4 gs = G := ⟨_, rfl⟩
 rw [hG] at hP
 have HP := Lib.hid hP
 have HRR := Lib.hid (fun W hW => zey gs m gc gA W HM (hrg.keep hW) HF hm)
 rw [hG] at HRR
 clear hP hml hG
 unfold aggB
 go_enter Tryz.func41, Tryz.ntmps41
 go_upto_region 1 with fail
 generalize (w.alloc (.cells #[.int .u64 (v : Int), .slice eA n ec, .slice gA m gc] 32)) = w1 at hR hB ⊢
 go_wp2_with fail
 refine (zhb w1).mono ?_
 rintro e w2 ⟨vE, vS, rfl, hWE, hWS, hb⟩
 replace hR := hR.later hb
 replace hB := zaa hB hb
 clear hb
 go_upto_region 2 with fail
 have c1 : w2.cell? ⟨w.heap.size, 1, none⟩ = some (.slice eA n ec) := hR.cell rfl
 have c2 : w2.cell? ⟨w.heap.size, 2, none⟩ = some (.slice gA m gc) := hR.cell rfl
 obtain ⟨g1, g2, rfl, d1, d2, l1, l2⟩ := hWE
 have hin := zhV 0 64 (n : Int) g1 g2 w2 d1 d2
 by_cases h64 : n ≤ 64
 ·have hd : Hid (decide (((0 : Nat) : Int) ≤ (n : Int) ∧ (n : Int) ≤ ((64 : Nat) : Int)) = true) := decide_eq_true (by omega)
  rw [hd.out] at hin
  go_wp2_with fail
  refine hin.mono ?_
  rintro e w3 ⟨rfl, rfl⟩
  go_wp2_with fail
  refine (HRR.out _ hB).mono ?_
  rintro e w4 ⟨rfl, hb⟩
  have HB2 := Lib.hid (zaa hB hb)
  have hR2 := hR.later hb
  have hre2 := hre.keep HB2.out
  cases G with
  | false =>
   have HPF : Hid (P = false) := by unfold Hid; rw [← HP.out]; simp
   clear c1 c2 hb hR2 hre2
   go_wp2_with fail
   go_ret
   exact ⟨by rw [HPF.out]; rfl, HB2.out⟩
  | true =>
   have HPO : Hid (P = okE (conE es)) := by unfold Hid; rw [← HP.out, decide_eq_true h64, Bool.true_and, Bool.true_and]
   have hWS2 := hWS.below hb (Nat.le_refl _)
   clear c1 c2 d1 d2 hb hB hR hre hrg hWS hin
   have k1 : w4.cell? ⟨w.heap.size, 1, none⟩ = some (.slice eA n ec) := hR2.cell rfl
   go_upto_region 5 with fail
   obtain ⟨q1, q2, rfl, d1, d2, l1, l2⟩ := hWS2
   have hl1 : q1 < w4.heap.size := World.block_lt_of_cell? w4 _ d1
   have hl2 : q2 < w4.heap.size := World.block_lt_of_cell? w4 _ d2
   clear k1
   go_loopw [5, 6, 26] (fun _ _ i wr => (∃ k : Nat, i = .int .i64 (k : Int) ∧ k ≤ n ∧ ∀ j (h : j < es.length), j < k → zc3 es[j].con ∧ (0 < j → (es[j - 1]'(by omega)).t < es[j].t)) ∧ Below w4.heap.size w4 wr) (fun _ _ i _ => n - (intOf i).toNat)
   case atStart => exact ⟨⟨0, rfl, by omega, fun j _ hj => by omega⟩, Below.refl _ _⟩
   case round =>
    obtain ⟨⟨k, rfl, hk, hs⟩, hBr⟩ := hrel
    have hRr := hR2.later hBr
    have HB3 := Lib.hid (zaa HB2.out hBr)
    by_cases hlt : k < n
    ·have hkl : k < es.length := by rw [HN.out]; exact hlt
     obtain ⟨b, o, rfl, hb, hrng, p0, _, _⟩ := hre2.one hkl
     have hrngW : wr.rangeAt b (o + k * 3) es[k].cells := fun j u hu => (hBr.cell (p := ⟨b, o + k * 3 + j, none⟩) hb).trans (hrng j u hu)
     have HS : Hid (zc3 es[k].con ∧ (0 < k → (es[k - 1]'(by omega)).t < es[k].t) → ∀ j (h : j < es.length), j < k + 1 → zc3 es[j].con ∧ (0 < j → (es[j - 1]'(by omega)).t < es[j].t)) := fun h j hj hjk => by
      by_cases e : j = k
      ·subst e; exact h
      ·exact hs j hj (by omega)
     have HE : Hid (¬ (zc3 es[k].con ∧ (0 < k → (es[k - 1]'(by omega)).t < es[k].t)) → okE (conE es) = false) := fun h => by
      rw [Bool.eq_false_iff]
      intro hok
      have h1 := (zm2 _).1 hok k (by rw [zaF]; exact hkl)
      rw [zcj es k hkl] at h1
      refine h ⟨h1.1, fun h0 => ?_⟩
      have h2 := h1.2 h0
      rw [zcj es (k - 1) (by omega)] at h2
      exact h2
     have hxl := HML.out _ (List.getElem_mem hkl)
     have i0 : (0 : Int) ≤ (k : Int) := by omega
     have i1 : (k : Int) < (n : Int) := by omega
     have hlr := hBr.size
     have hRn : Row (wr.alloc (.cells #[.int .u64 0, .int .u64 0, .slice none 0 0] 91)) wr.heap.size 91 [.int .u64 0, .int .u64 0, .slice none 0 0] := Row.new wr _ _ _ rfl
     have hRe := hRn.setRow es[k].cells
     have hb6 : Below wr.heap.size wr ((wr.alloc (.cells #[.int .u64 0, .int .u64 0, .slice none 0 0] 91)).setRow wr.heap.size es[k].cells.toArray) := below_setRow (zak (Below.refl _ _) _) (Nat.le_refl _) _
     have hC3 : es[k].cells = [.int .u64 (es[k].t : Int), .int .u64 (es[k].e : Int), .slice es[k].A es[k].s.length es[k].c] := rfl
     have HSK : Hid (zc3 es[k].con ↔ 1 ≤ es[k].s.length ∧ es[k].s.length ≤ 32) := Iff.rfl
     rw [hC3] at hrngW hRe hb6
     clear hC3 p0 hrng
     obtain ⟨a, ha⟩ : ∃ a, Hid (a = k - 1) := ⟨_, Lib.hid rfl⟩
     have hka : a < es.length := by have := ha.out; omega
     have H0 : Hid (0 < k → wr.cell? ⟨b, o + a * 3, none⟩ = some (.int .u64 (es[a].t : Int)) ∧ (es[a].t < es[k].t → (0 < k → (es[k - 1]'(by omega)).t < es[k].t)) ∧ (¬ es[a].t < es[k].t → ¬ (0 < k → (es[k - 1]'(by omega)).t < es[k].t))) := fun h0 => by
      obtain ⟨b', o', e', hb', _, q0, _, _⟩ := hre2.one hka
      injection e' with e'
      injection e' with e1 e2 _
      subst e1 e2
      refine ⟨(hBr.cell (p := ⟨b, o + a * 3, none⟩) hb).trans q0, fun h _ => by have e := ha.out; subst e; exact h, fun h h2 => h (by have e := ha.out; subst e; exact h2 h0)⟩
     generalize es[k].s.length = q at *
     generalize es[k].t = tk at *
     generalize es[a].t = ta at *
     generalize es[k].e = te at *
     generalize es[k].A = tA at *
     generalize es[k].c = tc at *
     go_upto_region 7 with (first
      | (refine wpList_load_mid rfl 91 (.tmp 29) rfl b (o + k * 3) rfl [.int .u64 (tk : Int), .int .u64 (te : Int), .slice tA q tc] _ hrngW Tryz.underlying91 rfl (by exact zbK) ?_)
      | (refine zab rfl 91 (.tmp 6) (.tmp 30) rfl wr.heap.size rfl [.int .u64 (tk : Int), .int .u64 (te : Int), .slice tA q tc] rfl _ _ hRn (by exact zbK) rfl (zaK _ _ _ rfl rfl rfl) ?_))
     have hRr6 := hRr.later hb6
     have HB6 := Lib.hid (hBr.trans (hb6.mono hlr))
     have HB7 := Lib.hid (zaa HB2.out HB6.out)
     have hcA : ∀ p, p.block < wr.heap.size → ((wr.alloc (.cells #[.int .u64 0, .int .u64 0, .slice none 0 0] 91)).setRow wr.heap.size [.int .u64 (tk : Int), .int .u64 (te : Int), .slice tA q tc].toArray).cell? p = wr.cell? p := fun p hp => hb6.cell hp
     generalize (wr.alloc (.cells #[.int .u64 0, .int .u64 0, .slice none 0 0] 91)).setRow wr.heap.size [.int .u64 (tk : Int), .int .u64 (te : Int), .slice tA q tc].toArray = w6 at hRe hRr6 HB6 HB7 hcA ⊢
     have hbw : b < wr.heap.size := by omega
     have hl1w : q1 < wr.heap.size := by omega
     have hl2w : q2 < wr.heap.size := by omega
     have hs6 := HB6.out.size
     have e0 : ∀ W, Below w6.heap.size w6 W → W.cell? ⟨wr.heap.size, 0, none⟩ = some (.int .u64 (tk : Int)) := fun W hW => (hRe.later hW).cell rfl
     have e2 : ∀ W, Below w6.heap.size w6 W → W.cell? ⟨wr.heap.size, 2, none⟩ = some (.slice tA q tc) := fun W hW => (hRe.later hW).cell rfl
     have c1 : ∀ W, Below w6.heap.size w6 W → W.cell? ⟨w.heap.size, 1, none⟩ = some (.slice (some ⟨b, o, none⟩) n ec) := fun W hW => (hRr6.later hW).cell rfl
     have hl61 : q1 < w6.heap.size := by omega
     have hl62 : q2 < w6.heap.size := by omega
     have d1w : ∀ W, Below w6.heap.size w6 W → W.cell? ⟨q1, 0, none⟩ = some (.int .i64 ((1 : Nat) : Int)) := fun W hW => ((hW.cell (p := ⟨q1, 0, none⟩) hl61).trans (hcA _ hl1w)).trans ((hBr.cell (p := ⟨q1, 0, none⟩) hl1).trans d1)
     have d2w : ∀ W, Below w6.heap.size w6 W → W.cell? ⟨q2, 0, none⟩ = some (.int .i64 ((32 : Nat) : Int)) := fun W hW => ((hW.cell (p := ⟨q2, 0, none⟩) hl62).trans (hcA _ hl2w)).trans ((hBr.cell (p := ⟨q2, 0, none⟩) hl2).trans d2)
     have f0 : 0 < k → ∀ W, Below w6.heap.size w6 W → W.cell? ⟨b, o + a * 3, none⟩ = some (.int .u64 (ta : Int)) := fun h0 W hW => ((hW.cell (p := ⟨b, o + a * 3, none⟩) (show b < w6.heap.size by omega)).trans (hcA _ hbw)).trans (H0.out h0).1
     clear hs hRe hRr hRr6 hcA hRn hb6 hrngW d1 d2
     have hBase := (Below.refl w6.heap.size w6).drew
     by_cases hq : 1 ≤ q ∧ q ≤ 32
     ·have hd : Hid (decide (((1 : Nat) : Int) ≤ (q : Int) ∧ (q : Int) ≤ ((32 : Nat) : Int)) = true) := decide_eq_true (by omega)
      have HSQ := Lib.hid (HSK.out.2 hq)
      clear hq
      by_cases hk0 : 0 < k
      ·have f0w := f0 hk0
       obtain ⟨_, h4, h5⟩ := H0.out hk0
       have H4 := Lib.hid h4
       have H5 := Lib.hid h5
       clear f0 H0 h4 h5
       have kk : (0 : Int) < (k : Int) := by omega
       have kd : decide ((0 : Int) < (k : Int)) = true := decide_eq_true kk
       have hw : IntKind.i64.wrap ((k : Int) - 1) = (a : Int) := by have := ha.out; rw [IntKind.wrap_i64]; omega
       have a0 : (0 : Int) ≤ (a : Int) := by omega
       have a1 : (a : Int) < (n : Int) := by have := ha.out; omega
       by_cases hord : ta < tk
       ·have hor : ¬ (tk : Int) ≤ (ta : Int) := by omega
        have hon : decide (tk ≤ ta) = false := decide_eq_false (by omega)
        have HS3 := Lib.hid (HS.out ⟨HSQ.out, H4.out hord⟩)
        clear HS HE H4 H5
        refine zaw (.step 0 false (.step 1 false (.step 2 false (.step 3 false (.step 4 true (.step 5 false (.step 6 false (.step 7 false (.step 8 false (.step 9 false (.step 10 false (.step 11 false (.step 12 false (.step 13 false (.step 14 false (.step 15 false (.step 16 false (.step 17 false (.step 18 false (.step 19 false (.step 20 false (.step 21 false (.nil))))))))))))))))))))))) (by kernel_rfl) (by kernel_rfl) (by rfl) (by kernel_rfl) ?_
        iterate 4 (refine zae rfl (by rfl) (v := ?_) ?_ ?_; rotate_left 1; (intro W hW; have hW0 := zaa hBase hW; (try dsimp only at hW); go_simp <;> with_reducible rfl); simp only [List.getElem_toArray, List.getElem_cons_zero, List.getElem_cons_succ, Act.put, List.setIfInBounds_toArray, List.set_cons_zero, List.set_cons_succ])
        (refine zaI rfl (by rfl) (fun K hK => ?_); go_simp; (refine (zeW 1 32 (q : Int) q1 q2 _ (d1w _ hBase) (d2w _ hBase)).mono ?_; rw [hd.out]; rintro e' w7 ⟨rfl, hbx⟩); refine hK.out _ _ hbx ?_; clear hK K; replace hBase := zaa hBase hbx)
        iterate 2 (refine zae rfl (by rfl) (v := ?_) ?_ ?_; rotate_left 1; (intro W hW; have hW0 := zaa hBase hW; (try dsimp only at hW); go_simp <;> with_reducible rfl); simp only [List.getElem_toArray, List.getElem_cons_zero, List.getElem_cons_succ, Act.put, List.setIfInBounds_toArray, List.set_cons_zero, List.set_cons_succ])
        iterate 3 (refine zae rfl (by rfl) (v := ?_) ?_ ?_; rotate_left 1; (intro W hW; have hW0 := zaa hBase hW; (try dsimp only at hW); go_simp <;> with_reducible rfl); simp only [List.getElem_toArray, List.getElem_cons_zero, List.getElem_cons_succ, Act.put, List.setIfInBounds_toArray, List.set_cons_zero, List.set_cons_succ])
        iterate 10 (refine zae rfl (by rfl) (v := ?_) ?_ ?_; rotate_left 1; (intro W hW; have hW0 := zaa hBase hW; (try dsimp only at hW); go_simp <;> with_reducible rfl); simp only [List.getElem_toArray, List.getElem_cons_zero, List.getElem_cons_succ, Act.put, List.setIfInBounds_toArray, List.set_cons_zero, List.set_cons_succ])
        iterate 2 (refine zae rfl (by rfl) (v := ?_) ?_ ?_; rotate_left 1; (intro W hW; have hW0 := zaa hBase hW; (try dsimp only at hW); go_simp <;> with_reducible rfl); simp only [List.getElem_toArray, List.getElem_cons_zero, List.getElem_cons_succ, Act.put, List.setIfInBounds_toArray, List.set_cons_zero, List.set_cons_succ])
        refine zal ?_
        have HB8 := Lib.hid (HB6.out.trans (hBase.mono hs6))
        clear e0 e2 c1 d1w d2w f0w
        go_wp2_with fail
        go_roundw
        case rel => exact ⟨⟨k + 1, by go_num, by omega, HS3.out⟩, HB8.out⟩
        case measure => simp [intOf]; omega
       ·have hor : (tk : Int) ≤ (ta : Int) := by omega
        have hon : decide (tk ≤ ta) = true := decide_eq_true (by omega)
        have HPF : Hid (P = false) := HPO.out.trans (HE.out (fun h => H5.out hord h.2))
        clear HS HE H4 H5
        refine zaw (.step 0 false (.step 1 false (.step 2 false (.step 3 false (.step 4 true (.step 5 false (.step 6 false (.step 7 false (.step 8 false (.step 9 false (.step 10 false (.step 11 false (.step 12 false (.step 13 false (.step 14 false (.step 15 false (.step 16 false (.step 17 false (.step 18 false (.step 19 false (.step 20 false (.step 21 false (.nil))))))))))))))))))))))) (by kernel_rfl) (by kernel_rfl) (by rfl) (by kernel_rfl) ?_
        iterate 4 (refine zae rfl (by rfl) (v := ?_) ?_ ?_; rotate_left 1; (intro W hW; have hW0 := zaa hBase hW; (try dsimp only at hW); go_simp <;> with_reducible rfl); simp only [List.getElem_toArray, List.getElem_cons_zero, List.getElem_cons_succ, Act.put, List.setIfInBounds_toArray, List.set_cons_zero, List.set_cons_succ])
        (refine zaI rfl (by rfl) (fun K hK => ?_); go_simp; (refine (zeW 1 32 (q : Int) q1 q2 _ (d1w _ hBase) (d2w _ hBase)).mono ?_; rw [hd.out]; rintro e' w7 ⟨rfl, hbx⟩); refine hK.out _ _ hbx ?_; clear hK K; replace hBase := zaa hBase hbx)
        iterate 2 (refine zae rfl (by rfl) (v := ?_) ?_ ?_; rotate_left 1; (intro W hW; have hW0 := zaa hBase hW; (try dsimp only at hW); go_simp <;> with_reducible rfl); simp only [List.getElem_toArray, List.getElem_cons_zero, List.getElem_cons_succ, Act.put, List.setIfInBounds_toArray, List.set_cons_zero, List.set_cons_succ])
        iterate 3 (refine zae rfl (by rfl) (v := ?_) ?_ ?_; rotate_left 1; (intro W hW; have hW0 := zaa hBase hW; (try dsimp only at hW); go_simp <;> with_reducible rfl); simp only [List.getElem_toArray, List.getElem_cons_zero, List.getElem_cons_succ, Act.put, List.setIfInBounds_toArray, List.set_cons_zero, List.set_cons_succ])
        iterate 10 (refine zae rfl (by rfl) (v := ?_) ?_ ?_; rotate_left 1; (intro W hW; have hW0 := zaa hBase hW; (try dsimp only at hW); go_simp <;> with_reducible rfl); simp only [List.getElem_toArray, List.getElem_cons_zero, List.getElem_cons_succ, Act.put, List.setIfInBounds_toArray, List.set_cons_zero, List.set_cons_succ])
        iterate 2 (refine zae rfl (by rfl) (v := ?_) ?_ ?_; rotate_left 1; (intro W hW; have hW0 := zaa hBase hW; (try dsimp only at hW); go_simp <;> with_reducible rfl); simp only [List.getElem_toArray, List.getElem_cons_zero, List.getElem_cons_succ, Act.put, List.setIfInBounds_toArray, List.set_cons_zero, List.set_cons_succ])
        refine zal ?_
        have HB8 := Lib.hid (zaa HB7.out hBase)
        clear e0 e2 c1 d1w d2w f0w
        go_wp2_with fail
        go_ret
        exact ⟨by rw [HPF.out]; rfl, HB8.out⟩
      ·have kk : ¬ (0 : Int) < (k : Int) := by omega
       have kd : decide ((0 : Int) < (k : Int)) = false := decide_eq_false kk
       have HS3 := Lib.hid (HS.out ⟨HSQ.out, fun h => absurd h hk0⟩)
       clear HS HE H0 f0
       refine zaw (.step 0 false (.step 1 false (.step 2 false (.step 3 false (.step 4 true (.step 5 false (.step 6 false (.step 7 false (.step 8 false (.step 9 false (.step 10 false (.step 11 false (.step 12 false (.step 13 false (.step 14 false (.step 15 false (.step 16 false (.step 17 false (.step 18 false (.step 19 false (.step 20 false (.step 21 false (.nil))))))))))))))))))))))) (by kernel_rfl) (by kernel_rfl) (by rfl) (by kernel_rfl) ?_
       iterate 4 (refine zae rfl (by rfl) (v := ?_) ?_ ?_; rotate_left 1; (intro W hW; have hW0 := zaa hBase hW; (try dsimp only at hW); go_simp <;> with_reducible rfl); simp only [List.getElem_toArray, List.getElem_cons_zero, List.getElem_cons_succ, Act.put, List.setIfInBounds_toArray, List.set_cons_zero, List.set_cons_succ])
       (refine zaI rfl (by rfl) (fun K hK => ?_); go_simp; (refine (zeW 1 32 (q : Int) q1 q2 _ (d1w _ hBase) (d2w _ hBase)).mono ?_; rw [hd.out]; rintro e' w7 ⟨rfl, hbx⟩); refine hK.out _ _ hbx ?_; clear hK K; replace hBase := zaa hBase hbx)
       iterate 2 (refine zae rfl (by rfl) (v := ?_) ?_ ?_; rotate_left 1; (intro W hW; have hW0 := zaa hBase hW; (try dsimp only at hW); go_simp <;> with_reducible rfl); simp only [List.getElem_toArray, List.getElem_cons_zero, List.getElem_cons_succ, Act.put, List.setIfInBounds_toArray, List.set_cons_zero, List.set_cons_succ])
       iterate 3 (refine zae rfl (by rfl) (v := ?_) ?_ ?_; rotate_left 1; (intro W hW; have hW0 := zaa hBase hW; (try dsimp only at hW); go_simp <;> with_reducible rfl); simp only [List.getElem_toArray, List.getElem_cons_zero, List.getElem_cons_succ, Act.put, List.setIfInBounds_toArray, List.set_cons_zero, List.set_cons_succ])
       iterate 10 (refine zdh rfl (by rfl) ?_; simp only [List.getElem_toArray, List.getElem_cons_zero, List.getElem_cons_succ, Act.put, List.setIfInBounds_toArray, List.set_cons_zero, List.set_cons_succ])
       iterate 2 (refine zae rfl (by rfl) (v := ?_) ?_ ?_; rotate_left 1; (intro W hW; have hW0 := zaa hBase hW; (try dsimp only at hW); go_simp <;> with_reducible rfl); simp only [List.getElem_toArray, List.getElem_cons_zero, List.getElem_cons_succ, Act.put, List.setIfInBounds_toArray, List.set_cons_zero, List.set_cons_succ])
       refine zal ?_
       have HB8 := Lib.hid (HB6.out.trans (hBase.mono hs6))
       clear e0 e2 c1 d1w d2w
       go_wp2_with fail
       go_roundw
       case rel => exact ⟨⟨k + 1, by go_num, by omega, HS3.out⟩, HB8.out⟩
       case measure => simp [intOf]; omega
     ·have hd : Hid (decide (((1 : Nat) : Int) ≤ (q : Int) ∧ (q : Int) ≤ ((32 : Nat) : Int)) = false) := decide_eq_false (by omega)
      have HPF : Hid (P = false) := HPO.out.trans (HE.out (fun h => hq (HSK.out.1 h.1)))
      clear HS HE H0 f0 hq
      refine zaw (.step 0 false (.step 1 false (.step 2 false (.step 3 false (.step 4 true (.step 5 false (.step 6 false (.step 7 false (.step 8 false (.step 9 false (.step 10 false (.step 11 false (.step 12 false (.step 13 false (.step 14 false (.step 15 false (.step 16 false (.step 17 false (.step 18 false (.step 19 false (.step 20 false (.step 21 false (.nil))))))))))))))))))))))) (by kernel_rfl) (by kernel_rfl) (by rfl) (by kernel_rfl) ?_
      iterate 4 (refine zae rfl (by rfl) (v := ?_) ?_ ?_; rotate_left 1; (intro W hW; have hW0 := zaa hBase hW; (try dsimp only at hW); go_simp <;> with_reducible rfl); simp only [List.getElem_toArray, List.getElem_cons_zero, List.getElem_cons_succ, Act.put, List.setIfInBounds_toArray, List.set_cons_zero, List.set_cons_succ])
      (refine zaI rfl (by rfl) (fun K hK => ?_); go_simp; (refine (zeW 1 32 (q : Int) q1 q2 _ (d1w _ hBase) (d2w _ hBase)).mono ?_; rw [hd.out]; rintro e' w7 ⟨rfl, hbx⟩); refine hK.out _ _ hbx ?_; clear hK K; replace hBase := zaa hBase hbx)
      iterate 2 (refine zae rfl (by rfl) (v := ?_) ?_ ?_; rotate_left 1; (intro W hW; have hW0 := zaa hBase hW; (try dsimp only at hW); go_simp <;> with_reducible rfl); simp only [List.getElem_toArray, List.getElem_cons_zero, List.getElem_cons_succ, Act.put, List.setIfInBounds_toArray, List.set_cons_zero, List.set_cons_succ])
      iterate 14 (refine zdh rfl (by rfl) ?_; simp only [List.getElem_toArray, List.getElem_cons_zero, List.getElem_cons_succ, Act.put, List.setIfInBounds_toArray, List.set_cons_zero, List.set_cons_succ])
      iterate 1 (refine zae rfl (by rfl) (v := ?_) ?_ ?_; rotate_left 1; (intro W hW; have hW0 := zaa hBase hW; (try dsimp only at hW); go_simp <;> with_reducible rfl); simp only [List.getElem_toArray, List.getElem_cons_zero, List.getElem_cons_succ, Act.put, List.setIfInBounds_toArray, List.set_cons_zero, List.set_cons_succ])
      refine zal ?_
      have HB8 := Lib.hid (zaa HB7.out hBase)
      clear e0 e2 c1 d1w d2w
      go_wp2_with fail
      go_ret
      exact ⟨by rw [HPF.out]; rfl, HB8.out⟩
    ·have HPT : Hid (P = true) := HPO.out.trans ((zm2 _).2 (fun j hj => by
      rw [zaF] at hj
      have h1 := hs j hj (by have := HN.out; omega)
      rw [zcj es j hj]
      refine ⟨h1.1, fun h0 => ?_⟩
      rw [zcj es (j - 1) (by omega)]
      exact h1.2 h0))
     have hkn : ¬ (k : Int) < (n : Int) := by omega
     clear hs
     go_wp2_with fail
     go_ret
     exact ⟨by rw [HPT.out]; rfl, HB3.out⟩
 ·have hd : Hid (decide (((0 : Nat) : Int) ≤ (n : Int) ∧ (n : Int) ≤ ((64 : Nat) : Int)) = false) := decide_eq_false (by omega)
  have HPF : Hid (P = false) := by unfold Hid; rw [← HP.out, decide_eq_false h64]; rfl
  rw [hd.out] at hin
  go_wp2_with fail
  refine hin.mono ?_
  rintro e w3 ⟨rfl, rfl⟩
  go_wp2_with fail
  go_ret
  exact ⟨by rw [HPF.out]; rfl, hB⟩
def zoX (row : Option Nat) (xs : List ED) : Prop := ∀ y ∈ xs, y.s ≠ [] → ∀ a, y.A = some a → row ≠ some a.block
def newD (B : Nat) (xs : List ED) : Prop := ∀ y ∈ xs, y.s ≠ [] → ∀ a, y.A = some a → B ≤ a.block
theorem Rd.lt_ofD {α : Type} {f : α → Value} {w : World} {A : Option Addr} {L : List α} (h : Rd f w A L) (hn : L ≠ []) {a : Addr} (ha : A = some a) : a.block < w.heap.size := by
 obtain ⟨b, o, e, hb, _⟩ := h.at (k := 0) (by cases L; exact absurd rfl hn; simp)
 rw [ha] at e
 injection e with e
 rw [e]
 exact hb
theorem Rd.grownD {α : Type} {f : α → Value} {w w' : World} {row : Option Nat} {A : Option Addr} {L : List α} (h : Rd f w A L) (hg : w.grownBy w' row) (hA : L ≠ [] → ∀ a, A = some a → row ≠ some a.block) : Rd f w' A L := by
 by_cases e : L = []
 ·subst e
  exact Rd.nil
 ·exact h.grown hg (hA e)
def OwnE (B : Nat) (t : TypeId) (xs : List ED) (v : Value) (w : World) : Prop := w.ownsRow B t 3 v xs.length (zbc xs) ∧ okD w xs ∧ zoX v.ownBlock xs ∧ newD B xs
theorem OwnE.nil (B : Nat) (t : TypeId) (w : World) : OwnE B t [] (.slice none 0 0) w := ⟨World.ownsRow_nil _ _ _ _, okD.nil _, (fun y hy => by cases hy), (fun y hy => by cases hy)⟩
theorem OwnE.later {B : Nat} {t : TypeId} {xs : List ED} {v : Value} {w w' : World} (h : OwnE B t xs v w) (hb : Below w.heap.size w w') : OwnE B t xs v w' := ⟨zem h.1 hb, h.2.1.keep hb, h.2.2⟩
theorem OwnE.same {B : Nat} {t : TypeId} {xs : List ED} {v : Value} {w w' : World} (h : OwnE B t xs v w) (hh : ∀ b, B ≤ b → b < w.heap.size → w'.heap[b]? = w.heap[b]?) : OwnE B t xs v w' := by
 refine ⟨zdB h.1 hh, fun y hy => ?_, h.2.2⟩
 obtain ⟨h1, h2⟩ := h.2.1 y hy
 refine ⟨h1, fun hn => ?_⟩
 obtain ⟨b, o, e, hc⟩ := h2 hn
 have hB := h.2.2.2 y hy hn _ e
 refine ⟨b, o, e, fun i hi => ?_⟩
 have hci := hc i hi
 exact (World.cell?_of_block (w := w) (a := ⟨b, o + i, none⟩) (hh b hB (World.block_lt_of_cell? w _ hci))).trans hci
theorem OwnE.more2 {B : Nat} {t : TypeId} {xs : List ED} {y : ED} {v v' : Value} {w w1 w2 w3 : World} (h : OwnE B t xs v w) (h1 : OwnE B t xs v w1) (hy : y.ok w1) (hn : y.s ≠ [] → ∀ a, y.A = some a → w.heap.size ≤ a.block) (hBw : B ≤ w.heap.size) (hb2 : Below w1.heap.size w1 w2) (ho : w3.ownsRow B t 3 v' (xs.length + 1) (zbc xs ++ y.cells)) (hg : w2.grownBy w3 v.ownBlock) (hv : v'.ownBlock = v.ownBlock ∨ v'.ownBlock = some w2.heap.size) : OwnE B t (xs ++ [y]) v' w3 := by
 have hok2 : okD w2 (xs ++ [y]) := (h1.2.1.keep hb2).app (fun z hz => by simp at hz; subst hz; exact hy.keep hb2)
 have hap : zoX v.ownBlock (xs ++ [y]) := fun z hz => by
  rcases List.mem_append.1 hz with hz | hz
  ·exact h.2.2.1 z hz
  ·simp at hz
   subst hz
   intro hs a ha e
   have h1 := hn hs a ha
   have h2 := (h.1.lt _ e).2
   omega
 refine ⟨by rw [zjH, List.length_append]; exact ho, fun z hz => ?_, ?_, fun z hz => ?_⟩
 ·obtain ⟨h1, h2⟩ := hok2 z hz
  exact ⟨h1, h2.grownD hg (hap z hz)⟩
 ·rcases hv with hv | hv
  ·rw [hv]; exact hap
  ·rw [hv]
   intro z hz hs a ha e
   have h1 := (hok2 z hz).2.lt_ofD hs ha
   injection e with e
   omega
 ·rcases List.mem_append.1 hz with hz | hz
  ·exact h.2.2.2 z hz
  ·simp at hz
   subst hz
   intro hs a ha
   exact Nat.le_trans hBw (hn hs a ha)
theorem OwnE.slice {B : Nat} {t : TypeId} {xs : List ED} {v : Value} {w : World} (h : OwnE B t xs v w) : ∃ A cap, v = .slice A xs.length cap ∧ xs.length ≤ cap ∧ RdE w A xs := by
 obtain ⟨A, c, rfl, hc⟩ := zeV h.1
 exact ⟨A, c, rfl, hc, RdE.own h.1⟩
section
variable {P : Program}
theorem zen (w : World) {o : Oper} {a : Act} {K : Act → World → Prop} {Q : Exit → Act → World → Prop} (s x : Operand) (t : TypeId)
  (ho : o.op = .call { callee := .builtin .append, args := #[s, x], argTypes := #[t, t] })
  (base : Nat) (e : TypeId) (i : TypeInfo) (z : Value) (size bytes : Nat) (ht : P.underlying t = some (.slice e)) (hi : P.info? e = some i) (hz : i.zero = some z)
  (hsize : i.size = size) (hby : i.bytes = bytes) (hzs : z.cells.size = size) (hsp : 0 < size) (v : Value) (n : Nat) (xs : List Value) (hs : a.eval s = v) (hown : w.ownsRow base e size v n xs)
  (ad : Addr) (m c : Nat) (news : List Value) (hx : a.eval x = .slice (some ad) m c) (hl : news.length = m * size) (hnews : ∀ j u, news[j]? = some u → w.cell? (ad.add j) = some u) (h1 : ∀ u ∈ news, u.oneCell' = true)
  (h63 : n + m ≤ maxLen) (hbytes : (n + m) * bytes ≤ 140737488355328) (hbase : base ≤ w.heap.size)
  (h : ∀ v' w', w'.ownsRow base e size v' (n + m) (xs ++ news) → w.grownBy w' v.ownBlock → (v'.ownBlock = v.ownBlock ∨ v'.ownBlock = some w.heap.size) → K (a.put o.dst v') w') : o.wp P a w K Q := by
 obtain ⟨v', w', hr, h2, h3, _, h4⟩ := run_append_own_at (P := P) w base t o.type e i z size bytes ht hi hz hsize hby hzs hsp v n xs hown ad m c news hl hnews h1 h63 hbytes hbase
 unfold Oper.wp execOp
 simp only [ho, resolve, invoke, builtin, Sem.run_bind, Sem.run_pure, Result.andThen_ok, List.map_toArray, List.map_cons, List.map_nil, hs, hx, hr]
 exact h v' w' h2 h3 h4
end
theorem zfG {fn : Func} {p u v : Tmp} {ty : TypeId} (h : fn.results = #[.cell p ty, .tmp u, .tmp v]) (tmps : Array Value) (P : Program) (w : World) :
  (results fn tmps).run P w = ((asAddr (tmps.getD p undef)).run P w).andThen fun a w₁ => ((loadVar ty a).run P w₁).andThen fun x w₂ => .ok (.tuple #[x, tmps.getD u undef, tmps.getD v undef]) w₂ := by
 simp only [results, h]
 simp [Sem.run_bind, Result.andThen]
theorem zdX {P : Program} {fn : Func} {p u v : Tmp} {ty : TypeId} (h : fn.results = #[.cell p ty, .tmp u, .tmp v]) (tmps : Array Value) (w : World) (g : Nat) (t : TypeId) (l : List Value) (d : TypeDesc) (hp : tmps.getD p undef = .pointer (some ⟨g, 0, none⟩)) (hg : Row w g t l)
  (hu : P.underlying ty = some d) (hd : d.isRow = true) (hi : (P.info? ty).map (·.size) = some l.length) : (results fn tmps).run P w = .ok (.tuple #[.agg l.toArray, tmps.getD u undef, tmps.getD v undef]) w := by
 rw [zfG h, hp]
 simp only [asAddr, Sem.run_pure, Result.andThen_ok, hg.loadVar (P := P) ty d hu hd hi]
def zlj : List Value := [.int .u64 0, .slice none 0 0, .slice none 0 0]
theorem OwnE.rd {B : Nat} {t : TypeId} {xs : List ED} {A : Option Addr} {n c : Nat} {w : World} (h : OwnE B t xs (.slice A n c) w) (hn : xs.length = n) : RdE w A xs := by subst hn; exact RdE.own h.1
theorem Row.newsD {w : World} {g : Nat} {t : TypeId} {l : List Value} (h : Row w g t l) : ∀ j u, l[j]? = some u → w.cell? ((⟨g, 0, none⟩ : Addr).add j) = some u := fun j u hu => by
 have e1 : (⟨g, 0, none⟩ : Addr).add j = ⟨g, 0 + j, none⟩ := by unfold Addr.add; split <;> simp_all
 rw [e1]
 exact h.range j u hu
theorem zhd : (Tryz.prog.info? 91).map (fun i => (i.zero, i.size, i.bytes)) = some (some (.agg #[.int .u64 0, .int .u64 0, .slice none 0 0]), 3, 40) := by kernel_rfl
theorem OwnE.only {B g : Nat} {t : TypeId} {xs : List ED} {v : Value} {w w' : World} (h : OwnE B t xs v w) (k : Only g w w') (hg : g < B) : OwnE B t xs v w' := h.same (fun b hb hl => k.other b (by omega) hl)
def BunI (q : Nat) (k2 : Int) (S2 : List UInt8) (v : Nat) (vS : Value) (w : World) (g1 g2 B : Nat) (i : Value) (wr : World) : Prop :=
 ∃ k es u kk S, i = .int .i64 ((k : Nat) : Int) ∧ k ≤ q ∧ (es : List ED).length = k ∧ Hid (zb2 q k2 S2 = (conE es ++ (zb2 (q - k) kk S).1, (zb2 (q - k) kk S).2)) ∧ (∀ x ∈ es, x.s.length ≤ 32) ∧ Row wr w.heap.size 32 zlj ∧ Row wr g2 32 [.int .u64 (v : Int), u, .slice none 0 0] ∧
  OwnE B 91 es u wr ∧ RdRF g1 kk S wr ∧ IsW g1 1 32 vS wr ∧ Below w.heap.size w wr ∧ B ≤ wr.heap.size
def zoY (g : Nat) (k : Int) (W : World) : Prop := W.cell? ⟨g, 1, none⟩ = some (.int .i64 k) ∧ True
def zpS (g1 g2 : Nat) (v : Value) (a b c : Value) (W : World) : Prop := W.cell? ⟨g1, 0, none⟩ = some v ∧ (W.cell? ⟨g2, 0, none⟩ = some a ∧ (W.cell? ⟨g2, 1, none⟩ = some b ∧ W.cell? ⟨g2, 2, none⟩ = some c))
def zoZ (w : World) (X : ResB) (e : Ending) (w' : World) : Prop :=
 ∃ eA es n ec gA m gc, e = .returned (.tuple #[aggB X.1 eA n ec gA m gc, .int .i64 (X.2.2.2.1 : Int), .int .i64 X.2.2.2.2]) ∧ Hid (conE es = X.2.1) ∧ Hid (es.length = n) ∧ Hid (X.2.2.1.length = m) ∧ n ≤ ec ∧ m ≤ gc ∧ RdE w' eA es ∧ okD w' es ∧ RdG w' gA X.2.2.1 ∧
  ((∀ a, eA = some a → w.heap.size ≤ a.block) ∧ newD w.heap.size es ∧ ∀ a, gA = some a → w.heap.size ≤ a.block) ∧ Below w.heap.size w w'
theorem zlk {w w' : World} {X : ResB} {k : Int} (hX : Hid (X = badB k)) (hb : Below w.heap.size w w') : zoZ w X (.returned (.tuple #[.agg zlj.toArray, .int .i64 0, .int .i64 k])) w' := by
 rw [hX.out]
 exact ⟨none, [], 0, 0, none, 0, 0, rfl, Lib.hid rfl, Lib.hid rfl, Lib.hid rfl, Nat.le_refl _, Nat.le_refl _, RdE.nil, okD.nil _, RdG.nil, ⟨(fun a h => by cases h), (fun y hy => by cases hy), fun a h => by cases h⟩, hb⟩
theorem ziJ (b : List UInt8) (n c : Nat) (A : Option Addr) (w : World) (HN : Hid (b.length = n)) (hr : Rd vB w A b) (hn : n ≤ 1000000) (hc : n ≤ c) :
  Calls Tryz.prog 164 #[.slice A n c] w (zoZ w (zaE b)) := by
 obtain ⟨j0, hj, gz0, gz1, gz2⟩ := info_parts zhd
 obtain ⟨P, hP⟩ : ∃ P, zaE b = P := ⟨_, rfl⟩
 rw [hP]
 obtain ⟨k0, S0, H0⟩ : ∃ k S, zeS 66 b = (k, S) := ⟨_, _, rfl⟩
 obtain ⟨v, k1, S1, H1⟩ : ∃ x k S, zaH k0 S0 = (x, k, S) := ⟨_, _, _, rfl⟩
 obtain ⟨q, k2, S2, H2⟩ : ∃ x k S, cntK 0 64 k1 S1 = (x, k, S) := ⟨_, _, _, rfl⟩
 have hq64 : q ≤ 64 := by have := zjF 0 64 k1 S1; rw [H2] at this; exact this
 have HFN : Hid (∀ {es : List En} {k3 : Int} {S3 : List UInt8}, zb2 q k2 S2 = (es, k3, S3) → ∀ (k' : Int) (S' : List UInt8) (l : List Gn), (k3 ≠ 0 → k' = k3) → (k3 = 0 → k' = (zaO S3).2.2 ∧ (k' = 0 → l = (zaO S3).1 ∧ S' = S3.drop (zaO S3).2.1 ∧ (zaO S3).2.1 ≤ S3.length)) →
   (finK (zaJ es l) k' ≠ 0 → P = badB (finK (zaJ es l) k')) ∧ (finK (zaJ es l) k' = 0 → P = (v, es, l, n - S'.length, 0) ∧ S'.length ≤ n)) := by
  intro es k3 S3 h3 k' S' l g1 g2
  have := zmM H0 H1 H2 h3 g1 g2
  rw [hP, HN.out] at this
  exact this
 have HFIT : Hid (∀ x ∈ (zb2 q k2 S2).1, x.1 < 18446744073709551616 ∧ x.2.1 < 18446744073709551616 ∧ x.2.2.length ≤ 32) := ziB q k2 S2
 have hvlt : v < 18446744073709551616 := by have := zhQ k0 S0; rw [H1] at this; exact this
 replace H0 := Lib.hid H0
 replace H1 := Lib.hid H1
 replace H2 := Lib.hid H2
 clear hP
 obtain ⟨hR0, hB0⟩ := zdU w 32 (.int .u64 0) (.slice none 0 0) (.slice none 0 0)
 go_enter Tryz.func164, Tryz.ntmps164
 go_upto_region 1 with fail
 generalize (w.alloc (.cells #[.int .u64 0, .slice none 0 0, .slice none 0 0] 32)) = W0 at hR0 hB0 ⊢
 go_wp2_with fail
 refine (zhb W0).mono ?_
 rintro e W1 ⟨vE, vS, rfl, hWE, hWS, hb⟩
 replace hR0 := hR0.later hb
 replace hB0 := zaa hB0 hb
 replace hr := hr.keep hB0
 clear hb
 go_upto_region 2 with fail
 have hgl := hR0.lt
 have hA : b ≠ [] → ∀ a, A = some a → a.block < W1.heap.size := hr.off
 have hRs : Row (W1.alloc (.cells #[.slice A n c, .int .i64 0] 186)) W1.heap.size 186 [.slice A n c, .int .i64 0] := Row.new W1 _ _ _ rfl
 have hb2 := zak (Below.refl W1.heap.size W1) (.cells #[.slice A n c, .int .i64 0] 186)
 go_upto_region 3 with fail
 replace hr := hr.keep hb2
 replace hR0 := hR0.later hb2
 replace hB0 := zaa hB0 hb2
 replace hWE := hWE.below hb2 (Nat.le_refl _)
 replace hWS := hWS.below hb2 (Nat.le_refl _)
 generalize (W1.alloc (.cells #[.slice A n c, .int .i64 0] 186)) = W2 at hr hR0 hRs hB0 hWE hWS ⊢
 clear hb2
 generalize W1.heap.size = g1 at hgl hRs hA hWE hWS ⊢
 have hS : RdS g1 b n 0 W2 := ⟨A, c, hRs, HN, hc, hr, hA⟩
 have hg1 := hRs.lt
 clear hRs hr hA
 have hle : w.heap.size ≤ g1 := by omega
 have hne : w.heap.size ≠ g1 := by omega
 have hRx : Row (W2.alloc (.cells #[.int .u64 0, .slice none 0 0, .slice none 0 0] 32)) W2.heap.size 32 zlj := Row.new W2 _ _ _ rfl
 have hbn := zak (Below.refl W2.heap.size W2) (.cells #[.int .u64 0, .slice none 0 0, .slice none 0 0] 32)
 have hS1 : RdS g1 b n 0 (W2.alloc (.cells #[.int .u64 0, .slice none 0 0, .slice none 0 0] 32)) := by
  obtain ⟨A', c', h1, h2, h3, h4, h5⟩ := hS
  exact ⟨A', c', h1.later hbn, h2, h3, h4.keep hbn, h5⟩
 replace hR0 := hR0.later hbn
 replace hB0 := zaa hB0 hbn
 replace hWE := hWE.below hbn (by omega)
 replace hWS := hWS.below hbn (by omega)
 go_upto_region 4 with fail
 generalize W2.alloc (.cells #[.int .u64 0, .slice none 0 0, .slice none 0 0] 32) = W3 at hS1 hR0 hB0 hRx hWE hWS ⊢
 clear hbn hS
 generalize W2.heap.size = g2 at hg1 hRx ⊢
 have hn2 : g2 ≠ g1 := by omega
 have hn4 : w.heap.size ≠ g2 := by omega
 have hl2 : w.heap.size ≤ g2 := by omega
 have hl12 : g1 + 1 ≤ g2 := by omega
 have hl1 : g1 ≤ g2 := by omega
 go_wp2_with fail
 refine (zks 66 66 rfl (by decide) g1 b n W3 hS1 (by omega)).mono ?_
 rw [H0.out]
 rintro e₁ W4 ⟨rfl, hT, hO⟩
 dsimp only at hT
 replace hR0 := hR0.only hO hne
 replace hRx := hRx.only hO hn2
 replace hWE := hWE.below hO.below (Nat.le_refl _)
 replace hWS := hWS.below hO.below (Nat.le_refl _)
 replace hB0 := hB0.trans (hO.below.mono hle)
 clear hO hS1
 go_wp2_with fail
 refine (zbb g1 k0 S0 W4 hT).mono ?_
 rw [H1.out]
 rintro e₁ w4 ⟨rfl, hT4, hO⟩
 dsimp only at hT4 ⊢
 replace hR0 := hR0.only hO hne
 replace hRx := hRx.only hO hn2
 replace hWE := hWE.below hO.below (Nat.le_refl _)
 replace hWS := hWS.below hO.below (Nat.le_refl _)
 replace hB0 := hB0.trans (hO.below.mono hle)
 clear hO hT
 have f0 := hRx.frozen 0
 have c0 : w4.cell? ⟨g2, 0, none⟩ = some (.int .u64 0) := hRx.cell rfl
 have hT5 := hT4.below ((Below.refl _ w4).setCell (p := ⟨g2, 0, none⟩) hl12 (.int .u64 (v : Int)))
 have hR05 := hR0.setCell_other (p := ⟨g2, 0, none⟩) hn4 (.int .u64 (v : Int))
 have hRx5 : Row (w4.setCell ⟨g2, 0, none⟩ (.int .u64 (v : Int))) g2 32 [.int .u64 (v : Int), .slice none 0 0, .slice none 0 0] := hRx.setCell 0 (.int .u64 (v : Int))
 have hB5 := hB0.setCell (p := ⟨g2, 0, none⟩) hl2 (.int .u64 (v : Int))
 have hWE5 := hWE.below ((Below.refl g2 w4).setCell (p := ⟨g2, 0, none⟩) (Nat.le_refl _) (.int .u64 (v : Int))) hl1
 have hWS5 := hWS.below ((Below.refl g2 w4).setCell (p := ⟨g2, 0, none⟩) (Nat.le_refl _) (.int .u64 (v : Int))) hl1
 clear hT4 hR0 hRx hB0 hWE hWS
 go_upto_region 6 with fail
 generalize w4.setCell ⟨g2, 0, none⟩ (.int .u64 (v : Int)) = W5 at hT5 hR05 hRx5 hB5 hWE5 hWS5 ⊢
 clear c0 f0
 go_wp2_with fail
 refine (ziH g1 k1 S1 g1 0 64 vE W5 hT5 hWE5 (Nat.le_refl _)).mono ?_
 rw [H2.out]
 rintro e₁ W6 ⟨rfl, hT6, hO⟩
 dsimp only at hT6 ⊢
 have hR06 := hR05.only hO hne
 have hRx6 := hRx5.only hO hn2
 have hWS6 := hWS5.below hO.below (Nat.le_refl _)
 have hB6 := hB5.trans (hO.below.mono hle)
 clear hO hT5 hR05 hRx5 hB5 hWE5 hWS5
 have hB2 : g2 < W6.heap.size := hRx6.lt
 obtain ⟨B, hBB⟩ : ∃ B, B = W6.heap.size := ⟨_, rfl⟩
 have hBle : B ≤ W6.heap.size := by omega
 have hg2B : g2 < B := by omega
 have hg1B : g1 < B := by omega
 clear hBB hB2
 go_upto_region 7 with fail
 go_loopw [24] (fun i wr => BunI q k2 S2 v vS w g1 g2 B i wr) (fun i _ => q - (intOf i).toNat)
 case atStart => exact ⟨0, [], .slice none 0 0, k2, S2, rfl, Nat.zero_le _, rfl, Lib.hid rfl, (fun x hx => by cases hx), hR06, hRx6, OwnE.nil _ _ _, hT6, hWS6, hB6, hBle⟩
 case round =>
  clear hT6 hR06 hRx6 hWS6 hB6 hBle
  obtain ⟨k, es, u, kk, S, rfl, hk, hes, hents, hsd, hR, hX, hown, hT, hWS, hbel, hszr⟩ := hrel
  by_cases hlt : k < q
  ·have HMORE := Lib.hid (zmN hlt hents.out)
   have hi1 : (k : Int) < (q : Int) := by omega
   obtain ⟨eA, ec, hu, hec, _⟩ := hown.slice
   rw [hes] at hu hec
   subst hu
   have HES := Lib.hid hes
   have HSD := Lib.hid hsd
   have HENT := Lib.hid (fun W (hT : RdRF g1 kk S W) (hv : IsW g1 1 32 vS W) => zjP g1 kk S g1 vS W hT hv (Nat.le_refl _))
   have HELT := Lib.hid (zku kk S)
   generalize entK kk S = X at HMORE HENT HELT
   obtain ⟨⟨x1, x2, x3⟩, kX, SX⟩ := X
   dsimp only at HMORE HENT HELT
   clear hents hes hsd
   have c1 : wr.cell? ⟨g2, 1, none⟩ = some (.slice eA k ec) := hX.cell rfl
   go_upto_region 8 with fail
   have hS : wr.drew.cell? ⟨g2, 1, none⟩ = some (.slice eA k ec) ∧ True := ⟨c1, trivial⟩
   refine zci (fun W => W.cell? ⟨g2, 1, none⟩ = some (.slice eA k ec) ∧ True) (.step 0 false (.step 1 false (.step 2 false (.step 3 false (.step 4 true (.step 5 true (.step 6 true (.step 7 false .nil)))))))) hS (by rfl) (by kernel_rfl) (by kernel_rfl) (by decide) (by kernel_rfl) (by kernel_rfl) (by kernel_rfl) (by kernel_rfl) ?_
   simp only [zbo, List.dropLast]
   have hSd : wr.drew.cell? ⟨g2, 1, none⟩ = some (.slice eA k ec) := c1
   have hownD : OwnE B 91 es (.slice eA k ec) wr.drew := hown.later (Below.refl _ _).drew
   have hRD : Row wr.drew w.heap.size 32 zlj := hR
   have hXD : Row wr.drew g2 32 [.int .u64 (v : Int), .slice eA k ec, .slice none 0 0] := hX
   have hTD : RdRF g1 kk S wr.drew := hT.below (Below.refl _ _).drew
   have hWD : IsW g1 1 32 vS wr.drew := hWS.below (Below.refl _ _).drew (Nat.le_refl _)
   have hBD : Below w.heap.size w wr.drew := hbel.drew
   have hsz : wr.heap.size = wr.drew.heap.size := rfl
   rw [hsz] at hszr
   clear hR hX hown hT hWS hbel c1 hS
   iterate 4 (refine zae rfl (by rfl) (v := ?_) ?_ ?_; rotate_left 1; (intro W hW; (try dsimp only at hW); obtain ⟨hW0, hW1⟩ := hW; go_simp <;> with_reducible rfl); simp only [List.getElem_toArray, List.getElem_cons_zero, List.getElem_cons_succ, Act.put, List.setIfInBounds_toArray, List.set_cons_zero, List.set_cons_succ])
   generalize wr.drew = wd at hSd hownD hRD hXD hTD hWD hBD hszr ⊢
   clear hsz
   refine zad rfl (by rfl) (fun K hK => ?_)
   go_simp
   refine (HENT.out wd hTD hWD).mono ?_
   rintro e₁ w7 ⟨A7, l7, c7, rfl, HL7, hl7, hr7, hA7, hT7, hO⟩
   have hR7 := hRD.only hO hne
   have hX7 := hXD.only hO hn2
   have hW7 := hWD.below hO.below (Nat.le_refl _)
   have hB7 := hBD.trans (hO.below.mono hle)
   have hown7 := hownD.only hO hg1B
   have hs7 := hO.below.size
   have hS7 : w7.cell? ⟨g2, 1, none⟩ = some (.slice eA k ec) ∧ True := ⟨hX7.cell rfl, trivial⟩
   refine hK.out _ _ hS7 ?_
   clear hK K hO hTD hRD hXD hWD hBD hSd
   have hl7e := HL7.out
   subst hl7e
   have hb8 : Below w7.heap.size w7 (w7.alloc (.cells #[.int .u64 (x1 : Int), .int .u64 (x2 : Int), .slice A7 x3.length c7] 91)) := zak (Below.refl _ _) _
   have hg27 := hX7.lt
   (refine zad rfl (by rfl) (fun K hK => ?_); unfold aggN; go_simp; refine hK.out _ _ ⟨(hb8.cell (p := ⟨g2, 1, none⟩) hg27).trans hS7.1, trivial⟩ ?_; clear hK K)
   have hown8k : w7.ownsRow B 91 3 (.slice eA k ec) k (zbc es) := by
    have := hown7.1
    rw [HES.out] at this
    exact this
   have hown8 := zem hown8k hb8
   have hnews := (Row.new w7 91 (ED.mk x1 x2 A7 c7 x3).cells #[.int .u64 (x1 : Int), .int .u64 (x2 : Int), .slice A7 x3.length c7] rfl).newsD
   have hs8 := hb8.size
   refine zad rfl (by rfl) (fun K hK => ?_)
   refine zen _ (.tmp 27) (.tmp 31) 29 (by rfl) B 91 j0 (.agg #[.int .u64 0, .int .u64 0, .slice none 0 0]) 3 40 Tryz.underlying29 hj gz0 gz1 gz2 rfl (by decide) (.slice eA k ec) k (zbc es) (by rfl) hown8 ⟨w7.heap.size, 0, none⟩ 1 1 (ED.mk x1 x2 A7 c7 x3).cells (by rfl) (by rfl) hnews (ED.one _) (by unfold maxLen; omega) (by omega) (by omega) ?_
   intro v9 w9 hown9 hgrow9 hat9
   obtain ⟨A9, c9, rfl, hc9q⟩ := zeV hown9
   have hO9 : OwnE B 91 (es ++ [ED.mk x1 x2 A7 c7 x3]) (.slice A9 (k + 1) c9) w9 := hownD.more2 hown7 ⟨hl7, hr7⟩ (fun _ a ha => hA7 a ha) hszr hb8 (by rw [HES.out]; exact hown9) hgrow9 hat9
   have hbd9 : Below B w7 w9 := (hb8.mono (by omega)).grown hgrow9 (by omega) (fun j hj => (hown8.lt j hj).1)
   have hR9 := (hR7.later hb8).grown hgrow9 (fun e => by have := (hown8.lt _ e).1; omega)
   have hX9 := (hX7.later hb8).grown hgrow9 (fun e => by have := (hown8.lt _ e).1; omega)
   have hT9 := hT7.below (hbd9.mono (by omega))
   have hW9 := hW7.below hbd9 (by omega)
   have HB9 := Lib.hid (hB7.trans (hbd9.mono (by omega)))
   have hs9 := hbd9.size
   simp only [List.getElem_toArray, List.getElem_cons_zero, List.getElem_cons_succ, Act.put, List.setIfInBounds_toArray, List.set_cons_zero, List.set_cons_succ]
   refine hK.out _ _ ⟨hX9.cell rfl, trivial⟩ ?_
   clear hK K hown9 hgrow9 hat9 hbd9 hown8 hb8 hnews hown8k hown7 hownD hR7 hX7 hT7 hW7 hB7 hr7 hS7
   iterate 1 (refine zae rfl (by rfl) (v := ?_) ?_ ?_; rotate_left 1; (intro W hW; (try dsimp only at hW); obtain ⟨hW0, hW1⟩ := hW; go_simp <;> with_reducible rfl); simp only [List.getElem_toArray, List.getElem_cons_zero, List.getElem_cons_succ, Act.put, List.setIfInBounds_toArray, List.set_cons_zero, List.set_cons_succ])
   have hc9 : w9.cell? ⟨g2, 1, none⟩ = some (.slice eA k ec) := hX9.cell rfl
   have hf9 : w9.frozen? ⟨g2, 1, none⟩ = false := hX9.frozen 1
   refine zb6 rfl (by rfl) ?_
   go_simp
   have HO10 := Lib.hid (hO9.same (w' := w9.setCell ⟨g2, 1, none⟩ (.slice A9 (k + 1) c9)) (fun j h1 _ => Below.heap_setCell w9 ⟨g2, 1, none⟩ (.slice A9 (k + 1) c9) j (by show j ≠ g2; omega)))
   have hR10 := hR9.setCell_other (p := ⟨g2, 1, none⟩) (by show w.heap.size ≠ g2; omega) (.slice A9 (k + 1) c9)
   have hX10 : Row (w9.setCell ⟨g2, 1, none⟩ (.slice A9 (k + 1) c9)) g2 32 [.int .u64 (v : Int), (.slice A9 (k + 1) c9), .slice none 0 0] := hX9.setCell 1 (.slice A9 (k + 1) c9)
   have HB10 := Lib.hid (HB9.out.setCell (p := ⟨g2, 1, none⟩) (by show w.heap.size ≤ g2; omega) (.slice A9 (k + 1) c9))
   have HT10 := Lib.hid (hT9.below ((Below.refl _ w9).setCell (p := ⟨g2, 1, none⟩) hl12 (.slice A9 (k + 1) c9)))
   have HW10 := Lib.hid (hW9.below ((Below.refl g2 w9).setCell (p := ⟨g2, 1, none⟩) (Nat.le_refl _) (.slice A9 (k + 1) c9)) hl1)
   have hs10 : (w9.setCell ⟨g2, 1, none⟩ (.slice A9 (k + 1) c9)).heap.size = w9.heap.size := by simp [World.setCell]
   clear hO9 hR9 hX9 hc9 hf9 HB9 hT9 hW9
   generalize w9.setCell ⟨g2, 1, none⟩ (.slice A9 (k + 1) c9) = w10 at HO10 hR10 hX10 HB10 HT10 HW10 hs10 ⊢
   have hsd9 : Hid (∀ x ∈ es ++ [ED.mk x1 x2 A7 c7 x3], x.s.length ≤ 32) := fun x hx => by
    rcases List.mem_append.1 hx with hx | hx
    ·exact HSD.out x hx
    ·rw [List.mem_singleton.1 hx]
     exact HELT.out.2.2
   go_wp2_with fail
   go_roundw
   case rel => exact ⟨k + 1, es ++ [ED.mk x1 x2 A7 c7 x3], (.slice A9 (k + 1) c9), kX, SX, by go_num, by omega, by rw [List.length_append, HES.out]; rfl, by unfold Hid; rw [zgg]; exact HMORE.out, hsd9.out, hR10, hX10, HO10.out, HT10.out, HW10.out, HB10.out, by omega⟩
   case measure => simp [intOf]; omega
  ·have ekq : k = q := by omega
   subst ekq
   have hents' : zb2 k k2 S2 = (conE es, kk, S) := by
    rw [hents.out, Nat.sub_self]
    simp [zb2]
   have HF3 := Lib.hid (HFN.out hents')
   have HFE : Hid (fitE (conE es)) := fun x hx => by
    have := HFIT.out x (by rw [hents']; exact hx)
    exact ⟨this.1, this.2.1⟩
   obtain ⟨eA, ec, hu, hec, _⟩ := hown.slice
   rw [hes] at hu hec
   subst hu
   have HES := Lib.hid hes
   have HSD := Lib.hid hsd
   have HEC := Lib.hid hec
   have hi1 : ¬ (k : Int) < (k : Int) := by omega
   clear hents hents' hes hsd hec HFIT hWS
   go_wp2_with fail
   refine (ziI g1 kk S wr hT).mono ?_
   rintro e₁ w5 ⟨A5, l, m, c5, rfl, HL, hmc, hm64, hrg, hfl, hA5, hO, k', S', hT5, hk1', hk2'⟩
   have hR5 := hR.only hO hne
   have hX5 := hX.only hO hn2
   have hB5 := hbel.trans (hO.below.mono hle)
   have hown5 := hown.only hO hg1B
   have hA5B : Hid (∀ a, A5 = some a → g2 < a.block) := fun a ha => by have := hA5 a ha; omega
   have hs5 := hO.below.size
   have HFF := Lib.hid (HF3.out k' S' l hk1' hk2')
   have HFL := Lib.hid hfl
   clear hO hT hR hX hbel hown hA5 hk1' hk2' HF3 hfl
   have f0 := hX5.frozen 2
   have c0 : w5.cell? ⟨g2, 2, none⟩ = some (.slice none 0 0) := hX5.cell rfl
   have hT6 := hT5.below ((Below.refl _ w5).setCell (p := ⟨g2, 2, none⟩) hl12 (.slice A5 m c5))
   have hR6 := hR5.setCell_other (p := ⟨g2, 2, none⟩) hn4 (.slice A5 m c5)
   have hX6 : Row (w5.setCell ⟨g2, 2, none⟩ (.slice A5 m c5)) g2 32 [.int .u64 (v : Int), .slice eA k ec, .slice A5 m c5] := hX5.setCell 2 (.slice A5 m c5)
   have hB6 := hB5.setCell (p := ⟨g2, 2, none⟩) hl2 (.slice A5 m c5)
   have hOs := (Only.refl g2 w5).setCell 2 (.slice A5 m c5)
   have hown6 := hown5.only hOs hg2B
   have hrg6 := hrg.only hOs (fun a ha => by have := hA5B.out a ha; omega)
   clear hT5 hR5 hX5 hB5 hown5 hrg hOs
   go_upto_region 11 with fail
   generalize w5.setCell ⟨g2, 2, none⟩ (.slice A5 m c5) = w6 at hT6 hR6 hX6 hB6 hown6 hrg6 ⊢
   clear c0 f0
   have HRT := Lib.hid (zee v es l k ec m c5 eA A5 w6 HES.out HL (hown6.rd HES.out) hrg6 HFL (by omega) (by omega) (fun x hx => by have := HSD.out x hx; omega))
   unfold aggB at HRT
   obtain ⟨R, hR⟩ : ∃ R, zaJ (conE es) l = R := ⟨_, rfl⟩
   rw [hR] at HRT HFF
   clear hR
   go_wp2_with (refine zac rfl 32 (.tmp 8) rfl g2 0 rfl _ _ hX6 [.int .u64 (v : Int), .slice eA k ec, .slice A5 m c5] (by rfl) _ Tryz.underlying32 rfl (by exact zax) ?_)
   refine HRT.out.mono ?_
   rintro e₁ w7 ⟨rfl, hb7⟩
   have hlt6 := hT6.lt
   replace hT6 := hT6.below (hb7.mono (show g1 + 1 ≤ w6.heap.size by omega))
   replace hR6 := hR6.later hb7
   replace hX6 := hX6.later hb7
   replace hB6 := zaa hB6 hb7
   replace hown6 := hown6.later hb7
   replace hrg6 := hrg6.keep hb7
   clear hb7 HRT
   go_upto_if 40 with fail
   go_cut [] (fun wx => RdRF g1 (finK R k') S' wx ∧ Row wx w.heap.size 32 zlj ∧ Row wx g2 32 [.int .u64 (v : Int), .slice eA k ec, .slice A5 m c5] ∧ Below w.heap.size w wx ∧ OwnE B 91 es (.slice eA k ec) wx ∧ RdG wx A5 l)
   case first =>
    cases R with
    | true =>
     go_wp2_with fail
     go_meet
     case rel => exact ⟨hT6, hR6, hX6, hB6, hown6, hrg6⟩
    | false =>
     go_wp2_with fail
     refine (zfK g1 k' 3 S' w7 hT6).mono ?_
     rintro e₁ w8 ⟨rfl, hT8, hO⟩
     have hR8 := hR6.only hO hne
     have hX8 := hX6.only hO hn2
     have hB8 := hB6.trans (hO.below.mono hle)
     have hown8 := hown6.only hO hg1B
     have hrg8 := hrg6.only hO (fun a ha => by have := hA5B.out a ha; omega)
     go_wp2_with fail
     go_meet
     case rel => exact ⟨hT8, hR8, hX8, hB8, hown8, hrg8⟩
   case rest =>
   clear hT6 hR6 hX6 hB6 hown6 hrg6
   rename World => w8
   obtain ⟨hT8, hR8, hX8, hB8, hown8, hrg8⟩ := hcut
   obtain ⟨KF, hKF⟩ : ∃ K, finK R k' = K := ⟨_, rfl⟩
   rw [hKF] at hT8 HFF
   clear hKF
   obtain ⟨T', n8, ⟨A8, c8, hRr8, HN8, hc8, hr8, hA8⟩, hn8, hT8'⟩ := hT8
   have cd : w8.cell? ⟨g1, 1, none⟩ = some (.int .i64 KF) := hRr8.cell rfl
   have hgl8 := hR8.lt
   have hxl8 := hX8.lt
   by_cases hz : KF = 0
   ·subst hz
    have eT := hT8' rfl
    subst eT
    obtain ⟨hPP, hSl⟩ := HFF.out.2 rfl
    rw [HN8.out] at hPP hSl
    have HPP := Lib.hid hPP
    have cs : w8.cell? ⟨g1, 0, none⟩ = some (.slice A8 n8 c8) := hRr8.cell rfl
    clear hPP HFF hT8' hr8 hA8 hc8
    go_upto_region 15 with fail
    have hS : zpS g1 g2 (.slice A8 n8 c8) (.int .u64 (v : Int)) (.slice eA k ec) (.slice A5 m c5) w8.drew := ⟨cs, hX8.cell rfl, hX8.cell rfl, hX8.cell rfl⟩
    have hR9 := hR8.drew
    have hB9 := hB8.drew
    have hown9 := hown8.later ((Below.refl _ w8).drew)
    have hrg9 := hrg8.keep ((Below.refl _ w8).drew)
    have wnn : IntKind.i64.wrap ((n : Int) - (n8 : Int)) = ((n - n8 : Nat) : Int) := by rw [IntKind.wrap_i64]; omega
    obtain ⟨nn, hnn⟩ : ∃ x, n - n8 = x := ⟨_, rfl⟩
    rw [hnn] at wnn HPP
    clear hnn
    refine zah (zpS g1 g2 (.slice A8 n8 c8) (.int .u64 (v : Int)) (.slice eA k ec) (.slice A5 m c5)) (.step 0 false (.step 1 false (.step 2 false (.step 3 false (.step 4 false (.step 5 false (.step 6 false (.step 7 false (.step 8 false (.step 9 true (.step 10 false (.step 11 false (.nil))))))))))))) hS (by kernel_rfl) (by kernel_rfl) (by rfl) (by kernel_rfl) ?_
    clear hR8 hB8 hown8 hrg8 cs cd hX8 hRr8
    generalize w8.drew = wv at *
    iterate 9 (refine zae rfl (by rfl) (v := ?_) ?_ ?_; rotate_left 1; (intro W hW; (try dsimp only at hW); obtain ⟨hW0, hW1⟩ := hW; go_simp <;> with_reducible rfl); simp only [List.getElem_toArray, List.getElem_cons_zero, List.getElem_cons_succ, Act.put, List.setIfInBounds_toArray, List.set_cons_zero, List.set_cons_succ])
    have hcs : ∀ (cs : Array Value) (p : Addr), p.block ≠ w.heap.size → (wv.setRow w.heap.size cs).cell? p = wv.cell? p := fun cs p hp => cell_setRow_other wv w.heap.size cs p hp
    obtain ⟨s1, s2, s3, s4⟩ := hS
    refine zad rfl (by rfl) (fun K hK => ?_)
    refine hR9.wp_store 32 (.tmp 2) (.tmp 53) rfl rfl [.int .u64 (v : Int), .slice eA k ec, .slice A5 m c5] rfl (by exact zax) rfl (zaK _ _ _ rfl rfl rfl) ?_
    refine hK.out _ _ ⟨(hcs _ _ hne.symm).trans s1, (hcs _ _ hn4.symm).trans s2, (hcs _ _ hn4.symm).trans s3, (hcs _ _ hn4.symm).trans s4⟩ ?_
    clear hK K hcs
    simp only [List.getElem_toArray, List.getElem_cons_zero, List.getElem_cons_succ, Act.put, List.setIfInBounds_toArray, List.set_cons_zero, List.set_cons_succ]
    iterate 2 (refine zae rfl (by rfl) (v := ?_) ?_ ?_; rotate_left 1; (intro W hW; (try dsimp only at hW); obtain ⟨hW0, hW1⟩ := hW; go_simp <;> with_reducible rfl); simp only [List.getElem_toArray, List.getElem_cons_zero, List.getElem_cons_succ, Act.put, List.setIfInBounds_toArray, List.set_cons_zero, List.set_cons_succ])
    refine zal ?_
    go_wp2_with fail
    refine bodyPost_ret (zdX (p := 2) (u := 3) (v := 4) (ty := 32) (by rfl) _ _ w.heap.size 32 _ _ (by rfl) (by exact hR9.setRow _) Tryz.underlying32 (by rfl) (by exact zax)) (by rfl) ?_
    have hother : ∀ j, j ≠ w.heap.size → (wv.setRow w.heap.size [.int .u64 (v : Int), .slice eA k ec, .slice A5 m c5].toArray).heap[j]? = wv.heap[j]? := fun j hj => Go.setRow_other wv w.heap.size j _ hj
    have hown10 := hown9.same (fun j h1 _ => hother j (by omega))
    have hrg10 : RdG (wv.setRow w.heap.size [.int .u64 (v : Int), .slice eA k ec, .slice A5 m c5].toArray) A5 l := hrg9.only ((Only.refl w.heap.size wv).setRow _) (fun a ha => by have := hA5B.out a ha; omega)
    rw [HPP.out]
    exact ⟨eA, es, k, ec, A5, m, c5, rfl, Lib.hid rfl, HES.out, HL, HEC.out, hmc, hown10.rd HES.out, hown10.2.1, hrg10, ⟨(fun a ha => by have := (hown10.1.lt a.block (by rw [ha]; rfl)).1; omega), (fun y hy hs a ha => by have := hown10.2.2.2 y hy hs a ha; omega), fun a ha => by have := hA5B.out a ha; omega⟩, below_setRow hB9 (Nat.le_refl _) _⟩
   ·have hk0 : (KF == 0) = false := beq_eq_false_iff_ne.2 hz
    have hk1 : (KF != 0) = true := by rw [bne, hk0]; rfl
    have HPP : Hid (P = badB KF) := HFF.out.1 hz
    clear HFF hT8' hr8 hA8 hc8 hown8 hrg8
    go_upto_region 14 with fail
    have hS : zoY g1 KF w8.drew := ⟨cd, trivial⟩
    have hR9 := hR8.drew
    have hB9 := hB8.drew
    refine zah (zoY g1 KF) (.step 0 false (.step 1 false (.step 2 false (.step 3 false (.step 4 false (.step 5 true (.step 6 false (.step 7 false (.nil))))))))) hS (by kernel_rfl) (by kernel_rfl) (by rfl) (by kernel_rfl) ?_
    clear hR8 hB8 cd hX8 hRr8
    generalize w8.drew = wv at *
    iterate 5 (refine zae rfl (by rfl) (v := ?_) ?_ ?_; rotate_left 1; (intro W hW; (try dsimp only at hW); obtain ⟨hW0, hW1⟩ := hW; go_simp <;> with_reducible rfl); simp only [List.getElem_toArray, List.getElem_cons_zero, List.getElem_cons_succ, Act.put, List.setIfInBounds_toArray, List.set_cons_zero, List.set_cons_succ])
    have hcs : ∀ (cs : Array Value), (wv.setRow w.heap.size cs).cell? ⟨g1, 1, none⟩ = wv.cell? ⟨g1, 1, none⟩ := fun cs => cell_setRow_other wv w.heap.size cs ⟨g1, 1, none⟩ (show g1 ≠ w.heap.size by omega)
    refine zad rfl (by rfl) (fun K hK => ?_)
    refine hR9.wp_store 32 (.tmp 2) (.tmp 48) rfl rfl zlj rfl (by exact zax) rfl (zaK _ _ _ rfl rfl rfl) ?_
    refine hK.out _ _ ⟨(hcs _).trans hS.1, trivial⟩ ?_
    clear hK K hcs
    simp only [List.getElem_toArray, List.getElem_cons_zero, List.getElem_cons_succ, Act.put, List.setIfInBounds_toArray, List.set_cons_zero, List.set_cons_succ]
    iterate 2 (refine zae rfl (by rfl) (v := ?_) ?_ ?_; rotate_left 1; (intro W hW; (try dsimp only at hW); obtain ⟨hW0, hW1⟩ := hW; go_simp <;> with_reducible rfl); simp only [List.getElem_toArray, List.getElem_cons_zero, List.getElem_cons_succ, Act.put, List.setIfInBounds_toArray, List.set_cons_zero, List.set_cons_succ])
    refine zal ?_
    go_wp2_with fail
    refine bodyPost_ret (zdX (p := 2) (u := 3) (v := 4) (ty := 32) (by rfl) _ _ w.heap.size 32 _ _ (by rfl) (by exact hR9.setRow _) Tryz.underlying32 (by rfl) (by exact zax)) (by rfl) ?_
    exact zlk HPP (below_setRow hB9 (Nat.le_refl _) _)
structure WB where
 es : List ED
 eA : Option Addr
 n : Nat
 ec : Nat
 gA : Option Addr
 g : Nat
 gc : Nat
structure InB (w : World) (x : WB) (b : Bn) : Prop where
 con : conE x.es = b.2.1
 ne : x.es.length = x.n
 ng : b.2.2.length = x.g
 he : x.n ≤ x.ec
 hg : x.g ≤ x.gc
 re : RdE w x.eA x.es
 oe : okD w x.es
 rg : RdG w x.gA b.2.2
 ln : x.n ≤ 1000000
 lg : x.g ≤ 1000000
 ls : ∀ e ∈ x.es, e.s.length ≤ 70368744177664
 fit : zhE b
theorem InB.keep {w w' : World} {x : WB} {b : Bn} (h : InB w x b) (hb : Below w.heap.size w w') : InB w' x b := { h with re := h.re.keep hb, oe := h.oe.keep hb, rg := h.rg.keep hb }
structure FreshB (B : Nat) (x : WB) : Prop where
 e : ∀ a, x.eA = some a → B ≤ a.block
 s : newD B x.es
 g : ∀ a, x.gA = some a → B ≤ a.block
theorem FreshB.mono {B C : Nat} {x : WB} (h : FreshB C x) (hc : B ≤ C) : FreshB B x := ⟨fun a ha => Nat.le_trans hc (h.e a ha), fun y hy hs a ha => Nat.le_trans hc (h.s y hy hs a ha), fun a ha => Nat.le_trans hc (h.g a ha)⟩
theorem RdE.only {g : Nat} {w w' : World} {A : Option Addr} {xs : List ED} (h : RdE w A xs) (k : Only g w w') (hA : ∀ a, A = some a → a.block ≠ g) : RdE w' A xs := fun hn => by
 obtain ⟨b, o, e, hc⟩ := h hn
 have hb := hA _ e
 refine ⟨b, o, e, fun i hi => ?_⟩
 obtain ⟨h0, h1, h2⟩ := hc i hi
 have ho := k.other b hb (World.block_lt_of_cell? w _ h0)
 exact ⟨(World.cell?_of_block (w := w) (a := ⟨b, o + i * 3, none⟩) ho).trans h0, (World.cell?_of_block (w := w) (a := ⟨b, o + i * 3 + 1, none⟩) ho).trans h1, (World.cell?_of_block (w := w) (a := ⟨b, o + i * 3 + 2, none⟩) ho).trans h2⟩
theorem okD.only {g : Nat} {w w' : World} {xs : List ED} (h : okD w xs) (k : Only g w w') (hA : ∀ y ∈ xs, y.s ≠ [] → ∀ a, y.A = some a → a.block ≠ g) : okD w' xs := fun x hx => ⟨(h x hx).1, (h x hx).2.only k (hA x hx)⟩
theorem InB.only {g : Nat} {w w' : World} {x : WB} {b : Bn} (h : InB w x b) (k : Only g w w') (hf : FreshB (g + 1) x) : InB w' x b :=
 { h with re := h.re.only k (fun a ha => by have := hf.e a ha; omega), oe := h.oe.only k (fun y hy hs a ha => by have := hf.s y hy hs a ha; omega), rg := h.rg.only k (fun a ha => by have := hf.g a ha; omega) }
def zcC : WB := ⟨[], none, 0, 0, none, 0, 0⟩
theorem zor (w : World) : InB w zcC (0, [], []) := ⟨rfl, rfl, rfl, Nat.le_refl _, Nat.le_refl _, RdE.nil, okD.nil _, RdG.nil, by decide, by decide, (fun x hx => by cases hx), ⟨by decide, (fun x hx => by cases hx), (fun x hx => by cases hx)⟩⟩
theorem zjQ (B : Nat) : FreshB B zcC := ⟨(fun a h => by cases h), (fun y hy => by cases hy), (fun a h => by cases h)⟩
def zdY (x : WB) (b : Bn) : Value := aggB b.1 x.eA x.n x.ec x.gA x.g x.gc
structure WC where
 A : Option Addr
 s : Nat
 c : Nat
structure InC (w : World) (x : WC) (k : Ca) : Prop where
 ns : k.2.2.length = x.s
 hs : x.s ≤ x.c
 ru : RdU w x.A k.2.2
 ls : x.s ≤ 1000000
 fit : zpM k
theorem InC.keep {w w' : World} {x : WC} {k : Ca} (h : InC w x k) (hb : Below w.heap.size w w') : InC w' x k := { h with ru := h.ru.keep hb }
def FreshC (B : Nat) (x : WC) : Prop := ∀ a, x.A = some a → B ≤ a.block
theorem FreshC.mono {B C : Nat} {x : WC} (h : FreshC C x) (hc : B ≤ C) : FreshC B x := fun a ha => Nat.le_trans hc (h a ha)
theorem InC.only {g : Nat} {w w' : World} {x : WC} {c : Ca} (h : InC w x c) (k : Only g w w') (hf : FreshC (g + 1) x) : InC w' x c := { h with ru := h.ru.only k (fun _ a ha => by have := hf a ha; omega) }
def zeX : WC := ⟨none, 0, 0⟩
theorem zos (w : World) (room : Int) : InC w zeX (room, 0, []) := ⟨rfl, Nat.le_refl _, RdU.nil, by decide, ⟨by show (0 : Nat) < _; decide, fun x hx => by cases hx⟩⟩
theorem zjR (B : Nat) : FreshC B zeX := fun a h => by cases h
def zpp (x : WC) (k : Ca) : Value := aggC k.1 k.2.1 x.A x.s x.c
structure WM where
 b : WB
 c : WC
structure InM (w : World) (x : WM) (m : MemK) : Prop where
 fc : m.clock < 18446744073709551616
 ib : InB w x.b m.b
 ic : InC w x.c m.c
theorem InM.keep {w w' : World} {x : WM} {m : MemK} (h : InM w x m) (hb : Below w.heap.size w w') : InM w' x m := ⟨h.fc, h.ib.keep hb, h.ic.keep hb⟩
theorem InM.fit {w : World} {x : WM} {m : MemK} (h : InM w x m) : fitM m := ⟨h.fc, h.ib.fit, h.ic.fit⟩
structure FreshM (B : Nat) (x : WM) : Prop where
 b : FreshB B x.b
 c : FreshC B x.c
theorem FreshM.mono {B C : Nat} {x : WM} (h : FreshM C x) (hc : B ≤ C) : FreshM B x := ⟨h.b.mono hc, h.c.mono hc⟩
theorem InM.only {g : Nat} {w w' : World} {x : WM} {m : MemK} (h : InM w x m) (k : Only g w w') (hf : FreshM (g + 1) x) : InM w' x m := ⟨h.fc, h.ib.only k hf.b, h.ic.only k hf.c⟩
def zbj : WM := ⟨zcC, zeX⟩
theorem zc6 (w : World) : InM w zbj zcu := ⟨by show (0 : Nat) < _; decide, zor w, zos w 0⟩
theorem zbB (B : Nat) : FreshM B zbj := ⟨zjQ B, zjR B⟩
def zm3 (x : WM) (m : MemK) : List Value := [.int .u64 (m.clock : Int), .int .u64 (m.b.1 : Int), .slice x.b.eA x.b.n x.b.ec, .slice x.b.gA x.b.g x.b.gc, .int .i64 m.c.1, .int .u64 (m.c.2.1 : Int), .slice x.c.A x.c.s x.c.c]
def aggM (x : WM) (m : MemK) : Value := .agg #[.int .u64 (m.clock : Int), .int .u64 (m.b.1 : Int), .slice x.b.eA x.b.n x.b.ec, .slice x.b.gA x.b.g x.b.gc, .int .i64 m.c.1, .int .u64 (m.c.2.1 : Int), .slice x.c.A x.c.s x.c.c]
theorem zai : (Tryz.prog.info? 37).map (·.size) = some 7 := by kernel_rfl
theorem zaq (x : WM) (m : MemK) : ∀ v ∈ zm3 x m, v.oneCell' = true := fun v hv => by
 simp [zm3] at hv
 rcases hv with rfl | rfl | rfl | rfl | rfl | rfl | rfl <;> rfl
structure WS where
 d : WD
 m : WM
structure InS (w : World) (x : WS) (s : ShK) : Prop where
 id : InD w x.d s.d
 im : InM w x.m s.m
theorem InS.keep {w w' : World} {x : WS} {s : ShK} (h : InS w x s) (hb : Below w.heap.size w w') : InS w' x s := ⟨h.id.keep hb, h.im.keep hb⟩
structure FreshS (B : Nat) (x : WS) : Prop where
 d : FreshD B x.d
 m : FreshM B x.m
theorem InD.only {g : Nat} {w w' : World} {x : WD} {D : DK} (h : InD w x D) (k : Only g w w') (hf : FreshD (g + 1) x) : InD w' x D :=
 ⟨h.l0, h.h0, h.r0.only k (fun _ a ha => by have := hf.1 a ha; omega), h.l1, h.h1, h.r1.only k (fun _ a ha => by have := hf.2 a ha; omega)⟩
def zpT (x : WS) (s : ShK) : List Value := zdi x.d s.d ++ (.int .i64 s.turn :: .int .u64 (s.num : Int) :: zm3 x.m s.m)
def aggS (x : WS) (s : ShK) : Value := .agg #[.slice x.d.A0 x.d.n0 x.d.c0, .int .i64 s.d.a0.s, .slice x.d.A1 x.d.n1 x.d.c1, .int .i64 s.d.a1.s, .int .i64 s.d.fuse, .int .i64 s.d.keep, .bool s.d.down, .int .i64 s.turn, .int .u64 (s.num : Int),
 .int .u64 (s.m.clock : Int), .int .u64 (s.m.b.1 : Int), .slice x.m.b.eA x.m.b.n x.m.b.ec, .slice x.m.b.gA x.m.b.g x.m.b.gc, .int .i64 s.m.c.1, .int .u64 (s.m.c.2.1 : Int), .slice x.m.c.A x.m.c.s x.m.c.c]
theorem zaf : (Tryz.prog.info? 39).map (·.size) = some 16 := by kernel_rfl
theorem zan (x : WS) (s : ShK) : ∀ v ∈ zpT x s, v.oneCell' = true := fun v hv => by
 rcases List.mem_append.1 hv with hv | hv
 ·exact za7 _ _ v hv
 ·rcases List.mem_cons.1 hv with rfl | hv
  ·rfl
  ·rcases List.mem_cons.1 hv with rfl | hv
   ·rfl
   ·exact zaq _ _ v hv
theorem pA {α : Type} {xs : List α} {i : Nat} (h : i < xs.toArray.size) : xs.toArray[i] = xs[i] := List.getElem_toArray h
theorem pB {α : Type} (a : α) (l : List α) (h : 0 < (a :: l).length) : (a :: l)[0] = a := List.getElem_cons_zero a l h
theorem pC {α : Type} (a : α) (l : List α) (i : Nat) (h : i + 1 < (a :: l).length) : (a :: l)[i + 1] = l[i]'(Nat.lt_of_succ_lt_succ h) := List.getElem_cons_succ a l i h
theorem pD {α : Type} (l : List α) (i : Nat) (a : α) : l.toArray.setIfInBounds i a = (l.set i a).toArray := List.setIfInBounds_toArray l i a
theorem pE {α : Type} {x : α} {xs : List α} {a : α} : (x :: xs).set 0 a = a :: xs := List.set_cons_zero
theorem pF {α : Type} {x : α} {xs : List α} {i : Nat} {a : α} : (x :: xs).set (i + 1) a = x :: xs.set i a := List.set_cons_succ
abbrev lB (x : WB) (b : Bn) : List Value := [.int .u64 (b.1 : Int), .slice x.eA x.n x.ec, .slice x.gA x.g x.gc]
abbrev lC (x : WC) (k : Ca) : List Value := [.int .i64 k.1, .int .u64 (k.2.1 : Int), .slice x.A x.s x.c]
abbrev lM (x : WM) (m : MemK) : List Value := [.int .u64 (m.clock : Int), .int .u64 (m.b.1 : Int), .slice x.b.eA x.b.n x.b.ec, .slice x.b.gA x.b.g x.b.gc, .int .i64 m.c.1, .int .u64 (m.c.2.1 : Int), .slice x.c.A x.c.s x.c.c]
abbrev lD (x : WD) (d : DK) : List Value := [.slice x.A0 x.n0 x.c0, .int .i64 d.a0.s, .slice x.A1 x.n1 x.c1, .int .i64 d.a1.s, .int .i64 d.fuse, .int .i64 d.keep, .bool d.down]
abbrev lS (x : WS) (s : ShK) : List Value := [.slice x.d.A0 x.d.n0 x.d.c0, .int .i64 s.d.a0.s, .slice x.d.A1 x.d.n1 x.d.c1, .int .i64 s.d.a1.s, .int .i64 s.d.fuse, .int .i64 s.d.keep, .bool s.d.down, .int .i64 s.turn, .int .u64 (s.num : Int), .int .u64 (s.m.clock : Int), .int .u64 (s.m.b.1 : Int), .slice x.m.b.eA x.m.b.n x.m.b.ec, .slice x.m.b.gA x.m.b.g x.m.b.gc, .int .i64 s.m.c.1, .int .u64 (s.m.c.2.1 : Int), .slice x.m.c.A x.m.c.s x.m.c.c]
abbrev l0B : List Value := [.int .u64 0, .slice none 0 0, .slice none 0 0]
abbrev l0C : List Value := [.int .i64 0, .int .u64 0, .slice none 0 0]
abbrev l0M : List Value := [.int .u64 0, .int .u64 0, .slice none 0 0, .slice none 0 0, .int .i64 0, .int .u64 0, .slice none 0 0]
abbrev l0D : List Value := [.slice none 0 0, .int .i64 0, .slice none 0 0, .int .i64 0, .int .i64 0, .int .i64 0, .bool false]
abbrev l0S : List Value := [.slice none 0 0, .int .i64 0, .slice none 0 0, .int .i64 0, .int .i64 0, .int .i64 0, .bool false, .int .i64 0, .int .u64 0, .int .u64 0, .int .u64 0, .slice none 0 0, .slice none 0 0, .int .i64 0, .int .u64 0, .slice none 0 0]
def zqi (w : World) (xs : List ED) (e : Ending) (w' : World) : Prop := ∃ v, e = .returned v ∧ w'.ownsRow w.heap.size 91 3 v xs.length (zbc xs) ∧ Below w.heap.size w w'
theorem zjS (xs : List ED) (A : Option Addr) (c : Nat) (w : World) (hr : RdE w A xs) (hl : xs.length ≤ 1000000000) : Calls Tryz.prog 89 #[.slice A xs.length c] w (zqi w xs) := by
 obtain ⟨i0, hi, hz0, hz1, hz2⟩ := info_parts zhd
 cases A with
 | none =>
  have hb : xs = [] := by
   by_cases h : xs = []
   ·exact h
   ·obtain ⟨_, _, e, _⟩ := hr h
    cases e
  subst hb
  have hnil : ∀ W, (binOp .eql 29 (.slice none 0 c) (.slice none 0 0)).run Tryz.prog W = .ok (.bool true) W := fun W => Lib.run_eql_slice_nil W _ _ none 0 c 0 0 Tryz.underlying29
  go_enter Tryz.func89, Tryz.ntmps89
  go_wp2_with fail
  go_ret
  exact ⟨_, rfl, World.ownsRow_nil _ _ _ _, Below.refl _ _⟩
 | some a =>
  have hnil : ∀ W, (binOp .eql 29 (.slice (some a) xs.length c) (.slice none 0 0)).run Tryz.prog W = .ok (.bool false) W := fun W => Lib.run_eql_slice_nil W _ _ (some a) xs.length c 0 0 Tryz.underlying29
  have hown0 : (w.alloc (.cells #[] 91)).ownsRow w.heap.size 91 3 (.slice (some ⟨w.heap.size, 0, none⟩) 0 0) 0 [] := World.ownsRow_made w #[] 0 (Nat.le_refl _) (by unfold maxLen; omega) rfl
  have hr0 : RdE (w.alloc (.cells #[] 91)) (some a) xs := hr.keep (zak (Below.refl _ _) _)
  have hnews : ∀ j u, (zbc xs)[j]? = some u → (w.alloc (.cells #[] 91)).cell? (a.add j) = some u := fun j u hu => by
   by_cases h : xs = []
   ·subst h
    simp [zbc] at hu
   ·obtain ⟨b, o, e, _⟩ := hr0 h
    injection e with e
    subst e
    exact hr0.range j u hu
  go_enter Tryz.func89, Tryz.ntmps89
  go_wp2_with (at_builtin; refine wpList_plain rfl ?_; intro _ hK; refine zen _ (.tmp 5) (.tmp 6) 29 rfl w.heap.size 91 i0 (.agg #[.int .u64 0, .int .u64 0, .slice none 0 0]) 3 40 Tryz.underlying29 hi hz0 hz1 hz2 rfl (by decide) _ 0 [] rfl hown0 a xs.length c (zbc xs) rfl (zbJ xs) hnews (zla xs) (by unfold maxLen; omega) (by omega) (by simp) ?_; intro v1 w1 hown1 hgrow1 hat1; refine hK _ _ ?_; clear hK)
  go_ret
  rw [Nat.zero_add, List.nil_append] at hown1
  exact ⟨_, rfl, hown1, (zak (Below.refl _ w) _).grown hgrow1 (by simp) (fun k hk => (hown0.lt k hk).1)⟩
def CelE (w : World) (g : Nat) (t : TypeId) (ys : List ED) : Prop := ∃ L, Row w g t L ∧ L.take (ys.length * 3) = zbc ys
section
variable {w w' : World} {g : Nat} {t : TypeId} {ys : List ED}
theorem CelE.lt (h : CelE w g t ys) : g < w.heap.size := by
 obtain ⟨L, h1, _⟩ := h
 exact h1.lt
theorem CelE.later (h : CelE w g t ys) (hb : Below w.heap.size w w') : CelE w' g t ys := by
 obtain ⟨L, h1, h2⟩ := h
 exact ⟨L, h1.later hb, h2⟩
theorem CelE.frozen (h : CelE w g t ys) (i : Nat) : w.frozen? ⟨g, i, none⟩ = false := by
 obtain ⟨L, h1, _⟩ := h
 exact h1.frozen i
theorem CelE.cells (h : CelE w g t ys) {j : Nat} {v : Value} (hj : (zbc ys)[j]? = some v) : w.cell? ⟨g, j, none⟩ = some v := by
 obtain ⟨L, h1, h2⟩ := h
 rw [h1.cell? j]
 have hl : j < ys.length * 3 := by
  rw [← zbJ]
  exact (List.getElem?_eq_some_iff.1 hj).1
 rw [← h2, List.getElem?_take, if_pos hl] at hj
 exact hj
theorem CelE.at3 (h : CelE w g t ys) {k : Nat} (hk : k < ys.length) : w.cell? ⟨g, k * 3, none⟩ = some (vNG ys[k].t) ∧ w.cell? ⟨g, k * 3 + 1, none⟩ = some (vNG ys[k].e) ∧ w.cell? ⟨g, k * 3 + 2, none⟩ = some ys[k].at2 := by
 obtain ⟨g0, g1, g2⟩ := zed ys k hk
 exact ⟨h.cells g0, h.cells g1, h.cells g2⟩
theorem CelE.rd (h : CelE w g t ys) : RdE w (some ⟨g, 0, none⟩) ys := fun _ => ⟨g, 0, rfl, fun i hi => by
 rw [Nat.zero_add]
 exact h.at3 hi⟩
theorem zhe : ∀ (ys : List ED) (k : Nat) (y : ED) (hk : k < ys.length), y.t = ys[k].t → y.e = ys[k].e → (zbc ys).set (k * 3 + 2) y.at2 = zbc (ys.set k y)
 | x :: ys, 0, y, _, h1, h2 => by
  show [vNG x.t, vNG x.e, y.at2] ++ zbc ys = y.cells ++ zbc ys
  have h1' : y.t = x.t := h1
  have h2' : y.e = x.e := h2
  unfold ED.cells
  rw [h1', h2']
 | x :: ys, k + 1, y, hk, h1, h2 => by
  have ih := zhe ys k y (by simpa using hk) h1 h2
  show (x.cells ++ zbc ys).set ((k + 1) * 3 + 2) y.at2 = x.cells ++ zbc (ys.set k y)
  rw [← ih, show (k + 1) * 3 + 2 = (k * 3 + 2) + 3 by omega]
  rfl
theorem CelE.set (h : CelE w g t ys) {k : Nat} (hk : k < ys.length) (y : ED) (h1 : y.t = ys[k].t) (h2 : y.e = ys[k].e) : CelE (w.setCell ⟨g, k * 3 + 2, none⟩ y.at2) g t (ys.set k y) := by
 obtain ⟨L, h3, h4⟩ := h
 refine ⟨L.set (k * 3 + 2) y.at2, h3.setCell _ _, ?_⟩
 rw [List.length_set, List.take_set, h4, zhe ys k y hk h1 h2]
theorem zjT {base n cap : Nat} {A : Option Addr} (h : w.ownsRow base t 3 (.slice A n cap) n (zbc ys)) (hn : 0 < n) : ∃ g, A = some ⟨g, 0, none⟩ ∧ CelE w g t ys ∧ base ≤ g := by
 have hl : ys.length = n := by
  have := h.1
  rw [zbJ] at this
  omega
 rcases h.2 with ⟨e0, h0⟩ | ⟨g', cap', cur, hv, hg, hgg, hc, hm, hs, ht⟩
 ·omega
 ·injection hv with e1 e2 e3
  exact ⟨g', e1, ⟨cur.toList, hgg, by rw [hl]; exact ht⟩, hg⟩
end
end Go.Proofs.YteljklkgdejhpaaGreatDoor
