/-
  The walk of the law TermRight: whether any terms are right, any term's place, the terms with any one put, and the term of any tag, are the document's. No conditions.
-/
import Derived.Test.YtppdfldmbfddnaaTermAwake
import Derived.Test.YtppdfldmbfddnaaOpenT
namespace Go.Proofs.Ytppdfldmbfddnaa
open Go.RowKit
set_option linter.unusedSimpArgs false
set_option linter.unusedVariables false

/-- A term in a cell of its own. -/
theorem one_rd (w : World) (g : Nat) (hg : g = w.heap.size) (x : TD) : RdT (w.alloc (.cells #[x.at0, x.at1] 29)) (some ⟨g, 0, none⟩) [x] := fun _ => by
  subst hg
  refine ⟨w.heap.size, 0, rfl, fun i hi => ?_⟩
  have : i = 0 := by simp at hi; omega
  subst this
  have hR : Row (w.alloc (.cells #[x.at0, x.at1] 29)) w.heap.size 29 [x.at0, x.at1] := Row.new w _ _ _ rfl
  exact ⟨hR.cell rfl, hR.cell rfl⟩

set_option maxRecDepth 100000 in
set_option maxHeartbeats 2000000 in
theorem termright_core (ts : List TD) (key msg tag : List UInt8) (p n m q : Nat) (A B C D : Option Addr) (c d e f : Nat) (w : World) (HP : Hid (ts.length = p)) (HN : Hid (key.length = n)) (HM : Hid (msg.length = m)) (HQ : Hid (tag.length = q)) (ht : inT w A ts) (hk : Rd vB w B key) (hm : Rd vB w C msg) (hg : Rd vB w D tag)
    (hpc : p ≤ c) (hn : n ≤ 3000) (hmm : m ≤ 3000) (hq : q ≤ 3000) (HS : Hid (shortT (conT ts) = true)) :
    Calls Try.prog 3 #[.slice A p c, .slice B n d, .slice C m e, .slice D q f] w fun e w' => e = .returned (.bool true) ∧ Below w.heap.size w w' := by
  have hp : p ≤ 400 := by
    have := HS.out
    unfold shortT at this
    rw [decide_eq_true_eq, conT_length, HP.out] at this
    exact this.1
  have g1 : decide ((3000 : Int) < (n : Int)) = false := by simp; omega
  have g2 : decide ((3000 : Int) < (m : Int)) = false := by simp; omega
  have g3 : decide ((3000 : Int) < (q : Int)) = false := by simp; omega
  have n1 : ¬ 3000 < n := by omega
  have n2 : ¬ 3000 < m := by omega
  have n3 : ¬ 3000 < q := by omega
  obtain ⟨z, hz⟩ : ∃ z, plI (conT ts) (key, msg) = z := ⟨_, rfl⟩
  have HZ := Lib.hid hz
  obtain ⟨r, hr⟩ : ∃ r, rightT (conT ts) = r := ⟨_, rfl⟩
  have HR := Lib.hid hr
  obtain ⟨T, hT⟩ : ∃ T, tagT (conT ts) (key, msg) = T := ⟨_, rfl⟩
  have HT := Lib.hid hT
  have hT8 : T.length = 8 := by rw [← hT]; rfl
  have HT8 := Lib.hid hT8
  clear hz hr hT hT8
  go_enter Try.func3, Try.ntmps3
  go_wp2_with fail
  refine (awake5_any _).mono ?_
  rintro e' w1 ⟨rfl, hB⟩
  go_wp2_with fail
  refine (refshort_any ts p A c _ HP (ht.1.keep hB) ht.2.2 (by omega)).mono ?_
  rintro e' w1 ⟨rfl, rfl⟩
  rw [HS.out]
  go_wp2_with fail
  clear g1 g2 g3 n1 n2 n3
  replace ht := ht.keep hB
  replace hk := hk.keep hB
  replace hm := hm.keep hB
  replace hg := hg.keep hB
  refine (put_anyT ts key msg p n m A B C c d e _ HP HN HM (Lib.hid (lenT.short HS.out)) ht.1 ht.2.1 hk hm (by omega) hpc (by omega) (by omega)).mono ?_
  rintro e' w2 ⟨us1, p1, A1, c1, tA1, tc1, rfl, HP1, hc1, htc1, ht1, hok1, HC1, hg1, hb1⟩
  rw [HT.out] at hg1
  replace ht := ht.keep hb1
  replace hk := hk.keep hb1
  replace hm := hm.keep hb1
  replace hg := hg.keep hb1
  replace hB := below_step hB hb1
  clear hb1
  go_wp2_with fail
  refine (refputT_any ts key msg p n m A B C c d e _ HP HN HM ht.1 ht.2.1 hk hm (by omega) hpc (by omega) (by omega)).mono ?_
  rintro e' w3 ⟨us2, p2, A2, c2, tA2, tc2, rfl, HP2, hc2, htc2, ht2, hok2, HC2, hg2, hb2⟩
  rw [HT.out] at hg2
  replace ht := ht.keep hb2
  replace hk := hk.keep hb2
  replace hm := hm.keep hb2
  replace hg := hg.keep hb2
  replace ht1 := ht1.keep hb2
  replace hok1 := hok1.keep hb2
  replace hg1 := hg1.keep hb2
  replace hB := below_step hB hb2
  clear hb2
  have HCC : Hid (decide (conT us1 = conT us2) = true) := by unfold Hid; rw [HC1.out, HC2.out]; simp
  have hp1 : p1 ≤ 401 := by
    have := (putT_length (conT ts) (key, msg)).2
    rw [← HC1.out, conT_length, conT_length, HP.out, HP1.out] at this
    omega
  have hp2 : p2 ≤ 401 := by
    have := (putT_length (conT ts) (key, msg)).2
    rw [← HC2.out, conT_length, conT_length, HP.out, HP2.out] at this
    omega
  go_wp2_with fail
  refine (of_anyT ts tag p q A D c f _ HP HQ (Lib.hid (lenT.short HS.out)) ht.1 ht.2.1 hg (by omega) (by omega)).mono ?_
  rintro e' w4 ⟨x, u, rfl, hx, HO1, hb4⟩
  replace ht := ht.keep hb4
  replace hk := hk.keep hb4
  replace hm := hm.keep hb4
  replace hg := hg.keep hb4
  replace ht1 := ht1.keep hb4
  replace hok1 := hok1.keep hb4
  replace hg1 := hg1.keep hb4
  replace ht2 := ht2.keep hb4
  replace hok2 := hok2.keep hb4
  replace hg2 := hg2.keep hb4
  replace hB := below_step hB hb4
  clear hb4
  have hR0 : Row (w4.alloc (.cells #[.slice none 0 0, .slice none 0 0] 29)) w4.heap.size 29 [.slice none 0 0, .slice none 0 0] := Row.new w4 _ _ _ rfl
  go_upto_region 8 with (refine wpList_store_row rfl 29 (.tmp 13) (.tmp 55) rfl w4.heap.size rfl [x.at0, x.at1] rfl _ _ hR0 (by exact size_term) rfl (one_two _ _ rfl rfl) ?_)
  have hR1 := hR0.setRow [x.at0, x.at1]
  have hbn : Below w4.heap.size w4 ((w4.alloc (.cells #[.slice none 0 0, .slice none 0 0] 29)).setRow w4.heap.size [x.at0, x.at1].toArray) := below_setRow (below_new (Below.refl _ _) _) (Nat.le_refl _) _
  generalize (w4.alloc (.cells #[.slice none 0 0, .slice none 0 0] 29)).setRow w4.heap.size [x.at0, x.at1].toArray = w5 at hR1 hbn ⊢
  replace ht := ht.keep hbn
  replace hk := hk.keep hbn
  replace hm := hm.keep hbn
  replace hg := hg.keep hbn
  replace ht1 := ht1.keep hbn
  replace hok1 := hok1.keep hbn
  replace hg1 := hg1.keep hbn
  replace ht2 := ht2.keep hbn
  replace hok2 := hok2.keep hbn
  replace hg2 := hg2.keep hbn
  replace hx := hx.keep hbn
  replace hB := below_step hB hbn
  clear hbn hR0
  generalize w4.heap.size = g5 at hR1 ⊢
  go_wp2_with fail
  refine (refof_any ts tag p q A D c f _ HP HQ ht.1 ht.2.1 hg (by omega)).mono ?_
  rintro e' w6 hof
  obtain ⟨y, v, rfl, hy, HO2, hb6⟩ := OfResS.res ht.2.1 hof
  clear hof
  have hxy : (x.c, u) = (y.c, v) := by rw [HO1.out, HO2.out]
  injection hxy with hxc huv
  subst huv
  have HXY : Hid (decide (conT [x] = conT [y]) = true) := by unfold Hid; simp [conT, hxc]
  replace ht := ht.keep hb6
  replace hk := hk.keep hb6
  replace hm := hm.keep hb6
  replace ht1 := ht1.keep hb6
  replace hok1 := hok1.keep hb6
  replace hg1 := hg1.keep hb6
  replace ht2 := ht2.keep hb6
  replace hok2 := hok2.keep hb6
  replace hg2 := hg2.keep hb6
  replace hx := hx.keep hb6
  replace hR1 := hR1.later hb6
  replace hB := below_step hB hb6
  clear hb6 hg hxc HO1 HO2
  have hR0 : Row (w6.alloc (.cells #[.slice none 0 0, .slice none 0 0] 29)) w6.heap.size 29 [.slice none 0 0, .slice none 0 0] := Row.new w6 _ _ _ rfl
  go_upto_region 9 with (refine wpList_store_row rfl 29 (.tmp 15) (.tmp 61) rfl w6.heap.size rfl [y.at0, y.at1] rfl _ _ hR0 (by exact size_term) rfl (one_two _ _ rfl rfl) ?_)
  have hR2 := hR0.setRow [y.at0, y.at1]
  have hbn : Below w6.heap.size w6 ((w6.alloc (.cells #[.slice none 0 0, .slice none 0 0] 29)).setRow w6.heap.size [y.at0, y.at1].toArray) := below_setRow (below_new (Below.refl _ _) _) (Nat.le_refl _) _
  generalize (w6.alloc (.cells #[.slice none 0 0, .slice none 0 0] 29)).setRow w6.heap.size [y.at0, y.at1].toArray = w7 at hR2 hbn ⊢
  replace ht := ht.keep hbn
  replace hk := hk.keep hbn
  replace hm := hm.keep hbn
  replace ht1 := ht1.keep hbn
  replace hok1 := hok1.keep hbn
  replace hg1 := hg1.keep hbn
  replace ht2 := ht2.keep hbn
  replace hok2 := hok2.keep hbn
  replace hg2 := hg2.keep hbn
  replace hx := hx.keep hbn
  replace hy := hy.keep hbn
  replace hR1 := hR1.later hbn
  replace hB := below_step hB hbn
  clear hbn hR0
  generalize w6.heap.size = g7 at hR2 ⊢
  go_wp2_with fail
  refine (right_anyT ts p A c _ HP (Lib.hid (lenT.short HS.out)) ht.1 ht.2.1 (by omega) hpc).mono ?_
  rintro e' w8 ⟨rfl, hb⟩
  rw [HR.out]
  replace ht := ht.keep hb
  replace hk := hk.keep hb
  replace hm := hm.keep hb
  replace ht1 := ht1.keep hb
  replace hok1 := hok1.keep hb
  replace hg1 := hg1.keep hb
  replace ht2 := ht2.keep hb
  replace hok2 := hok2.keep hb
  replace hg2 := hg2.keep hb
  replace hx := hx.keep hb
  replace hy := hy.keep hb
  replace hR1 := hR1.later hb
  replace hR2 := hR2.later hb
  replace hB := below_step hB hb
  clear hb
  go_wp2_with fail
  refine (refright_any ts p A c _ HP ht.1 ht.2.1 (by omega)).mono ?_
  rintro e' w9 ⟨rfl, hb⟩
  rw [HR.out]
  replace ht := ht.keep hb
  replace hk := hk.keep hb
  replace hm := hm.keep hb
  replace ht1 := ht1.keep hb
  replace hok1 := hok1.keep hb
  replace hg1 := hg1.keep hb
  replace ht2 := ht2.keep hb
  replace hok2 := hok2.keep hb
  replace hg2 := hg2.keep hb
  replace hx := hx.keep hb
  replace hy := hy.keep hb
  replace hR1 := hR1.later hb
  replace hR2 := hR2.later hb
  replace hB := below_step hB hb
  clear hb
  go_wp2_with fail
  refine (place_anyT ts key msg p n m A B C c d e _ HP HN HM ht.1 ht.2.1 hk hm (by omega) (by omega) (by omega)).mono ?_
  rintro e' w10 ⟨rfl, hb⟩
  rw [HZ.out]
  replace ht := ht.keep hb
  replace hk := hk.keep hb
  replace hm := hm.keep hb
  replace ht1 := ht1.keep hb
  replace hok1 := hok1.keep hb
  replace hg1 := hg1.keep hb
  replace ht2 := ht2.keep hb
  replace hok2 := hok2.keep hb
  replace hg2 := hg2.keep hb
  replace hx := hx.keep hb
  replace hy := hy.keep hb
  replace hR1 := hR1.later hb
  replace hR2 := hR2.later hb
  replace hB := below_step hB hb
  clear hb
  go_wp2_with fail
  refine (refplace_any ts key msg p n m A B C c d e _ HP HN HM ht.1 ht.2.1 hk hm (by omega)).mono ?_
  rintro e' w11 ⟨rfl, hb⟩
  rw [HZ.out]
  replace ht1 := ht1.keep hb
  replace hok1 := hok1.keep hb
  replace hg1 := hg1.keep hb
  replace ht2 := ht2.keep hb
  replace hok2 := hok2.keep hb
  replace hg2 := hg2.keep hb
  replace hx := hx.keep hb
  replace hy := hy.keep hb
  replace hR1 := hR1.later hb
  replace hR2 := hR2.later hb
  replace hB := below_step hB hb
  clear hb ht hk hm
  go_wp2_with fail
  refine (refsame_any us1 us2 p1 p2 A1 A2 c1 c2 _ HP1 HP2 ht1 hok1 ht2 hok2 (by omega) (by omega)).mono ?_
  rintro e' w12 ⟨rfl, hb⟩
  rw [HCC.out]
  replace hg1 := hg1.keep hb
  replace hg2 := hg2.keep hb
  replace hx := hx.keep hb
  replace hy := hy.keep hb
  replace hR1 := hR1.later hb
  replace hR2 := hR2.later hb
  replace hB := below_step hB hb
  clear hb ht1 ht2 hok1 hok2
  have hs1 : (convert 23 9 (.slice tA1 8 tc1)).run Try.prog w12 = .ok (.string (strL T)) w12 := run_str _ _ _ _ Try.underlying23 Try.underlying5 Try.underlying9 _ T 8 tc1 HT8.out hg1
  have hs2 : (convert 23 9 (.slice tA2 8 tc2)).run Try.prog w12 = .ok (.string (strL T)) w12 := run_str _ _ _ _ Try.underlying23 Try.underlying5 Try.underlying9 _ T 8 tc2 HT8.out hg2
  generalize strL T = ST at hs1 hs2
  clear hg1 hg2
  have k0 : w12.cell? ⟨g5, 0, none⟩ = some x.at0 := hR1.cell rfl
  have k1 : w12.cell? ⟨g5, 1, none⟩ = some x.at1 := hR1.cell rfl
  have k2 : ∀ o, (w12.alloc o).cell? ⟨g7, 0, none⟩ = some y.at0 := fun o => (hR2.alloc o).cell rfl
  have k3 : ∀ o, (w12.alloc o).cell? ⟨g7, 1, none⟩ = some y.at1 := fun o => (hR2.alloc o).cell rfl
  clear hR1 hR2
  go_wp2_with fail
  have hbx := below_new (Below.refl _ w12) (.cells #[x.at0, x.at1] 29)
  have hby := below_new hbx (.cells #[y.at0, y.at1] 29)
  refine (refsame_any [x] [y] 1 1 _ _ _ _ _ (Lib.hid rfl) (Lib.hid rfl) ((one_rd w12 _ rfl x).keep (below_new (Below.refl _ _) _)) (fun a ha => by simp at ha; subst ha; exact hx.keep hby) (one_rd _ (w12.heap.size + 1) (by simp) y) (fun a ha => by simp at ha; subst ha; exact hy.keep hby) (by omega) (by omega)).mono ?_
  rintro e' w13 ⟨rfl, hb⟩
  rw [HXY.out]
  go_wp2_with fail
  go_ret
  exact ⟨rfl, below_step hB (below_step hby hb)⟩
end Go.Proofs.Ytppdfldmbfddnaa
