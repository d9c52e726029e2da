/-
  What the program's used and installed of layer 20 answer (landed code). No conditions but those typed.
-/
import Derived.Test.YteljklkgdejhpaaGreatDoorQL9
import Derived.Maps.AppendAt
import Derived.Deep.QuietTactic
import Derived.BigQuiet
import Derived.Deep.Cut
set_option linter.unusedSimpArgs false
set_option linter.unusedVariables false
set_option maxRecDepth 100000
set_option maxHeartbeats 8000000
namespace Go.Proofs.YteljklkgdejhpaaGreatDoor
open Go.RowKit
def zqn (w : World) (x : WM) (m' : MemK) (er : Int) (e : Ending) (w' : World) : Prop :=
 ∃ x', e = .returned (.tuple #[aggM x' m', .int .i64 er]) ∧ InM w' x' m' ∧ (∀ lo hi, hi ≤ w.heap.size → OffM lo hi x → OffM lo hi x') ∧ Below w.heap.size w w'
theorem znj {c : Ca} {u : Us} (h : (putC c u).2 = 0) : (putC c u).1.2.2.length ≤ 64 := by
 cases hr : zby c with
 | false =>
  unfold putC at h
  rw [hr, if_pos rfl] at h
  exact absurd h (by show ¬ (1 : Int) = 0; decide)
 | true =>
  obtain ⟨⟨h1, h2⟩, h3, _⟩ := zct.1 (zia (u := u) hr)
  omega
theorem zoA {m : MemK} {u : Us} {clock floor : Nat} (h : clock < m.clock) : zaY m u clock floor = (m, 13) := if_pos h
theorem zpy {m : MemK} {u : Us} {clock floor : Nat} (h : ¬ clock < m.clock) (h2 : (putC (zbi m.c floor).1 u).2 ≠ 0) : zaY m u clock floor = (m, (putC (zbi m.c floor).1 u).2) := by
 unfold zaY
 rw [if_neg h, if_pos h2]
theorem zoB {m : MemK} {u : Us} {clock floor : Nat} (h : ¬ clock < m.clock) (h2 : (putC (zbi m.c floor).1 u).2 = 0) : zaY m u clock floor = (⟨clock, m.b, (putC (zbi m.c floor).1 u).1⟩, 0) := by
 unfold zaY
 rw [if_neg h, if_neg (not_not_intro h2)]
def cacS (g : Nat) (a b c : Value) (W : World) : Prop := W.cell? ⟨g, 0, none⟩ = some a ∧ (W.cell? ⟨g, 1, none⟩ = some b ∧ W.cell? ⟨g, 2, none⟩ = some c)
theorem zj2 {g : Nat} {t : TypeId} {a b c : Value} {W : World} (h : Row W g t [a, b, c]) : cacS g a b c W := ⟨h.cell rfl, h.cell rfl, h.cell rfl⟩
theorem zkI (x : WM) (m : MemK) (u : Us) (clock floor : Nat) (w : World) (h : InM w x m) (hu : zcF u) (hc : clock < 18446744073709551616) (hf : floor < 18446744073709551616) :
  Calls Tryz.prog 45 #[aggM x m, .agg #[.int .u64 (u.1 : Int), .int .u64 (u.2.1 : Int), .int .u64 (u.2.2 : Int)], .int .u64 (clock : Int), .int .u64 (floor : Int)] w (zqn w x (zaY m u clock floor).1 (zaY m u clock floor).2) := by
 obtain ⟨hR0, hR1, hR2, hB⟩ := za8 w 37 57 37 (lM x m) [.int .u64 (u.1 : Int), .int .u64 (u.2.1 : Int), .int .u64 (u.2.2 : Int)] l0M _ _ _ rfl rfl rfl
 have HM := Lib.hid h
 have HU := Lib.hid hu
 have HFIT := Lib.hid (zkC (clock := clock) (floor := floor) h.fit hu hc hf)
 obtain ⟨⟨⟨r1, f1, l1⟩, er1⟩, hX1⟩ : ∃ y, zbi m.c floor = y := ⟨_, rfl⟩
 obtain ⟨⟨⟨r2, f2, l2⟩, er2⟩, hX2⟩ : ∃ y, putC (r1, f1, l1) u = y := ⟨_, rfl⟩
 have HL1 : Hid (l1.length ≤ 1000000) := by have := zkV m.c floor; rw [hX1, h.ic.ns] at this; exact Nat.le_trans this h.ic.ls
 have HF1 : Hid (fitU l1) := by have := zgT floor h.ic.fit.2; rw [hX1] at this; exact this
 have HT1 : Hid (¬ clock < m.clock → er2 ≠ 0 → zaY m u clock floor = (m, er2)) := fun h1 h2 => by
  have := zpy (u := u) (floor := floor) h1 (by rw [hX1, hX2]; exact h2)
  rw [hX1, hX2] at this
  exact this
 have HT2 : Hid (¬ clock < m.clock → er2 = 0 → zaY m u clock floor = (⟨clock, m.b, (r2, f2, l2)⟩, 0)) := fun h1 h2 => by
  have := zoB (u := u) (floor := floor) h1 (by rw [hX1, hX2]; exact h2)
  rw [hX1, hX2] at this
  exact this
 have HS2 : Hid (er2 = 0 → l2.length ≤ 64) := fun h2 => by have := znj (c := (r1, f1, l1)) (u := u) (by rw [hX2]; exact h2); rw [hX2] at this; exact this
 have HRA := Lib.hid (fun W (hb : Below w.heap.size w W) => zjD m.c.1 m.c.2.1 m.c.2.2 floor x.c.s x.c.c x.c.A W (Lib.hid h.ic.ns) (h.ic.ru.keep hb) (Lib.hid h.ic.fit.2) h.ic.ls)
 rw [show (m.c.1, m.c.2.1, m.c.2.2) = m.c from rfl, hX1] at HRA
 have HPU := Lib.hid (fun n A c W (HN : Hid (l1.length = n)) (hr : RdU W A l1) (hn : n ≤ 1000000) => zmF r1 f1 l1 u.1 u.2.1 u.2.2 n c A W HN hr HF1 (Lib.hid hu) hn)
 rw [show (u.1, u.2.1, u.2.2) = u from rfl, hX2] at HPU
 unfold aggC at HRA HPU
 clear h hu hX1 hX2
 unfold aggM
 by_cases hcl : clock < m.clock
 ·rw [zoA hcl]
  have i1 : (clock : Int) < (m.clock : Int) := by omega
  clear HFIT HRA HPU HT1 HT2 HS2 HL1 HF1 hcl
  go_enter Tryz.func45, Tryz.ntmps45
  go_upto_region 1 with fail
  generalize ((w.alloc (.cells (lM x m).toArray 37)).alloc (.cells [.int .u64 (u.1 : Int), .int .u64 (u.2.1 : Int), .int .u64 (u.2.2 : Int)].toArray 57)).alloc (.cells l0M.toArray 37) = W0 at hR0 hR1 hR2 hB ⊢
  have k0 := hR0.cell (i := 0) rfl
  go_wp2_with (first
   | (refine zac rfl 37 (.tmp 4) rfl (w.heap.size) 0 rfl _ _ (hR0) ((lM x m)) (by rfl) _ Tryz.underlying37 rfl (by exact zai) ?_)
   | (refine zab rfl 37 (.tmp 8) (.tmp 18) rfl (w.heap.size + 1 + 1) rfl ((lM x m)) rfl _ _ (hR2) (by exact zai) rfl (zaq x m) ?_))
  refine bodyPost_ret (zag (p := 8) (u := 9) (ty := 37) (by rfl) _ _ (w.heap.size + 1 + 1) 37 _ _ (by rfl) (by exact hR2.setRow _) Tryz.underlying37 (by rfl) (by exact zai)) (by rfl) ?_
  have hB2 := below_setRow hB (show w.heap.size ≤ w.heap.size + 1 + 1 by omega) (lM x m).toArray
  exact ⟨x, rfl, HM.out.keep hB2, (fun _ _ _ hf => hf), hB2⟩
 ·have i1 : ¬ (clock : Int) < (m.clock : Int) := by omega
  go_enter Tryz.func45, Tryz.ntmps45
  go_upto_region 1 with fail
  generalize ((w.alloc (.cells (lM x m).toArray 37)).alloc (.cells [.int .u64 (u.1 : Int), .int .u64 (u.2.1 : Int), .int .u64 (u.2.2 : Int)].toArray 57)).alloc (.cells l0M.toArray 37) = W0 at hR0 hR1 hR2 hB ⊢
  have k0 := hR0.cell (i := 0) rfl
  go_wp2_with (refine zac rfl 35 (.tmp 20) rfl (w.heap.size) 4 rfl _ _ (hR0) ((lC x.c m.c)) (by rfl) _ Tryz.underlying35 rfl (by exact zap) ?_)
  refine (HRA.out _ hB).mono ?_
  rintro e w1 ⟨A1, n1, c1, rfl, HN1, hc1, hr1, hf1, hb1⟩
  unfold aggC
  dsimp only at HN1 hr1 ⊢
  replace hR0 := hR0.later hb1
  replace hR1 := hR1.later hb1
  replace hR2 := hR2.later hb1
  have hB1 := zaa hB hb1
  have hz1 := hB1.size
  obtain ⟨hRc, hBc⟩ := zat w1 35 l0C _ rfl
  clear hb1 k0 HRA hB
  go_upto_region 4 with (refine zab rfl 35 (.tmp 10) (.tmp 24) rfl (w1.heap.size) rfl ([.int .i64 r1, .int .u64 (f1 : Int), .slice A1 n1 c1]) rfl _ _ (hRc) (by exact zap) rfl (za3 r1 f1 A1 n1 c1) ?_)
  have hRc2 := hRc.setRow [.int .i64 r1, .int .u64 (f1 : Int), .slice A1 n1 c1]
  have hbn := below_setRow hBc (Nat.le_refl _) [.int .i64 r1, .int .u64 (f1 : Int), .slice A1 n1 c1].toArray
  clear hRc hBc
  have hgz := hR2.lt
  generalize (w1.alloc (.cells l0C.toArray 35)).setRow w1.heap.size [.int .i64 r1, .int .u64 (f1 : Int), .slice A1 n1 c1].toArray = w2 at hRc2 hbn ⊢
  replace hr1 := hr1.keep hbn
  replace hR0 := hR0.later hbn
  replace hR1 := hR1.later hbn
  replace hR2 := hR2.later hbn
  have hB2 := zaa hB1 hbn
  clear hbn hB1
  generalize w1.heap.size = gc at hRc2 hgz ⊢
  have hn1 : n1 ≤ 1000000 := by rw [← HN1.out]; exact HL1.out
  go_wp2_with (first
   | (refine zac rfl 35 (.tmp 10) rfl (gc) 0 rfl _ _ (hRc2) ([.int .i64 r1, .int .u64 (f1 : Int), .slice A1 n1 c1]) (by rfl) _ Tryz.underlying35 rfl (by exact zap) ?_)
   | (refine zac rfl 57 (.tmp 5) rfl (w.heap.size + 1) 0 rfl _ _ (hR1) ([.int .u64 (u.1 : Int), .int .u64 (u.2.1 : Int), .int .u64 (u.2.2 : Int)]) (by rfl) _ Tryz.underlying57 rfl (by exact zaW) ?_))
  refine (HPU.out n1 A1 c1 _ HN1 hr1 hn1).mono ?_
  rintro e w3 ⟨A3, n3, c3, rfl, HN3, hc3, hr3, hf3, hb3⟩
  unfold aggC
  dsimp only at HN3 hr3 ⊢
  have hz3 := hb3.size
  have hgc := hRc2.lt
  replace hR0 := hR0.later hb3
  replace hR2 := hR2.later hb3
  have hB3 := zaa hB2 hb3
  have HF3 : Hid (∀ a, A3 = some a → gc < a.block) := fun a ha => by have := hf3 a ha; omega
  obtain ⟨hRd, hBd⟩ := zat w3 35 l0C _ rfl
  clear hb3 HPU hB2 hRc2 hR1 hr1 hf3
  have hgz3 := hR2.lt
  go_upto_region 5 with (refine zab rfl 35 (.tmp 12) (.tmp 30) rfl (w3.heap.size) rfl ([.int .i64 r2, .int .u64 (f2 : Int), .slice A3 n3 c3]) rfl _ _ (hRd) (by exact zap) rfl (za3 r2 f2 A3 n3 c3) ?_)
  have hRd2 := hRd.setRow [.int .i64 r2, .int .u64 (f2 : Int), .slice A3 n3 c3]
  have hbn := below_setRow hBd (Nat.le_refl _) [.int .i64 r2, .int .u64 (f2 : Int), .slice A3 n3 c3].toArray
  clear hRd hBd
  generalize (w3.alloc (.cells l0C.toArray 35)).setRow w3.heap.size [.int .i64 r2, .int .u64 (f2 : Int), .slice A3 n3 c3].toArray = w4 at hRd2 hbn ⊢
  replace hr3 := hr3.keep hbn
  replace hR0 := hR0.later hbn
  replace hR2 := hR2.later hbn
  have hB4 := zaa hB3 hbn
  clear hbn hB3
  generalize w3.heap.size = gd at hRd2 hgz3 hz3 ⊢
  by_cases he : er2 = 0
  ·subst he
   have HTT := Lib.hid (HT2.out hcl rfl)
   rw [HTT.out] at HFIT
   have hl2 := HS2.out rfl
   have HM2 := Lib.hid hl2
   rw [HN3.out] at hl2
   clear HT1 HT2 HS2 hcl
   go_upto_region 7 with fail
   have hS := zj2 (W := w4.drew) (show Row w4.drew gd 35 [.int .i64 r2, .int .u64 (f2 : Int), .slice A3 n3 c3] from hRd2)
   have hR0' := hR0.drew
   have hR2' := hR2.drew
   have hRd' := hRd2.drew
   have hB' := hB4.drew
   have hr' := hr3.keep ((Below.refl _ w4).drew)
   refine zah (cacS gd (.int .i64 r2) (.int .u64 (f2 : Int)) (.slice A3 n3 c3)) (.step 0 false (.step 1 false (.step 2 false (.step 3 true (.step 4 false (.step 5 true (.nil))))))) hS (by kernel_rfl) (by kernel_rfl) (by rfl) (by kernel_rfl) ?_
   clear hR0 hR2 hRd2 hB4 hr3
   generalize w4.drew = wv at *
   iterate 3 (refine zae rfl (by rfl) (v := ?_) ?_ ?_; rotate_left 1; (rintro W ⟨hW0, hW1⟩; go_simp <;> with_reducible rfl); simp only [pA, pB, pC, Act.put, pD, pE, pF])
   have hfr := hR0'.frozen 0
   have hc0 : wv.cell? ⟨w.heap.size, 0, none⟩ = some (.int .u64 (m.clock : Int)) := hR0'.cell rfl
   have hO5 := (Only.refl w.heap.size wv).setCell 0 (.int .u64 (clock : Int))
   have hR5 : Row (wv.setCell ⟨w.heap.size, 0, none⟩ (.int .u64 (clock : Int))) w.heap.size 37 [.int .u64 (clock : Int), .int .u64 (m.b.1 : Int), .slice x.b.eA x.b.n x.b.ec, .slice x.b.gA x.b.g x.b.gc, .int .i64 m.c.1, .int .u64 (m.c.2.1 : Int), .slice x.c.A x.c.s x.c.c] := hR0'.setCell 0 _
   have hRd5 := hRd'.only hO5 (show gd ≠ w.heap.size by omega)
   refine zad rfl (by rfl) (fun K hK => ?_)
   go_simp
   refine hK.out _ _ (zj2 hRd5) ?_
   clear hK K
   have hR25 := hR2'.only hO5 (by omega)
   have hB5 := hB'.trans hO5.below
   have hr5 := hr'.only hO5 (fun _ a ha => by have := HF3.out a ha; omega)
   clear hR0' hR2' hRd' hB' hr' hO5 hfr hc0 hS
   generalize wv.setCell ⟨w.heap.size, 0, none⟩ (.int .u64 (clock : Int)) = w6 at *
   iterate 1 (refine zae rfl (by rfl) (v := ?_) ?_ ?_; rotate_left 1; (rintro W ⟨hW0, hW1⟩; go_simp <;> with_reducible rfl); simp only [pA, pB, pC, Act.put, pD, pE, pF])
   refine zad rfl (by rfl) (fun K hK => ?_)
   refine wp_store_mid 35 (.tmp 39) (.tmp 37) rfl w.heap.size 4 #[.int .i64 r2, .int .u64 (f2 : Int), .slice A3 n3 c3] rfl rfl (zaV hR5 4 3 (by simp)) (by exact zap) (by exact all_oneCell_toArray (zaK _ _ _ rfl rfl rfl)) ?_
   have hO7 := Only.setCells (g := w.heap.size) [.int .i64 r2, .int .u64 (f2 : Int), .slice A3 n3 c3] 4 (Only.refl _ w6)
   refine hK.out _ _ (zj2 (hRd5.only hO7 (by omega))) ?_
   clear hK K
   have hR7 : Row (w6.setCells w.heap.size 4 [.int .i64 r2, .int .u64 (f2 : Int), .slice A3 n3 c3]) w.heap.size 37 [.int .u64 (clock : Int), .int .u64 (m.b.1 : Int), .slice x.b.eA x.b.n x.b.ec, .slice x.b.gA x.b.g x.b.gc, .int .i64 r2, .int .u64 (f2 : Int), .slice A3 n3 c3] := hR5.setCells _ 4 (by simp)
   have hR27 := hR25.only hO7 (by omega)
   have hB7 := hB5.trans hO7.below
   have hr7 := hr5.only hO7 (fun _ a ha => by have := HF3.out a ha; omega)
   clear hR5 hR25 hB5 hr5 hO7 hRd5
   generalize w6.setCells w.heap.size 4 [.int .i64 r2, .int .u64 (f2 : Int), .slice A3 n3 c3] = w8 at *
   refine zal ?_
   go_wp2_with (first
    | (refine zac rfl 37 (.tmp 4) rfl (w.heap.size) 0 rfl _ _ (hR7) ([.int .u64 (clock : Int), .int .u64 (m.b.1 : Int), .slice x.b.eA x.b.n x.b.ec, .slice x.b.gA x.b.g x.b.gc, .int .i64 r2, .int .u64 (f2 : Int), .slice A3 n3 c3]) (by rfl) _ Tryz.underlying37 rfl (by exact zai) ?_)
    | (refine zab rfl 37 (.tmp 8) (.tmp 40) rfl (w.heap.size + 1 + 1) rfl ([.int .u64 (clock : Int), .int .u64 (m.b.1 : Int), .slice x.b.eA x.b.n x.b.ec, .slice x.b.gA x.b.g x.b.gc, .int .i64 r2, .int .u64 (f2 : Int), .slice A3 n3 c3]) rfl _ _ (hR27) (by exact zai) rfl (zaq ⟨x.b, ⟨A3, n3, c3⟩⟩ ⟨clock, m.b, (r2, f2, l2)⟩) ?_))
   refine bodyPost_ret (zag (p := 8) (u := 9) (ty := 37) (by rfl) _ _ (w.heap.size + 1 + 1) 37 _ _ (by rfl) (by exact hR27.setRow _) Tryz.underlying37 (by rfl) (by exact zai)) (by rfl) ?_
   have hO9 := (Only.refl (w.heap.size + 1 + 1) w8).setRow [.int .u64 (clock : Int), .int .u64 (m.b.1 : Int), .slice x.b.eA x.b.n x.b.ec, .slice x.b.gA x.b.g x.b.gc, .int .i64 r2, .int .u64 (f2 : Int), .slice A3 n3 c3].toArray
   have hB9 := hB7.trans (hO9.below.mono (by omega))
   try (first | rw [HTT.out] | rw [HTT])
   exact ⟨⟨x.b, ⟨A3, n3, c3⟩⟩, rfl, ⟨HFIT.out.1, HM.out.ib.keep hB9, ⟨HN3.out, hc3, hr7.only hO9 (fun _ a ha => by have := HF3.out a ha; omega), by show n3 ≤ 1000000; omega, HFIT.out.2.2⟩⟩, (fun lo hi hh hf => ⟨hf.b, fun _ a ha => by have := HF3.out a ha; right; omega⟩), hB9⟩
  ·have HTT := HT1.out hcl he
   rw [HTT] at HFIT ⊢
   have he1 : (er2 == 0) = false := beq_eq_false_iff_ne.2 he
   have he2 : (er2 != 0) = true := by rw [bne, he1]; rfl
   clear HT1 HT2 HS2 hcl he hr3 hRd2
   go_wp2_with (first
    | (refine zac rfl 37 (.tmp 4) rfl (w.heap.size) 0 rfl _ _ (hR0) ((lM x m)) (by rfl) _ Tryz.underlying37 rfl (by exact zai) ?_)
    | (refine zab rfl 37 (.tmp 8) (.tmp 34) rfl (w.heap.size + 1 + 1) rfl ((lM x m)) rfl _ _ (hR2) (by exact zai) rfl (zaq x m) ?_))
   refine bodyPost_ret (zag (p := 8) (u := 9) (ty := 37) (by rfl) _ _ (w.heap.size + 1 + 1) 37 _ _ (by rfl) (by exact hR2.setRow _) Tryz.underlying37 (by rfl) (by exact zai)) (by rfl) ?_
   have hB2 := below_setRow hB4 (show w.heap.size ≤ w.heap.size + 1 + 1 by omega) (lM x m).toArray
   try (first | rw [HTT.out] | rw [HTT])
   exact ⟨x, rfl, HM.out.keep hB2, (fun _ _ _ hf => hf), hB2⟩
theorem zcJ (x : WM) (m : MemK) (y : WB) (b : Bn) (w : World) (h : InM w x m) (hb : InB w y b) :
  Calls Tryz.prog 51 #[aggM x m, zdY y b] w fun e w' => ((b.1 ≤ m.b.1 ∧ e = .returned (.tuple #[aggM x m, .int .i64 13])) ∨ (m.b.1 < b.1 ∧ e = .returned (.tuple #[aggM ⟨y, x.c⟩ { m with b := b }, .int .i64 0]))) ∧ Below w.heap.size w w' := by
 obtain ⟨hR0, hR1, hR2, hB⟩ := za8 w 37 32 37 (lM x m) (lB y b) l0M _ _ _ rfl rfl rfl
 clear h hb
 unfold aggM zdY aggB
 by_cases hv : b.1 ≤ m.b.1
 ·have i1 : (b.1 : Int) ≤ (m.b.1 : Int) := by omega
  have HV := Lib.hid hv
  clear hv
  go_enter Tryz.func51, Tryz.ntmps51
  go_upto_region 1 with fail
  generalize ((w.alloc (.cells (lM x m).toArray 37)).alloc (.cells (lB y b).toArray 32)).alloc (.cells l0M.toArray 37) = W0 at hR0 hR1 hR2 hB ⊢
  have k0 := hR0.cell (i := 1) rfl
  have k1 := hR1.cell (i := 0) rfl
  go_wp2_with (first
   | (refine zac rfl 37 (.tmp 2) rfl (w.heap.size) 0 rfl _ _ (hR0) ((lM x m)) (by rfl) _ Tryz.underlying37 rfl (by exact zai) ?_)
   | (refine zab rfl 37 (.tmp 4) (.tmp 12) rfl (w.heap.size + 1 + 1) rfl ((lM x m)) rfl _ _ (hR2) (by exact zai) rfl (zaq x m) ?_))
  refine bodyPost_ret (zag (p := 4) (u := 5) (ty := 37) (by rfl) _ _ (w.heap.size + 1 + 1) 37 _ _ (by rfl) (by exact hR2.setRow _) Tryz.underlying37 (by rfl) (by exact zai)) (by rfl) ?_
  exact ⟨.inl ⟨HV.out, rfl⟩, below_setRow hB (by omega) _⟩
 ·have i1 : ¬ (b.1 : Int) ≤ (m.b.1 : Int) := by omega
  have HV := Lib.hid hv
  clear hv
  go_enter Tryz.func51, Tryz.ntmps51
  go_upto_region 1 with fail
  generalize ((w.alloc (.cells (lM x m).toArray 37)).alloc (.cells (lB y b).toArray 32)).alloc (.cells l0M.toArray 37) = W0 at hR0 hR1 hR2 hB ⊢
  have k0 := hR0.cell (i := 1) rfl
  have k1 := hR1.cell (i := 0) rfl
  have hX6 : Row (W0.setCells w.heap.size 1 (lB y b)) w.heap.size 37 [.int .u64 (m.clock : Int), .int .u64 (b.1 : Int), .slice y.eA y.n y.ec, .slice y.gA y.g y.gc, .int .i64 m.c.1, .int .u64 (m.c.2.1 : Int), .slice x.c.A x.c.s x.c.c] := hR0.setCells _ 1 (by simp)
  have hOs := Only.setCells (g := w.heap.size) (lB y b) 1 (Only.refl _ W0)
  have hR6 := hR2.only hOs (by omega)
  have hB6 := hB.trans hOs.below
  go_upto_region 4 with (first
   | (refine zac rfl 32 (.tmp 3) rfl (w.heap.size + 1) 0 rfl _ _ (hR1) ((lB y b)) (by rfl) _ Tryz.underlying32 rfl (by exact zax) ?_)
   | (refine wpList_store_mid rfl 32 (.tmp 14) (.tmp 13) rfl (w.heap.size) 1 ((lB y b).toArray) rfl rfl (zaV hR0 1 3 (by simp)) (by exact zax) (by exact all_oneCell_toArray (zaK _ _ _ rfl rfl rfl)) ?_))
  clear hR0 hR1 hR2 hB hOs k0 k1
  generalize W0.setCells w.heap.size 1 (lB y b) = w6 at hX6 hR6 hB6 ⊢
  go_wp2_with (first
   | (refine zac rfl 37 (.tmp 2) rfl (w.heap.size) 0 rfl _ _ (hX6) ([.int .u64 (m.clock : Int), .int .u64 (b.1 : Int), .slice y.eA y.n y.ec, .slice y.gA y.g y.gc, .int .i64 m.c.1, .int .u64 (m.c.2.1 : Int), .slice x.c.A x.c.s x.c.c]) (by rfl) _ Tryz.underlying37 rfl (by exact zai) ?_)
   | (refine zab rfl 37 (.tmp 4) (.tmp 15) rfl (w.heap.size + 1 + 1) rfl ([.int .u64 (m.clock : Int), .int .u64 (b.1 : Int), .slice y.eA y.n y.ec, .slice y.gA y.g y.gc, .int .i64 m.c.1, .int .u64 (m.c.2.1 : Int), .slice x.c.A x.c.s x.c.c]) rfl _ _ (hR6) (by exact zai) rfl (zaq ⟨y, x.c⟩ { m with b := b }) ?_))
  refine bodyPost_ret (zag (p := 4) (u := 5) (ty := 37) (by rfl) _ _ (w.heap.size + 1 + 1) 37 _ _ (by rfl) (by exact hR6.setRow _) Tryz.underlying37 (by rfl) (by exact zai)) (by rfl) ?_
  exact ⟨.inr ⟨Nat.lt_of_not_le HV.out, rfl⟩, below_setRow hB6 (by omega) _⟩
def zpY (g : Nat) (x : WM) (G : Option MemK) (w : World) (e : Ending) (w' : World) : Prop :=
 ∃ x' m' er, e = .returned (.tuple #[aggM x' m', .int .i64 er]) ∧ InM w' x' m' ∧ (∀ lo hi, hi ≤ w.heap.size → OffM lo hi x → OffM lo hi x') ∧ Hid (er = 0 → G = some m') ∧ Hid (er ≠ 0 → G = none) ∧ Only g w w'
def useG (m : MemK) (S : List UInt8) : Option MemK := if S.length = 40 then (if (zaY m (zcG S 0) (za5 S 24) (za5 S 32)).2 = 0 then some (zaY m (zcG S 0) (za5 S 24) (za5 S 32)).1 else none) else none
def bunG (m : MemK) (S : List UInt8) : Option MemK := match allB S with
 | none => none
 | some x => if m.b.1 < x.1 then some { m with b := x } else none
theorem znk (x : WM) (m : MemK) (lo g : Nat) (S : List UInt8) (w : World) (hX : InM w x m) (hoff : OffM lo w.heap.size x) (hlo : lo ≤ g) (hT : RdRF g 0 S w) :
  Calls Tryz.prog 139 #[aggM x m, .pointer (some ⟨g, 0, none⟩)] w (zpY g x (useG m S) w) := by
 have hgl := hT.lt
 obtain ⟨⟨u0, u1, u2⟩, k1, S1, H1⟩ : ∃ y k T, useK 0 S = (y, k, T) := ⟨_, _, _, rfl⟩
 obtain ⟨c, k2, S2, H2⟩ : ∃ y k T, zaH k1 S1 = (y, k, T) := ⟨_, _, _, rfl⟩
 obtain ⟨f, k3, S3, H3⟩ : ∃ y k T, zaH k2 S2 = (y, k, T) := ⟨_, _, _, rfl⟩
 obtain ⟨kE, hkE⟩ : ∃ k, endK k3 S3 = k := ⟨_, rfl⟩
 have hfu : zcF (u0, u1, u2) := by have := zkv 0 S; rw [H1] at this; exact this
 have hfc : c < 18446744073709551616 := by have := zdZ k1 S1; rw [H2] at this; exact this
 have hff : f < 18446744073709551616 := by have := zdZ k2 S2; rw [H3] at this; exact this
 have hst := zm7 H1 H2 H3
 rw [hkE] at hst
 have HG : Hid ((kE ≠ 0 → useG m S = none) ∧ (kE = 0 → useG m S = if (zaY m (u0, u1, u2) c f).2 = 0 then some (zaY m (u0, u1, u2) c f).1 else none)) := by
  obtain ⟨h1, h2⟩ := hst
  unfold useG
  by_cases hl : S.length = 40
  ·obtain ⟨e0, e1, e2, e3⟩ := h1 hl
   rw [if_pos hl, ← e1, ← e2, ← e3]
   exact ⟨fun h => absurd e0 h, fun _ => rfl⟩
  ·rw [if_neg hl]
   exact ⟨fun _ => rfl, fun h => absurd h (h2 hl)⟩
 replace H1 := Lib.hid H1
 replace H2 := Lib.hid H2
 replace H3 := Lib.hid H3
 have HKE := Lib.hid hkE
 have HX := Lib.hid (fun W (hb : Below g w W) => hX.old hoff (hb.mono hlo))
 have HOF := Lib.hid (fun hi => hoff.any hX hi)
 have HFU := Lib.hid hfu
 clear hst hkE hX hfu hoff
 obtain ⟨hR0, hR1, hB⟩ := zaB w 37 37 (lM x m) l0M _ _ rfl rfl
 have hT0 := hT.below (hB.mono (show g + 1 ≤ w.heap.size by omega))
 unfold aggM
 go_enter Tryz.func139, Tryz.ntmps139
 go_upto_region 1 with fail
 generalize (w.alloc (.cells (lM x m).toArray 37)).alloc (.cells l0M.toArray 37) = W0 at hR0 hR1 hB hT0 ⊢
 have hBg := Only.later hB (show g ≤ w.heap.size by omega)
 have hs0 := hB.size
 clear hT hB
 go_wp2_with fail
 refine (zgq g 0 S W0 hT0).mono ?_
 rw [H1.out]
 rintro e w1 ⟨rfl, hT1, hO⟩
 dsimp only at hT1 ⊢
 replace hR0 := hR0.only hO (by omega)
 replace hR1 := hR1.only hO (by omega)
 replace hBg := hBg.trans hO
 have hl1 := hR1.lt
 obtain ⟨hRu, hBu⟩ := zat w1 57 [.int .u64 0, .int .u64 0, .int .u64 0] _ rfl
 clear hO hT0
 go_upto_region 2 with (refine zab rfl 57 (.tmp 6) (.tmp 10) rfl (w1.heap.size) rfl ([.int .u64 (u0 : Int), .int .u64 (u1 : Int), .int .u64 (u2 : Int)]) rfl _ _ (hRu) (by exact zaW) rfl (zaK _ _ _ rfl rfl rfl) ?_)
 have hRu2 := hRu.setRow [.int .u64 (u0 : Int), .int .u64 (u1 : Int), .int .u64 (u2 : Int)]
 have hbn := below_setRow hBu (Nat.le_refl _) [.int .u64 (u0 : Int), .int .u64 (u1 : Int), .int .u64 (u2 : Int)].toArray
 clear hRu hBu
 generalize (w1.alloc (.cells #[.int .u64 0, .int .u64 0, .int .u64 0] 57)).setRow w1.heap.size [.int .u64 (u0 : Int), .int .u64 (u1 : Int), .int .u64 (u2 : Int)].toArray = w2 at hRu2 hbn ⊢
 replace hR0 := hR0.later hbn
 replace hR1 := hR1.later hbn
 have hT2 := hT1.below (hbn.mono (show g + 1 ≤ w1.heap.size by omega))
 replace hBg := hBg.laterBy (by omega) (hbn.mono (by omega))
 clear hT1 hbn
 generalize w1.heap.size = gu at hRu2 hl1 ⊢
 go_wp2_with fail
 refine (zbb g k1 S1 w2 hT2).mono ?_
 rw [H2.out]
 rintro e w3 ⟨rfl, hT3, hO⟩
 dsimp only at hT3 ⊢
 replace hR0 := hR0.only hO (by omega)
 replace hR1 := hR1.only hO (by omega)
 replace hRu2 := hRu2.only hO (by omega)
 replace hBg := hBg.trans hO
 clear hO hT2
 go_wp2_with fail
 refine (zbb g k2 S2 w3 hT3).mono ?_
 rw [H3.out]
 rintro e w4 ⟨rfl, hT4, hO⟩
 dsimp only at hT4 ⊢
 replace hR0 := hR0.only hO (by omega)
 replace hR1 := hR1.only hO (by omega)
 replace hRu2 := hRu2.only hO (by omega)
 replace hBg := hBg.trans hO
 clear hO hT3
 go_wp2_with fail
 refine (zkt g k3 S3 w4 hT4).mono ?_
 rw [HKE.out]
 rintro e w5 ⟨rfl, ⟨vg, hG⟩, hO⟩
 replace hR0 := hR0.only hO (by omega)
 replace hR1 := hR1.only hO (by omega)
 replace hRu2 := hRu2.only hO (by omega)
 replace hBg := hBg.trans hO
 clear hO hT4
 have cg : w5.cell? ⟨g, 1, none⟩ = some (.int .i64 kE) := hG.cell rfl
 by_cases hz : kE = 0
 ·subst hz
  have HUS := Lib.hid (zkI x m (u0, u1, u2) c f w5 (HX.out _ hBg.below) HFU.out hfc hff)
  obtain ⟨P, hP⟩ : ∃ P, zaY m (u0, u1, u2) c f = P := ⟨_, rfl⟩
  have HG2 := Lib.hid (HG.out.2 rfl)
  rw [hP] at HUS HG2
  unfold aggM at HUS
  clear hP HG
  go_wp2_with (first
   | (refine zac rfl 37 (.tmp 2) rfl (w.heap.size) 0 rfl _ _ (hR0) ((lM x m)) (by rfl) _ Tryz.underlying37 rfl (by exact zai) ?_)
   | (refine zac rfl 57 (.tmp 6) rfl (gu) 0 rfl _ _ (hRu2) ([.int .u64 (u0 : Int), .int .u64 (u1 : Int), .int .u64 (u2 : Int)]) (by rfl) _ Tryz.underlying57 rfl (by exact zaW) ?_))
  refine HUS.out.mono ?_
  rintro e w6 ⟨x', rfl, hI6, hf6, hb6⟩
  unfold aggM
  have hl5 := hRu2.lt
  have hR16 := hR1.later hb6
  have hl16 := hR1.lt
  have hs5 := hBg.below.size
  have hB6 := hBg.laterBy (by omega) (hb6.mono (by omega))
  obtain ⟨M', er⟩ := P
  dsimp only at hI6 HG2 ⊢
  clear hR0 hR1 hRu2 cg HUS hb6
  go_wp2_with (refine zab rfl 37 (.tmp 4) (.tmp 32) rfl (w.heap.size + 1) rfl ((lM x' M')) rfl _ _ (hR16) (by exact zai) rfl (zaq x' M') ?_)
  refine bodyPost_ret (zag (p := 4) (u := 5) (ty := 37) (by rfl) _ _ (w.heap.size + 1) 37 _ _ (by rfl) (by exact hR16.setRow _) Tryz.underlying37 (by rfl) (by exact zai)) (by rfl) ?_
  have hoff5 := hf6 lo _ (Nat.le_refl _) (HOF.out _)
  have hO7 := (Only.refl (w.heap.size + 1) w6).setRow (lM x' M').toArray
  refine ⟨x', M', er, rfl, hI6.at_only hO7 hoff5 (by omega) (by omega), (fun lo' hi hh ho => hf6 lo' hi (by omega) ho), ?_, ?_, hB6.setRowNew (by omega) (by omega) _⟩
  ·intro h0
   rw [HG2.out, if_pos h0]
  ·intro h0
   rw [HG2.out, if_neg h0]
 ·have hz1 : (kE == 0) = false := beq_eq_false_iff_ne.2 hz
  have hz2 : (kE != 0) = true := by rw [bne, hz1]; rfl
  have HG2 := Lib.hid (HG.out.1 hz)
  clear HG
  go_upto_region 5 with fail
  have hS := zfl (W := w5.drew) (show Row w5.drew w.heap.size 37 (lM x m) from hR0) (show Row w5.drew g 186 [vg, .int .i64 kE] from hG)
  have hR0' := hR0.drew
  have hR1' := hR1.drew
  have hG' := hG.drew
  have hBg' := hBg.drew
  refine zah (memR w.heap.size g (.int .u64 (m.clock : Int)) (.int .u64 (m.b.1 : Int)) (.slice x.b.eA x.b.n x.b.ec) (.slice x.b.gA x.b.g x.b.gc) (.int .i64 m.c.1) (.int .u64 (m.c.2.1 : Int)) (.slice x.c.A x.c.s x.c.c) (.int .i64 kE)) (.step 0 false (.step 1 false (.step 2 false (.step 3 false (.step 4 false (.step 5 true (.step 6 false (.nil)))))))) hS (by kernel_rfl) (by kernel_rfl) (by rfl) (by kernel_rfl) ?_
  clear hR0 hR1 hG hBg hRu2 cg
  generalize w5.drew = wv at *
  iterate 5 (refine zae rfl (by rfl) (v := ?_) ?_ ?_; rotate_left 1; (rintro W ⟨hW0, hW1⟩; go_simp <;> with_reducible rfl); simp only [pA, pB, pC, Act.put, pD, pE, pF])
  refine zad rfl (by rfl) (fun K hK => ?_)
  refine hR1'.wp_store 37 (.tmp 4) (.tmp 22) rfl rfl (lM x m) rfl (by exact zai) rfl (zaq x m) ?_
  refine hK.out _ _ (zfl (hR0'.setRow_other (by omega) _) (hG'.setRow_other (by omega) _)) ?_
  clear hK K
  simp only [pA, pB, pC, Act.put, pD, pE, pF]
  iterate 1 (refine zae rfl (by rfl) (v := ?_) ?_ ?_; rotate_left 1; (rintro W ⟨hW0, hW1⟩; go_simp <;> with_reducible rfl); simp only [pA, pB, pC, Act.put, pD, pE, pF])
  refine zal ?_
  go_wp2_with fail
  refine bodyPost_ret (zag (p := 4) (u := 5) (ty := 37) (by rfl) _ _ (w.heap.size + 1) 37 _ _ (by rfl) (by exact hR1'.setRow _) Tryz.underlying37 (by rfl) (by exact zai)) (by rfl) ?_
  have hBf := hBg'.setRowNew (by omega) (show w.heap.size ≤ w.heap.size + 1 by omega) (lM x m).toArray
  refine ⟨x, m, kE, rfl, HX.out _ hBf.below, (fun _ _ _ ho => ho), fun h0 => absurd h0 hz, fun _ => HG2.out, hBf⟩
theorem znl (x : WM) (m : MemK) (lo g : Nat) (S : List UInt8) (w : World) (hX : InM w x m) (hoff : OffM lo w.heap.size x) (hlo : lo ≤ g) (hT : RdRF g 0 S w) :
  Calls Tryz.prog 140 #[aggM x m, .pointer (some ⟨g, 0, none⟩)] w (zpY g x (bunG m S) w) := by
 have hgl := hT.lt
 have HX := Lib.hid (fun W (hb : Below g w W) => hX.old hoff (hb.mono hlo))
 have HOF := Lib.hid (fun hi => hoff.any hX hi)
 clear hX hoff
 obtain ⟨hR0, hR1, hB⟩ := zaB w 37 37 (lM x m) l0M _ _ rfl rfl
 have hT0 := hT.below (hB.mono (show g + 1 ≤ w.heap.size by omega))
 unfold aggM
 go_enter Tryz.func140, Tryz.ntmps140
 go_upto_region 1 with fail
 generalize (w.alloc (.cells (lM x m).toArray 37)).alloc (.cells l0M.toArray 37) = W0 at hR0 hR1 hB hT0 ⊢
 have hBg := Only.later hB (show g ≤ w.heap.size by omega)
 have hs0 := hR1.lt
 clear hT hB
 go_wp2_with fail
 refine (zeo g 0 S W0 hT0).mono ?_
 rintro e w1 ⟨y, b, kE, vg, rfl, hIb, hFb, hBK, hG, hO⟩
 unfold zdY aggB
 replace hR0 := hR0.only hO (by omega)
 replace hR1 := hR1.only hO (by omega)
 replace hBg := hBg.trans hO
 have hs1 := hO.below.size
 have hOb := hFb.off lo
 obtain ⟨hRu, hBu⟩ := zat w1 32 l0B _ rfl
 have HGG : Hid ((kE ≠ 0 → bunG m S = none) ∧ (kE = 0 → bunG m S = if m.b.1 < b.1 then some { m with b := b } else none)) := by
  unfold bunG
  rcases hBK.2 rfl with ⟨h1, h2⟩ | ⟨h1, h2⟩
  ·rw [h2]
   exact ⟨fun h => absurd h1 h, fun _ => rfl⟩
  ·rw [h2]
   exact ⟨fun _ => rfl, fun h => absurd h h1⟩
 clear hO hT0 hBK
 go_upto_region 2 with (refine zab rfl 32 (.tmp 6) (.tmp 8) rfl (w1.heap.size) rfl ((lB y b)) rfl _ _ (hRu) (by exact zax) rfl (zaK _ _ _ rfl rfl rfl) ?_)
 have hRu2 := hRu.setRow (lB y b)
 have hbn := below_setRow hBu (Nat.le_refl _) (lB y b).toArray
 clear hRu hBu
 generalize (w1.alloc (.cells l0B.toArray 32)).setRow w1.heap.size (lB y b).toArray = w2 at hRu2 hbn ⊢
 replace hR0 := hR0.later hbn
 replace hR1 := hR1.later hbn
 replace hG := hG.later hbn
 replace hIb := hIb.keep hbn
 replace hBg := hBg.laterBy (by omega) (hbn.mono (by omega))
 clear hbn
 generalize w1.heap.size = gu at hRu2 hs1 ⊢
 have cg : w2.cell? ⟨g, 1, none⟩ = some (.int .i64 kE) := hG.cell rfl
 by_cases hz : kE = 0
 ·subst hz
  have HG2 := Lib.hid (HGG.out.2 rfl)
  have HIN := Lib.hid (zcJ x m y b w2 (HX.out _ hBg.below) hIb)
  unfold aggM zdY aggB at HIN
  clear HGG
  go_wp2_with (first
   | (refine zac rfl 37 (.tmp 2) rfl (w.heap.size) 0 rfl _ _ (hR0) ((lM x m)) (by rfl) _ Tryz.underlying37 rfl (by exact zai) ?_)
   | (refine zac rfl 32 (.tmp 6) rfl (gu) 0 rfl _ _ (hRu2) ((lB y b)) (by rfl) _ Tryz.underlying32 rfl (by exact zax) ?_))
  refine HIN.out.mono ?_
  rintro e w3 ⟨hcase, hb3⟩
  have hl2 := hRu2.lt
  have hR13 := hR1.later hb3
  have hl1 := hR1.lt
  have hI3 := hIb.keep hb3
  have hB3 := hBg.laterBy (by omega) (hb3.mono (by omega))
  clear hR0 hR1 hRu2 cg HIN hG hb3 hIb
  rcases hcase with ⟨hv, rfl⟩ | ⟨hv, rfl⟩
  ·have HV := Lib.hid hv
   clear hv
   go_wp2_with (refine zab rfl 37 (.tmp 4) (.tmp 22) rfl (w.heap.size + 1) rfl ((lM x m)) rfl _ _ (hR13) (by exact zai) rfl (zaq x m) ?_)
   refine bodyPost_ret (zag (p := 4) (u := 5) (ty := 37) (by rfl) _ _ (w.heap.size + 1) 37 _ _ (by rfl) (by exact hR13.setRow _) Tryz.underlying37 (by rfl) (by exact zai)) (by rfl) ?_
   have hBf := hB3.setRowNew (by omega) (show w.heap.size ≤ w.heap.size + 1 by omega) (lM x m).toArray
   refine ⟨x, m, 13, rfl, HX.out _ hBf.below, (fun _ _ _ ho => ho), fun h0 => absurd h0 (by decide), fun _ => by rw [HG2.out, if_neg (by have := HV.out; omega)], hBf⟩
  ·have HV := Lib.hid hv
   clear hv
   go_wp2_with (refine zab rfl 37 (.tmp 4) (.tmp 22) rfl (w.heap.size + 1) rfl ([.int .u64 (m.clock : Int), .int .u64 (b.1 : Int), .slice y.eA y.n y.ec, .slice y.gA y.g y.gc, .int .i64 m.c.1, .int .u64 (m.c.2.1 : Int), .slice x.c.A x.c.s x.c.c]) rfl _ _ (hR13) (by exact zai) rfl (zaq ⟨y, x.c⟩ { m with b := b }) ?_)
   refine bodyPost_ret (zag (p := 4) (u := 5) (ty := 37) (by rfl) _ _ (w.heap.size + 1) 37 _ _ (by rfl) (by exact hR13.setRow _) Tryz.underlying37 (by rfl) (by exact zai)) (by rfl) ?_
   have hO7 := (Only.refl (w.heap.size + 1) w3).setRow [.int .u64 (m.clock : Int), .int .u64 (b.1 : Int), .slice y.eA y.n y.ec, .slice y.gA y.g y.gc, .int .i64 m.c.1, .int .u64 (m.c.2.1 : Int), .slice x.c.A x.c.s x.c.c].toArray
   have hBf := hB3.setRowNew (by omega) (show w.heap.size ≤ w.heap.size + 1 by omega) [.int .u64 (m.clock : Int), .int .u64 (b.1 : Int), .slice y.eA y.n y.ec, .slice y.gA y.g y.gc, .int .i64 m.c.1, .int .u64 (m.c.2.1 : Int), .slice x.c.A x.c.s x.c.c].toArray
   have hXf := HX.out _ hBf.below
   refine ⟨⟨y, x.c⟩, { m with b := b }, 0, rfl, ⟨hXf.fc, hI3.at_only hO7 hOb (by omega) (by omega), hXf.ic⟩, (fun lo' hi hh ho => ⟨(hFb.off lo').mono (Nat.le_refl _) (by omega), ho.c⟩), fun _ => by rw [HG2.out, if_pos HV.out], fun h0 => absurd rfl h0, hBf⟩
 ·have hz1 : (kE == 0) = false := beq_eq_false_iff_ne.2 hz
  have hz2 : (kE != 0) = true := by rw [bne, hz1]; rfl
  have HG2 := Lib.hid (HGG.out.1 hz)
  clear HGG
  go_upto_region 3 with fail
  have hS := zfl (W := w2.drew) (show Row w2.drew w.heap.size 37 (lM x m) from hR0) (show Row w2.drew g 186 [vg, .int .i64 kE] from hG)
  have hR0' := hR0.drew
  have hR1' := hR1.drew
  have hG' := hG.drew
  have hBg' := hBg.drew
  refine zah (memR w.heap.size g (.int .u64 (m.clock : Int)) (.int .u64 (m.b.1 : Int)) (.slice x.b.eA x.b.n x.b.ec) (.slice x.b.gA x.b.g x.b.gc) (.int .i64 m.c.1) (.int .u64 (m.c.2.1 : Int)) (.slice x.c.A x.c.s x.c.c) (.int .i64 kE)) (.step 0 false (.step 1 false (.step 2 false (.step 3 false (.step 4 false (.step 5 true (.step 6 false (.nil)))))))) hS (by kernel_rfl) (by kernel_rfl) (by rfl) (by kernel_rfl) ?_
  clear hR0 hR1 hG hBg hRu2 cg hIb
  generalize w2.drew = wv at *
  iterate 5 (refine zae rfl (by rfl) (v := ?_) ?_ ?_; rotate_left 1; (rintro W ⟨hW0, hW1⟩; go_simp <;> with_reducible rfl); simp only [pA, pB, pC, Act.put, pD, pE, pF])
  refine zad rfl (by rfl) (fun K hK => ?_)
  refine hR1'.wp_store 37 (.tmp 4) (.tmp 14) rfl rfl (lM x m) rfl (by exact zai) rfl (zaq x m) ?_
  refine hK.out _ _ (zfl (hR0'.setRow_other (by omega) _) (hG'.setRow_other (by omega) _)) ?_
  clear hK K
  simp only [pA, pB, pC, Act.put, pD, pE, pF]
  iterate 1 (refine zae rfl (by rfl) (v := ?_) ?_ ?_; rotate_left 1; (rintro W ⟨hW0, hW1⟩; go_simp <;> with_reducible rfl); simp only [pA, pB, pC, Act.put, pD, pE, pF])
  refine zal ?_
  go_wp2_with fail
  refine bodyPost_ret (zag (p := 4) (u := 5) (ty := 37) (by rfl) _ _ (w.heap.size + 1) 37 _ _ (by rfl) (by exact hR1'.setRow _) Tryz.underlying37 (by rfl) (by exact zai)) (by rfl) ?_
  have hBf := hBg'.setRowNew (by omega) (show w.heap.size ≤ w.heap.size + 1 by omega) (lM x m).toArray
  refine ⟨x, m, kE, rfl, HX.out _ hBf.below, (fun _ _ _ ho => ho), fun h0 => absurd h0 hz, fun _ => HG2.out, hBf⟩
def xorW (x y : UInt32) : UInt32 := x ^^^ y
def andW (x y : UInt32) : UInt32 := x &&& y
def orW (x y : UInt32) : UInt32 := x ||| y
def addW (x y : UInt32) : UInt32 := x + y
def notW (x : UInt32) : UInt32 := ~~~x
theorem zgu (x y : UInt32) : bits .xor .u32 (x.toNat : Int) (y.toNat : Int) = ((xorW x y).toNat : Int) := by
 rw [u32_xor_nat _ _ (zc1 x) (zc1 y)]
 rfl
theorem ziU (x y : UInt32) : bits .and .u32 (x.toNat : Int) (y.toNat : Int) = ((andW x y).toNat : Int) := by
 rw [u32_and_nat _ _ (zc1 x) (zc1 y)]
 rfl
theorem zkJ (x y : UInt32) : bits .or .u32 (x.toNat : Int) (y.toNat : Int) = ((orW x y).toNat : Int) := by
 rw [u32_or_nat _ _ (zc1 x) (zc1 y)]
 rfl
theorem zhi (x y : UInt32) : (addW x y).toNat = (x.toNat + y.toNat) % 4294967296 := UInt32.toNat_add x y
theorem ze0 (x y : UInt32) : IntKind.u32.wrap ((x.toNat : Int) + (y.toNat : Int)) = ((addW x y).toNat : Int) := by
 rw [IntKind.wrap_u32', zhi]
 omega
theorem ze1 (x y : UInt32) : ((x.toNat : Int) + (y.toNat : Int)) % 4294967296 = ((addW x y).toNat : Int) := by
 rw [zhi]
 omega
theorem zgv (x : UInt32) : 4294967295 - (x.toNat : Int) = ((notW x).toNat : Int) := by
 have hx := zc1 x
 have : (notW x).toNat = 4294967295 - x.toNat := by
  show (~~~x.toBitVec).toNat = _
  rw [BitVec.toNat_not]
  rfl
 rw [this]
 omega
theorem zhj (x : UInt32) : IntKind.u32.wrap (4294967295 - (x.toNat : Int)) = ((notW x).toNat : Int) := by
 rw [← zgv, IntKind.wrap_u32']
 have hx := zc1 x
 omega
theorem zd1 (x : UInt32) : (x.toNat : Int) % 4294967296 = (x.toNat : Int) := by
 have hx := zc1 x
 omega
theorem zeh (x : UInt32) : IntKind.u32.wrap (x.toNat : Int) = (x.toNat : Int) := by
 rw [IntKind.wrap_u32']
 exact zd1 x
def dn (x : UInt32) (k : Nat) : UInt32 := UInt32.ofNat (x.toNat / 2 ^ k)
theorem zoC (x : UInt32) (k : Nat) : (dn x k).toNat = x.toNat / 2 ^ k := by
 have hx := zc1 x
 have h : x.toNat / 2 ^ k ≤ x.toNat := Nat.div_le_self _ _
 rw [dn, UInt32.toNat_ofNat']
 exact Nat.mod_eq_of_lt (by omega)
def kL : List UInt32 := [1116352408, 1899447441, 3049323471, 3921009573, 961987163, 1508970993, 2453635748, 2870763221, 3624381080, 310598401, 607225278, 1426881987, 1925078388, 2162078206, 2614888103, 3248222580, 3835390401, 4022224774, 264347078, 604807628, 770255983, 1249150122, 1555081692, 1996064986, 2554220882, 2821834349, 2952996808, 3210313671, 3336571891, 3584528711, 113926993, 338241895, 666307205, 773529912, 1294757372, 1396182291, 1695183700, 1986661051, 2177026350, 2456956037, 2730485921, 2820302411, 3259730800, 3345764771, 3516065817, 3600352804, 4094571909, 275423344, 430227734, 506948616, 659060556, 883997877, 958139571, 1322822218, 1537002063, 1747873779, 1955562222, 2024104815, 2227730452, 2361852424, 2428436474, 2756734187, 3204031479, 3329325298]
def sig0 (x : UInt32) : UInt32 := xorW (xorW (rotR x 7) (rotR x 18)) (dn x 3)
def sig1 (x : UInt32) : UInt32 := xorW (xorW (rotR x 17) (rotR x 19)) (dn x 10)
def Sig0 (x : UInt32) : UInt32 := xorW (xorW (rotR x 2) (rotR x 13)) (rotR x 22)
def Sig1 (x : UInt32) : UInt32 := xorW (xorW (rotR x 6) (rotR x 11)) (rotR x 25)
def chW (e f g : UInt32) : UInt32 := orW (andW e f) (andW (notW e) g)
def majW (a b c : UInt32) : UInt32 := orW (orW (andW a b) (andW a c)) (andW b c)
def znm (l : List UInt32) : UInt32 := addW (addW (addW (sig1 (l.getD (l.length - 2) 0)) (l.getD (l.length - 7) 0)) (sig0 (l.getD (l.length - 15) 0))) (l.getD (l.length - 16) 0)
def zb3 : Nat → List UInt32 → List UInt32
 | 0, l => l
 | n + 1, l => zb3 n l ++ [znm (zb3 n l)]
theorem zb0 (n : Nat) (l : List UInt32) : (zb3 n l).length = l.length + n := by
 induction n with
 | zero => rfl
 | succ n ih => rw [zb3, List.length_append, ih]; rfl
structure St where
 a : UInt32
 b : UInt32
 c : UInt32
 d : UInt32
 e : UInt32
 f : UInt32
 g : UInt32
 h : UInt32
def St.toL (s : St) : List UInt32 := [s.a, s.b, s.c, s.d, s.e, s.f, s.g, s.h]
def tW (s : St) (k w : UInt32) : UInt32 := addW (addW (addW (addW s.h (Sig1 s.e)) (chW s.e s.f s.g)) k) w
def uW (s : St) : UInt32 := addW (Sig0 s.a) (majW s.a s.b s.c)
def St.round (s : St) (k w : UInt32) : St := ⟨addW (tW s k w) (uW s), s.a, s.b, s.c, addW s.d (tW s k w), s.e, s.f, s.g⟩
structure Tab where
 k : List UInt32
def kT [I : Inhabited Tab] : List UInt32 := I.default.k
def St.rounds [Inhabited Tab] (l : List UInt32) : Nat → St → St
 | 0, s => s
 | n + 1, s => (St.rounds l n s).round (kT.getD n 0) (l.getD n 0)
def St.plus (s t : St) : St := ⟨addW s.a t.a, addW s.b t.b, addW s.c t.c, addW s.d t.d, addW s.e t.e, addW s.f t.f, addW s.g t.g, addW s.h t.h⟩
def St.block [Inhabited Tab] (s : St) (b : List UInt8) : St := s.plus (St.rounds (zb3 48 (zbw b)) 64 s)
def St.from [Inhabited Tab] (s : St) (b : List UInt8) : St := if 64 ≤ b.length then St.from (s.block (b.take 64)) (b.drop 64) else s
termination_by b.length
decreasing_by simp; omega
def zdn (b : List UInt8) (many : Nat) : List UInt8 := b ++ 128 :: List.replicate ((119 - b.length % 64) % 64) 0 ++ putL (8 * many % 18446744073709551616)
def zhY : St := ⟨1779033703, 3144134277, 1013904242, 2773480762, 1359893119, 2600822924, 528734635, 1541459225⟩
def sumL [Inhabited Tab] (b : List UInt8) : List UInt8 := zbx (zhY.from (zdn b b.length)).toL
end Go.Proofs.YteljklkgdejhpaaGreatDoor
namespace Go.Proofs.YteljklkgdejhpaaGreatDoor
instance tabK : Inhabited Tab := ⟨⟨kL⟩⟩
end Go.Proofs.YteljklkgdejhpaaGreatDoor
namespace Go.Proofs.YteljklkgdejhpaaGreatDoor
open Go.RowKit
attribute [local go_sem] zgu ziU zkJ ze0 ze1 zgv zhj zd1 zeh
def zhZ [Inhabited Tab] (s : St) (L : List UInt32) (w : World) (a b c d e f g h i : Value) (wr : World) : Prop :=
 ∃ n : Nat, n ≤ 64 ∧ i = .int .i64 (n : Int) ∧ a = .int .u32 ((St.rounds L n s).a.toNat : Int) ∧ b = .int .u32 ((St.rounds L n s).b.toNat : Int) ∧ c = .int .u32 ((St.rounds L n s).c.toNat : Int) ∧ d = .int .u32 ((St.rounds L n s).d.toNat : Int) ∧
  e = .int .u32 ((St.rounds L n s).e.toNat : Int) ∧ f = .int .u32 ((St.rounds L n s).f.toNat : Int) ∧ g = .int .u32 ((St.rounds L n s).g.toNat : Int) ∧ h = .int .u32 ((St.rounds L n s).h.toNat : Int) ∧ Below w.heap.size w wr
theorem zly [Inhabited Tab] {s : St} {L : List UInt32} {w wr : World} {n : Nat} {S : St} (hn : n < 64) (HS : Hid (St.rounds L (n + 1) s = S.round (kT.getD n 0) (L.getD n 0))) (hb : Below w.heap.size w wr) :
  zhZ s L w (.int .u32 ((addW (tW S (kT.getD n 0) (L.getD n 0)) (uW S)).toNat : Int)) (.int .u32 (S.a.toNat : Int)) (.int .u32 (S.b.toNat : Int)) (.int .u32 (S.c.toNat : Int)) (.int .u32 ((addW S.d (tW S (kT.getD n 0) (L.getD n 0))).toNat : Int)) (.int .u32 (S.e.toNat : Int)) (.int .u32 (S.f.toNat : Int)) (.int .u32 (S.g.toNat : Int)) (.int .i64 ((n : Int) + 1)) wr :=
 ⟨n + 1, by omega, rfl, by rw [HS.out]; rfl, by rw [HS.out]; rfl, by rw [HS.out]; rfl, by rw [HS.out]; rfl, by rw [HS.out]; rfl, by rw [HS.out]; rfl, by rw [HS.out]; rfl, by rw [HS.out]; rfl, hb⟩
theorem zd2 [Inhabited Tab] (s : St) (b : List UInt8) (h : 64 ≤ b.length) : s.from b = (s.block (b.take 64)).from (b.drop 64) := by
 rw [St.from, if_pos h]
theorem zgw [Inhabited Tab] (s : St) (b : List UInt8) (h : ¬ 64 ≤ b.length) : s.from b = s := by
 rw [St.from, if_neg h]
theorem zpZ (e f g : UInt32) : xorW (andW e f) (andW (notW e) g) = chW e f g := by
 unfold chW xorW andW notW orW
 apply UInt32.toBitVec_inj.1
 apply BitVec.eq_of_getLsbD_eq
 intro i hi
 simp only [UInt32.toBitVec_xor, UInt32.toBitVec_and, UInt32.toBitVec_not, UInt32.toBitVec_or, BitVec.getLsbD_xor, BitVec.getLsbD_and, BitVec.getLsbD_or, BitVec.getLsbD_not, hi, decide_true, Bool.true_and]
 cases e.toBitVec.getLsbD i <;> simp
theorem zpz (a b c : UInt32) : xorW (xorW (andW a b) (andW a c)) (andW b c) = majW a b c := by
 unfold majW xorW andW orW
 apply UInt32.toBitVec_inj.1
 apply BitVec.eq_of_getLsbD_eq
 intro i hi
 simp only [UInt32.toBitVec_xor, UInt32.toBitVec_and, UInt32.toBitVec_or, BitVec.getLsbD_xor, BitVec.getLsbD_and, BitVec.getLsbD_or]
 cases a.toBitVec.getLsbD i <;> cases b.toBitVec.getLsbD i <;> simp
theorem zpA (x : UInt32) : xorW 4294967295 x = notW x := by
 unfold xorW notW
 apply UInt32.toBitVec_inj.1
 apply BitVec.eq_of_getLsbD_eq
 intro i hi
 have h1 : (4294967295 : UInt32).toBitVec = BitVec.allOnes 32 := rfl
 simp only [UInt32.toBitVec_xor, UInt32.toBitVec_not, h1, BitVec.getLsbD_xor, BitVec.getLsbD_not, BitVec.getLsbD_allOnes, hi, decide_true, Bool.true_and, Bool.true_xor]
theorem znn (x : UInt32) : bits .xor .u32 IntKind.u32.max (x.toNat : Int) = ((notW x).toNat : Int) := by
 have := zgu 4294967295 x
 rw [zpA] at this
 exact this
theorem zno (x : UInt32) (c : Nat) (hc : c < 32) (w : World) :
  Calls Tryz.prog 200 #[.int .u32 (x.toNat : Int), .int .i64 (c : Int)] w fun e w' => e = .returned (.int .u32 ((rotR x c).toNat : Int)) ∧ w = w' :=
 (zpc x c w).mono fun _ _ ⟨he, hw⟩ => ⟨by rw [he, show ((c : Int) % 32).toNat = c by omega], hw⟩
section
attribute [local go_sem] zgu ziU zkJ ze0 ze1 zgv zhj znn zd1 zeh
theorem zhk (x : UInt32) (i j k : Nat) (hi : i < 32) (hj : j < 32) (hk : k < 32) (w : World) :
  Calls Tryz.prog 194 #[.int .u32 (x.toNat : Int), .int .i64 (i : Int), .int .i64 (j : Int), .int .i64 (k : Int)] w fun e w' => e = .returned (.int .u32 ((xorW (xorW (rotR x i) (rotR x j)) (rotR x k)).toNat : Int)) ∧ w = w' := by
 go_enter Tryz.func194, Tryz.ntmps194
 go_wp2_with fail
 refine (zno x i hi _).mono ?_
 rintro e w' ⟨rfl, rfl⟩
 go_wp2_with fail
 refine (zno x j hj _).mono ?_
 rintro e w' ⟨rfl, rfl⟩
 go_wp2_with fail
 refine (zno x k hk _).mono ?_
 rintro e w' ⟨rfl, rfl⟩
 go_wp2_with fail
 go_ret
 exact ⟨rfl, rfl⟩
theorem ziV (x : UInt32) (i j k : Nat) (hi : i < 32) (hj : j < 32) (hk : k < 32) (w : World) :
  Calls Tryz.prog 199 #[.int .u32 (x.toNat : Int), .int .i64 (i : Int), .int .i64 (j : Int), .int .u64 (k : Int)] w fun e w' => e = .returned (.int .u32 ((xorW (xorW (rotR x i) (rotR x j)) (dn x k)).toNat : Int)) ∧ w = w' := by
 have hd : (x.toNat : Int) / 2 ^ k = ((dn x k).toNat : Int) := by rw [zoC, Int.natCast_ediv, Int.natCast_pow]; rfl
 go_enter Tryz.func199, Tryz.ntmps199
 go_wp2_with fail
 refine (zno x i hi _).mono ?_
 rintro e w' ⟨rfl, rfl⟩
 go_wp2_with fail
 refine (zno x j hj _).mono ?_
 rintro e w' ⟨rfl, rfl⟩
 go_wp2_with fail
 go_ret
 exact ⟨rfl, rfl⟩
theorem zlz (x y z : UInt32) (w : World) :
  Calls Tryz.prog 195 #[.int .u32 (x.toNat : Int), .int .u32 (y.toNat : Int), .int .u32 (z.toNat : Int)] w fun e w' => e = .returned (.int .u32 ((chW x y z).toNat : Int)) ∧ w = w' := by
 have H := Lib.hid (zpZ x y z)
 go_enter Tryz.func195, Tryz.ntmps195
 go_wp2_with fail
 go_ret
 rw [← H.out]
 exact ⟨rfl, rfl⟩
theorem ziW (x y z : UInt32) (w : World) :
  Calls Tryz.prog 196 #[.int .u32 (x.toNat : Int), .int .u32 (y.toNat : Int), .int .u32 (z.toNat : Int)] w fun e w' => e = .returned (.int .u32 ((majW x y z).toNat : Int)) ∧ w = w' := by
 have H := Lib.hid (zpz x y z)
 go_enter Tryz.func196, Tryz.ntmps196
 go_wp2_with fail
 go_ret
 rw [← H.out]
 exact ⟨rfl, rfl⟩
end
theorem zoD (b : List UInt8) (A : Option Addr) (c : Nat) (w : World) (H : Hid (b.length = 64)) (hr : Rd vB w A b) (hc : 64 ≤ c) : Calls Tryz.prog 198 #[.slice A 64 c] w (RetS vW w (zbw b)) := by
 have h := H.out
 have := zms b A c w hr (by omega) (by omega)
 rwa [h] at this
theorem ziX (b : List UInt8) (h : b.length = 64) : (zbw b).length = 16 := by
 have := congrArg List.length (zeD b)
 rw [zeJ, List.length_take, h] at this
 omega
def zb1 (W0 : List UInt32) (k : Nat) : List UInt32 := zb3 k W0 ++ List.replicate (48 - k) 0
theorem zh0 (W0 : List UInt32) (k : Nat) (h : W0.length = 16) (hk : k ≤ 48) : (zb1 W0 k).length = 64 := by
 rw [zb1, List.length_append, zb0, List.length_replicate]
 omega
theorem zj3 (W0 : List UInt32) (k : Nat) (h : W0.length = 16) (hk : k < 48) : (zb1 W0 k).set (16 + k) (znm (zb3 k W0)) = zb1 W0 (k + 1) := by
 have e : (zb3 k W0).length = 16 + k := by rw [zb0, h]
 unfold zb1
 rw [List.set_append_right _ _ (by omega), e, Nat.sub_self, zb3, show 48 - k = (48 - (k + 1)) + 1 by omega, List.replicate_succ, List.set_cons_zero]
 simp
theorem ze2 (W0 : List UInt32) (k j : Nat) (h : W0.length = 16) (hj : j < 16 + k) : ((zb1 W0 k).map vW)[j]? = some (.int .u32 (((zb3 k W0).getD j 0).toNat : Int)) := by
 have e : (zb3 k W0).length = 16 + k := by rw [zb0, h]
 rw [zb1, List.map_append, List.getElem?_append_left (by simp; omega)]
 simp [List.getD, e, hj, vW]
theorem zj4 (W0 : List UInt32) : zb1 W0 0 = W0 ++ List.replicate 48 0 := rfl
theorem zlA (W0 : List UInt32) : zb1 W0 48 = zb3 48 W0 := by simp [zb1]
def zgx (W0 : List UInt32) (w : World) (i : Value) (wr : World) : Prop :=
 ∃ k : Nat, k ≤ 48 ∧ i = .int .i64 ((16 + k : Nat) : Int) ∧ Row wr (w.heap.size + 1) 245 ((zb1 W0 k).map vW) ∧ Row wr w.heap.size 245 (List.replicate 64 (.int .u32 0)) ∧ Below w.heap.size w wr
def SprS (g n : Nat) (x2 x7 x15 x16 : UInt32) (W : World) : Prop :=
 W.cell? ⟨g, n - 2, none⟩ = some (.int .u32 (x2.toNat : Int)) ∧ W.cell? ⟨g, n - 7, none⟩ = some (.int .u32 (x7.toNat : Int)) ∧ W.cell? ⟨g, n - 15, none⟩ = some (.int .u32 (x15.toNat : Int)) ∧ W.cell? ⟨g, n - 16, none⟩ = some (.int .u32 (x16.toNat : Int))
theorem SprS.set {g n : Nat} {x2 x7 x15 x16 : UInt32} {w : World} (hn : 16 ≤ n) (h : SprS g n x2 x7 x15 x16 w) (v : Value) : SprS g n x2 x7 x15 x16 (w.setCell ⟨g, n, none⟩ v) := by
 obtain ⟨h1, h2, h3, h4⟩ := h
 have e : ∀ j, j < n → (w.setCell ⟨g, n, none⟩ v).cell? ⟨g, j, none⟩ = w.cell? ⟨g, j, none⟩ := fun j hj => World.cell?_setCell_other _ _ _ _ (by intro e; injection e with _ e2 _; omega)
 exact ⟨(e _ (by omega)).trans h1, (e _ (by omega)).trans h2, (e _ (by omega)).trans h3, (e _ (by omega)).trans h4⟩
theorem ziY {W0 : List UInt32} {w wr : World} {k n : Nat} {y : UInt32} (hk : k < 48) (HK : Hid (n = 16 + k)) (HX : Hid ((zb1 W0 k).set n y = zb1 W0 (k + 1))) (hR1 : Row wr (w.heap.size + 1) 245 ((zb1 W0 k).map vW))
  (hR0 : Row wr w.heap.size 245 (List.replicate 64 (.int .u32 0))) (hB : Below w.heap.size w wr) : zgx W0 w (.int .i64 ((n : Int) + 1)) (wr.setCell ⟨w.heap.size + 1, n, none⟩ (.int .u32 (y.toNat : Int))) := by
 have e := HK.out
 refine ⟨k + 1, by omega, by congr 1; omega, ?_, hR0.setCell_other (by simp) _, hB.setCell (by simp) _⟩
 rw [← HX.out, List.map_set]
 exact hR1.setCell n _
section
attribute [local go_sem] ze0 ze1 zd1 zeh
set_option maxRecDepth 100000 in
theorem zlB (b : List UInt8) (A : Option Addr) (c : Nat) (w : World) (HL : Hid (b.length = 64)) (hr : Rd vB w A b) (hc : 64 ≤ c) :
  Calls Tryz.prog 193 #[.slice A 64 c] w fun e w' => e = .returned (.agg ((zb3 48 (zbw b)).map vW).toArray) ∧ Below w.heap.size w w' := by
 have H16 := Lib.hid (ziX b HL.out)
 go_enter Tryz.func193, Tryz.ntmps193
 go_wp2_with fail
 refine zbO (Q := Code.wp _ _ _ _) (fun W => Row W w.heap.size 245 (List.replicate 64 (.int .u32 0)) ∧ Row W (w.heap.size + 1) 245 (List.replicate 64 (.int .u32 0)) ∧ Below w.heap.size w W)
  ⟨(Row.new w _ _ _ rfl).alloc _, Row.new_at _ _ (by simp) _ _ _ rfl, zak (zak (Below.refl _ _) _) _⟩ ?_
 rintro W ⟨hR0, hR1, hB⟩
 have hrW := hr.keep hB
 clear hr
 refine zfa w.heap.size (.step 0 false (.step 1 false (.step 2 true (.step 3 true (.nil))))) (by kernel_rfl) (by kernel_rfl) (by rfl) (by kernel_rfl) ?_
 have hBase : Below w.heap.size W W.drew := (Below.refl _ _).drew
 iterate 2 (refine zae rfl (by rfl) (v := ?_) ?_ ?_; rotate_left 1; (intro W hW; have hW0 := Below.trans hBase hW; (try dsimp only at hW); go_simp <;> with_reducible rfl); simp only [List.getElem_toArray, List.getElem_cons_zero, List.getElem_cons_succ, Act.put, List.setIfInBounds_toArray, List.set_cons_zero, List.set_cons_succ])
 refine zfs rfl (by rfl) (fun K hK => ?_)
 go_simp
 refine (zoD b _ _ _ HL (by exact hrW) hc).mono ?_
 rintro e w1 ⟨A1, c1, rfl, hc1, hr1, hb1⟩
 refine hK.out _ _ (hb1.mono hB.size) ?_
 clear hK K
 replace hR0 := hR0.drew.later hb1
 replace hR1 := hR1.drew.later hb1
 replace hB := zaa hB.drew hb1
 clear hb1 hrW hBase W
 obtain ⟨W0, e⟩ : ∃ W0, W0 = zbw b := ⟨_, rfl⟩
 have HE : Hid (zbw b = W0) := e.symm
 rw [← e] at H16 hr1 hc1 ⊢
 clear e
 refine zfs rfl (by rfl) (fun K hK => ?_)
 refine zdt (.tmp 5) (.tmp 7) 217 217 (by rfl) 227 Tryz.underlying217 (by kernel_rfl) (w.heap.size + 1) 0 64 64 A1 W0 c1 (by rfl) (by rfl) _ _ hR1 hr1 zmp (by have := H16.out; omega) (by have := H16.out; simp; omega) ?_
 simp only [List.getElem_toArray, List.getElem_cons_zero, List.getElem_cons_succ, Act.put, List.setIfInBounds_toArray, List.set_cons_zero, List.set_cons_succ]
 refine hK.out _ _ (below_setRow (Below.refl _ _) (by omega) _) ?_
 clear hK K
 refine zal ?_
 refine zbO (Q := _) (fun W => Row W w.heap.size 245 (List.replicate 64 (.int .u32 0)) ∧ Row W (w.heap.size + 1) 245 ((zb1 W0 0).map vW) ∧ Below w.heap.size w W)
  ⟨hR0.setRow_other (by omega) _, ?_, below_setRow hB (by omega) _⟩ ?_
 ·have e : (List.replicate 64 (Value.int .u32 0)).take 0 ++ W0.map vW ++ (List.replicate 64 (Value.int .u32 0)).drop (0 + W0.length) = (zb1 W0 0).map vW := by
   rw [H16.out, zj4, List.map_append, List.map_replicate]
   rfl
  rw [e]
  exact hR1.setRow _
 clear hR0 hR1 hB hr1
 rintro W ⟨hR0, hR1, hB⟩
 go_wp2_with fail
 go_loopw [4] (fun i wr => zgx W0 w i wr) (fun i _ => 64 - (intOf i).toNat)
 case atStart => exact ⟨0, by omega, rfl, hR1, hR0, hB⟩
 case round =>
  clear hR0 hR1 hB
  obtain ⟨k, hk, rfl, hR1, hR0, hB⟩ := hrel
  by_cases hlt : k < 48
  ·have h16 := H16.out
   have HN : Hid (znm (zb3 k W0) = addW (addW (addW (sig1 ((zb3 k W0).getD (16 + k - 2) 0)) ((zb3 k W0).getD (16 + k - 7) 0)) (sig0 ((zb3 k W0).getD (16 + k - 15) 0))) ((zb3 k W0).getD (16 + k - 16) 0)) := by unfold Hid znm; rw [zb0, h16]
   have h15 := hR1.cell (ze2 W0 k (16 + k - 15) h16 (by omega))
   have h2 := hR1.cell (ze2 W0 k (16 + k - 2) h16 (by omega))
   have h7 := hR1.cell (ze2 W0 k (16 + k - 7) h16 (by omega))
   have hh16 := hR1.cell (ze2 W0 k (16 + k - 16) h16 (by omega))
   have HX : Hid ((zb1 W0 k).set (16 + k) (znm (zb3 k W0)) = zb1 W0 (k + 1)) := zj3 W0 k h16 hlt
   have HLn : Hid ((zb1 W0 k).length = 64) := zh0 W0 k h16 hk
   rw [HN.out] at HX
   obtain ⟨n, hn⟩ : ∃ n, n = 16 + k := ⟨_, rfl⟩
   have HK := Lib.hid hn
   rw [← hn] at h15 h2 h7 hh16 HX ⊢
   have hn1 : 16 ≤ n := by omega
   have hn2 : n < 64 := by omega
   clear hn h16 HN
   generalize (zb3 k W0).getD (n - 15) 0 = x15 at h15 HX
   generalize (zb3 k W0).getD (n - 2) 0 = x2 at h2 HX
   generalize (zb3 k W0).getD (n - 7) 0 = x7 at h7 HX
   generalize (zb3 k W0).getD (n - 16) 0 = x16 at hh16 HX
   have HS1 : Hid (sig1 x2 = xorW (xorW (rotR x2 17) (rotR x2 19)) (dn x2 10)) := rfl
   have HS0 : Hid (sig0 x15 = xorW (xorW (rotR x15 7) (rotR x15 18)) (dn x15 3)) := rfl
   have hcn : wr.cell? ⟨w.heap.size + 1, n, none⟩ = some (((zb1 W0 k).map vW).getD n undef) := hR1.cell (by have := HLn.out; simp [List.getD, this, hn2])
   have hfz : wr.frozen? ⟨w.heap.size + 1, n, none⟩ = false := hR1.frozen n
   have j2 : IntKind.i64.wrap ((n : Int) - 2) = (n : Int) - 2 := by rw [IntKind.wrap_i64]; omega
   have j7 : IntKind.i64.wrap ((n : Int) - 7) = (n : Int) - 7 := by rw [IntKind.wrap_i64]; omega
   have j15 : IntKind.i64.wrap ((n : Int) - 15) = (n : Int) - 15 := by rw [IntKind.wrap_i64]; omega
   have j16 : IntKind.i64.wrap ((n : Int) - 16) = (n : Int) - 16 := by rw [IntKind.wrap_i64]; omega
   have m2 : (2 : Int) ≤ (n : Int) := by omega
   have m7 : (7 : Int) ≤ (n : Int) := by omega
   have m15 : (15 : Int) ≤ (n : Int) := by omega
   have m16 : (16 : Int) ≤ (n : Int) := by omega
   have k2 : (0 : Int) ≤ (n : Int) - 2 := by omega
   have k7 : (0 : Int) ≤ (n : Int) - 7 := by omega
   have k15 : (0 : Int) ≤ (n : Int) - 15 := by omega
   have k16 : (0 : Int) ≤ (n : Int) - 16 := by omega
   have l0 : (n : Int) < 64 := by omega
   have l2 : (n : Int) - 2 < 64 := by omega
   have l7 : (n : Int) - 7 < 64 := by omega
   have l15 : (n : Int) - 15 < 64 := by omega
   have l16 : (n : Int) - 16 < 64 := by omega
   have t2 : ((n : Int) - 2).toNat = n - 2 := by omega
   have t7 : ((n : Int) - 7).toNat = n - 7 := by omega
   have t15 : ((n : Int) - 15).toNat = n - 15 := by omega
   have t16 : ((n : Int) - 16).toNat = n - 16 := by omega
   have p0 : (0 : Int) ≤ (n : Int) := by omega
   have hS : SprS (w.heap.size + 1) n x2 x7 x15 x16 wr.drew := ⟨h2, h7, h15, hh16⟩
   clear h2 h7 h15 hh16
   go_wp2_with fail
   refine zah (SprS (w.heap.size + 1) n x2 x7 x15 x16) (.step 0 false (.step 1 false (.step 2 false (.step 3 false (.step 4 false (.step 6 false (.step 7 false (.step 8 false (.step 9 false (.step 11 false (.step 12 false (.step 13 false (.step 14 false (.step 17 false (.step 18 false (.step 19 false (.step 20 false (.step 5 true (.step 10 false (.step 15 true (.step 16 false (.step 21 false (.step 22 false (.step 23 true (.nil))))))))))))))))))))))))) hS (by kernel_rfl) (by kernel_rfl) (by rfl) (by kernel_rfl) ?_
   iterate 17 (refine zae rfl (by rfl) (v := ?_) ?_ ?_; rotate_left 1; (intro W hW; (try dsimp only at hW); obtain ⟨hW0, hW1⟩ := hW; go_simp <;> with_reducible rfl); simp only [List.getElem_toArray, List.getElem_cons_zero, List.getElem_cons_succ, Act.put, List.setIfInBounds_toArray, List.set_cons_zero, List.set_cons_succ])
   (refine zad rfl (by rfl) (fun K hK => ?_); go_simp; (refine (ziV x2 17 19 10 (by omega) (by omega) (by omega) _).mono ?_; rintro e w' ⟨rfl, rfl⟩); refine hK.out _ _ hS ?_; clear hK K)
   iterate 1 (refine zae rfl (by rfl) (v := ?_) ?_ ?_; rotate_left 1; (intro W hW; (try dsimp only at hW); obtain ⟨hW0, hW1⟩ := hW; go_simp <;> with_reducible rfl); simp only [List.getElem_toArray, List.getElem_cons_zero, List.getElem_cons_succ, Act.put, List.setIfInBounds_toArray, List.set_cons_zero, List.set_cons_succ])
   (refine zad rfl (by rfl) (fun K hK => ?_); go_simp; (refine (ziV x15 7 18 3 (by omega) (by omega) (by omega) _).mono ?_; rintro e w' ⟨rfl, rfl⟩); refine hK.out _ _ hS ?_; clear hK K)
   iterate 3 (refine zae rfl (by rfl) (v := ?_) ?_ ?_; rotate_left 1; (intro W hW; (try dsimp only at hW); obtain ⟨hW0, hW1⟩ := hW; go_simp <;> with_reducible rfl); simp only [List.getElem_toArray, List.getElem_cons_zero, List.getElem_cons_succ, Act.put, List.setIfInBounds_toArray, List.set_cons_zero, List.set_cons_succ])
   clear j2 j7 j15 j16 m2 m7 m15 m16 k2 k7 k15 k16 l2 l7 l15 l16 t2 t7 t15 t16
   refine zad rfl (by rfl) (fun K hK => ?_)
   go_simp
   refine hK.out _ _ (hS.set hn1 _) ?_
   clear hK K hcn hfz
   refine zal ?_
   refine zbO (Q := _) (fun W => zgx W0 w (.int .i64 ((n : Int) + 1)) W) (ziY hlt HK HX hR1.drew hR0.drew hB.drew) ?_
   intro W HR
   replace HR := Lib.hid HR
   clear hR1 hR0 hB hS HX
   go_wp2_with fail
   go_roundw
   case rel => exact HR.out
   case measure => simp [intOf]; omega
  ·have hk48 : k = 48 := by omega
   subst hk48
   have h64 : (zb3 48 W0).length = 64 := by rw [zb0, H16.out]
   have HR : Hid (zb3 48 (zbw b) = zb3 48 W0) := by unfold Hid; rw [HE.out]
   rw [zlA] at hR1
   generalize zb3 48 W0 = L at hR1 h64 HR
   have H64 := Lib.hid h64
   have hmo := zji zmp L
   have HMO := Lib.hid hmo
   clear h64 hmo
   go_wp2_with (first
    | (with_reducible refine zac rfl 245 (.tmp 3) rfl (w.heap.size + 1) 0 rfl _ _ hR1 (L.map vW) List.take_length _ Tryz.underlying245 rfl (by rw [List.length_map, H64.out]; kernel_rfl) ?_)
    | (with_reducible refine zab rfl 245 (.tmp 2) (.tmp 36) rfl w.heap.size rfl (L.map vW) rfl _ _ hR0 (by rw [List.length_map, H64.out]; kernel_rfl) (by simp [H64.out]) HMO.out ?_))
   refine bodyPost_ret (results_cell_row (p := 2) (ty := 245) rfl _ _ w.heap.size 245 (L.map vW).toArray (0, 0) _ rfl (hR0.setRow _) Tryz.underlying245 rfl (by rw [List.size_toArray, List.length_map, H64.out]; kernel_rfl)) rfl ⟨by rw [HR.out], below_setRow hB (Nat.le_refl _) _⟩
end
def KTab [Inhabited Tab] (w : World) : Prop := ∀ i, i < 64 → w.cell? ⟨0, i, none⟩ = some (.int .u32 ((kT.getD i 0).toNat : Int))
theorem KTab.keep [Inhabited Tab] {w w' : World} (h : KTab w) (hb : Below w.heap.size w w') : KTab w' := fun i hi => by
 rw [hb.cell (p := ⟨0, i, none⟩) (World.block_lt_of_cell? w _ (h i hi))]
 exact h i hi
def kcS (n : Nat) (kc : UInt32) (W : World) : Prop := W.cell? ⟨0, n, none⟩ = some (.int .u32 (kc.toNat : Int)) ∧ True
theorem zh1 {P : Program} (w : World) (t e : TypeId) (n : Nat) (cs : Array Value) (i : Nat) (v : Value) (ht : P.underlying t = some (.array n e)) (hz : (sizeOf e).run P w = .ok 1 w) (ha : (isAgg e).run P w = .ok false w) (hi : i < n) (hc : cs[i]? = some v) :
  (Instr.index t (.agg cs) (.int .i64 (i : Int))).run P w = .ok v w := by
 have h1 : (0 : Int) ≤ (i : Int) ∧ (i : Int) < (n : Int) := by omega
 simp [Instr.index, asIntOf, Sem.run_bind, run_underlying ht, h1, hz, part, ha, hc]
 omega
theorem zca : (Tryz.prog.info? 228).map (·.size) = some 8 := by kernel_rfl
theorem zhl (a b c d e f g h : UInt32) : ∀ v ∈ [Value.int .u32 (a.toNat : Int), .int .u32 (b.toNat : Int), .int .u32 (c.toNat : Int), .int .u32 (d.toNat : Int), .int .u32 (e.toNat : Int), .int .u32 (f.toNat : Int), .int .u32 (g.toNat : Int), .int .u32 (h.toNat : Int)], v.oneCell' = true := zji zmp [a, b, c, d, e, f, g, h]
def zqo (w : World) (s : St) (e : Ending) (w' : World) : Prop := ∃ S : St, Hid (S = s) ∧ e = .returned (.agg #[.int .u32 (S.a.toNat : Int), .int .u32 (S.b.toNat : Int), .int .u32 (S.c.toNat : Int), .int .u32 (S.d.toNat : Int), .int .u32 (S.e.toNat : Int), .int .u32 (S.f.toNat : Int), .int .u32 (S.g.toNat : Int), .int .u32 (S.h.toNat : Int)]) ∧ Below w.heap.size w w'
section
attribute [local go_sem] ze0 ze1 zd1 zeh
set_option maxRecDepth 100000 in
theorem zei [Inhabited Tab] (s : St) (b : List UInt8) (A : Option Addr) (c : Nat) (w : World) (HL : Hid (b.length = 64)) (hr : Rd vB w A b) (hc : 64 ≤ c) (HK : Hid (KTab w)) :
  Calls Tryz.prog 190 #[.agg #[.int .u32 (s.a.toNat : Int), .int .u32 (s.b.toNat : Int), .int .u32 (s.c.toNat : Int), .int .u32 (s.d.toNat : Int), .int .u32 (s.e.toNat : Int), .int .u32 (s.f.toNat : Int), .int .u32 (s.g.toNat : Int), .int .u32 (s.h.toNat : Int)], .slice A 64 c] w (zqo w (s.block b)) := by
 have HB : Hid (s.block b = s.plus (St.rounds (zb3 48 (zbw b)) 64 s)) := rfl
 have h64 : (zb3 48 (zbw b)).length = 64 := by rw [zb0, ziX b HL.out]
 go_enter Tryz.func190, Tryz.ntmps190
 go_wp2_with fail
 refine zbO (Q := Code.wp _ _ _ _) (fun W => Row W w.heap.size 228 [.int .u32 (s.a.toNat : Int), .int .u32 (s.b.toNat : Int), .int .u32 (s.c.toNat : Int), .int .u32 (s.d.toNat : Int), .int .u32 (s.e.toNat : Int), .int .u32 (s.f.toNat : Int), .int .u32 (s.g.toNat : Int), .int .u32 (s.h.toNat : Int)] ∧ Row W (w.heap.size + 1) 228 (List.replicate 8 (.int .u32 0)) ∧ Below w.heap.size w W)
  ⟨(Row.new w _ _ _ rfl).alloc _, Row.new_at _ _ (by simp) _ _ _ rfl, zak (zak (Below.refl _ _) _) _⟩ ?_
 rintro W ⟨hR0, hR1, hB⟩
 have st0 : ∀ W', Below W.heap.size W W' → W'.cell? ⟨w.heap.size, 0, none⟩ = some (.int .u32 (s.a.toNat : Int)) := fun W' h => (hR0.later h).cell rfl
 have st1 : ∀ W', Below W.heap.size W W' → W'.cell? ⟨w.heap.size, 1, none⟩ = some (.int .u32 (s.b.toNat : Int)) := fun W' h => (hR0.later h).cell rfl
 have st2 : ∀ W', Below W.heap.size W W' → W'.cell? ⟨w.heap.size, 2, none⟩ = some (.int .u32 (s.c.toNat : Int)) := fun W' h => (hR0.later h).cell rfl
 have st3 : ∀ W', Below W.heap.size W W' → W'.cell? ⟨w.heap.size, 3, none⟩ = some (.int .u32 (s.d.toNat : Int)) := fun W' h => (hR0.later h).cell rfl
 have hBase : Below W.heap.size W W.drew := (Below.refl _ _).drew
 refine zaw (.step 0 false (.step 1 false (.step 2 false (.step 3 false (.step 4 false (.step 5 false (.step 6 false (.step 7 false (.step 8 false (.step 9 false (.step 10 false (.step 11 false (.nil))))))))))))) (by kernel_rfl) (by kernel_rfl) (by rfl) (by kernel_rfl) ?_
 iterate 12 (refine zae rfl (by rfl) (v := ?_) ?_ ?_; rotate_left 1; (intro W hW; have hW0 := zaa hBase hW; (try dsimp only at hW); go_simp <;> with_reducible rfl); simp only [List.getElem_toArray, List.getElem_cons_zero, List.getElem_cons_succ, Act.put, List.setIfInBounds_toArray, List.set_cons_zero, List.set_cons_succ])
 refine zal ?_
 clear st0 st1 st2 st3 hBase
 go_wp2_with fail
 have st4 : ∀ W', Below W.heap.size W W' → W'.cell? ⟨w.heap.size, 4, none⟩ = some (.int .u32 (s.e.toNat : Int)) := fun W' h => (hR0.later h).cell rfl
 have st5 : ∀ W', Below W.heap.size W W' → W'.cell? ⟨w.heap.size, 5, none⟩ = some (.int .u32 (s.f.toNat : Int)) := fun W' h => (hR0.later h).cell rfl
 have st6 : ∀ W', Below W.heap.size W W' → W'.cell? ⟨w.heap.size, 6, none⟩ = some (.int .u32 (s.g.toNat : Int)) := fun W' h => (hR0.later h).cell rfl
 have st7 : ∀ W', Below W.heap.size W W' → W'.cell? ⟨w.heap.size, 7, none⟩ = some (.int .u32 (s.h.toNat : Int)) := fun W' h => (hR0.later h).cell rfl
 have hBase : Below W.heap.size W W.drew.drew := (Below.refl _ _).drew.drew
 refine zaw (.step 0 false (.step 1 false (.step 2 false (.step 3 false (.step 4 false (.step 5 false (.step 6 false (.step 7 false (.step 8 false (.step 9 false (.step 10 false (.step 11 false (.nil))))))))))))) (by kernel_rfl) (by kernel_rfl) (by rfl) (by kernel_rfl) ?_
 iterate 12 (refine zae rfl (by rfl) (v := ?_) ?_ ?_; rotate_left 1; (intro W hW; have hW0 := zaa hBase hW; (try dsimp only at hW); go_simp <;> with_reducible rfl); simp only [List.getElem_toArray, List.getElem_cons_zero, List.getElem_cons_succ, Act.put, List.setIfInBounds_toArray, List.set_cons_zero, List.set_cons_succ])
 refine zal ?_
 clear st4 st5 st6 st7 hBase
 go_wp2_with fail
 refine (zlB b _ _ _ HL (by exact hr.keep hB.drew.drew) hc).mono ?_
 rintro e wx ⟨rfl, hbx⟩
 replace hR0 := hR0.drew.drew.later hbx
 replace hR1 := hR1.drew.drew.later hbx
 replace hB := zaa hB.drew.drew hbx
 have HKx := Lib.hid (HK.out.keep hB)
 generalize zb3 48 (zbw b) = L at h64 HB
 have H64 := Lib.hid h64
 clear hbx h64 hr HK W
 go_wp2_with fail
 go_loopw [5, 6, 7, 8, 9, 10, 11, 12, 35] (fun a b c d e f g h i wr => zhZ s L wx a b c d e f g h i wr) (fun _ _ _ _ _ _ _ _ i _ => 64 - (intOf i).toNat)
 case atStart => exact ⟨0, by omega, rfl, rfl, rfl, rfl, rfl, rfl, rfl, rfl, rfl, Below.refl _ _⟩
 case round =>
  obtain ⟨n, hn, rfl, rfl, rfl, rfl, rfl, rfl, rfl, rfl, rfl, hbr⟩ := hrel
  by_cases hlt : n < 64
  ·have hkc : kcS n (kT.getD n 0) wr.drew := ⟨(HKx.out.keep hbr) n hlt, trivial⟩
   have HS : Hid (St.rounds L (n + 1) s = (St.rounds L n s).round (kT.getD n 0) (L.getD n 0)) := rfl
   generalize St.rounds L n s = S at HS
   have HS2 : Hid (∀ wr, Below wx.heap.size wx wr → zhZ s L wx (.int .u32 ((addW (tW S (kT.getD n 0) (L.getD n 0)) (uW S)).toNat : Int)) (.int .u32 (S.a.toNat : Int)) (.int .u32 (S.b.toNat : Int)) (.int .u32 (S.c.toNat : Int)) (.int .u32 ((addW S.d (tW S (kT.getD n 0) (L.getD n 0))).toNat : Int)) (.int .u32 (S.e.toNat : Int)) (.int .u32 (S.f.toNat : Int)) (.int .u32 (S.g.toNat : Int)) (.int .i64 ((n : Int) + 1)) wr) := fun wr hb => zly hlt HS hb
   clear HS
   generalize kT.getD n 0 = kc at hkc HS2
   have hix : ∀ W, (Instr.index 245 (.agg (L.map vW).toArray) (.int .i64 (n : Int))).run Tryz.prog W = .ok (.int .u32 ((L.getD n 0).toNat : Int)) W := fun W => zh1 W _ 227 64 _ n _ Tryz.underlying245 (by kernel_rfl) (by kernel_rfl) hlt (by have := H64.out; simp [List.getD, this, hlt, vW])
   generalize L.getD n 0 = x at hix HS2
   obtain ⟨sa, sb, sc, sd, se, sf, sg, sh⟩ := S
   dsimp only at HS2 ⊢
   have i0' : (0 : Int) ≤ (n : Int) := by omega
   have i1' : (n : Int) < 64 := by omega
   have hS := hkc
   clear hkc
   go_wp2_with fail
   refine zah (kcS n kc) (.step 0 false (.step 1 false (.step 4 false (.step 5 false (.step 6 false (.step 9 false (.step 10 false (.step 11 false (.step 13 false (.step 2 true (.step 3 false (.step 7 true (.step 8 false (.step 12 false (.step 14 false (.step 15 false (.nil))))))))))))))))) hS (by kernel_rfl) (by kernel_rfl) (by rfl) (by kernel_rfl) ?_
   iterate 9 (refine zae rfl (by rfl) (v := ?_) ?_ ?_; rotate_left 1; (intro W hW; (try dsimp only at hW); obtain ⟨hW0, hW1⟩ := hW; go_simp <;> with_reducible rfl); simp only [List.getElem_toArray, List.getElem_cons_zero, List.getElem_cons_succ, Act.put, List.setIfInBounds_toArray, List.set_cons_zero, List.set_cons_succ])
   (refine zad rfl (by rfl) (fun K hK => ?_); go_simp; (refine (zhk se 6 11 25 (by omega) (by omega) (by omega) _).mono ?_; rintro e w' ⟨rfl, rfl⟩); refine hK.out _ _ hS ?_; clear hK K)
   iterate 1 (refine zae rfl (by rfl) (v := ?_) ?_ ?_; rotate_left 1; (intro W hW; (try dsimp only at hW); obtain ⟨hW0, hW1⟩ := hW; go_simp <;> with_reducible rfl); simp only [List.getElem_toArray, List.getElem_cons_zero, List.getElem_cons_succ, Act.put, List.setIfInBounds_toArray, List.set_cons_zero, List.set_cons_succ])
   (refine zad rfl (by rfl) (fun K hK => ?_); go_simp; (refine (zlz se sf sg _).mono ?_; rintro e w' ⟨rfl, rfl⟩); refine hK.out _ _ hS ?_; clear hK K)
   iterate 4 (refine zae rfl (by rfl) (v := ?_) ?_ ?_; rotate_left 1; (intro W hW; (try dsimp only at hW); obtain ⟨hW0, hW1⟩ := hW; go_simp <;> with_reducible rfl); simp only [List.getElem_toArray, List.getElem_cons_zero, List.getElem_cons_succ, Act.put, List.setIfInBounds_toArray, List.set_cons_zero, List.set_cons_succ])
   refine zal ?_
   clear hS hix
   go_wp2_with fail
   refine (zhk sa 2 13 22 (by omega) (by omega) (by omega) _).mono ?_
   rintro e w' ⟨rfl, rfl⟩
   go_wp2_with fail
   refine (ziW sa sb sc _).mono ?_
   rintro e w' ⟨rfl, rfl⟩
   have HR := Lib.hid (HS2.out _ hbr.drew)
   clear HS2 hbr
   go_wp2_with fail
   go_roundw
   case rel => first | exact HR.out | ((repeat apply Exists.intro); exact ⟨HR.out, rfl⟩)
   case measure => simp [intOf]; omega
  ·have hn64 : n = 64 := by omega
   subst hn64
   have HE : Hid (s.block b = s.plus (St.rounds L 64 s)) := HB.out
   generalize St.rounds L 64 s = S at HE
   obtain ⟨sa, sb, sc, sd, se, sf, sg, sh⟩ := S
   dsimp only
   replace hR0 := hR0.later hbr
   replace hR1 := hR1.later hbr
   replace hB := zaa hB hbr
   have c0 : wr.cell? ⟨w.heap.size, 0, none⟩ = some (.int .u32 (s.a.toNat : Int)) := hR0.cell rfl
   have c1 : wr.cell? ⟨w.heap.size, 1, none⟩ = some (.int .u32 (s.b.toNat : Int)) := hR0.cell rfl
   have c2 : wr.cell? ⟨w.heap.size, 2, none⟩ = some (.int .u32 (s.c.toNat : Int)) := hR0.cell rfl
   have c3 : wr.cell? ⟨w.heap.size, 3, none⟩ = some (.int .u32 (s.d.toNat : Int)) := hR0.cell rfl
   have c4 : wr.cell? ⟨w.heap.size, 4, none⟩ = some (.int .u32 (s.e.toNat : Int)) := hR0.cell rfl
   have c5 : wr.cell? ⟨w.heap.size, 5, none⟩ = some (.int .u32 (s.f.toNat : Int)) := hR0.cell rfl
   have c6 : wr.cell? ⟨w.heap.size, 6, none⟩ = some (.int .u32 (s.g.toNat : Int)) := hR0.cell rfl
   have c7 : wr.cell? ⟨w.heap.size, 7, none⟩ = some (.int .u32 (s.h.toNat : Int)) := hR0.cell rfl
   clear hbr
   go_wp2_with (refine zab rfl 228 (.tmp 4) (.tmp 106) rfl (w.heap.size + 1) rfl [.int .u32 ((addW s.a sa).toNat : Int), .int .u32 ((addW s.b sb).toNat : Int), .int .u32 ((addW s.c sc).toNat : Int), .int .u32 ((addW s.d sd).toNat : Int), .int .u32 ((addW s.e se).toNat : Int), .int .u32 ((addW s.f sf).toNat : Int), .int .u32 ((addW s.g sg).toNat : Int), .int .u32 ((addW s.h sh).toNat : Int)] rfl _ _ hR1 (by exact zca) (by exact List.length_replicate) (by exact zhl _ _ _ _ _ _ _ _) ?_)
   refine bodyPost_ret (results_cell_row (p := 4) (ty := 228) (by rfl) _ _ (w.heap.size + 1) 228 _ (0, 0) _ (by rfl) (by exact hR1.setRow _) Tryz.underlying228 (by rfl) (by exact zca)) (by rfl) ?_
   exact ⟨St.plus s ⟨sa, sb, sc, sd, se, sf, sg, sh⟩, HE.out.symm, rfl, below_setRow hB (by omega) _⟩
end
def zdo (b : List UInt8) : List UInt8 := b.drop (b.length / 64 * 64)
theorem ziZ (b : List UInt8) : (zdo b).length = b.length % 64 := by rw [zdo, List.length_drop]; omega
theorem zgy (b : List UInt8) (h : b.length < 64) : zdo b = b := by rw [zdo, show b.length / 64 * 64 = 0 by omega]; rfl
theorem zhm (b : List UInt8) (h : 64 ≤ b.length) : zdo b = zdo (b.drop 64) := by
 rw [zdo, zdo, List.drop_drop, List.length_drop, show 64 + (b.length - 64) / 64 * 64 = b.length / 64 * 64 by omega]
theorem znp (w : World) : Calls Tryz.prog 181 #[] w fun e w' => ∃ S : St, Hid (S = zhY) ∧ e = .returned (.agg #[.int .u32 (S.a.toNat : Int), .int .u32 (S.b.toNat : Int), .int .u32 (S.c.toNat : Int), .int .u32 (S.d.toNat : Int), .int .u32 (S.e.toNat : Int), .int .u32 (S.f.toNat : Int), .int .u32 (S.g.toNat : Int), .int .u32 (S.h.toNat : Int), .slice none 0 0, .int .u64 0]) ∧ Below w.heap.size w w' := by
 go_enter Tryz.func181, Tryz.ntmps181
 go_wp2_with fail
 refine bodyPost_ret (results_cell_row (p := 0) (ty := 232) (by rfl) _ _ w.heap.size 232 _ (0, 0) _ (by rfl) (by exact Row.new w _ _ _ rfl) Tryz.underlying232 (by rfl) (by kernel_rfl)) (by rfl) ?_
 exact ⟨zhY, rfl, rfl, zak (Below.refl _ _) _⟩
def zi0 [Inhabited Tab] (s : St) (b : List UInt8) (A0 : Option Addr) (w : World) (v : Value) (wr : World) : Prop :=
 ∃ (S : St) (M : List UInt8) (A : Option Addr) (c : Nat), v = .slice A M.length c ∧ M.length ≤ c ∧ M.length ≤ b.length ∧ (∀ W, Rd vB W A0 b → Rd vB W A M) ∧ s.from b = S.from M ∧ zdo b = zdo M ∧
  Row wr w.heap.size 228 [.int .u32 (S.a.toNat : Int), .int .u32 (S.b.toNat : Int), .int .u32 (S.c.toNat : Int), .int .u32 (S.d.toNat : Int), .int .u32 (S.e.toNat : Int), .int .u32 (S.f.toNat : Int), .int .u32 (S.g.toNat : Int), .int .u32 (S.h.toNat : Int)] ∧ Row wr (w.heap.size + 1) 228 (List.replicate 8 (.int .u32 0)) ∧ Below w.heap.size w wr
theorem zgz [Inhabited Tab] (s : St) (b : List UInt8) (A : Option Addr) (c : Nat) (w : World) (hr : Rd vB w A b) (hc : b.length ≤ c) (hl : b.length ≤ 9223372036854775807) (HK : Hid (KTab w)) :
  Calls Tryz.prog 180 #[.agg #[.int .u32 (s.a.toNat : Int), .int .u32 (s.b.toNat : Int), .int .u32 (s.c.toNat : Int), .int .u32 (s.d.toNat : Int), .int .u32 (s.e.toNat : Int), .int .u32 (s.f.toNat : Int), .int .u32 (s.g.toNat : Int), .int .u32 (s.h.toNat : Int)], .slice A b.length c] w fun e w' => ∃ (S : St) (A' : Option Addr) (c' : Nat), Hid (S = s.from b) ∧ e = .returned (.tuple #[.agg #[.int .u32 (S.a.toNat : Int), .int .u32 (S.b.toNat : Int), .int .u32 (S.c.toNat : Int), .int .u32 (S.d.toNat : Int), .int .u32 (S.e.toNat : Int), .int .u32 (S.f.toNat : Int), .int .u32 (S.g.toNat : Int), .int .u32 (S.h.toNat : Int)], .slice A' (zdo b).length c']) ∧ (zdo b).length ≤ c' ∧ (∀ W, Rd vB W A b → Rd vB W A' (zdo b)) ∧ Below w.heap.size w w' := by
 go_enter Tryz.func180, Tryz.ntmps180
 go_wp2_with fail
 refine zbO (Q := Code.wp _ _ _ _) (fun W => Row W w.heap.size 228 [.int .u32 (s.a.toNat : Int), .int .u32 (s.b.toNat : Int), .int .u32 (s.c.toNat : Int), .int .u32 (s.d.toNat : Int), .int .u32 (s.e.toNat : Int), .int .u32 (s.f.toNat : Int), .int .u32 (s.g.toNat : Int), .int .u32 (s.h.toNat : Int)] ∧ Row W (w.heap.size + 1) 228 (List.replicate 8 (.int .u32 0)) ∧ Below w.heap.size w W)
  ⟨(Row.new w _ _ _ rfl).alloc _, Row.new_at _ _ (by simp) _ _ _ rfl, zak (zak (Below.refl _ _) _) _⟩ ?_
 rintro W ⟨hR0, hR1, hB⟩
 go_loopw [1] (fun v wr => zi0 s b A w v wr) (fun v _ => zea v)
 case atStart => exact ⟨s, b, A, c, rfl, hc, Nat.le_refl _, fun _ h => h, rfl, rfl, hR0, hR1, hB⟩
 case round =>
  clear hR0 hR1 hB hc
  obtain ⟨S, M, A1, c1, rfl, hc1, hMl, hall, hfr, hrs, hR0, hR1, hB⟩ := hrel
  have HA := Lib.hid hall
  have hr1 := hall w hr
  clear hall
  have HF := Lib.hid hfr
  have HR := Lib.hid hrs
  clear hfr hrs
  by_cases h64 : 64 ≤ M.length
  ·obtain ⟨blk, o, rfl, hb, _⟩ := hr1.at (k := 0) (by omega)
   have hr64 : Rd vB w (some ⟨blk, o, none⟩) (M.take 64) := hr1.take 64
   have HL : Hid ((M.take 64).length = 64) := by unfold Hid; rw [List.length_take]; omega
   have hrd : Hid (∀ W, Rd vB W A b → Rd vB W (if c1 = 64 then some ⟨blk, o, none⟩ else some ⟨blk, o + 64, none⟩) (M.drop 64)) := fun W h => by
    have := (HA.out W h).drop 64 c1 hc1
    simpa [Addr.add] using this
   have HF2 : Hid (s.from b = (S.block (M.take 64)).from (M.drop 64)) := by unfold Hid; rw [HF.out]; exact zd2 S M h64
   have HR2 : Hid (zdo b = zdo (M.drop 64)) := by unfold Hid; rw [HR.out]; exact zhm M h64
   have hmd : (M.drop 64).length = M.length - 64 := List.length_drop
   obtain ⟨D, hD⟩ : ∃ D, D = M.drop 64 := ⟨_, rfl⟩
   rw [← hD] at hrd HF2 HR2 hmd
   have HD := Lib.hid hmd
   generalize M.take 64 = T at hr64 HL HF2
   clear hD hmd hr1 HF HR HA
   have hc64 : 64 ≤ c1 := by omega
   have hc64' : (64 : Int) ≤ (c1 : Int) := by omega
   go_wp2_with fail
   refine zah (fun _ => True) (.step 1 false (.step 2 false (.step 0 true (.step 3 true (.step 4 true (.nil)))))) trivial (by kernel_rfl) (by kernel_rfl) (by rfl) (by kernel_rfl) ?_
   iterate 2 (refine zae rfl (by rfl) (v := ?_) ?_ ?_; rotate_left 1; (intro W hW; go_simp <;> with_reducible rfl); simp only [List.getElem_toArray, List.getElem_cons_zero, List.getElem_cons_succ, Act.put, List.setIfInBounds_toArray, List.set_cons_zero, List.set_cons_succ])
   refine zad rfl (by rfl) (fun K hK => ?_)
   refine wp_load_mid 228 (.tmp 2) (by rfl) w.heap.size 0 (by rfl) [.int .u32 (S.a.toNat : Int), .int .u32 (S.b.toNat : Int), .int .u32 (S.c.toNat : Int), .int .u32 (S.d.toNat : Int), .int .u32 (S.e.toNat : Int), .int .u32 (S.f.toNat : Int), .int .u32 (S.g.toNat : Int), .int .u32 (S.h.toNat : Int)] _ hR0.drew.range Tryz.underlying228 (by rfl) (by exact zca) ?_
   simp only [List.getElem_toArray, List.getElem_cons_zero, List.getElem_cons_succ, Act.put, List.setIfInBounds_toArray, List.set_cons_zero, List.set_cons_succ]
   refine hK.out _ _ trivial ?_
   clear hK K
   refine zad rfl (by rfl) (fun K hK => ?_)
   go_simp
   refine (zei S T _ _ _ HL (by exact hr64.keep hB.drew) hc64 (by exact Lib.hid (HK.out.keep hB.drew))).mono ?_
   rintro e w1 ⟨S1, HS1, rfl, hb1⟩
   refine hK.out _ _ trivial ?_
   clear hK K
   replace hR0 := hR0.drew.later hb1
   replace hR1 := hR1.drew.later hb1
   replace hB := zaa hB.drew hb1
   clear hb1
   refine zad rfl (by rfl) (fun K hK => ?_)
   refine hR0.wp_store 228 (.tmp 2) (.tmp 12) (by rfl) (by rfl) [.int .u32 (S1.a.toNat : Int), .int .u32 (S1.b.toNat : Int), .int .u32 (S1.c.toNat : Int), .int .u32 (S1.d.toNat : Int), .int .u32 (S1.e.toNat : Int), .int .u32 (S1.f.toNat : Int), .int .u32 (S1.g.toNat : Int), .int .u32 (S1.h.toNat : Int)] (by rfl) (by exact zca) (by rfl) (by exact zhl _ _ _ _ _ _ _ _) ?_
   simp only [List.getElem_toArray, List.getElem_cons_zero, List.getElem_cons_succ, Act.put, List.setIfInBounds_toArray, List.set_cons_zero, List.set_cons_succ]
   refine hK.out _ _ trivial ?_
   clear hK K
   refine zal ?_
   refine zbO (Q := _) (fun W => Row W w.heap.size 228 [.int .u32 (S1.a.toNat : Int), .int .u32 (S1.b.toNat : Int), .int .u32 (S1.c.toNat : Int), .int .u32 (S1.d.toNat : Int), .int .u32 (S1.e.toNat : Int), .int .u32 (S1.f.toNat : Int), .int .u32 (S1.g.toNat : Int), .int .u32 (S1.h.toNat : Int)] ∧ Row W (w.heap.size + 1) 228 (List.replicate 8 (.int .u32 0)) ∧ Below w.heap.size w W)
    ⟨hR0.setRow _, hR1.setRow_other (by omega) _, below_setRow hB (Nat.le_refl _) _⟩ ?_
   clear hR0 hR1 hB
   rintro W2 ⟨hR0, hR1, hB⟩
   have HRel : Hid (zi0 s b A w (.slice (if c1 = 64 then some ⟨blk, o, none⟩ else some ⟨blk, o + 64, none⟩) (M.length - 64) (c1 - 64)) W2) := by
    have e := HD.out
    refine ⟨S1, D, _, c1 - 64, by rw [e], by omega, by omega, hrd.out, ?_, HR2.out, hR0, hR1, hB⟩
    rw [HS1.out]
    exact HF2.out
   clear hrd HF2 HR2 hR0 hR1 hB HS1 HD HL hr64
   go_wp2_with fail
   go_roundw
   case rel => exact HRel.out
   case measure => simp [zea]; omega
  ·have HF2 : Hid (S = s.from b) := by unfold Hid; rw [HF.out]; exact (zgw S M h64).symm
   have HR2 : Hid (zdo b = M) := by unfold Hid; rw [HR.out]; exact zgy M (by omega)
   clear HF HR
   go_wp2_with (first
    | (refine zac rfl 228 (.tmp 2) rfl w.heap.size 0 rfl _ _ hR0 [.int .u32 (S.a.toNat : Int), .int .u32 (S.b.toNat : Int), .int .u32 (S.c.toNat : Int), .int .u32 (S.d.toNat : Int), .int .u32 (S.e.toNat : Int), .int .u32 (S.f.toNat : Int), .int .u32 (S.g.toNat : Int), .int .u32 (S.h.toNat : Int)] (by rfl) _ Tryz.underlying228 rfl (by exact zca) ?_)
    | (refine zab rfl 228 (.tmp 4) (.tmp 15) rfl (w.heap.size + 1) rfl [.int .u32 (S.a.toNat : Int), .int .u32 (S.b.toNat : Int), .int .u32 (S.c.toNat : Int), .int .u32 (S.d.toNat : Int), .int .u32 (S.e.toNat : Int), .int .u32 (S.f.toNat : Int), .int .u32 (S.g.toNat : Int), .int .u32 (S.h.toNat : Int)] rfl _ _ hR1 (by exact zca) (by exact List.length_replicate) (by exact zhl _ _ _ _ _ _ _ _) ?_))
   refine bodyPost_ret (zag (p := 4) (u := 5) (ty := 228) (by rfl) _ _ (w.heap.size + 1) 228 _ _ (by rfl) (by exact hR1.setRow _) Tryz.underlying228 (by rfl) (by exact zca)) (by rfl) ?_
   refine ⟨S, A1, c1, HF2.out, ?_, ?_, ?_, below_setRow hB (Nat.le_succ _) _⟩
   ·rw [HR2.out]; rfl
   ·rw [HR2.out]; exact hc1
   ·rw [HR2.out]; exact HA.out
def zel (r : List UInt8) : List UInt8 := r ++ 128 :: List.replicate (63 - r.length) 0
theorem zc8 (r : List UInt8) (h : r.length < 64) : (zel r).length = 64 := by simp [zel]; omega
theorem znq (r : List UInt8) (h : r.length < 64) : (r ++ List.replicate (64 - r.length) 0).set r.length 128 = zel r := by
 rw [List.set_append_right _ _ (Nat.le_refl _), Nat.sub_self, show 64 - r.length = (63 - r.length) + 1 by omega, List.replicate_succ, List.set_cons_zero]
 rfl
theorem zlC (r : List UInt8) (many : Nat) (h : r.length < 56) : zdn r many = (zel r).take 56 ++ putL (8 * many % 18446744073709551616) := by
 unfold zdn zel
 congr 1
 rw [List.take_append, List.take_of_length_le (by omega), show 56 - r.length = (55 - r.length) + 1 by omega, List.take_succ_cons, List.take_replicate,
  show (119 - r.length % 64) % 64 = 55 - r.length by omega, show min (55 - r.length) (63 - r.length) = 55 - r.length by omega]
theorem znr (r : List UInt8) (many : Nat) (h : 56 ≤ r.length) (h64 : r.length < 64) : zdn r many = zel r ++ ((List.replicate 64 0).take 56 ++ putL (8 * many % 18446744073709551616)) := by
 unfold zdn zel
 rw [← List.append_assoc]
 congr 1
 rw [List.append_assoc]
 congr 1
 rw [List.take_replicate, show min 56 64 = 56 by omega, show (119 - r.length % 64) % 64 = (63 - r.length) + 56 by omega, List.cons_append, List.replicate_append_replicate]
theorem zkK [Inhabited Tab] (s : St) (M : List UInt8) (h : M.length = 64) : s.from M = s.block M := by
 rw [zd2 s M (by omega), List.take_of_length_le (by omega), List.drop_of_length_le (by omega)]
 exact zgw _ _ (by simp)
theorem zoE [Inhabited Tab] (s : St) (M N : List UInt8) (h : M.length = 64) (h' : N.length = 64) : s.from (M ++ N) = (s.block M).block N := by
 rw [zd2 s _ (by simp; omega), List.take_left' h, List.drop_left' h]
 exact zkK _ _ h'
theorem zlD [Inhabited Tab] (s : St) (r : List UInt8) (many : Nat) (h : r.length < 56) : s.from (zdn r many) = s.block ((zel r).take 56 ++ putL (8 * many % 18446744073709551616)) := by
 rw [zlC r many h]
 exact zkK _ _ (by have := zc8 r (by omega); simp [zdu]; omega)
theorem zns [Inhabited Tab] (s : St) (r : List UInt8) (many : Nat) (h : 56 ≤ r.length) (h64 : r.length < 64) : s.from (zdn r many) = (s.block (zel r)).block ((List.replicate 64 0).take 56 ++ putL (8 * many % 18446744073709551616)) := by
 rw [znr r many h h64]
 exact zoE _ _ _ (zc8 r h64) (by simp [zdu])
def zp0 (g many : Nat) (W : World) : Prop := W.cell? ⟨g, 9, none⟩ = some (.int .u64 (many : Int)) ∧ True
set_option maxRecDepth 100000 in
theorem zoF [Inhabited Tab] (s : St) (r : List UInt8) (A : Option Addr) (c many : Nat) (w : World) (hr : Rd vB w A r) (hn : r.length < 64) (hm : many < 18446744073709551616) (HK : Hid (KTab w)) :
  Calls Tryz.prog 183 #[.agg #[.int .u32 (s.a.toNat : Int), .int .u32 (s.b.toNat : Int), .int .u32 (s.c.toNat : Int), .int .u32 (s.d.toNat : Int), .int .u32 (s.e.toNat : Int), .int .u32 (s.f.toNat : Int), .int .u32 (s.g.toNat : Int), .int .u32 (s.h.toNat : Int), .slice A r.length c, .int .u64 (many : Int)]] w (RetS vW w (s.from (zdn r many)).toL) := by
 have hmk : ∀ w, (Instr.makeSlice 22 (.int .i64 64) (.int .i64 64)).run Tryz.prog w = .ok (.slice (some ⟨w.heap.size, 0, none⟩) 64 64) (w.alloc (.cells (List.replicate 64 (.int .u8 0)).toArray 5)) := fun _ => by kernel_rfl
 obtain ⟨p, hp⟩ : ∃ p, p = 8 * many % 18446744073709551616 := ⟨_, rfl⟩
 have HP1 : Hid (IntKind.u64.wrap (8 * (many : Int)) = (p : Int)) := by unfold Hid; rw [IntKind.wrap_u64, hp]; omega
 have HP2 : Hid (8 * (many : Int) % 18446744073709551616 = (p : Int)) := by unfold Hid; rw [hp]; omega
 have HPm : Hid (p < 18446744073709551616) := by unfold Hid; rw [hp]; exact Nat.mod_lt _ (by omega)
 have HP := Lib.hid hp
 clear hp
 go_enter Tryz.func183, Tryz.ntmps183
 go_upto_region 4 with (first
  | (refine zac rfl 228 (.tmp 6) rfl w.heap.size 0 rfl _ _ (Row.new w _ _ _ rfl) [.int .u32 (s.a.toNat : Int), .int .u32 (s.b.toNat : Int), .int .u32 (s.c.toNat : Int), .int .u32 (s.d.toNat : Int), .int .u32 (s.e.toNat : Int), .int .u32 (s.f.toNat : Int), .int .u32 (s.g.toNat : Int), .int .u32 (s.h.toNat : Int)] (by rfl) _ Tryz.underlying228 rfl (by exact zca) ?_)
  | (refine zf2 rfl (.tmp 9) (.tmp 11) 22 22 rfl 5 Tryz.underlying22 (by kernel_rfl) (w.heap.size + 2) 0 64 64 A r c rfl rfl (List.replicate 64 (.int .u8 0)) 5 (by exact Row.new_at _ _ (by simp) _ _ _ rfl) (by exact hr.keep (zak (zak (zak (Below.refl _ _) _) _) _)) zbt (by omega) (by simp; omega) ?_))
 refine zbO (Q := Code.wp _ _ _ _) (fun W => Row W w.heap.size 232 [.int .u32 (s.a.toNat : Int), .int .u32 (s.b.toNat : Int), .int .u32 (s.c.toNat : Int), .int .u32 (s.d.toNat : Int), .int .u32 (s.e.toNat : Int), .int .u32 (s.f.toNat : Int), .int .u32 (s.g.toNat : Int), .int .u32 (s.h.toNat : Int), .slice A r.length c, .int .u64 (many : Int)] ∧ Row W (w.heap.size + 1) 228 [.int .u32 (s.a.toNat : Int), .int .u32 (s.b.toNat : Int), .int .u32 (s.c.toNat : Int), .int .u32 (s.d.toNat : Int), .int .u32 (s.e.toNat : Int), .int .u32 (s.f.toNat : Int), .int .u32 (s.g.toNat : Int), .int .u32 (s.h.toNat : Int)] ∧ Row W (w.heap.size + 1 + 1) 5 ((r ++ List.replicate (64 - r.length) 0).map vB) ∧ Below w.heap.size w W)
  ⟨(((Row.new w _ _ _ rfl).alloc _).alloc _).setRow_other (by omega) _, ((Row.new_at _ _ (by simp) _ _ _ rfl).alloc _).setRow_other (by omega) _, ?_, below_setRow (zak (zak (zak (Below.refl _ _) _) _) _) (by omega) _⟩ ?_
 ·refine Row.setRow_at (Row.new_at _ _ (by simp) _ _ _ rfl) _ _ ?_
  show (r.map vB ++ (List.replicate 64 (Value.int .u8 0)).drop r.length).toArray = _
  rw [List.drop_replicate, List.map_append, List.map_replicate]
  rfl
 clear hmk hr
 rintro W ⟨hR0, hR1, hR2, hB⟩
 have hcn : W.cell? ⟨w.heap.size + 1 + 1, r.length, none⟩ = some (.int .u8 0) := hR2.cell (by
  rw [List.map_append, List.getElem?_append_right (by simp), List.length_map, Nat.sub_self, List.map_replicate, List.getElem?_replicate, if_pos (by omega)]
  rfl)
 have hfz : W.frozen? ⟨w.heap.size + 1 + 1, r.length, none⟩ = false := hR2.frozen _
 have n0 : (0 : Int) ≤ (r.length : Int) := by omega
 have n1 : (r.length : Int) < 64 := by omega
 go_upto_region 5 with fail
 refine zbO (Q := Code.wp _ _ _ _) (fun W => Row W w.heap.size 232 [.int .u32 (s.a.toNat : Int), .int .u32 (s.b.toNat : Int), .int .u32 (s.c.toNat : Int), .int .u32 (s.d.toNat : Int), .int .u32 (s.e.toNat : Int), .int .u32 (s.f.toNat : Int), .int .u32 (s.g.toNat : Int), .int .u32 (s.h.toNat : Int), .slice A r.length c, .int .u64 (many : Int)] ∧ Row W (w.heap.size + 1) 228 [.int .u32 (s.a.toNat : Int), .int .u32 (s.b.toNat : Int), .int .u32 (s.c.toNat : Int), .int .u32 (s.d.toNat : Int), .int .u32 (s.e.toNat : Int), .int .u32 (s.f.toNat : Int), .int .u32 (s.g.toNat : Int), .int .u32 (s.h.toNat : Int)] ∧ Row W (w.heap.size + 1 + 1) 5 ((zel r).map vB) ∧ Below w.heap.size w W)
  ⟨hR0.setCell_other (by simp; omega) _, hR1.setCell_other (by simp) _, ?_, hB.setCell (by simp; omega) _⟩ ?_
 ·have := hR2.setCell r.length (vB 128)
  rw [← List.map_set, znq r hn] at this
  exact this
 clear hR0 hR1 hR2 hB hcn hfz W
 rintro W ⟨hR0, hR1, hR2, hB⟩
 by_cases h56 : r.length < 56
 ·have hd : decide ((56 : Int) ≤ (r.length : Int)) = false := by simp; omega
  have HE : Hid (s.from (zdn r many) = s.block ((zel r).take 56 ++ putL p)) := by unfold Hid; rw [HP.out]; exact zlD s r many h56
  have HM : Hid ((zel r).length = 64) := zc8 r hn
  generalize zel r = M at hR2 HE HM
  obtain ⟨S, hS⟩ : ∃ S, S = s := ⟨_, rfl⟩
  replace hR1 : Row W (w.heap.size + 1) 228 [.int .u32 (S.a.toNat : Int), .int .u32 (S.b.toNat : Int), .int .u32 (S.c.toNat : Int), .int .u32 (S.d.toNat : Int), .int .u32 (S.e.toNat : Int), .int .u32 (S.f.toNat : Int), .int .u32 (S.g.toNat : Int), .int .u32 (S.h.toNat : Int)] := by rw [hS]; exact hR1
  replace HE : Hid (s.from (zdn r many) = S.block (M.take 56 ++ putL p)) := by rw [hS]; exact HE
  clear hS
  go_upto_region 8 with fail
  clear hd h56
  have h8 := zdu p
  generalize hpl : putL p = Pl at HE h8
  have HPl := Lib.hid hpl
  have H8 := Lib.hid h8
  clear hpl h8
  have hP1 := HP1.out
  have hP2 := HP2.out
  refine zah (zp0 w.heap.size many) (.step 0 false (.step 1 false (.step 2 false (.step 3 false (.step 4 false (.step 5 true (.step 6 true (.nil)))))))) ⟨hR0.drew.cell rfl, trivial⟩ (by kernel_rfl) (by kernel_rfl) (by rfl) (by kernel_rfl) ?_
  iterate 5 (refine zae rfl (by rfl) (v := ?_) ?_ ?_; rotate_left 1; (intro W hW; (try dsimp only at hW); obtain ⟨hW0, hW1⟩ := hW; go_simp <;> with_reducible rfl); simp only [List.getElem_toArray, List.getElem_cons_zero, List.getElem_cons_succ, Act.put, List.setIfInBounds_toArray, List.set_cons_zero, List.set_cons_succ])
  clear hP1 hP2
  refine zad rfl (by rfl) (fun K hK => ?_)
  go_simp
  refine (zhH p HPm.out _).mono ?_
  rintro e w1 ⟨A1, c1, rfl, hc1, hr1, hb1⟩
  rw [HPl.out] at hc1 hr1 ⊢
  refine hK.out _ _ ⟨(hR0.drew.later hb1).cell rfl, trivial⟩ ?_
  clear hK K
  replace hR0 := hR0.drew.later hb1
  replace hR1 := hR1.drew.later hb1
  replace hR2 := hR2.drew.later hb1
  replace hB := zaa hB.drew hb1
  clear hb1
  refine zad rfl (by rfl) (fun K hK => ?_)
  refine zdt (.tmp 24) (.tmp 28) 22 22 (by rfl) 5 Tryz.underlying22 (by kernel_rfl) (w.heap.size + 1 + 1) 56 8 8 A1 Pl c1 (by rfl) (by rfl) (M.map vB) _ hR2 hr1 zbt (by have := H8.out; omega) (by rw [List.length_map, HM.out, H8.out]; omega) ?_
  simp only [List.getElem_toArray, List.getElem_cons_zero, List.getElem_cons_succ, Act.put, List.setIfInBounds_toArray, List.set_cons_zero, List.set_cons_succ]
  refine hK.out _ _ ⟨(hR0.setRow_other (by omega) _).cell rfl, trivial⟩ ?_
  clear hK K
  refine zal ?_
  refine zbO (Q := _) (fun W => Row W (w.heap.size + 1) 228 [.int .u32 (S.a.toNat : Int), .int .u32 (S.b.toNat : Int), .int .u32 (S.c.toNat : Int), .int .u32 (S.d.toNat : Int), .int .u32 (S.e.toNat : Int), .int .u32 (S.f.toNat : Int), .int .u32 (S.g.toNat : Int), .int .u32 (S.h.toNat : Int)] ∧ Row W (w.heap.size + 1 + 1) 5 ((M.take 56 ++ Pl).map vB) ∧ Below w.heap.size w W)
   ⟨hR1.setRow_other (by omega) _, Row.setRow_at hR2 _ _ ?_, below_setRow hB (by omega) _⟩ ?_
  ·rw [List.drop_of_length_le (by rw [List.length_map, HM.out, H8.out]; omega), List.append_nil, List.map_append, List.map_take]
  have HM2 : Hid ((M.take 56 ++ Pl).length = 64) := by unfold Hid; rw [List.length_append, List.length_take, HM.out, H8.out]; rfl
  generalize M.take 56 ++ Pl = N at HE HM2
  clear hR0 hR1 hR2 hB hr1 hc1 HM
  rintro W ⟨hR1, hR2, hB⟩
  have hr2 : Rd vB W (some ⟨w.heap.size + 1 + 1, 0, none⟩) N := hR2.rd
  go_wp2_with (refine zac rfl 228 (.tmp 3) rfl (w.heap.size + 1) 0 rfl _ _ hR1 [.int .u32 (S.a.toNat : Int), .int .u32 (S.b.toNat : Int), .int .u32 (S.c.toNat : Int), .int .u32 (S.d.toNat : Int), .int .u32 (S.e.toNat : Int), .int .u32 (S.f.toNat : Int), .int .u32 (S.g.toNat : Int), .int .u32 (S.h.toNat : Int)] (by rfl) _ Tryz.underlying228 rfl (by exact zca) ?_)
  refine (zei S N _ _ _ HM2 hr2 (Nat.le_refl _) (Lib.hid (HK.out.keep hB))).mono ?_
  rintro e w2 ⟨T, HT, rfl, hb2⟩
  replace hR1 := hR1.later hb2
  replace hB := zaa hB hb2
  clear hr2 hR2 hb2
  go_wp2_with (refine zab rfl 228 (.tmp 3) (.tmp 32) rfl (w.heap.size + 1) rfl [.int .u32 (T.a.toNat : Int), .int .u32 (T.b.toNat : Int), .int .u32 (T.c.toNat : Int), .int .u32 (T.d.toNat : Int), .int .u32 (T.e.toNat : Int), .int .u32 (T.f.toNat : Int), .int .u32 (T.g.toNat : Int), .int .u32 (T.h.toNat : Int)] rfl _ _ hR1 (by exact zca) (by rfl) (by exact zhl _ _ _ _ _ _ _ _) ?_)
  go_ret
  rw [HE.out, ← HT.out]
  exact ⟨_, 8, rfl, Nat.le_refl _, Row.rd (f := vW) (L := T.toL) (hR1.setRow _), below_setRow hB (by omega) _⟩
 ·have hd : decide ((56 : Int) ≤ (r.length : Int)) = true := by simp; omega
  have HE : Hid (s.from (zdn r many) = (s.block (zel r)).block ((List.replicate 64 0).take 56 ++ putL p)) := by unfold Hid; rw [HP.out]; exact zns s r many (by omega) hn
  have HM : Hid ((zel r).length = 64) := zc8 r hn
  generalize zel r = M at hR2 HE HM
  have hr2 : Rd vB W (some ⟨w.heap.size + 1 + 1, 0, none⟩) M := hR2.rd
  go_wp2_with (refine zac rfl 228 (.tmp 3) rfl (w.heap.size + 1) 0 rfl _ _ hR1 [.int .u32 (s.a.toNat : Int), .int .u32 (s.b.toNat : Int), .int .u32 (s.c.toNat : Int), .int .u32 (s.d.toNat : Int), .int .u32 (s.e.toNat : Int), .int .u32 (s.f.toNat : Int), .int .u32 (s.g.toNat : Int), .int .u32 (s.h.toNat : Int)] (by rfl) _ Tryz.underlying228 rfl (by exact zca) ?_)
  refine (zei s M _ _ _ HM hr2 (Nat.le_refl _) (Lib.hid (HK.out.keep hB))).mono ?_
  rintro e w1 ⟨S, HS, rfl, hb1⟩
  replace hR0 := hR0.later hb1
  replace hR1 := hR1.later hb1
  replace hR2 := hR2.later hb1
  replace hB := zaa hB hb1
  clear hr2 hb1
  go_upto_region 7 with (refine zab rfl 228 (.tmp 3) (.tmp 21) rfl (w.heap.size + 1) rfl [.int .u32 (S.a.toNat : Int), .int .u32 (S.b.toNat : Int), .int .u32 (S.c.toNat : Int), .int .u32 (S.d.toNat : Int), .int .u32 (S.e.toNat : Int), .int .u32 (S.f.toNat : Int), .int .u32 (S.g.toNat : Int), .int .u32 (S.h.toNat : Int)] rfl _ _ hR1 (by exact zca) (by rfl) (by exact zhl _ _ _ _ _ _ _ _) ?_)
  refine zbO (Q := Code.wp _ _ _ _) (fun W => Row W w.heap.size 232 [.int .u32 (s.a.toNat : Int), .int .u32 (s.b.toNat : Int), .int .u32 (s.c.toNat : Int), .int .u32 (s.d.toNat : Int), .int .u32 (s.e.toNat : Int), .int .u32 (s.f.toNat : Int), .int .u32 (s.g.toNat : Int), .int .u32 (s.h.toNat : Int), .slice A r.length c, .int .u64 (many : Int)] ∧ Row W (w.heap.size + 1) 228 [.int .u32 (S.a.toNat : Int), .int .u32 (S.b.toNat : Int), .int .u32 (S.c.toNat : Int), .int .u32 (S.d.toNat : Int), .int .u32 (S.e.toNat : Int), .int .u32 (S.f.toNat : Int), .int .u32 (S.g.toNat : Int), .int .u32 (S.h.toNat : Int)] ∧ Row W (w.heap.size + 1 + 1) 5 (M.map vB) ∧ Below w.heap.size w W)
   ⟨hR0.setRow_other (by omega) _, hR1.setRow _, hR2.setRow_other (by omega) _, below_setRow hB (by omega) _⟩ ?_
  clear hR0 hR1 hR2 hB w1 W
  rintro W ⟨hR0, hR1, hR2, hB⟩
  have hcl : (Builtin.clear_ #[22] 0 #[.slice (some ⟨w.heap.size + 1 + 1, 0, none⟩) 64 64]).run Tryz.prog W = .ok (.tuple #[]) (W.setCells (w.heap.size + 1 + 1) 0 (List.replicate 64 (.int .u8 0))) :=
   Lib.run_clear_slice W _ 5 _ (.int .u8 0) Tryz.underlying22 (fun _ => by kernel_rfl) rfl rfl _ 0 64 64 (by omega) (fun j hj => by rw [hR2.cell?]; have := HM.out; simp [this, hj]) (fun j _ => hR2.frozen _)
  go_upto_region 8 with fail
  refine zbO (Q := Code.wp _ _ _ _) (fun W => Row W w.heap.size 232 [.int .u32 (s.a.toNat : Int), .int .u32 (s.b.toNat : Int), .int .u32 (s.c.toNat : Int), .int .u32 (s.d.toNat : Int), .int .u32 (s.e.toNat : Int), .int .u32 (s.f.toNat : Int), .int .u32 (s.g.toNat : Int), .int .u32 (s.h.toNat : Int), .slice A r.length c, .int .u64 (many : Int)] ∧ Row W (w.heap.size + 1) 228 [.int .u32 (S.a.toNat : Int), .int .u32 (S.b.toNat : Int), .int .u32 (S.c.toNat : Int), .int .u32 (S.d.toNat : Int), .int .u32 (S.e.toNat : Int), .int .u32 (S.f.toNat : Int), .int .u32 (S.g.toNat : Int), .int .u32 (S.h.toNat : Int)] ∧ Row W (w.heap.size + 1 + 1) 5 ((List.replicate 64 (0 : UInt8)).map vB) ∧ Below w.heap.size w W)
   ⟨hR0.setCells_other (by omega) _ _, hR1.setCells_other (by omega) _ _, ?_, zaQ (by omega) _ _ hB⟩ ?_
  ·have h0 : 0 + (List.replicate 64 (Value.int .u8 0)).length ≤ (M.map vB).length := by rw [List.length_map, HM.out]; simp
   have h1 : (M.map vB).take 0 ++ List.replicate 64 (Value.int .u8 0) ++ (M.map vB).drop (0 + (List.replicate 64 (Value.int .u8 0)).length) = (List.replicate 64 (0 : UInt8)).map vB := by
    rw [List.drop_of_length_le (by rw [List.length_map, HM.out]; simp), List.map_replicate]
    rfl
   have := Row.setCells _ 0 hR2 h0
   rw [h1] at this
   exact this
  replace HE : Hid (s.from (zdn r many) = S.block ((List.replicate 64 0).take 56 ++ putL p)) := by unfold Hid; rw [HE.out, HS.out]
  clear hR0 hR1 hR2 hB hcl HM HS W M hd h56
  rintro W ⟨hR0, hR1, hR2, hB⟩
  have HM : Hid ((List.replicate 64 (0 : UInt8)).length = 64) := List.length_replicate
  generalize List.replicate 64 (0 : UInt8) = M at HE HM hR2
  have h8 := zdu p
  generalize hpl : putL p = Pl at HE h8
  have HPl := Lib.hid hpl
  have H8 := Lib.hid h8
  clear hpl h8
  have hP1 := HP1.out
  have hP2 := HP2.out
  refine zah (zp0 w.heap.size many) (.step 0 false (.step 1 false (.step 2 false (.step 3 false (.step 4 false (.step 5 true (.step 6 true (.nil)))))))) ⟨hR0.drew.cell rfl, trivial⟩ (by kernel_rfl) (by kernel_rfl) (by rfl) (by kernel_rfl) ?_
  iterate 5 (refine zae rfl (by rfl) (v := ?_) ?_ ?_; rotate_left 1; (intro W hW; (try dsimp only at hW); obtain ⟨hW0, hW1⟩ := hW; go_simp <;> with_reducible rfl); simp only [List.getElem_toArray, List.getElem_cons_zero, List.getElem_cons_succ, Act.put, List.setIfInBounds_toArray, List.set_cons_zero, List.set_cons_succ])
  clear hP1 hP2
  refine zad rfl (by rfl) (fun K hK => ?_)
  go_simp
  refine (zhH p HPm.out _).mono ?_
  rintro e w1 ⟨A1, c1, rfl, hc1, hr1, hb1⟩
  rw [HPl.out] at hc1 hr1 ⊢
  refine hK.out _ _ ⟨(hR0.drew.later hb1).cell rfl, trivial⟩ ?_
  clear hK K
  replace hR0 := hR0.drew.later hb1
  replace hR1 := hR1.drew.later hb1
  replace hR2 := hR2.drew.later hb1
  replace hB := zaa hB.drew hb1
  clear hb1
  refine zad rfl (by rfl) (fun K hK => ?_)
  refine zdt (.tmp 24) (.tmp 28) 22 22 (by rfl) 5 Tryz.underlying22 (by kernel_rfl) (w.heap.size + 1 + 1) 56 8 8 A1 Pl c1 (by rfl) (by rfl) (M.map vB) _ hR2 hr1 zbt (by have := H8.out; omega) (by rw [List.length_map, HM.out, H8.out]; omega) ?_
  simp only [List.getElem_toArray, List.getElem_cons_zero, List.getElem_cons_succ, Act.put, List.setIfInBounds_toArray, List.set_cons_zero, List.set_cons_succ]
  refine hK.out _ _ ⟨(hR0.setRow_other (by omega) _).cell rfl, trivial⟩ ?_
  clear hK K
  refine zal ?_
  refine zbO (Q := _) (fun W => Row W (w.heap.size + 1) 228 [.int .u32 (S.a.toNat : Int), .int .u32 (S.b.toNat : Int), .int .u32 (S.c.toNat : Int), .int .u32 (S.d.toNat : Int), .int .u32 (S.e.toNat : Int), .int .u32 (S.f.toNat : Int), .int .u32 (S.g.toNat : Int), .int .u32 (S.h.toNat : Int)] ∧ Row W (w.heap.size + 1 + 1) 5 ((M.take 56 ++ Pl).map vB) ∧ Below w.heap.size w W)
   ⟨hR1.setRow_other (by omega) _, Row.setRow_at hR2 _ _ ?_, below_setRow hB (by omega) _⟩ ?_
  ·rw [List.drop_of_length_le (by rw [List.length_map, HM.out, H8.out]; omega), List.append_nil, List.map_append, List.map_take]
  have HM2 : Hid ((M.take 56 ++ Pl).length = 64) := by unfold Hid; rw [List.length_append, List.length_take, HM.out, H8.out]; rfl
  generalize M.take 56 ++ Pl = N at HE HM2
  clear hR0 hR1 hR2 hB hr1 hc1 HM
  rintro W ⟨hR1, hR2, hB⟩
  have hr2 : Rd vB W (some ⟨w.heap.size + 1 + 1, 0, none⟩) N := hR2.rd
  go_wp2_with (refine zac rfl 228 (.tmp 3) rfl (w.heap.size + 1) 0 rfl _ _ hR1 [.int .u32 (S.a.toNat : Int), .int .u32 (S.b.toNat : Int), .int .u32 (S.c.toNat : Int), .int .u32 (S.d.toNat : Int), .int .u32 (S.e.toNat : Int), .int .u32 (S.f.toNat : Int), .int .u32 (S.g.toNat : Int), .int .u32 (S.h.toNat : Int)] (by rfl) _ Tryz.underlying228 rfl (by exact zca) ?_)
  refine (zei S N _ _ _ HM2 hr2 (Nat.le_refl _) (Lib.hid (HK.out.keep hB))).mono ?_
  rintro e w2 ⟨T, HT, rfl, hb2⟩
  replace hR1 := hR1.later hb2
  replace hB := zaa hB hb2
  clear hr2 hR2 hb2
  go_wp2_with (refine zab rfl 228 (.tmp 3) (.tmp 32) rfl (w.heap.size + 1) rfl [.int .u32 (T.a.toNat : Int), .int .u32 (T.b.toNat : Int), .int .u32 (T.c.toNat : Int), .int .u32 (T.d.toNat : Int), .int .u32 (T.e.toNat : Int), .int .u32 (T.f.toNat : Int), .int .u32 (T.g.toNat : Int), .int .u32 (T.h.toNat : Int)] rfl _ _ hR1 (by exact zca) (by rfl) (by exact zhl _ _ _ _ _ _ _ _) ?_)
  go_ret
  rw [HE.out, ← HT.out]
  exact ⟨_, 8, rfl, Nat.le_refl _, Row.rd (f := vW) (L := T.toL) (hR1.setRow _), below_setRow hB (by omega) _⟩
end Go.Proofs.YteljklkgdejhpaaGreatDoor
