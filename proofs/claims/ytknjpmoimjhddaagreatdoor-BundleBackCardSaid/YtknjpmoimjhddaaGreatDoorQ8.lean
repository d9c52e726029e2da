/-
  What the reference's call Block of layer 2 answers: the state behind a block of 64 bytes.
-/
import Derived.Test.YtknjpmoimjhddaaGreatDoorQ7
import Derived.Deep.QuietTactic
import Derived.BigQuiet
import Derived.Deep.Cut
import Derived.Deep.DeepCutAuto
namespace Go.Proofs.YtknjpmoimjhddaaGreatDoor
set_option maxRecDepth 100000
open Go.RowKit
set_option linter.unusedSimpArgs false
attribute [local go_sem] u32_xor_w u32_and_w u32_or_w u32_add_w u32_add_m u32_not_w u32_not_ww u32_mod_w u32_wrap_w

theorem refrot_c (x : UInt32) (c : Nat) (hc : c < 32) (w : World) :
    Calls Tryz.prog 192 #[.int .u32 (x.toNat : Int), .int .i64 (c : Int)] w fun e w' => e = .returned (.int .u32 ((rotR x c).toNat : Int)) ∧ w = w' :=
  (refrot_any x c w).mono fun _ _ ⟨he, hw⟩ => ⟨by rw [he, show ((c : Int) % 32).toNat = c by omega], hw⟩

theorem const_kT (k : Nat) (hk : k < 64) (w : World) :
    Calls Tryz.prog 194 #[.int .i64 (k : Int)] w fun e w' => e = .returned (.int .u32 ((kT.getD k 0).toNat : Int)) ∧ Below w.heap.size w w' := const_any k hk w

def SchedRel (W0 : List UInt32) (w : World) (v t : Value) (wr : World) : Prop :=
  ∃ k : Nat, k ≤ 48 ∧ t = .int .i64 ((16 + k : Nat) : Int) ∧ wr.ownsRow w.heap.size 258 1 v (16 + k) ((moreW k W0).map vW) ∧ Below w.heap.size w wr

def RoundRel [Inhabited Tab] (s : St) (L : List UInt32) (w : World) (a b c d e f g h i : Value) (wr : World) : Prop :=
  ∃ n : Nat, n ≤ 64 ∧ i = .int .i64 (n : Int) ∧ a = .int .u32 ((St.rounds L n s).a.toNat : Int) ∧ b = .int .u32 ((St.rounds L n s).b.toNat : Int) ∧ c = .int .u32 ((St.rounds L n s).c.toNat : Int) ∧ d = .int .u32 ((St.rounds L n s).d.toNat : Int) ∧
    e = .int .u32 ((St.rounds L n s).e.toNat : Int) ∧ f = .int .u32 ((St.rounds L n s).f.toNat : Int) ∧ g = .int .u32 ((St.rounds L n s).g.toNat : Int) ∧ h = .int .u32 ((St.rounds L n s).h.toNat : Int) ∧ Below w.heap.size w wr

theorem round_next [Inhabited Tab] {s : St} {L : List UInt32} {w wr : World} {n : Nat} {S : St} (hn : n < 64) (HS : Hid (St.rounds L (n + 1) s = S.round (kT.getD n 0) (L.getD n 0))) (hb : Below w.heap.size w wr) :
    RoundRel s L w (.int .u32 ((addW (tW S (kT.getD n 0) (L.getD n 0)) (uW S)).toNat : Int)) (.int .u32 (S.a.toNat : Int)) (.int .u32 (S.b.toNat : Int)) (.int .u32 (S.c.toNat : Int)) (.int .u32 ((addW S.d (tW S (kT.getD n 0) (L.getD n 0))).toNat : Int)) (.int .u32 (S.e.toNat : Int)) (.int .u32 (S.f.toNat : Int)) (.int .u32 (S.g.toNat : Int)) (.int .i64 ((n : Int) + 1)) wr :=
  ⟨n + 1, by omega, rfl, by rw [HS.out]; rfl, by rw [HS.out]; rfl, by rw [HS.out]; rfl, by rw [HS.out]; rfl, by rw [HS.out]; rfl, by rw [HS.out]; rfl, by rw [HS.out]; rfl, by rw [HS.out]; rfl, hb⟩

theorem sched_round {W0 : List UInt32} {w wx w1 : World} {k n : Nat} {g cap : Nat} {v : Value} {y : UInt32} (hk : k < 48) (HK : Hid (n = 16 + k)) (hown : wx.ownsRow w.heap.size 258 1 (.slice (some ⟨g, 0, none⟩) n cap) n ((moreW k W0).map vW)) (hb : Below w.heap.size w wx)
    (HN : Hid (nextW (moreW k W0) = y)) (hown' : w1.ownsRow w.heap.size 258 1 v (n + 1) ((moreW k W0).map vW ++ [.int .u32 (y.toNat : Int)])) (hg : wx.grownBy w1 (Value.ownBlock (.slice (some ⟨g, 0, none⟩) n cap))) :
    SchedRel W0 w v (.int .i64 ((n : Int) + 1)) w1 := by
  have e := HK.out
  refine ⟨k + 1, by omega, by congr 1; omega, ?_, hb.grown hg hb.size (fun x hx => (hown.lt x hx).1)⟩
  rw [show 16 + (k + 1) = n + 1 by omega, moreW, List.map_append, HN.out]
  exact hown'

set_option maxRecDepth 100000 in
set_option maxHeartbeats 2000000 in
theorem refblock_any (s : St) (b : List UInt8) (As A : Option Addr) (cs c : Nat) (w : World) (h64 : b.length = 64) (hs : Rd vW w As s.toL) (hb : Rd vB w A b) :
    Calls Tryz.prog 187 #[.slice As 8 cs, .slice A b.length c] w (RetS vW w (s.block b).toL) := by
  obtain ⟨i0, hi, hz0, hz1, hz2⟩ := info_parts info_u32
  have HB : Hid (∀ W0, W0 = wordsL b → s.block b = s.plus (St.rounds (moreW 48 W0) 64 s)) := by rintro W0 rfl; rfl
  have hwl : (wordsL b).length = 16 := by
    have := congrArg List.length (bytesL_wordsL b)
    rw [bytesL_length, List.length_take, h64] at this
    omega
  have H64 := Lib.hid h64
  clear h64
  go_enter Tryz.func187, Tryz.ntmps187
  go_wp2_with fail
  refine (refwords_own b _ _ _ hb (by have := H64.out; omega)).mono ?_
  rintro e w1 ⟨v1, rfl, hown1, hbel1⟩
  obtain ⟨W0, e⟩ : ∃ W0, W0 = wordsL b := ⟨_, rfl⟩
  have HB' := Lib.hid (HB.out W0 e)
  rw [← e] at hown1 hwl
  rw [hwl] at hown1
  have HW := Lib.hid hwl
  clear HB e hb hwl
  go_wp2_with fail
  go_loopw [5, 6] (fun v t wr => SchedRel W0 w v t wr) (fun _ t _ => 64 - (intOf t).toNat)
  case atStart => exact ⟨0, Nat.zero_le _, rfl, hown1, hbel1⟩
  case round =>
    clear hown1 hbel1
    obtain ⟨k, hk, rfl, hown, hbel⟩ := hrel
    by_cases hlt : k < 48
    · obtain ⟨g, cap, rfl, hbg, hlt'⟩ := hown.form (by omega)
      have hcells := hown.cells (g := g) rfl
      have hll : (moreW k W0).length = 16 + k := by rw [moreW_length, HW.out]
      have hc : ∀ j, j < 16 + k → wr.cell? ⟨g, j, none⟩ = some (.int .u32 (((moreW k W0).getD j 0).toNat : Int)) := fun j hj => by
        have := hcells j (vW ((moreW k W0).getD j 0)) (by simp [List.getD, hll, hj])
        rw [show (⟨g, 0, none⟩ : Addr).add j = ⟨g, j, none⟩ by unfold Addr.add; split <;> simp_all] at this
        exact this
      have HN : Hid (nextW (moreW k W0) = addW (addW (addW (sig1 ((moreW k W0).getD (16 + k - 2) 0)) ((moreW k W0).getD (16 + k - 7) 0)) (sig0 ((moreW k W0).getD (16 + k - 15) 0))) ((moreW k W0).getD (16 + k - 16) 0)) := by unfold Hid nextW; rw [hll]
      obtain ⟨n, hn⟩ : ∃ n, n = 16 + k := ⟨_, rfl⟩
      have HK := Lib.hid hn
      have h15 := hc (16 + k - 15) (by omega)
      have h2 := hc (16 + k - 2) (by omega)
      have h7 := hc (16 + k - 7) (by omega)
      have h16 := hc (16 + k - 16) (by omega)
      have H7 : Hid (((moreW k W0).map vW)[16 + k - 7]? = some (.int .u32 (((moreW k W0).getD (16 + k - 7) 0).toNat : Int))) := by unfold Hid; simp [List.getD, hll, vW, show 16 + k - 7 < 16 + k by omega]
      have H16 : Hid (((moreW k W0).map vW)[16 + k - 16]? = some (.int .u32 (((moreW k W0).getD (16 + k - 16) 0).toNat : Int))) := by unfold Hid; simp [List.getD, hll, vW, show 16 + k - 16 < 16 + k by omega]
      rw [← hn] at h15 h2 h7 h16 HN hown H7 H16 ⊢
      have hn1 : 16 ≤ n := by omega
      have hn2 : n < 64 := by omega
      clear hn hc hcells hll
      generalize (moreW k W0).getD (n - 15) 0 = x15 at h15 HN
      generalize (moreW k W0).getD (n - 2) 0 = x2 at h2 HN
      generalize (moreW k W0).getD (n - 7) 0 = x7 at h7 HN H7
      generalize (moreW k W0).getD (n - 16) 0 = x16 at h16 HN H16
      go_wp2_with fail
      refine (refrot_c x15 7 (by omega) _).mono ?_
      rintro e w' ⟨rfl, rfl⟩
      go_wp2_with fail
      refine (refrot_c x15 18 (by omega) _).mono ?_
      rintro e w' ⟨rfl, rfl⟩
      go_wp2_with fail
      refine (down_any x15 3 (by omega) _).mono ?_
      rintro e w' ⟨rfl, rfl⟩
      go_wp2_with fail
      refine (refrot_c x2 17 (by omega) _).mono ?_
      rintro e w' ⟨rfl, rfl⟩
      go_wp2_with fail
      refine (refrot_c x2 19 (by omega) _).mono ?_
      rintro e w' ⟨rfl, rfl⟩
      go_wp2_with fail
      refine (down_any x2 10 (by omega) _).mono ?_
      rintro e w' ⟨rfl, rfl⟩
      go_wp2_with fail
      have j7 : IntKind.i64.wrap ((n : Int) - 7) = (n : Int) - 7 := by rw [IntKind.wrap_i64]; omega
      have j16 : IntKind.i64.wrap ((n : Int) - 16) = (n : Int) - 16 := by rw [IntKind.wrap_i64]; omega
      have m7 : (7 : Int) ≤ (n : Int) := by omega
      have m16 : (16 : Int) ≤ (n : Int) := by omega
      have k7 : (0 : Int) ≤ (n : Int) - 7 := by omega
      have k16 : (0 : Int) ≤ (n : Int) - 16 := by omega
      have l7 : (n : Int) - 7 < (n : Int) := by omega
      have l16 : (n : Int) - 16 < (n : Int) := by omega
      have t7 : ((n : Int) - 7).toNat = n - 7 := by omega
      have t16 : ((n : Int) - 16).toNat = n - 16 := by omega
      refine wp_region_plan_of (fun W => Below w.heap.size wr W ∧ W.cell? ⟨g, n - 7, none⟩ = some (.int .u32 (x7.toNat : Int)) ∧ W.cell? ⟨g, n - 16, none⟩ = some (.int .u32 (x16.toNat : Int))) (.step 0 false (.step 1 false (.step 2 false (.step 3 false (.step 4 false (.step 5 false (.step 6 false (.step 7 false (.step 8 false (.step 9 false (.step 10 false (.step 11 false (.step 12 false (.step 13 false (.step 14 false (.step 15 false (.step 16 true (.step 17 true (.step 18 false (.nil)))))))))))))))))))) ⟨(Below.refl _ _).drew, h7, h16⟩ (by kernel_rfl) (by kernel_rfl) (by rfl) (by kernel_rfl) ?_
      iterate 16 (refine plan_read rfl (by rfl) (v := ?_) ?_ ?_; rotate_left 1; (intro W hW; (try dsimp only at hW); obtain ⟨hW0, hW1⟩ := hW; go_simp <;> with_reducible rfl); simp only [List.getElem_toArray, List.getElem_cons_zero, List.getElem_cons_succ, Act.put, List.setIfInBounds_toArray, List.set_cons_zero, List.set_cons_succ])
      clear j7 j16 m7 m16 k7 k16 l7 l16 t7 t16
      have hB : w.heap.size ≤ wr.heap.size := hbel.size
      have hgl : g < wr.heap.size := hlt'
      (refine plan_make_of rfl (by rfl) (fun K hK => ?_); go_simp; refine hK.out _ _ ⟨((Below.refl _ wr).alloc hB _).drew, (World.cell?_alloc_lt wr _ ⟨g, n - 7, none⟩ hgl).trans h7, (World.cell?_alloc_lt wr _ ⟨g, n - 16, none⟩ hgl).trans h16⟩ ?_; clear hK K)
      refine plan_make_of rfl (by rfl) (fun K hK => ?_)
      refine wp_append_keep _ (.tmp 58) (.tmp 74) 249 (by rfl) w.heap.size 258 i0 (.int .u32 0) 4 Tryz.underlying249 hi hz0 hz1 hz2 rfl _ n ((moreW k W0).map vW) (by rfl) (hown.alloc _).drew ⟨wr.heap.size, 0, none⟩ 1 1 [.int .u32 ((addW (addW (addW (sig1 x2) x7) (sig0 x15)) x16).toNat : Int)] (by rfl) rfl (cell_one_new _ _ _) (by intro u hu; simp at hu; subst hu; rfl) (by unfold maxLen; omega) (by omega) (by simp; omega) ?_
      intro v' w1 hown' hgrow' hkeep
      simp only [List.getElem_toArray, List.getElem_cons_zero, List.getElem_cons_succ, Act.put, List.setIfInBounds_toArray, List.set_cons_zero, List.set_cons_succ]
      refine hK.out _ _ ⟨(((Below.refl _ wr).alloc hB _).drew).grown hgrow' (by simp; omega) (fun x hx => (hown.lt x hx).1), hkeep g rfl _ _ H7.out, hkeep g rfl _ _ H16.out⟩ ?_
      clear hK K hkeep
      iterate 1 (refine plan_read rfl (by rfl) (v := ?_) ?_ ?_; rotate_left 1; (intro W hW; (try dsimp only at hW); obtain ⟨hW0, hW1⟩ := hW; go_simp <;> with_reducible rfl); simp only [List.getElem_toArray, List.getElem_cons_zero, List.getElem_cons_succ, Act.put, List.setIfInBounds_toArray, List.set_cons_zero, List.set_cons_succ])
      refine plan_done ?_
      have HR := Lib.hid (sched_round hlt HK ((hown.alloc _).drew) ((hbel.alloc hB _).drew) HN hown' hgrow')
      clear hown' hgrow' hown HN H7 H16 h7 h16 h15 h2 hB hgl hlt' hbel
      go_wp2_with fail
      go_roundw
      case rel => exact HR.out
      case measure => simp [intOf]; omega
    · have hk48 : k = 48 := by omega
      subst hk48
      simp only [Nat.reduceAdd, Int.cast_ofNat_Int] at hown ⊢
      obtain ⟨g, cap, rfl, hbg, hgl⟩ := hown.form (by omega)
      have hcells := hown.cells (g := g) rfl
      have hll : (moreW 48 W0).length = 64 := by rw [moreW_length, HW.out]
      obtain ⟨L, eL⟩ : ∃ L, L = moreW 48 W0 := ⟨_, rfl⟩
      rw [← eL] at hcells hll
      have HB2 : Hid (s.block b = s.plus (St.rounds L 64 s)) := by unfold Hid; rw [eL]; exact HB'.out
      have hrow : ∀ n, n < 64 → wr.cell? ⟨g, n, none⟩ = some (.int .u32 ((L.getD n 0).toNat : Int)) := fun j hj => by
        have := hcells j (vW (L.getD j 0)) (by simp [List.getD, hll, hj])
        rw [show (⟨g, 0, none⟩ : Addr).add j = ⟨g, j, none⟩ by unfold Addr.add; split <;> simp_all] at this
        exact this
      have HRow := Lib.hid hrow
      clear hown hcells eL HB' HW hrow hll
      obtain ⟨bs, os, rfl, hcs⟩ := hs (by simp [St.toL])
      have hbs : bs < w.heap.size := World.block_lt_of_cell? w _ (hcs 0 (by simp [St.toL]))
      have st0 : ∀ W, Below w.heap.size w W → W.cell? ⟨bs, os, none⟩ = some (.int .u32 (s.a.toNat : Int)) := fun W hW => (hW.cell (p := ⟨bs, os, none⟩) hbs).trans (hcs 0 (by simp [St.toL]))
      have st1 : ∀ W, Below w.heap.size w W → W.cell? ⟨bs, os + 1, none⟩ = some (.int .u32 (s.b.toNat : Int)) := fun W hW => (hW.cell (p := ⟨bs, os + 1, none⟩) hbs).trans (hcs 1 (by simp [St.toL]))
      have st2 : ∀ W, Below w.heap.size w W → W.cell? ⟨bs, os + 2, none⟩ = some (.int .u32 (s.c.toNat : Int)) := fun W hW => (hW.cell (p := ⟨bs, os + 2, none⟩) hbs).trans (hcs 2 (by simp [St.toL]))
      have st3 : ∀ W, Below w.heap.size w W → W.cell? ⟨bs, os + 3, none⟩ = some (.int .u32 (s.d.toNat : Int)) := fun W hW => (hW.cell (p := ⟨bs, os + 3, none⟩) hbs).trans (hcs 3 (by simp [St.toL]))
      have st4 : ∀ W, Below w.heap.size w W → W.cell? ⟨bs, os + 4, none⟩ = some (.int .u32 (s.e.toNat : Int)) := fun W hW => (hW.cell (p := ⟨bs, os + 4, none⟩) hbs).trans (hcs 4 (by simp [St.toL]))
      have st5 : ∀ W, Below w.heap.size w W → W.cell? ⟨bs, os + 5, none⟩ = some (.int .u32 (s.f.toNat : Int)) := fun W hW => (hW.cell (p := ⟨bs, os + 5, none⟩) hbs).trans (hcs 5 (by simp [St.toL]))
      have st6 : ∀ W, Below w.heap.size w W → W.cell? ⟨bs, os + 6, none⟩ = some (.int .u32 (s.g.toNat : Int)) := fun W hW => (hW.cell (p := ⟨bs, os + 6, none⟩) hbs).trans (hcs 6 (by simp [St.toL]))
      have st7 : ∀ W, Below w.heap.size w W → W.cell? ⟨bs, os + 7, none⟩ = some (.int .u32 (s.h.toNat : Int)) := fun W hW => (hW.cell (p := ⟨bs, os + 7, none⟩) hbs).trans (hcs 7 (by simp [St.toL]))
      clear hcs hs
      go_wp2_with fail
      have hBase : Below w.heap.size w wr.drew := hbel.drew
      refine wp_region_plan (.step 0 false (.step 1 false (.step 2 false (.step 3 false (.step 4 false (.step 5 false (.step 6 false (.step 7 false (.step 8 false (.step 9 false (.step 10 false (.step 11 false (.step 12 false (.step 13 false (.step 14 false (.step 15 false (.nil))))))))))))))))) (by kernel_rfl) (by kernel_rfl) (by rfl) (by kernel_rfl) ?_
      iterate 16 (refine plan_read rfl (by rfl) (v := ?_) ?_ ?_; rotate_left 1; (intro W hW; have hW0 := below_step hBase hW; (try dsimp only at hW); go_simp <;> with_reducible rfl); simp only [List.getElem_toArray, List.getElem_cons_zero, List.getElem_cons_succ, Act.put, List.setIfInBounds_toArray, List.set_cons_zero, List.set_cons_succ])
      refine plan_done ?_
      go_wp2_with fail
      have hBase : Below w.heap.size w wr.drew.drew := hbel.drew.drew
      refine wp_region_plan (.step 0 false (.step 1 false (.step 2 false (.step 3 false (.step 4 false (.step 5 false (.step 6 false (.step 7 false (.step 8 false (.step 9 false (.step 10 false (.step 11 false (.step 12 false (.step 13 false (.step 14 false (.step 15 false (.nil))))))))))))))))) (by kernel_rfl) (by kernel_rfl) (by rfl) (by kernel_rfl) ?_
      iterate 16 (refine plan_read rfl (by rfl) (v := ?_) ?_ ?_; rotate_left 1; (intro W hW; have hW0 := below_step hBase hW; (try dsimp only at hW); go_simp <;> with_reducible rfl); simp only [List.getElem_toArray, List.getElem_cons_zero, List.getElem_cons_succ, Act.put, List.setIfInBounds_toArray, List.set_cons_zero, List.set_cons_succ])
      refine plan_done ?_
      go_wp2_with fail
      have HRow2 : Hid (∀ n, n < 64 → wr.drew.drew.cell? ⟨g, n, none⟩ = some (.int .u32 ((L.getD n 0).toNat : Int))) := HRow.out
      have hgl2 : g < wr.drew.drew.heap.size := hgl
      generalize wr.drew.drew = wx at HRow2 hgl2 hBase
      clear HRow hgl hbel hbg
      have HBx := Lib.hid hBase
      clear hBase
      have HSt := Lib.hid (And.intro st0 (And.intro st1 (And.intro st2 (And.intro st3 (And.intro st4 (And.intro st5 (And.intro st6 st7)))))))
      clear st0 st1 st2 st3 st4 st5 st6 st7
      go_loopw [11, 12, 13, 14, 15, 16, 17, 18, 19] (fun a b c d e f g h i wr => RoundRel s L wx a b c d e f g h i wr) (fun _ _ _ _ _ _ _ _ i _ => 64 - (intOf i).toNat)
      case atStart => exact ⟨0, by omega, rfl, rfl, rfl, rfl, rfl, rfl, rfl, rfl, rfl, Below.refl _ _⟩
      case round =>
        obtain ⟨n, hn, rfl, rfl, rfl, rfl, rfl, rfl, rfl, rfl, rfl, hbr⟩ := hrel
        by_cases hlt : n < 64
        · have hrow : ∀ W, Below wx.heap.size wx W → W.cell? ⟨g, n, none⟩ = some (.int .u32 ((L.getD n 0).toNat : Int)) := fun W hW => (hW.cell (p := ⟨g, n, none⟩) hgl2).trans (HRow2.out n hlt)
          have HS : Hid (St.rounds L (n + 1) s = (St.rounds L n s).round (kT.getD n 0) (L.getD n 0)) := rfl
          generalize St.rounds L n s = S at HS
          have HS2 : Hid (∀ wr, Below wx.heap.size wx wr → RoundRel s L wx (.int .u32 ((addW (tW S (kT.getD n 0) (L.getD n 0)) (uW S)).toNat : Int)) (.int .u32 (S.a.toNat : Int)) (.int .u32 (S.b.toNat : Int)) (.int .u32 (S.c.toNat : Int)) (.int .u32 ((addW S.d (tW S (kT.getD n 0) (L.getD n 0))).toNat : Int)) (.int .u32 (S.e.toNat : Int)) (.int .u32 (S.f.toNat : Int)) (.int .u32 (S.g.toNat : Int)) (.int .i64 ((n : Int) + 1)) wr) := fun wr hb => round_next hlt HS hb
          clear HS
          generalize L.getD n 0 = x at hrow HS2
          have HC := Lib.hid (const_kT n hlt)
          generalize kT.getD n 0 = kc at HC HS2
          obtain ⟨sa, sb, sc, sd, se, sf, sg, sh⟩ := S
          dsimp only at HS2 ⊢
          have i0' : (0 : Int) ≤ (n : Int) := by omega
          have i1' : (n : Int) < 64 := by omega
          go_wp2_with fail
          refine (refrot_c se 6 (by omega) _).mono ?_
          rintro e w' ⟨rfl, rfl⟩
          go_wp2_with fail
          refine (refrot_c se 11 (by omega) _).mono ?_
          rintro e w' ⟨rfl, rfl⟩
          go_wp2_with fail
          refine (refrot_c se 25 (by omega) _).mono ?_
          rintro e w' ⟨rfl, rfl⟩
          go_wp2_with fail
          have hBase : Below wx.heap.size wx wr.drew := hbr.drew
          refine wp_region_plan (.step 0 false (.step 1 false (.step 2 false (.step 3 false (.step 4 false (.step 5 false (.step 8 false (.step 9 false (.step 10 false (.step 11 false (.step 6 true (.step 7 false (.step 12 false (.step 13 false (.nil))))))))))))))) (by kernel_rfl) (by kernel_rfl) (by rfl) (by kernel_rfl) ?_
          iterate 10 (refine plan_read rfl (by rfl) (v := ?_) ?_ ?_; rotate_left 1; (intro W hW; have hW0 := below_step hBase hW; (try dsimp only at hW); go_simp <;> with_reducible rfl); simp only [List.getElem_toArray, List.getElem_cons_zero, List.getElem_cons_succ, Act.put, List.setIfInBounds_toArray, List.set_cons_zero, List.set_cons_succ])
          (refine plan_make rfl (by rfl) (fun K hK => ?_); go_simp; refine (HC.out _).mono ?_; rintro e w' ⟨rfl, hbx⟩; refine hK.out _ _ hbx ?_; clear hK K; replace hBase := below_step hBase hbx)
          iterate 3 (refine plan_read rfl (by rfl) (v := ?_) ?_ ?_; rotate_left 1; (intro W hW; have hW0 := below_step hBase hW; (try dsimp only at hW); go_simp <;> with_reducible rfl); simp only [List.getElem_toArray, List.getElem_cons_zero, List.getElem_cons_succ, Act.put, List.setIfInBounds_toArray, List.set_cons_zero, List.set_cons_succ])
          refine plan_done ?_
          clear hbr hrow
          go_wp2_with fail
          refine (refrot_c sa 2 (by omega) _).mono ?_
          rintro e w' ⟨rfl, rfl⟩
          go_wp2_with fail
          refine (refrot_c sa 13 (by omega) _).mono ?_
          rintro e w' ⟨rfl, rfl⟩
          go_wp2_with fail
          refine (refrot_c sa 22 (by omega) _).mono ?_
          rintro e w' ⟨rfl, rfl⟩
          go_wp2_with fail
          have HR := Lib.hid (HS2.out _ hBase)
          clear HS2
          go_roundw
          case rel => first | exact HR.out | ((repeat apply Exists.intro); exact ⟨HR.out, rfl⟩)
          case measure => simp [intOf]; omega
        · have hn64 : n = 64 := by omega
          subst hn64
          obtain ⟨st0, st1, st2, st3, st4, st5, st6, st7⟩ := HSt.out
          have HE : Hid (s.block b = s.plus (St.rounds L 64 s)) := HB2.out
          generalize St.rounds L 64 s = S at HE
          obtain ⟨sa, sb, sc, sd, se, sf, sg, sh⟩ := S
          dsimp only
          have hB0 := HBx.out
          go_wp2_with fail
          have hBase : Below w.heap.size w wr.drew := (below_step hB0 hbr).drew
          clear hB0
          refine wp_region_plan (.step 0 false (.step 1 false (.step 2 false (.step 3 false (.step 4 false (.step 5 false (.step 6 false (.step 7 false (.step 8 false (.step 9 false (.step 10 false (.step 11 false (.step 12 false (.step 13 false (.step 14 false (.step 15 false (.step 16 false (.step 17 false (.step 18 false (.step 19 false (.step 20 false (.step 21 false (.step 22 false (.step 23 false (.step 24 false (.step 25 false (.step 26 false (.step 27 false (.step 28 false (.step 29 false (.step 30 false (.step 31 false (.step 32 false (.step 33 false (.step 34 false (.step 35 false (.step 36 false (.step 37 false (.step 38 false (.step 39 false (.step 40 true (.step 41 false (.nil))))))))))))))))))))))))))))))))))))))))))) (by kernel_rfl) (by kernel_rfl) (by rfl) (by kernel_rfl) ?_
          iterate 40 (refine plan_read rfl (by rfl) (v := ?_) ?_ ?_; rotate_left 1; (intro W hW; have hW0 := below_step hBase hW; (try dsimp only at hW); go_simp <;> with_reducible rfl); simp only [List.getElem_toArray, List.getElem_cons_zero, List.getElem_cons_succ, Act.put, List.setIfInBounds_toArray, List.set_cons_zero, List.set_cons_succ])
          (refine plan_make rfl (by rfl) (fun K hK => ?_); go_simp; refine hK.out _ _ (below_from_drew (below_new (Below.refl _ wr) _).drew) ?_; clear hK K)
          have hBase : Below w.heap.size w _ := below_new (below_step HBx.out hbr) (.cells #[Value.int IntKind.u32 ((addW s.a sa).toNat : Int), Value.int IntKind.u32 ((addW s.b sb).toNat : Int), Value.int IntKind.u32 ((addW s.c sc).toNat : Int), Value.int IntKind.u32 ((addW s.d sd).toNat : Int), Value.int IntKind.u32 ((addW s.e se).toNat : Int), Value.int IntKind.u32 ((addW s.f sf).toNat : Int), Value.int IntKind.u32 ((addW s.g sg).toNat : Int), Value.int IntKind.u32 ((addW s.h sh).toNat : Int)] 258)
          have hBase := hBase.drew
          clear st0 st1 st2 st3 st4 st5 st6 st7
          iterate 1 (refine plan_read rfl (by rfl) (v := ?_) ?_ ?_; rotate_left 1; (intro W hW; have hW0 := below_step hBase hW; (try dsimp only at hW); go_simp <;> with_reducible rfl); simp only [List.getElem_toArray, List.getElem_cons_zero, List.getElem_cons_succ, Act.put, List.setIfInBounds_toArray, List.set_cons_zero, List.set_cons_succ])
          refine plan_done ?_
          go_wp2_with fail
          go_ret
          rw [HE.out]
          refine ⟨_, 8, rfl, Nat.le_refl _, ?_, hBase⟩
          exact Rd.new (f := vW) wr (St.plus s ⟨sa, sb, sc, sd, se, sf, sg, sh⟩).toL _ _ rfl
end Go.Proofs.YtknjpmoimjhddaaGreatDoor
/-
  What the reference's calls Fill, From and Sum of layer 2 answer: the text filled up, the state behind whole blocks, the hash.
-/
namespace Go.Proofs.YtknjpmoimjhddaaGreatDoor
set_option maxRecDepth 100000
open Go.RowKit
set_option linter.unusedSimpArgs false

def padJ (n : Nat) : Nat := (119 - n % 64) % 64
theorem padJ_end (n : Nat) : (n + 1 + padJ n) % 64 = 56 := by unfold padJ; omega
theorem padJ_not (n j : Nat) (h : j < padJ n) : (n + 1 + j) % 64 ≠ 56 := by unfold padJ at h; omega
theorem padJ_lt (n : Nat) : padJ n < 64 := by unfold padJ; omega

def FillRel (b : List UInt8) (w : World) (v : Value) (wr : World) : Prop :=
  ∃ j : Nat, j ≤ padJ b.length ∧ wr.ownsRow w.heap.size 5 1 v (b.length + 1 + j) ((b ++ 128 :: List.replicate j 0).map vB) ∧ Below w.heap.size w wr

theorem fill_start {b : List UInt8} {w w1 w2 : World} {u v : Value} (ho : w1.ownsRow w.heap.size 5 1 u (0 + b.length) ([] ++ b.map vB)) (hg1 : (w.alloc (.cells #[] 5)).grownBy w1 (some w.heap.size))
    (ho' : w2.ownsRow w.heap.size 5 1 v (0 + b.length + 1) ([] ++ b.map vB ++ [.int .u8 128])) (hg2 : (w1.alloc (.cells #[.int .u8 128] 5)).grownBy w2 u.ownBlock) : FillRel b w v w2 := by
  have hb1 : Below w.heap.size w w1 := (below_new (Below.refl _ w) _).grown hg1 (by simp) (fun k hk => by injection hk with hk; omega)
  refine ⟨0, Nat.zero_le _, ?_, (below_new hb1 _).grown hg2 (by have := hb1.size; simp; omega) (fun k hk => (ho.lt k hk).1)⟩
  simpa [vB] using ho'
theorem fill_round {b : List UInt8} {w wr w1 : World} {j : Nat} {u v : Value} (hj : j < padJ b.length) (ho : wr.ownsRow w.heap.size 5 1 u (b.length + 1 + j) ((b ++ 128 :: List.replicate j 0).map vB)) (hb : Below w.heap.size w wr)
    (ho' : w1.ownsRow w.heap.size 5 1 v (b.length + 1 + j + 1) ((b ++ 128 :: List.replicate j 0).map vB ++ [.int .u8 0])) (hg : (wr.alloc (.cells #[.int .u8 0] 5)).grownBy w1 u.ownBlock) : FillRel b w v w1 := by
  refine ⟨j + 1, by omega, ?_, (below_new hb _).grown hg (by have := hb.size; simp; omega) (fun k hk => (ho.lt k hk).1)⟩
  have e : (b ++ 128 :: List.replicate (j + 1) 0).map vB = (b ++ 128 :: List.replicate j 0).map vB ++ [.int .u8 0] := by
    rw [List.replicate_succ']
    simp [vB]
  rw [e]
  exact ho'

set_option maxHeartbeats 1000000 in
theorem fill_own (b : List UInt8) (many : Nat) (A : Option Addr) (cap : Nat) (w : World) (_hm : many < 18446744073709551616) (hr : Rd vB w A b) (hl : b.length ≤ 70368744177664) :
    Calls Tryz.prog 178 #[.slice A b.length cap, .int .u64 (many : Int)] w (RetO 5 vB w (fillL b many)) := by
  obtain ⟨i0, hi, hz0, hz1, hz2⟩ := info_parts info_u8
  have hown0 : (w.alloc (.cells #[] 5)).ownsRow w.heap.size 5 1 (.slice (some ⟨w.heap.size, 0, none⟩) 0 0) 0 [] := World.ownsRow_made w #[] 0 (Nat.le_refl _) (by unfold maxLen; omega) rfl
  have hr0 : Rd vB (w.alloc (.cells #[] 5)) A b := hr.keep (below_new (Below.refl _ _) _)
  go_enter Tryz.func178, Tryz.ntmps178
  go_wp2_with (first
    | (at_builtin; refine wpList_append_rd _ rfl (.tmp 6) (.tmp 7) 27 rfl w.heap.size 5 i0 (.int .u8 0) 1 Tryz.underlying27 hi hz0 hz1 hz2 rfl _ _ _ rfl hown0 A b cap rfl hr0 vB_one (by unfold maxLen; omega) (by omega) (by simp) ?_; intro v1 w1 hown1 hgrow1)
    | (at_builtin; refine wpList_append_own _ rfl (.tmp 8) (.tmp 9) 27 rfl w.heap.size 5 i0 (.int .u8 0) 1 1 Tryz.underlying27 hi hz0 hz1 hz2 rfl (by decide) _ _ _ rfl (hown1.alloc _) ⟨w1.heap.size, 0, none⟩ 1 1 [.int .u8 128] rfl rfl (cell_one_new _ _ _) (by intro u hu; simp at hu; subst hu; rfl) (by unfold maxLen; omega) (by omega) (by have := hgrow1.size; simp at this ⊢; omega) ?_; intro v2 w2 hown2 hgrow2 _))
  have HS := Lib.hid (fill_start hown1 hgrow1 hown2 hgrow2)
  clear hown1 hgrow1 hown2 hgrow2 hown0 hr0 hr
  go_loopw [5] (fun v wr => FillRel b w v wr) (fun v _ => b.length + 1 + padJ b.length - sliceLen v)
  case atStart => exact HS.out
  case round =>
    clear HS
    obtain ⟨j, hj, hown, hbel⟩ := hrel
    obtain ⟨g, cp, rfl, hbg, hgl⟩ := hown.form (by omega)
    have hpl := padJ_lt b.length
    have HE := Lib.hid (padJ_end b.length)
    have HN := Lib.hid (padJ_not b.length j)
    by_cases hlt : j < padJ b.length
    · have hne : ((((b.length : Int) + 1 + j) % 64) != 56) = true := by
        have := HN.out hlt
        simp
        omega
      go_wp2_with (at_builtin; refine wpList_append_own _ rfl (.tmp 15) (.tmp 16) 27 rfl w.heap.size 5 i0 (.int .u8 0) 1 1 Tryz.underlying27 hi hz0 hz1 hz2 rfl (by decide) _ _ _ rfl (hown.alloc _) ⟨wr.heap.size, 0, none⟩ 1 1 [.int .u8 0] rfl rfl (cell_one_new _ _ _) (by intro u hu; simp at hu; subst hu; rfl) (by unfold maxLen; omega) (by omega) (by have := hbel.size; simp; omega) ?_; intro v2 w2 hown2 hgrow2 _)
      have HR := Lib.hid (fill_round hlt hown hbel hown2 hgrow2)
      obtain ⟨g2, cp2, rfl, _, _⟩ := hown2.form (by omega)
      clear hown2 hgrow2 hown hbel
      go_roundw
      case rel => exact HR.out
      case measure => simp [sliceLen]; omega
    · have hjj : j = padJ b.length := by omega
      subst hjj
      have hne : ((((b.length : Int) + 1 + (padJ b.length : Nat)) % 64) != 56) = false := by
        have := HE.out
        simp
        omega
      obtain ⟨p, hp⟩ : ∃ p, p = 8 * many % 18446744073709551616 := ⟨_, rfl⟩
      have hp1 : IntKind.u64.wrap (8 * (many : Int)) = (p : Int) := by rw [IntKind.wrap_u64, hp]; omega
      have hp2 : 8 * (many : Int) % 18446744073709551616 = (p : Int) := by rw [hp]; omega
      have hpm : p < 18446744073709551616 := by rw [hp]; exact Nat.mod_lt _ (by omega)
      have HF : Hid (fillL b many = (b ++ 128 :: List.replicate (padJ b.length) 0) ++ putL p) := by unfold Hid fillL padJ; rw [hp]
      clear hp HE HN
      go_wp2_with fail
      refine (refput_any p hpm _).mono ?_
      rintro e w3 ⟨A3, cap3, rfl, _, hr3, hb3⟩
      have hown3 := hown.kept (World.grownBy.mk (row := none) hb3.os hb3.tape hb3.output hb3.size (fun k hk _ => hb3.block k hk)) (by simp [Value.ownBlock])
      have hB3 := hbel.trans (hb3.mono hbel.size)
      have h8 : (putL p).length = 8 := rfl
      clear hp1 hp2 hown hbel hb3
      go_wp2_with (at_builtin; refine wpList_append_rd _ rfl (.tmp 18) (.tmp 21) 27 rfl w.heap.size 5 i0 (.int .u8 0) 1 Tryz.underlying27 hi hz0 hz1 hz2 rfl _ _ _ rfl hown3 A3 (putL p) cap3 rfl hr3 vB_one (by unfold maxLen; omega) (by omega) hB3.size ?_; intro v4 w4 hown4 hgrow4)
      go_ret
      rw [HF.out]
      refine ⟨_, rfl, ?_, hB3.grown hgrow4 hB3.size (fun k hk => (hown3.lt k hk).1)⟩
      have e1 : (b ++ 128 :: List.replicate (padJ b.length) 0 ++ putL p).length = b.length + 1 + padJ b.length + (putL p).length := by simp; omega
      rw [e1, List.map_append]
      exact hown4

theorem from_step [Inhabited Tab] (s : St) (b : List UInt8) (h : 64 ≤ b.length) : s.from b = (s.block (b.take 64)).from (b.drop 64) := by
  rw [St.from, if_pos h]
theorem from_stop [Inhabited Tab] (s : St) (b : List UInt8) (h : ¬ 64 ≤ b.length) : s.from b = s := by
  rw [St.from, if_neg h]

theorem refblock_64 (s : St) (b : List UInt8) (As A : Option Addr) (cs c : Nat) (w : World) (H : Hid (b.length = 64)) (hs : Rd vW w As s.toL) (hb : Rd vB w A b) :
    Calls Tryz.prog 187 #[.slice As 8 cs, .slice A 64 c] w (RetS vW w (s.block b).toL) := by
  have := refblock_any s b As A cs c w H.out hs hb
  rwa [H.out] at this

def FromRel (s : St) (b : List UInt8) (w : World) (v i : Value) (wr : World) : Prop :=
  ∃ (q : Nat) (S : St) (A : Option Addr) (c : Nat), 64 * q ≤ b.length ∧ i = .int .i64 ((64 * q : Nat) : Int) ∧ v = .slice A 8 c ∧ 8 ≤ c ∧ Rd vW wr A S.toL ∧ s.from b = S.from (b.drop (64 * q)) ∧ Below w.heap.size w wr

theorem from_ref (s : St) (b : List UInt8) (As A : Option Addr) (cs c : Nat) (w : World) (hs : Rd vW w As s.toL) (hb : Rd vB w A b) (hc8 : 8 ≤ cs) (hc : b.length ≤ c) (hl : b.length ≤ 140737488355328) :
    Calls Tryz.prog 176 #[.slice As 8 cs, .slice A b.length c] w (RetS vW w (s.from b).toL) := by
  go_enter Tryz.func176, Tryz.ntmps176
  go_wp2_with fail
  go_loopw [0, 5] (fun v i wr => FromRel s b w v i wr) (fun _ i _ => b.length - (intOf i).toNat)
  case atStart => exact ⟨0, s, As, cs, Nat.zero_le _, rfl, rfl, hc8, hs, rfl, Below.refl _ _⟩
  case round =>
    obtain ⟨q, S, A1, c1, hq, rfl, rfl, h81, hrS, hfr, hbel⟩ := hrel
    have HF := Lib.hid hfr
    clear hfr
    by_cases hlt : 64 * q + 63 < b.length
    · obtain ⟨blk, o, rfl, hblk, _⟩ := hb.at hlt
      have hmid := (hb.keep hbel).mid (64 * q) (64 * q + 64) c hc
      have hlm : ((b.drop (64 * q)).take (64 * q + 64 - 64 * q)).length = 64 := by simp; omega
      have HS := Lib.hid (from_step S (b.drop (64 * q)) (by simp; omega))
      rw [if_neg (by omega), show 64 * q + 64 - 64 * q = 64 by omega] at hmid
      rw [show 64 * q + 64 - 64 * q = 64 by omega] at hlm
      obtain ⟨j, hj⟩ : ∃ j, j = 64 * q := ⟨_, rfl⟩
      have HJ := Lib.hid hj
      rw [← hj] at hmid hlm HS HF hlt ⊢
      obtain ⟨M, hM⟩ : ∃ M, M = (b.drop j).take 64 := ⟨_, rfl⟩
      rw [← hM] at hmid hlm HS
      have HL := Lib.hid hlm
      clear hj hM hlm
      have i1 : (0 : Int) ≤ (j : Int) := by omega
      have i2 : (j : Int) + 64 ≤ (c : Int) := by omega
      have i3 : ¬ c = j := by omega
      have e1 : (some (⟨blk, o, none⟩ : Addr)).map (·.add (j * 1)) = some ⟨blk, o + j, none⟩ := by
        simp only [Option.map_some, Nat.mul_one, Addr.add]
        split <;> simp_all
      rw [e1] at hmid
      clear e1
      go_wp2_with fail
      refine (refblock_64 S M _ _ _ _ _ HL hrS hmid).mono ?_
      rintro e w2 ⟨A2, c2, rfl, h82, hr2, hb2⟩
      have HR : Hid (FromRel s b w (.slice A2 8 c2) (.int .i64 ((j : Int) + 64)) w2) := by
        have ej := HJ.out
        refine ⟨q + 1, S.block M, A2, c2, by omega, by congr 1; omega, rfl, h82, hr2, ?_, hbel.trans (hb2.mono hbel.size)⟩
        rw [HF.out, HS.out, List.drop_drop, show 64 * (q + 1) = j + 64 by omega]
      clear hr2 hb2 hmid hrS hbel HF HS
      go_wp2_with fail
      go_roundw
      case rel => exact HR.out
      case measure => simp [intOf]; omega
    · have HE : Hid (s.from b = S) := by
        unfold Hid
        rw [HF.out]
        exact from_stop S _ (by simp; omega)
      go_wp2_with fail
      go_ret
      rw [HE.out]
      exact ⟨A1, c1, rfl, h81, hrS, hbel⟩
theorem fillL_length (b : List UInt8) (many : Nat) : (fillL b many).length ≤ b.length + 72 := by
  have := padJ_lt b.length
  have e : (fillL b many).length = b.length + (1 + padJ b.length) + 8 := by
    unfold fillL
    rw [List.length_append, List.length_append, List.length_cons, List.length_replicate]
    show b.length + (padJ b.length + 1) + 8 = _
    omega
  omega
theorem fill_ref (b : List UInt8) (many : Nat) (A : Option Addr) (cap : Nat) (w : World) (hm : many < 18446744073709551616) (hr : Rd vB w A b) (hl : b.length ≤ 70368744177664) :
    Calls Tryz.prog 178 #[.slice A b.length cap, .int .u64 (many : Int)] w (RetS vB w (fillL b many)) := (fill_own b many A cap w hm hr hl).mono fun _ _ h => h.ret

theorem sum_ref (b : List UInt8) (A : Option Addr) (c : Nat) (w : World) (hb : Rd vB w A b) (hl : b.length ≤ 70368744177664) :
    Calls Tryz.prog 147 #[.slice A b.length c] w (RetS vB w (sumL b)) := by
  have hfl := fillL_length b b.length
  go_enter Tryz.func147, Tryz.ntmps147
  go_wp2_with fail
  refine (first_any _).mono ?_
  rintro e w1 ⟨A1, c1, rfl, h1, hr1, hb1⟩
  go_wp2_with fail
  refine (fill_ref b b.length _ _ _ (by omega) (hb.keep hb1) hl).mono ?_
  rintro e w2 ⟨A2, c2, rfl, h2, hr2, hb2⟩
  go_wp2_with fail
  refine (from_ref startSt (fillL b b.length) _ _ _ _ _ (hr1.keep hb2) hr2 h1 h2 (by omega)).mono ?_
  rintro e w3 ⟨A3, c3, rfl, h3, hr3, hb3⟩
  go_wp2_with fail
  refine (refbytes_any (startSt.from (fillL b b.length)).toL _ _ _ hr3 (by simp [St.toL])).mono ?_
  rintro e w4 ⟨A4, c4, rfl, h4, hr4, hb4⟩
  go_wp2_with fail
  go_ret
  exact ⟨A4, c4, rfl, h4, hr4, below_step (below_step (below_step hb1 hb2) hb3) hb4⟩

end Go.Proofs.YtknjpmoimjhddaaGreatDoor
/-
  What the small calls of the statements of layer 2 answer: words of a state, whether a state is some words, a number of four bytes, the bytes of words.
-/
namespace Go.Proofs.YtknjpmoimjhddaaGreatDoor
set_option maxRecDepth 100000
open Go.RowKit
set_option linter.unusedSimpArgs false

/-- A state as an array. -/
def St.cells (s : St) : Array Value := #[.int .u32 (s.a.toNat : Int), .int .u32 (s.b.toNat : Int), .int .u32 (s.c.toNat : Int), .int .u32 (s.d.toNat : Int), .int .u32 (s.e.toNat : Int), .int .u32 (s.f.toNat : Int), .int .u32 (s.g.toNat : Int), .int .u32 (s.h.toNat : Int)]
theorem St.cells_eq (s : St) : s.cells = (s.toL.map vW).toArray := rfl

def WordsOfRel (s : St) (w w0 : World) (v i : Value) (wr : World) : Prop :=
  ∃ k : Nat, k ≤ 8 ∧ i = .int .i64 (k : Int) ∧ wr.ownsRow (w.heap.size + 1) 258 1 v k ((s.toL.take k).map vW) ∧ Below (w.heap.size + 1) w0 wr

theorem words_round8 {s : St} {w w0 wr w1 : World} {k : Nat} {u v : Value} {o : Obj} {x : UInt32} (hk : k < 8) (hx : Hid (s.toL.take (k + 1) = s.toL.take k ++ [x])) (ho : wr.ownsRow (w.heap.size + 1) 258 1 u k ((s.toL.take k).map vW)) (hb : Below (w.heap.size + 1) w0 wr) (hz : w.heap.size + 1 ≤ wr.heap.size)
    (ho' : w1.ownsRow (w.heap.size + 1) 258 1 v (k + 1) ((s.toL.take k).map vW ++ [.int .u32 (x.toNat : Int)])) (hg : (wr.alloc o).grownBy w1 u.ownBlock) : WordsOfRel s w w0 v (.int .i64 ((k : Int) + 1)) w1 :=
  ⟨k + 1, by omega, by go_num, by rw [hx.out]; simpa [vW] using ho', (hb.alloc hz o).grown hg (by simp; omega) (fun g hk => (ho.lt g hk).1)⟩

theorem or4 (a b c d : Nat) (ha : a < 256) (hb : b < 256) (hc : c < 256) (hd : d < 256) :
    bits .or .u32 (bits .or .u32 (bits .or .u32 ((a : Int) * 16777216) ((b : Int) * 65536)) ((c : Int) * 256)) (d : Int) = ((((a * 256 + b) * 256 + c) * 256 + d : Nat) : Int) := by
  have e1 : bits .or .u32 ((a : Int) * 16777216) ((b : Int) * 65536) = ((2 ^ 16 * (a * 256 + b) : Nat) : Int) := by
    rw [show (a : Int) * 16777216 = ((2 ^ 24 * a : Nat) : Int) by omega, show (b : Int) * 65536 = ((b * 65536 : Nat) : Int) by omega, u32_or_nat _ _ (by omega) (by omega), ← Nat.two_pow_add_eq_or_of_lt (by omega)]
    omega
  have e2 : bits .or .u32 ((2 ^ 16 * (a * 256 + b) : Nat) : Int) ((c : Int) * 256) = ((2 ^ 8 * ((a * 256 + b) * 256 + c) : Nat) : Int) := by
    rw [show (c : Int) * 256 = ((c * 256 : Nat) : Int) by omega, u32_or_nat _ _ (by omega) (by omega), ← Nat.two_pow_add_eq_or_of_lt (by omega)]
    omega
  rw [e1, e2, u32_or_nat _ _ (by omega) (by omega), ← Nat.two_pow_add_eq_or_of_lt (by omega)]
  omega

theorem bytes_round_at {L : List UInt32} {w wr wx w1 : World} {k : Nat} {x : UInt32} {u v : Value} (hk : k < L.length) (ho : wr.ownsRow w.heap.size 5 1 u (bytesL (L.take k)).length ((bytesL (L.take k)).map vB))
    (hb : Below w.heap.size w wx) (HT : Hid (bytesL (L.take (k + 1)) = bytesL (L.take k) ++ bytesW x)) (hg : wx.grownBy w1 u.ownBlock)
    (ho' : w1.ownsRow w.heap.size 5 1 v ((bytesL (L.take k)).length + 4) ((bytesL (L.take k)).map vB ++ [Value.int .u8 ((x.toNat : Int) / 16777216), Value.int .u8 ((x.toNat : Int) / 65536 % 256), Value.int .u8 ((x.toNat : Int) / 256 % 256), Value.int .u8 ((x.toNat : Int) % 256)])) :
    BytesRel L w v (.int .i64 ((k : Int) + 1)) w1 :=
  ⟨k + 1, by omega, by go_num, by rw [HT.out]; rw [bytesW_cells, ← List.map_append] at ho'; simpa [bytesW] using ho', hb.grown hg hb.size (fun k hk => (ho.lt k hk).1)⟩

end Go.Proofs.YtknjpmoimjhddaaGreatDoor
/-
  What the small calls of the program's layer 2 answer: words turned, mixed, chosen; the state at first. No conditions but those typed.
-/
namespace Go.Proofs.YtknjpmoimjhddaaGreatDoor
set_option maxRecDepth 100000
open Go.RowKit
set_option linter.unusedSimpArgs false

theorem ch_xor (e f g : UInt32) : xorW (andW e f) (andW (notW e) g) = chW e f g := by
  unfold chW xorW andW notW orW
  apply UInt32.toBitVec_inj.1
  apply BitVec.eq_of_getLsbD_eq
  intro i hi
  simp only [UInt32.toBitVec_xor, UInt32.toBitVec_and, UInt32.toBitVec_not, UInt32.toBitVec_or, BitVec.getLsbD_xor, BitVec.getLsbD_and, BitVec.getLsbD_or, BitVec.getLsbD_not, hi, decide_true, Bool.true_and]
  cases e.toBitVec.getLsbD i <;> simp
theorem maj_xor (a b c : UInt32) : xorW (xorW (andW a b) (andW a c)) (andW b c) = majW a b c := by
  unfold majW xorW andW orW
  apply UInt32.toBitVec_inj.1
  apply BitVec.eq_of_getLsbD_eq
  intro i hi
  simp only [UInt32.toBitVec_xor, UInt32.toBitVec_and, UInt32.toBitVec_or, BitVec.getLsbD_xor, BitVec.getLsbD_and, BitVec.getLsbD_or]
  cases a.toBitVec.getLsbD i <;> cases b.toBitVec.getLsbD i <;> simp

theorem not_xor (x : UInt32) : xorW 4294967295 x = notW x := by
  unfold xorW notW
  apply UInt32.toBitVec_inj.1
  apply BitVec.eq_of_getLsbD_eq
  intro i hi
  have h1 : (4294967295 : UInt32).toBitVec = BitVec.allOnes 32 := rfl
  simp only [UInt32.toBitVec_xor, UInt32.toBitVec_not, h1, BitVec.getLsbD_xor, BitVec.getLsbD_not, BitVec.getLsbD_allOnes, hi, decide_true, Bool.true_and, Bool.true_xor]
theorem u32_not_x (x : UInt32) : bits .xor .u32 IntKind.u32.max (x.toNat : Int) = ((notW x).toNat : Int) := by
  have := u32_xor_w 4294967295 x
  rw [not_xor] at this
  exact this

theorem rot_c (x : UInt32) (c : Nat) (hc : c < 32) (w : World) :
    Calls Tryz.prog 239 #[.int .u32 (x.toNat : Int), .int .i64 (c : Int)] w fun e w' => e = .returned (.int .u32 ((rotR x c).toNat : Int)) ∧ w = w' :=
  (rot_any x c w).mono fun _ _ ⟨he, hw⟩ => ⟨by rw [he, show ((c : Int) % 32).toNat = c by omega], hw⟩

section
attribute [local go_sem] u32_xor_w u32_and_w u32_or_w u32_add_w u32_add_m u32_not_w u32_not_ww u32_not_x u32_mod_w u32_wrap_w

theorem turned_any (x : UInt32) (i j k : Nat) (hi : i < 32) (hj : j < 32) (hk : k < 32) (w : World) :
    Calls Tryz.prog 234 #[.int .u32 (x.toNat : Int), .int .i64 (i : Int), .int .i64 (j : Int), .int .i64 (k : Int)] w fun e w' => e = .returned (.int .u32 ((xorW (xorW (rotR x i) (rotR x j)) (rotR x k)).toNat : Int)) ∧ w = w' := by
  go_enter Tryz.func234, Tryz.ntmps234
  go_wp2_with fail
  refine (rot_c x i hi _).mono ?_
  rintro e w' ⟨rfl, rfl⟩
  go_wp2_with fail
  refine (rot_c x j hj _).mono ?_
  rintro e w' ⟨rfl, rfl⟩
  go_wp2_with fail
  refine (rot_c x k hk _).mono ?_
  rintro e w' ⟨rfl, rfl⟩
  go_wp2_with fail
  go_ret
  exact ⟨rfl, rfl⟩

theorem mixed_any (x : UInt32) (i j k : Nat) (hi : i < 32) (hj : j < 32) (hk : k < 32) (w : World) :
    Calls Tryz.prog 238 #[.int .u32 (x.toNat : Int), .int .i64 (i : Int), .int .i64 (j : Int), .int .u64 (k : Int)] w fun e w' => e = .returned (.int .u32 ((xorW (xorW (rotR x i) (rotR x j)) (dn x k)).toNat : Int)) ∧ w = w' := by
  have hd : (x.toNat : Int) / 2 ^ k = ((dn x k).toNat : Int) := by rw [dn_toNat, Int.natCast_ediv, Int.natCast_pow]; rfl
  go_enter Tryz.func238, Tryz.ntmps238
  go_wp2_with fail
  refine (rot_c x i hi _).mono ?_
  rintro e w' ⟨rfl, rfl⟩
  go_wp2_with fail
  refine (rot_c x j hj _).mono ?_
  rintro e w' ⟨rfl, rfl⟩
  go_wp2_with fail
  go_ret
  exact ⟨rfl, rfl⟩

theorem choice_any (x y z : UInt32) (w : World) :
    Calls Tryz.prog 235 #[.int .u32 (x.toNat : Int), .int .u32 (y.toNat : Int), .int .u32 (z.toNat : Int)] w fun e w' => e = .returned (.int .u32 ((chW x y z).toNat : Int)) ∧ w = w' := by
  have H := Lib.hid (ch_xor x y z)
  go_enter Tryz.func235, Tryz.ntmps235
  go_wp2_with fail
  go_ret
  rw [← H.out]
  exact ⟨rfl, rfl⟩

theorem majority_any (x y z : UInt32) (w : World) :
    Calls Tryz.prog 236 #[.int .u32 (x.toNat : Int), .int .u32 (y.toNat : Int), .int .u32 (z.toNat : Int)] w fun e w' => e = .returned (.int .u32 ((majW x y z).toNat : Int)) ∧ w = w' := by
  have H := Lib.hid (maj_xor x y z)
  go_enter Tryz.func236, Tryz.ntmps236
  go_wp2_with fail
  go_ret
  rw [← H.out]
  exact ⟨rfl, rfl⟩
end
end Go.Proofs.YtknjpmoimjhddaaGreatDoor
/-
  What the program's call spread of layer 2 answers: a block's sixteen words, and 48 more. No conditions but those typed.
-/
namespace Go.Proofs.YtknjpmoimjhddaaGreatDoor
set_option maxRecDepth 100000
open Go.RowKit
set_option linter.unusedSimpArgs false

theorem words_64 (b : List UInt8) (A : Option Addr) (c : Nat) (w : World) (H : Hid (b.length = 64)) (hr : Rd vB w A b) (hc : 64 ≤ c) : Calls Tryz.prog 237 #[.slice A 64 c] w (RetS vW w (wordsL b)) := by
  have h := H.out
  have := words_any b A c w hr (by omega) (by omega)
  rwa [h] at this
theorem wordsL_64 (b : List UInt8) (h : b.length = 64) : (wordsL b).length = 16 := by
  have := congrArg List.length (bytesL_wordsL b)
  rw [bytesL_length, List.length_take, h] at this
  omega

/-- The words that are there, and as many zeros as are still to come. -/
def schedL (W0 : List UInt32) (k : Nat) : List UInt32 := moreW k W0 ++ List.replicate (48 - k) 0
theorem schedL_length (W0 : List UInt32) (k : Nat) (h : W0.length = 16) (hk : k ≤ 48) : (schedL W0 k).length = 64 := by
  rw [schedL, List.length_append, moreW_length, List.length_replicate]
  omega
theorem schedL_next (W0 : List UInt32) (k : Nat) (h : W0.length = 16) (hk : k < 48) : (schedL W0 k).set (16 + k) (nextW (moreW k W0)) = schedL W0 (k + 1) := by
  have e : (moreW k W0).length = 16 + k := by rw [moreW_length, h]
  unfold schedL
  rw [List.set_append_right _ _ (by omega), e, Nat.sub_self, moreW, show 48 - k = (48 - (k + 1)) + 1 by omega, List.replicate_succ, List.set_cons_zero]
  simp
theorem schedL_at (W0 : List UInt32) (k j : Nat) (h : W0.length = 16) (hj : j < 16 + k) : ((schedL W0 k).map vW)[j]? = some (.int .u32 (((moreW k W0).getD j 0).toNat : Int)) := by
  have e : (moreW k W0).length = 16 + k := by rw [moreW_length, h]
  rw [schedL, List.map_append, List.getElem?_append_left (by simp; omega)]
  simp [List.getD, e, hj, vW]
theorem schedL_zero (W0 : List UInt32) : schedL W0 0 = W0 ++ List.replicate 48 0 := rfl
theorem schedL_end (W0 : List UInt32) : schedL W0 48 = moreW 48 W0 := by simp [schedL]

def SpreadRel (W0 : List UInt32) (w : World) (i : Value) (wr : World) : Prop :=
  ∃ k : Nat, k ≤ 48 ∧ i = .int .i64 ((16 + k : Nat) : Int) ∧ Row wr (w.heap.size + 1) 290 ((schedL W0 k).map vW) ∧ Row wr w.heap.size 290 (List.replicate 64 (.int .u32 0)) ∧ Below w.heap.size w wr

/-- What a round reads. -/
def SprS (g n : Nat) (x2 x7 x15 x16 : UInt32) (W : World) : Prop :=
  W.cell? ⟨g, n - 2, none⟩ = some (.int .u32 (x2.toNat : Int)) ∧ W.cell? ⟨g, n - 7, none⟩ = some (.int .u32 (x7.toNat : Int)) ∧ W.cell? ⟨g, n - 15, none⟩ = some (.int .u32 (x15.toNat : Int)) ∧ W.cell? ⟨g, n - 16, none⟩ = some (.int .u32 (x16.toNat : Int))

theorem SprS.set {g n : Nat} {x2 x7 x15 x16 : UInt32} {w : World} (hn : 16 ≤ n) (h : SprS g n x2 x7 x15 x16 w) (v : Value) : SprS g n x2 x7 x15 x16 (w.setCell ⟨g, n, none⟩ v) := by
  obtain ⟨h1, h2, h3, h4⟩ := h
  have e : ∀ j, j < n → (w.setCell ⟨g, n, none⟩ v).cell? ⟨g, j, none⟩ = w.cell? ⟨g, j, none⟩ := fun j hj => World.cell?_setCell_other _ _ _ _ (by intro e; injection e with _ e2 _; omega)
  exact ⟨(e _ (by omega)).trans h1, (e _ (by omega)).trans h2, (e _ (by omega)).trans h3, (e _ (by omega)).trans h4⟩
theorem spread_round {W0 : List UInt32} {w wr : World} {k n : Nat} {y : UInt32} (hk : k < 48) (HK : Hid (n = 16 + k)) (HX : Hid ((schedL W0 k).set n y = schedL W0 (k + 1))) (hR1 : Row wr (w.heap.size + 1) 290 ((schedL W0 k).map vW))
    (hR0 : Row wr w.heap.size 290 (List.replicate 64 (.int .u32 0))) (hB : Below w.heap.size w wr) : SpreadRel W0 w (.int .i64 ((n : Int) + 1)) (wr.setCell ⟨w.heap.size + 1, n, none⟩ (.int .u32 (y.toNat : Int))) := by
  have e := HK.out
  refine ⟨k + 1, by omega, by congr 1; omega, ?_, hR0.setCell_other (by simp) _, hB.setCell (by simp) _⟩
  rw [← HX.out, List.map_set]
  exact hR1.setCell n _

section
attribute [local go_sem] u32_add_w u32_add_m u32_mod_w u32_wrap_w
set_option maxRecDepth 100000 in
set_option maxHeartbeats 600000 in
theorem spread_any (b : List UInt8) (A : Option Addr) (c : Nat) (w : World) (HL : Hid (b.length = 64)) (hr : Rd vB w A b) (hc : 64 ≤ c) :
    Calls Tryz.prog 233 #[.slice A 64 c] w fun e w' => e = .returned (.agg ((moreW 48 (wordsL b)).map vW).toArray) ∧ Below w.heap.size w w' := by
  have H16 := Lib.hid (wordsL_64 b HL.out)
  go_enter Tryz.func233, Tryz.ntmps233
  go_wp2_with fail
  refine at_world (Q := Code.wp _ _ _ _) (fun W => Row W w.heap.size 290 (List.replicate 64 (.int .u32 0)) ∧ Row W (w.heap.size + 1) 290 (List.replicate 64 (.int .u32 0)) ∧ Below w.heap.size w W)
    ⟨(Row.new w _ _ _ rfl).alloc _, Row.new_at _ _ (by simp) _ _ _ rfl, below_new (below_new (Below.refl _ _) _) _⟩ ?_
  rintro W ⟨hR0, hR1, hB⟩
  have hrW := hr.keep hB
  clear hr
  refine wp_region_plan_at w.heap.size (.step 0 false (.step 1 false (.step 2 true (.step 3 true (.nil))))) (by kernel_rfl) (by kernel_rfl) (by rfl) (by kernel_rfl) ?_
  have hBase : Below w.heap.size W W.drew := (Below.refl _ _).drew
  iterate 2 (refine plan_read rfl (by rfl) (v := ?_) ?_ ?_; rotate_left 1; (intro W hW; have hW0 := Below.trans hBase hW; (try dsimp only at hW); go_simp <;> with_reducible rfl); simp only [List.getElem_toArray, List.getElem_cons_zero, List.getElem_cons_succ, Act.put, List.setIfInBounds_toArray, List.set_cons_zero, List.set_cons_succ])
  refine plan_make_at rfl (by rfl) (fun K hK => ?_)
  go_simp
  refine (words_64 b _ _ _ HL (by exact hrW) hc).mono ?_
  rintro e w1 ⟨A1, c1, rfl, hc1, hr1, hb1⟩
  refine hK.out _ _ (hb1.mono hB.size) ?_
  clear hK K
  replace hR0 := hR0.drew.later hb1
  replace hR1 := hR1.drew.later hb1
  replace hB := below_step hB.drew hb1
  clear hb1 hrW hBase W
  obtain ⟨W0, e⟩ : ∃ W0, W0 = wordsL b := ⟨_, rfl⟩
  have HE : Hid (wordsL b = W0) := e.symm
  rw [← e] at H16 hr1 hc1 ⊢
  clear e
  refine plan_make_at rfl (by rfl) (fun K hK => ?_)
  refine wp_copy_row (.tmp 5) (.tmp 7) 249 249 (by rfl) 258 Tryz.underlying249 (by kernel_rfl) (w.heap.size + 1) 0 64 64 A1 W0 c1 (by rfl) (by rfl) _ _ hR1 hr1 vW_one (by have := H16.out; omega) (by have := H16.out; simp; omega) ?_
  simp only [List.getElem_toArray, List.getElem_cons_zero, List.getElem_cons_succ, Act.put, List.setIfInBounds_toArray, List.set_cons_zero, List.set_cons_succ]
  refine hK.out _ _ (below_setRow (Below.refl _ _) (by omega) _) ?_
  clear hK K
  refine plan_done ?_
  refine at_world (Q := _) (fun W => Row W w.heap.size 290 (List.replicate 64 (.int .u32 0)) ∧ Row W (w.heap.size + 1) 290 ((schedL W0 0).map vW) ∧ Below w.heap.size w W)
    ⟨hR0.setRow_other (by omega) _, ?_, below_setRow hB (by omega) _⟩ ?_
  · have e : (List.replicate 64 (Value.int .u32 0)).take 0 ++ W0.map vW ++ (List.replicate 64 (Value.int .u32 0)).drop (0 + W0.length) = (schedL W0 0).map vW := by
      rw [H16.out, schedL_zero, List.map_append, List.map_replicate]
      rfl
    rw [e]
    exact hR1.setRow _
  clear hR0 hR1 hB hr1
  rintro W ⟨hR0, hR1, hB⟩
  go_wp2_with fail
  go_loopw [4] (fun i wr => SpreadRel W0 w i wr) (fun i _ => 64 - (intOf i).toNat)
  case atStart => exact ⟨0, by omega, rfl, hR1, hR0, hB⟩
  case round =>
    clear hR0 hR1 hB
    obtain ⟨k, hk, rfl, hR1, hR0, hB⟩ := hrel
    by_cases hlt : k < 48
    · have h16 := H16.out
      have HN : Hid (nextW (moreW k W0) = addW (addW (addW (sig1 ((moreW k W0).getD (16 + k - 2) 0)) ((moreW k W0).getD (16 + k - 7) 0)) (sig0 ((moreW k W0).getD (16 + k - 15) 0))) ((moreW k W0).getD (16 + k - 16) 0)) := by unfold Hid nextW; rw [moreW_length, h16]
      have h15 := hR1.cell (schedL_at W0 k (16 + k - 15) h16 (by omega))
      have h2 := hR1.cell (schedL_at W0 k (16 + k - 2) h16 (by omega))
      have h7 := hR1.cell (schedL_at W0 k (16 + k - 7) h16 (by omega))
      have hh16 := hR1.cell (schedL_at W0 k (16 + k - 16) h16 (by omega))
      have HX : Hid ((schedL W0 k).set (16 + k) (nextW (moreW k W0)) = schedL W0 (k + 1)) := schedL_next W0 k h16 hlt
      have HLn : Hid ((schedL W0 k).length = 64) := schedL_length W0 k h16 hk
      rw [HN.out] at HX
      obtain ⟨n, hn⟩ : ∃ n, n = 16 + k := ⟨_, rfl⟩
      have HK := Lib.hid hn
      rw [← hn] at h15 h2 h7 hh16 HX ⊢
      have hn1 : 16 ≤ n := by omega
      have hn2 : n < 64 := by omega
      clear hn h16 HN
      generalize (moreW k W0).getD (n - 15) 0 = x15 at h15 HX
      generalize (moreW k W0).getD (n - 2) 0 = x2 at h2 HX
      generalize (moreW k W0).getD (n - 7) 0 = x7 at h7 HX
      generalize (moreW k W0).getD (n - 16) 0 = x16 at hh16 HX
      have HS1 : Hid (sig1 x2 = xorW (xorW (rotR x2 17) (rotR x2 19)) (dn x2 10)) := rfl
      have HS0 : Hid (sig0 x15 = xorW (xorW (rotR x15 7) (rotR x15 18)) (dn x15 3)) := rfl
      have hcn : wr.cell? ⟨w.heap.size + 1, n, none⟩ = some (((schedL W0 k).map vW).getD n undef) := hR1.cell (by have := HLn.out; simp [List.getD, this, hn2])
      have hfz : wr.frozen? ⟨w.heap.size + 1, n, none⟩ = false := hR1.frozen n
      have j2 : IntKind.i64.wrap ((n : Int) - 2) = (n : Int) - 2 := by rw [IntKind.wrap_i64]; omega
      have j7 : IntKind.i64.wrap ((n : Int) - 7) = (n : Int) - 7 := by rw [IntKind.wrap_i64]; omega
      have j15 : IntKind.i64.wrap ((n : Int) - 15) = (n : Int) - 15 := by rw [IntKind.wrap_i64]; omega
      have j16 : IntKind.i64.wrap ((n : Int) - 16) = (n : Int) - 16 := by rw [IntKind.wrap_i64]; omega
      have m2 : (2 : Int) ≤ (n : Int) := by omega
      have m7 : (7 : Int) ≤ (n : Int) := by omega
      have m15 : (15 : Int) ≤ (n : Int) := by omega
      have m16 : (16 : Int) ≤ (n : Int) := by omega
      have k2 : (0 : Int) ≤ (n : Int) - 2 := by omega
      have k7 : (0 : Int) ≤ (n : Int) - 7 := by omega
      have k15 : (0 : Int) ≤ (n : Int) - 15 := by omega
      have k16 : (0 : Int) ≤ (n : Int) - 16 := by omega
      have l0 : (n : Int) < 64 := by omega
      have l2 : (n : Int) - 2 < 64 := by omega
      have l7 : (n : Int) - 7 < 64 := by omega
      have l15 : (n : Int) - 15 < 64 := by omega
      have l16 : (n : Int) - 16 < 64 := by omega
      have t2 : ((n : Int) - 2).toNat = n - 2 := by omega
      have t7 : ((n : Int) - 7).toNat = n - 7 := by omega
      have t15 : ((n : Int) - 15).toNat = n - 15 := by omega
      have t16 : ((n : Int) - 16).toNat = n - 16 := by omega
      have p0 : (0 : Int) ≤ (n : Int) := by omega
      have hS : SprS (w.heap.size + 1) n x2 x7 x15 x16 wr.drew := ⟨h2, h7, h15, hh16⟩
      clear h2 h7 h15 hh16
      go_wp2_with fail
      refine wp_region_plan_of (SprS (w.heap.size + 1) n x2 x7 x15 x16) (.step 0 false (.step 1 false (.step 2 false (.step 3 false (.step 4 false (.step 6 false (.step 7 false (.step 8 false (.step 9 false (.step 11 false (.step 12 false (.step 13 false (.step 14 false (.step 17 false (.step 18 false (.step 19 false (.step 20 false (.step 5 true (.step 10 false (.step 15 true (.step 16 false (.step 21 false (.step 22 false (.step 23 true (.nil))))))))))))))))))))))))) hS (by kernel_rfl) (by kernel_rfl) (by rfl) (by kernel_rfl) ?_
      iterate 17 (refine plan_read rfl (by rfl) (v := ?_) ?_ ?_; rotate_left 1; (intro W hW; (try dsimp only at hW); obtain ⟨hW0, hW1⟩ := hW; go_simp <;> with_reducible rfl); simp only [List.getElem_toArray, List.getElem_cons_zero, List.getElem_cons_succ, Act.put, List.setIfInBounds_toArray, List.set_cons_zero, List.set_cons_succ])
      (refine plan_make_of rfl (by rfl) (fun K hK => ?_); go_simp; (refine (mixed_any x2 17 19 10 (by omega) (by omega) (by omega) _).mono ?_; rintro e w' ⟨rfl, rfl⟩); refine hK.out _ _ hS ?_; clear hK K)
      iterate 1 (refine plan_read rfl (by rfl) (v := ?_) ?_ ?_; rotate_left 1; (intro W hW; (try dsimp only at hW); obtain ⟨hW0, hW1⟩ := hW; go_simp <;> with_reducible rfl); simp only [List.getElem_toArray, List.getElem_cons_zero, List.getElem_cons_succ, Act.put, List.setIfInBounds_toArray, List.set_cons_zero, List.set_cons_succ])
      (refine plan_make_of rfl (by rfl) (fun K hK => ?_); go_simp; (refine (mixed_any x15 7 18 3 (by omega) (by omega) (by omega) _).mono ?_; rintro e w' ⟨rfl, rfl⟩); refine hK.out _ _ hS ?_; clear hK K)
      iterate 3 (refine plan_read rfl (by rfl) (v := ?_) ?_ ?_; rotate_left 1; (intro W hW; (try dsimp only at hW); obtain ⟨hW0, hW1⟩ := hW; go_simp <;> with_reducible rfl); simp only [List.getElem_toArray, List.getElem_cons_zero, List.getElem_cons_succ, Act.put, List.setIfInBounds_toArray, List.set_cons_zero, List.set_cons_succ])
      clear j2 j7 j15 j16 m2 m7 m15 m16 k2 k7 k15 k16 l2 l7 l15 l16 t2 t7 t15 t16
      refine plan_make_of rfl (by rfl) (fun K hK => ?_)
      go_simp
      refine hK.out _ _ (hS.set hn1 _) ?_
      clear hK K hcn hfz
      refine plan_done ?_
      refine at_world (Q := _) (fun W => SpreadRel W0 w (.int .i64 ((n : Int) + 1)) W) (spread_round hlt HK HX hR1.drew hR0.drew hB.drew) ?_
      intro W HR
      replace HR := Lib.hid HR
      clear hR1 hR0 hB hS HX
      go_wp2_with fail
      go_roundw
      case rel => exact HR.out
      case measure => simp [intOf]; omega
    · have hk48 : k = 48 := by omega
      subst hk48
      have h64 : (moreW 48 W0).length = 64 := by rw [moreW_length, H16.out]
      have HR : Hid (moreW 48 (wordsL b) = moreW 48 W0) := by unfold Hid; rw [HE.out]
      rw [schedL_end] at hR1
      generalize moreW 48 W0 = L at hR1 h64 HR
      have H64 := Lib.hid h64
      have hmo := map_one vW_one L
      have HMO := Lib.hid hmo
      clear h64 hmo
      go_wp2_with (first
        | (with_reducible refine wpList_load_part rfl 290 (.tmp 3) rfl (w.heap.size + 1) 0 rfl _ _ hR1 (L.map vW) List.take_length _ Tryz.underlying290 rfl (by rw [List.length_map, H64.out]; kernel_rfl) ?_)
        | (with_reducible refine wpList_store_row rfl 290 (.tmp 2) (.tmp 36) rfl w.heap.size rfl (L.map vW) rfl _ _ hR0 (by rw [List.length_map, H64.out]; kernel_rfl) (by simp [H64.out]) HMO.out ?_))
      refine bodyPost_ret (results_cell_row (p := 2) (ty := 290) rfl _ _ w.heap.size 290 (L.map vW).toArray (0, 0) _ rfl (hR0.setRow _) Tryz.underlying290 rfl (by rw [List.size_toArray, List.length_map, H64.out]; kernel_rfl)) rfl ⟨by rw [HR.out], below_setRow hB (Nat.le_refl _) _⟩
end
end Go.Proofs.YtknjpmoimjhddaaGreatDoor
/-
  What the program's call behind of layer 2 answers: the state behind a block of 64 bytes. Condition: the package's table holds the sixty-four constants.
-/
namespace Go.Proofs.YtknjpmoimjhddaaGreatDoor
set_option maxRecDepth 100000
open Go.RowKit
set_option linter.unusedSimpArgs false

/-- The package's table. -/
def KTab [Inhabited Tab] (w : World) : Prop := ∀ i, i < 64 → w.cell? ⟨1, i, none⟩ = some (.int .u32 ((kT.getD i 0).toNat : Int))
theorem KTab.keep [Inhabited Tab] {w w' : World} (h : KTab w) (hb : Below w.heap.size w w') : KTab w' := fun i hi => by
  rw [hb.cell (p := ⟨1, i, none⟩) (World.block_lt_of_cell? w _ (h i hi))]
  exact h i hi
theorem KTab.drew [Inhabited Tab] {w : World} (h : KTab w) : KTab w.drew := h
theorem KTab.lt [Inhabited Tab] {w : World} (h : KTab w) : 1 < w.heap.size := World.block_lt_of_cell? w _ (h 0 (by omega))
def kcS (n : Nat) (kc : UInt32) (W : World) : Prop := W.cell? ⟨1, n, none⟩ = some (.int .u32 (kc.toNat : Int)) ∧ True

theorem run_index_agg {P : Program} (w : World) (t e : TypeId) (n : Nat) (cs : Array Value) (i : Nat) (v : Value) (ht : P.underlying t = some (.array n e)) (hz : (sizeOf e).run P w = .ok 1 w) (ha : (isAgg e).run P w = .ok false w) (hi : i < n) (hc : cs[i]? = some v) :
    (Instr.index t (.agg cs) (.int .i64 (i : Int))).run P w = .ok v w := by
  have h1 : (0 : Int) ≤ (i : Int) ∧ (i : Int) < (n : Int) := by omega
  simp [Instr.index, asIntOf, Sem.run_bind, run_underlying ht, h1, hz, part, ha, hc]
  omega

theorem size_st : (Tryz.prog.info? 282).map (·.size) = some 8 := by kernel_rfl
theorem one_st (a b c d e f g h : UInt32) : ∀ v ∈ [Value.int .u32 (a.toNat : Int), .int .u32 (b.toNat : Int), .int .u32 (c.toNat : Int), .int .u32 (d.toNat : Int), .int .u32 (e.toNat : Int), .int .u32 (f.toNat : Int), .int .u32 (g.toNat : Int), .int .u32 (h.toNat : Int)], v.oneCell' = true := map_one vW_one [a, b, c, d, e, f, g, h]

/-- A call that hands back a state. -/
def RetSt (w : World) (s : St) (e : Ending) (w' : World) : Prop := ∃ S : St, Hid (S = s) ∧ e = .returned (.agg #[.int .u32 (S.a.toNat : Int), .int .u32 (S.b.toNat : Int), .int .u32 (S.c.toNat : Int), .int .u32 (S.d.toNat : Int), .int .u32 (S.e.toNat : Int), .int .u32 (S.f.toNat : Int), .int .u32 (S.g.toNat : Int), .int .u32 (S.h.toNat : Int)]) ∧ Below w.heap.size w w'

section
attribute [local go_sem] u32_add_w u32_add_m u32_mod_w u32_wrap_w
set_option maxRecDepth 100000 in
set_option maxHeartbeats 1000000 in
theorem behind_any [Inhabited Tab] (s : St) (b : List UInt8) (A : Option Addr) (c : Nat) (w : World) (HL : Hid (b.length = 64)) (hr : Rd vB w A b) (hc : 64 ≤ c) (HK : Hid (KTab w)) :
    Calls Tryz.prog 232 #[.agg #[.int .u32 (s.a.toNat : Int), .int .u32 (s.b.toNat : Int), .int .u32 (s.c.toNat : Int), .int .u32 (s.d.toNat : Int), .int .u32 (s.e.toNat : Int), .int .u32 (s.f.toNat : Int), .int .u32 (s.g.toNat : Int), .int .u32 (s.h.toNat : Int)], .slice A 64 c] w (RetSt w (s.block b)) := by
  have HB : Hid (s.block b = s.plus (St.rounds (moreW 48 (wordsL b)) 64 s)) := rfl
  have h64 : (moreW 48 (wordsL b)).length = 64 := by rw [moreW_length, wordsL_64 b HL.out]
  go_enter Tryz.func232, Tryz.ntmps232
  go_wp2_with fail
  refine at_world (Q := Code.wp _ _ _ _) (fun W => Row W w.heap.size 282 [.int .u32 (s.a.toNat : Int), .int .u32 (s.b.toNat : Int), .int .u32 (s.c.toNat : Int), .int .u32 (s.d.toNat : Int), .int .u32 (s.e.toNat : Int), .int .u32 (s.f.toNat : Int), .int .u32 (s.g.toNat : Int), .int .u32 (s.h.toNat : Int)] ∧ Row W (w.heap.size + 1) 282 (List.replicate 8 (.int .u32 0)) ∧ Below w.heap.size w W)
    ⟨(Row.new w _ _ _ rfl).alloc _, Row.new_at _ _ (by simp) _ _ _ rfl, below_new (below_new (Below.refl _ _) _) _⟩ ?_
  rintro W ⟨hR0, hR1, hB⟩
  have st0 : ∀ W', Below W.heap.size W W' → W'.cell? ⟨w.heap.size, 0, none⟩ = some (.int .u32 (s.a.toNat : Int)) := fun W' h => (hR0.later h).cell rfl
  have st1 : ∀ W', Below W.heap.size W W' → W'.cell? ⟨w.heap.size, 1, none⟩ = some (.int .u32 (s.b.toNat : Int)) := fun W' h => (hR0.later h).cell rfl
  have st2 : ∀ W', Below W.heap.size W W' → W'.cell? ⟨w.heap.size, 2, none⟩ = some (.int .u32 (s.c.toNat : Int)) := fun W' h => (hR0.later h).cell rfl
  have st3 : ∀ W', Below W.heap.size W W' → W'.cell? ⟨w.heap.size, 3, none⟩ = some (.int .u32 (s.d.toNat : Int)) := fun W' h => (hR0.later h).cell rfl
  have hBase : Below W.heap.size W W.drew := (Below.refl _ _).drew
  refine wp_region_plan (.step 0 false (.step 1 false (.step 2 false (.step 3 false (.step 4 false (.step 5 false (.step 6 false (.step 7 false (.step 8 false (.step 9 false (.step 10 false (.step 11 false (.nil))))))))))))) (by kernel_rfl) (by kernel_rfl) (by rfl) (by kernel_rfl) ?_
  iterate 12 (refine plan_read rfl (by rfl) (v := ?_) ?_ ?_; rotate_left 1; (intro W hW; have hW0 := below_step hBase hW; (try dsimp only at hW); go_simp <;> with_reducible rfl); simp only [List.getElem_toArray, List.getElem_cons_zero, List.getElem_cons_succ, Act.put, List.setIfInBounds_toArray, List.set_cons_zero, List.set_cons_succ])
  refine plan_done ?_
  clear st0 st1 st2 st3 hBase
  go_wp2_with fail
  have st4 : ∀ W', Below W.heap.size W W' → W'.cell? ⟨w.heap.size, 4, none⟩ = some (.int .u32 (s.e.toNat : Int)) := fun W' h => (hR0.later h).cell rfl
  have st5 : ∀ W', Below W.heap.size W W' → W'.cell? ⟨w.heap.size, 5, none⟩ = some (.int .u32 (s.f.toNat : Int)) := fun W' h => (hR0.later h).cell rfl
  have st6 : ∀ W', Below W.heap.size W W' → W'.cell? ⟨w.heap.size, 6, none⟩ = some (.int .u32 (s.g.toNat : Int)) := fun W' h => (hR0.later h).cell rfl
  have st7 : ∀ W', Below W.heap.size W W' → W'.cell? ⟨w.heap.size, 7, none⟩ = some (.int .u32 (s.h.toNat : Int)) := fun W' h => (hR0.later h).cell rfl
  have hBase : Below W.heap.size W W.drew.drew := (Below.refl _ _).drew.drew
  refine wp_region_plan (.step 0 false (.step 1 false (.step 2 false (.step 3 false (.step 4 false (.step 5 false (.step 6 false (.step 7 false (.step 8 false (.step 9 false (.step 10 false (.step 11 false (.nil))))))))))))) (by kernel_rfl) (by kernel_rfl) (by rfl) (by kernel_rfl) ?_
  iterate 12 (refine plan_read rfl (by rfl) (v := ?_) ?_ ?_; rotate_left 1; (intro W hW; have hW0 := below_step hBase hW; (try dsimp only at hW); go_simp <;> with_reducible rfl); simp only [List.getElem_toArray, List.getElem_cons_zero, List.getElem_cons_succ, Act.put, List.setIfInBounds_toArray, List.set_cons_zero, List.set_cons_succ])
  refine plan_done ?_
  clear st4 st5 st6 st7 hBase
  go_wp2_with fail
  refine (spread_any b _ _ _ HL (by exact hr.keep hB.drew.drew) hc).mono ?_
  rintro e wx ⟨rfl, hbx⟩
  replace hR0 := hR0.drew.drew.later hbx
  replace hR1 := hR1.drew.drew.later hbx
  replace hB := below_step hB.drew.drew hbx
  have HKx := Lib.hid (HK.out.keep hB)
  generalize moreW 48 (wordsL b) = L at h64 HB
  have H64 := Lib.hid h64
  clear hbx h64 hr HK W
  go_wp2_with fail
  go_loopw [5, 6, 7, 8, 9, 10, 11, 12, 35] (fun a b c d e f g h i wr => RoundRel s L wx a b c d e f g h i wr) (fun _ _ _ _ _ _ _ _ i _ => 64 - (intOf i).toNat)
  case atStart => exact ⟨0, by omega, rfl, rfl, rfl, rfl, rfl, rfl, rfl, rfl, rfl, Below.refl _ _⟩
  case round =>
    obtain ⟨n, hn, rfl, rfl, rfl, rfl, rfl, rfl, rfl, rfl, rfl, hbr⟩ := hrel
    by_cases hlt : n < 64
    · have hkc : kcS n (kT.getD n 0) wr.drew := ⟨(HKx.out.keep hbr) n hlt, trivial⟩
      have HS : Hid (St.rounds L (n + 1) s = (St.rounds L n s).round (kT.getD n 0) (L.getD n 0)) := rfl
      generalize St.rounds L n s = S at HS
      have HS2 : Hid (∀ wr, Below wx.heap.size wx wr → RoundRel s L wx (.int .u32 ((addW (tW S (kT.getD n 0) (L.getD n 0)) (uW S)).toNat : Int)) (.int .u32 (S.a.toNat : Int)) (.int .u32 (S.b.toNat : Int)) (.int .u32 (S.c.toNat : Int)) (.int .u32 ((addW S.d (tW S (kT.getD n 0) (L.getD n 0))).toNat : Int)) (.int .u32 (S.e.toNat : Int)) (.int .u32 (S.f.toNat : Int)) (.int .u32 (S.g.toNat : Int)) (.int .i64 ((n : Int) + 1)) wr) := fun wr hb => round_next hlt HS hb
      clear HS
      generalize kT.getD n 0 = kc at hkc HS2
      have hix : ∀ W, (Instr.index 290 (.agg (L.map vW).toArray) (.int .i64 (n : Int))).run Tryz.prog W = .ok (.int .u32 ((L.getD n 0).toNat : Int)) W := fun W => run_index_agg W _ 258 64 _ n _ Tryz.underlying290 (by kernel_rfl) (by kernel_rfl) hlt (by have := H64.out; simp [List.getD, this, hlt, vW])
      generalize L.getD n 0 = x at hix HS2
      obtain ⟨sa, sb, sc, sd, se, sf, sg, sh⟩ := S
      dsimp only at HS2 ⊢
      have i0' : (0 : Int) ≤ (n : Int) := by omega
      have i1' : (n : Int) < 64 := by omega
      have hS := hkc
      clear hkc
      go_wp2_with fail
      refine wp_region_plan_of (kcS n kc) (.step 0 false (.step 1 false (.step 4 false (.step 5 false (.step 6 false (.step 9 false (.step 10 false (.step 11 false (.step 13 false (.step 2 true (.step 3 false (.step 7 true (.step 8 false (.step 12 false (.step 14 false (.step 15 false (.nil))))))))))))))))) hS (by kernel_rfl) (by kernel_rfl) (by rfl) (by kernel_rfl) ?_
      iterate 9 (refine plan_read rfl (by rfl) (v := ?_) ?_ ?_; rotate_left 1; (intro W hW; (try dsimp only at hW); obtain ⟨hW0, hW1⟩ := hW; go_simp <;> with_reducible rfl); simp only [List.getElem_toArray, List.getElem_cons_zero, List.getElem_cons_succ, Act.put, List.setIfInBounds_toArray, List.set_cons_zero, List.set_cons_succ])
      (refine plan_make_of rfl (by rfl) (fun K hK => ?_); go_simp; (refine (turned_any se 6 11 25 (by omega) (by omega) (by omega) _).mono ?_; rintro e w' ⟨rfl, rfl⟩); refine hK.out _ _ hS ?_; clear hK K)
      iterate 1 (refine plan_read rfl (by rfl) (v := ?_) ?_ ?_; rotate_left 1; (intro W hW; (try dsimp only at hW); obtain ⟨hW0, hW1⟩ := hW; go_simp <;> with_reducible rfl); simp only [List.getElem_toArray, List.getElem_cons_zero, List.getElem_cons_succ, Act.put, List.setIfInBounds_toArray, List.set_cons_zero, List.set_cons_succ])
      (refine plan_make_of rfl (by rfl) (fun K hK => ?_); go_simp; (refine (choice_any se sf sg _).mono ?_; rintro e w' ⟨rfl, rfl⟩); refine hK.out _ _ hS ?_; clear hK K)
      iterate 4 (refine plan_read rfl (by rfl) (v := ?_) ?_ ?_; rotate_left 1; (intro W hW; (try dsimp only at hW); obtain ⟨hW0, hW1⟩ := hW; go_simp <;> with_reducible rfl); simp only [List.getElem_toArray, List.getElem_cons_zero, List.getElem_cons_succ, Act.put, List.setIfInBounds_toArray, List.set_cons_zero, List.set_cons_succ])
      refine plan_done ?_
      clear hS hix
      go_wp2_with fail
      refine (turned_any sa 2 13 22 (by omega) (by omega) (by omega) _).mono ?_
      rintro e w' ⟨rfl, rfl⟩
      go_wp2_with fail
      refine (majority_any sa sb sc _).mono ?_
      rintro e w' ⟨rfl, rfl⟩
      have HR := Lib.hid (HS2.out _ hbr.drew)
      clear HS2 hbr
      go_wp2_with fail
      go_roundw
      case rel => first | exact HR.out | ((repeat apply Exists.intro); exact ⟨HR.out, rfl⟩)
      case measure => simp [intOf]; omega
    · have hn64 : n = 64 := by omega
      subst hn64
      have HE : Hid (s.block b = s.plus (St.rounds L 64 s)) := HB.out
      generalize St.rounds L 64 s = S at HE
      obtain ⟨sa, sb, sc, sd, se, sf, sg, sh⟩ := S
      dsimp only
      replace hR0 := hR0.later hbr
      replace hR1 := hR1.later hbr
      replace hB := below_step hB hbr
      have c0 : wr.cell? ⟨w.heap.size, 0, none⟩ = some (.int .u32 (s.a.toNat : Int)) := hR0.cell rfl
      have c1 : wr.cell? ⟨w.heap.size, 1, none⟩ = some (.int .u32 (s.b.toNat : Int)) := hR0.cell rfl
      have c2 : wr.cell? ⟨w.heap.size, 2, none⟩ = some (.int .u32 (s.c.toNat : Int)) := hR0.cell rfl
      have c3 : wr.cell? ⟨w.heap.size, 3, none⟩ = some (.int .u32 (s.d.toNat : Int)) := hR0.cell rfl
      have c4 : wr.cell? ⟨w.heap.size, 4, none⟩ = some (.int .u32 (s.e.toNat : Int)) := hR0.cell rfl
      have c5 : wr.cell? ⟨w.heap.size, 5, none⟩ = some (.int .u32 (s.f.toNat : Int)) := hR0.cell rfl
      have c6 : wr.cell? ⟨w.heap.size, 6, none⟩ = some (.int .u32 (s.g.toNat : Int)) := hR0.cell rfl
      have c7 : wr.cell? ⟨w.heap.size, 7, none⟩ = some (.int .u32 (s.h.toNat : Int)) := hR0.cell rfl
      clear hbr
      go_wp2_with (refine wpList_store_row rfl 282 (.tmp 4) (.tmp 106) rfl (w.heap.size + 1) rfl [.int .u32 ((addW s.a sa).toNat : Int), .int .u32 ((addW s.b sb).toNat : Int), .int .u32 ((addW s.c sc).toNat : Int), .int .u32 ((addW s.d sd).toNat : Int), .int .u32 ((addW s.e se).toNat : Int), .int .u32 ((addW s.f sf).toNat : Int), .int .u32 ((addW s.g sg).toNat : Int), .int .u32 ((addW s.h sh).toNat : Int)] rfl _ _ hR1 (by exact size_st) (by exact List.length_replicate) (by exact one_st _ _ _ _ _ _ _ _) ?_)
      refine bodyPost_ret (results_cell_row (p := 4) (ty := 282) (by rfl) _ _ (w.heap.size + 1) 282 _ (0, 0) _ (by rfl) (by exact hR1.setRow _) Tryz.underlying282 (by rfl) (by exact size_st)) (by rfl) ?_
      exact ⟨St.plus s ⟨sa, sb, sc, sd, se, sf, sg, sh⟩, HE.out.symm, rfl, below_setRow hB (by omega) _⟩
end
end Go.Proofs.YtknjpmoimjhddaaGreatDoor
/-
  What the program's calls Start, Block and wholeBlocks of layer 2 answer. Condition: the package's table holds the sixty-four constants.
-/
namespace Go.Proofs.YtknjpmoimjhddaaGreatDoor
set_option maxRecDepth 100000
open Go.RowKit
set_option linter.unusedSimpArgs false

/-- What is left of a text behind its whole blocks. -/
def restL (b : List UInt8) : List UInt8 := b.drop (b.length / 64 * 64)
theorem restL_length (b : List UInt8) : (restL b).length = b.length % 64 := by rw [restL, List.length_drop]; omega
theorem restL_short (b : List UInt8) (h : b.length < 64) : restL b = b := by rw [restL, show b.length / 64 * 64 = 0 by omega]; rfl
theorem restL_step (b : List UInt8) (h : 64 ≤ b.length) : restL b = restL (b.drop 64) := by
  rw [restL, restL, List.drop_drop, List.length_drop, show 64 + (b.length - 64) / 64 * 64 = b.length / 64 * 64 by omega]

theorem start_any (w : World) : Calls Tryz.prog 229 #[] w fun e w' => ∃ S : St, Hid (S = startSt) ∧ e = .returned (.agg #[.int .u32 (S.a.toNat : Int), .int .u32 (S.b.toNat : Int), .int .u32 (S.c.toNat : Int), .int .u32 (S.d.toNat : Int), .int .u32 (S.e.toNat : Int), .int .u32 (S.f.toNat : Int), .int .u32 (S.g.toNat : Int), .int .u32 (S.h.toNat : Int), .slice none 0 0, .int .u64 0]) ∧ Below w.heap.size w w' := by
  go_enter Tryz.func229, Tryz.ntmps229
  go_wp2_with fail
  refine bodyPost_ret (results_cell_row (p := 0) (ty := 286) (by rfl) _ _ w.heap.size 286 _ (0, 0) _ (by rfl) (by exact Row.new w _ _ _ rfl) Tryz.underlying286 (by rfl) (by kernel_rfl)) (by rfl) ?_
  exact ⟨startSt, rfl, rfl, below_new (Below.refl _ _) _⟩

def BlocksRel [Inhabited Tab] (s : St) (b : List UInt8) (A0 : Option Addr) (w : World) (v : Value) (wr : World) : Prop :=
  ∃ (S : St) (M : List UInt8) (A : Option Addr) (c : Nat), v = .slice A M.length c ∧ M.length ≤ c ∧ M.length ≤ b.length ∧ (∀ W, Rd vB W A0 b → Rd vB W A M) ∧ s.from b = S.from M ∧ restL b = restL M ∧
    Row wr w.heap.size 282 [.int .u32 (S.a.toNat : Int), .int .u32 (S.b.toNat : Int), .int .u32 (S.c.toNat : Int), .int .u32 (S.d.toNat : Int), .int .u32 (S.e.toNat : Int), .int .u32 (S.f.toNat : Int), .int .u32 (S.g.toNat : Int), .int .u32 (S.h.toNat : Int)] ∧ Row wr (w.heap.size + 1) 282 (List.replicate 8 (.int .u32 0)) ∧ Below w.heap.size w wr

set_option maxHeartbeats 1000000 in
theorem wholeBlocks_any [Inhabited Tab] (s : St) (b : List UInt8) (A : Option Addr) (c : Nat) (w : World) (hr : Rd vB w A b) (hc : b.length ≤ c) (hl : b.length ≤ 9223372036854775807) (HK : Hid (KTab w)) :
    Calls Tryz.prog 228 #[.agg #[.int .u32 (s.a.toNat : Int), .int .u32 (s.b.toNat : Int), .int .u32 (s.c.toNat : Int), .int .u32 (s.d.toNat : Int), .int .u32 (s.e.toNat : Int), .int .u32 (s.f.toNat : Int), .int .u32 (s.g.toNat : Int), .int .u32 (s.h.toNat : Int)], .slice A b.length c] w fun e w' => ∃ (S : St) (A' : Option Addr) (c' : Nat), Hid (S = s.from b) ∧ e = .returned (.tuple #[.agg #[.int .u32 (S.a.toNat : Int), .int .u32 (S.b.toNat : Int), .int .u32 (S.c.toNat : Int), .int .u32 (S.d.toNat : Int), .int .u32 (S.e.toNat : Int), .int .u32 (S.f.toNat : Int), .int .u32 (S.g.toNat : Int), .int .u32 (S.h.toNat : Int)], .slice A' (restL b).length c']) ∧ (restL b).length ≤ c' ∧ (∀ W, Rd vB W A b → Rd vB W A' (restL b)) ∧ Below w.heap.size w w' := by
  go_enter Tryz.func228, Tryz.ntmps228
  go_wp2_with fail
  refine at_world (Q := Code.wp _ _ _ _) (fun W => Row W w.heap.size 282 [.int .u32 (s.a.toNat : Int), .int .u32 (s.b.toNat : Int), .int .u32 (s.c.toNat : Int), .int .u32 (s.d.toNat : Int), .int .u32 (s.e.toNat : Int), .int .u32 (s.f.toNat : Int), .int .u32 (s.g.toNat : Int), .int .u32 (s.h.toNat : Int)] ∧ Row W (w.heap.size + 1) 282 (List.replicate 8 (.int .u32 0)) ∧ Below w.heap.size w W)
    ⟨(Row.new w _ _ _ rfl).alloc _, Row.new_at _ _ (by simp) _ _ _ rfl, below_new (below_new (Below.refl _ _) _) _⟩ ?_
  rintro W ⟨hR0, hR1, hB⟩
  go_loopw [1] (fun v wr => BlocksRel s b A w v wr) (fun v _ => sliceLen v)
  case atStart => exact ⟨s, b, A, c, rfl, hc, Nat.le_refl _, fun _ h => h, rfl, rfl, hR0, hR1, hB⟩
  case round =>
    clear hR0 hR1 hB hc
    obtain ⟨S, M, A1, c1, rfl, hc1, hMl, hall, hfr, hrs, hR0, hR1, hB⟩ := hrel
    have HA := Lib.hid hall
    have hr1 := hall w hr
    clear hall
    have HF := Lib.hid hfr
    have HR := Lib.hid hrs
    clear hfr hrs
    by_cases h64 : 64 ≤ M.length
    · obtain ⟨blk, o, rfl, hb, _⟩ := hr1.at (k := 0) (by omega)
      have hr64 : Rd vB w (some ⟨blk, o, none⟩) (M.take 64) := hr1.take 64
      have HL : Hid ((M.take 64).length = 64) := by unfold Hid; rw [List.length_take]; omega
      have hrd : Hid (∀ W, Rd vB W A b → Rd vB W (if c1 = 64 then some ⟨blk, o, none⟩ else some ⟨blk, o + 64, none⟩) (M.drop 64)) := fun W h => by
        have := (HA.out W h).drop 64 c1 hc1
        simpa [Addr.add] using this
      have HF2 : Hid (s.from b = (S.block (M.take 64)).from (M.drop 64)) := by unfold Hid; rw [HF.out]; exact from_step S M h64
      have HR2 : Hid (restL b = restL (M.drop 64)) := by unfold Hid; rw [HR.out]; exact restL_step M h64
      have hmd : (M.drop 64).length = M.length - 64 := List.length_drop
      obtain ⟨D, hD⟩ : ∃ D, D = M.drop 64 := ⟨_, rfl⟩
      rw [← hD] at hrd HF2 HR2 hmd
      have HD := Lib.hid hmd
      generalize M.take 64 = T at hr64 HL HF2
      clear hD hmd hr1 HF HR HA
      have hc64 : 64 ≤ c1 := by omega
      have hc64' : (64 : Int) ≤ (c1 : Int) := by omega
      go_wp2_with fail
      refine wp_region_plan_of (fun _ => True) (.step 1 false (.step 2 false (.step 0 true (.step 3 true (.step 4 true (.nil)))))) trivial (by kernel_rfl) (by kernel_rfl) (by rfl) (by kernel_rfl) ?_
      iterate 2 (refine plan_read rfl (by rfl) (v := ?_) ?_ ?_; rotate_left 1; (intro W hW; go_simp <;> with_reducible rfl); simp only [List.getElem_toArray, List.getElem_cons_zero, List.getElem_cons_succ, Act.put, List.setIfInBounds_toArray, List.set_cons_zero, List.set_cons_succ])
      refine plan_make_of rfl (by rfl) (fun K hK => ?_)
      refine wp_load_mid 282 (.tmp 2) (by rfl) w.heap.size 0 (by rfl) [.int .u32 (S.a.toNat : Int), .int .u32 (S.b.toNat : Int), .int .u32 (S.c.toNat : Int), .int .u32 (S.d.toNat : Int), .int .u32 (S.e.toNat : Int), .int .u32 (S.f.toNat : Int), .int .u32 (S.g.toNat : Int), .int .u32 (S.h.toNat : Int)] _ hR0.drew.range Tryz.underlying282 (by rfl) (by exact size_st) ?_
      simp only [List.getElem_toArray, List.getElem_cons_zero, List.getElem_cons_succ, Act.put, List.setIfInBounds_toArray, List.set_cons_zero, List.set_cons_succ]
      refine hK.out _ _ trivial ?_
      clear hK K
      refine plan_make_of rfl (by rfl) (fun K hK => ?_)
      go_simp
      refine (behind_any S T _ _ _ HL (by exact hr64.keep hB.drew) hc64 (by exact Lib.hid (HK.out.keep hB.drew))).mono ?_
      rintro e w1 ⟨S1, HS1, rfl, hb1⟩
      refine hK.out _ _ trivial ?_
      clear hK K
      replace hR0 := hR0.drew.later hb1
      replace hR1 := hR1.drew.later hb1
      replace hB := below_step hB.drew hb1
      clear hb1
      refine plan_make_of rfl (by rfl) (fun K hK => ?_)
      refine hR0.wp_store 282 (.tmp 2) (.tmp 12) (by rfl) (by rfl) [.int .u32 (S1.a.toNat : Int), .int .u32 (S1.b.toNat : Int), .int .u32 (S1.c.toNat : Int), .int .u32 (S1.d.toNat : Int), .int .u32 (S1.e.toNat : Int), .int .u32 (S1.f.toNat : Int), .int .u32 (S1.g.toNat : Int), .int .u32 (S1.h.toNat : Int)] (by rfl) (by exact size_st) (by rfl) (by exact one_st _ _ _ _ _ _ _ _) ?_
      simp only [List.getElem_toArray, List.getElem_cons_zero, List.getElem_cons_succ, Act.put, List.setIfInBounds_toArray, List.set_cons_zero, List.set_cons_succ]
      refine hK.out _ _ trivial ?_
      clear hK K
      refine plan_done ?_
      refine at_world (Q := _) (fun W => Row W w.heap.size 282 [.int .u32 (S1.a.toNat : Int), .int .u32 (S1.b.toNat : Int), .int .u32 (S1.c.toNat : Int), .int .u32 (S1.d.toNat : Int), .int .u32 (S1.e.toNat : Int), .int .u32 (S1.f.toNat : Int), .int .u32 (S1.g.toNat : Int), .int .u32 (S1.h.toNat : Int)] ∧ Row W (w.heap.size + 1) 282 (List.replicate 8 (.int .u32 0)) ∧ Below w.heap.size w W)
        ⟨hR0.setRow _, hR1.setRow_other (by omega) _, below_setRow hB (Nat.le_refl _) _⟩ ?_
      clear hR0 hR1 hB
      rintro W2 ⟨hR0, hR1, hB⟩
      have HRel : Hid (BlocksRel s b A w (.slice (if c1 = 64 then some ⟨blk, o, none⟩ else some ⟨blk, o + 64, none⟩) (M.length - 64) (c1 - 64)) W2) := by
        have e := HD.out
        refine ⟨S1, D, _, c1 - 64, by rw [e], by omega, by omega, hrd.out, ?_, HR2.out, hR0, hR1, hB⟩
        rw [HS1.out]
        exact HF2.out
      clear hrd HF2 HR2 hR0 hR1 hB HS1 HD HL hr64
      go_wp2_with fail
      go_roundw
      case rel => exact HRel.out
      case measure => simp [sliceLen]; omega
    · have HF2 : Hid (S = s.from b) := by unfold Hid; rw [HF.out]; exact (from_stop S M h64).symm
      have HR2 : Hid (restL b = M) := by unfold Hid; rw [HR.out]; exact restL_short M (by omega)
      clear HF HR
      go_wp2_with (first
        | (refine wpList_load_part rfl 282 (.tmp 2) rfl w.heap.size 0 rfl _ _ hR0 [.int .u32 (S.a.toNat : Int), .int .u32 (S.b.toNat : Int), .int .u32 (S.c.toNat : Int), .int .u32 (S.d.toNat : Int), .int .u32 (S.e.toNat : Int), .int .u32 (S.f.toNat : Int), .int .u32 (S.g.toNat : Int), .int .u32 (S.h.toNat : Int)] (by rfl) _ Tryz.underlying282 rfl (by exact size_st) ?_)
        | (refine wpList_store_row rfl 282 (.tmp 4) (.tmp 15) rfl (w.heap.size + 1) rfl [.int .u32 (S.a.toNat : Int), .int .u32 (S.b.toNat : Int), .int .u32 (S.c.toNat : Int), .int .u32 (S.d.toNat : Int), .int .u32 (S.e.toNat : Int), .int .u32 (S.f.toNat : Int), .int .u32 (S.g.toNat : Int), .int .u32 (S.h.toNat : Int)] rfl _ _ hR1 (by exact size_st) (by exact List.length_replicate) (by exact one_st _ _ _ _ _ _ _ _) ?_))
      refine bodyPost_ret (results_row_tmp (p := 4) (u := 5) (ty := 282) (by rfl) _ _ (w.heap.size + 1) 282 _ _ (by rfl) (by exact hR1.setRow _) Tryz.underlying282 (by rfl) (by exact size_st)) (by rfl) ?_
      refine ⟨S, A1, c1, HF2.out, ?_, ?_, ?_, below_setRow hB (Nat.le_succ _) _⟩
      · rw [HR2.out]; rfl
      · rw [HR2.out]; exact hc1
      · rw [HR2.out]; exact HA.out
end Go.Proofs.YtknjpmoimjhddaaGreatDoor
/-
  What the program's call lastBlocks of layer 2 answers: the state behind a rest that is filled up. Conditions: the rest is less than a block; the package's table holds the sixty-four constants.
-/
namespace Go.Proofs.YtknjpmoimjhddaaGreatDoor
set_option maxRecDepth 100000
open Go.RowKit
set_option linter.unusedSimpArgs false
set_option linter.unusedVariables false

/-- A rest with the mark behind it. -/
def markL (r : List UInt8) : List UInt8 := r ++ 128 :: List.replicate (63 - r.length) 0
theorem markL_length (r : List UInt8) (h : r.length < 64) : (markL r).length = 64 := by simp [markL]; omega
theorem markL_set (r : List UInt8) (h : r.length < 64) : (r ++ List.replicate (64 - r.length) 0).set r.length 128 = markL r := by
  rw [List.set_append_right _ _ (Nat.le_refl _), Nat.sub_self, show 64 - r.length = (63 - r.length) + 1 by omega, List.replicate_succ, List.set_cons_zero]
  rfl
theorem fill_short (r : List UInt8) (many : Nat) (h : r.length < 56) : fillL r many = (markL r).take 56 ++ putL (8 * many % 18446744073709551616) := by
  unfold fillL markL
  congr 1
  rw [List.take_append, List.take_of_length_le (by omega), show 56 - r.length = (55 - r.length) + 1 by omega, List.take_succ_cons, List.take_replicate,
    show (119 - r.length % 64) % 64 = 55 - r.length by omega, show min (55 - r.length) (63 - r.length) = 55 - r.length by omega]
theorem fill_long (r : List UInt8) (many : Nat) (h : 56 ≤ r.length) (h64 : r.length < 64) : fillL r many = markL r ++ ((List.replicate 64 0).take 56 ++ putL (8 * many % 18446744073709551616)) := by
  unfold fillL markL
  rw [← List.append_assoc]
  congr 1
  rw [List.append_assoc]
  congr 1
  rw [List.take_replicate, show min 56 64 = 56 by omega, show (119 - r.length % 64) % 64 = (63 - r.length) + 56 by omega, List.cons_append, List.replicate_append_replicate]
theorem from_one [Inhabited Tab] (s : St) (M : List UInt8) (h : M.length = 64) : s.from M = s.block M := by
  rw [from_step s M (by omega), List.take_of_length_le (by omega), List.drop_of_length_le (by omega)]
  exact from_stop _ _ (by simp)
theorem from_two [Inhabited Tab] (s : St) (M N : List UInt8) (h : M.length = 64) (h' : N.length = 64) : s.from (M ++ N) = (s.block M).block N := by
  rw [from_step s _ (by simp; omega), List.take_left' h, List.drop_left' h]
  exact from_one _ _ h'
theorem last_short [Inhabited Tab] (s : St) (r : List UInt8) (many : Nat) (h : r.length < 56) : s.from (fillL r many) = s.block ((markL r).take 56 ++ putL (8 * many % 18446744073709551616)) := by
  rw [fill_short r many h]
  exact from_one _ _ (by have := markL_length r (by omega); simp [putL_length]; omega)
theorem last_long [Inhabited Tab] (s : St) (r : List UInt8) (many : Nat) (h : 56 ≤ r.length) (h64 : r.length < 64) : s.from (fillL r many) = (s.block (markL r)).block ((List.replicate 64 0).take 56 ++ putL (8 * many % 18446744073709551616)) := by
  rw [fill_long r many h h64]
  exact from_two _ _ _ (markL_length r h64) (by simp [putL_length])

def manyS (g many : Nat) (W : World) : Prop := W.cell? ⟨g, 9, none⟩ = some (.int .u64 (many : Int)) ∧ True

set_option maxRecDepth 100000 in
set_option maxHeartbeats 1000000 in
theorem last_any [Inhabited Tab] (s : St) (r : List UInt8) (A : Option Addr) (c many : Nat) (w : World) (hr : Rd vB w A r) (hn : r.length < 64) (hm : many < 18446744073709551616) (HK : Hid (KTab w)) :
    Calls Tryz.prog 231 #[.agg #[.int .u32 (s.a.toNat : Int), .int .u32 (s.b.toNat : Int), .int .u32 (s.c.toNat : Int), .int .u32 (s.d.toNat : Int), .int .u32 (s.e.toNat : Int), .int .u32 (s.f.toNat : Int), .int .u32 (s.g.toNat : Int), .int .u32 (s.h.toNat : Int), .slice A r.length c, .int .u64 (many : Int)]] w (RetS vW w (s.from (fillL r many)).toL) := by
  have hmk : ∀ w, (Instr.makeSlice 27 (.int .i64 64) (.int .i64 64)).run Tryz.prog w = .ok (.slice (some ⟨w.heap.size, 0, none⟩) 64 64) (w.alloc (.cells (List.replicate 64 (.int .u8 0)).toArray 5)) := fun _ => by kernel_rfl
  obtain ⟨p, hp⟩ : ∃ p, p = 8 * many % 18446744073709551616 := ⟨_, rfl⟩
  have HP1 : Hid (IntKind.u64.wrap (8 * (many : Int)) = (p : Int)) := by unfold Hid; rw [IntKind.wrap_u64, hp]; omega
  have HP2 : Hid (8 * (many : Int) % 18446744073709551616 = (p : Int)) := by unfold Hid; rw [hp]; omega
  have HPm : Hid (p < 18446744073709551616) := by unfold Hid; rw [hp]; exact Nat.mod_lt _ (by omega)
  have HP := Lib.hid hp
  clear hp
  go_enter Tryz.func231, Tryz.ntmps231
  go_upto_region 4 with (first
    | (refine wpList_load_part rfl 282 (.tmp 6) rfl w.heap.size 0 rfl _ _ (Row.new w _ _ _ rfl) [.int .u32 (s.a.toNat : Int), .int .u32 (s.b.toNat : Int), .int .u32 (s.c.toNat : Int), .int .u32 (s.d.toNat : Int), .int .u32 (s.e.toNat : Int), .int .u32 (s.f.toNat : Int), .int .u32 (s.g.toNat : Int), .int .u32 (s.h.toNat : Int)] (by rfl) _ Tryz.underlying282 rfl (by exact size_st) ?_)
    | (refine wpList_copy_row rfl (.tmp 9) (.tmp 11) 27 27 rfl 5 Tryz.underlying27 (by kernel_rfl) (w.heap.size + 2) 0 64 64 A r c rfl rfl (List.replicate 64 (.int .u8 0)) 5 (by exact Row.new_at _ _ (by simp) _ _ _ rfl) (by exact hr.keep (below_new (below_new (below_new (Below.refl _ _) _) _) _)) vB_one (by omega) (by simp; omega) ?_))
  refine at_world (Q := Code.wp _ _ _ _) (fun W => Row W w.heap.size 286 [.int .u32 (s.a.toNat : Int), .int .u32 (s.b.toNat : Int), .int .u32 (s.c.toNat : Int), .int .u32 (s.d.toNat : Int), .int .u32 (s.e.toNat : Int), .int .u32 (s.f.toNat : Int), .int .u32 (s.g.toNat : Int), .int .u32 (s.h.toNat : Int), .slice A r.length c, .int .u64 (many : Int)] ∧ Row W (w.heap.size + 1) 282 [.int .u32 (s.a.toNat : Int), .int .u32 (s.b.toNat : Int), .int .u32 (s.c.toNat : Int), .int .u32 (s.d.toNat : Int), .int .u32 (s.e.toNat : Int), .int .u32 (s.f.toNat : Int), .int .u32 (s.g.toNat : Int), .int .u32 (s.h.toNat : Int)] ∧ Row W (w.heap.size + 1 + 1) 5 ((r ++ List.replicate (64 - r.length) 0).map vB) ∧ Below w.heap.size w W)
    ⟨(((Row.new w _ _ _ rfl).alloc _).alloc _).setRow_other (by omega) _, ((Row.new_at _ _ (by simp) _ _ _ rfl).alloc _).setRow_other (by omega) _, ?_, below_setRow (below_new (below_new (below_new (Below.refl _ _) _) _) _) (by omega) _⟩ ?_
  · refine Row.setRow_at (Row.new_at _ _ (by simp) _ _ _ rfl) _ _ ?_
    show (r.map vB ++ (List.replicate 64 (Value.int .u8 0)).drop r.length).toArray = _
    rw [List.drop_replicate, List.map_append, List.map_replicate]
    rfl
  clear hmk hr
  rintro W ⟨hR0, hR1, hR2, hB⟩
  have hcn : W.cell? ⟨w.heap.size + 1 + 1, r.length, none⟩ = some (.int .u8 0) := hR2.cell (by
    rw [List.map_append, List.getElem?_append_right (by simp), List.length_map, Nat.sub_self, List.map_replicate, List.getElem?_replicate, if_pos (by omega)]
    rfl)
  have hfz : W.frozen? ⟨w.heap.size + 1 + 1, r.length, none⟩ = false := hR2.frozen _
  have n0 : (0 : Int) ≤ (r.length : Int) := by omega
  have n1 : (r.length : Int) < 64 := by omega
  go_upto_region 5 with fail
  refine at_world (Q := Code.wp _ _ _ _) (fun W => Row W w.heap.size 286 [.int .u32 (s.a.toNat : Int), .int .u32 (s.b.toNat : Int), .int .u32 (s.c.toNat : Int), .int .u32 (s.d.toNat : Int), .int .u32 (s.e.toNat : Int), .int .u32 (s.f.toNat : Int), .int .u32 (s.g.toNat : Int), .int .u32 (s.h.toNat : Int), .slice A r.length c, .int .u64 (many : Int)] ∧ Row W (w.heap.size + 1) 282 [.int .u32 (s.a.toNat : Int), .int .u32 (s.b.toNat : Int), .int .u32 (s.c.toNat : Int), .int .u32 (s.d.toNat : Int), .int .u32 (s.e.toNat : Int), .int .u32 (s.f.toNat : Int), .int .u32 (s.g.toNat : Int), .int .u32 (s.h.toNat : Int)] ∧ Row W (w.heap.size + 1 + 1) 5 ((markL r).map vB) ∧ Below w.heap.size w W)
    ⟨hR0.setCell_other (by simp; omega) _, hR1.setCell_other (by simp) _, ?_, hB.setCell (by simp; omega) _⟩ ?_
  · have := hR2.setCell r.length (vB 128)
    rw [← List.map_set, markL_set r hn] at this
    exact this
  clear hR0 hR1 hR2 hB hcn hfz W
  rintro W ⟨hR0, hR1, hR2, hB⟩
  by_cases h56 : r.length < 56
  · have hd : decide ((56 : Int) ≤ (r.length : Int)) = false := by simp; omega
    have HE : Hid (s.from (fillL r many) = s.block ((markL r).take 56 ++ putL p)) := by unfold Hid; rw [HP.out]; exact last_short s r many h56
    have HM : Hid ((markL r).length = 64) := markL_length r hn
    generalize markL r = M at hR2 HE HM
    obtain ⟨S, hS⟩ : ∃ S, S = s := ⟨_, rfl⟩
    replace hR1 : Row W (w.heap.size + 1) 282 [.int .u32 (S.a.toNat : Int), .int .u32 (S.b.toNat : Int), .int .u32 (S.c.toNat : Int), .int .u32 (S.d.toNat : Int), .int .u32 (S.e.toNat : Int), .int .u32 (S.f.toNat : Int), .int .u32 (S.g.toNat : Int), .int .u32 (S.h.toNat : Int)] := by rw [hS]; exact hR1
    replace HE : Hid (s.from (fillL r many) = S.block (M.take 56 ++ putL p)) := by rw [hS]; exact HE
    clear hS
    go_upto_region 8 with fail
    clear hd h56
    have h8 := putL_length p
    generalize hpl : putL p = Pl at HE h8
    have HPl := Lib.hid hpl
    have H8 := Lib.hid h8
    clear hpl h8
    have hP1 := HP1.out
    have hP2 := HP2.out
    refine wp_region_plan_of (manyS w.heap.size many) (.step 0 false (.step 1 false (.step 2 false (.step 3 false (.step 4 false (.step 5 true (.step 6 true (.nil)))))))) ⟨hR0.drew.cell rfl, trivial⟩ (by kernel_rfl) (by kernel_rfl) (by rfl) (by kernel_rfl) ?_
    iterate 5 (refine plan_read rfl (by rfl) (v := ?_) ?_ ?_; rotate_left 1; (intro W hW; (try dsimp only at hW); obtain ⟨hW0, hW1⟩ := hW; go_simp <;> with_reducible rfl); simp only [List.getElem_toArray, List.getElem_cons_zero, List.getElem_cons_succ, Act.put, List.setIfInBounds_toArray, List.set_cons_zero, List.set_cons_succ])
    clear hP1 hP2
    refine plan_make_of rfl (by rfl) (fun K hK => ?_)
    go_simp
    refine (put_any p HPm.out _).mono ?_
    rintro e w1 ⟨A1, c1, rfl, hc1, hr1, hb1⟩
    rw [HPl.out] at hc1 hr1 ⊢
    refine hK.out _ _ ⟨(hR0.drew.later hb1).cell rfl, trivial⟩ ?_
    clear hK K
    replace hR0 := hR0.drew.later hb1
    replace hR1 := hR1.drew.later hb1
    replace hR2 := hR2.drew.later hb1
    replace hB := below_step hB.drew hb1
    clear hb1
    refine plan_make_of rfl (by rfl) (fun K hK => ?_)
    refine wp_copy_row (.tmp 24) (.tmp 28) 27 27 (by rfl) 5 Tryz.underlying27 (by kernel_rfl) (w.heap.size + 1 + 1) 56 8 8 A1 Pl c1 (by rfl) (by rfl) (M.map vB) _ hR2 hr1 vB_one (by have := H8.out; omega) (by rw [List.length_map, HM.out, H8.out]; omega) ?_
    simp only [List.getElem_toArray, List.getElem_cons_zero, List.getElem_cons_succ, Act.put, List.setIfInBounds_toArray, List.set_cons_zero, List.set_cons_succ]
    refine hK.out _ _ ⟨(hR0.setRow_other (by omega) _).cell rfl, trivial⟩ ?_
    clear hK K
    refine plan_done ?_
    refine at_world (Q := _) (fun W => Row W (w.heap.size + 1) 282 [.int .u32 (S.a.toNat : Int), .int .u32 (S.b.toNat : Int), .int .u32 (S.c.toNat : Int), .int .u32 (S.d.toNat : Int), .int .u32 (S.e.toNat : Int), .int .u32 (S.f.toNat : Int), .int .u32 (S.g.toNat : Int), .int .u32 (S.h.toNat : Int)] ∧ Row W (w.heap.size + 1 + 1) 5 ((M.take 56 ++ Pl).map vB) ∧ Below w.heap.size w W)
      ⟨hR1.setRow_other (by omega) _, Row.setRow_at hR2 _ _ ?_, below_setRow hB (by omega) _⟩ ?_
    · rw [List.drop_of_length_le (by rw [List.length_map, HM.out, H8.out]; omega), List.append_nil, List.map_append, List.map_take]
    have HM2 : Hid ((M.take 56 ++ Pl).length = 64) := by unfold Hid; rw [List.length_append, List.length_take, HM.out, H8.out]; rfl
    generalize M.take 56 ++ Pl = N at HE HM2
    clear hR0 hR1 hR2 hB hr1 hc1 HM
    rintro W ⟨hR1, hR2, hB⟩
    have hr2 : Rd vB W (some ⟨w.heap.size + 1 + 1, 0, none⟩) N := hR2.rd
    go_wp2_with (refine wpList_load_part rfl 282 (.tmp 3) rfl (w.heap.size + 1) 0 rfl _ _ hR1 [.int .u32 (S.a.toNat : Int), .int .u32 (S.b.toNat : Int), .int .u32 (S.c.toNat : Int), .int .u32 (S.d.toNat : Int), .int .u32 (S.e.toNat : Int), .int .u32 (S.f.toNat : Int), .int .u32 (S.g.toNat : Int), .int .u32 (S.h.toNat : Int)] (by rfl) _ Tryz.underlying282 rfl (by exact size_st) ?_)
    refine (behind_any S N _ _ _ HM2 hr2 (Nat.le_refl _) (Lib.hid (HK.out.keep hB))).mono ?_
    rintro e w2 ⟨T, HT, rfl, hb2⟩
    replace hR1 := hR1.later hb2
    replace hB := below_step hB hb2
    clear hr2 hR2 hb2
    go_wp2_with (refine wpList_store_row rfl 282 (.tmp 3) (.tmp 32) rfl (w.heap.size + 1) rfl [.int .u32 (T.a.toNat : Int), .int .u32 (T.b.toNat : Int), .int .u32 (T.c.toNat : Int), .int .u32 (T.d.toNat : Int), .int .u32 (T.e.toNat : Int), .int .u32 (T.f.toNat : Int), .int .u32 (T.g.toNat : Int), .int .u32 (T.h.toNat : Int)] rfl _ _ hR1 (by exact size_st) (by rfl) (by exact one_st _ _ _ _ _ _ _ _) ?_)
    go_ret
    rw [HE.out, ← HT.out]
    exact ⟨_, 8, rfl, Nat.le_refl _, Row.rd (f := vW) (L := T.toL) (hR1.setRow _), below_setRow hB (by omega) _⟩
  · have hd : decide ((56 : Int) ≤ (r.length : Int)) = true := by simp; omega
    have HE : Hid (s.from (fillL r many) = (s.block (markL r)).block ((List.replicate 64 0).take 56 ++ putL p)) := by unfold Hid; rw [HP.out]; exact last_long s r many (by omega) hn
    have HM : Hid ((markL r).length = 64) := markL_length r hn
    generalize markL r = M at hR2 HE HM
    have hr2 : Rd vB W (some ⟨w.heap.size + 1 + 1, 0, none⟩) M := hR2.rd
    go_wp2_with (refine wpList_load_part rfl 282 (.tmp 3) rfl (w.heap.size + 1) 0 rfl _ _ hR1 [.int .u32 (s.a.toNat : Int), .int .u32 (s.b.toNat : Int), .int .u32 (s.c.toNat : Int), .int .u32 (s.d.toNat : Int), .int .u32 (s.e.toNat : Int), .int .u32 (s.f.toNat : Int), .int .u32 (s.g.toNat : Int), .int .u32 (s.h.toNat : Int)] (by rfl) _ Tryz.underlying282 rfl (by exact size_st) ?_)
    refine (behind_any s M _ _ _ HM hr2 (Nat.le_refl _) (Lib.hid (HK.out.keep hB))).mono ?_
    rintro e w1 ⟨S, HS, rfl, hb1⟩
    replace hR0 := hR0.later hb1
    replace hR1 := hR1.later hb1
    replace hR2 := hR2.later hb1
    replace hB := below_step hB hb1
    clear hr2 hb1
    go_upto_region 7 with (refine wpList_store_row rfl 282 (.tmp 3) (.tmp 21) rfl (w.heap.size + 1) rfl [.int .u32 (S.a.toNat : Int), .int .u32 (S.b.toNat : Int), .int .u32 (S.c.toNat : Int), .int .u32 (S.d.toNat : Int), .int .u32 (S.e.toNat : Int), .int .u32 (S.f.toNat : Int), .int .u32 (S.g.toNat : Int), .int .u32 (S.h.toNat : Int)] rfl _ _ hR1 (by exact size_st) (by rfl) (by exact one_st _ _ _ _ _ _ _ _) ?_)
    refine at_world (Q := Code.wp _ _ _ _) (fun W => Row W w.heap.size 286 [.int .u32 (s.a.toNat : Int), .int .u32 (s.b.toNat : Int), .int .u32 (s.c.toNat : Int), .int .u32 (s.d.toNat : Int), .int .u32 (s.e.toNat : Int), .int .u32 (s.f.toNat : Int), .int .u32 (s.g.toNat : Int), .int .u32 (s.h.toNat : Int), .slice A r.length c, .int .u64 (many : Int)] ∧ Row W (w.heap.size + 1) 282 [.int .u32 (S.a.toNat : Int), .int .u32 (S.b.toNat : Int), .int .u32 (S.c.toNat : Int), .int .u32 (S.d.toNat : Int), .int .u32 (S.e.toNat : Int), .int .u32 (S.f.toNat : Int), .int .u32 (S.g.toNat : Int), .int .u32 (S.h.toNat : Int)] ∧ Row W (w.heap.size + 1 + 1) 5 (M.map vB) ∧ Below w.heap.size w W)
      ⟨hR0.setRow_other (by omega) _, hR1.setRow _, hR2.setRow_other (by omega) _, below_setRow hB (by omega) _⟩ ?_
    clear hR0 hR1 hR2 hB w1 W
    rintro W ⟨hR0, hR1, hR2, hB⟩
    have hcl : (Builtin.clear_ #[27] 0 #[.slice (some ⟨w.heap.size + 1 + 1, 0, none⟩) 64 64]).run Tryz.prog W = .ok (.tuple #[]) (W.setCells (w.heap.size + 1 + 1) 0 (List.replicate 64 (.int .u8 0))) :=
      Lib.run_clear_slice W _ 5 _ (.int .u8 0) Tryz.underlying27 (fun _ => by kernel_rfl) rfl rfl _ 0 64 64 (by omega) (fun j hj => by rw [hR2.cell?]; have := HM.out; simp [this, hj]) (fun j _ => hR2.frozen _)
    go_upto_region 8 with fail
    refine at_world (Q := Code.wp _ _ _ _) (fun W => Row W w.heap.size 286 [.int .u32 (s.a.toNat : Int), .int .u32 (s.b.toNat : Int), .int .u32 (s.c.toNat : Int), .int .u32 (s.d.toNat : Int), .int .u32 (s.e.toNat : Int), .int .u32 (s.f.toNat : Int), .int .u32 (s.g.toNat : Int), .int .u32 (s.h.toNat : Int), .slice A r.length c, .int .u64 (many : Int)] ∧ Row W (w.heap.size + 1) 282 [.int .u32 (S.a.toNat : Int), .int .u32 (S.b.toNat : Int), .int .u32 (S.c.toNat : Int), .int .u32 (S.d.toNat : Int), .int .u32 (S.e.toNat : Int), .int .u32 (S.f.toNat : Int), .int .u32 (S.g.toNat : Int), .int .u32 (S.h.toNat : Int)] ∧ Row W (w.heap.size + 1 + 1) 5 ((List.replicate 64 (0 : UInt8)).map vB) ∧ Below w.heap.size w W)
      ⟨hR0.setCells_other (by omega) _ _, hR1.setCells_other (by omega) _ _, ?_, below_setCells (by omega) _ _ hB⟩ ?_
    · have h0 : 0 + (List.replicate 64 (Value.int .u8 0)).length ≤ (M.map vB).length := by rw [List.length_map, HM.out]; simp
      have h1 : (M.map vB).take 0 ++ List.replicate 64 (Value.int .u8 0) ++ (M.map vB).drop (0 + (List.replicate 64 (Value.int .u8 0)).length) = (List.replicate 64 (0 : UInt8)).map vB := by
        rw [List.drop_of_length_le (by rw [List.length_map, HM.out]; simp), List.map_replicate]
        rfl
      have := Row.setCells _ 0 hR2 h0
      rw [h1] at this
      exact this
    replace HE : Hid (s.from (fillL r many) = S.block ((List.replicate 64 0).take 56 ++ putL p)) := by unfold Hid; rw [HE.out, HS.out]
    clear hR0 hR1 hR2 hB hcl HM HS W M hd h56
    rintro W ⟨hR0, hR1, hR2, hB⟩
    have HM : Hid ((List.replicate 64 (0 : UInt8)).length = 64) := List.length_replicate
    generalize List.replicate 64 (0 : UInt8) = M at HE HM hR2
    have h8 := putL_length p
    generalize hpl : putL p = Pl at HE h8
    have HPl := Lib.hid hpl
    have H8 := Lib.hid h8
    clear hpl h8
    have hP1 := HP1.out
    have hP2 := HP2.out
    refine wp_region_plan_of (manyS w.heap.size many) (.step 0 false (.step 1 false (.step 2 false (.step 3 false (.step 4 false (.step 5 true (.step 6 true (.nil)))))))) ⟨hR0.drew.cell rfl, trivial⟩ (by kernel_rfl) (by kernel_rfl) (by rfl) (by kernel_rfl) ?_
    iterate 5 (refine plan_read rfl (by rfl) (v := ?_) ?_ ?_; rotate_left 1; (intro W hW; (try dsimp only at hW); obtain ⟨hW0, hW1⟩ := hW; go_simp <;> with_reducible rfl); simp only [List.getElem_toArray, List.getElem_cons_zero, List.getElem_cons_succ, Act.put, List.setIfInBounds_toArray, List.set_cons_zero, List.set_cons_succ])
    clear hP1 hP2
    refine plan_make_of rfl (by rfl) (fun K hK => ?_)
    go_simp
    refine (put_any p HPm.out _).mono ?_
    rintro e w1 ⟨A1, c1, rfl, hc1, hr1, hb1⟩
    rw [HPl.out] at hc1 hr1 ⊢
    refine hK.out _ _ ⟨(hR0.drew.later hb1).cell rfl, trivial⟩ ?_
    clear hK K
    replace hR0 := hR0.drew.later hb1
    replace hR1 := hR1.drew.later hb1
    replace hR2 := hR2.drew.later hb1
    replace hB := below_step hB.drew hb1
    clear hb1
    refine plan_make_of rfl (by rfl) (fun K hK => ?_)
    refine wp_copy_row (.tmp 24) (.tmp 28) 27 27 (by rfl) 5 Tryz.underlying27 (by kernel_rfl) (w.heap.size + 1 + 1) 56 8 8 A1 Pl c1 (by rfl) (by rfl) (M.map vB) _ hR2 hr1 vB_one (by have := H8.out; omega) (by rw [List.length_map, HM.out, H8.out]; omega) ?_
    simp only [List.getElem_toArray, List.getElem_cons_zero, List.getElem_cons_succ, Act.put, List.setIfInBounds_toArray, List.set_cons_zero, List.set_cons_succ]
    refine hK.out _ _ ⟨(hR0.setRow_other (by omega) _).cell rfl, trivial⟩ ?_
    clear hK K
    refine plan_done ?_
    refine at_world (Q := _) (fun W => Row W (w.heap.size + 1) 282 [.int .u32 (S.a.toNat : Int), .int .u32 (S.b.toNat : Int), .int .u32 (S.c.toNat : Int), .int .u32 (S.d.toNat : Int), .int .u32 (S.e.toNat : Int), .int .u32 (S.f.toNat : Int), .int .u32 (S.g.toNat : Int), .int .u32 (S.h.toNat : Int)] ∧ Row W (w.heap.size + 1 + 1) 5 ((M.take 56 ++ Pl).map vB) ∧ Below w.heap.size w W)
      ⟨hR1.setRow_other (by omega) _, Row.setRow_at hR2 _ _ ?_, below_setRow hB (by omega) _⟩ ?_
    · rw [List.drop_of_length_le (by rw [List.length_map, HM.out, H8.out]; omega), List.append_nil, List.map_append, List.map_take]
    have HM2 : Hid ((M.take 56 ++ Pl).length = 64) := by unfold Hid; rw [List.length_append, List.length_take, HM.out, H8.out]; rfl
    generalize M.take 56 ++ Pl = N at HE HM2
    clear hR0 hR1 hR2 hB hr1 hc1 HM
    rintro W ⟨hR1, hR2, hB⟩
    have hr2 : Rd vB W (some ⟨w.heap.size + 1 + 1, 0, none⟩) N := hR2.rd
    go_wp2_with (refine wpList_load_part rfl 282 (.tmp 3) rfl (w.heap.size + 1) 0 rfl _ _ hR1 [.int .u32 (S.a.toNat : Int), .int .u32 (S.b.toNat : Int), .int .u32 (S.c.toNat : Int), .int .u32 (S.d.toNat : Int), .int .u32 (S.e.toNat : Int), .int .u32 (S.f.toNat : Int), .int .u32 (S.g.toNat : Int), .int .u32 (S.h.toNat : Int)] (by rfl) _ Tryz.underlying282 rfl (by exact size_st) ?_)
    refine (behind_any S N _ _ _ HM2 hr2 (Nat.le_refl _) (Lib.hid (HK.out.keep hB))).mono ?_
    rintro e w2 ⟨T, HT, rfl, hb2⟩
    replace hR1 := hR1.later hb2
    replace hB := below_step hB hb2
    clear hr2 hR2 hb2
    go_wp2_with (refine wpList_store_row rfl 282 (.tmp 3) (.tmp 32) rfl (w.heap.size + 1) rfl [.int .u32 (T.a.toNat : Int), .int .u32 (T.b.toNat : Int), .int .u32 (T.c.toNat : Int), .int .u32 (T.d.toNat : Int), .int .u32 (T.e.toNat : Int), .int .u32 (T.f.toNat : Int), .int .u32 (T.g.toNat : Int), .int .u32 (T.h.toNat : Int)] rfl _ _ hR1 (by exact size_st) (by rfl) (by exact one_st _ _ _ _ _ _ _ _) ?_)
    go_ret
    rw [HE.out, ← HT.out]
    exact ⟨_, 8, rfl, Nat.le_refl _, Row.rd (f := vW) (L := T.toL) (hR1.setRow _), below_setRow hB (by omega) _⟩
end Go.Proofs.YtknjpmoimjhddaaGreatDoor
/-
  What the program's calls Block, End and Sum of layer 2 answer. Condition: the package's table holds the sixty-four constants.
-/
namespace Go.Proofs.YtknjpmoimjhddaaGreatDoor
set_option maxRecDepth 100000
open Go.RowKit
set_option linter.unusedSimpArgs false
set_option linter.unusedVariables false

theorem fillL_step (b : List UInt8) (many : Nat) (h : 64 ≤ b.length) : fillL b many = b.take 64 ++ fillL (b.drop 64) many := by
  unfold fillL
  rw [List.length_drop, show (b.length - 64) % 64 = b.length % 64 by omega, ← List.append_assoc, ← List.append_assoc, List.take_append_drop]
theorem from_fill [Inhabited Tab] (many : Nat) : ∀ (n : Nat) (s : St) (b : List UInt8), b.length ≤ n → s.from (fillL b many) = (s.from b).from (fillL (restL b) many)
  | n, s, b, hn => by
    by_cases h : 64 ≤ b.length
    · match n, hn with
      | 0, hn => omega
      | n + 1, hn =>
        rw [fillL_step b many h, from_step s _ (by simp; omega), List.take_left' (by simp; omega), List.drop_left' (by simp; omega), from_fill many n _ (b.drop 64) (by simp; omega), from_step s b h, restL_step b h]
    · rw [from_stop s b h, restL_short b (by omega)]

theorem hash_state (S : St) (x y : Value) (W : World) : (Instr.field 286 (.agg #[.int .u32 (S.a.toNat : Int), .int .u32 (S.b.toNat : Int), .int .u32 (S.c.toNat : Int), .int .u32 (S.d.toNat : Int), .int .u32 (S.e.toNat : Int), .int .u32 (S.f.toNat : Int), .int .u32 (S.g.toNat : Int), .int .u32 (S.h.toNat : Int), x, y]) 0).run Tryz.prog W = .ok (.agg #[.int .u32 (S.a.toNat : Int), .int .u32 (S.b.toNat : Int), .int .u32 (S.c.toNat : Int), .int .u32 (S.d.toNat : Int), .int .u32 (S.e.toNat : Int), .int .u32 (S.f.toNat : Int), .int .u32 (S.g.toNat : Int), .int .u32 (S.h.toNat : Int)]) W := by kernel_rfl
theorem hash_rest (S : St) (x y : Value) (W : World) : (Instr.field 286 (.agg #[.int .u32 (S.a.toNat : Int), .int .u32 (S.b.toNat : Int), .int .u32 (S.c.toNat : Int), .int .u32 (S.d.toNat : Int), .int .u32 (S.e.toNat : Int), .int .u32 (S.f.toNat : Int), .int .u32 (S.g.toNat : Int), .int .u32 (S.h.toNat : Int), x, y]) 1).run Tryz.prog W = .ok x W := by kernel_rfl
theorem hash_many (S : St) (x y : Value) (W : World) : (Instr.field 286 (.agg #[.int .u32 (S.a.toNat : Int), .int .u32 (S.b.toNat : Int), .int .u32 (S.c.toNat : Int), .int .u32 (S.d.toNat : Int), .int .u32 (S.e.toNat : Int), .int .u32 (S.f.toNat : Int), .int .u32 (S.g.toNat : Int), .int .u32 (S.h.toNat : Int), x, y]) 2).run Tryz.prog W = .ok y W := by kernel_rfl
/-- A call that hands back a list and how it went. -/
def RetE (w : World) (l : List UInt8) (n : Int) (e : Ending) (w' : World) : Prop := ∃ A cap, e = .returned (.tuple #[.slice A l.length cap, .int .i64 n]) ∧ l.length ≤ cap ∧ Rd vB w' A l ∧ Below w.heap.size w w'

set_option maxHeartbeats 600000 in
theorem sum_any [Inhabited Tab] (b : List UInt8) (A : Option Addr) (c : Nat) (w : World) (hr : Rd vB w A b) (hc : b.length ≤ c) (hl : b.length ≤ 9223372036854775807) (HK : Hid (KTab w)) :
    Calls Tryz.prog 225 #[.slice A b.length c] w (RetS vB w (sumL b)) := by
  go_enter Tryz.func225, Tryz.ntmps225
  go_wp2_with fail
  refine (start_any _).mono ?_
  rintro e w1 ⟨S0, HS0, rfl, hb1⟩
  have hfd := hash_state S0 (.slice none 0 0) (.int .u64 0)
  go_wp2_with fail
  clear hfd
  refine (wholeBlocks_any S0 b _ _ _ (hr.keep hb1) hc hl (Lib.hid (HK.out.keep hb1))).mono ?_
  rintro e w2 ⟨S, A2, c2, HS, rfl, hc2, hall, hb2⟩
  have hB := below_step hb1 hb2
  have hr2 := hall w2 (hr.keep hB)
  clear hall
  have HE : Hid (sumL b = bytesL (S.from (fillL (restL b) b.length)).toL) := by unfold Hid sumL; rw [from_fill b.length b.length startSt b (Nat.le_refl _), HS.out, HS0.out]
  have h64 : (restL b).length < 64 := by rw [restL_length]; omega
  generalize restL b = R at hc2 hr2 HE h64
  have h8 : (S.from (fillL R b.length)).toL.length = 8 := rfl
  generalize hL : (S.from (fillL R b.length)).toL = L at h8 HE
  have HL := Lib.hid hL
  have H8 := Lib.hid h8
  clear hL h8 hb1 hb2 HS
  go_wp2_with fail
  have hb3 : Below w2.heap.size w2 (w2.alloc (.cells #[.int .u32 (S.a.toNat : Int), .int .u32 (S.b.toNat : Int), .int .u32 (S.c.toNat : Int), .int .u32 (S.d.toNat : Int), .int .u32 (S.e.toNat : Int), .int .u32 (S.f.toNat : Int), .int .u32 (S.g.toNat : Int), .int .u32 (S.h.toNat : Int)] 282)) := below_new (Below.refl _ _) _
  refine (last_any S R _ _ _ _ (hr2.keep hb3) h64 (by omega) (Lib.hid (HK.out.keep (below_step hB hb3)))).mono ?_
  replace hB := below_step hB hb3
  rintro e w3 ⟨A3, c3, rfl, hc3, hr3, hb4⟩
  rw [HL.out] at hc3 hr3 ⊢
  replace hB := below_step hB hb4
  clear hb3 hb4 hr2
  go_wp2_with fail
  refine (bytes_any L _ _ _ hr3 (by have := H8.out; omega)).mono ?_
  rintro e w4 ⟨A4, c4, rfl, hc4, hr4, hb5⟩
  go_wp2_with fail
  go_ret
  rw [HE.out]
  exact ⟨A4, c4, rfl, hc4, hr4, below_step hB hb5⟩
end Go.Proofs.YtknjpmoimjhddaaGreatDoor
/-
  What the program's call More of layer 2 answers. Condition: the package's table holds the sixty-four constants.
-/
namespace Go.Proofs.YtknjpmoimjhddaaGreatDoor
set_option maxRecDepth 100000
open Go.RowKit
set_option linter.unusedSimpArgs false
set_option linter.unusedVariables false

/-- A whole block, or a part of it, read in a region that draws its order. -/
theorem plan_load {P : Program} {ops : Array Oper} {Q : Exit → Act → World → Prop} {i : Nat} {rest : Plan} {S : World → Prop} {o : Oper} {a : Act} {w : World} (ho : ops[i]? = some o) (hw : Region.wanted o (yielded ops a.tmps) = true) (ty : TypeId) (x : Operand) (hop : o.op = .load ty x)
    (b off : Nat) (hx : a.eval x = .pointer (some ⟨b, off, none⟩)) (cs : List Value) (d : TypeDesc) (hS : ∀ W, S W → W.rangeAt b off cs) (hu : P.underlying ty = some d) (hd : d.isRow = true) (hi : (P.info? ty).map (·.size) = some cs.length)
    (h : wpPlan P ops Q rest S (a.put o.dst (.agg cs.toArray)) w) : wpPlan P ops Q (.step i false rest) S a w :=
  plan_read ho hw (fun W hW => by
    unfold execOp
    simp only [hop, hx, Instr.loadAt, Instr.sureAddr, Sem.run_bind, Sem.run_pure, Result.andThen_ok, run_loadVar_mid W b off ty cs d (hS W hW) hu hd hi]) h

abbrev hashL (s : St) (x y : Value) : List Value := [.int .u32 (s.a.toNat : Int), .int .u32 (s.b.toNat : Int), .int .u32 (s.c.toNat : Int), .int .u32 (s.d.toNat : Int), .int .u32 (s.e.toNat : Int), .int .u32 (s.f.toNat : Int), .int .u32 (s.g.toNat : Int), .int .u32 (s.h.toNat : Int), x, y]
abbrev zeroL : List Value := [.int .u32 0, .int .u32 0, .int .u32 0, .int .u32 0, .int .u32 0, .int .u32 0, .int .u32 0, .int .u32 0, .slice none 0 0, .int .u64 0]
theorem size_hash : (Tryz.prog.info? 286).map (·.size) = some 10 := by kernel_rfl
theorem one_hash (s : St) (A : Option Addr) (n c : Nat) (m : Int) : ∀ v ∈ ([.int .u32 (s.a.toNat : Int), .int .u32 (s.b.toNat : Int), .int .u32 (s.c.toNat : Int), .int .u32 (s.d.toNat : Int), .int .u32 (s.e.toNat : Int), .int .u32 (s.f.toNat : Int), .int .u32 (s.g.toNat : Int), .int .u32 (s.h.toNat : Int), .slice A n c, .int .u64 m] : List Value), v.oneCell' = true := by
  intro v hv
  simp only [List.mem_cons, List.not_mem_nil, or_false] at hv
  rcases hv with rfl | rfl | rfl | rfl | rfl | rfl | rfl | rfl | rfl | rfl <;> rfl
/-- What the reads of More lean on: the box that came in (and, behind the blocks, the state's own). -/
def boxS (g : Nat) (l : List Value) (W : World) : Prop := W.cell? ⟨g, 8, none⟩ = l[8]? ∧ W.cell? ⟨g, 9, none⟩ = l[9]? ∧ W.rangeAt g 0 (l.take 8)
theorem boxS_of {g : Nat} {t : TypeId} {l : List Value} {W : World} (h : Row W g t l) : boxS g l W := ⟨h.cell? 8, h.cell? 9, fun j v hv => by
  rw [Nat.zero_add]
  refine h.cell ?_
  rw [List.getElem?_take] at hv
  split at hv
  · exact hv
  · cases hv⟩
/-- A call that hands back a hash that goes on, and how it went. -/
def RetH [Inhabited Tab] (w : World) (s : St) (r : List UInt8) (many : Nat) (n : Int) (e : Ending) (w' : World) : Prop :=
  ∃ (S : St) (A : Option Addr) (c m : Nat), Hid (S = s) ∧ Hid (m = many) ∧ e = .returned (.tuple #[.agg #[.int .u32 (S.a.toNat : Int), .int .u32 (S.b.toNat : Int), .int .u32 (S.c.toNat : Int), .int .u32 (S.d.toNat : Int), .int .u32 (S.e.toNat : Int), .int .u32 (S.f.toNat : Int), .int .u32 (S.g.toNat : Int), .int .u32 (S.h.toNat : Int), .slice A r.length c, .int .u64 (m : Int)], .int .i64 n]) ∧ r.length ≤ c ∧ Rd vB w' A r ∧ (∀ a, A = some a → w.heap.size ≤ a.block) ∧ Below w.heap.size w w'


def MoreRel [Inhabited Tab] (s : St) (T : List UInt8) (w : World) (l : List Value) (v u : Value) (W : World) : Prop :=
  ∃ (gs : Nat) (S : St) (A : Option Addr) (c : Nat), v = .pointer (some ⟨gs, 0, none⟩) ∧ u = .slice A (restL T).length c ∧ Hid (S = s.from T) ∧ (restL T).length ≤ c ∧ Rd vB W A (restL T) ∧ Row W gs 282 [.int .u32 (S.a.toNat : Int), .int .u32 (S.b.toNat : Int), .int .u32 (S.c.toNat : Int), .int .u32 (S.d.toNat : Int), .int .u32 (S.e.toNat : Int), .int .u32 (S.f.toNat : Int), .int .u32 (S.g.toNat : Int), .int .u32 (S.h.toNat : Int)] ∧ Row W w.heap.size 286 l ∧ Row W (w.heap.size + 1) 286 zeroL ∧ Below w.heap.size w W ∧ w.heap.size + 1 < gs
theorem more_rel [Inhabited Tab] {s S : St} {T : List UInt8} {w W : World} {l : List Value} {gs : Nat} {A : Option Addr} {c : Nat} (HS : Hid (S = s.from T)) (hc : (restL T).length ≤ c) (hr : Rd vB W A (restL T)) (hs : Row W gs 282 [.int .u32 (S.a.toNat : Int), .int .u32 (S.b.toNat : Int), .int .u32 (S.c.toNat : Int), .int .u32 (S.d.toNat : Int), .int .u32 (S.e.toNat : Int), .int .u32 (S.f.toNat : Int), .int .u32 (S.g.toNat : Int), .int .u32 (S.h.toNat : Int)]) (h0 : Row W w.heap.size 286 l) (h1 : Row W (w.heap.size + 1) 286 zeroL) (hB : Below w.heap.size w W) (hg : w.heap.size + 1 < gs) :
    MoreRel s T w l (.pointer (some ⟨gs, 0, none⟩)) (.slice A (restL T).length c) W := ⟨gs, S, A, c, rfl, rfl, HS, hc, hr, hs, h0, h1, hB, hg⟩
def moreS (g gs : Nat) (l m : List Value) (W : World) : Prop := W.cell? ⟨g, 9, none⟩ = l[9]? ∧ W.rangeAt gs 0 m


end Go.Proofs.YtknjpmoimjhddaaGreatDoor
/-
  What the program's calls More and End of layer 2 answer, said of the text that came: a text in parts has the state, the rest and the hash of the whole. Condition: the package's table holds the sixty-four constants.
-/
namespace Go.Proofs.YtknjpmoimjhddaaGreatDoor
set_option maxRecDepth 100000
open Go.RowKit
set_option linter.unusedSimpArgs false
set_option linter.unusedVariables false

theorem from_append [Inhabited Tab] : ∀ (n : Nat) (s : St) (t b : List UInt8), t.length ≤ n → s.from (t ++ b) = (s.from t).from (restL t ++ b) ∧ restL (t ++ b) = restL (restL t ++ b)
  | n, s, t, b, hn => by
    by_cases h : 64 ≤ t.length
    · match n, hn with
      | 0, hn => omega
      | n + 1, hn =>
        have ih := from_append n (s.block (t.take 64)) (t.drop 64) b (by simp; omega)
        have e1 : (t ++ b).take 64 = t.take 64 := List.take_append_of_le_length h
        have e2 : (t ++ b).drop 64 = t.drop 64 ++ b := List.drop_append_of_le_length h
        rw [from_step s (t ++ b) (by simp; omega), e1, e2, from_step s t h, restL_step t h, restL_step (t ++ b) (by simp; omega), e2]
        exact ih
    · rw [from_stop s t h, restL_short t (by omega)]
      exact ⟨rfl, rfl⟩

/-- The hash of a text that goes on. -/
def HashOf [Inhabited Tab] (s : St) (t : List UInt8) (S : St) (R : List UInt8) (m : Nat) : Prop := S = s.from t ∧ R = restL t ∧ m = t.length % 18446744073709551616
theorem HashOf.more [Inhabited Tab] {s : St} {t b : List UInt8} {S : St} {R : List UInt8} {m : Nat} (h : HashOf s t S R m) : HashOf s (t ++ b) (S.from (R ++ b)) (restL (R ++ b)) ((m + b.length) % 18446744073709551616) := by
  obtain ⟨rfl, rfl, rfl⟩ := h
  obtain ⟨e1, e2⟩ := from_append t.length s t b (Nat.le_refl _)
  exact ⟨e1.symm, e2.symm, by rw [List.length_append]; omega⟩
theorem HashOf.none [Inhabited Tab] (s : St) : HashOf s [] s [] 0 := ⟨(from_stop s [] (by simp)).symm, rfl, rfl⟩
theorem HashOf.rest [Inhabited Tab] {s : St} {t : List UInt8} {S : St} {R : List UInt8} {m : Nat} (h : HashOf s t S R m) : R.length < 64 ∧ m < 18446744073709551616 := by
  obtain ⟨rfl, rfl, rfl⟩ := h
  exact ⟨by rw [restL_length]; omega, Nat.mod_lt _ (by omega)⟩


theorem sumL_length [Inhabited Tab] (b : List UInt8) : (sumL b).length = 32 := by rw [sumL, bytesL_length]; rfl


end Go.Proofs.YtknjpmoimjhddaaGreatDoor
/-
  HMAC as plain functions on bytes: a key's block, a block each byte of which is turned by one, the tag; a byte turned, as the walk spells it. No conditions but those typed.
-/
namespace Go.Proofs.YtknjpmoimjhddaaGreatDoor
set_option maxRecDepth 100000
open Go.RowKit

def turnL (x : UInt8) (b : List UInt8) : List UInt8 := b.map fun c => xorB c x
theorem turnL_length (x : UInt8) (b : List UInt8) : (turnL x b).length = b.length := by simp [turnL]
theorem turnL_getElem (x : UInt8) (b : List UInt8) (i : Nat) (h : i < b.length) : (turnL x b)[i]'(by rw [turnL_length]; exact h) = xorB b[i] x := by simp [turnL]
theorem turnL_take (x : UInt8) (b : List UInt8) (k : Nat) (h : k < b.length) : turnL x (b.take (k + 1)) = turnL x (b.take k) ++ [xorB b[k] x] := by
  rw [List.take_succ_eq_append_getElem h, turnL, turnL, List.map_append]
  rfl

def fillK (k : List UInt8) : List UInt8 := k ++ List.replicate (64 - k.length) 0
def hblk [Inhabited Tab] (key : List UInt8) : List UInt8 := if 64 < key.length then fillK (sumL key) else fillK key
def macL [Inhabited Tab] (key msg : List UInt8) : List UInt8 := sumL (turnL 92 (hblk key) ++ sumL (turnL 54 (hblk key) ++ msg))
theorem fillK_length (k : List UInt8) (h : k.length ≤ 64) : (fillK k).length = 64 := by simp [fillK]; omega
theorem hblk_length [Inhabited Tab] (key : List UInt8) : (hblk key).length = 64 := by
  unfold hblk
  split
  · exact fillK_length _ (by rw [sumL_length]; omega)
  · exact fillK_length _ (by omega)
theorem hblk_short [Inhabited Tab] (key : List UInt8) (h : key.length ≤ 64) : hblk key = fillK key := by rw [hblk, if_neg (by omega)]
theorem hblk_long [Inhabited Tab] (key : List UInt8) (h : 64 < key.length) : hblk key = fillK (sumL key) := by rw [hblk, if_pos h]
theorem hblk_whole [Inhabited Tab] (key : List UInt8) (h : key.length = 64) : hblk key = key := by rw [hblk_short key (by omega), fillK, h]; simp
theorem hblk_hblk [Inhabited Tab] (key : List UInt8) : hblk (hblk key) = hblk key := hblk_whole _ (hblk_length key)
theorem hblk_sum [Inhabited Tab] (key : List UInt8) (h : 64 < key.length) : hblk (sumL key) = hblk key := by
  rw [hblk_long key h, hblk_short _ (by rw [sumL_length]; omega)]
theorem hblk_zero [Inhabited Tab] (key : List UInt8) (h : key.length < 64) : hblk (key ++ [0]) = hblk key := by
  rw [hblk_short key (by omega), hblk_short _ (by simp; omega), fillK, fillK, List.length_append, List.append_assoc]
  congr 1
  rw [show 64 - key.length = (64 - (key.length + 1)) + 1 by omega, List.replicate_succ]
  rfl
theorem macL_hblk [Inhabited Tab] (key msg : List UInt8) : macL (hblk key) msg = macL key msg := by rw [macL, hblk_hblk]; rfl
theorem macL_sum [Inhabited Tab] (key msg : List UInt8) (h : 64 < key.length) : macL (sumL key) msg = macL key msg := by rw [macL, hblk_sum key h]; rfl
theorem macL_zero [Inhabited Tab] (key msg : List UInt8) (h : key.length < 64) : macL (key ++ [0]) msg = macL key msg := by rw [macL, hblk_zero key h]; rfl
theorem macL_length [Inhabited Tab] (key msg : List UInt8) : (macL key msg).length = 32 := sumL_length _
end Go.Proofs.YtknjpmoimjhddaaGreatDoor
