/-
  What the reference's call Block of layer 2 answers: the state behind a block of 64 bytes.
-/
import Derived.Test.YtdokbhcoekffpaaDoorShaRef
namespace Go.Proofs.YtdokbhcoekffpaaDoor
open Go.RowKit
set_option linter.unusedSimpArgs false
attribute [local go_sem] u32_xor_w u32_and_w u32_or_w u32_add_w u32_add_m u32_not_w u32_not_ww u32_mod_w u32_wrap_w

theorem refrot_c (x : UInt32) (c : Nat) (hc : c < 32) (w : World) :
    Calls Tryd.prog 32 #[.int .u32 (x.toNat : Int), .int .i64 (c : Int)] w fun e w' => e = .returned (.int .u32 ((rotR x c).toNat : Int)) ∧ w = w' :=
  (refrot_any x c w).mono fun _ _ ⟨he, hw⟩ => ⟨by rw [he, show ((c : Int) % 32).toNat = c by omega], hw⟩

def SchedRel (W0 : List UInt32) (w : World) (v t : Value) (wr : World) : Prop :=
  ∃ k : Nat, k ≤ 48 ∧ t = .int .i64 ((16 + k : Nat) : Int) ∧ wr.ownsRow w.heap.size 22 1 v (16 + k) ((moreW k W0).map vW) ∧ Below w.heap.size w wr

def RoundRel (s : St) (L : List UInt32) (w : World) (a b c d e f g h i : Value) (wr : World) : Prop :=
  ∃ n : Nat, n ≤ 64 ∧ i = .int .i64 (n : Int) ∧ a = .int .u32 ((St.rounds L n s).a.toNat : Int) ∧ b = .int .u32 ((St.rounds L n s).b.toNat : Int) ∧ c = .int .u32 ((St.rounds L n s).c.toNat : Int) ∧ d = .int .u32 ((St.rounds L n s).d.toNat : Int) ∧
    e = .int .u32 ((St.rounds L n s).e.toNat : Int) ∧ f = .int .u32 ((St.rounds L n s).f.toNat : Int) ∧ g = .int .u32 ((St.rounds L n s).g.toNat : Int) ∧ h = .int .u32 ((St.rounds L n s).h.toNat : Int) ∧ Below w.heap.size w wr

theorem round_next {s : St} {L : List UInt32} {w wr : World} {n : Nat} {S : St} (hn : n < 64) (HS : Hid (St.rounds L (n + 1) s = S.round (kL.getD n 0) (L.getD n 0))) (hb : Below w.heap.size w wr) :
    RoundRel s L w (.int .u32 ((addW (tW S (kL.getD n 0) (L.getD n 0)) (uW S)).toNat : Int)) (.int .u32 (S.a.toNat : Int)) (.int .u32 (S.b.toNat : Int)) (.int .u32 (S.c.toNat : Int)) (.int .u32 ((addW S.d (tW S (kL.getD n 0) (L.getD n 0))).toNat : Int)) (.int .u32 (S.e.toNat : Int)) (.int .u32 (S.f.toNat : Int)) (.int .u32 (S.g.toNat : Int)) (.int .i64 ((n : Int) + 1)) wr :=
  ⟨n + 1, by omega, rfl, by rw [HS.out]; rfl, by rw [HS.out]; rfl, by rw [HS.out]; rfl, by rw [HS.out]; rfl, by rw [HS.out]; rfl, by rw [HS.out]; rfl, by rw [HS.out]; rfl, by rw [HS.out]; rfl, hb⟩

theorem sched_round {W0 : List UInt32} {w wx w1 : World} {k n : Nat} {g cap : Nat} {v : Value} {y : UInt32} (hk : k < 48) (HK : Hid (n = 16 + k)) (hown : wx.ownsRow w.heap.size 22 1 (.slice (some ⟨g, 0, none⟩) n cap) n ((moreW k W0).map vW)) (hb : Below w.heap.size w wx)
    (HN : Hid (nextW (moreW k W0) = y)) (hown' : w1.ownsRow w.heap.size 22 1 v (n + 1) ((moreW k W0).map vW ++ [.int .u32 (y.toNat : Int)])) (hg : wx.grownBy w1 (Value.ownBlock (.slice (some ⟨g, 0, none⟩) n cap))) :
    SchedRel W0 w v (.int .i64 ((n : Int) + 1)) w1 := by
  have e := HK.out
  refine ⟨k + 1, by omega, by congr 1; omega, ?_, hb.grown hg hb.size (fun x hx => (hown.lt x hx).1)⟩
  rw [show 16 + (k + 1) = n + 1 by omega, moreW, List.map_append, HN.out]
  exact hown'

set_option maxRecDepth 100000 in
set_option maxHeartbeats 2000000 in
theorem refblock_any (s : St) (b : List UInt8) (As A : Option Addr) (cs c : Nat) (w : World) (h64 : b.length = 64) (hs : Rd vW w As s.toL) (hb : Rd vB w A b) :
    Calls Tryd.prog 11 #[.slice As 8 cs, .slice A b.length c] w (RetS vW w (s.block b).toL) := by
  obtain ⟨i0, hi, hz0, hz1, hz2⟩ := info_parts info_u32
  have HB : Hid (∀ W0, W0 = wordsL b → s.block b = s.plus (St.rounds (moreW 48 W0) 64 s)) := by rintro W0 rfl; rfl
  have hwl : (wordsL b).length = 16 := by
    have := congrArg List.length (bytesL_wordsL b)
    rw [bytesL_length, List.length_take, h64] at this
    omega
  have H64 := Lib.hid h64
  clear h64
  go_enter Tryd.func11, Tryd.ntmps11
  go_wp2_with fail
  refine (refwords_own b _ _ _ hb (by have := H64.out; omega)).mono ?_
  rintro e w1 ⟨v1, rfl, hown1, hbel1⟩
  obtain ⟨W0, e⟩ : ∃ W0, W0 = wordsL b := ⟨_, rfl⟩
  have HB' := Lib.hid (HB.out W0 e)
  rw [← e] at hown1 hwl
  rw [hwl] at hown1
  have HW := Lib.hid hwl
  clear HB e hb hwl
  go_wp2_with fail
  go_loopw [5, 6] (fun v t wr => SchedRel W0 w v t wr) (fun _ t _ => 64 - (intOf t).toNat)
  case atStart => exact ⟨0, Nat.zero_le _, rfl, hown1, hbel1⟩
  case round =>
    clear hown1 hbel1
    obtain ⟨k, hk, rfl, hown, hbel⟩ := hrel
    by_cases hlt : k < 48
    · obtain ⟨g, cap, rfl, hbg, hlt'⟩ := hown.form (by omega)
      have hcells := hown.cells (g := g) rfl
      have hll : (moreW k W0).length = 16 + k := by rw [moreW_length, HW.out]
      have hc : ∀ j, j < 16 + k → wr.cell? ⟨g, j, none⟩ = some (.int .u32 (((moreW k W0).getD j 0).toNat : Int)) := fun j hj => by
        have := hcells j (vW ((moreW k W0).getD j 0)) (by simp [List.getD, hll, hj])
        rw [show (⟨g, 0, none⟩ : Addr).add j = ⟨g, j, none⟩ by unfold Addr.add; split <;> simp_all] at this
        exact this
      have HN : Hid (nextW (moreW k W0) = addW (addW (addW (sig1 ((moreW k W0).getD (16 + k - 2) 0)) ((moreW k W0).getD (16 + k - 7) 0)) (sig0 ((moreW k W0).getD (16 + k - 15) 0))) ((moreW k W0).getD (16 + k - 16) 0)) := by unfold Hid nextW; rw [hll]
      obtain ⟨n, hn⟩ : ∃ n, n = 16 + k := ⟨_, rfl⟩
      have HK := Lib.hid hn
      have h15 := hc (16 + k - 15) (by omega)
      have h2 := hc (16 + k - 2) (by omega)
      have h7 := hc (16 + k - 7) (by omega)
      have h16 := hc (16 + k - 16) (by omega)
      have H7 : Hid (((moreW k W0).map vW)[16 + k - 7]? = some (.int .u32 (((moreW k W0).getD (16 + k - 7) 0).toNat : Int))) := by unfold Hid; simp [List.getD, hll, vW, show 16 + k - 7 < 16 + k by omega]
      have H16 : Hid (((moreW k W0).map vW)[16 + k - 16]? = some (.int .u32 (((moreW k W0).getD (16 + k - 16) 0).toNat : Int))) := by unfold Hid; simp [List.getD, hll, vW, show 16 + k - 16 < 16 + k by omega]
      rw [← hn] at h15 h2 h7 h16 HN hown H7 H16 ⊢
      have hn1 : 16 ≤ n := by omega
      have hn2 : n < 64 := by omega
      clear hn hc hcells hll
      generalize (moreW k W0).getD (n - 15) 0 = x15 at h15 HN
      generalize (moreW k W0).getD (n - 2) 0 = x2 at h2 HN
      generalize (moreW k W0).getD (n - 7) 0 = x7 at h7 HN H7
      generalize (moreW k W0).getD (n - 16) 0 = x16 at h16 HN H16
      go_wp2_with fail
      refine (refrot_c x15 7 (by omega) _).mono ?_
      rintro e w' ⟨rfl, rfl⟩
      go_wp2_with fail
      refine (refrot_c x15 18 (by omega) _).mono ?_
      rintro e w' ⟨rfl, rfl⟩
      go_wp2_with fail
      refine (down_any x15 3 (by omega) _).mono ?_
      rintro e w' ⟨rfl, rfl⟩
      go_wp2_with fail
      refine (refrot_c x2 17 (by omega) _).mono ?_
      rintro e w' ⟨rfl, rfl⟩
      go_wp2_with fail
      refine (refrot_c x2 19 (by omega) _).mono ?_
      rintro e w' ⟨rfl, rfl⟩
      go_wp2_with fail
      refine (down_any x2 10 (by omega) _).mono ?_
      rintro e w' ⟨rfl, rfl⟩
      go_wp2_with fail
      have j7 : IntKind.i64.wrap ((n : Int) - 7) = (n : Int) - 7 := by rw [IntKind.wrap_i64]; omega
      have j16 : IntKind.i64.wrap ((n : Int) - 16) = (n : Int) - 16 := by rw [IntKind.wrap_i64]; omega
      have m7 : (7 : Int) ≤ (n : Int) := by omega
      have m16 : (16 : Int) ≤ (n : Int) := by omega
      have k7 : (0 : Int) ≤ (n : Int) - 7 := by omega
      have k16 : (0 : Int) ≤ (n : Int) - 16 := by omega
      have l7 : (n : Int) - 7 < (n : Int) := by omega
      have l16 : (n : Int) - 16 < (n : Int) := by omega
      have t7 : ((n : Int) - 7).toNat = n - 7 := by omega
      have t16 : ((n : Int) - 16).toNat = n - 16 := by omega
      refine wp_region_plan_of (fun W => Below w.heap.size wr W ∧ W.cell? ⟨g, n - 7, none⟩ = some (.int .u32 (x7.toNat : Int)) ∧ W.cell? ⟨g, n - 16, none⟩ = some (.int .u32 (x16.toNat : Int))) (.step 0 false (.step 1 false (.step 2 false (.step 3 false (.step 4 false (.step 5 false (.step 6 false (.step 7 false (.step 8 false (.step 9 false (.step 10 false (.step 11 false (.step 12 false (.step 13 false (.step 14 false (.step 15 false (.step 16 true (.step 17 true (.step 18 false (.nil)))))))))))))))))))) ⟨(Below.refl _ _).drew, h7, h16⟩ (by kernel_rfl) (by kernel_rfl) (by rfl) (by kernel_rfl) ?_
      iterate 16 (refine plan_read rfl (by rfl) (v := ?_) ?_ ?_; rotate_left 1; (intro W hW; (try dsimp only at hW); obtain ⟨hW0, hW1⟩ := hW; go_simp <;> with_reducible rfl); simp only [List.getElem_toArray, List.getElem_cons_zero, List.getElem_cons_succ, Act.put, List.setIfInBounds_toArray, List.set_cons_zero, List.set_cons_succ])
      clear j7 j16 m7 m16 k7 k16 l7 l16 t7 t16
      have hB : w.heap.size ≤ wr.heap.size := hbel.size
      have hgl : g < wr.heap.size := hlt'
      (refine plan_make_of rfl (by rfl) (fun K hK => ?_); go_simp; refine hK.out _ _ ⟨((Below.refl _ wr).alloc hB _).drew, (World.cell?_alloc_lt wr _ ⟨g, n - 7, none⟩ hgl).trans h7, (World.cell?_alloc_lt wr _ ⟨g, n - 16, none⟩ hgl).trans h16⟩ ?_; clear hK K)
      refine plan_make_of rfl (by rfl) (fun K hK => ?_)
      refine wp_append_keep _ (.tmp 58) (.tmp 74) 34 (by rfl) w.heap.size 22 i0 (.int .u32 0) 4 Tryd.underlying34 hi hz0 hz1 hz2 rfl _ n ((moreW k W0).map vW) (by rfl) (hown.alloc _).drew ⟨wr.heap.size, 0, none⟩ 1 1 [.int .u32 ((addW (addW (addW (sig1 x2) x7) (sig0 x15)) x16).toNat : Int)] (by rfl) rfl (cell_one_new _ _ _) (by intro u hu; simp at hu; subst hu; rfl) (by unfold maxLen; omega) (by omega) (by simp; omega) ?_
      intro v' w1 hown' hgrow' hkeep
      simp only [List.getElem_toArray, List.getElem_cons_zero, List.getElem_cons_succ, Act.put, List.setIfInBounds_toArray, List.set_cons_zero, List.set_cons_succ]
      refine hK.out _ _ ⟨(((Below.refl _ wr).alloc hB _).drew).grown hgrow' (by simp; omega) (fun x hx => (hown.lt x hx).1), hkeep g rfl _ _ H7.out, hkeep g rfl _ _ H16.out⟩ ?_
      clear hK K hkeep
      iterate 1 (refine plan_read rfl (by rfl) (v := ?_) ?_ ?_; rotate_left 1; (intro W hW; (try dsimp only at hW); obtain ⟨hW0, hW1⟩ := hW; go_simp <;> with_reducible rfl); simp only [List.getElem_toArray, List.getElem_cons_zero, List.getElem_cons_succ, Act.put, List.setIfInBounds_toArray, List.set_cons_zero, List.set_cons_succ])
      refine plan_done ?_
      have HR := Lib.hid (sched_round hlt HK ((hown.alloc _).drew) ((hbel.alloc hB _).drew) HN hown' hgrow')
      clear hown' hgrow' hown HN H7 H16 h7 h16 h15 h2 hB hgl hlt' hbel
      go_wp2_with fail
      go_roundw
      case rel => exact HR.out
      case measure => simp [intOf]; omega
    · have hk48 : k = 48 := by omega
      subst hk48
      simp only [Nat.reduceAdd, Int.cast_ofNat_Int] at hown ⊢
      obtain ⟨g, cap, rfl, hbg, hgl⟩ := hown.form (by omega)
      have hcells := hown.cells (g := g) rfl
      have hll : (moreW 48 W0).length = 64 := by rw [moreW_length, HW.out]
      obtain ⟨L, eL⟩ : ∃ L, L = moreW 48 W0 := ⟨_, rfl⟩
      rw [← eL] at hcells hll
      have HB2 : Hid (s.block b = s.plus (St.rounds L 64 s)) := by unfold Hid; rw [eL]; exact HB'.out
      have hrow : ∀ n, n < 64 → wr.cell? ⟨g, n, none⟩ = some (.int .u32 ((L.getD n 0).toNat : Int)) := fun j hj => by
        have := hcells j (vW (L.getD j 0)) (by simp [List.getD, hll, hj])
        rw [show (⟨g, 0, none⟩ : Addr).add j = ⟨g, j, none⟩ by unfold Addr.add; split <;> simp_all] at this
        exact this
      have HRow := Lib.hid hrow
      clear hown hcells eL HB' HW hrow hll
      obtain ⟨bs, os, rfl, hcs⟩ := hs (by simp [St.toL])
      have hbs : bs < w.heap.size := World.block_lt_of_cell? w _ (hcs 0 (by simp [St.toL]))
      have st0 : ∀ W, Below w.heap.size w W → W.cell? ⟨bs, os, none⟩ = some (.int .u32 (s.a.toNat : Int)) := fun W hW => (hW.cell (p := ⟨bs, os, none⟩) hbs).trans (hcs 0 (by simp [St.toL]))
      have st1 : ∀ W, Below w.heap.size w W → W.cell? ⟨bs, os + 1, none⟩ = some (.int .u32 (s.b.toNat : Int)) := fun W hW => (hW.cell (p := ⟨bs, os + 1, none⟩) hbs).trans (hcs 1 (by simp [St.toL]))
      have st2 : ∀ W, Below w.heap.size w W → W.cell? ⟨bs, os + 2, none⟩ = some (.int .u32 (s.c.toNat : Int)) := fun W hW => (hW.cell (p := ⟨bs, os + 2, none⟩) hbs).trans (hcs 2 (by simp [St.toL]))
      have st3 : ∀ W, Below w.heap.size w W → W.cell? ⟨bs, os + 3, none⟩ = some (.int .u32 (s.d.toNat : Int)) := fun W hW => (hW.cell (p := ⟨bs, os + 3, none⟩) hbs).trans (hcs 3 (by simp [St.toL]))
      have st4 : ∀ W, Below w.heap.size w W → W.cell? ⟨bs, os + 4, none⟩ = some (.int .u32 (s.e.toNat : Int)) := fun W hW => (hW.cell (p := ⟨bs, os + 4, none⟩) hbs).trans (hcs 4 (by simp [St.toL]))
      have st5 : ∀ W, Below w.heap.size w W → W.cell? ⟨bs, os + 5, none⟩ = some (.int .u32 (s.f.toNat : Int)) := fun W hW => (hW.cell (p := ⟨bs, os + 5, none⟩) hbs).trans (hcs 5 (by simp [St.toL]))
      have st6 : ∀ W, Below w.heap.size w W → W.cell? ⟨bs, os + 6, none⟩ = some (.int .u32 (s.g.toNat : Int)) := fun W hW => (hW.cell (p := ⟨bs, os + 6, none⟩) hbs).trans (hcs 6 (by simp [St.toL]))
      have st7 : ∀ W, Below w.heap.size w W → W.cell? ⟨bs, os + 7, none⟩ = some (.int .u32 (s.h.toNat : Int)) := fun W hW => (hW.cell (p := ⟨bs, os + 7, none⟩) hbs).trans (hcs 7 (by simp [St.toL]))
      clear hcs hs
      go_wp2_with fail
      have hBase : Below w.heap.size w wr.drew := hbel.drew
      refine wp_region_plan (.step 0 false (.step 1 false (.step 2 false (.step 3 false (.step 4 false (.step 5 false (.step 6 false (.step 7 false (.step 8 false (.step 9 false (.step 10 false (.step 11 false (.step 12 false (.step 13 false (.step 14 false (.step 15 false (.nil))))))))))))))))) (by kernel_rfl) (by kernel_rfl) (by rfl) (by kernel_rfl) ?_
      iterate 16 (refine plan_read rfl (by rfl) (v := ?_) ?_ ?_; rotate_left 1; (intro W hW; have hW0 := below_step hBase hW; (try dsimp only at hW); go_simp <;> with_reducible rfl); simp only [List.getElem_toArray, List.getElem_cons_zero, List.getElem_cons_succ, Act.put, List.setIfInBounds_toArray, List.set_cons_zero, List.set_cons_succ])
      refine plan_done ?_
      go_wp2_with fail
      have hBase : Below w.heap.size w wr.drew.drew := hbel.drew.drew
      refine wp_region_plan (.step 0 false (.step 1 false (.step 2 false (.step 3 false (.step 4 false (.step 5 false (.step 6 false (.step 7 false (.step 8 false (.step 9 false (.step 10 false (.step 11 false (.step 12 false (.step 13 false (.step 14 false (.step 15 false (.nil))))))))))))))))) (by kernel_rfl) (by kernel_rfl) (by rfl) (by kernel_rfl) ?_
      iterate 16 (refine plan_read rfl (by rfl) (v := ?_) ?_ ?_; rotate_left 1; (intro W hW; have hW0 := below_step hBase hW; (try dsimp only at hW); go_simp <;> with_reducible rfl); simp only [List.getElem_toArray, List.getElem_cons_zero, List.getElem_cons_succ, Act.put, List.setIfInBounds_toArray, List.set_cons_zero, List.set_cons_succ])
      refine plan_done ?_
      go_wp2_with fail
      have HRow2 : Hid (∀ n, n < 64 → wr.drew.drew.cell? ⟨g, n, none⟩ = some (.int .u32 ((L.getD n 0).toNat : Int))) := HRow.out
      have hgl2 : g < wr.drew.drew.heap.size := hgl
      generalize wr.drew.drew = wx at HRow2 hgl2 hBase
      clear HRow hgl hbel hbg
      have HBx := Lib.hid hBase
      clear hBase
      have HSt := Lib.hid (And.intro st0 (And.intro st1 (And.intro st2 (And.intro st3 (And.intro st4 (And.intro st5 (And.intro st6 st7)))))))
      clear st0 st1 st2 st3 st4 st5 st6 st7
      go_loopw [11, 12, 13, 14, 15, 16, 17, 18, 19] (fun a b c d e f g h i wr => RoundRel s L wx a b c d e f g h i wr) (fun _ _ _ _ _ _ _ _ i _ => 64 - (intOf i).toNat)
      case atStart => exact ⟨0, by omega, rfl, rfl, rfl, rfl, rfl, rfl, rfl, rfl, rfl, Below.refl _ _⟩
      case round =>
        obtain ⟨n, hn, rfl, rfl, rfl, rfl, rfl, rfl, rfl, rfl, rfl, hbr⟩ := hrel
        by_cases hlt : n < 64
        · have hrow : ∀ W, Below wx.heap.size wx W → W.cell? ⟨g, n, none⟩ = some (.int .u32 ((L.getD n 0).toNat : Int)) := fun W hW => (hW.cell (p := ⟨g, n, none⟩) hgl2).trans (HRow2.out n hlt)
          have HS : Hid (St.rounds L (n + 1) s = (St.rounds L n s).round (kL.getD n 0) (L.getD n 0)) := rfl
          generalize St.rounds L n s = S at HS
          have HS2 : Hid (∀ wr, Below wx.heap.size wx wr → RoundRel s L wx (.int .u32 ((addW (tW S (kL.getD n 0) (L.getD n 0)) (uW S)).toNat : Int)) (.int .u32 (S.a.toNat : Int)) (.int .u32 (S.b.toNat : Int)) (.int .u32 (S.c.toNat : Int)) (.int .u32 ((addW S.d (tW S (kL.getD n 0) (L.getD n 0))).toNat : Int)) (.int .u32 (S.e.toNat : Int)) (.int .u32 (S.f.toNat : Int)) (.int .u32 (S.g.toNat : Int)) (.int .i64 ((n : Int) + 1)) wr) := fun wr hb => round_next hlt HS hb
          clear HS
          generalize L.getD n 0 = x at hrow HS2
          have HC := Lib.hid (const_any n hlt)
          generalize kL.getD n 0 = kc at HC HS2
          obtain ⟨sa, sb, sc, sd, se, sf, sg, sh⟩ := S
          dsimp only at HS2 ⊢
          have i0' : (0 : Int) ≤ (n : Int) := by omega
          have i1' : (n : Int) < 64 := by omega
          go_wp2_with fail
          refine (refrot_c se 6 (by omega) _).mono ?_
          rintro e w' ⟨rfl, rfl⟩
          go_wp2_with fail
          refine (refrot_c se 11 (by omega) _).mono ?_
          rintro e w' ⟨rfl, rfl⟩
          go_wp2_with fail
          refine (refrot_c se 25 (by omega) _).mono ?_
          rintro e w' ⟨rfl, rfl⟩
          go_wp2_with fail
          have hBase : Below wx.heap.size wx wr.drew := hbr.drew
          refine wp_region_plan (.step 0 false (.step 1 false (.step 2 false (.step 3 false (.step 4 false (.step 5 false (.step 8 false (.step 9 false (.step 10 false (.step 11 false (.step 6 true (.step 7 false (.step 12 false (.step 13 false (.nil))))))))))))))) (by kernel_rfl) (by kernel_rfl) (by rfl) (by kernel_rfl) ?_
          iterate 10 (refine plan_read rfl (by rfl) (v := ?_) ?_ ?_; rotate_left 1; (intro W hW; have hW0 := below_step hBase hW; (try dsimp only at hW); go_simp <;> with_reducible rfl); simp only [List.getElem_toArray, List.getElem_cons_zero, List.getElem_cons_succ, Act.put, List.setIfInBounds_toArray, List.set_cons_zero, List.set_cons_succ])
          (refine plan_make rfl (by rfl) (fun K hK => ?_); go_simp; refine (HC.out _).mono ?_; rintro e w' ⟨rfl, hbx⟩; refine hK.out _ _ hbx ?_; clear hK K; replace hBase := below_step hBase hbx)
          iterate 3 (refine plan_read rfl (by rfl) (v := ?_) ?_ ?_; rotate_left 1; (intro W hW; have hW0 := below_step hBase hW; (try dsimp only at hW); go_simp <;> with_reducible rfl); simp only [List.getElem_toArray, List.getElem_cons_zero, List.getElem_cons_succ, Act.put, List.setIfInBounds_toArray, List.set_cons_zero, List.set_cons_succ])
          refine plan_done ?_
          clear hbr hrow
          go_wp2_with fail
          refine (refrot_c sa 2 (by omega) _).mono ?_
          rintro e w' ⟨rfl, rfl⟩
          go_wp2_with fail
          refine (refrot_c sa 13 (by omega) _).mono ?_
          rintro e w' ⟨rfl, rfl⟩
          go_wp2_with fail
          refine (refrot_c sa 22 (by omega) _).mono ?_
          rintro e w' ⟨rfl, rfl⟩
          go_wp2_with fail
          have HR := Lib.hid (HS2.out _ hBase)
          clear HS2
          go_roundw
          case rel => first | exact HR.out | ((repeat apply Exists.intro); exact ⟨HR.out, rfl⟩)
          case measure => simp [intOf]; omega
        · have hn64 : n = 64 := by omega
          subst hn64
          obtain ⟨st0, st1, st2, st3, st4, st5, st6, st7⟩ := HSt.out
          have HE : Hid (s.block b = s.plus (St.rounds L 64 s)) := HB2.out
          generalize St.rounds L 64 s = S at HE
          obtain ⟨sa, sb, sc, sd, se, sf, sg, sh⟩ := S
          dsimp only
          have hB0 := HBx.out
          go_wp2_with fail
          have hBase : Below w.heap.size w wr.drew := (below_step hB0 hbr).drew
          clear hB0
          refine wp_region_plan (.step 0 false (.step 1 false (.step 2 false (.step 3 false (.step 4 false (.step 5 false (.step 6 false (.step 7 false (.step 8 false (.step 9 false (.step 10 false (.step 11 false (.step 12 false (.step 13 false (.step 14 false (.step 15 false (.step 16 false (.step 17 false (.step 18 false (.step 19 false (.step 20 false (.step 21 false (.step 22 false (.step 23 false (.step 24 false (.step 25 false (.step 26 false (.step 27 false (.step 28 false (.step 29 false (.step 30 false (.step 31 false (.step 32 false (.step 33 false (.step 34 false (.step 35 false (.step 36 false (.step 37 false (.step 38 false (.step 39 false (.step 40 true (.step 41 false (.nil))))))))))))))))))))))))))))))))))))))))))) (by kernel_rfl) (by kernel_rfl) (by rfl) (by kernel_rfl) ?_
          iterate 40 (refine plan_read rfl (by rfl) (v := ?_) ?_ ?_; rotate_left 1; (intro W hW; have hW0 := below_step hBase hW; (try dsimp only at hW); go_simp <;> with_reducible rfl); simp only [List.getElem_toArray, List.getElem_cons_zero, List.getElem_cons_succ, Act.put, List.setIfInBounds_toArray, List.set_cons_zero, List.set_cons_succ])
          (refine plan_make rfl (by rfl) (fun K hK => ?_); go_simp; refine hK.out _ _ (below_from_drew (below_new (Below.refl _ wr) _).drew) ?_; clear hK K)
          have hBase : Below w.heap.size w _ := below_new (below_step HBx.out hbr) (.cells #[Value.int IntKind.u32 ((addW s.a sa).toNat : Int), Value.int IntKind.u32 ((addW s.b sb).toNat : Int), Value.int IntKind.u32 ((addW s.c sc).toNat : Int), Value.int IntKind.u32 ((addW s.d sd).toNat : Int), Value.int IntKind.u32 ((addW s.e se).toNat : Int), Value.int IntKind.u32 ((addW s.f sf).toNat : Int), Value.int IntKind.u32 ((addW s.g sg).toNat : Int), Value.int IntKind.u32 ((addW s.h sh).toNat : Int)] 22)
          have hBase := hBase.drew
          clear st0 st1 st2 st3 st4 st5 st6 st7
          iterate 1 (refine plan_read rfl (by rfl) (v := ?_) ?_ ?_; rotate_left 1; (intro W hW; have hW0 := below_step hBase hW; (try dsimp only at hW); go_simp <;> with_reducible rfl); simp only [List.getElem_toArray, List.getElem_cons_zero, List.getElem_cons_succ, Act.put, List.setIfInBounds_toArray, List.set_cons_zero, List.set_cons_succ])
          refine plan_done ?_
          go_wp2_with fail
          go_ret
          rw [HE.out]
          refine ⟨_, 8, rfl, Nat.le_refl _, ?_, hBase⟩
          exact Rd.new (f := vW) wr (St.plus s ⟨sa, sb, sc, sd, se, sf, sg, sh⟩).toL _ _ rfl
end Go.Proofs.YtdokbhcoekffpaaDoor
