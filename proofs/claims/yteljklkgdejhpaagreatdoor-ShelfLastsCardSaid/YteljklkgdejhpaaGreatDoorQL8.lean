/-
  What own.Bundle answers: the same bundle, all of it in memory of the call's own. Conditions: bounds on lengths, as typed.
-/
import Derived.Test.YteljklkgdejhpaaGreatDoorQL7
set_option linter.unusedSimpArgs false
set_option linter.unusedVariables false
set_option maxRecDepth 100000
set_option maxHeartbeats 8000000
namespace Go.Proofs.YteljklkgdejhpaaGreatDoor
open Go.RowKit
def zpU (w : World) (xs : List ED) (n : Nat) (e : Ending) (w' : World) : Prop := ∃ A c, e = .returned (.slice A n c) ∧ n ≤ c ∧ w'.ownsRow w.heap.size 91 3 (.slice A n c) n (zbc xs) ∧ Below w.heap.size w w'
theorem zll (xs : List ED) (n : Nat) (A : Option Addr) (c : Nat) (w : World) (HN : Hid (xs.length = n)) (hr : RdE w A xs) (hl : n ≤ 1000000000) : Calls Tryz.prog 89 #[.slice A n c] w (zpU w xs n) := by
 have e1 := HN.out
 subst e1
 refine (zjS xs A c w hr hl).mono ?_
 rintro e w' ⟨v, rfl, h1, h2⟩
 obtain ⟨A', c', rfl, hc⟩ := zeV h1
 exact ⟨A', c', rfl, hc, h1, h2⟩
def zpV (w : World) (l : List Gn) (n : Nat) (e : Ending) (w' : World) : Prop := ∃ A c, e = .returned (.slice A n c) ∧ n ≤ c ∧ RdG w' A l ∧ (∀ a, A = some a → w.heap.size ≤ a.block) ∧ Below w.heap.size w w'
theorem zm4 (l : List Gn) (n : Nat) (A : Option Addr) (c : Nat) (w : World) (HN : Hid (l.length = n)) (hr : RdG w A l) (hl : n ≤ 1000000000) : Calls Tryz.prog 91 #[.slice A n c] w (zpV w l n) := by
 have e1 := HN.out
 subst e1
 refine (zlb l A c w hr hl).mono ?_
 rintro e w' ⟨v, rfl, h1, h2⟩
 obtain ⟨A', c', rfl, hc, h3, h4⟩ := zg6 h1
 exact ⟨A', c', rfl, hc, h3, h4, h2⟩
def zpW (w : World) (v n ec g gc : Nat) (E gA : Option Addr) (es : List ED) (B1 : Nat) (i : Value) (wr : World) : Prop :=
 ∃ (k : Nat) (zs : List ED), i = .int .i64 (k : Int) ∧ k ≤ n ∧ Hid (zs.length = k) ∧ Hid (conE zs = conE (es.take k)) ∧ Row wr w.heap.size 32 [.int .u64 (v : Int), .slice E n ec, .slice gA g gc] ∧ Row wr (w.heap.size + 1) 32 [.int .u64 0, .slice none 0 0, .slice none 0 0] ∧
  (0 < n → ∃ q o, E = some ⟨q, o, none⟩ ∧ Hid (o = 0) ∧ w.heap.size + 2 ≤ q ∧ q < B1 ∧ CelE wr q 91 (zs ++ es.drop k)) ∧ okD wr zs ∧ newD B1 zs ∧ Below w.heap.size w wr ∧ B1 ≤ wr.heap.size
def twoS (a b : Addr) (u v : Value) (W : World) : Prop := W.cell? a = some u ∧ W.cell? b = some v
def zpq (w : World) (v : Nat) (es : List ED) (gs : List Gn) (n g : Nat) (e : Ending) (w' : World) : Prop :=
 ∃ (ys : List ED) (E : Option Addr) (ec : Nat) (gA : Option Addr) (gc : Nat), e = .returned (aggB v E n ec gA g gc) ∧ Hid (conE ys = conE es) ∧ Hid (ys.length = n) ∧ n ≤ ec ∧ g ≤ gc ∧ RdE w' E ys ∧ okD w' ys ∧ RdG w' gA gs ∧ (∀ a, E = some a → w.heap.size ≤ a.block) ∧ newD w.heap.size ys ∧ (∀ a, gA = some a → w.heap.size ≤ a.block) ∧ Below w.heap.size w w'
theorem ziK (v : Nat) (es : List ED) (gs : List Gn) (n ec g gc : Nat) (eA gA : Option Addr) (w : World) (HN : Hid (es.length = n)) (HG : Hid (gs.length = g)) (hre : RdE w eA es) (hoe : okD w es) (hrg : RdG w gA gs) (hn : n ≤ 1000000) (hg : g ≤ 1000000) (HLS : Hid (∀ e ∈ es, e.s.length ≤ 70368744177664)) :
  Calls Tryz.prog 52 #[aggB v eA n ec gA g gc] w (zpq w v es gs n g) := by
 obtain ⟨hR0, hR1, hB0⟩ := zaB w 32 32 [.int .u64 (v : Int), .slice eA n ec, .slice gA g gc] [.int .u64 0, .slice none 0 0, .slice none 0 0] _ _ rfl rfl
 have HRE := Lib.hid hre
 have HOE := Lib.hid hoe
 have HRG := Lib.hid hrg
 clear hre hoe hrg
 unfold aggB
 go_enter Tryz.func52, Tryz.ntmps52
 go_upto_region 1 with fail
 generalize (w.alloc (.cells [.int .u64 (v : Int), .slice eA n ec, .slice gA g gc].toArray 32)).alloc (.cells [.int .u64 0, .slice none 0 0, .slice none 0 0].toArray 32) = w1 at hR0 hR1 hB0 ⊢
 have hlt1 := hR1.lt
 have k1 := hR0.cell (i := 1) rfl
 go_wp2_with fail
 refine (zll es n eA ec _ HN (HRE.out.keep hB0) (by omega)).mono ?_
 rintro e w2 ⟨E, c2, rfl, hc2, hown2, hb2⟩
 replace hR0 := hR0.later hb2
 replace hR1 := hR1.later hb2
 replace hB0 := zaa hB0 hb2
 have hs2 := hb2.size
 have f2 := hR0.frozen 1
 replace k1 : w2.cell? ⟨w.heap.size, 1, none⟩ = some (.slice eA n ec) := hR0.cell rfl
 have hR2 : Row (w2.setCell ⟨w.heap.size, 1, none⟩ (.slice E n c2)) w.heap.size 32 [.int .u64 (v : Int), .slice E n c2, .slice gA g gc] := hR0.setCell 1 _
 have hR3 := hR1.setCell_other (p := ⟨w.heap.size, 1, none⟩) (by show w.heap.size + 1 ≠ w.heap.size; omega) (.slice E n c2)
 have hX := zdB (w' := w2.setCell ⟨w.heap.size, 1, none⟩ (.slice E n c2)) hown2 (fun b hb _ => Below.heap_setCell w2 ⟨w.heap.size, 1, none⟩ _ b (by show b ≠ w.heap.size; omega))
 have hB3 : Below w.heap.size w (w2.setCell ⟨w.heap.size, 1, none⟩ (.slice E n c2)) := hB0.setCell (p := ⟨w.heap.size, 1, none⟩) (Nat.le_refl _) _
 have hs3 : w.heap.size + 2 ≤ (w2.setCell ⟨w.heap.size, 1, none⟩ (.slice E n c2)).heap.size := by simp [World.setCell]; omega
 clear hB0 hb2
 go_upto_region 2 with fail
 clear hR0 hR1 hown2 f2 k1
 generalize w2.setCell ⟨w.heap.size, 1, none⟩ (.slice E n c2) = w3 at hR2 hR3 hX hB3 hs3 ⊢
 have k1 := hR2.cell (i := 1) rfl
 have HEF : Hid (∀ a, E = some a → w.heap.size ≤ a.block) := fun a ha => by
  have := (hX.lt a.block (by rw [ha]; rfl)).1
  omega
 go_upto_region 3 with fail
 go_loopw [12] (fun i wr => zpW w v n c2 g gc E gA es w3.heap.size i wr) (fun i _ => n - (intOf i).toNat)
 case atStart =>
  refine ⟨0, [], rfl, Nat.zero_le _, Lib.hid rfl, Lib.hid rfl, hR2, hR3, fun h0 => ?_, okD.nil _, (fun y hy => by cases hy), hB3, Nat.le_refl _⟩
  obtain ⟨q, e1, h1, h2⟩ := zjT hX h0
  exact ⟨q, 0, e1, Lib.hid rfl, by omega, h1.lt, h1⟩
 case round =>
  clear hR2 hR3 hX hB3 k1
  obtain ⟨k, zs, rfl, hk, HZ, HC, hRr, hRz, hcel, hoz, hnz, hB, hsz⟩ := hrel
  by_cases hkn : k < n
  ·obtain ⟨q, o, rfl, HO, hq1, hq2, hce⟩ := hcel (by omega)
   clear hcel
   have hke : k < es.length := by rw [HN.out]; exact hkn
   have hkz : k < (zs ++ es.drop k).length := by rw [List.length_append, HZ.out, List.length_drop]; omega
   have hget : (zs ++ es.drop k)[k]'hkz = es[k]'hke := by
    rw [List.getElem_append_right (by rw [HZ.out]; exact Nat.le_refl _)]
    simp only [HZ.out, Nat.sub_self, List.getElem_drop, Nat.add_zero]
   have hat := hce.at3 hkz
   rw [hget] at hat
   have hxok := HOE.out _ (List.getElem_mem hke)
   have hxl := HLS.out _ (List.getElem_mem hke)
   obtain ⟨y, hy⟩ : ∃ y, es[k]'hke = y := ⟨_, rfl⟩
   rw [hy] at hat hxok hxl hget
   have HGET := Lib.hid hget
   have HY := Lib.hid hy
   clear hget hy
   obtain ⟨yt, ye, yA, yc, ys⟩ := y
   obtain ⟨hxc, hxr⟩ := hxok
   dsimp only at hxc hxr hxl
   obtain ⟨yl, hyl⟩ : ∃ l, ys.length = l := ⟨_, rfl⟩
   have HYL := Lib.hid hyl
   have hrng : wr.rangeAt q (o + k * 3) [.int .u64 (yt : Int), .int .u64 (ye : Int), .slice yA yl yc] := fun j u hu => by
    rw [HO.out, Nat.zero_add]
    unfold ED.at2 at hat
    dsimp only at hat
    rw [hyl] at hat
    match j, hu with
    | 0, hu => injection hu with hu; subst hu; exact hat.1
    | 1, hu => injection hu with hu; subst hu; exact hat.2.1
    | 2, hu => injection hu with hu; subst hu; exact hat.2.2
   rw [hyl] at hxc hxl
   clear hat hyl
   have i2 : (0 : Int) ≤ (k : Int) := by omega
   have i3 : (k : Int) < (n : Int) := by omega
   have hRb : Row (wr.alloc (.cells #[.int .u64 0, .int .u64 0, .slice none 0 0] 91)) wr.heap.size 91 [.int .u64 0, .int .u64 0, .slice none 0 0] := Row.new wr _ _ _ rfl
   go_upto_region 5 with (first
    | (refine wpList_load_mid rfl 91 (.tmp 15) rfl q (o + k * 3) rfl [.int .u64 (yt : Int), .int .u64 (ye : Int), .slice yA yl yc] _ hrng Tryz.underlying91 rfl (by exact zbK) ?_)
    | (refine zab rfl 91 (.tmp 4) (.tmp 16) rfl (wr.heap.size) rfl ([.int .u64 (yt : Int), .int .u64 (ye : Int), .slice yA yl yc]) rfl _ _ (hRb) (by exact zbK) rfl (zaK _ _ _ rfl rfl rfl) ?_))
   have hRy := hRb.setRow [.int .u64 (yt : Int), .int .u64 (ye : Int), .slice yA yl yc]
   have hbn : Below wr.heap.size wr ((wr.alloc (.cells #[.int .u64 0, .int .u64 0, .slice none 0 0] 91)).setRow wr.heap.size [.int .u64 (yt : Int), .int .u64 (ye : Int), .slice yA yl yc].toArray) := below_setRow (zak (Below.refl _ _) _) (Nat.le_refl _) _
   have hsa : wr.heap.size ≤ ((wr.alloc (.cells #[.int .u64 0, .int .u64 0, .slice none 0 0] 91)).setRow wr.heap.size [.int .u64 (yt : Int), .int .u64 (ye : Int), .slice yA yl yc].toArray).heap.size := hbn.size
   generalize (wr.alloc (.cells #[.int .u64 0, .int .u64 0, .slice none 0 0] 91)).setRow wr.heap.size [.int .u64 (yt : Int), .int .u64 (ye : Int), .slice yA yl yc].toArray = wb at hRy hbn hsa ⊢
   replace hce := hce.later hbn
   replace hRr := hRr.later hbn
   replace hRz := hRz.later hbn
   replace hoz := hoz.keep hbn
   replace hB := zaa hB hbn
   have hgy := hRy.lt
   have hyA := hxr.keep hB
   clear hbn hRb hrng hxr
   generalize wr.heap.size = gx at hRy hgy hsz hsa ⊢
   have hS : twoS ⟨w.heap.size, 1, none⟩ ⟨gx, 2, none⟩ (.slice (some ⟨q, o, none⟩) n c2) (.slice yA yl yc) wb.drew := ⟨hRr.cell rfl, hRy.cell rfl⟩
   have hce' : CelE wb.drew q 91 (zs ++ es.drop k) := hce
   have hRr' : Row wb.drew w.heap.size 32 [.int .u64 (v : Int), .slice (some ⟨q, o, none⟩) n c2, .slice gA g gc] := hRr
   have hRz' : Row wb.drew (w.heap.size + 1) 32 [.int .u64 0, .slice none 0 0, .slice none 0 0] := hRz
   have hoz' := hoz.keep ((Below.refl _ wb).drew)
   have hB' := hB.drew
   have hyA' := hyA.keep ((Below.refl _ wb).drew)
   have hsb : gx < wb.drew.heap.size := hgy
   refine zah (twoS ⟨w.heap.size, 1, none⟩ ⟨gx, 2, none⟩ (.slice (some ⟨q, o, none⟩) n c2) (.slice yA yl yc)) (.step 0 false (.step 1 false (.step 2 false (.step 3 false (.step 4 false (.step 5 true (.step 6 false (.step 7 false (.step 8 true (.nil)))))))))) hS (by kernel_rfl) (by kernel_rfl) (by rfl) (by kernel_rfl) ?_
   clear hce hRr hRz hoz hB hyA hRy hgy
   generalize wb.drew = wv at *
   iterate 5 (refine zae rfl (by rfl) (v := ?_) ?_ ?_; rotate_left 1; (rintro W ⟨hW0, hW1⟩; go_simp <;> with_reducible rfl); simp only [pA, pB, pC, Act.put, pD, pE, pF])
   refine zad rfl (by rfl) (fun K hK => ?_)
   go_simp
   refine (zhc yl ys yA yc wv HYL hyA' hxl).mono ?_
   rintro e w7 ⟨A7, c7, rfl, hc7, hr7, hA7, hb7⟩
   have hS7 : twoS ⟨w.heap.size, 1, none⟩ ⟨gx, 2, none⟩ (.slice (some ⟨q, o, none⟩) n c2) (.slice yA yl yc) w7 := ⟨(hb7.cell (p := ⟨w.heap.size, 1, none⟩) hRr'.lt).trans hS.1, (hb7.cell (p := ⟨gx, 2, none⟩) hsb).trans hS.2⟩
   refine hK.out _ _ hS7 ?_
   clear hK K
   have hce7 := hce'.later hb7
   have hRr7 := hRr'.later hb7
   have hRz7 := hRz'.later hb7
   have hoz7 := hoz'.keep hb7
   have hB7 := zaa hB' hb7
   have hs7 := hb7.size
   clear hce' hRr' hRz' hoz' hB' hyA' hS
   iterate 2 (refine zae rfl (by rfl) (v := ?_) ?_ ?_; rotate_left 1; (rintro W ⟨hW0, hW1⟩; go_simp <;> with_reducible rfl); simp only [pA, pB, pC, Act.put, pD, pE, pF])
   have hfr : w7.frozen? ⟨q, o + k * 3 + 2, none⟩ = false := hce7.frozen _
   have hold : w7.cell? ⟨q, o + k * 3 + 2, none⟩ = some (.slice yA yl yc) := by
    have := (hce7.at3 hkz).2.2
    rw [HGET.out] at this
    unfold ED.at2 at this
    dsimp only at this
    rw [HYL.out] at this
    rw [HO.out, Nat.zero_add]
    exact this
   refine zad rfl (by rfl) (fun K hK => ?_)
   go_simp
   refine hK.out _ _ ⟨(World.cell?_setCell_other _ _ _ _ (by intro e; injection e with e1 e2; omega)).trans hS7.1, (World.cell?_setCell_other _ _ _ _ (by intro e; injection e with e1; omega)).trans hS7.2⟩ ?_
   clear hK K
   refine zal ?_
   have hOq := (Only.refl q w7).setCell (o + k * 3 + 2) (.slice A7 yl c7)
   have hset := hce7.set hkz ⟨yt, ye, A7, c7, ys⟩ (by rw [HGET.out]) (by rw [HGET.out])
   have hset2 : CelE (w7.setCell ⟨q, o + k * 3 + 2, none⟩ (.slice A7 yl c7)) q 91 ((zs ++ [⟨yt, ye, A7, c7, ys⟩]) ++ es.drop (k + 1)) := by
    unfold ED.at2 at hset
    dsimp only at hset
    rw [HYL.out] at hset
    rw [HO.out, Nat.zero_add]
    have e1 : (zs ++ es.drop k).set k ⟨yt, ye, A7, c7, ys⟩ = (zs ++ [⟨yt, ye, A7, c7, ys⟩]) ++ es.drop (k + 1) := by
     have e2 : es.drop k = es[k] :: es.drop (k + 1) := List.drop_eq_getElem_cons hke
     rw [e2, List.set_append_right _ _ (by rw [HZ.out]; exact Nat.le_refl _), HZ.out, Nat.sub_self, List.set_cons_zero, List.append_assoc]
     rfl
    rw [e1] at hset
    exact hset
   have HX := Lib.hid (show zpW w v n c2 g gc (some ⟨q, o, none⟩) gA es w3.heap.size (.int .i64 ((k + 1 : Nat) : Int)) (w7.setCell ⟨q, o + k * 3 + 2, none⟩ (.slice A7 yl c7)) from by
    refine ⟨k + 1, zs ++ [⟨yt, ye, A7, c7, ys⟩], rfl, by omega, ?_, ?_, hRr7.only hOq (by omega), hRz7.only hOq (by omega), fun _ => ⟨q, o, rfl, HO, hq1, hq2, hset2⟩, ?_, ?_, hB7.trans (hOq.below.mono (by omega)), ?_⟩
    ·unfold Hid
     rw [List.length_append, HZ.out]
     rfl
    ·unfold Hid
     rw [zgg, HC.out, List.take_succ_eq_append_getElem hke, zgg, HY.out]
     rfl
    ·intro z hz
     rcases List.mem_append.1 hz with hz | hz
     ·exact ⟨(hoz7 z hz).1, (hoz7 z hz).2.only hOq (fun hs a ha => by have := hnz z hz hs a ha; omega)⟩
     ·rw [List.mem_singleton.1 hz]
      refine ⟨?_, hr7.only hOq (fun hs a ha => by have := hA7 a ha; omega)⟩
      show ys.length ≤ c7
      rw [HYL.out]
      exact hc7
    ·intro z hz hs a ha
     rcases List.mem_append.1 hz with hz | hz
     ·exact hnz z hz hs a ha
     ·rw [List.mem_singleton.1 hz] at ha
      have := hA7 a ha
      omega
    ·have := hOq.below.size
     omega)
   clear hset hset2 hce7 hRr7 hRz7 hoz7 hB7 hOq hr7 hold hfr hS7 hb7 hnz
   go_wp2_with fail
   go_roundw
   case rel => exact HX.out
   case measure => simp [intOf]; omega
  ·have hkk : k = n := by omega
   subst hkk
   have j1 : ¬ (k : Int) < (k : Int) := by omega
   have HCE : Hid (conE zs = conE es) := by unfold Hid; rw [HC.out, List.take_of_length_le (by rw [HN.out]; exact Nat.le_refl _)]
   have HRZ : Hid (RdE wr E zs) := by
    have hex : zs ++ es.drop k = zs := by rw [List.drop_eq_nil_of_le (by rw [HN.out]; exact Nat.le_refl _), List.append_nil]
    rcases Nat.eq_zero_or_pos k with h0 | h0
    ·have : zs = [] := List.eq_nil_of_length_eq_zero (by rw [HZ.out]; exact h0)
     rw [this]
     exact RdE.nil
    ·obtain ⟨q, o, e1, ho, _, _, hce⟩ := hcel h0
     rw [hex] at hce
     rw [e1, ho.out]
     exact hce.rd
   have HEQ : Hid (0 < k → ∀ a, E = some a → w.heap.size + 2 ≤ a.block) := fun h0 a ha => by
    obtain ⟨q, o, e1, ho, h1, _, hce⟩ := hcel h0
    rw [e1] at ha
    injection ha with ha
    rw [← ha]
    exact h1
   have HZZ : Hid (zs ≠ [] → 0 < k) := fun h0 => by
    rw [← HZ.out]
    exact List.length_pos_iff.2 h0
   clear hcel hk HC
   have k2 := hRr.cell (i := 2) rfl
   go_wp2_with fail
   refine (zm4 gs g gA gc _ HG (HRG.out.keep hB) (by omega)).mono ?_
   rintro e w4 ⟨A4, c4, rfl, hc4, hrg4, hA4, hb4⟩
   replace hRr := hRr.later hb4
   replace hRz := hRz.later hb4
   replace hB := zaa hB hb4
   replace hoz := hoz.keep hb4
   have HRZ4 := Lib.hid (HRZ.out.keep hb4)
   have hs4 := hb4.size
   have f2 := hRr.frozen 2
   replace k2 : w4.cell? ⟨w.heap.size, 2, none⟩ = some (.slice gA g gc) := hRr.cell rfl
   have hO := (Only.refl w.heap.size w4).setCell 2 (.slice A4 g c4)
   have hR4 : Row (w4.setCell ⟨w.heap.size, 2, none⟩ (.slice A4 g c4)) w.heap.size 32 [.int .u64 (v : Int), .slice E k c2, .slice A4 g c4] := hRr.setCell 2 _
   have hRz4 := hRz.only hO (show w.heap.size + 1 ≠ w.heap.size by omega)
   have hB4 := hB.trans hO.below
   have hl4 := hO.below.size
   have hg4 := hrg4.only hO (fun a ha => by have := hA4 a ha; omega)
   have hz4 := hoz.only hO (fun y hy hs a ha => by have := hnz y hy hs a ha; omega)
   have HZ4 := Lib.hid (show RdE (w4.setCell ⟨w.heap.size, 2, none⟩ (.slice A4 g c4)) E zs from fun h0 => (HRZ4.out.only hO (fun a ha => by have := HEQ.out (HZZ.out h0) a ha; omega)) h0)
   clear hB hb4 hrg4 hoz
   go_upto_region 8 with fail
   clear hRr hRz f2 k2 hO
   generalize w4.setCell ⟨w.heap.size, 2, none⟩ (.slice A4 g c4) = w5 at hR4 hRz4 hB4 hg4 hz4 HZ4 hl4 ⊢
   go_wp2_with (first
    | (refine zac rfl 32 (.tmp 1) rfl (w.heap.size) 0 rfl _ _ (hR4) ([.int .u64 (v : Int), .slice E k c2, .slice A4 g c4]) (by rfl) _ Tryz.underlying32 rfl (by exact zax) ?_)
    | (refine zab rfl 32 (.tmp 2) (.tmp 30) rfl (w.heap.size + 1) rfl ([.int .u64 (v : Int), .slice E k c2, .slice A4 g c4]) rfl _ _ (hRz4) (by exact zax) rfl (zaK _ _ _ rfl rfl rfl) ?_))
   refine bodyPost_ret (results_cell_row (p := 2) (ty := 32) (by rfl) _ _ (w.heap.size + 1) 32 _ (0, 0) _ (by rfl) (by exact hRz4.setRow _) Tryz.underlying32 (by rfl) (by exact zax)) (by rfl) ?_
   have hO5 := (Only.refl (w.heap.size + 1) w5).setRow [.int .u64 (v : Int), .slice E k c2, .slice A4 g c4].toArray
   exact ⟨zs, E, c2, A4, c4, rfl, HCE, HZ, hc2, hc4, fun h0 => (HZ4.out.only hO5 (fun a ha => by have := HEQ.out (HZZ.out h0) a ha; omega)) h0, hz4.only hO5 (fun y hy hs a ha => by have := hnz y hy hs a ha; omega), hg4.only hO5 (fun a ha => by have := hA4 a ha; omega), HEF.out, (fun y hy hs a ha => by have := hnz y hy hs a ha; omega), (fun a ha => by have := hA4 a ha; omega), below_setRow hB4 (by omega) _⟩
theorem zpX {xs ys : List ED} {L : Nat} (h : conE ys = conE xs) (hl : ∀ e ∈ xs, e.s.length ≤ L) : ∀ e ∈ ys, e.s.length ≤ L := fun e he => by
 have h1 : e.con ∈ conE xs := by rw [← h]; exact List.mem_map.2 ⟨e, he, rfl⟩
 obtain ⟨f, hf, e1⟩ := List.mem_map.1 h1
 have h2 := hl f hf
 have h3 : f.s = e.s := congrArg (fun z : En => z.2.2) e1
 rw [← h3]
 exact h2
theorem zeY (x : WB) (b : Bn) (w : World) (h : InB w x b) : Calls Tryz.prog 52 #[zdY x b] w fun e w' => ∃ y, e = .returned (zdY y b) ∧ InB w' y b ∧ FreshB w.heap.size y ∧ y.n = x.n ∧ y.g = x.g ∧ Below w.heap.size w w' := by
 refine (ziK b.1 x.es b.2.2 x.n x.ec x.g x.gc x.eA x.gA w h.ne h.ng h.re h.oe h.rg h.ln h.lg h.ls).mono ?_
 rintro e w' ⟨ys, E, ec, gA, gc, rfl, h1, h2, h3, h4, h5, h6, h7, h8, h9, h10, h11⟩
 exact ⟨⟨ys, E, x.n, ec, gA, x.g, gc⟩, rfl, ⟨h1.out.trans h.con, h2.out, h.ng, h3, h4, h5, h6, h7, h.ln, h.lg, zpX h1.out h.ls, h.fit⟩, ⟨h8, h9, h10⟩, rfl, rfl, h11⟩
theorem zlm (x : WC) (k : Ca) (w : World) (h : InC w x k) : Calls Tryz.prog 124 #[zpp x k] w fun e w' => ∃ y, e = .returned (zpp y k) ∧ InC w' y k ∧ FreshC w.heap.size y ∧ Below w.heap.size w w' := by
 have hl := h.ls
 refine (zdR k.1 k.2.1 k.2.2 x.s x.c x.A w (Lib.hid h.ns) h.ru (by omega)).mono ?_
 rintro e w' ⟨A, c, rfl, h1, h2, h3⟩
 rw [h.ns] at h1 h2 ⊢
 refine ⟨⟨A, x.s, c⟩, rfl, ⟨h.ns, h1, RdU.own h2, h.ls, h.fit⟩, fun a ha => ?_, h3⟩
 exact (h2.lt a.block (by show (Value.slice A x.s c).ownBlock = _; rw [show A = some a from ha]; rfl)).1
def zm5 (g : Nat) (u v z : Value) (W : World) : Prop := W.cell? ⟨g, 4, none⟩ = some u ∧ (W.cell? ⟨g, 5, none⟩ = some v ∧ W.cell? ⟨g, 6, none⟩ = some z)
def zpr (w : World) (m : MemK) (e : Ending) (w' : World) : Prop := ∃ y, e = .returned (aggM y m) ∧ InM w' y m ∧ FreshM w.heap.size y ∧ Below w.heap.size w w'
theorem zo0 {g : Nat} {u v z : Value} {w w' : World} (h : zm5 g u v z w) (hb : Below w.heap.size w w') (hg : g < w.heap.size) : zm5 g u v z w' := ⟨(hb.cell (p := ⟨g, 4, none⟩) hg).trans h.1, (hb.cell (p := ⟨g, 5, none⟩) hg).trans h.2.1, (hb.cell (p := ⟨g, 6, none⟩) hg).trans h.2.2⟩
theorem zhW (x : WM) (m : MemK) (w : World) (h : InM w x m) : Calls Tryz.prog 82 #[aggM x m] w (zpr w m) := by
 obtain ⟨hR0, hR1, hB0⟩ := zaB w 37 37 (lM x m) l0M _ _ rfl rfl
 have HM := Lib.hid h
 clear h
 unfold aggM
 go_enter Tryz.func82, Tryz.ntmps82
 go_upto_region 1 with fail
 generalize (w.alloc (.cells (lM x m).toArray 37)).alloc (.cells l0M.toArray 37) = w1 at hR0 hR1 hB0 ⊢
 have hS : zm5 w.heap.size (.int .i64 m.c.1) (.int .u64 (m.c.2.1 : Int)) (.slice x.c.A x.c.s x.c.c) w1.drew := ⟨hR0.cell rfl, hR0.cell rfl, hR0.cell rfl⟩
 have hR0' : Row w1.drew w.heap.size 37 (lM x m) := hR0
 have hR1' : Row w1.drew (w.heap.size + 1) 37 l0M := hR1
 have hB' := hB0.drew
 refine zci (zm5 w.heap.size (.int .i64 m.c.1) (.int .u64 (m.c.2.1 : Int)) (.slice x.c.A x.c.s x.c.c)) (.step 0 false (.step 3 false (.step 4 false (.step 1 true (.step 2 true (.step 6 false (.step 5 true (.step 7 true (.step 8 false (.nil)))))))))) hS (by rfl) (by kernel_rfl) (by kernel_rfl) (by decide) (by kernel_rfl) (by kernel_rfl) (by kernel_rfl) (by kernel_rfl) ?_
 simp only [zbo, List.dropLast]
 clear hR0 hR1 hB0
 generalize w1.drew = wd at *
 iterate 3 (refine zae rfl (by rfl) (v := ?_) ?_ ?_; rotate_left 1; (rintro W ⟨hW0, hW1⟩; go_simp <;> with_reducible rfl); simp only [pA, pB, pC, Act.put, pD, pE, pF])
 refine zad rfl (by rfl) (fun K hK => ?_)
 refine wp_load_mid 32 (.tmp 3) rfl w.heap.size 1 rfl (lB x.b m.b) _ (fun j u hu => ?_) Tryz.underlying32 rfl (by exact zax) ?_
 ·match j, hu with
  | 0, hu => exact hR0'.cell hu
  | 1, hu => exact hR0'.cell hu
  | 2, hu => exact hR0'.cell hu
 refine hK.out _ _ hS ?_
 clear hK K
 have HBU := Lib.hid (zeY x.b m.b wd (HM.out.ib.keep hB'))
 unfold zdY aggB at HBU
 refine zad rfl (by rfl) (fun K hK => ?_)
 go_simp
 refine HBU.out.mono ?_
 rintro e w2 ⟨y, rfl, hyb, hyf, -, -, hb2⟩
 have hS2 := zo0 hS hb2 hR0'.lt
 refine hK.out _ _ hS2 ?_
 clear hK K HBU hS
 have hR0 := hR0'.later hb2
 have hR1 := hR1'.later hb2
 have hB2 := zaa hB' hb2
 have hl1 := hR1'.lt
 have hs2 := hb2.size
 clear hb2 hR0' hR1' hB'
 iterate 1 (refine zae rfl (by rfl) (v := ?_) ?_ ?_; rotate_left 1; (rintro W ⟨hW0, hW1⟩; go_simp <;> with_reducible rfl); simp only [pA, pB, pC, Act.put, pD, pE, pF])
 have HCU := Lib.hid (zlm x.c m.c w2 (HM.out.ic.keep hB2))
 unfold zpp aggC at HCU
 refine zad rfl (by rfl) (fun K hK => ?_)
 go_simp
 refine HCU.out.mono ?_
 rintro e w3 ⟨z, rfl, hzc, hzf, hb3⟩
 have hS3 := zo0 hS2 hb3 hR0.lt
 refine hK.out _ _ hS3 ?_
 clear hK K HCU hS2
 replace hR0 := hR0.later hb3
 replace hR1 := hR1.later hb3
 replace hyb := hyb.keep hb3
 have hs3 := hb3.size
 have hB3 := zaa hB2 hb3
 clear hb3 hB2
 refine zad rfl (by rfl) (fun K hK => ?_)
 refine wp_store_mid 32 (.tmp 9) (.tmp 5) rfl w.heap.size 1 (lB y m.b).toArray rfl rfl (zaV hR0 1 3 (by simp)) (by exact zax) (by exact all_oneCell_toArray (zaK _ _ _ rfl rfl rfl)) ?_
 have hO4 := Only.setCells (g := w.heap.size) (lB y m.b) 1 (Only.refl _ w3)
 have hR4 : Row (w3.setCells w.heap.size 1 (lB y m.b)) w.heap.size 37 [.int .u64 (m.clock : Int), .int .u64 (m.b.1 : Int), .slice y.eA y.n y.ec, .slice y.gA y.g y.gc, .int .i64 m.c.1, .int .u64 (m.c.2.1 : Int), .slice x.c.A x.c.s x.c.c] := hR0.setCells _ 1 (by simp)
 refine hK.out _ _ ⟨hR4.cell rfl, hR4.cell rfl, hR4.cell rfl⟩ ?_
 clear hK K
 have hR14 := hR1.only hO4 (by omega)
 have hyb4 := hyb.only hO4 (hyf.mono (by omega))
 have hzc4 := hzc.only hO4 (hzf.mono (by omega))
 have hB4 := hB3.trans hO4.below
 clear hR0 hR1 hyb hzc hS3 hB3
 have hl4 := hO4.below.size
 clear hO4
 generalize w3.setCells w.heap.size 1 (lB y m.b) = w4 at *
 have hS4 : zm5 w.heap.size (.int .i64 m.c.1) (.int .u64 (m.c.2.1 : Int)) (.slice x.c.A x.c.s x.c.c) w4 := ⟨hR4.cell rfl, hR4.cell rfl, hR4.cell rfl⟩
 iterate 1 (refine zae rfl (by rfl) (v := ?_) ?_ ?_; rotate_left 1; (rintro W ⟨hW0, hW1⟩; go_simp <;> with_reducible rfl); simp only [pA, pB, pC, Act.put, pD, pE, pF])
 refine zb6 rfl (by rfl) ?_
 refine wp_store_mid 35 (.tmp 10) (.tmp 8) rfl w.heap.size 4 (lC z m.c).toArray rfl rfl (zaV hR4 4 3 (by simp)) (by exact zap) (by exact all_oneCell_toArray (zaK _ _ _ rfl rfl rfl)) ?_
 have hO5 := Only.setCells (g := w.heap.size) (lC z m.c) 4 (Only.refl _ w4)
 have hR5 : Row (w4.setCells w.heap.size 4 (lC z m.c)) w.heap.size 37 [.int .u64 (m.clock : Int), .int .u64 (m.b.1 : Int), .slice y.eA y.n y.ec, .slice y.gA y.g y.gc, .int .i64 m.c.1, .int .u64 (m.c.2.1 : Int), .slice z.A z.s z.c] := hR4.setCells _ 4 (by simp)
 have hR15 := hR14.only hO5 (by omega)
 have hyb5 := hyb4.only hO5 (hyf.mono (by omega))
 have hzc5 := hzc4.only hO5 (hzf.mono (by omega))
 have hB5 := hB4.trans hO5.below
 clear hR4 hR14 hyb4 hzc4 hB4 hO5 hS4
 generalize w4.setCells w.heap.size 4 (lC z m.c) = w5 at *
 go_wp2_with (first
  | (refine zac rfl 37 (.tmp 1) rfl (w.heap.size) 0 rfl _ _ (hR5) ([.int .u64 (m.clock : Int), .int .u64 (m.b.1 : Int), .slice y.eA y.n y.ec, .slice y.gA y.g y.gc, .int .i64 m.c.1, .int .u64 (m.c.2.1 : Int), .slice z.A z.s z.c]) (by rfl) _ Tryz.underlying37 rfl (by exact zai) ?_)
  | (refine zab rfl 37 (.tmp 2) (.tmp 11) rfl (w.heap.size + 1) rfl ([.int .u64 (m.clock : Int), .int .u64 (m.b.1 : Int), .slice y.eA y.n y.ec, .slice y.gA y.g y.gc, .int .i64 m.c.1, .int .u64 (m.c.2.1 : Int), .slice z.A z.s z.c]) rfl _ _ (hR15) (by exact zai) rfl (zaq ⟨y, z⟩ m) ?_))
 refine bodyPost_ret (results_cell_row (p := 2) (ty := 37) (by rfl) _ _ (w.heap.size + 1) 37 _ (0, 0) _ (by rfl) (by exact hR15.setRow _) Tryz.underlying37 (by rfl) (by exact zai)) (by rfl) ?_
 have hO6 := (Only.refl (w.heap.size + 1) w5).setRow [.int .u64 (m.clock : Int), .int .u64 (m.b.1 : Int), .slice y.eA y.n y.ec, .slice y.gA y.g y.gc, .int .i64 m.c.1, .int .u64 (m.c.2.1 : Int), .slice z.A z.s z.c].toArray
 exact ⟨⟨y, z⟩, rfl, ⟨HM.out.fc, hyb5.only hO6 (hyf.mono (by omega)), hzc5.only hO6 (hzf.mono (by omega))⟩, ⟨hyf.mono (by omega), hzf.mono (by omega)⟩, below_setRow hB5 (by omega) _⟩
def zps (w : World) (s : ShK) (e : Ending) (w' : World) : Prop := ∃ y, e = .returned (aggS y s) ∧ InS w' y s ∧ FreshS w.heap.size y ∧ Below w.heap.size w w'
def zln (g : Nat) (a b c d e f h : Value) (W : World) : Prop := W.cell? ⟨g, 9, none⟩ = some a ∧ (W.cell? ⟨g, 10, none⟩ = some b ∧ (W.cell? ⟨g, 11, none⟩ = some c ∧ (W.cell? ⟨g, 12, none⟩ = some d ∧ (W.cell? ⟨g, 13, none⟩ = some e ∧ (W.cell? ⟨g, 14, none⟩ = some f ∧ W.cell? ⟨g, 15, none⟩ = some h)))))
theorem zeZ {g : Nat} {a b c d e f h : Value} {t : TypeId} {l : List Value} {W : World} (hR : Row W g t l) (hl : (l.drop 9) = [a, b, c, d, e, f, h]) : zln g a b c d e f h W := by
 have hg : ∀ j v, [a, b, c, d, e, f, h][j]? = some v → W.cell? ⟨g, 9 + j, none⟩ = some v := fun j v hv => by
  rw [hR.cell? (9 + j), ← List.getElem?_drop, hl]
  exact hv
 exact ⟨hg 0 _ rfl, hg 1 _ rfl, hg 2 _ rfl, hg 3 _ rfl, hg 4 _ rfl, hg 5 _ rfl, hg 6 _ rfl⟩
theorem zfx (x : WS) (s : ShK) (w : World) (h : InS w x s) (hn0 : x.d.n0 ≤ 70368744177664) (hn1 : x.d.n1 ≤ 70368744177664) : Calls Tryz.prog 44 #[aggS x s] w (zps w s) := by
 obtain ⟨hR0, hR1, hB0⟩ := zaB w 39 39 (lS x s) l0S _ _ rfl rfl
 have HM := Lib.hid h
 clear h
 unfold aggS
 go_enter Tryz.func44, Tryz.ntmps44
 go_upto_region 1 with fail
 generalize (w.alloc (.cells (lS x s).toArray 39)).alloc (.cells l0S.toArray 39) = w1 at hR0 hR1 hB0 ⊢
 have hS : zln w.heap.size (.int .u64 (s.m.clock : Int)) (.int .u64 (s.m.b.1 : Int)) (.slice x.m.b.eA x.m.b.n x.m.b.ec) (.slice x.m.b.gA x.m.b.g x.m.b.gc) (.int .i64 s.m.c.1) (.int .u64 (s.m.c.2.1 : Int)) (.slice x.m.c.A x.m.c.s x.m.c.c) w1.drew := zeZ hR0 rfl
 have hR0' : Row w1.drew w.heap.size 39 (lS x s) := hR0
 have hR1' : Row w1.drew (w.heap.size + 1) 39 l0S := hR1
 have hB' := hB0.drew
 refine zci (zln w.heap.size (.int .u64 (s.m.clock : Int)) (.int .u64 (s.m.b.1 : Int)) (.slice x.m.b.eA x.m.b.n x.m.b.ec) (.slice x.m.b.gA x.m.b.g x.m.b.gc) (.int .i64 s.m.c.1) (.int .u64 (s.m.c.2.1 : Int)) (.slice x.m.c.A x.m.c.s x.m.c.c)) (.step 0 false (.step 3 false (.step 4 false (.step 1 true (.step 2 true (.step 6 false (.step 5 true (.step 7 true (.step 8 false (.nil)))))))))) hS (by rfl) (by kernel_rfl) (by kernel_rfl) (by decide) (by kernel_rfl) (by kernel_rfl) (by kernel_rfl) (by kernel_rfl) ?_
 simp only [zbo, List.dropLast]
 clear hR0 hR1 hB0
 generalize w1.drew = wd at *
 iterate 3 (refine zae rfl (by rfl) (v := ?_) ?_ ?_; rotate_left 1; (rintro W ⟨hW0, hW1⟩; go_simp <;> with_reducible rfl); simp only [pA, pB, pC, Act.put, pD, pE, pF])
 refine zad rfl (by rfl) (fun K hK => ?_)
 refine wp_load_mid 27 (.tmp 3) rfl w.heap.size 0 rfl (lD x.d s.d) _ (fun j u hu => ?_) Tryz.underlying27 rfl (by exact zaj) ?_
 ·match j, hu with
  | 0, hu => exact hR0'.cell hu
  | 1, hu => exact hR0'.cell hu
  | 2, hu => exact hR0'.cell hu
  | 3, hu => exact hR0'.cell hu
  | 4, hu => exact hR0'.cell hu
  | 5, hu => exact hR0'.cell hu
  | 6, hu => exact hR0'.cell hu
 refine hK.out _ _ hS ?_
 clear hK K
 have HBU := Lib.hid (zeM x.d s.d wd (HM.out.id.keep hB') hn0 hn1)
 unfold aggD at HBU
 refine zad rfl (by rfl) (fun K hK => ?_)
 go_simp
 refine HBU.out.mono ?_
 rintro e w2 ⟨y, rfl, h20, h21, h22, h23, h24, h25, -, hb2⟩
 obtain ⟨hyb, hyf⟩ := zko (x := y) (D := s.d) h24 h25
 unfold aggD
 have hS2 : zln w.heap.size (.int .u64 (s.m.clock : Int)) (.int .u64 (s.m.b.1 : Int)) (.slice x.m.b.eA x.m.b.n x.m.b.ec) (.slice x.m.b.gA x.m.b.g x.m.b.gc) (.int .i64 s.m.c.1) (.int .u64 (s.m.c.2.1 : Int)) (.slice x.m.c.A x.m.c.s x.m.c.c) w2 := zeZ (hR0'.later hb2) rfl
 refine hK.out _ _ hS2 ?_
 clear hK K HBU hS h20 h21 h22 h23 h24 h25
 have hR0 := hR0'.later hb2
 have hR1 := hR1'.later hb2
 have hB2 := zaa hB' hb2
 have hl1 := hR1'.lt
 have hs2 := hb2.size
 clear hb2 hR0' hR1' hB'
 iterate 1 (refine zae rfl (by rfl) (v := ?_) ?_ ?_; rotate_left 1; (rintro W ⟨hW0, hW1⟩; go_simp <;> with_reducible rfl); simp only [pA, pB, pC, Act.put, pD, pE, pF])
 have HCU := Lib.hid (zhW x.m s.m w2 (HM.out.im.keep hB2))
 unfold aggM at HCU
 refine zad rfl (by rfl) (fun K hK => ?_)
 go_simp
 refine HCU.out.mono ?_
 rintro e w3 ⟨z, rfl, hzc, hzf, hb3⟩
 unfold aggM
 have hS3 : zln w.heap.size (.int .u64 (s.m.clock : Int)) (.int .u64 (s.m.b.1 : Int)) (.slice x.m.b.eA x.m.b.n x.m.b.ec) (.slice x.m.b.gA x.m.b.g x.m.b.gc) (.int .i64 s.m.c.1) (.int .u64 (s.m.c.2.1 : Int)) (.slice x.m.c.A x.m.c.s x.m.c.c) w3 := zeZ (hR0.later hb3) rfl
 refine hK.out _ _ hS3 ?_
 clear hK K HCU hS2
 replace hR0 := hR0.later hb3
 replace hR1 := hR1.later hb3
 replace hyb := hyb.keep hb3
 have hs3 := hb3.size
 have hB3 := zaa hB2 hb3
 clear hb3 hB2
 refine zad rfl (by rfl) (fun K hK => ?_)
 refine wp_store_mid 27 (.tmp 9) (.tmp 5) rfl w.heap.size 0 (lD y s.d).toArray rfl rfl (zaV hR0 0 7 (by simp)) (by exact zaj) (by exact all_oneCell_toArray (za7 y s.d)) ?_
 have hO4 := Only.setCells (g := w.heap.size) (lD y s.d) 0 (Only.refl _ w3)
 have hR4 : Row (w3.setCells w.heap.size 0 (lD y s.d)) w.heap.size 39 [.slice y.A0 y.n0 y.c0, .int .i64 s.d.a0.s, .slice y.A1 y.n1 y.c1, .int .i64 s.d.a1.s, .int .i64 s.d.fuse, .int .i64 s.d.keep, .bool s.d.down, .int .i64 s.turn, .int .u64 (s.num : Int), .int .u64 (s.m.clock : Int), .int .u64 (s.m.b.1 : Int), .slice x.m.b.eA x.m.b.n x.m.b.ec, .slice x.m.b.gA x.m.b.g x.m.b.gc, .int .i64 s.m.c.1, .int .u64 (s.m.c.2.1 : Int), .slice x.m.c.A x.m.c.s x.m.c.c] := hR0.setCells _ 0 (by simp)
 refine hK.out _ _ (zeZ hR4 rfl) ?_
 clear hK K
 have hR14 := hR1.only hO4 (by omega)
 have hyb4 := hyb.only hO4 (hyf.mono (by omega))
 have hzc4 := hzc.only hO4 (hzf.mono (by omega))
 have hB4 := hB3.trans hO4.below
 clear hR0 hR1 hyb hzc hS3 hB3
 have hl4 := hO4.below.size
 clear hO4
 generalize w3.setCells w.heap.size 0 (lD y s.d) = w4 at *
 have hS4 : zln w.heap.size (.int .u64 (s.m.clock : Int)) (.int .u64 (s.m.b.1 : Int)) (.slice x.m.b.eA x.m.b.n x.m.b.ec) (.slice x.m.b.gA x.m.b.g x.m.b.gc) (.int .i64 s.m.c.1) (.int .u64 (s.m.c.2.1 : Int)) (.slice x.m.c.A x.m.c.s x.m.c.c) w4 := zeZ hR4 rfl
 iterate 1 (refine zae rfl (by rfl) (v := ?_) ?_ ?_; rotate_left 1; (rintro W ⟨hW0, hW1⟩; go_simp <;> with_reducible rfl); simp only [pA, pB, pC, Act.put, pD, pE, pF])
 refine zb6 rfl (by rfl) ?_
 refine wp_store_mid 37 (.tmp 10) (.tmp 8) rfl w.heap.size 9 (lM z s.m).toArray rfl rfl (zaV hR4 9 7 (by simp)) (by exact zai) (by exact all_oneCell_toArray (zaq z s.m)) ?_
 have hO5 := Only.setCells (g := w.heap.size) (lM z s.m) 9 (Only.refl _ w4)
 have hR5 : Row (w4.setCells w.heap.size 9 (lM z s.m)) w.heap.size 39 [.slice y.A0 y.n0 y.c0, .int .i64 s.d.a0.s, .slice y.A1 y.n1 y.c1, .int .i64 s.d.a1.s, .int .i64 s.d.fuse, .int .i64 s.d.keep, .bool s.d.down, .int .i64 s.turn, .int .u64 (s.num : Int), .int .u64 (s.m.clock : Int), .int .u64 (s.m.b.1 : Int), .slice z.b.eA z.b.n z.b.ec, .slice z.b.gA z.b.g z.b.gc, .int .i64 s.m.c.1, .int .u64 (s.m.c.2.1 : Int), .slice z.c.A z.c.s z.c.c] := hR4.setCells _ 9 (by simp)
 have hR15 := hR14.only hO5 (by omega)
 have hyb5 := hyb4.only hO5 (hyf.mono (by omega))
 have hzc5 := hzc4.only hO5 (hzf.mono (by omega))
 have hB5 := hB4.trans hO5.below
 clear hR4 hR14 hyb4 hzc4 hB4 hO5 hS4
 generalize w4.setCells w.heap.size 9 (lM z s.m) = w5 at *
 go_wp2_with (first
  | (refine zac rfl 39 (.tmp 1) rfl (w.heap.size) 0 rfl _ _ (hR5) ([.slice y.A0 y.n0 y.c0, .int .i64 s.d.a0.s, .slice y.A1 y.n1 y.c1, .int .i64 s.d.a1.s, .int .i64 s.d.fuse, .int .i64 s.d.keep, .bool s.d.down, .int .i64 s.turn, .int .u64 (s.num : Int), .int .u64 (s.m.clock : Int), .int .u64 (s.m.b.1 : Int), .slice z.b.eA z.b.n z.b.ec, .slice z.b.gA z.b.g z.b.gc, .int .i64 s.m.c.1, .int .u64 (s.m.c.2.1 : Int), .slice z.c.A z.c.s z.c.c]) (by rfl) _ Tryz.underlying39 rfl (by exact zaf) ?_)
  | (refine zab rfl 39 (.tmp 2) (.tmp 11) rfl (w.heap.size + 1) rfl ([.slice y.A0 y.n0 y.c0, .int .i64 s.d.a0.s, .slice y.A1 y.n1 y.c1, .int .i64 s.d.a1.s, .int .i64 s.d.fuse, .int .i64 s.d.keep, .bool s.d.down, .int .i64 s.turn, .int .u64 (s.num : Int), .int .u64 (s.m.clock : Int), .int .u64 (s.m.b.1 : Int), .slice z.b.eA z.b.n z.b.ec, .slice z.b.gA z.b.g z.b.gc, .int .i64 s.m.c.1, .int .u64 (s.m.c.2.1 : Int), .slice z.c.A z.c.s z.c.c]) rfl _ _ (hR15) (by exact zaf) rfl (zan ⟨y, z⟩ s) ?_))
 refine bodyPost_ret (results_cell_row (p := 2) (ty := 39) (by rfl) _ _ (w.heap.size + 1) 39 _ (0, 0) _ (by rfl) (by exact hR15.setRow _) Tryz.underlying39 (by rfl) (by exact zaf)) (by rfl) ?_
 have hO6 := (Only.refl (w.heap.size + 1) w5).setRow [.slice y.A0 y.n0 y.c0, .int .i64 s.d.a0.s, .slice y.A1 y.n1 y.c1, .int .i64 s.d.a1.s, .int .i64 s.d.fuse, .int .i64 s.d.keep, .bool s.d.down, .int .i64 s.turn, .int .u64 (s.num : Int), .int .u64 (s.m.clock : Int), .int .u64 (s.m.b.1 : Int), .slice z.b.eA z.b.n z.b.ec, .slice z.b.gA z.b.g z.b.gc, .int .i64 s.m.c.1, .int .u64 (s.m.c.2.1 : Int), .slice z.c.A z.c.s z.c.c].toArray
 exact ⟨⟨y, z⟩, rfl, ⟨hyb5.only hO6 (hyf.mono (by omega)), hzc5.only hO6 (hzf.mono (by omega))⟩, ⟨hyf.mono (by omega), hzf.mono (by omega)⟩, below_setRow hB5 (by omega) _⟩
def beB (v : Nat) (es : List En) (k : Nat) : List UInt8 := 66 :: (putL v ++ (UInt8.ofNat es.length :: zcl (es.take k)))
theorem zot (v : Nat) (es : List En) (k : Nat) (h : k < es.length) : beB v es (k + 1) = beB v es k ++ putL es[k].1 ++ putL es[k].2.1 ++ [UInt8.ofNat es[k].2.2.length] ++ es[k].2.2 := by
 unfold beB zcl
 rw [List.take_succ_eq_append_getElem h, List.flatMap_append]
 simp [oneE]
theorem zpt (v : Nat) (es : List En) (gs : List Gn) : beB v es es.length ++ zbe gs = zbp v es gs := by
 unfold beB zbp
 rw [List.take_length]
 simp
theorem zgl : ∀ (es : List En), (∀ x ∈ es, x.2.2.length ≤ 32) → (zcl es).length ≤ 49 * es.length
 | [], _ => by simp [zcl]
 | a :: es, h => by
  have ih := zgl es (fun x hx => h x (List.mem_cons_of_mem _ hx))
  have ha := h a (List.mem_cons_self ..)
  rw [zd6, List.length_append, zeq, List.length_cons]
  omega
theorem ziL (v : Nat) (es : List En) (k : Nat) (h : ∀ x ∈ es, x.2.2.length ≤ 32) : (beB v es k).length ≤ 10 + 49 * es.length := by
 have h1 := zgl (es.take k) (fun x hx => h x (List.mem_of_mem_take hx))
 unfold beB
 rw [List.length_cons, List.length_append, zc9, List.length_cons]
 have : (es.take k).length ≤ es.length := by rw [List.length_take]; omega
 omega
def ByB (v : Nat) (es : List ED) (w : World) (u i : Value) (wr : World) : Prop := ∃ k : Nat, k ≤ es.length ∧ i = .int .i64 (k : Int) ∧ wr.ownsRow w.heap.size 5 1 u (beB v (conE es) k).length ((beB v (conE es) k).map vB) ∧ Below w.heap.size w wr
theorem zou {v : Nat} {es : List ED} {w wr : World} {u : Value} {k n1 : Nat} {L1 L2 : List UInt8} {Y : List UInt8} (h : k < es.length) (h1 : putL es[k].t = L1) (h2 : putL es[k].e = L2) (ho : wr.ownsRow w.heap.size 5 1 u n1 ((beB v (conE es) k).map vB ++ L1.map vB ++ L2.map vB ++ [vB (UInt8.ofNat es[k].s.length)] ++ es[k].s.map vB)) (hn : n1 = (beB v (conE es) k).length + L1.length + L2.length + 1 + es[k].s.length) (hB : Below w.heap.size w wr) : ByB v es w u (.int .i64 ((k : Int) + 1)) wr := by
 refine ⟨k + 1, by omega, by go_num, ?_, hB⟩
 have hk : k < (conE es).length := by rw [zaF]; exact h
 have hN := zot v (conE es) k hk
 rw [zcj es k h] at hN
 unfold ED.con at hN
 dsimp only at hN
 rw [h1, h2] at hN
 rw [hN]
 subst hn
 simpa [Nat.add_assoc, Nat.add_comm 1 es[k].s.length] using ho
theorem zfN (n : Nat) (h : n ≤ 255) : vB (UInt8.ofNat n) = .int .u8 (n : Int) := by
 unfold vB
 rw [UInt8.toNat_ofNat']
 congr 1
 omega
theorem ziM (v : Nat) (es : List ED) (gs : List Gn) (n ec m gc : Nat) (eA gA : Option Addr) (w : World) (HN : Hid (es.length = n)) (HM : Hid (gs.length = m)) (hre : RdE w eA es) (hoe : okD w es) (hrg : RdG w gA gs) (hv : v < 18446744073709551616) (hfe : fitE (conE es)) (HF : Hid (fitG gs)) (hok : zaJ (conE es) gs = true) :
  Calls Tryz.prog 74 #[aggB v eA n ec gA m gc] w (zqh w (zbp v (conE es) gs) 0) := by
 obtain ⟨i0, hi, hz0, hz1, hz2⟩ := info_parts zcx
 obtain ⟨hn64, hgr, hoe2⟩ := zhy.1 hok
 have hseed := zfQ hoe2
 have hsh : ∀ x ∈ conE es, x.2.2.length ≤ 32 := fun x hx => (hseed x hx).2
 rw [zaF] at hn64
 have e1 := HN.out
 subst e1
 obtain ⟨hR, hB⟩ := zdU w 32 (.int .u64 (v : Int)) (.slice eA es.length ec) (.slice gA m gc)
 unfold aggB
 have HFE := Lib.hid hfe
 have HSH := Lib.hid hsh
 have HV := Lib.hid hv
 have hm64 : m ≤ 64 := by have := (zcO.1 hgr).2; have := HM.out; omega
 have HOK := Lib.hid hok
 have HGB : Hid (zfv gs = (zbe gs, 0)) := ziG hgr
 have HML : Hid (∀ x ∈ es, x.s.length ≤ 9223372036854775807) := fun x hx => by
  have := hsh _ (List.mem_map_of_mem (f := ED.con) hx)
  have h2 : x.s.length ≤ 32 := this
  omega
 clear hok hoe2 hseed hgr hfe hsh HN
 go_enter Tryz.func74, Tryz.ntmps74
 go_upto_region 1 with fail
 generalize (w.alloc (.cells #[.int .u64 (v : Int), .slice eA es.length ec, .slice gA m gc] 32)) = w0 at hR hB ⊢
 go_wp2_with (refine zac rfl 32 (.tmp 1) rfl w.heap.size 0 rfl _ _ hR (zpR v eA es.length ec gA m gc) (by rfl) _ Tryz.underlying32 rfl (by exact zax) ?_)
 refine (zee v es gs es.length ec m gc eA gA w0 (Lib.hid rfl) HM (hre.keep hB) (hrg.keep hB) HF (by omega) (by omega) (HML.out)).mono ?_
 rw [HOK.out]
 rintro ee w1 ⟨rfl, hb⟩
 replace hR := hR.later hb
 replace hB := zaa hB hb
 clear hb
 go_upto_region 3 with fail
 have hbg := hR.lt
 have hre1 := hre.keep hB
 have hoe1 := hoe.keep hB
 have hrg1 := hrg.keep hB
 have HB1 := Lib.hid hB
 obtain ⟨L0, hL0⟩ : ∃ L, putL v = L := ⟨_, rfl⟩
 have HL0 := Lib.hid hL0
 have hL0' := hL0
 have HL0Q := Lib.hid hL0'
 clear hL0'
 have HN0 : Hid (L0.length = 8) := by unfold Hid; rw [← hL0]; rfl
 have hown0 : (w1.alloc (.cells #[.int .u8 66] 5)).ownsRow w1.heap.size 5 1 (.slice (some ⟨w1.heap.size, 0, none⟩) 1 1) 1 ([(66 : UInt8)].map vB) := zf4 w1 5 ([(66 : UInt8)].map vB) #[.int .u8 66] rfl (by unfold maxLen; simp)
 have hb2 := zak (Below.refl w1.heap.size w1) (.cells #[.int .u8 66] 5)
 have c0 : (w1.alloc (.cells #[.int .u8 66] 5)).cell? ⟨w.heap.size, 0, none⟩ = some (.int .u64 (v : Int)) := (hR.later hb2).cell rfl
 clear hL0 hB hre hoe hrg
 go_wp2_with fail
 refine (zfj v L0 HV.out HL0 _).mono ?_
 rintro ee w3 ⟨A1, k1, rfl, hk1, hr1, hb3⟩
 have hown3 := zam hown0 hb3
 have hB3 := zaa hb2 hb3
 have hsz3 := hB3.size
 clear hown0 hb2 hb3 c0
 have hnb := zfN es.length (by omega)
 have HNB := Lib.hid hnb
 clear hnb
 go_wp2_with (first
  | (at_builtin; refine zao _ rfl (.tmp 13) (.tmp 16) 22 rfl w1.heap.size 5 i0 (.int .u8 0) 1 Tryz.underlying22 hi hz0 hz1 hz2 rfl _ _ _ rfl hown3 A1 L0 k1 (by rw [HN0.out]; rfl) hr1 zbt (by rw [HN0.out]; unfold maxLen; omega) (by rw [HN0.out]; omega) (by omega) ?_; intro v4 w4 hown4 hgrow4 hat4; have hB4 := hB3.grown hgrow4 hsz3 (fun k hk => (hown3.lt k hk).1); have hc1 : w4.cell? ⟨w.heap.size, 1, none⟩ = some (.slice eA es.length ec) := (hR.later hB4).cell rfl)
  | (at_builtin; refine zao _ rfl (.tmp 18) (.tmp 23) 22 rfl w1.heap.size 5 i0 (.int .u8 0) 1 Tryz.underlying22 hi hz0 hz1 hz2 rfl _ _ _ rfl (zam hown4 (zak (Below.refl _ _) _)) (some ⟨w4.heap.size, 0, none⟩) [UInt8.ofNat es.length] 1 rfl (Rd.new w4 [UInt8.ofNat es.length] _ _ (by rw [List.map_cons, HNB.out]; rfl)) zbt (by simp only [HN0.out, List.length_cons, List.length_nil]; unfold maxLen; omega) (by simp only [HN0.out, List.length_cons, List.length_nil]; omega) (by have := hB4.size; simp; omega) ?_; intro v5 w5 hown5 hgrow5 hat5; have hB5 := (zak hB4 (.cells #[.int .u8 (es.length : Int)] 5)).grown hgrow5 (by have := hB4.size; simp; omega) (fun k hk => (hown4.lt k hk).1)); have hc2 : w5.cell? ⟨w.heap.size, 1, none⟩ = some (.slice eA es.length ec) := (hR.later hB5).cell rfl)
 have hstart : beB v (conE es) 0 = 66 :: (L0 ++ [UInt8.ofNat es.length]) := by unfold beB; rw [HL0Q.out, zaF]; rfl
 have hown6 : w5.ownsRow w1.heap.size 5 1 v5 (beB v (conE es) 0).length ((beB v (conE es) 0).map vB) := by
  rw [hstart]
  simpa [HN0.out, Nat.add_comm] using hown5
 clear hown3 hown4 hgrow4 hat4 hgrow5 hat5 hc1 hc2 hB4 hB3 hsz3 hr1 hown5 hstart
 go_loopw [4, 28] (fun u i wr => ByB v es w1 u i wr) (fun _ i _ => es.length - (intOf i).toNat)
 case atStart => exact ⟨0, Nat.zero_le _, rfl, hown6, hB5⟩
 case round =>
  clear hown6 hB5
  obtain ⟨k, hk, rfl, hown, hbel⟩ := hrel
  have hRr := hR.later hbel
  by_cases hlt : k < es.length
  ·obtain ⟨b, o, rfl, hb, hrng, _, _, _⟩ := (hre1.keep hbel).one hlt
   have hx := hoe1 _ (List.getElem_mem hlt)
   have hlc : k < (conE es).length := by rw [zaF]; exact hlt
   have hfx := HFE.out _ (List.getElem_mem hlc)
   have hsx := HSH.out _ (List.getElem_mem hlc)
   rw [zcj es k hlt] at hfx hsx
   obtain ⟨L1, hL1⟩ : ∃ L, putL es[k].t = L := ⟨_, rfl⟩
   obtain ⟨L2, hL2⟩ : ∃ L, putL es[k].e = L := ⟨_, rfl⟩
   have HN1 : Hid (L1.length = 8) := by unfold Hid; rw [← hL1]; rfl
   have HN2 : Hid (L2.length = 8) := by unfold Hid; rw [← hL2]; rfl
   have HNX := Lib.hid (fun (u : Value) (n1 : Nat) (wr : World) (h) hn hB => zou (v := v) (es := es) (w := w1) (wr := wr) (u := u) (k := k) (n1 := n1) (L1 := L1) (L2 := L2) (Y := []) hlt hL1 hL2 h hn hB)
   have hbl := ziL v (conE es) k HSH.out
   rw [zaF] at hbl
   have HL1 := Lib.hid hL1
   have HL2 := Lib.hid hL2
   clear hL1 hL2
   generalize es[k] = x at hrng hx hfx hsx HNX HL1 HL2
   obtain ⟨xt, xe, xA, xc, xs⟩ := x
   obtain ⟨hxc, hxr⟩ := hx
   have HXW : Hid (∀ W, Below w1.heap.size w1 W → Rd vB W xA xs) := fun W hW => hxr.keep hW
   unfold ED.con at hfx hsx
   unfold ED.cells ED.at2 vNG at hrng
   dsimp only at hrng hfx hsx HNX HL1 HL2 hxc hxr
   generalize beB v (conE es) k = Lk at hown HNX hbl
   have c1 : wr.cell? ⟨w.heap.size, 1, none⟩ = some (.slice (some ⟨b, o, none⟩) es.length ec) := hRr.cell rfl
   have i2 : (0 : Int) ≤ (k : Int) := by omega
   have i3 : (k : Int) < (es.length : Int) := by omega
   have hR0 : Row (wr.alloc (.cells #[.int .u64 0, .int .u64 0, .slice none 0 0] 91)) wr.heap.size 91 [.int .u64 0, .int .u64 0, .slice none 0 0] := Row.new wr _ _ _ rfl
   have HS1 := zfN xs.length (by omega)
   generalize hxl : xs.length = xl at *
   have HXL := Lib.hid hxl
   clear hxl
   go_upto_region 9 with (first
    | (refine wpList_load_mid rfl 91 (.tmp 30) rfl b (o + k * 3) rfl [.int .u64 (xt : Int), .int .u64 (xe : Int), .slice xA xl xc] _ hrng Tryz.underlying91 rfl (by exact zbK) ?_)
    | (refine zab rfl 91 (.tmp 6) (.tmp 31) rfl wr.heap.size rfl [.int .u64 (xt : Int), .int .u64 (xe : Int), .slice xA xl xc] rfl _ _ hR0 (by exact zbK) rfl (zaK _ _ _ rfl rfl rfl) ?_))
   have hR1 := hR0.setRow [.int .u64 (xt : Int), .int .u64 (xe : Int), .slice xA xl xc]
   have hbn : Below wr.heap.size wr ((wr.alloc (.cells #[.int .u64 0, .int .u64 0, .slice none 0 0] 91)).setRow wr.heap.size [.int .u64 (xt : Int), .int .u64 (xe : Int), .slice xA xl xc].toArray) := below_setRow (zak (Below.refl _ _) _) (Nat.le_refl _) _
   generalize (wr.alloc (.cells #[.int .u64 0, .int .u64 0, .slice none 0 0] 91)).setRow wr.heap.size [.int .u64 (xt : Int), .int .u64 (xe : Int), .slice xA xl xc].toArray = wb at hR1 hbn ⊢
   have hap := zgh hown
   replace hown := zam hown hbn
   replace hbel := zaa hbel hbn
   have hg3 := hR1.lt
   have HBB := Lib.hid hbel
   clear hbn hR0 hrng c1 hxr hRr
   generalize wr.heap.size = gx at hR1 hap hg3 ⊢
   have c0 : wb.cell? ⟨gx, 0, none⟩ = some (.int .u64 (xt : Int)) := hR1.cell rfl
   go_wp2_with fail
   refine (zfj xt L1 hfx.1 HL1 _).mono ?_
   rintro ee wc ⟨A4, c4, rfl, hc4, hr4, hb4⟩
   have hown4 := zam hown hb4
   have hR4 := hR1.later hb4
   have hB4 := zaa HBB.out hb4
   have hsz4 := hB4.size
   have hg4 := hR4.lt
   clear hown hb4 c0 hR1
   go_wp2_with (at_builtin; refine zao _ rfl (.tmp 32) (.tmp 35) 22 rfl w1.heap.size 5 i0 (.int .u8 0) 1 Tryz.underlying22 hi hz0 hz1 hz2 rfl _ _ _ rfl hown4 A4 L1 c4 (by rw [HN1.out]; rfl) hr4 zbt (by rw [HN1.out]; unfold maxLen; omega) (by rw [HN1.out]; omega) (by omega) ?_; intro u5 wd hown5 hgrow5 hat5; have hR5 := hR4.grown hgrow5 hap; have hap5 := zhJ hap hg4 hat5; have hB5 := hB4.grown hgrow5 hsz4 (fun k hk => (hown4.lt k hk).1); have c1' : wd.cell? ⟨gx, 1, none⟩ = some (.int .u64 (xe : Int)) := hR5.cell rfl)
   refine (zfj xe L2 hfx.2 HL2 _).mono ?_
   rintro ee we ⟨A6, c6, rfl, hc6, hr6, hb6⟩
   have hown6 := zam hown5 hb6
   have hR6 := hR5.later hb6
   have hB6 := zaa hB5 hb6
   have hsz6 := hB6.size
   have hg6 := hR6.lt
   have hg5 := hR5.lt
   have hap6 := hap5
   clear hown5 hb6 c1' hR5 hap
   go_wp2_with (first
    | (at_builtin; refine zao _ rfl (.tmp 37) (.tmp 40) 22 rfl w1.heap.size 5 i0 (.int .u8 0) 1 Tryz.underlying22 hi hz0 hz1 hz2 rfl _ _ _ rfl hown6 A6 L2 c6 (by rw [HN2.out]; rfl) hr6 zbt (by rw [HN2.out, HN1.out]; unfold maxLen; omega) (by rw [HN2.out, HN1.out]; omega) (by omega) ?_; intro u7 wf hown7 hgrow7 hat7; have hR7 := hR6.grown hgrow7 hap6; have hap7 := zhJ hap6 hg6 hat7; have hB7 := hB6.grown hgrow7 hsz6 (fun k hk => (hown6.lt k hk).1); have c2' : wf.cell? ⟨gx, 2, none⟩ = some (.slice xA xl xc) := hR7.cell rfl; have hg7 := hR7.lt)
    | (at_builtin; refine zao _ rfl (.tmp 42) (.tmp 47) 22 rfl w1.heap.size 5 i0 (.int .u8 0) 1 Tryz.underlying22 hi hz0 hz1 hz2 rfl _ _ _ rfl (zam hown7 (zak (Below.refl _ _) _)) (some ⟨wf.heap.size, 0, none⟩) [UInt8.ofNat xl] 1 rfl (Rd.new wf [UInt8.ofNat xl] _ _ (by rw [List.map_cons, HS1]; rfl)) zbt (by simp only [HN2.out, HN1.out, List.length_cons, List.length_nil]; unfold maxLen; omega) (by simp only [HN2.out, HN1.out, List.length_cons, List.length_nil]; omega) (by have := hB7.size; simp; omega) ?_; intro u8 wg hown8 hgrow8 hat8; have hR8 := (hR7.alloc (.cells #[.int .u8 (xl : Int)] 5)).grown hgrow8 hap7; have hB8 := (zak hB7 (.cells #[.int .u8 (xl : Int)] 5)).grown hgrow8 (by have := hB7.size; simp; omega) (fun k hk => (hown7.lt k hk).1); have c3' : wg.cell? ⟨gx, 2, none⟩ = some (.slice xA xl xc) := hR8.cell rfl)
    | (at_builtin; refine zao _ rfl (.tmp 49) (.tmp 51) 22 rfl w1.heap.size 5 i0 (.int .u8 0) 1 Tryz.underlying22 hi hz0 hz1 hz2 rfl _ _ _ rfl hown8 xA xs xc (by rw [HXL.out]; rfl) (HXW.out _ hB8) zbt (by simp only [HXL.out, HN2.out, HN1.out, List.length_cons, List.length_nil]; unfold maxLen; omega) (by simp only [HXL.out, HN2.out, HN1.out, List.length_cons, List.length_nil]; omega) (by have := hB8.size; omega) ?_; intro u9 wh hown9 hgrow9 hat9; have hB9 := hB8.grown hgrow9 hB8.size (fun k hk => (hown8.lt k hk).1)))
   go_roundw
   case rel => exact HNX.out _ _ _ hown9 (by simp only [List.length_cons, List.length_nil, HXL.out]) hB9
   case measure => simp [intOf]; omega
  ·have hkl : k = es.length := by omega
   subst hkl
   have hbl := ziL v (conE es) es.length HSH.out
   rw [zaF] at hbl
   have hall := zpt v (conE es) gs
   rw [zaF] at hall
   have HALL := Lib.hid hall
   generalize beB v (conE es) es.length = Lk at hown hbl HALL
   have c1 : wr.cell? ⟨w.heap.size, 1, none⟩ = some (.slice eA es.length ec) := hRr.cell rfl
   have c2 : wr.cell? ⟨w.heap.size, 2, none⟩ = some (.slice gA m gc) := hRr.cell rfl
   have hme := HM.out
   subst hme
   have hrgw := hrg1.keep hbel
   have HBB := Lib.hid hbel
   have j1 : ¬ (es.length : Int) < (es.length : Int) := by omega
   clear hbel hall hk
   go_wp2_with fail
   refine (zjJ gs gs.length gc gA _ (Lib.hid rfl) hrgw HF (by omega)).mono ?_
   rw [HGB.out]
   rintro ee w9 ⟨v9, rfl, hown9, hb9⟩
   obtain ⟨A9, c9, rfl, hc9, hr9⟩ := zbk hown9
   have hown10 := zam hown hb9
   have HB9 := Lib.hid (zaa HBB.out hb9)
   have HBYL := Lib.hid (zbV gs)
   have hsz9 := HB9.out.size
   clear c1 c2 hb9 hown
   go_wp2_with (at_builtin; refine zao _ rfl (.tmp 60) (.tmp 61) 22 rfl w1.heap.size 5 i0 (.int .u8 0) 1 Tryz.underlying22 hi hz0 hz1 hz2 rfl _ _ _ rfl hown10 A9 (zbe gs) c9 rfl hr9 zbt (by rw [HBYL.out]; unfold maxLen; omega) (by rw [HBYL.out]; omega) hsz9 ?_; intro v10 w10 hown11 hgrow11 _; have hB10 := HB9.out.grown hgrow11 hsz9 (fun k hk => (hown10.lt k hk).1))
   rw [← List.map_append, ← List.length_append, HALL.out] at hown11
   obtain ⟨A11, c11, rfl, hc11, hr11⟩ := zbk hown11
   go_ret2
   exact ⟨A11, _, c11, rfl, Lib.hid rfl, hc11, hr11, HB1.out.trans (hB10.mono HB1.out.size)⟩
end Go.Proofs.YteljklkgdejhpaaGreatDoor
namespace Go.Proofs.YteljklkgdejhpaaGreatDoor
theorem zbP {k : Int} (S : List UInt8) (h : k ≠ 0) : zaH k S = (0, k, []) := if_neg h
theorem zcT {S : List UInt8} (h : 8 ≤ S.length) : zaH 0 S = (za5 S 0, 0, S.drop 8) := by
 unfold zaH za5
 rw [if_pos rfl, if_neg (by omega), List.drop_zero]
theorem zbY {S : List UInt8} (h : S.length < 8) : zaH 0 S = (0, 2, []) := by
 unfold zaH
 rw [if_pos rfl, if_pos h]
theorem zdZ (k : Int) (S : List UInt8) : (zaH k S).1 < 18446744073709551616 := by
 unfold zaH
 split
 ·split
  ·show 0 < _; decide
  ·have h := zhx (S.take 8)
   have hl : (S.take 8).length ≤ 8 := by rw [List.length_take]; omega
   have h2 : (256 : Nat) ^ (S.take 8).length ≤ 256 ^ 8 := Nat.pow_le_pow_right (by decide) hl
   show valN (S.take 8) < _
   omega
 ·show 0 < _; decide
theorem zbn (b : List UInt8) (j k : Nat) : za5 (b.drop j) k = za5 b (j + k) := by
 unfold za5
 rw [List.drop_drop]
theorem zlo (b : List UInt8) (j k : Nat) : zcG (b.drop j) k = zcG b (j + k) := by
 unfold zcG
 rw [zbn, zbn, zbn, Nat.add_assoc, Nat.add_assoc]
theorem zdD (b : List UInt8) (j : Nat) : ∀ (n k : Nat), zcA (b.drop j) k n = zcA b (j + k) n
 | 0, _ => rfl
 | n + 1, k => by
  unfold zcA
  rw [zlo, zdD b j n (k + 24), Nat.add_assoc]
def useK (k : Int) (S : List UInt8) : Us × Int × List UInt8 :=
 (((zaH k S).1, (zaH (zaH k S).2.1 (zaH k S).2.2).1, (zaH (zaH (zaH k S).2.1 (zaH k S).2.2).2.1 (zaH (zaH k S).2.1 (zaH k S).2.2).2.2).1),
  (zaH (zaH (zaH k S).2.1 (zaH k S).2.2).2.1 (zaH (zaH k S).2.1 (zaH k S).2.2).2.2).2.1, (zaH (zaH (zaH k S).2.1 (zaH k S).2.2).2.1 (zaH (zaH k S).2.1 (zaH k S).2.2).2.2).2.2)
theorem zfk {k k1 k2 k3 : Int} {S S1 S2 S3 : List UInt8} {a b c : Nat} (h1 : zaH k S = (a, k1, S1)) (h2 : zaH k1 S1 = (b, k2, S2)) (h3 : zaH k2 S2 = (c, k3, S3)) : useK k S = ((a, b, c), k3, S3) := by
 unfold useK
 rw [h1, h2, h3]
theorem zkv (k : Int) (S : List UInt8) : zcF (useK k S).1 := ⟨zdZ _ _, zdZ _ _, zdZ _ _⟩
theorem zov {k : Int} (S : List UInt8) (h : k ≠ 0) : useK k S = ((0, 0, 0), k, []) := zfk (zbP S h) (zbP [] h) (zbP [] h)
theorem zjU {S : List UInt8} (h : 24 ≤ S.length) : useK 0 S = (zcG S 0, 0, S.drop 24) := by
 have h1 := zcT (S := S) (by omega)
 have h2 := zcT (S := S.drop 8) (by rw [List.length_drop]; omega)
 have h3 := zcT (S := (S.drop 8).drop 8) (by rw [List.length_drop, List.length_drop]; omega)
 rw [zfk h1 h2 h3]
 unfold zcG
 rw [zbn, zbn, zbn, List.drop_drop, List.drop_drop]
theorem zhf {S : List UInt8} (h : S.length < 24) : (useK 0 S).2.1 ≠ 0 := by
 by_cases c1 : S.length < 8
 ·rw [zfk (zbY c1) (zbP [] (by decide)) (zbP [] (by decide))]
  show (2 : Int) ≠ 0
  decide
 ·by_cases c2 : S.length < 16
  ·rw [zfk (zcT (S := S) (by omega)) (zbY (S := S.drop 8) (by rw [List.length_drop]; omega)) (zbP [] (by decide))]
   show (2 : Int) ≠ 0
   decide
  ·rw [zfk (zcT (S := S) (by omega)) (zcT (S := S.drop 8) (by rw [List.length_drop]; omega)) (zbY (S := (S.drop 8).drop 8) (by rw [List.length_drop, List.length_drop]; omega))]
   show (2 : Int) ≠ 0
   decide
def zcq : Nat → Int → List UInt8 → List Us × Int × List UInt8
 | 0, k, S => ([], k, S)
 | q + 1, k, S => ((useK k S).1 :: (zcq q (useK k S).2.1 (useK k S).2.2).1, (zcq q (useK k S).2.1 (useK k S).2.2).2)
theorem zgm : ∀ (q : Nat) {k : Int} (S : List UInt8), k ≠ 0 → (zcq q k S).2.1 = k
 | 0, _, _, _ => rfl
 | q + 1, k, S, h => by
  unfold zcq
  rw [zov S h]
  exact zgm q [] h
theorem zkw : ∀ (q : Nat) {S : List UInt8}, 24 * q ≤ S.length → zcq q 0 S = (zcA S 0 q, 0, S.drop (24 * q))
 | 0, S, _ => by
  unfold zcq zcA
  rw [Nat.mul_zero, List.drop_zero]
 | q + 1, S, h => by
  unfold zcq
  rw [zjU (by omega)]
  dsimp only
  rw [zkw q (by rw [List.length_drop]; omega)]
  dsimp only
  rw [zdD, List.drop_drop]
  show _ = (zcG S 0 :: zcA S (0 + 24) q, _)
  rw [show 24 + 24 * q = 24 * (q + 1) by omega]
theorem zgn : ∀ (q : Nat) {S : List UInt8}, S.length < 24 * q → (zcq q 0 S).2.1 ≠ 0
 | 0, S, h => by omega
 | q + 1, S, h => by
  by_cases c : S.length < 24
  ·unfold zcq
   have h1 := zhf c
   rw [show (zcq q (useK 0 S).2.1 (useK 0 S).2.2).2.1 = (useK 0 S).2.1 from zgm q _ h1]
   exact h1
  ·unfold zcq
   rw [zjU (by omega)]
   exact zgn q (by rw [List.length_drop]; omega)
theorem zlp {q j : Nat} {k kk : Int} {S T : List UInt8} {l : List Us} (hj : j < q) (h : zcq q k S = (l ++ (zcq (q - j) kk T).1, (zcq (q - j) kk T).2)) :
  zcq q k S = ((l ++ [(useK kk T).1]) ++ (zcq (q - (j + 1)) (useK kk T).2.1 (useK kk T).2.2).1, (zcq (q - (j + 1)) (useK kk T).2.1 (useK kk T).2.2).2) := by
 rw [h]
 obtain ⟨m, hm⟩ : ∃ m, q - j = m + 1 := ⟨q - j - 1, by omega⟩
 rw [hm, show q - (j + 1) = m by omega]
 show (l ++ (useK kk T).1 :: _, _) = _
 rw [List.append_assoc]
 rfl
def BunK (k : Int) (S : List UInt8) (kE : Int) (b : Bn) : Prop := (k ≠ 0 → kE = k) ∧ (k = 0 → (kE = 0 ∧ allB S = some b) ∨ (kE ≠ 0 ∧ allB S = none))
theorem ziN {k : Int} (S : List UInt8) (h : k ≠ 0) : oneK k S = (0, k, []) := if_neg h
theorem zgo (x : UInt8) (r : List UInt8) : oneK 0 (x :: r) = (x.toNat, 0, r) := rfl
theorem zhX : oneK 0 [] = (0, 2, []) := rfl
theorem zm6 {b S0 S1 S2 S3 S4 S5 S6 : List UInt8} {k0 k1 k2 k3 k4 k5 k6 k7 : Int} {n c rm fl q : Nat} {l : List Us} {x : Bn}
  (h0 : zeS 77 b = (k0, S0)) (h1 : zaH k0 S0 = (n, k1, S1)) (h2 : zaH k1 S1 = (c, k2, S2)) (h3 : oneK k2 S2 = (rm, k3, S3)) (h4 : zaH k3 S3 = (fl, k4, S4)) (h5 : oneK k4 S4 = (q, k5, S5)) (h6 : zcq q k5 S5 = (l, k6, S6)) (h7 : BunK k6 S6 k7 x) :
  za2 b = if k7 = 0 then (if zaX ⟨c, x, ((rm : Int), fl, l)⟩ = true then some (n, ⟨c, x, ((rm : Int), fl, l)⟩) else none) else none := by
 have b7 : k6 ≠ 0 → k7 ≠ 0 := fun h => by rw [h7.1 h]; exact h
 have b6 : k5 ≠ 0 → k7 ≠ 0 := fun h => b7 (by have := zgm q S5 h; rw [h6] at this; rw [show k6 = k5 from this]; exact h)
 have b5 : k4 ≠ 0 → k7 ≠ 0 := fun h => b6 (by rw [ziN S4 h] at h5; injection h5 with _ e; injection e with e _; rw [← e]; exact h)
 have b4 : k3 ≠ 0 → k7 ≠ 0 := fun h => b5 (by rw [zbP S3 h] at h4; injection h4 with _ e; injection e with e _; rw [← e]; exact h)
 have b3 : k2 ≠ 0 → k7 ≠ 0 := fun h => b4 (by rw [ziN S2 h] at h3; injection h3 with _ e; injection e with e _; rw [← e]; exact h)
 have b2 : k1 ≠ 0 → k7 ≠ 0 := fun h => b3 (by rw [zbP S1 h] at h2; injection h2 with _ e; injection e with e _; rw [← e]; exact h)
 have b1 : k0 ≠ 0 → k7 ≠ 0 := fun h => b2 (by rw [zbP S0 h] at h1; injection h1 with _ e; injection e with e _; rw [← e]; exact h)
 have bad : k7 ≠ 0 → za2 b = none → za2 b = if k7 = 0 then (if zaX ⟨c, x, ((rm : Int), fl, l)⟩ = true then some (n, ⟨c, x, ((rm : Int), fl, l)⟩) else none) else none := fun h e => by rw [if_neg h]; exact e
 have none1 : b.length < 27 ∨ b.getD 0 0 ≠ 77 → za2 b = none := fun h => by unfold za2; rw [if_pos h]
 cases b with
 | nil => exact bad (b1 (by have : k0 = 2 := (congrArg Prod.fst h0).symm; rw [this]; decide)) (none1 (.inl (by show 0 < 27; decide)))
 | cons y r =>
  by_cases hy : y = 77
  ·subst hy
   have e0 : 0 = k0 ∧ r = S0 := by
    have : zeS 77 (77 :: r) = (0, r) := by simp [zeS]
    rw [this] at h0
    injection h0 with e1 e2
    exact ⟨e1, e2⟩
   obtain ⟨e01, e02⟩ := e0
   subst e01 e02
   have hlen : ∀ j, (77 :: r : List UInt8).length < j + 1 ↔ r.length < j := fun j => by rw [List.length_cons]; omega
   by_cases c1 : r.length < 8
   ·exact bad (b2 (by rw [zbY c1] at h1; injection h1 with _ e; injection e with e _; rw [← e]; decide)) (none1 (.inl ((hlen 26).2 (by omega))))
   rw [zcT (by omega)] at h1
   injection h1 with en e; injection e with e1 eS1; subst en e1 eS1
   by_cases c2 : r.length < 16
   ·exact bad (b3 (by rw [zbY (by rw [List.length_drop]; omega)] at h2; injection h2 with _ e; injection e with e _; rw [← e]; decide)) (none1 (.inl ((hlen 26).2 (by omega))))
   rw [zcT (by rw [List.length_drop]; omega)] at h2
   injection h2 with en e; injection e with e1 eS1; subst en e1 eS1
   rw [List.drop_drop] at h3
   by_cases c3 : r.length < 17
   ·have : r.drop (8 + 8) = [] := List.drop_eq_nil_of_le (by omega)
    rw [this, zhX] at h3
    exact bad (b4 (by injection h3 with _ e; injection e with e _; rw [← e]; decide)) (none1 (.inl ((hlen 26).2 (by omega))))
   have d16 : r.drop (8 + 8) = r[16]'(by omega) :: r.drop 17 := List.drop_eq_getElem_cons (by omega)
   rw [d16, zgo] at h3
   injection h3 with en e; injection e with e1 eS1; subst en e1 eS1
   by_cases c4 : r.length < 25
   ·exact bad (b5 (by rw [zbY (by rw [List.length_drop]; omega)] at h4; injection h4 with _ e; injection e with e _; rw [← e]; decide)) (none1 (.inl ((hlen 26).2 (by omega))))
   rw [zcT (by rw [List.length_drop]; omega)] at h4
   injection h4 with en e; injection e with e1 eS1; subst en e1 eS1
   rw [List.drop_drop] at h5
   by_cases c5 : r.length < 26
   ·have : r.drop (17 + 8) = [] := List.drop_eq_nil_of_le (by omega)
    rw [this, zhX] at h5
    exact bad (b6 (by injection h5 with _ e; injection e with e _; rw [← e]; decide)) (none1 (.inl ((hlen 26).2 (by omega))))
   have d25 : r.drop (17 + 8) = r[25]'(by omega) :: r.drop 26 := List.drop_eq_getElem_cons (by omega)
   rw [d25, zgo] at h5
   injection h5 with en e; injection e with e1 eS1; subst en e1 eS1
   have g17 : (77 :: r : List UInt8).getD 17 0 = r[16]'(by omega) := by
    rw [List.getD_cons_succ, List.getD_eq_getElem?_getD, List.getElem?_eq_getElem (by omega)]; rfl
   have g26 : (77 :: r : List UInt8).getD 26 0 = r[25]'(by omega) := by
    rw [List.getD_cons_succ, List.getD_eq_getElem?_getD, List.getElem?_eq_getElem (by omega)]; rfl
   generalize hq : (r[25]'(by omega)).toNat = Q at h6
   have n27 : ¬ ((77 :: r : List UInt8).length < 27 ∨ (77 :: r : List UInt8).getD 0 0 ≠ 77) := by
    intro h
    rcases h with h | h
    ·have := (hlen 26).1 h; omega
    ·exact h rfl
   by_cases c6 : r.length < 26 + 24 * Q
   ·have h8 : k6 ≠ 0 := by
     have := zgn Q (S := r.drop 26) (by rw [List.length_drop]; omega)
     rw [h6] at this
     exact this
    refine bad (b7 h8) ?_
    unfold za2
    rw [if_neg n27, g26, hq, if_pos (by rw [List.length_cons]; omega)]
   rw [zkw Q (by rw [List.length_drop]; omega)] at h6
   injection h6 with en e; injection e with e1 eS1; subst en e1 eS1
   have hR : za2 (77 :: r) = match allB (r.drop (26 + 24 * Q)) with
     | none => none
     | some x => if zaX (zid (77 :: r) x) = true then some (za5 (77 :: r) 1, zid (77 :: r) x) else none := by
    conv => lhs; unfold za2
    rw [if_neg n27, g26, hq, if_neg (by rw [List.length_cons]; omega)]
    have : (77 :: r : List UInt8).drop (27 + 24 * Q) = r.drop (26 + 24 * Q) := by
     rw [show 27 + 24 * Q = (26 + 24 * Q) + 1 by omega, List.drop_succ_cons]
    rw [this]
    cases allB (r.drop (26 + 24 * Q)) <;> rfl
   have hM : zid (77 :: r) x = ⟨za5 (r.drop 8) 0, x, (((r[16]'(by omega)).toNat : Int), za5 (r.drop 17) 0, zcA (r.drop 26) 0 Q)⟩ := by
    unfold zid
    rw [g17, g26, hq]
    have t : ∀ k, za5 (77 :: r) (k + 1) = za5 r k := fun k => rfl
    have t2 : ∀ (n k : Nat), zcA (77 :: r) (k + 1) n = zcA r k n := fun n k => by
     have := zdD (77 :: r) 1 n k
     rw [Nat.add_comm]
     exact this.symm
    rw [t 8, t 17, t2 Q 26, zbn, zbn, zdD]
   have hN : za5 (77 :: r) 1 = za5 r 0 := rfl
   rw [List.drop_drop] at h7
   rcases h7.2 rfl with ⟨e7, hall⟩ | ⟨e7, hall⟩
   ·rw [hR, hall, if_pos e7]
    dsimp only
    rw [hM, hN]
   ·rw [hR, hall, if_neg e7]
  ·have e0 : zeS 77 (y :: r) = (3, []) := by simp [zeS, hy]
   rw [e0] at h0
   exact bad (b1 (by injection h0 with e _; rw [← e]; decide)) (none1 (.inr (by show y ≠ 77; exact hy)))
theorem zm7 {r S1 S2 S3 : List UInt8} {k1 k2 k3 : Int} {u : Us} {c f : Nat} (h1 : useK 0 r = (u, k1, S1)) (h2 : zaH k1 S1 = (c, k2, S2)) (h3 : zaH k2 S2 = (f, k3, S3)) :
  (r.length = 40 → endK k3 S3 = 0 ∧ u = zcG r 0 ∧ c = za5 r 24 ∧ f = za5 r 32) ∧ (r.length ≠ 40 → endK k3 S3 ≠ 0) := by
 by_cases c1 : r.length < 24
 ·have hk := zhf c1
  rw [h1] at hk
  have hk1 : k1 ≠ 0 := hk
  rw [zbP S1 hk1] at h2
  injection h2 with _ e; injection e with e1 e2; subst e1 e2
  rw [zbP [] hk1] at h3
  injection h3 with _ e; injection e with e1 e2; subst e1 e2
  refine ⟨fun h => by omega, fun _ => ?_⟩
  unfold endK
  rw [if_neg (fun h => hk1 h.1)]
  exact hk1
 ·rw [zjU (by omega)] at h1
  injection h1 with e0 e; injection e with e1 e2; subst e0 e1 e2
  by_cases c2 : r.length < 32
  ·rw [zbY (by rw [List.length_drop]; omega)] at h2
   injection h2 with _ e; injection e with e1 e2; subst e1 e2
   rw [zbP [] (by decide)] at h3
   injection h3 with _ e; injection e with e1 e2; subst e1 e2
   exact ⟨fun h => by omega, fun _ => by decide⟩
  ·rw [zcT (by rw [List.length_drop]; omega)] at h2
   injection h2 with e0 e; injection e with e1 e2; subst e0 e1 e2
   by_cases c3 : r.length < 40
   ·rw [zbY (by rw [List.length_drop, List.length_drop]; omega)] at h3
    injection h3 with _ e; injection e with e1 e2; subst e1 e2
    exact ⟨fun h => by omega, fun _ => by decide⟩
   ·rw [zcT (by rw [List.length_drop, List.length_drop]; omega)] at h3
    injection h3 with e0 e; injection e with e1 e2; subst e0 e1 e2
    rw [zbn, zbn, List.drop_drop, List.drop_drop]
    refine ⟨fun h => ⟨?_, rfl, rfl, ?_⟩, fun h => ?_⟩
    ·unfold endK
     rw [if_neg (fun hh => hh.2 (List.drop_eq_nil_of_le (by omega)))]
    ·rw [zbn]
    ·unfold endK
     rw [if_pos ⟨rfl, fun hh => by have := congrArg List.length hh; rw [List.length_drop, List.length_nil] at this; omega⟩]
     decide
theorem zm8 {m : MemK} {r : List UInt8} : zbT m (85 :: r) = if r.length = 40 then (if (zaY m (zcG r 0) (za5 r 24) (za5 r 32)).2 = 0 then some (zaY m (zcG r 0) (za5 r 24) (za5 r 32)).1 else none) else none := by
 have e : zbT m (85 :: r) = if (r.length + 1 = 41) then (if (zaY m (zcG (85 :: r) 1) (za5 (85 :: r) 25) (za5 (85 :: r) 33)).2 = 0 then some (zaY m (zcG (85 :: r) 1) (za5 (85 :: r) 25) (za5 (85 :: r) 33)).1 else none) else none := by
  unfold zbT
  have h0 : (85 :: r : List UInt8).getD 0 0 = 85 := rfl
  rw [h0, List.length_cons]
  by_cases h : r.length + 1 = 41
  ·rw [if_pos ⟨rfl, h⟩, if_pos h]
  ·rw [if_neg (fun hh => h hh.2), if_neg h, if_neg (by decide)]
 have hu : zcG (85 :: r) 1 = zcG r 0 := rfl
 have h25 : za5 (85 :: r) 25 = za5 r 24 := rfl
 have h33 : za5 (85 :: r) 33 = za5 r 32 := rfl
 rw [e, hu, h25, h33]
 by_cases h : r.length = 40
 ·rw [if_pos h, if_pos (by omega)]
 ·rw [if_neg h, if_neg (by omega)]
theorem zm9 {m : MemK} {r : List UInt8} : zbT m (78 :: r) = match allB r with
  | none => none
  | some x => if m.b.1 < x.1 then some { m with b := x } else none := by
 have h0 : (78 :: r : List UInt8).getD 0 0 = 78 := rfl
 have hd : (78 :: r : List UInt8).drop 1 = r := rfl
 unfold zbT
 rw [h0, if_neg (fun hh => by have := hh.1; cases this), if_pos rfl, hd]
 cases allB r <;> rfl
theorem zna {m : MemK} {b : List UInt8} (h1 : b.getD 0 0 ≠ 85) (h2 : b.getD 0 0 ≠ 78) : zbT m b = none := by
 unfold zbT
 rw [if_neg (fun hh => h1 hh.1), if_neg h2]
def zd0 (a : AK) : Prop := a.s = a.b.length
theorem zdl (a : AK) (ke : Int) : zd0 (zbD a ke) := by
 unfold zd0 zbD
 dsimp only
 rw [List.length_take, Nat.min_eq_left (zmc a ke)]
theorem zef (a : AK) (ke : Int) : ∃ j, (zbD a ke).b = a.b.take j := ⟨_, rfl⟩
theorem zkx {a : AK} (hs : zd0 a) (X : List UInt8) {ke : Int} (hk : 0 ≤ ke) : ∃ j, (zbD ⟨a.b ++ X, a.s⟩ ke).b = a.b ++ X.take j := by
 unfold zd0 at hs
 refine ⟨cutN ⟨a.b ++ X, a.s⟩ ke - a.b.length, ?_⟩
 show (a.b ++ X).take (cutN ⟨a.b ++ X, a.s⟩ ke) = _
 have hge : a.b.length ≤ cutN ⟨a.b ++ X, a.s⟩ ke := by
  unfold cutN
  dsimp only
  rw [hs, List.length_append]
  omega
 rw [List.take_append, List.take_of_length_le hge]
theorem zpu {k : Nat} (hk : k = 0 ∨ k = 1) {a o : AK} {fu ke : Int} (h : zaA (mkD k a o fu ke false)) :
  zcE (mkD k a o fu ke false) (1 - (k : Int)) = if fu = 0 then (mkD k (zbD a ke) (zbD o ke) (-1) ke true, 14) else (mkD k a ⟨[], 0⟩ (burn fu) ke false, 0) :=
 ze9 hk h (fun _ => false) (fun _ a => a) (fun _ _ => ⟨[], 0⟩) rfl
theorem zow {k : Nat} (hk : k = 0 ∨ k = 1) {a o : AK} {fu ke : Int} (h : zaA (mkD k a o fu ke false)) (b : List UInt8) (hl : o.b.length + b.length ≤ 1048576) :
  zbf (mkD k a o fu ke false) (1 - (k : Int)) b = if fu = 0 then (mkD k (zbD a ke) (zbD ⟨o.b ++ b.take ke.toNat, o.s⟩ ke) (-1) ke true, 14) else (mkD k a ⟨o.b ++ b, o.s⟩ (burn fu) ke false, 0) := by
 have := ze9 hk h (fun j => decide (1048576 < (getA (mkD k a o fu ke false) j).b.length + b.length)) (fun _ y => ⟨y.b ++ b.take (mkD k a o fu ke false).keep.toNat, y.s⟩) (fun _ y => ⟨y.b ++ b, y.s⟩) (by
  rw [(zdN k hk _ _ _ _ _).2, decide_eq_false_iff_not]
  omega)
 rw [(zaM k a o fu ke false).2.2] at this
 unfold zbf
 rw [(zaM k a o fu ke false).2.2]
 exact this
theorem zpv {k : Nat} (hk : k = 0 ∨ k = 1) {a o : AK} {fu ke : Int} (h : zaA (mkD k a o fu ke false)) :
  zda (mkD k a o fu ke false) (1 - (k : Int)) = if fu = 0 then (mkD k (zbD a ke) (zbD o ke) (-1) ke true, 14) else (mkD k a ⟨o.b, (o.b.length : Int)⟩ (burn fu) ke false, 0) :=
 ze9 hk h (fun _ => false) (fun _ a => a) (fun _ a => ⟨a.b, (a.b.length : Int)⟩) rfl
theorem zlq {k : Nat} (hk : k = 0 ∨ k = 1) {a o : AK} {fu ke : Int} (h : zaA (mkD k a o fu ke false)) (b : List UInt8) (hl : a.b.length + b.length ≤ 1048576) :
  zbf (mkD k a o fu ke false) (k : Int) b = if fu = 0 then (mkD k (zbD ⟨a.b ++ b.take ke.toNat, a.s⟩ ke) (zbD o ke) (-1) ke true, 14) else (mkD k ⟨a.b ++ b, a.s⟩ o (burn fu) ke false, 0) := by
 have := zih hk h (fun j => decide (1048576 < (getA (mkD k a o fu ke false) j).b.length + b.length)) (fun _ y => ⟨y.b ++ b.take (mkD k a o fu ke false).keep.toNat, y.s⟩) (fun _ y => ⟨y.b ++ b, y.s⟩) (by
  rw [(zdN k hk _ _ _ _ _).1, decide_eq_false_iff_not]
  omega)
 rw [(zaM k a o fu ke false).2.2] at this
 unfold zbf
 rw [(zaM k a o fu ke false).2.2]
 exact this
theorem znb {k : Nat} (hk : k = 0 ∨ k = 1) {a o : AK} {fu ke : Int} (h : zaA (mkD k a o fu ke false)) :
  zda (mkD k a o fu ke false) (k : Int) = if fu = 0 then (mkD k (zbD a ke) (zbD o ke) (-1) ke true, 14) else (mkD k ⟨a.b, (a.b.length : Int)⟩ o (burn fu) ke false, 0) :=
 zih hk h (fun _ => false) (fun _ a => a) (fun _ a => ⟨a.b, (a.b.length : Int)⟩) rfl
theorem zcI {x : Int} (h : x = -1) : burn x = -1 := by rw [h]; rfl
theorem ne14 : ¬ (14 : Int) = 0 := by decide
section
variable {f : List UInt8 → List UInt8} (h4 : ∀ b, (f b).length = 4)
include h4
theorem zfy {k : Nat} (hk : k = 0 ∨ k = 1) {a o : AK} {fu ke : Int} (ha : zaS a) (hs : zd0 a) (ho : zaS o) (hfu : -1 ≤ fu) (hke : 0 ≤ ke) {t : List UInt8} (ht : t.length ≤ 60000) :
  (∃ fu', -1 ≤ fu' ∧ (fu = -1 → fu' = -1) ∧ zbd f (mkD k a o fu ke false) (1 - (k : Int)) t = (mkD k a ⟨zas f t, ((zas f t).length : Int)⟩ fu' ke false, 0)) ∨
  (fu ≠ -1 ∧ ∃ o', zaS o' ∧ zd0 o' ∧ ((∃ j, o'.b = o.b.take j) ∨ ∃ j, o'.b = (zas f t).take j) ∧ zbd f (mkD k a o fu ke false) (1 - (k : Int)) t = (mkD k a o' (-1) ke true, 14)) := by
 have hS : (zas f t).length = 6 + t.length := zaZ h4 t
 have hca : zbD a ke = a := zn5 ha hs hke
 have e1 := zpu hk ((zbN hk).2 ⟨ha, ho, hfu, hke⟩)
 by_cases f0 : fu = 0
 ·rw [if_pos f0, hca] at e1
  refine .inr ⟨by omega, zbD o ke, zbS ho.2.2, zdl o ke, .inl (zef o ke), ?_⟩
  unfold zbd
  rw [e1, if_neg ne14]
 ·rw [if_neg f0] at e1
  have hb1 := zfT hfu
  have hro : zaS ⟨[], 0⟩ := ⟨Int.le_refl _, Int.le_refl _, Nat.zero_le _⟩
  have e2 := zow hk ((zbN hk).2 ⟨ha, hro, hb1, hke⟩) (zas f t) (by simp; omega)
  rw [List.nil_append, List.nil_append] at e2
  by_cases f1 : burn fu = 0
  ·rw [if_pos f1, hca] at e2
   refine .inr ⟨fun h => by rw [zcI h] at f1; exact absurd f1 (by decide), zbD ⟨(zas f t).take ke.toNat, 0⟩ ke, zbS (by show ((zas f t).take ke.toNat).length ≤ _; rw [List.length_take]; omega), zdl _ _, .inr ?_, ?_⟩
   ·obtain ⟨j, hj⟩ := zef ⟨(zas f t).take ke.toNat, 0⟩ ke
    rw [hj]
    exact ⟨min j ke.toNat, List.take_take ..⟩
   ·unfold zbd
    rw [e1, if_pos rfl]
    unfold zdb
    rw [e2, if_pos ne14]
  ·rw [if_neg f1] at e2
   have hb2 := zfT hb1
   have hro2 : zaS ⟨zas f t, 0⟩ := ⟨Int.le_refl _, by show (0 : Int) ≤ ((zas f t).length : Int); omega, by show (zas f t).length ≤ _; omega⟩
   have e3 := zpv hk ((zbN hk).2 ⟨ha, hro2, hb2, hke⟩)
   by_cases f2 : burn (burn fu) = 0
   ·rw [if_pos f2, hca] at e3
    refine .inr ⟨fun h => by rw [zcI (zcI h)] at f2; exact absurd f2 (by decide), zbD ⟨zas f t, 0⟩ ke, zbS hro2.2.2, zdl _ _, .inr (zef ⟨zas f t, 0⟩ ke), ?_⟩
    unfold zbd
    rw [e1, if_pos rfl]
    unfold zdb
    rw [e2, if_neg (not_not_intro rfl)]
    exact e3
   ·rw [if_neg f2] at e3
    refine .inl ⟨burn (burn (burn fu)), zfT hb2, fun h => zcI (zcI (zcI h)), ?_⟩
    unfold zbd
    rw [e1, if_pos rfl]
    unfold zdb
    rw [e2, if_neg (not_not_intro rfl)]
    exact e3
omit h4 in
theorem zky {k : Nat} (hk : k = 0 ∨ k = 1) {a o : AK} {fu ke : Int} (ha : zaS a) (hs : zd0 a) (ho : zaS o) (hfu : -1 ≤ fu) (hke : 0 ≤ ke) {t : List UInt8} (hl : a.b.length + (zas f t).length ≤ 1048576) :
  (∃ fu', -1 ≤ fu' ∧ (fu = -1 → fu' = -1) ∧ zdb f (mkD k a o fu ke false) (k : Int) t = (mkD k ⟨a.b ++ zas f t, ((a.b ++ zas f t).length : Int)⟩ o fu' ke false, 0)) ∨
  (fu ≠ -1 ∧ ∃ a', zaS a' ∧ zd0 a' ∧ (∃ j, a'.b = a.b ++ (zas f t).take j) ∧ zdb f (mkD k a o fu ke false) (k : Int) t = (mkD k a' (zbD o ke) (-1) ke true, 14)) := by
 have e2 := zlq hk ((zbN hk).2 ⟨ha, ho, hfu, hke⟩) (zas f t) hl
 by_cases f1 : fu = 0
 ·rw [if_pos f1] at e2
  refine .inr ⟨by omega, zbD ⟨a.b ++ (zas f t).take ke.toNat, a.s⟩ ke, zbS (by show (a.b ++ (zas f t).take ke.toNat).length ≤ _; rw [List.length_append, List.length_take]; omega), zdl _ _, ?_, by unfold zdb; rw [e2, if_pos ne14]⟩
  obtain ⟨j, hj⟩ := zkx hs ((zas f t).take ke.toNat) hke
  rw [hj]
  exact ⟨min j ke.toNat, by rw [List.take_take]⟩
 ·rw [if_neg f1] at e2
  have hb2 := zfT hfu
  have hra : zaS ⟨a.b ++ zas f t, a.s⟩ := ⟨ha.1, by show a.s ≤ ((a.b ++ zas f t).length : Int); rw [List.length_append]; have := ha.2.1; omega, by show (a.b ++ zas f t).length ≤ _; rw [List.length_append]; exact hl⟩
  have e3 := znb hk ((zbN hk).2 ⟨hra, ho, hb2, hke⟩)
  by_cases f2 : burn fu = 0
  ·rw [if_pos f2] at e3
   refine .inr ⟨fun h => by rw [zcI h] at f2; exact absurd f2 (by decide), zbD ⟨a.b ++ zas f t, a.s⟩ ke, zbS hra.2.2, zdl _ _, zkx hs (zas f t) hke, ?_⟩
   unfold zdb
   rw [e2, if_neg (not_not_intro rfl)]
   exact e3
  ·rw [if_neg f2] at e3
   refine .inl ⟨burn (burn fu), zfT hb2, fun h => zcI (zcI h), ?_⟩
   unfold zdb
   rw [e2, if_neg (not_not_intro rfl)]
   exact e3
end
def ziO (k n : Nat) (x : Option (Nat × MemK × Nat)) : Prop := ∀ y, x = some y → if k = 0 then y.1 ≤ n else y.1 < n
theorem zo1 {f : List UInt8 → List UInt8} {k : Nat} (hk : k = 0 ∨ k = 1) {a o : AK} {fu ke : Int} {dn : Bool} {x : Nat × MemK × Nat} : hasK f (mkD k a o fu ke dn) = some (k, x) ↔ za6 f a.b = some x ∧ ziO k x.1 (za6 f o.b) := by
 rcases hk with rfl | rfl
 ·unfold mkD hasK ziO
  simp only [if_true]
  cases ha : za6 f a.b with
  | none =>
   cases ho : za6 f o.b with
   | none => simp
   | some y => simp
  | some z =>
   cases ho : za6 f o.b with
   | none =>
    simp
   | some y =>
    by_cases h : y.1 ≤ z.1
    ·simp only [h, if_true]
     constructor
     ·intro e
      injection e with e
      injection e with _ e
      subst e
      exact ⟨rfl, fun v hv => by injection hv with hv; subst hv; exact h⟩
     ·rintro ⟨e, _⟩
      injection e with e
      rw [e]
    ·simp only [h, if_false]
     constructor
     ·intro e
      injection e with e
      injection e with e _
      exact absurd e (by decide)
     ·rintro ⟨e, hb⟩
      injection e with e
      subst e
      exact absurd (hb y rfl) h
 ·unfold mkD hasK ziO
  simp only [Nat.one_ne_zero, if_false]
  cases ha : za6 f a.b with
  | none =>
   cases ho : za6 f o.b with
   | none => simp
   | some y => simp
  | some z =>
   cases ho : za6 f o.b with
   | none =>
    simp
   | some y =>
    by_cases h : z.1 ≤ y.1
    ·simp only [h, if_true]
     constructor
     ·intro e
      injection e with e
      injection e with e _
      exact absurd e (by decide)
     ·rintro ⟨e, hb⟩
      injection e with e
      subst e
      have := hb y rfl
      omega
    ·simp only [h, if_false]
     constructor
     ·intro e
      injection e with e
      injection e with _ e
      subst e
      exact ⟨rfl, fun v hv => by injection hv with hv; subst hv; omega⟩
     ·rintro ⟨e, _⟩
      injection e with e
      rw [e]
theorem zkz : ∀ {es : List En}, (∀ x ∈ es, zc3 x) → (zcl es).length ≤ 49 * es.length
 | [], _ => Nat.le_refl _
 | x :: es, h => by
  have ih := zkz (es := es) (fun y hy => h y (List.mem_cons_of_mem _ hy))
  have hx := h x (List.mem_cons_self ..)
  rw [zd6, List.length_append, zeq, List.length_cons]
  have := hx.2
  omega
theorem zcU {x : Bn} (h : zaJ x.2.1 x.2.2 = true) : (zaL x).length ≤ 4171 := by
 obtain ⟨h1, h2, h3⟩ := zhy.1 h
 have hg := (zcO.1 h2).2
 have he := zkz (zfQ h3)
 unfold zaL
 rw [zdr, zbV]
 omega
theorem zgp (n : Nat) {m : MemK} (h : zaX m = true) : (zaz n m).length ≤ 5734 := by
 obtain ⟨hb, hc⟩ := zaU.1 h
 have h1 := zcU hb
 obtain ⟨⟨h2, h3⟩, h4, _, _⟩ := zct.1 hc
 have e : (zaz n m).length = 27 + (zbM m.c.2.2).length + (zaL m.b).length := by
  unfold zaz
  simp only [List.length_cons, List.length_append, zer]
  omega
 rw [e, zbW]
 omega
theorem znc {f : List UInt8 → List UInt8} {b : List UInt8} (j : Nat) (h : zbE f (b.take j) = true) : zbE f b = true ∧ zcX (b.take j) = zcX b := by
 obtain ⟨h1, h2, h3, h5⟩ := zbF h
 rw [List.length_take] at h1 h3
 have hc : cntS (b.take j) = cntS b := by
  unfold cntS
  have g0 : (b.take j).getD 0 0 = b.getD 0 0 := by
   rw [List.getD_eq_getElem?_getD, List.getD_eq_getElem?_getD, List.getElem?_take, if_pos (by omega)]
  have g1 : (b.take j).getD 1 0 = b.getD 1 0 := by
   rw [List.getD_eq_getElem?_getD, List.getD_eq_getElem?_getD, List.getElem?_take, if_pos (by omega)]
  rw [g0, g1]
 rw [hc] at h2 h3 h5
 have ht : zcX (b.take j) = zcX b := by
  unfold zcX
  rw [hc, List.drop_take, List.take_take]
  congr 1
  omega
 refine ⟨?_, ht⟩
 rw [ht, List.take_take, Nat.min_eq_left (by omega)] at h5
 unfold zbE
 rw [Bool.and_eq_true, Bool.and_eq_true, Bool.and_eq_true, decide_eq_true_iff, decide_eq_true_iff, decide_eq_true_iff, decide_eq_true_iff]
 exact ⟨by omega, h2, by omega, h5⟩
section
variable {f : List UInt8 → List UInt8} (h4 : ∀ b, (f b).length = 4)
include h4
omit h4 in
theorem znd {b : List UInt8} (j : Nat) {y : Nat × MemK × Nat} (h : za6 f (b.take j) = some y) : ∃ z, za6 f b = some z ∧ z.1 = y.1 := by
 cases hg : zbE f (b.take j) with
 | false =>
  unfold za6 at h
  rw [zc4 hg] at h
  cases h
 | true =>
  obtain ⟨h1, h2⟩ := znc j hg
  unfold za6 at h ⊢
  rw [zdg hg] at h
  rw [zdg h1]
  dsimp only at h ⊢
  rw [h2] at h
  cases hr : za2 (zcX b) with
  | none => rw [hr] at h; cases h
  | some x =>
   rw [hr] at h
   dsimp only at h ⊢
   injection h with h
   subst h
   exact ⟨_, rfl, rfl⟩
omit h4 in
theorem zhg {k n : Nat} {b : List UInt8} (j : Nat) (h : ziO k n (za6 f b)) : ziO k n (za6 f (b.take j)) := fun y hy => by
 obtain ⟨z, hz, e⟩ := znd j hy
 have := h z hz
 rw [e] at this
 exact this
theorem zlr {t : List UInt8} (ht : t.length ≤ 60000) (j : Nat) : za6 f ((zas f t).take j) = none ∨ (zas f t).take j = zas f t := by
 by_cases hj : j < (zas f t).length
 ·exact .inl (zmo h4 ht j hj)
 ·exact .inr (List.take_of_length_le (by omega))
structure HasA (f : List UInt8 → List UInt8) (k : Nat) (a o : AK) (n : Nat) (m : MemK) (z : Nat) : Prop where
 kk : k = 0 ∨ k = 1
 ra : zaS a
 ro : zaS o
 sure : zd0 a
 has : za6 f a.b = some (n, m, z)
 beats : ziO k n (za6 f o.b)
omit h4 in
theorem HasA.disk {k : Nat} {a o : AK} {n z : Nat} {m : MemK} (h : HasA f k a o n m z) (fu ke : Int) (dn : Bool) : hasK f (mkD k a o fu ke dn) = some (k, n, m, z) := (zo1 h.kk).2 ⟨h.has, h.beats⟩
omit h4 in
theorem HasA.right {k : Nat} {a o : AK} {n : Nat} {m : MemK} (h : HasA f k a o n m a.b.length) {fu ke : Int} (hfu : -1 ≤ fu) (hke : 0 ≤ ke) (hn : n ≤ 4611686018427387904) : zav f ⟨mkD k a o fu ke false, (k : Int), n, m⟩ := by
 have hg := (zdN k h.kk a o fu ke false).1
 refine ⟨(zbN h.kk).2 ⟨h.ra, h.ro, hfu, hke⟩, (zaM k a o fu ke false).1, ?_, hn, ?_, ?_⟩
 ·rcases h.kk with e | e <;> rw [e]
  ·exact .inl rfl
  ·exact .inr rfl
 ·show hasK f (mkD k a o fu ke false) = some (((k : Int)).toNat, n, m, (getA (mkD k a o fu ke false) ((k : Int)).toNat).b.length)
  rw [Int.toNat_natCast, hg]
  exact h.disk fu ke false
 ·show (getA (mkD k a o fu ke false) ((k : Int)).toNat).s = _
  rw [Int.toNat_natCast, hg]
  exact h.sure
omit h4 in
theorem HasA.of {s : ShK} (h : zav f s) : ∃ k a o, s.d = mkD k a o s.d.fuse s.d.keep false ∧ s.turn = (k : Int) ∧ HasA f k a o s.num s.m a.b.length ∧ -1 ≤ s.d.fuse ∧ 0 ≤ s.d.keep ∧ s.num ≤ 4611686018427387904 := by
 obtain ⟨h1, h2, h3, h5, h6, h7⟩ := h
 have hk : s.turn.toNat = 0 ∨ s.turn.toNat = 1 := by omega
 have hd := zpN s.d s.turn.toNat hk
 rw [h2] at hd
 have h1' := h1
 rw [hd] at h1' h6
 obtain ⟨r1, r2, r3, r4⟩ := (zbN hk).1 h1'
 rw [(zdN _ hk _ _ _ _ _).1] at h6
 obtain ⟨g1, g2⟩ := (zo1 hk).1 h6
 exact ⟨s.turn.toNat, getA s.d s.turn.toNat, getA s.d (1 - s.turn.toNat), hd, by omega, ⟨hk, r1, r2, h7, g1, g2⟩, r3, r4, h5⟩
theorem zkA {k : Nat} {a o : AK} {n z : Nat} {m m' : MemK} (h : HasA f k a o n m z) {fu ke : Int} (hfu : -1 ≤ fu) (hke : 0 ≤ ke) (hn : n < 4611686018427387904) (hr : zaX m' = true) (hf : fitM m') :
  (∃ fu' o' , -1 ≤ fu' ∧ (fu = -1 → fu' = -1) ∧ HasA f (1 - k) o' a (n + 1) m' o'.b.length ∧ zbA f ⟨mkD k a o fu ke false, (k : Int), n, m'⟩ = (⟨mkD (1 - k) o' a fu' ke false, ((1 - k : Nat) : Int), n + 1, m'⟩, 0)) ∨
  (fu ≠ -1 ∧ ∃ o', (HasA f k a o' n m z ∨ HasA f (1 - k) o' a (n + 1) m' o'.b.length) ∧ zbA f ⟨mkD k a o fu ke false, (k : Int), n, m'⟩ = (zbG (mkD k a o' (-1) ke true), 14)) := by
 have ht : (zaz (n + 1) m').length ≤ 60000 := by have := zgp (n + 1) hr; omega
 have hrd : za2 (zaz (n + 1) m') = some (n + 1, m') := zfJ hr hf (by omega)
 have hnew : za6 f (zas f (zaz (n + 1) m')) = some (n + 1, m', (zas f (zaz (n + 1) m')).length) := zkh h4 ht hrd
 have hS : (zas f (zaz (n + 1) m')).length ≤ 1048576 := by have := zaZ h4 (zaz (n + 1) m'); omega
 have hk1 : 1 - k = 0 ∨ 1 - k = 1 := by rcases h.kk with e | e <;> omega
 have hb : ziO (1 - k) (n + 1) (za6 f a.b) := fun y hy => by
  rw [h.has] at hy
  injection hy with hy
  subst hy
  split
  ·show n ≤ n + 1
   omega
  ·show n < n + 1
   omega
 have hfull : ∀ {o' : AK}, zaS o' → zd0 o' → o'.b = zas f (zaz (n + 1) m') → HasA f (1 - k) o' a (n + 1) m' o'.b.length := fun h1 h2 h3 => ⟨hk1, h1, h.ra, h2, by rw [h3]; exact hnew, hb⟩
 have hcast : (1 : Int) - (k : Int) = ((1 - k : Nat) : Int) := by rcases h.kk with e | e <;> rw [e] <;> rfl
 have hsw : ∀ (o' : AK) (fu' : Int), mkD k a o' fu' ke false = mkD (1 - k) o' a fu' ke false := fun o' fu' => by rcases h.kk with e | e <;> rw [e] <;> rfl
 rcases zfy h4 h.kk h.ra h.sure h.ro hfu hke ht with ⟨fu', h1, h2, e⟩ | ⟨h1, o', h2, h3, h5, e⟩
 ·refine .inl ⟨fu', ⟨zas f (zaz (n + 1) m'), ((zas f (zaz (n + 1) m')).length : Int)⟩, h1, h2, hfull ⟨Int.natCast_nonneg _, Int.le_refl _, hS⟩ rfl rfl, ?_⟩
  unfold zbA
  dsimp only
  rw [if_neg (by omega), e, if_neg (not_not_intro rfl), hsw, hcast]
 ·refine .inr ⟨h1, o', ?_, ?_⟩
  ·rcases h5 with ⟨j, hj⟩ | ⟨j, hj⟩
   ·exact .inl ⟨h.kk, h.ra, h2, h.sure, h.has, by rw [hj]; exact zhg j h.beats⟩
   ·rcases zlr h4 ht j with h6 | h6
    ·exact .inl ⟨h.kk, h.ra, h2, h.sure, h.has, by rw [hj, h6]; exact fun y hy => by cases hy⟩
    ·exact .inr (hfull h2 h3 (hj.trans h6))
  ·unfold zbA
   dsimp only
   rw [if_neg (by omega), e, if_pos ne14]
theorem zox {k : Nat} {a o : AK} {n : Nat} {m m' : MemK} (h : HasA f k a o n m a.b.length) {fu ke : Int} (hfu : -1 ≤ fu) (hke : 0 ≤ ke) {t : List UInt8} (ht : t.length ≤ 60000) (hl : a.b.length + (zas f t).length ≤ 1048576) (hg : zbT m t = some m') :
  (∃ fu' a', -1 ≤ fu' ∧ (fu = -1 → fu' = -1) ∧ HasA f k a' o n m' a'.b.length ∧ zdb f (mkD k a o fu ke false) (k : Int) t = (mkD k a' o fu' ke false, 0)) ∨
  (fu ≠ -1 ∧ ∃ a' o' z, (HasA f k a' o' n m z ∨ HasA f k a' o' n m' z) ∧ zdb f (mkD k a o fu ke false) (k : Int) t = (mkD k a' o' (-1) ke true, 14)) := by
 have hfl : zig f a.b n m := h.has
 rcases zky (f := f) h.kk h.ra h.sure h.ro hfu hke hl with ⟨fu', h1, h2, e⟩ | ⟨h1, a', h2, h3, ⟨j, hj⟩, e⟩
 ·exact .inl ⟨fu', ⟨a.b ++ zas f t, ((a.b ++ zas f t).length : Int)⟩, h1, h2, ⟨h.kk, ⟨Int.natCast_nonneg _, Int.le_refl _, by show (a.b ++ zas f t).length ≤ _; rw [List.length_append]; exact hl⟩, h.ro, rfl, zf1 h4 hfl ht hg, h.beats⟩, e⟩
 ·have hbo : ziO k n (za6 f (zbD o ke).b) := by
   obtain ⟨i, hi⟩ := zef o ke
   rw [hi]
   exact zhg i h.beats
  refine .inr ⟨h1, a', zbD o ke, ?_⟩
  by_cases hlt : j < (zas f t).length
  ·exact ⟨a.b.length, .inl ⟨h.kk, h2, zbS h.ro.2.2, h3, by rw [hj]; exact zmn h4 hfl ht j hlt, hbo⟩, e⟩
  ·refine ⟨a'.b.length, .inr ⟨h.kk, h2, zbS h.ro.2.2, h3, ?_, hbo⟩, e⟩
   rw [hj, List.take_of_length_le (by omega)]
   exact zf1 h4 hfl ht hg
theorem zkB {k : Nat} {a o : AK} {n z : Nat} {m : MemK} (h : HasA f k a o n m z) {fu ke : Int} (hfu : -1 ≤ fu) (hke : 0 ≤ ke) (hn : n < 4611686018427387904) (hf : fitM m) {room : Int} (hr : 0 ≤ room ∧ room ≤ 64) :
  (∃ fu' o', -1 ≤ fu' ∧ (fu = -1 → fu' = -1) ∧ HasA f (1 - k) o' a (n + 1) m o'.b.length ∧ zcv f (mkD k a o fu ke false) room = (⟨mkD (1 - k) o' a fu' ke false, ((1 - k : Nat) : Int), n + 1, m⟩, 0)) ∨
  (fu ≠ -1 ∧ ∃ o', (HasA f k a o' n m z ∨ HasA f (1 - k) o' a (n + 1) m o'.b.length) ∧ zcv f (mkD k a o fu ke false) room = (zbG (mkD k a o' (-1) ke true), 14)) := by
 have hfr : zcZ f (mkD k a o fu ke false) room = ⟨mkD k a o fu ke false, (k : Int), n, m⟩ := by
  unfold zcZ
  rw [h.disk fu ke false]
 have hnd : ¬ ((mkD k a o fu ke false).down = true) := by rw [(zaM k a o fu ke false).1]; decide
 have hrt : zaA (mkD k a o fu ke false) := (zbN h.kk).2 ⟨h.ra, h.ro, hfu, hke⟩
 rcases zkA h4 h hfu hke hn (zcK h.has) hf with ⟨fu', o', h1, h2, h3, e⟩ | ⟨h1, o', h2, e⟩
 ·refine .inl ⟨fu', o', h1, h2, h3, ?_⟩
  unfold zcv
  rw [if_neg (not_not_intro ⟨hrt, hr⟩), if_neg hnd, hfr, e, if_neg (not_not_intro rfl)]
 ·refine .inr ⟨h1, o', h2, ?_⟩
  unfold zcv
  rw [if_neg (not_not_intro ⟨hrt, hr⟩), if_neg hnd, hfr, e, if_pos ne14]
  rfl
omit h4 in
theorem HasA.rise {k' : Nat} {a o : AK} {n z : Nat} {m : MemK} {ke : Int} (h : HasA f k' a o n m z) (hke : 0 ≤ ke) : zbL (mkD k' a o (-1) ke true) = (mkD k' a o (-1) ke false, 0) := zpb h.kk h.ra h.ro hke
end
end Go.Proofs.YteljklkgdejhpaaGreatDoor
namespace Go.Proofs.YteljklkgdejhpaaGreatDoor
open Go.RowKit
theorem zfz (x : WM) (m : MemK) (w : World) (h : InM w x m) : Calls Tryz.prog 17 #[aggM x m] w fun e w' => e = .returned (.bool (zaX m)) ∧ Below w.heap.size w w' := by
 obtain ⟨hR, hB⟩ := zat w 37 (lM x m) _ rfl
 have hrb := fun W (hb : Below w.heap.size w W) => zee m.b.1 x.b.es m.b.2.2 x.b.n x.b.ec x.b.g x.b.gc x.b.eA x.b.gA W h.ib.ne h.ib.ng (h.ib.re.keep hb) (h.ib.rg.keep hb) h.ib.fit.2.2 (by have := h.ib.ln; omega) (by have := h.ib.lg; omega) (fun e he => by have := h.ib.ls e he; omega)
 have hrc := fun W (hb : Below w.heap.size w W) => zeu m.c.1 m.c.2.1 m.c.2.2 x.c.s x.c.c x.c.A W h.ic.ns (h.ic.ru.keep hb) h.ic.fit.2 (by have := h.ic.ls; omega)
 rw [h.ib.con] at hrb
 have hM : zaX m = (zaJ m.b.2.1 m.b.2.2 && zby (m.c.1, m.c.2.1, m.c.2.2)) := rfl
 rw [hM]
 generalize zaJ m.b.2.1 m.b.2.2 = R at hrb ⊢
 generalize zby (m.c.1, m.c.2.1, m.c.2.2) = Q at hrc ⊢
 unfold aggB at hrb
 unfold aggC at hrc
 have HRB := Lib.hid hrb
 have HRC := Lib.hid hrc
 clear hrb hrc hM h
 unfold aggM
 go_enter Tryz.func17, Tryz.ntmps17
 go_upto_region 1 with fail
 generalize (w.alloc (.cells (lM x m).toArray 37)) = w1 at hR hB ⊢
 go_wp2_with (refine zac rfl 32 (.tmp 3) rfl (w.heap.size) 1 rfl _ _ (hR) ((lB x.b m.b)) (by rfl) _ Tryz.underlying32 rfl (by exact zax) ?_)
 refine (HRB.out _ hB).mono ?_
 rintro e w2 ⟨rfl, hb⟩
 replace hR := hR.later hb
 replace hB := zaa hB hb
 clear hb
 cases R with
 | false =>
  go_wp2_with fail
  go_ret
  exact ⟨rfl, hB⟩
 | true =>
  have k4 := hR.cell (i := 4) rfl
  have k5 := hR.cell (i := 5) rfl
  have k6 := hR.cell (i := 6) rfl
  go_wp2_with fail
  refine (HRC.out _ hB).mono ?_
  rintro e w3 ⟨rfl, hb⟩
  replace hB := zaa hB hb
  go_wp2_with fail
  go_ret
  exact ⟨rfl, hB⟩
def zbU (vs : List Nat) : List UInt8 := vs.flatMap putL
theorem zbZ : ∀ vs : List Nat, (zbU vs).length = 8 * vs.length
 | [] => rfl
 | v :: vs => by
  have ih := zbZ vs
  unfold zbU at *
  rw [List.flatMap_cons, List.length_append, ih, zer, List.length_cons]
  omega
theorem zls (vs : List Nat) (v : Nat) : zbU (vs ++ [v]) = zbU vs ++ putL v := by unfold zbU; rw [List.flatMap_append]; simp
def zoy (w : World) (L : List UInt8) (n : Nat) (e : Ending) (w' : World) : Prop := ∃ v, e = .returned v ∧ w'.ownsRow w.heap.size 5 1 v n (L.map vB) ∧ Below w.heap.size w w'
def zqj (vs : List Nat) (w : World) (u i : Value) (wr : World) : Prop := ∃ k : Nat, i = .int .i64 (k : Int) ∧ k ≤ vs.length ∧ wr.ownsRow w.heap.size 5 1 u (8 * k) ((zbU (vs.take k)).map vB) ∧ Below w.heap.size w wr
theorem zjV (vs : List Nat) (n : Nat) (A : Option Addr) (c : Nat) (w : World) (HN : Hid (vs.length = n)) (hr : Rd vNG w A vs) (hv : Hid (∀ v ∈ vs, v < 18446744073709551616)) (hn : n ≤ 1000000) :
  Calls Tryz.prog 73 #[.slice A n c] w (zoy w (zbU vs) (8 * n)) := by
 obtain ⟨i0, hi, hz0, hz1, hz2⟩ := info_parts zcx
 have e1 := HN.out
 subst e1
 clear HN
 go_enter Tryz.func73, Tryz.ntmps73
 go_upto_region 3 with fail
 go_loopw [3, 8] (fun u i wr => zqj vs w u i wr) (fun _ i _ => vs.length - (intOf i).toNat)
 case atStart => exact ⟨0, rfl, Nat.zero_le _, World.ownsRow_nil _ _ _ _, Below.refl _ _⟩
 case round =>
  obtain ⟨k, rfl, hk, hown, hB⟩ := hrel
  by_cases hlt : k < vs.length
  ·obtain ⟨b, o, rfl, hb, hc⟩ := (hr.keep hB).at hlt
   have hck := hc k hlt
   have hvk := hv.out _ (List.getElem_mem hlt)
   obtain ⟨L, hL⟩ : ∃ L, putL vs[k] = L := ⟨_, rfl⟩
   have HL := Lib.hid hL
   have HN8 : Hid (L.length = 8) := by unfold Hid; rw [← hL]; rfl
   have HTK : Hid (zbU (vs.take (k + 1)) = zbU (vs.take k) ++ L) := by
    unfold Hid
    rw [List.take_succ_eq_append_getElem hlt, zls, hL]
   clear hL hc
   generalize vs[k] = v at hck hvk HL
   unfold vNG at hck
   generalize zbU (vs.take k) = Lk at hown HTK
   have i2 : (0 : Int) ≤ (k : Int) := by omega
   have i3 : (k : Int) < (vs.length : Int) := by omega
   go_wp2_with fail
   refine (zfj v L hvk HL _).mono ?_
   rintro e w2 ⟨A2, c2, rfl, hc2, hr2, hb2⟩
   replace hown := zam hown hb2
   replace hB := zaa hB hb2
   have hsz := hB.size
   clear hb2 hck
   go_wp2_with (at_builtin; refine zao _ rfl (.tmp 12) (.tmp 14) 22 rfl w.heap.size 5 i0 (.int .u8 0) 1 Tryz.underlying22 hi hz0 hz1 hz2 rfl _ _ _ rfl hown A2 L c2 (by rw [HN8.out]; rfl) hr2 zbt (by rw [HN8.out]; unfold maxLen; omega) (by rw [HN8.out]; omega) hsz ?_; intro v3 w3 hown3 hgrow3 hat3)
   have hB3 := hB.grown hgrow3 hsz (fun j hj => (hown.lt j hj).1)
   rw [← List.map_append, ← HTK.out, HN8.out] at hown3
   clear hown hB hgrow3 hat3
   go_roundw
   case rel => exact ⟨k + 1, rfl, by omega, by rw [Nat.mul_add]; exact hown3, hB3⟩
   case measure => simp [intOf]; omega
  ·have hkk : k = vs.length := by omega
   subst hkk
   rw [List.take_length] at hown
   have j1 : ¬ (vs.length : Int) < (vs.length : Int) := by omega
   go_wp2_with fail
   go_ret
   exact ⟨_, rfl, hown, hB⟩
theorem zeg (vs : List Nat) (n m : Nat) (A : Option Addr) (c : Nat) (w : World) (HN : Hid (vs.length = n)) (hr : Rd vNG w A vs) (hv : Hid (∀ v ∈ vs, v < 18446744073709551616)) (hn : n ≤ 1000000) (hm : m = 8 * n) :
  Calls Tryz.prog 73 #[.slice A n c] w fun e w' => ∃ A' c', e = .returned (.slice A' m c') ∧ m ≤ c' ∧ Rd vB w' A' (zbU vs) ∧ Below w.heap.size w w' := by
 have hl : (zbU vs).length = m := by rw [zbZ, HN.out, hm]
 refine (zjV vs n A c w HN hr hv hn).mono ?_
 rintro e w' ⟨v, rfl, h1, h2⟩
 rw [← hm, ← hl] at h1
 obtain ⟨A', c', rfl, hc, hr'⟩ := zbk h1
 rw [hl] at hc ⊢
 exact ⟨A', c', rfl, hc, hr', h2⟩
theorem zlt (u : Us) (clock floor : Nat) (w : World) (hu : zcF u) (hc : clock < 18446744073709551616) (hf : floor < 18446744073709551616) :
  Calls Tryz.prog 47 #[.agg #[.int .u64 (u.1 : Int), .int .u64 (u.2.1 : Int), .int .u64 (u.2.2 : Int)], .int .u64 (clock : Int), .int .u64 (floor : Int)] w (zoy w (zcz u clock floor) 41) := by
 obtain ⟨i0, hi, hz0, hz1, hz2⟩ := info_parts zcx
 obtain ⟨hR, hB⟩ := zat w 57 [.int .u64 (u.1 : Int), .int .u64 (u.2.1 : Int), .int .u64 (u.2.2 : Int)] _ rfl
 have hL : zcz u clock floor = [85] ++ zbU [u.1, u.2.1, u.2.2, clock, floor] := by
  unfold zbU zcz useL
  simp only [List.flatMap_cons, List.flatMap_nil, List.append_nil, List.append_assoc, List.singleton_append]
 have hfit : Hid (∀ v ∈ [u.1, u.2.1, u.2.2, clock, floor], v < 18446744073709551616) := fun v hv => by
  simp at hv
  rcases hv with rfl | rfl | rfl | rfl | rfl
  ·exact hu.1
  ·exact hu.2.1
  ·exact hu.2.2
  ·exact hc
  ·exact hf
 rw [hL]
 have HRD : Hid (∀ (W : World) (q : Nat), q = W.heap.size → Rd vNG (W.alloc (.cells #[.int .u64 (u.1 : Int), .int .u64 (u.2.1 : Int), .int .u64 (u.2.2 : Int), .int .u64 (clock : Int), .int .u64 (floor : Int)] 28)) (some ⟨q, 0, none⟩) [u.1, u.2.1, u.2.2, clock, floor]) := fun W q hq => by rw [hq]; exact Rd.new (f := vNG) W [u.1, u.2.1, u.2.2, clock, floor] _ _ rfl
 have HN5 : Hid ([u.1, u.2.1, u.2.2, clock, floor].length = 5) := rfl
 clear hL hu hc hf
 generalize [u.1, u.2.1, u.2.2, clock, floor] = vs at hfit HRD HN5 ⊢
 have HNL : Hid ((zbU vs).length = 40) := by unfold Hid; rw [zbZ, HN5.out]
 have HNS := Lib.hid (fun A c W (h : Rd vNG W A vs) => zeg vs 5 40 A c W HN5 h hfit (by omega) rfl)
 generalize zbU vs = T at HNL HNS ⊢
 obtain ⟨a, ha⟩ : ∃ a : Nat, u.1 = a := ⟨_, rfl⟩
 obtain ⟨b, hb⟩ : ∃ a : Nat, u.2.1 = a := ⟨_, rfl⟩
 obtain ⟨d, hd⟩ : ∃ a : Nat, u.2.2 = a := ⟨_, rfl⟩
 rw [ha, hb, hd] at HRD hR hB ⊢
 clear ha hb hd hfit
 go_enter Tryz.func47, Tryz.ntmps47
 go_upto_region 1 with fail
 generalize (w.alloc (.cells #[.int .u64 (a : Int), .int .u64 (b : Int), .int .u64 (d : Int)] 57)) = w1 at hR hB ⊢
 have hown0 : (w1.alloc (.cells #[.int .u8 85] 5)).ownsRow w1.heap.size 5 1 (.slice (some ⟨w1.heap.size, 0, none⟩) 1 1) 1 ([(85 : UInt8)].map vB) := zf4 w1 5 ([(85 : UInt8)].map vB) #[.int .u8 85] rfl (by unfold maxLen; simp)
 have hb1 := zak (Below.refl w1.heap.size w1) (.cells #[.int .u8 85] 5)
 have hRl := hR.later hb1
 have k0 := hRl.cell (i := 0) rfl
 have k1 := hRl.cell (i := 1) rfl
 have k2 := hRl.cell (i := 2) rfl
 go_wp2_with fail
 refine (HNS.out _ _ _ (HRD.out _ _ (by simp))).mono ?_
 rintro e w4 ⟨A4, c4, rfl, hc4, hr4, hb4⟩
 have hb2 := zak (Below.refl (w1.alloc (.cells #[.int .u8 85] 5)).heap.size (w1.alloc (.cells #[.int .u8 85] 5))) (.cells #[.int .u64 (a : Int), .int .u64 (b : Int), .int .u64 (d : Int), .int .u64 (clock : Int), .int .u64 (floor : Int)] 28)
 have hown1 := zam (zam hown0 hb2) hb4
 have hB4 : Below w1.heap.size w1 w4 := zaa (zaa hb1 hb2) hb4
 have hsz := hB4.size
 clear hb4 hb1 hb2 hown0 hRl k0 k1 k2 HNS HRD
 go_wp2_with (at_builtin; refine zao _ rfl (.tmp 7) (.tmp 17) 22 rfl w1.heap.size 5 i0 (.int .u8 0) 1 Tryz.underlying22 hi hz0 hz1 hz2 rfl _ _ _ rfl hown1 A4 T c4 (by rw [HNL.out]; rfl) hr4 zbt (by rw [HNL.out]; unfold maxLen; omega) (by rw [HNL.out]; omega) hsz ?_; intro v5 w5 hown5 hgrow5 hat5)
 have hB5 := hB4.grown hgrow5 hsz (fun j hj => (hown1.lt j hj).1)
 rw [← List.map_append, HNL.out] at hown5
 go_ret
 exact ⟨_, rfl, zd9 hown5 hB.size, hB.trans (hB5.mono hB.size)⟩
theorem zlu (x : WB) (b : Bn) (w : World) (h : InB w x b) (hok : zaJ b.2.1 b.2.2 = true) :
  Calls Tryz.prog 53 #[zdY x b] w (zoy w (zdF b) (zdF b).length) := by
 obtain ⟨i0, hi, hz0, hz1, hz2⟩ := info_parts zcx
 obtain ⟨hR, hB⟩ := zat w 32 (lB x b) _ rfl
 have hbl : zdF b = [78] ++ zaL b := rfl
 have hle := zcU hok
 have hbb := fun W (hb : Below w.heap.size w W) => ziM b.1 x.es b.2.2 x.n x.ec x.g x.gc x.eA x.gA W h.ne h.ng (h.re.keep hb) (h.oe.keep hb) (h.rg.keep hb) h.fit.1 (by rw [h.con]; exact h.fit.2.1) h.fit.2.2 (by rw [h.con]; exact hok)
 rw [h.con] at hbb
 rw [show zbp b.1 b.2.1 b.2.2 = zaL b from rfl] at hbb
 rw [hbl, List.length_append]
 generalize zaL b = T at hbb hle ⊢
 unfold aggB at hbb
 have HBB := Lib.hid hbb
 clear hbb hbl hok h
 unfold zdY aggB
 go_enter Tryz.func53, Tryz.ntmps53
 go_upto_region 1 with fail
 generalize (w.alloc (.cells (lB x b).toArray 32)) = w1 at hR hB ⊢
 go_wp2_with (refine zac rfl 32 (.tmp 1) rfl (w.heap.size) 0 rfl _ _ (hR) ((lB x b)) (by rfl) _ Tryz.underlying32 rfl (by exact zax) ?_)
 refine (HBB.out _ hB).mono ?_
 rintro e w2 ⟨A2, m2, c2, rfl, HM2, hc2, hr2, hb2⟩
 replace hB := zaa hB hb2
 have hown0 : (w2.alloc (.cells #[.int .u8 78] 5)).ownsRow w2.heap.size 5 1 (.slice (some ⟨w2.heap.size, 0, none⟩) 1 1) 1 ([(78 : UInt8)].map vB) := zf4 w2 5 ([(78 : UInt8)].map vB) #[.int .u8 78] rfl (by unfold maxLen; simp)
 have hb3 := zak (Below.refl w2.heap.size w2) (.cells #[.int .u8 78] 5)
 have hr3 := hr2.keep hb3
 have hsz := hb3.size
 have hm2 : m2 ≤ 4171 := by rw [← HM2.out]; exact hle
 clear hb2 hr2 hle
 go_wp2_with (at_builtin; refine zao _ rfl (.tmp 10) (.tmp 11) 22 rfl w2.heap.size 5 i0 (.int .u8 0) 1 Tryz.underlying22 hi hz0 hz1 hz2 rfl _ _ _ rfl hown0 A2 T c2 (by rw [HM2.out]; rfl) hr3 zbt (by rw [HM2.out]; unfold maxLen; omega) (by rw [HM2.out]; omega) hsz ?_; intro v5 w5 hown5 hgrow5 hat5)
 have hB5 := hb3.grown hgrow5 hsz (fun j hj => (hown0.lt j hj).1)
 rw [← List.map_append] at hown5
 go_ret
 exact ⟨_, rfl, zd9 hown5 hB.size, hB.trans (hB5.mono hB.size)⟩
end Go.Proofs.YteljklkgdejhpaaGreatDoor
