/-
  What the program's keep of layer 20 answers (landed code). Condition: the package's table holds the sixty-four constants.
-/
import Derived.Test.YteljklkgdejhpaaGreatDoorQL12
set_option linter.unusedSimpArgs false
set_option linter.unusedVariables false
set_option maxRecDepth 100000
set_option maxHeartbeats 16000000
namespace Go.Proofs.YteljklkgdejhpaaGreatDoor
open Go.RowKit
def zqu (w : World) (x : WS) (y : WM) (s' : ShK) (er : Int) (e : Ending) (w' : World) : Prop :=
 ∃ x', e = .returned (.tuple #[aggS x' s', .int .i64 er]) ∧ InS w' x' s' ∧ (∀ lo hi, hi ≤ w.heap.size → OffS lo hi x → OffM lo hi y → OffS lo hi x') ∧ Below w.heap.size w w'
theorem znH (b2 b3 : Nat) (f : List UInt8 → List UInt8) (s : ShK) (m : MemK) (t : List UInt8) (h : ¬ 8192 < (getA s.d s.turn.toNat).b.length + t.length + 6) : zgB [zcs b2 s.turn (zas f t), zd3 b3 s.turn] { s with m := m } = zb5 f s m t := by
 unfold zgB zb5
 rw [if_neg h]
 dsimp only
 rw [zoP]
theorem znI (f : List UInt8 → List UInt8) (s : ShK) (h : 4611686018427387904 ≤ s.num) : (zbA f s).2 = 15 := by
 unfold zbA
 rw [if_pos h]
theorem zgC (D : DK) (k : Int) (full : Nat → Bool) (goes done : Nat → AK → AK) : (zcW D k full goes done).2 ≠ 15 := by
 unfold zcW
 split
 ·show ¬ (1 : Int) = 15; decide
 ·split
  ·show ¬ (14 : Int) = 15; decide
  ·split
   ·show ¬ (12 : Int) = 15; decide
   ·split
    ·show ¬ (14 : Int) = 15; decide
    ·show ¬ (0 : Int) = 15; decide
theorem znJ (f : List UInt8 → List UInt8) (s : ShK) (h : ¬ 4611686018427387904 ≤ s.num) : (zbA f s).2 ≠ 15 := by
 have hw : ∀ t, (zbd f s.d (1 - s.turn) t).2 ≠ 15 := fun t => by
  unfold zbd zdb
  split
  ·split
   ·exact zgC _ _ _ _ _
   ·exact zgC _ _ _ _ _
  ·exact zgC _ _ _ _ _
 unfold zbA
 rw [if_neg h]
 split
 ·exact hw _
 ·show ¬ (0 : Int) = 15; decide
theorem znK {f : List UInt8 → List UInt8} {s : ShK} {m : MemK} {t : List UInt8} (h : 8192 < (getA s.d s.turn.toNat).b.length + t.length + 6) (hn : ¬ 4611686018427387904 ≤ s.num) : zb5 f s m t = zbA f { s with m := m } := by
 unfold zb5
 rw [if_pos h, if_neg (znJ f { s with m := m } hn)]
theorem znL {f : List UInt8 → List UInt8} {s : ShK} {m : MemK} {t : List UInt8} (h : 8192 < (getA s.d s.turn.toNat).b.length + t.length + 6) (hn : 4611686018427387904 ≤ s.num) : zb5 f s m t = (s, 15) := by
 unfold zb5
 rw [if_pos h, if_pos (znI f { s with m := m } hn)]
theorem zhq [Inhabited Tab] (x : WS) (s : ShK) (y : WM) (m : MemK) (t : List UInt8) (n : Nat) (A : Option Addr) (c : Nat) (w : World) (h : InS w x s) (hm : InM w y m) (HN : Hid (t.length = n)) (hr : Rd vB w A t) (hc : n ≤ c) (hn : n ≤ 60000) (hl : LimK s.d) (hrm : zaX m = true) (ht : s.turn = 0 ∨ s.turn = 1) (HK : Hid (KTab w)) :
  Calls Tryz.prog 46 #[aggS x s, aggM y m, .slice A n c] w (zqu w x y (zb5 fS s m t).1 (zb5 fS s m t).2) := by
 obtain ⟨hR0, hR1, hR2, hB⟩ := za8 w 39 37 39 (lS x s) (lM y m) l0S _ _ _ rfl rfl rfl
 obtain ⟨P, hP⟩ : ∃ P, zb5 fS s m t = P := ⟨_, rfl⟩
 have HI := Lib.hid (fun W (hb : Below w.heap.size w W) => h.keep hb)
 have HM := Lib.hid (fun W (hb : Below w.heap.size w W) => hm.keep hb)
 have HLI := Lib.hid (fun W (hb : Below w.heap.size w W) => zkN t n A c W HN (hr.keep hb) hc hn (Lib.hid (HK.out.keep hb)))
 obtain ⟨J, AL, L, cL, HJ⟩ : ∃ (J : Nat) (AL : Option Addr) (L cL : Nat), Hid ((∀ W : World, (Instr.indexAt 25 (.pointer (some ⟨w.heap.size, 0, none⟩)) (.int .i64 s.turn)).run Tryz.prog W = .ok (.pointer (some ⟨w.heap.size, J, none⟩)) W) ∧ (∀ (W : World) (ty : TypeId), Row W w.heap.size ty (lS x s) → W.cell? ⟨w.heap.size, J, none⟩ = some (.slice AL L cL)) ∧ L ≤ 70368744177664 ∧ (getA s.d s.turn.toNat).b.length = L) := by
  rcases ht with e | e
  ·refine ⟨0, x.d.A0, x.d.n0, x.d.c0, fun W => by rw [e]; exact zi8 _ 0 W, fun W ty hr => hr.cell rfl, h.id.n0 hl, ?_⟩
   rw [e]
   exact h.id.l0
  ·refine ⟨2, x.d.A1, x.d.n1, x.d.c1, fun W => by rw [e]; exact zi9 _ W, fun W ty hr => hr.cell rfl, h.id.n1 hl, ?_⟩
   rw [e]
   exact h.id.l1
 have ix := HJ.out.1
 have HJC := Lib.hid HJ.out.2.1
 have hL := HJ.out.2.2.1
 have HJL := Lib.hid HJ.out.2.2.2
 have HAN := Lib.hid (fun (hh : s.num < 4611686018427387904) W (hb : Below w.heap.size w W) => zkP ⟨x.d, y⟩ { s with m := m } W ⟨(h.keep hb).id, hm.keep hb⟩ hl hrm ht hh (Lib.hid (HK.out.keep hb)))
 unfold aggS at HAN
 dsimp only at HAN
 have HDO := Lib.hid (fun b2 b3 (hh : ¬ 8192 < (getA s.d s.turn.toNat).b.length + t.length + 6) => (znH b2 b3 fS s m t hh).trans hP)
 have HLO := Lib.hid (fun (hh : 8192 < (getA s.d s.turn.toNat).b.length + t.length + 6) (hn : ¬ 4611686018427387904 ≤ s.num) => (znK (f := fS) (m := m) hh hn).symm.trans hP)
 have HMO := Lib.hid (fun (hh : 8192 < (getA s.d s.turn.toNat).b.length + t.length + 6) (hn : 4611686018427387904 ≤ s.num) => (znL (f := fS) (m := m) hh hn).symm.trans hP)
 rw [HN.out, HJL.out] at HDO HLO HMO
 have HL := Lib.hid hl
 rw [hP]
 clear hP h hm hl hrm HJ HK hr
 unfold aggS aggM
 obtain ⟨N6, hN6⟩ : ∃ q, n + 6 = q := ⟨_, rfl⟩
 have hw : IntKind.i64.wrap ((L : Int) + (N6 : Int)) = ((L + N6 : Nat) : Int) := by rw [IntKind.wrap_i64]; omega
 go_enter Tryz.func46, Tryz.ntmps46
 go_upto_region 1 with fail
 generalize ((w.alloc (.cells (lS x s).toArray 39)).alloc (.cells (lM y m).toArray 37)).alloc (.cells l0S.toArray 39) = W0 at hR0 hR1 hR2 hB ⊢
 go_wp2_with fail
 refine (HLI.out _ hB).mono ?_
 rintro e w1 ⟨A3, c3, rfl, hc3, HL3, hr3, hb⟩
 rw [hN6] at hc3 HL3 ⊢
 replace hR0 := hR0.later hb
 replace hR1 := hR1.later hb
 replace hR2 := hR2.later hb
 replace hB := zaa hB hb
 clear hb HLI
 have cJ := HJC.out _ _ hR0
 have c7 : w1.cell? ⟨w.heap.size, 7, none⟩ = some (.int .i64 s.turn) := hR0.cell rfl
 have c8 : w1.cell? ⟨w.heap.size, 8, none⟩ = some (.int .u64 (s.num : Int)) := hR0.cell rfl
 by_cases hlong : 8192 < L + N6
 ·have i1 : (8192 : Int) < ((L + N6 : Nat) : Int) := by omega
  have hlong' : 8192 < L + n + 6 := by omega
  by_cases hmax : 4611686018427387904 ≤ s.num
  ·have i2 : (4611686018427387904 : Int) ≤ (s.num : Int) := by omega
   have HP := Lib.hid (HMO.out hlong' hmax)
   clear hmax hlong hlong' HMO HLO HDO HAN HL3 hr3
   go_wp2_with (first
    | (refine zac rfl 39 (.tmp 3) rfl (w.heap.size) 0 rfl _ _ (hR0) ((lS x s)) (by rfl) _ Tryz.underlying39 rfl (by exact zaf) ?_)
    | (refine zab rfl 39 (.tmp 6) (.tmp 30) rfl (w.heap.size + 2) rfl ((lS x s)) rfl _ _ (hR2) (by exact zaf) rfl (zan x s) ?_))
   refine bodyPost_ret (zag (p := 6) (u := 7) (ty := 39) (by rfl) _ _ (w.heap.size + 2) 39 _ _ (by rfl) (by exact hR2.setRow _) Tryz.underlying39 (by rfl) (by exact zaf)) (by rfl) ?_
   have hBf := below_setRow hB (show w.heap.size ≤ w.heap.size + 2 by omega) (lS x s).toArray
   rw [← HP.out]
   exact ⟨x, rfl, HI.out _ hBf, (fun _ _ _ ho _ => ho), hBf⟩
  ·have i2 : decide ((4611686018427387904 : Int) ≤ (s.num : Int)) = false := decide_eq_false (by omega)
   have HP := Lib.hid (HLO.out hlong' hmax)
   have HAN2 := Lib.hid (HAN.out (by omega))
   rw [HP.out] at HAN2
   clear hmax hlong hlong' HMO HLO HDO HAN HL3 hr3 HP
   go_upto_region 5 with fail
   clear cJ c7 c8
   have hth := zaV hR0 9 7 (by simp)
   have hO := Only.setCells (g := w.heap.size) (lM y m) 9 (Only.refl _ w1)
   have hR02 : Row (w1.setCells w.heap.size 9 (lM y m)) w.heap.size 39 [.slice x.d.A0 x.d.n0 x.d.c0, .int .i64 s.d.a0.s, .slice x.d.A1 x.d.n1 x.d.c1, .int .i64 s.d.a1.s, .int .i64 s.d.fuse, .int .i64 s.d.keep, .bool s.d.down, .int .i64 s.turn, .int .u64 (s.num : Int), .int .u64 (m.clock : Int), .int .u64 (m.b.1 : Int), .slice y.b.eA y.b.n y.b.ec, .slice y.b.gA y.b.g y.b.gc, .int .i64 m.c.1, .int .u64 (m.c.2.1 : Int), .slice y.c.A y.c.s y.c.c] := hR0.setCells _ 9 (by simp)
   have hR22 := hR2.only hO (by omega)
   have hB2 := hB.trans hO.below
   go_upto_region 6 with (first
    | (refine zac rfl 37 (.tmp 4) rfl (w.heap.size + 1) 0 rfl _ _ (hR1) ((lM y m)) (by rfl) _ Tryz.underlying37 rfl (by exact zai) ?_)
    | (refine wpList_store_mid rfl 37 (.tmp 32) (.tmp 31) rfl (w.heap.size) 9 ((lM y m).toArray) rfl rfl (hth) (by exact zai) (by exact all_oneCell_toArray (zaq y m)) ?_))
   clear hR0 hR1 hR2 hB hO hth
   generalize w1.setCells w.heap.size 9 (lM y m) = w2 at hR02 hR22 hB2 ⊢
   go_wp2_with (refine zac rfl 39 (.tmp 3) rfl (w.heap.size) 0 rfl _ _ (hR02) ([.slice x.d.A0 x.d.n0 x.d.c0, .int .i64 s.d.a0.s, .slice x.d.A1 x.d.n1 x.d.c1, .int .i64 s.d.a1.s, .int .i64 s.d.fuse, .int .i64 s.d.keep, .bool s.d.down, .int .i64 s.turn, .int .u64 (s.num : Int), .int .u64 (m.clock : Int), .int .u64 (m.b.1 : Int), .slice y.b.eA y.b.n y.b.ec, .slice y.b.gA y.b.g y.b.gc, .int .i64 m.c.1, .int .u64 (m.c.2.1 : Int), .slice y.c.A y.c.s y.c.c]) (by rfl) _ Tryz.underlying39 rfl (by exact zaf) ?_)
   refine (HAN2.out _ hB2).mono ?_
   rintro e w3 ⟨z, rfl, hz, hzo, hb⟩
   have hsz := hB2.size
   have hl2 := hR22.lt
   replace hR22 := hR22.later hb
   have hB3 := zaa hB2 hb
   have hzA : ∀ lo hi, hi ≤ w.heap.size → OffS lo hi x → OffM lo hi y → OffS lo hi z := fun lo hi hh ho hm => hzo lo hi (by omega) ⟨ho.d, hm⟩
   have hzB : OffS (w.heap.size + 2) (w.heap.size + 3) z := hzo _ _ (by omega) ⟨((HI.out w (Below.refl _ _)).id.off (w.heap.size + 3)).mono (by omega) (Nat.le_refl _), ((HM.out w (Below.refl _ _)).off (w.heap.size + 3)).mono (by omega) (Nat.le_refl _)⟩
   clear hzo hb hB2 hR02 HAN2
   obtain ⟨s', er⟩ := P
   unfold aggS
   dsimp only at hz ⊢
   go_wp2_with (refine zab rfl 39 (.tmp 6) (.tmp 36) rfl (w.heap.size + 2) rfl ((lS z s')) rfl _ _ (hR22) (by exact zaf) rfl (zan z s') ?_)
   refine bodyPost_ret (zag (p := 6) (u := 7) (ty := 39) (by rfl) _ _ (w.heap.size + 2) 39 _ _ (by rfl) (by exact hR22.setRow _) Tryz.underlying39 (by rfl) (by exact zaf)) (by rfl) ?_
   have hO := (Only.refl (w.heap.size + 2) w3).setRow (lS z s').toArray
   exact ⟨z, rfl, hz.at_only hO hzB (by omega) (by omega), hzA, below_setRow hB3 (by omega) _⟩
 ·have i1 : ¬ (8192 : Int) < ((L + N6 : Nat) : Int) := by omega
  have HP := Lib.hid (fun b2 b3 => HDO.out b2 b3 (by omega))
  clear hlong HMO HLO HDO HAN
  go_upto_region 5 with fail
  clear cJ c7 c8
  have hth := zaV hR0 9 7 (by simp)
  have hO := Only.setCells (g := w.heap.size) (lM y m) 9 (Only.refl _ w1)
  have hR02 : Row (w1.setCells w.heap.size 9 (lM y m)) w.heap.size 39 [.slice x.d.A0 x.d.n0 x.d.c0, .int .i64 s.d.a0.s, .slice x.d.A1 x.d.n1 x.d.c1, .int .i64 s.d.a1.s, .int .i64 s.d.fuse, .int .i64 s.d.keep, .bool s.d.down, .int .i64 s.turn, .int .u64 (s.num : Int), .int .u64 (m.clock : Int), .int .u64 (m.b.1 : Int), .slice y.b.eA y.b.n y.b.ec, .slice y.b.gA y.b.g y.b.gc, .int .i64 m.c.1, .int .u64 (m.c.2.1 : Int), .slice y.c.A y.c.s y.c.c] := hR0.setCells _ 9 (by simp)
  have hR22 := hR2.only hO (by omega)
  have hB2 := hB.trans hO.below
  go_upto_region 6 with (first
   | (refine zac rfl 37 (.tmp 4) rfl (w.heap.size + 1) 0 rfl _ _ (hR1) ((lM y m)) (by rfl) _ Tryz.underlying37 rfl (by exact zai) ?_)
   | (refine wpList_store_mid rfl 37 (.tmp 32) (.tmp 31) rfl (w.heap.size) 9 ((lM y m).toArray) rfl rfl (hth) (by exact zai) (by exact all_oneCell_toArray (zaq y m)) ?_))
  have hr4 : Rd vB (w1.setCells w.heap.size 9 (lM y m)) A3 (zas fS t) := hr3.no_byte hR0 (fun v hv x e => by subst e; simp [vB] at hv) hO
  clear hR0 hR1 hR2 hB hO hth hr3
  generalize w1.setCells w.heap.size 9 (lM y m) = w2 at hR02 hR22 hB2 hr4 ⊢
  go_upto_region 8 with fail
  have hS : shS w.heap.size (.slice x.d.A0 x.d.n0 x.d.c0) (.int .i64 s.d.a0.s) (.slice x.d.A1 x.d.n1 x.d.c1) (.int .i64 s.d.a1.s) (.int .i64 s.d.fuse) (.int .i64 s.d.keep) (.bool s.d.down) (.int .i64 s.turn) (.int .u64 (s.num : Int)) (.int .u64 (m.clock : Int)) (.int .u64 (m.b.1 : Int)) (.slice y.b.eA y.b.n y.b.ec) (.slice y.b.gA y.b.g y.b.gc) (.int .i64 m.c.1) (.int .u64 (m.c.2.1 : Int)) (.slice y.c.A y.c.s y.c.c) w2.drew := zcV (W := w2.drew) hR02
  have hR0 := hR02.drew
  have hR2 := hR22.drew
  have hB := hB2.drew
  have hr5 := hr4.keep ((Below.refl _ w2).drew)
  refine zah (shS w.heap.size (.slice x.d.A0 x.d.n0 x.d.c0) (.int .i64 s.d.a0.s) (.slice x.d.A1 x.d.n1 x.d.c1) (.int .i64 s.d.a1.s) (.int .i64 s.d.fuse) (.int .i64 s.d.keep) (.bool s.d.down) (.int .i64 s.turn) (.int .u64 (s.num : Int)) (.int .u64 (m.clock : Int)) (.int .u64 (m.b.1 : Int)) (.slice y.b.eA y.b.n y.b.ec) (.slice y.b.gA y.b.g y.b.gc) (.int .i64 m.c.1) (.int .u64 (m.c.2.1 : Int)) (.slice y.c.A y.c.s y.c.c)) (.step 0 false (.step 1 false (.step 2 false (.step 3 false (.step 5 false (.step 6 false (.step 4 true (.step 7 true (.step 8 true (.step 9 true (.step 10 false (.step 11 false (.step 12 true (.step 13 false (.nil))))))))))))))) hS (by kernel_rfl) (by kernel_rfl) (by rfl) (by kernel_rfl) ?_
  clear hR02 hR22 hB2 hr4
  generalize w2.drew = wv at *
  iterate 6 (refine zae rfl (by rfl) (v := ?_) ?_ ?_; rotate_left 1; (rintro W ⟨hW0, hW1⟩; go_simp <;> with_reducible rfl); simp only [pA, pB, pC, Act.put, pD, pE, pF])
  clear hS
  refine zad rfl (by rfl) (fun K hK => ?_)
  go_simp
  refine (zhp s.turn (zas fS t) _ A3 c3 wv HL3 hc3 hr5 (by omega)).mono ?_
  rintro e w4 ⟨rfl, hd2, hb⟩
  replace hR0 := hR0.later hb
  replace hR2 := hR2.later hb
  have hB4 := zaa hB hb
  refine hK.out _ _ (zcV hR0) ?_
  clear hK K hb hB hr5
  generalize hb2 : wv.heap.size = b2 at hd2 ⊢
  clear hb2
  (try simp only [pA, pB, pC, Act.put, pD, pE, pF])
  refine zad rfl (by rfl) (fun K hK => ?_)
  go_simp
  refine (zi6 s.turn w4).mono ?_
  rintro e w5 ⟨rfl, hd3, hb⟩
  replace hR0 := hR0.later hb
  replace hR2 := hR2.later hb
  have hB5 := zaa hB4 hb
  replace hd2 := hd2.later hb
  refine hK.out _ _ (zcV hR0) ?_
  clear hK K hb hB4
  generalize hb3 : w4.heap.size = b3 at hd3 ⊢
  clear hb3
  (try simp only [pA, pB, pC, Act.put, pD, pE, pF])
  refine zad rfl (by rfl) (fun K hK => ?_)
  obtain ⟨v2, hv2⟩ : ∃ v, vStp (zcs b2 s.turn (zas fS t)) = v := ⟨_, rfl⟩
  obtain ⟨v3, hv3⟩ : ∃ v, vStp (zd3 b3 s.turn) = v := ⟨_, rfl⟩
  rw [hv2, hv3]
  have hq2 : v2 = .func (.func 105) #[] #[.pointer (some ⟨b2, 0, none⟩), .pointer (some ⟨b2 + 1, 0, none⟩)] := hv2.symm
  have hq3 : v3 = .func (.func 108) #[] #[.pointer (some ⟨b3, 0, none⟩)] := hv3.symm
  have HV := Lib.hid (show [zcs b2 s.turn (zas fS t), zd3 b3 s.turn].map vStp = [v2, v3] by rw [← hv2, ← hv3]; rfl)
  clear hv2 hv3
  rw [hq2, hq3] at HV ⊢
  clear hq2 hq3
  go_simp
  have hbx := zak (Below.refl w5.heap.size w5) (.cells #[.func (.func 105) #[] #[.pointer (some ⟨b2, 0, none⟩), .pointer (some ⟨b2 + 1, 0, none⟩)], .func (.func 108) #[] #[.pointer (some ⟨b3, 0, none⟩)]] 119)
  have hrn : Rd vStp (w5.alloc (.cells #[.func (.func 105) #[] #[.pointer (some ⟨b2, 0, none⟩), .pointer (some ⟨b2 + 1, 0, none⟩)], .func (.func 108) #[] #[.pointer (some ⟨b3, 0, none⟩)]] 119)) (some ⟨w5.heap.size, 0, none⟩) [zcs b2 s.turn (zas fS t), zd3 b3 s.turn] := Rd.new w5 _ _ _ (by rw [HV.out])
  replace hR0 := hR0.later hbx
  replace hR2 := hR2.later hbx
  have hB6 := zaa hB5 hbx
  refine hK.out _ _ (zcV hR0) ?_
  have hdall : ∀ u ∈ [zcs b2 s.turn (zas fS t), zd3 b3 s.turn], DoS (w5.alloc (.cells #[.func (.func 105) #[] #[.pointer (some ⟨b2, 0, none⟩), .pointer (some ⟨b2 + 1, 0, none⟩)], .func (.func 108) #[] #[.pointer (some ⟨b3, 0, none⟩)]] 119)) u := fun u hu => by
   rcases List.mem_cons.1 hu with e | hu
   ·rw [e]; exact hd2.later hbx
   ·rcases List.mem_cons.1 hu with e | hu
    ·rw [e]; exact hd3.later hbx
    ·exact absurd hu (by simp)
  have hi6 := HI.out _ hB6
  have HD := Lib.hid (zkO ⟨x.d, y⟩ { s with m := m } [zcs b2 s.turn (zas fS t), zd3 b3 s.turn] 2 2 (some ⟨w5.heap.size, 0, none⟩) _ ⟨hi6.id, HM.out _ hB6⟩ HL.out (Lib.hid rfl) hrn (Lib.hid hdall) (by omega))
  rw [HP.out] at HD
  unfold aggS at HD
  dsimp only at HD
  clear hK K hbx hi6 hdall hrn hd2 hd3 hB5 HV HP
  generalize w5.heap.size = q5 at HD hR0 hR2 hB6 ⊢
  generalize w5.alloc (.cells #[.func (.func 105) #[] #[.pointer (some ⟨b2, 0, none⟩), .pointer (some ⟨b2 + 1, 0, none⟩)], .func (.func 108) #[] #[.pointer (some ⟨b3, 0, none⟩)]] 119) = w6 at HD hR0 hR2 hB6 ⊢
  (try simp only [pA, pB, pC, Act.put, pD, pE, pF])
  refine zad rfl (by rfl) (fun K hK => ?_)
  go_simp
  have hsz := hB6.size
  refine HD.out.mono ?_
  rintro e w7 ⟨z, rfl, hz, hzo, hb⟩
  have hl2 := hR2.lt
  replace hR0 := hR0.later hb
  replace hR2 := hR2.later hb
  have hB7 := zaa hB6 hb
  refine hK.out _ _ (zcV hR0) ?_
  have hzA : ∀ lo hi, hi ≤ w.heap.size → OffS lo hi x → OffM lo hi y → OffS lo hi z := fun lo hi hh ho hm => hzo lo hi (by omega) ⟨ho.d, hm⟩
  have hzB : OffS (w.heap.size + 2) (w.heap.size + 3) z := hzo _ _ (by omega) ⟨((HI.out w (Below.refl _ _)).id.off (w.heap.size + 3)).mono (by omega) (Nat.le_refl _), ((HM.out w (Below.refl _ _)).off (w.heap.size + 3)).mono (by omega) (Nat.le_refl _)⟩
  clear hK K hb HD hzo hB6
  obtain ⟨s', er⟩ := P
  dsimp only at hz ⊢
  unfold aggS
  (try simp only [pA, pB, pC, Act.put, pD, pE, pF])
  iterate 2 (refine zae rfl (by rfl) (v := ?_) ?_ ?_; rotate_left 1; (rintro W ⟨hW0, hW1⟩; go_simp <;> with_reducible rfl); simp only [pA, pB, pC, Act.put, pD, pE, pF])
  refine zad rfl (by rfl) (fun K hK => ?_)
  refine Row.wp_store 39 (.tmp 6) (.tmp 48) (by rfl) (by rfl) (lS z s') (by rfl) hR2 (by exact zaf) rfl (zan z s') ?_
  have hO := (Only.refl (w.heap.size + 2) w7).setRow (lS z s').toArray
  refine hK.out _ _ (zcV (hR0.only hO (by omega))) ?_
  clear hK K
  (try simp only [pA, pB, pC, Act.put, pD, pE, pF])
  iterate 1 (refine zae rfl (by rfl) (v := ?_) ?_ ?_; rotate_left 1; (rintro W ⟨hW0, hW1⟩; go_simp <;> with_reducible rfl); simp only [pA, pB, pC, Act.put, pD, pE, pF])
  refine zal ?_
  go_wp2_with fail
  refine bodyPost_ret (zag (p := 6) (u := 7) (ty := 39) (by rfl) _ _ (w.heap.size + 2) 39 _ _ (by rfl) (by exact hR2.setRow _) Tryz.underlying39 (by rfl) (by exact zaf)) (by rfl) ?_
  exact ⟨z, rfl, hz.at_only hO hzB (by omega) (by omega), hzA, below_setRow hB7 (by omega) _⟩
theorem zpH (f : List UInt8 → List UInt8) (F : ShK) (h : ¬ 4611686018427387904 ≤ F.num) : (if (zbA f F).2 ≠ 0 then (zbG (zbA f F).1.d, (zbA f F).2) else zbA f F) = zbA f F := by
 unfold zbA
 rw [if_neg h]
 by_cases he : (zbd f F.d (1 - F.turn) (zaz (F.num + 1) F.m)).2 ≠ 0
 ·rw [if_pos he]
  dsimp only
  rw [if_pos he]
  rfl
 ·rw [if_neg he, if_neg (not_not_intro rfl)]
theorem zoQ {f : List UInt8 → List UInt8} {D : DK} {room : Int} (h : ¬ (zaA D ∧ (0 ≤ room ∧ room ≤ 64))) : zcv f D room = (zbG D, 1) := by
 unfold zcv
 rw [if_pos h]
theorem znM {f : List UInt8 → List UInt8} {D : DK} {room : Int} (h : zaA D ∧ (0 ≤ room ∧ room ≤ 64)) (hd : D.down = true) : zcv f D room = (zbG D, 14) := by
 unfold zcv
 rw [if_neg (not_not_intro h), if_pos hd]
theorem znN {f : List UInt8 → List UInt8} {D : DK} {room : Int} (h : zaA D ∧ (0 ≤ room ∧ room ≤ 64)) (hd : D.down = false) (hm : 4611686018427387904 ≤ (zcZ f D room).num) (hfd : (zcZ f D room).d = D) : zcv f D room = (zbG D, 15) := by
 unfold zcv
 rw [if_neg (not_not_intro h), if_neg (by rw [hd]; decide)]
 unfold zbA
 rw [if_pos hm, if_pos (by show ¬ (15 : Int) = 0; decide), hfd]
theorem znO {f : List UInt8 → List UInt8} {D : DK} {room : Int} (h : zaA D ∧ (0 ≤ room ∧ room ≤ 64)) (hd : D.down = false) (hm : ¬ 4611686018427387904 ≤ (zcZ f D room).num) : zcv f D room = zbA f (zcZ f D room) := by
 unfold zcv
 rw [if_neg (not_not_intro h), if_neg (by rw [hd]; decide), zpH _ _ hm]
theorem zhr {f : List UInt8 → List UInt8} {D : DK} {room : Int} {x : Nat × Nat × MemK × Nat} (h : hasK f D = some x) : zcZ f D room = ⟨D, (x.1 : Int), x.2.1, x.2.2.1⟩ := by
 unfold zcZ
 rw [h]
theorem zhs {f : List UInt8 → List UInt8} {D : DK} {room : Int} (h : hasK f D = none) : zcZ f D room = ⟨D, 1, 0, ⟨0, (0, [], []), (room, 0, [])⟩⟩ := by
 unfold zcZ
 rw [h]
theorem znP (room : Int) (h0 : 0 ≤ room) (h1 : room ≤ 64) : zaX ⟨0, (0, [], []), (room, 0, [])⟩ = true := by
 refine zaU.2 ⟨rfl, ?_⟩
 exact zct.2 ⟨⟨h0, h1⟩, by show ((0 : Nat) : Int) ≤ room; omega, (fun x hx => by cases hx), List.Pairwise.nil⟩
def caS (g : Nat) (a b c : Value) (W : World) : Prop := W.cell? ⟨g, 0, none⟩ = some a ∧ (W.cell? ⟨g, 1, none⟩ = some b ∧ W.cell? ⟨g, 2, none⟩ = some c)
theorem zej [Inhabited Tab] (x : WD) (D : DK) (room : Int) (w : World) (h : InD w x D) (hl : LimK D) (HK : Hid (KTab w)) :
  Calls Tryz.prog 13 #[aggD x D, .int .i64 room] w (RetX w (zcv fS D room).1 (zcv fS D room).2) := by
 obtain ⟨hR0, hR1, hB⟩ := zaB w 27 39 (lD x D) l0S _ _ rfl rfl
 obtain ⟨P, hP⟩ : ∃ P, zcv fS D room = P := ⟨_, rfl⟩
 have HON := Lib.hid (fun W (hb : Below w.heap.size w W) => zkM x D W (h.keep hb) (h.n0 hl) (h.n1 hl))
 have HDR := Lib.hid (fun W (hb : Below w.heap.size w W) => zdx x D W (h.keep hb))
 have HHA := Lib.hid (fun (hr : zaA D) W (hb : Below w.heap.size w W) => zpF x D W (h.keep hb) (by rw [← h.l0]; have := hr.1.2.2; omega) (by rw [← h.l1]; have := hr.2.1.2.2; omega) (Lib.hid (HK.out.keep hb)))
 have HNC := Lib.hid (fun W => zmE room W)
 obtain ⟨F, hF⟩ : ∃ F, zcZ fS D room = F := ⟨_, rfl⟩
 have hFd : F.d = D := by
  rw [← hF]
  unfold zcZ
  split <;> rfl
 have HFD := Lib.hid hFd
 have HFF := Lib.hid hF
 have HFT : Hid ((0 ≤ room ∧ room ≤ 64) → zaX F.m = true ∧ (F.turn = 0 ∨ F.turn = 1)) := fun hr => by
  rw [← hF]
  cases hh : hasK fS D with
  | none => rw [zhs hh]; exact ⟨znP room hr.1 hr.2, .inr rfl⟩
  | some q =>
   obtain ⟨k, n, m, zz⟩ := q
   rw [zhr hh]
   obtain ⟨h1, _, _, h4⟩ := ze3 hh
   exact ⟨h1, by rcases h4 with e | e <;> rw [e] <;> simp⟩
 have HAN0 := Lib.hid (fun (hr : 0 ≤ room ∧ room ≤ 64) (hh : F.num < 4611686018427387904) (z : WS) W (hb : Below w.heap.size w W) (hz : InS W z F) => zkP z F W hz (by rw [HFD.out]; exact hl) (HFT.out hr).1 (HFT.out hr).2 hh (Lib.hid (HK.out.keep hb)))
 have HARG := Lib.hid (fun hh => (zoQ (f := fS) (D := D) (room := room) hh).symm.trans hP)
 have HDOW := Lib.hid (fun hh hd => (znM (f := fS) (D := D) (room := room) hh hd).symm.trans hP)
 have HMO0 := Lib.hid (fun hh hd (hm : 4611686018427387904 ≤ F.num) => (znN (f := fS) (D := D) (room := room) hh hd (by rw [hF]; exact hm) (by rw [hF]; exact HFD.out)).symm.trans hP)
 have HLO0 := Lib.hid (fun hh hd (hm : ¬ 4611686018427387904 ≤ F.num) => ((znO (f := fS) (D := D) (room := room) hh hd (by rw [hF]; exact hm)).trans (by rw [hF])).symm.trans hP)
 unfold aggS at HAN0
 unfold aggD at HON HDR HHA
 rw [hP]
 clear hP h hl hF hFd HK HFT
 unfold aggD
 go_enter Tryz.func13, Tryz.ntmps13
 go_upto_region 1 with fail
 generalize (w.alloc (.cells (lD x D).toArray 27)).alloc (.cells l0S.toArray 39) = W0 at hR0 hR1 hB ⊢
 have hlt0 := hR1.lt
 go_wp2_with fail
 refine (HNC.out W0).mono ?_
 rintro e w1 ⟨A, mc, cap, rfl, HN, hmc, hru, hfr, hb⟩
 have hs1 := hb.size
 replace hR0 := hR0.later hb
 replace hR1 := hR1.later hb
 replace hB := zaa hB hb
 obtain ⟨hR6, hB6⟩ := zat w1 35 l0C _ rfl
 clear hb HNC
 by_cases hroom : 0 ≤ room ∧ room ≤ 64
 ·rw [if_pos hroom] at HN hru ⊢
  rw [if_pos hroom]
  unfold aggC
  dsimp only
  go_upto_region 2 with (refine zab rfl 35 (.tmp 6) (.tmp 12) rfl (w1.heap.size) rfl ([.int .i64 room, .int .u64 ((0 : Nat) : Int), .slice A mc cap]) rfl _ _ (hR6) (by exact zap) rfl (za3 room 0 A mc cap) ?_)
  have hR62 := hR6.setRow [.int .i64 room, .int .u64 ((0 : Nat) : Int), .slice A mc cap]
  have hbn := below_setRow hB6 (Nat.le_refl _) [.int .i64 room, .int .u64 ((0 : Nat) : Int), .slice A mc cap].toArray
  clear hR6 hB6 hru
  generalize (w1.alloc (.cells l0C.toArray 35)).setRow w1.heap.size [.int .i64 room, .int .u64 ((0 : Nat) : Int), .slice A mc cap].toArray = w2 at hR62 hbn ⊢
  replace hR0 := hR0.later hbn
  replace hR1 := hR1.later hbn
  replace hB := zaa hB hbn
  clear hbn
  have hm0 : mc = 0 := HN.out.symm
  subst hm0
  have hg6 : w.heap.size + 1 < w1.heap.size := by omega
  generalize w1.heap.size = g6 at hR62 hg6 ⊢
  have d0 := hR0.cell (i := 0) rfl
  have d1 := hR0.cell (i := 1) rfl
  have d2 := hR0.cell (i := 2) rfl
  have d3 := hR0.cell (i := 3) rfl
  have d4 := hR0.cell (i := 4) rfl
  have d5 := hR0.cell (i := 5) rfl
  have d6 := hR0.cell (i := 6) rfl
  go_wp2_with fail
  refine (HDR.out _ hB).mono ?_
  rintro e w3 ⟨rfl, hb⟩
  replace hR0 := hR0.later hb
  replace hR1 := hR1.later hb
  replace hR62 := hR62.later hb
  replace hB := zaa hB hb
  clear hb HDR d0 d1 d2 d3 d4 d5 d6
  by_cases hrt : zaA D
  ·rw [decide_eq_true hrt]
   have d6 := hR0.cell (i := 6) rfl
   have HAN := Lib.hid (HAN0.out hroom)
   have HHB := Lib.hid (HHA.out hrt)
   obtain ⟨dn, hdn⟩ : ∃ b, D.down = b := ⟨_, rfl⟩
   have HDN := Lib.hid hdn
   rw [hdn] at d6
   cases dn with
   | true =>
    have HP := Lib.hid (HDOW.out ⟨hrt, hroom⟩ HDN.out)
    clear HARG HDOW HMO0 HLO0 HAN0 HAN hroom HHA HHB hdn
    go_upto_region 5 with fail
    clear d6
    go_wp2_with (refine zac rfl 27 (.tmp 2) rfl (w.heap.size) 0 rfl _ _ (hR0) ((lD x D)) (by rfl) _ Tryz.underlying27 rfl (by exact zaj) ?_)
    refine (HON.out _ hB).mono ?_
    rintro e wp ⟨v, rfl, hv, hvf, hb⟩
    unfold aggS zbG zcu zbj zcC zeX
    dsimp only
    have hlt1 := hR1.lt
    replace hR1 := hR1.later hb
    replace hB := zaa hB hb
    clear hb HON
    go_wp2_with (refine zab rfl 39 (.tmp 4) (.tmp 28) rfl (w.heap.size + 1) rfl ([.slice v.A0 v.n0 v.c0, .int .i64 D.a0.s, .slice v.A1 v.n1 v.c1, .int .i64 D.a1.s, .int .i64 D.fuse, .int .i64 D.keep, .bool D.down, .int .i64 0, .int .u64 0, .int .u64 0, .int .u64 0, .slice none 0 0, .slice none 0 0, .int .i64 0, .int .u64 0, .slice none 0 0]) rfl _ _ (hR1) (by exact zaf) rfl (zan ⟨v, zbj⟩ (zbG D)) ?_)
    refine bodyPost_ret (zag (p := 4) (u := 5) (ty := 39) (by rfl) _ _ (w.heap.size + 1) 39 _ _ (by rfl) (by exact hR1.setRow _) Tryz.underlying39 (by rfl) (by exact zaf)) (by rfl) ?_
    have hO := (Only.refl (w.heap.size + 1) wp).setRow [.slice v.A0 v.n0 v.c0, .int .i64 D.a0.s, .slice v.A1 v.n1 v.c1, .int .i64 D.a1.s, .int .i64 D.fuse, .int .i64 D.keep, .bool D.down, .int .i64 0, .int .u64 0, .int .u64 0, .int .u64 0, .slice none 0 0, .slice none 0 0, .int .i64 0, .int .u64 0, .slice none 0 0].toArray
    rw [← HP.out]
    exact ⟨⟨v, zbj⟩, rfl, ⟨hv.at_only hO ((hvf.off 0).mono (Nat.le_refl _) (show w.heap.size + 2 ≤ _ by omega)) (Nat.zero_le _) (by omega), zc6 _⟩, ⟨(hvf.off 0).mono (Nat.le_refl _) (by omega), (zbB _).off 0⟩, below_setRow hB (by omega) _⟩
   | false =>
    have HMO := Lib.hid (HMO0.out ⟨hrt, hroom⟩ HDN.out)
    have HLO := Lib.hid (HLO0.out ⟨hrt, hroom⟩ HDN.out)
    clear HARG HDOW HMO0 HLO0 HAN0 HHA hdn hroom
    go_upto_region 6 with fail
    clear d6
    go_wp2_with (refine zac rfl 27 (.tmp 2) rfl (w.heap.size) 0 rfl _ _ (hR0) ((lD x D)) (by rfl) _ Tryz.underlying27 rfl (by exact zaj) ?_)
    refine (HHB.out _ hB).mono ?_
    rintro e w4 ⟨y, rfl, hy, hyo, hb⟩
    have hs4 := hb.size
    have hlt3 := hR1.lt
    have hl6 := hR62.lt
    replace hR0 := hR0.later hb
    replace hR1 := hR1.later hb
    replace hR62 := hR62.later hb
    replace hB := zaa hB hb
    obtain ⟨hR8, hB8⟩ := zat w4 39 l0S _ rfl
    have hyo2 : OffS 0 (w.heap.size + 2) y := hyo.mono (Nat.le_refl _) (by omega)
    have hyg : OffS w4.heap.size (w4.heap.size + 1) y := hy.off _
    have hg8 : w.heap.size + 2 ≤ w4.heap.size := by omega
    have hg68 : g6 < w4.heap.size := by omega
    clear hb HHB hyo
    cases hh : hasK fS D with
    | some q =>
     obtain ⟨k, n, m, zz⟩ := q
     have hFe : (⟨D, (k : Int), n, m⟩ : ShK) = F := (zhr hh).symm.trans HFF.out
     rw [zi5 hh, hFe] at hy ⊢
     clear hFe hh
     dsimp only at hy ⊢
     unfold aggS
     go_upto_region 7 with (refine zab rfl 39 (.tmp 8) (.tmp 32) rfl (w4.heap.size) rfl ((lS y F)) rfl _ _ (hR8) (by exact zaf) rfl (zan y F) ?_)
     replace hR8 := hR8.setRow (lS y F)
     have hbn := below_setRow hB8 (Nat.le_refl _) (lS y F).toArray
     clear hB8 hR62
     generalize (w4.alloc (.cells l0S.toArray 39)).setRow w4.heap.size (lS y F).toArray = WX at hR8 hbn ⊢
     replace hR0 := hR0.later hbn
     replace hR1 := hR1.later hbn
     have hz := hy.keep hbn
     replace hB := zaa hB hbn
     have hzo := hyo2
     clear hbn hy hyo2 hyg
     generalize w4.heap.size = g8 at hR8 hg8 hg68 ⊢
     generalize y = z at hz hzo hR8 ⊢
     have k8 : WX.cell? ⟨g8, 8, none⟩ = some (.int .u64 (F.num : Int)) := hR8.cell rfl
     have hlt1 := hR1.lt
     by_cases hmax : 4611686018427387904 ≤ F.num
     ·have i2 : decide ((4611686018427387904 : Int) ≤ (F.num : Int)) = true := decide_eq_true (by omega)
      have HP := Lib.hid (HMO.out hmax)
      clear hmax HAN HMO HLO
      go_wp2_with (refine zac rfl 27 (.tmp 2) rfl (w.heap.size) 0 rfl _ _ (hR0) ((lD x D)) (by rfl) _ Tryz.underlying27 rfl (by exact zaj) ?_)
      refine (HON.out _ hB).mono ?_
      rintro e wp ⟨v, rfl, hv, hvf, hb⟩
      unfold aggS zbG zcu zbj zcC zeX
      dsimp only
      replace hR1 := hR1.later hb
      replace hB := zaa hB hb
      clear hb HON k8
      go_wp2_with (refine zab rfl 39 (.tmp 4) (.tmp 44) rfl (w.heap.size + 1) rfl ([.slice v.A0 v.n0 v.c0, .int .i64 D.a0.s, .slice v.A1 v.n1 v.c1, .int .i64 D.a1.s, .int .i64 D.fuse, .int .i64 D.keep, .bool D.down, .int .i64 0, .int .u64 0, .int .u64 0, .int .u64 0, .slice none 0 0, .slice none 0 0, .int .i64 0, .int .u64 0, .slice none 0 0]) rfl _ _ (hR1) (by exact zaf) rfl (zan ⟨v, zbj⟩ (zbG D)) ?_)
      refine bodyPost_ret (zag (p := 4) (u := 5) (ty := 39) (by rfl) _ _ (w.heap.size + 1) 39 _ _ (by rfl) (by exact hR1.setRow _) Tryz.underlying39 (by rfl) (by exact zaf)) (by rfl) ?_
      have hO := (Only.refl (w.heap.size + 1) wp).setRow [.slice v.A0 v.n0 v.c0, .int .i64 D.a0.s, .slice v.A1 v.n1 v.c1, .int .i64 D.a1.s, .int .i64 D.fuse, .int .i64 D.keep, .bool D.down, .int .i64 0, .int .u64 0, .int .u64 0, .int .u64 0, .slice none 0 0, .slice none 0 0, .int .i64 0, .int .u64 0, .slice none 0 0].toArray
      rw [← HP.out]
      exact ⟨⟨v, zbj⟩, rfl, ⟨hv.at_only hO ((hvf.off 0).mono (Nat.le_refl _) (show w.heap.size + 2 ≤ _ by omega)) (Nat.zero_le _) (by omega), zc6 _⟩, ⟨(hvf.off 0).mono (Nat.le_refl _) (by omega), (zbB _).off 0⟩, below_setRow hB (by omega) _⟩
     ·have i2 : decide ((4611686018427387904 : Int) ≤ (F.num : Int)) = false := decide_eq_false (by omega)
      have HAN2 := Lib.hid (HAN.out (by omega) z WX hB hz)
      have HP := Lib.hid (HLO.out hmax)
      rw [HP.out] at HAN2
      clear hmax HAN HMO HLO HON
      go_wp2_with (refine zac rfl 39 (.tmp 8) rfl (g8) 0 rfl _ _ (hR8) ((lS z F)) (by rfl) _ Tryz.underlying39 rfl (by exact zaf) ?_)
      refine HAN2.out.mono ?_
      rintro e wq ⟨v, rfl, hv, hvo, hb⟩
      have hszw := hB.size
      have hov : OffS 0 (w.heap.size + 2) v := hvo _ _ (by omega) hzo
      replace hR1 := hR1.later hb
      replace hB := zaa hB hb
      clear hb HAN2 k8 hR8 hvo hz hzo
      obtain ⟨s', er⟩ := P
      unfold aggS
      dsimp only at hv ⊢
      go_wp2_with (refine zab rfl 39 (.tmp 4) (.tmp 47) rfl (w.heap.size + 1) rfl ((lS v s')) rfl _ _ (hR1) (by exact zaf) rfl (zan v s') ?_)
      refine bodyPost_ret (zag (p := 4) (u := 5) (ty := 39) (by rfl) _ _ (w.heap.size + 1) 39 _ _ (by rfl) (by exact hR1.setRow _) Tryz.underlying39 (by rfl) (by exact zaf)) (by rfl) ?_
      have hO := (Only.refl (w.heap.size + 1) wq).setRow (lS v s').toArray
      exact ⟨v, rfl, hv.at_only hO hov (Nat.zero_le _) (by omega), hov.mono (Nat.le_refl _) (by omega), below_setRow hB (by omega) _⟩
    | none =>
     have hFe : (⟨D, 1, 0, ⟨0, (0, [], []), (room, 0, [])⟩⟩ : ShK) = F := (zhs hh).symm.trans HFF.out
     rw [zi4 hh] at hy ⊢
     clear hh
     dsimp only at hy ⊢
     unfold aggS zbG zcu
     dsimp only
     go_upto_region 8 with (refine zab rfl 39 (.tmp 8) (.tmp 32) rfl (w4.heap.size) rfl ([.slice y.d.A0 y.d.n0 y.d.c0, .int .i64 D.a0.s, .slice y.d.A1 y.d.n1 y.d.c1, .int .i64 D.a1.s, .int .i64 D.fuse, .int .i64 D.keep, .bool D.down, .int .i64 0, .int .u64 0, .int .u64 0, .int .u64 0, .slice y.m.b.eA y.m.b.n y.m.b.ec, .slice y.m.b.gA y.m.b.g y.m.b.gc, .int .i64 0, .int .u64 0, .slice y.m.c.A y.m.c.s y.m.c.c]) rfl _ _ (hR8) (by exact zaf) rfl (zan y (zbG D)) ?_)
     replace hR8 := hR8.setRow [.slice y.d.A0 y.d.n0 y.d.c0, .int .i64 D.a0.s, .slice y.d.A1 y.d.n1 y.d.c1, .int .i64 D.a1.s, .int .i64 D.fuse, .int .i64 D.keep, .bool D.down, .int .i64 0, .int .u64 0, .int .u64 0, .int .u64 0, .slice y.m.b.eA y.m.b.n y.m.b.ec, .slice y.m.b.gA y.m.b.g y.m.b.gc, .int .i64 0, .int .u64 0, .slice y.m.c.A y.m.c.s y.m.c.c]
     have hbn := below_setRow hB8 (Nat.le_refl _) [.slice y.d.A0 y.d.n0 y.d.c0, .int .i64 D.a0.s, .slice y.d.A1 y.d.n1 y.d.c1, .int .i64 D.a1.s, .int .i64 D.fuse, .int .i64 D.keep, .bool D.down, .int .i64 0, .int .u64 0, .int .u64 0, .int .u64 0, .slice y.m.b.eA y.m.b.n y.m.b.ec, .slice y.m.b.gA y.m.b.g y.m.b.gc, .int .i64 0, .int .u64 0, .slice y.m.c.A y.m.c.s y.m.c.c].toArray
     clear hB8
     generalize (w4.alloc (.cells l0S.toArray 39)).setRow w4.heap.size [.slice y.d.A0 y.d.n0 y.d.c0, .int .i64 D.a0.s, .slice y.d.A1 y.d.n1 y.d.c1, .int .i64 D.a1.s, .int .i64 D.fuse, .int .i64 D.keep, .bool D.down, .int .i64 0, .int .u64 0, .int .u64 0, .int .u64 0, .slice y.m.b.eA y.m.b.n y.m.b.ec, .slice y.m.b.gA y.m.b.g y.m.b.gc, .int .i64 0, .int .u64 0, .slice y.m.c.A y.m.c.s y.m.c.c].toArray = w5 at hR8 hbn ⊢
     replace hR0 := hR0.later hbn
     replace hR1 := hR1.later hbn
     replace hR62 := hR62.later hbn
     replace hy := hy.keep hbn
     replace hB := zaa hB hbn
     clear hbn
     generalize w4.heap.size = g8 at hR8 hg8 hg68 hyg ⊢
     have hS : caS g6 (.int .i64 room) (.int .u64 0) (.slice A 0 cap) w5.drew := ⟨hR62.cell (i := 0) rfl, hR62.cell (i := 1) rfl, hR62.cell (i := 2) rfl⟩
     replace hR0 := hR0.drew
     replace hR1 := hR1.drew
     replace hR62 := hR62.drew
     replace hR8 := hR8.drew
     replace hy := hy.keep ((Below.refl _ w5).drew)
     replace hB := hB.drew
     refine zah (caS g6 (.int .i64 room) (.int .u64 0) (.slice A 0 cap)) (.step 0 false (.step 1 false (.step 2 true (.step 3 false (.step 4 false (.step 5 true (.nil))))))) hS (by kernel_rfl) (by kernel_rfl) (by rfl) (by kernel_rfl) ?_
     generalize w5.drew = wv at *
     iterate 2 (refine zae rfl (by rfl) (v := ?_) ?_ ?_; rotate_left 1; (rintro W ⟨hW0, hW1⟩; go_simp <;> with_reducible rfl); simp only [pA, pB, pC, Act.put, pD, pE, pF])
     clear hS
     have f7 := hR8.frozen 7
     have c7 : wv.cell? ⟨g8, 7, none⟩ = some (.int .i64 0) := hR8.cell rfl
     have hO := (Only.refl g8 wv).setCell 7 (.int .i64 1)
     refine zad rfl (by rfl) (fun K hK => ?_)
     go_simp
     replace hR62 := hR62.only hO (by omega)
     refine hK.out _ _ ⟨hR62.cell (i := 0) rfl, hR62.cell (i := 1) rfl, hR62.cell (i := 2) rfl⟩ ?_
     clear hK K f7 c7
     replace hR8 := hR8.setCell 7 (.int .i64 1)
     replace hR0 := hR0.only hO (by omega)
     replace hR1 := hR1.only hO (by omega)
     replace hy := hy.at_only hO hyg (Nat.le_refl _) (Nat.lt_succ_self _)
     replace hB := hB.trans (hO.below.mono (by omega))
     clear hO
     generalize wv.setCell ⟨g8, 7, none⟩ (.int .i64 1) = w6 at *
     iterate 2 (refine zae rfl (by rfl) (v := ?_) ?_ ?_; rotate_left 1; (rintro W ⟨hW0, hW1⟩; go_simp <;> with_reducible rfl); simp only [pA, pB, pC, Act.put, pD, pE, pF])
     refine zad rfl (by rfl) (fun K hK => ?_)
     refine wp_store_mid 35 (.tmp 39) (.tmp 36) rfl g8 13 #[.int .i64 room, .int .u64 0, .slice A 0 cap] rfl rfl (zaV hR8 13 3 (by simp)) (by exact zap) (by exact all_oneCell_toArray (za3 room 0 A 0 cap)) ?_
     have hO := Only.setCells (g := g8) [.int .i64 room, .int .u64 0, .slice A 0 cap] 13 (Only.refl _ w6)
     replace hR62 := hR62.only hO (by omega)
     refine hK.out _ _ ⟨hR62.cell (i := 0) rfl, hR62.cell (i := 1) rfl, hR62.cell (i := 2) rfl⟩ ?_
     clear hK K
     replace hR8 := hR8.setCells [.int .i64 room, .int .u64 0, .slice A 0 cap] 13 (by simp)
     replace hR0 := hR0.only hO (by omega)
     replace hR1 := hR1.only hO (by omega)
     replace hy := hy.at_only hO hyg (Nat.le_refl _) (Nat.lt_succ_self _)
     replace hB := hB.trans (hO.below.mono (by omega))
     clear hO hR62
     generalize w6.setCells g8 13 [.int .i64 room, .int .u64 0, .slice A 0 cap] = WX at *
     refine zal ?_
     have hz : InS WX ⟨y.d, ⟨y.m.b, ⟨A, 0, cap⟩⟩⟩ F := by
      rw [← hFe]
      exact ⟨hy.id, ⟨by show (0 : Nat) < _; decide, hy.im.ib, ⟨rfl, Nat.zero_le _, RdU.nil, Nat.zero_le _, ⟨by show (0 : Nat) < _; decide, fun x hx => by cases hx⟩⟩⟩⟩
     have hzo : OffS 0 (w.heap.size + 2) ⟨y.d, ⟨y.m.b, ⟨A, 0, cap⟩⟩⟩ := ⟨hyo2.d, ⟨hyo2.m.b, fun h0 => absurd rfl h0⟩⟩
     have hR8F : Row WX g8 39 (lS (⟨y.d, ⟨y.m.b, ⟨A, 0, cap⟩⟩⟩ : WS) F) := by
      rw [← hFe]
      exact hR8
     clear hR8 hy hyo2 hyg hFe
     generalize (⟨y.d, ⟨y.m.b, ⟨A, 0, cap⟩⟩⟩ : WS) = z at hz hzo hR8F ⊢
     have hR8 := hR8F
     clear hR8F
     have k8 : WX.cell? ⟨g8, 8, none⟩ = some (.int .u64 (F.num : Int)) := hR8.cell rfl
     have hlt1 := hR1.lt
     by_cases hmax : 4611686018427387904 ≤ F.num
     ·have i2 : decide ((4611686018427387904 : Int) ≤ (F.num : Int)) = true := decide_eq_true (by omega)
      have HP := Lib.hid (HMO.out hmax)
      clear hmax HAN HMO HLO
      go_wp2_with (refine zac rfl 27 (.tmp 2) rfl (w.heap.size) 0 rfl _ _ (hR0) ((lD x D)) (by rfl) _ Tryz.underlying27 rfl (by exact zaj) ?_)
      refine (HON.out _ hB).mono ?_
      rintro e wp ⟨v, rfl, hv, hvf, hb⟩
      unfold aggS zbG zcu zbj zcC zeX
      dsimp only
      replace hR1 := hR1.later hb
      replace hB := zaa hB hb
      clear hb HON k8
      go_wp2_with (refine zab rfl 39 (.tmp 4) (.tmp 44) rfl (w.heap.size + 1) rfl ([.slice v.A0 v.n0 v.c0, .int .i64 D.a0.s, .slice v.A1 v.n1 v.c1, .int .i64 D.a1.s, .int .i64 D.fuse, .int .i64 D.keep, .bool D.down, .int .i64 0, .int .u64 0, .int .u64 0, .int .u64 0, .slice none 0 0, .slice none 0 0, .int .i64 0, .int .u64 0, .slice none 0 0]) rfl _ _ (hR1) (by exact zaf) rfl (zan ⟨v, zbj⟩ (zbG D)) ?_)
      refine bodyPost_ret (zag (p := 4) (u := 5) (ty := 39) (by rfl) _ _ (w.heap.size + 1) 39 _ _ (by rfl) (by exact hR1.setRow _) Tryz.underlying39 (by rfl) (by exact zaf)) (by rfl) ?_
      have hO := (Only.refl (w.heap.size + 1) wp).setRow [.slice v.A0 v.n0 v.c0, .int .i64 D.a0.s, .slice v.A1 v.n1 v.c1, .int .i64 D.a1.s, .int .i64 D.fuse, .int .i64 D.keep, .bool D.down, .int .i64 0, .int .u64 0, .int .u64 0, .int .u64 0, .slice none 0 0, .slice none 0 0, .int .i64 0, .int .u64 0, .slice none 0 0].toArray
      rw [← HP.out]
      exact ⟨⟨v, zbj⟩, rfl, ⟨hv.at_only hO ((hvf.off 0).mono (Nat.le_refl _) (show w.heap.size + 2 ≤ _ by omega)) (Nat.zero_le _) (by omega), zc6 _⟩, ⟨(hvf.off 0).mono (Nat.le_refl _) (by omega), (zbB _).off 0⟩, below_setRow hB (by omega) _⟩
     ·have i2 : decide ((4611686018427387904 : Int) ≤ (F.num : Int)) = false := decide_eq_false (by omega)
      have HAN2 := Lib.hid (HAN.out (by omega) z WX hB hz)
      have HP := Lib.hid (HLO.out hmax)
      rw [HP.out] at HAN2
      clear hmax HAN HMO HLO HON
      go_wp2_with (refine zac rfl 39 (.tmp 8) rfl (g8) 0 rfl _ _ (hR8) ((lS z F)) (by rfl) _ Tryz.underlying39 rfl (by exact zaf) ?_)
      refine HAN2.out.mono ?_
      rintro e wq ⟨v, rfl, hv, hvo, hb⟩
      have hszw := hB.size
      have hov : OffS 0 (w.heap.size + 2) v := hvo _ _ (by omega) hzo
      replace hR1 := hR1.later hb
      replace hB := zaa hB hb
      clear hb HAN2 k8 hR8 hvo hz hzo
      obtain ⟨s', er⟩ := P
      unfold aggS
      dsimp only at hv ⊢
      go_wp2_with (refine zab rfl 39 (.tmp 4) (.tmp 47) rfl (w.heap.size + 1) rfl ((lS v s')) rfl _ _ (hR1) (by exact zaf) rfl (zan v s') ?_)
      refine bodyPost_ret (zag (p := 4) (u := 5) (ty := 39) (by rfl) _ _ (w.heap.size + 1) 39 _ _ (by rfl) (by exact hR1.setRow _) Tryz.underlying39 (by rfl) (by exact zaf)) (by rfl) ?_
      have hO := (Only.refl (w.heap.size + 1) wq).setRow (lS v s').toArray
      exact ⟨v, rfl, hv.at_only hO hov (Nat.zero_le _) (by omega), hov.mono (Nat.le_refl _) (by omega), below_setRow hB (by omega) _⟩
  ·rw [decide_eq_false hrt]
   have HP := Lib.hid (HARG.out (fun hh => hrt hh.1))
   clear HARG HDOW HMO0 HLO0 HAN0 hroom HHA hrt
   go_upto_region 3 with fail
   go_wp2_with (refine zac rfl 27 (.tmp 2) rfl (w.heap.size) 0 rfl _ _ (hR0) ((lD x D)) (by rfl) _ Tryz.underlying27 rfl (by exact zaj) ?_)
   refine (HON.out _ hB).mono ?_
   rintro e wp ⟨v, rfl, hv, hvf, hb⟩
   unfold aggS zbG zcu zbj zcC zeX
   dsimp only
   have hlt1 := hR1.lt
   replace hR1 := hR1.later hb
   replace hB := zaa hB hb
   clear hb HON
   go_wp2_with (refine zab rfl 39 (.tmp 4) (.tmp 23) rfl (w.heap.size + 1) rfl ([.slice v.A0 v.n0 v.c0, .int .i64 D.a0.s, .slice v.A1 v.n1 v.c1, .int .i64 D.a1.s, .int .i64 D.fuse, .int .i64 D.keep, .bool D.down, .int .i64 0, .int .u64 0, .int .u64 0, .int .u64 0, .slice none 0 0, .slice none 0 0, .int .i64 0, .int .u64 0, .slice none 0 0]) rfl _ _ (hR1) (by exact zaf) rfl (zan ⟨v, zbj⟩ (zbG D)) ?_)
   refine bodyPost_ret (zag (p := 4) (u := 5) (ty := 39) (by rfl) _ _ (w.heap.size + 1) 39 _ _ (by rfl) (by exact hR1.setRow _) Tryz.underlying39 (by rfl) (by exact zaf)) (by rfl) ?_
   have hO := (Only.refl (w.heap.size + 1) wp).setRow [.slice v.A0 v.n0 v.c0, .int .i64 D.a0.s, .slice v.A1 v.n1 v.c1, .int .i64 D.a1.s, .int .i64 D.fuse, .int .i64 D.keep, .bool D.down, .int .i64 0, .int .u64 0, .int .u64 0, .int .u64 0, .slice none 0 0, .slice none 0 0, .int .i64 0, .int .u64 0, .slice none 0 0].toArray
   rw [← HP.out]
   exact ⟨⟨v, zbj⟩, rfl, ⟨hv.at_only hO ((hvf.off 0).mono (Nat.le_refl _) (show w.heap.size + 2 ≤ _ by omega)) (Nat.zero_le _) (by omega), zc6 _⟩, ⟨(hvf.off 0).mono (Nat.le_refl _) (by omega), (zbB _).off 0⟩, below_setRow hB (by omega) _⟩
 ·rw [if_neg hroom] at HN hru ⊢
  rw [if_neg hroom]
  unfold aggC
  dsimp only
  have HP := Lib.hid (HARG.out (fun hh => hroom hh.2))
  clear HARG HDOW HMO0 HLO0 HAN0 hroom HHA HDR
  go_upto_region 2 with (refine zab rfl 35 (.tmp 6) (.tmp 12) rfl (w1.heap.size) rfl ([.int .i64 0, .int .u64 ((0 : Nat) : Int), .slice A mc cap]) rfl _ _ (hR6) (by exact zap) rfl (za3 0 0 A mc cap) ?_)
  have hbn := below_setRow hB6 (Nat.le_refl _) [.int .i64 0, .int .u64 ((0 : Nat) : Int), .slice A mc cap].toArray
  clear hR6 hB6
  generalize (w1.alloc (.cells l0C.toArray 35)).setRow w1.heap.size [.int .i64 0, .int .u64 ((0 : Nat) : Int), .slice A mc cap].toArray = w2 at hbn ⊢
  replace hR0 := hR0.later hbn
  replace hR1 := hR1.later hbn
  replace hB := zaa hB hbn
  clear hbn
  go_wp2_with (refine zac rfl 27 (.tmp 2) rfl (w.heap.size) 0 rfl _ _ (hR0) ((lD x D)) (by rfl) _ Tryz.underlying27 rfl (by exact zaj) ?_)
  refine (HON.out _ hB).mono ?_
  rintro e wp ⟨v, rfl, hv, hvf, hb⟩
  unfold aggS zbG zcu zbj zcC zeX
  dsimp only
  have hlt1 := hR1.lt
  replace hR1 := hR1.later hb
  replace hB := zaa hB hb
  clear hb HON
  go_wp2_with (refine zab rfl 39 (.tmp 4) (.tmp 23) rfl (w.heap.size + 1) rfl ([.slice v.A0 v.n0 v.c0, .int .i64 D.a0.s, .slice v.A1 v.n1 v.c1, .int .i64 D.a1.s, .int .i64 D.fuse, .int .i64 D.keep, .bool D.down, .int .i64 0, .int .u64 0, .int .u64 0, .int .u64 0, .slice none 0 0, .slice none 0 0, .int .i64 0, .int .u64 0, .slice none 0 0]) rfl _ _ (hR1) (by exact zaf) rfl (zan ⟨v, zbj⟩ (zbG D)) ?_)
  refine bodyPost_ret (zag (p := 4) (u := 5) (ty := 39) (by rfl) _ _ (w.heap.size + 1) 39 _ _ (by rfl) (by exact hR1.setRow _) Tryz.underlying39 (by rfl) (by exact zaf)) (by rfl) ?_
  have hO := (Only.refl (w.heap.size + 1) wp).setRow [.slice v.A0 v.n0 v.c0, .int .i64 D.a0.s, .slice v.A1 v.n1 v.c1, .int .i64 D.a1.s, .int .i64 D.fuse, .int .i64 D.keep, .bool D.down, .int .i64 0, .int .u64 0, .int .u64 0, .int .u64 0, .slice none 0 0, .slice none 0 0, .int .i64 0, .int .u64 0, .slice none 0 0].toArray
  rw [← HP.out]
  exact ⟨⟨v, zbj⟩, rfl, ⟨hv.at_only hO ((hvf.off 0).mono (Nat.le_refl _) (show w.heap.size + 2 ≤ _ by omega)) (Nat.zero_le _) (by omega), zc6 _⟩, ⟨(hvf.off 0).mono (Nat.le_refl _) (by omega), (zbB _).off 0⟩, below_setRow hB (by omega) _⟩
def tkS (g4 g10 g5 : Nat) (a0 a1 a2 a3 a4 a5 a6 a7 a8 a9 a10 a11 a12 a13 a14 a15 b0 b1 b2 b3 b4 b5 b6 c0 c1 c2 : Value) (W : World) : Prop := W.cell? ⟨g4, 0, none⟩ = some a0 ∧ (W.cell? ⟨g4, 1, none⟩ = some a1 ∧ (W.cell? ⟨g4, 2, none⟩ = some a2 ∧ (W.cell? ⟨g4, 3, none⟩ = some a3 ∧ (W.cell? ⟨g4, 4, none⟩ = some a4 ∧ (W.cell? ⟨g4, 5, none⟩ = some a5 ∧ (W.cell? ⟨g4, 6, none⟩ = some a6 ∧ (W.cell? ⟨g4, 7, none⟩ = some a7 ∧ (W.cell? ⟨g4, 8, none⟩ = some a8 ∧ (W.cell? ⟨g4, 9, none⟩ = some a9 ∧ (W.cell? ⟨g4, 10, none⟩ = some a10 ∧ (W.cell? ⟨g4, 11, none⟩ = some a11 ∧ (W.cell? ⟨g4, 12, none⟩ = some a12 ∧ (W.cell? ⟨g4, 13, none⟩ = some a13 ∧ (W.cell? ⟨g4, 14, none⟩ = some a14 ∧ (W.cell? ⟨g4, 15, none⟩ = some a15 ∧ (W.cell? ⟨g10, 0, none⟩ = some b0 ∧ (W.cell? ⟨g10, 1, none⟩ = some b1 ∧ (W.cell? ⟨g10, 2, none⟩ = some b2 ∧ (W.cell? ⟨g10, 3, none⟩ = some b3 ∧ (W.cell? ⟨g10, 4, none⟩ = some b4 ∧ (W.cell? ⟨g10, 5, none⟩ = some b5 ∧ (W.cell? ⟨g10, 6, none⟩ = some b6 ∧ (W.cell? ⟨g5, 0, none⟩ = some c0 ∧ (W.cell? ⟨g5, 1, none⟩ = some c1 ∧ (W.cell? ⟨g5, 2, none⟩ = some c2)))))))))))))))))))))))))
theorem zfB {g4 g10 g5 : Nat} {t4 t10 t5 : TypeId} {a0 a1 a2 a3 a4 a5 a6 a7 a8 a9 a10 a11 a12 a13 a14 a15 b0 b1 b2 b3 b4 b5 b6 c0 c1 c2 : Value} {W : World} (h4 : Row W g4 t4 [a0, a1, a2, a3, a4, a5, a6, a7, a8, a9, a10, a11, a12, a13, a14, a15]) (h10 : Row W g10 t10 [b0, b1, b2, b3, b4, b5, b6]) (h5 : Row W g5 t5 [c0, c1, c2]) : tkS g4 g10 g5 a0 a1 a2 a3 a4 a5 a6 a7 a8 a9 a10 a11 a12 a13 a14 a15 b0 b1 b2 b3 b4 b5 b6 c0 c1 c2 W := ⟨h4.cell rfl, h4.cell rfl, h4.cell rfl, h4.cell rfl, h4.cell rfl, h4.cell rfl, h4.cell rfl, h4.cell rfl, h4.cell rfl, h4.cell rfl, h4.cell rfl, h4.cell rfl, h4.cell rfl, h4.cell rfl, h4.cell rfl, h4.cell rfl, h10.cell rfl, h10.cell rfl, h10.cell rfl, h10.cell rfl, h10.cell rfl, h10.cell rfl, h10.cell rfl, h5.cell rfl, h5.cell rfl, h5.cell rfl⟩
theorem zlN {f : List UInt8 → List UInt8} {s : ShK} {u : Us} {clock floor : Nat} (h : ¬ zav f s) : zbq f s u clock floor = (s, 1) := by
 unfold zbq
 rw [if_pos h]
theorem znQ {f : List UInt8 → List UInt8} {s : ShK} {u : Us} {clock floor : Nat} (h : zav f s) (h2 : (zaY s.m u clock floor).2 ≠ 0) : zbq f s u clock floor = (s, (zaY s.m u clock floor).2) := by
 unfold zbq
 rw [if_neg (not_not_intro h), if_pos h2]
theorem zlO {f : List UInt8 → List UInt8} {s : ShK} {u : Us} {clock floor : Nat} (h : zav f s) (h2 : (zaY s.m u clock floor).2 = 0) : zbq f s u clock floor = zb5 f s (zaY s.m u clock floor).1 (zcz u clock floor) := by
 unfold zbq
 rw [if_neg (not_not_intro h), if_neg (not_not_intro h2)]
theorem zgD {f : List UInt8 → List UInt8} {s : ShK} (h : zav f s) : zaX s.m = true := (ze3 h.2.2.2.2.1).1
theorem zeA {f : List UInt8 → List UInt8} {s : ShK} (h : zav f s) (h1 : s.d.fuse ≤ 9223372036854775807) (h2 : s.d.keep ≤ 9223372036854775807) : LimK s.d := ⟨by have := h.1.1.2.2; omega, by have := h.1.2.1.2.2; omega, h1, h2⟩
theorem zdp [Inhabited Tab] (x : WS) (s : ShK) (u : Us) (clock floor : Nat) (w : World) (h : InS w x s) (hu : zcF u) (hc : clock < 18446744073709551616) (hf : floor < 18446744073709551616) (hn0 : x.d.n0 ≤ 1000000000) (hn1 : x.d.n1 ≤ 1000000000) (hnum : s.num < 18446744073709551616) (hfu : s.d.fuse ≤ 9223372036854775807) (hke : s.d.keep ≤ 9223372036854775807) (HK : Hid (KTab w)) :
  Calls Tryz.prog 20 #[aggS x s, .agg #[.int .u64 (u.1 : Int), .int .u64 (u.2.1 : Int), .int .u64 (u.2.2 : Int)], .int .u64 (clock : Int), .int .u64 (floor : Int)] w (RetX w (zbq fS s u clock floor).1 (zbq fS s u clock floor).2) := by
 obtain ⟨hR0, hR1, hR2, hB⟩ := za8 w 39 57 39 (lS x s) [.int .u64 (u.1 : Int), .int .u64 (u.2.1 : Int), .int .u64 (u.2.2 : Int)] l0S _ _ _ rfl rfl rfl
 obtain ⟨P, hP⟩ : ∃ P, zbq fS s u clock floor = P := ⟨_, rfl⟩
 have HOW := Lib.hid (fun W (hb : Below w.heap.size w W) => zfx x s W (h.keep hb) (by omega) (by omega))
 have HL0 := Lib.hid h.id.l0
 have HL1 := Lib.hid h.id.l1
 have HRT := Lib.hid (fun (y : WS) W (hb : Below w.heap.size w W) (hy : InS W y s) => zdE y s W hy (by rw [← hy.id.l0, HL0.out]; exact hn0) (by rw [← hy.id.l1, HL1.out]; exact hn1) hnum (Lib.hid (HK.out.keep hb)))
 have HUS := Lib.hid (fun (y : WM) W (hy : InM W y s.m) => zkI y s.m u clock floor W hy hu hc hf)
 have HUR := Lib.hid (fun W => zlt u clock floor W hu hc hf)
 have HKT := Lib.hid (fun W (hb : Below w.heap.size w W) => HK.out.keep hb)
 have HARG := Lib.hid (fun hh => (zlN (f := fS) (s := s) (u := u) (clock := clock) (floor := floor) hh).symm.trans hP)
 have HNO := Lib.hid (fun hh h2 => (znQ (f := fS) (s := s) (u := u) (clock := clock) (floor := floor) hh h2).symm.trans hP)
 have HYES := Lib.hid (fun hh h2 => (zlO (f := fS) (s := s) (u := u) (clock := clock) (floor := floor) hh h2).symm.trans hP)
 have HTR := Lib.hid (fun (hr : zav fS s) => zgV (u := u) (clock := clock) (floor := floor) (zgD hr))
 have HLM := Lib.hid (fun (hr : zav fS s) => zeA hr hfu hke)
 rw [hP]
 clear hP h HK hu hc hf hn0 hn1 hfu hke
 obtain ⟨⟨m, er⟩, hX⟩ : ∃ q, zaY s.m u clock floor = q := ⟨_, rfl⟩
 rw [hX] at HUS HNO HYES HTR
 unfold aggS at HOW HRT
 unfold aggM at HUS
 dsimp only at HUS HNO HYES HTR
 clear hX
 unfold aggS
 go_enter Tryz.func20, Tryz.ntmps20
 go_upto_region 1 with fail
 generalize ((w.alloc (.cells (lS x s).toArray 39)).alloc (.cells [.int .u64 (u.1 : Int), .int .u64 (u.2.1 : Int), .int .u64 (u.2.2 : Int)].toArray 57)).alloc (.cells l0S.toArray 39) = W0 at hR0 hR1 hR2 hB ⊢
 go_wp2_with (refine zac rfl 39 (.tmp 4) rfl (w.heap.size) 0 rfl _ _ (hR0) ((lS x s)) (by rfl) _ Tryz.underlying39 rfl (by exact zaf) ?_)
 refine (HOW.out _ hB).mono ?_
 rintro e w1 ⟨y, rfl, hy, hyf, hb⟩
 have hlt0 := hR2.lt
 have hyo : OffS 0 (w.heap.size + 3) y := ⟨(hyf.d.off 0).mono (Nat.le_refl _) (by omega), (hyf.m.off 0).mono (Nat.le_refl _) (by omega)⟩
 replace hR0 := hR0.later hb
 replace hR1 := hR1.later hb
 replace hR2 := hR2.later hb
 replace hB := zaa hB hb
 clear hb HOW hyf
 have hO := (Only.refl w.heap.size w1).setRow (lS y s).toArray
 unfold aggS
 go_upto_region 2 with (refine zab rfl 39 (.tmp 4) (.tmp 13) rfl (w.heap.size) rfl ((lS y s)) rfl _ _ (hR0) (by exact zaf) rfl (zan y s) ?_)
 replace hR0 := hR0.setRow (lS y s)
 replace hR1 := hR1.only hO (by omega)
 replace hR2 := hR2.only hO (by omega)
 replace hy := hy.at_only hO hyo (Nat.zero_le _) (by omega)
 replace hB := below_setRow hB (Nat.le_refl _) (lS y s).toArray
 clear hO
 generalize w1.setRow w.heap.size (lS y s).toArray = w2 at hR0 hR1 hR2 hy hB ⊢
 go_wp2_with (refine zac rfl 39 (.tmp 4) rfl (w.heap.size) 0 rfl _ _ (hR0) ((lS y s)) (by rfl) _ Tryz.underlying39 rfl (by exact zaf) ?_)
 refine (HRT.out y _ hB hy).mono ?_
 rintro e w3 ⟨r, rfl, HR, hb⟩
 have hlt0 := hR2.lt
 replace hR0 := hR0.later hb
 replace hR1 := hR1.later hb
 replace hR2 := hR2.later hb
 replace hy := hy.keep hb
 replace hB := zaa hB hb
 clear hb HRT
 cases r with
 | false =>
  have HP := Lib.hid (HARG.out (fun hh => by have := HR.out.2 hh; cases this))
  clear HARG HNO HYES HTR HLM HUS HUR HR
  go_wp2_with (first
   | (refine zac rfl 39 (.tmp 4) rfl (w.heap.size) 0 rfl _ _ (hR0) ((lS y s)) (by rfl) _ Tryz.underlying39 rfl (by exact zaf) ?_)
   | (refine zab rfl 39 (.tmp 8) (.tmp 17) rfl (w.heap.size + 2) rfl ((lS y s)) rfl _ _ (hR2) (by exact zaf) rfl (zan y s) ?_))
  refine bodyPost_ret (zag (p := 8) (u := 9) (ty := 39) (by rfl) _ _ (w.heap.size + 2) 39 _ _ (by rfl) (by exact hR2.setRow _) Tryz.underlying39 (by rfl) (by exact zaf)) (by rfl) ?_
  have hO := (Only.refl (w.heap.size + 2) w3).setRow (lS y s).toArray
  rw [← HP.out]
  exact ⟨y, rfl, hy.at_only hO hyo (Nat.zero_le _) (by omega), hyo.mono (Nat.le_refl _) (by omega), below_setRow hB (by omega) _⟩
 | true =>
  have HRI := Lib.hid (HR.out.1 rfl)
  clear HARG HR
  go_wp2_with (first
   | (refine zac rfl 37 (.tmp 19) rfl (w.heap.size) 9 rfl _ _ (hR0) ((lM y.m s.m)) (by rfl) _ Tryz.underlying37 rfl (by exact zai) ?_)
   | (refine zac rfl 57 (.tmp 5) rfl (w.heap.size + 1) 0 rfl _ _ (hR1) ([.int .u64 (u.1 : Int), .int .u64 (u.2.1 : Int), .int .u64 (u.2.2 : Int)]) (by rfl) _ Tryz.underlying57 rfl (by exact zaW) ?_))
  refine (HUS.out y.m _ hy.im).mono ?_
  rintro e w4 ⟨z, rfl, hz, hzo, hb⟩
  have hlt1 := hR2.lt
  have hzo2 : OffM 0 (w.heap.size + 3) z := hzo 0 _ (by omega) hyo.m
  replace hR0 := hR0.later hb
  replace hR1 := hR1.later hb
  replace hR2 := hR2.later hb
  replace hy := hy.keep hb
  replace hB := zaa hB hb
  have hs4 := hb.size
  obtain ⟨hR10, hB10⟩ := zat w4 37 l0M _ rfl
  clear hb HUS hzo
  unfold aggM
  go_upto_region 5 with (refine zab rfl 37 (.tmp 10) (.tmp 25) rfl (w4.heap.size) rfl ((lM z m)) rfl _ _ (hR10) (by exact zai) rfl (zaq z m) ?_)
  replace hR10 := hR10.setRow (lM z m)
  have hbn := below_setRow hB10 (Nat.le_refl _) (lM z m).toArray
  clear hB10
  generalize (w4.alloc (.cells l0M.toArray 37)).setRow w4.heap.size (lM z m).toArray = w5 at hR10 hbn ⊢
  replace hR0 := hR0.later hbn
  replace hR1 := hR1.later hbn
  replace hR2 := hR2.later hbn
  replace hy := hy.keep hbn
  replace hz := hz.keep hbn
  replace hB := zaa hB hbn
  clear hbn
  have hg10 : w.heap.size + 2 < w4.heap.size := by omega
  generalize w4.heap.size = g10 at hR10 hg10 ⊢
  by_cases he : er = 0
  ·subst he
   have HP := Lib.hid (HYES.out HRI.out rfl)
   have HRM := Lib.hid (HTR.out HRI.out)
   have HLIM := Lib.hid (HLM.out HRI.out)
   have HTN : Hid (s.turn = 0 ∨ s.turn = 1) := HRI.out.2.2.1
   clear HNO HYES HTR HLM HRI
   go_upto_region 7 with fail
   have hS : tkS w.heap.size g10 (w.heap.size + 1) (.slice y.d.A0 y.d.n0 y.d.c0) (.int .i64 s.d.a0.s) (.slice y.d.A1 y.d.n1 y.d.c1) (.int .i64 s.d.a1.s) (.int .i64 s.d.fuse) (.int .i64 s.d.keep) (.bool s.d.down) (.int .i64 s.turn) (.int .u64 (s.num : Int)) (.int .u64 (s.m.clock : Int)) (.int .u64 (s.m.b.1 : Int)) (.slice y.m.b.eA y.m.b.n y.m.b.ec) (.slice y.m.b.gA y.m.b.g y.m.b.gc) (.int .i64 s.m.c.1) (.int .u64 (s.m.c.2.1 : Int)) (.slice y.m.c.A y.m.c.s y.m.c.c) (.int .u64 (m.clock : Int)) (.int .u64 (m.b.1 : Int)) (.slice z.b.eA z.b.n z.b.ec) (.slice z.b.gA z.b.g z.b.gc) (.int .i64 m.c.1) (.int .u64 (m.c.2.1 : Int)) (.slice z.c.A z.c.s z.c.c) (.int .u64 (u.1 : Int)) (.int .u64 (u.2.1 : Int)) (.int .u64 (u.2.2 : Int)) w5.drew := zfB (W := w5.drew) hR0 hR10 hR1
   replace hR0 := hR0.drew
   replace hR1 := hR1.drew
   replace hR2 := hR2.drew
   replace hR10 := hR10.drew
   replace hy := hy.keep ((Below.refl _ w5).drew)
   replace hz := hz.keep ((Below.refl _ w5).drew)
   replace hB := hB.drew
   refine zah (tkS w.heap.size g10 (w.heap.size + 1) (.slice y.d.A0 y.d.n0 y.d.c0) (.int .i64 s.d.a0.s) (.slice y.d.A1 y.d.n1 y.d.c1) (.int .i64 s.d.a1.s) (.int .i64 s.d.fuse) (.int .i64 s.d.keep) (.bool s.d.down) (.int .i64 s.turn) (.int .u64 (s.num : Int)) (.int .u64 (s.m.clock : Int)) (.int .u64 (s.m.b.1 : Int)) (.slice y.m.b.eA y.m.b.n y.m.b.ec) (.slice y.m.b.gA y.m.b.g y.m.b.gc) (.int .i64 s.m.c.1) (.int .u64 (s.m.c.2.1 : Int)) (.slice y.m.c.A y.m.c.s y.m.c.c) (.int .u64 (m.clock : Int)) (.int .u64 (m.b.1 : Int)) (.slice z.b.eA z.b.n z.b.ec) (.slice z.b.gA z.b.g z.b.gc) (.int .i64 m.c.1) (.int .u64 (m.c.2.1 : Int)) (.slice z.c.A z.c.s z.c.c) (.int .u64 (u.1 : Int)) (.int .u64 (u.2.1 : Int)) (.int .u64 (u.2.2 : Int))) (.step 0 false (.step 1 false (.step 2 false (.step 3 false (.step 4 false (.step 5 true (.step 6 true (.step 7 false (.step 8 false (.step 9 true (.step 10 false (.nil)))))))))))) hS (by kernel_rfl) (by kernel_rfl) (by rfl) (by kernel_rfl) ?_
   generalize w5.drew = wv at *
   iterate 5 (refine zae rfl (by rfl) (v := ?_) ?_ ?_; rotate_left 1; (rintro W ⟨hW0, hW1⟩; go_simp <;> with_reducible rfl); simp only [pA, pB, pC, Act.put, pD, pE, pF])
   clear hS
   refine zad rfl (by rfl) (fun K hK => ?_)
   go_simp
   refine (HUR.out wv).mono ?_
   rintro e w6 ⟨v, rfl, hown, hb⟩
   obtain ⟨A6, c6, rfl, hc6, hr6⟩ := zbk hown
   replace hR0 := hR0.later hb
   replace hR1 := hR1.later hb
   replace hR2 := hR2.later hb
   replace hR10 := hR10.later hb
   replace hy := hy.keep hb
   replace hz := hz.keep hb
   replace hB := zaa hB hb
   refine hK.out _ _ (zfB hR0 hR10 hR1) ?_
   clear hK K hb hown HUR
   (try simp only [pA, pB, pC, Act.put, pD, pE, pF])
   refine zad rfl (by rfl) (fun K hK => ?_)
   go_simp
   have HKE := Lib.hid (zhq y s z m (zcz u clock floor) 41 A6 c6 w6 hy hz (Lib.hid (by rfl)) hr6 hc6 (by omega) HLIM.out HRM.out HTN.out (Lib.hid (HKT.out _ hB)))
   rw [HP.out] at HKE
   unfold aggS aggM at HKE
   have hlt2 := hR2.lt
   refine HKE.out.mono ?_
   rintro e w7 ⟨q, rfl, hq, hqo, hb⟩
   have hqo2 : OffS 0 (w.heap.size + 3) q := hqo 0 _ (by omega) hyo hzo2
   replace hR0 := hR0.later hb
   replace hR1 := hR1.later hb
   replace hR2 := hR2.later hb
   replace hR10 := hR10.later hb
   replace hB := zaa hB hb
   refine hK.out _ _ (zfB hR0 hR10 hR1) ?_
   clear hK K hb HKE hqo hr6
   obtain ⟨s', er⟩ := P
   dsimp only at hq ⊢
   unfold aggS
   (try simp only [pA, pB, pC, Act.put, pD, pE, pF])
   iterate 2 (refine zae rfl (by rfl) (v := ?_) ?_ ?_; rotate_left 1; (rintro W ⟨hW0, hW1⟩; go_simp <;> with_reducible rfl); simp only [pA, pB, pC, Act.put, pD, pE, pF])
   refine zad rfl (by rfl) (fun K hK => ?_)
   refine Row.wp_store 39 (.tmp 8) (.tmp 38) (by rfl) (by rfl) (lS q s') (by rfl) hR2 (by exact zaf) rfl (zan q s') ?_
   have hO := (Only.refl (w.heap.size + 2) w7).setRow (lS q s').toArray
   refine hK.out _ _ (zfB (hR0.only hO (by omega)) (hR10.only hO (by omega)) (hR1.only hO (by omega))) ?_
   clear hK K
   (try simp only [pA, pB, pC, Act.put, pD, pE, pF])
   iterate 1 (refine zae rfl (by rfl) (v := ?_) ?_ ?_; rotate_left 1; (rintro W ⟨hW0, hW1⟩; go_simp <;> with_reducible rfl); simp only [pA, pB, pC, Act.put, pD, pE, pF])
   refine zal ?_
   go_wp2_with fail
   refine bodyPost_ret (zag (p := 8) (u := 9) (ty := 39) (by rfl) _ _ (w.heap.size + 2) 39 _ _ (by rfl) (by exact hR2.setRow _) Tryz.underlying39 (by rfl) (by exact zaf)) (by rfl) ?_
   exact ⟨q, rfl, hq.at_only hO hqo2 (Nat.zero_le _) (by omega), hqo2.mono (Nat.le_refl _) (by omega), below_setRow hB (by omega) _⟩
  ·have HP := Lib.hid (HNO.out HRI.out he)
   clear HNO HYES HTR HLM HUR HRI
   have hz1 : (er == 0) = false := beq_eq_false_iff_ne.2 he
   have hz2 : (er != 0) = true := by rw [bne, hz1]; rfl
   go_wp2_with (first
    | (refine zac rfl 39 (.tmp 4) rfl (w.heap.size) 0 rfl _ _ (hR0) ((lS y s)) (by rfl) _ Tryz.underlying39 rfl (by exact zaf) ?_)
    | (refine zab rfl 39 (.tmp 8) (.tmp 29) rfl (w.heap.size + 2) rfl ((lS y s)) rfl _ _ (hR2) (by exact zaf) rfl (zan y s) ?_))
   refine bodyPost_ret (zag (p := 8) (u := 9) (ty := 39) (by rfl) _ _ (w.heap.size + 2) 39 _ _ (by rfl) (by exact hR2.setRow _) Tryz.underlying39 (by rfl) (by exact zaf)) (by rfl) ?_
   have hO := (Only.refl (w.heap.size + 2) w5).setRow (lS y s).toArray
   rw [← HP.out]
   exact ⟨y, rfl, hy.at_only hO hyo (Nat.zero_le _) (by omega), hyo.mono (Nat.le_refl _) (by omega), below_setRow hB (by omega) _⟩
def inS (g2 g3 : Nat) (b0 b1 b2 b3 b4 b5 b6 c0 c1 c2 : Value) (W : World) : Prop := W.cell? ⟨g2, 9, none⟩ = some b0 ∧ (W.cell? ⟨g2, 10, none⟩ = some b1 ∧ (W.cell? ⟨g2, 11, none⟩ = some b2 ∧ (W.cell? ⟨g2, 12, none⟩ = some b3 ∧ (W.cell? ⟨g2, 13, none⟩ = some b4 ∧ (W.cell? ⟨g2, 14, none⟩ = some b5 ∧ (W.cell? ⟨g2, 15, none⟩ = some b6 ∧ (W.cell? ⟨g3, 0, none⟩ = some c0 ∧ (W.cell? ⟨g3, 1, none⟩ = some c1 ∧ (W.cell? ⟨g3, 2, none⟩ = some c2)))))))))
theorem zdG {g2 g3 : Nat} {t2 t3 : TypeId} {a0 a1 a2 a3 a4 a5 a6 a7 a8 a9 a10 a11 a12 a13 a14 a15 c0 c1 c2 : Value} {W : World} (h2 : Row W g2 t2 [a0, a1, a2, a3, a4, a5, a6, a7, a8, a9, a10, a11, a12, a13, a14, a15]) (h3 : Row W g3 t3 [c0, c1, c2]) : inS g2 g3 a9 a10 a11 a12 a13 a14 a15 c0 c1 c2 W := ⟨h2.cell rfl, h2.cell rfl, h2.cell rfl, h2.cell rfl, h2.cell rfl, h2.cell rfl, h2.cell rfl, h3.cell rfl, h3.cell rfl, h3.cell rfl⟩
theorem zlP {f : List UInt8 → List UInt8} {s : ShK} {b : Bn} (h : ¬ (zav f s ∧ zaJ b.2.1 b.2.2 = true)) : zaD f s b = (s, 1) := by
 unfold zaD
 rw [if_pos h]
theorem znR {f : List UInt8 → List UInt8} {s : ShK} {b : Bn} (h : zav f s ∧ zaJ b.2.1 b.2.2 = true) (h2 : b.1 ≤ s.m.b.1) : zaD f s b = (s, 13) := by
 unfold zaD
 rw [if_neg (not_not_intro h), if_pos h2]
theorem zlQ {f : List UInt8 → List UInt8} {s : ShK} {b : Bn} (h : zav f s ∧ zaJ b.2.1 b.2.2 = true) (h2 : s.m.b.1 < b.1) : zaD f s b = zb5 f s { s.m with b := b } (zdF b) := by
 unfold zaD
 rw [if_neg (not_not_intro h), if_neg (by omega)]
theorem zh3 {x : WM} {m : MemK} {y : WB} {b : Bn} {e : Ending} (h : (b.1 ≤ m.b.1 ∧ e = .returned (.tuple #[aggM x m, .int .i64 13])) ∨ (m.b.1 < b.1 ∧ e = .returned (.tuple #[aggM ⟨y, x.c⟩ { m with b := b }, .int .i64 0]))) :
  ∃ z m' er, e = .returned (.tuple #[aggM z m', .int .i64 er]) ∧ ((b.1 ≤ m.b.1 ∧ er = 13 ∧ m' = m ∧ z = x) ∨ (m.b.1 < b.1 ∧ er = 0 ∧ m' = { m with b := b } ∧ z = ⟨y, x.c⟩)) := by
 rcases h with ⟨h1, rfl⟩ | ⟨h1, rfl⟩
 ·exact ⟨_, _, _, rfl, .inl ⟨h1, rfl, rfl, rfl⟩⟩
 ·exact ⟨_, _, _, rfl, .inr ⟨h1, rfl, rfl, rfl⟩⟩
def CutI (w wr : World) (s : ShK) (b : Bn) (vp ve : Value) (wc : World) : Prop := ∃ g6 z m' er, vp = .pointer (some ⟨g6, 0, none⟩) ∧ ve = .int .i64 er ∧ Row wc g6 37 (lM z m') ∧ InM wc z m' ∧ OffM 0 (w.heap.size + 3) z ∧ wr.heap.size ≤ g6 ∧
 Hid ((b.1 ≤ s.m.b.1 ∧ er = 13 ∧ m' = s.m) ∨ (s.m.b.1 < b.1 ∧ er = 0 ∧ m' = { s.m with b := b })) ∧ Below wr.heap.size wr wc
theorem zcc [Inhabited Tab] (x : WS) (s : ShK) (xb : WB) (b : Bn) (w : World) (h : InS w x s) (hbn : InB w xb b) (hn0 : x.d.n0 ≤ 1000000000) (hn1 : x.d.n1 ≤ 1000000000) (hnum : s.num < 18446744073709551616) (hfu : s.d.fuse ≤ 9223372036854775807) (hke : s.d.keep ≤ 9223372036854775807) (HK : Hid (KTab w)) :
  Calls Tryz.prog 22 #[aggS x s, zdY xb b] w (RetX w (zaD fS s b).1 (zaD fS s b).2) := by
 obtain ⟨hR0, hR1, hR2, hB⟩ := za8 w 39 32 39 (lS x s) [.int .u64 (b.1 : Int), .slice xb.eA xb.n xb.ec, .slice xb.gA xb.g xb.gc] l0S _ _ _ rfl rfl rfl
 obtain ⟨P, hP⟩ : ∃ P, zaD fS s b = P := ⟨_, rfl⟩
 have HOW := Lib.hid (fun W (hb : Below w.heap.size w W) => zfx x s W (h.keep hb) (by omega) (by omega))
 have HL0 := Lib.hid h.id.l0
 have HL1 := Lib.hid h.id.l1
 have HRT := Lib.hid (fun (y : WS) W (hb : Below w.heap.size w W) (hy : InS W y s) => zdE y s W hy (by rw [← hy.id.l0, HL0.out]; exact hn0) (by rw [← hy.id.l1, HL1.out]; exact hn1) hnum (Lib.hid (HK.out.keep hb)))
 have hrb := fun W (hb : Below w.heap.size w W) => zee b.1 xb.es b.2.2 xb.n xb.ec xb.g xb.gc xb.eA xb.gA W hbn.ne hbn.ng (hbn.re.keep hb) (hbn.rg.keep hb) hbn.fit.2.2 (by have := hbn.ln; omega) (by have := hbn.lg; omega) (fun e he => by have := hbn.ls e he; omega)
 rw [hbn.con] at hrb
 have HRB := Lib.hid hrb
 have HOB0 := Lib.hid (fun W (hb : Below w.heap.size w W) => zeY xb b W (hbn.keep hb))
 have HBR := Lib.hid (fun (hr : zaJ b.2.1 b.2.2 = true) W (hb : Below w.heap.size w W) => zlu xb b W (hbn.keep hb) hr)
 have HKT := Lib.hid (fun W (hb : Below w.heap.size w W) => HK.out.keep hb)
 have HARG := Lib.hid (fun hh => (zlP (f := fS) (s := s) (b := b) hh).symm.trans hP)
 have HNO := Lib.hid (fun hh h2 => (znR (f := fS) (s := s) (b := b) hh h2).symm.trans hP)
 have HYES := Lib.hid (fun hh h2 => (zlQ (f := fS) (s := s) (b := b) hh h2).symm.trans hP)
 have HTR : Hid (zav fS s ∧ zaJ b.2.1 b.2.2 = true → zaX { s.m with b := b } = true) := fun hr => zaU.2 ⟨hr.2, (zaU.1 (zgD hr.1)).2⟩
 have HLEN : Hid (zaJ b.2.1 b.2.2 = true → (zdF b).length ≤ 60000) := fun hr => by
  have := zcU hr
  show (zaL b).length + 1 ≤ _
  omega
 have HLM := Lib.hid (fun (hr : zav fS s) => zeA hr hfu hke)
 rw [hP]
 clear hP h hbn HK hn0 hn1 hfu hke hrb
 unfold aggS at HOW HRT
 unfold zdY at HOB0 HBR
 unfold aggB at HRB HOB0 HBR
 unfold aggS zdY aggB
 go_enter Tryz.func22, Tryz.ntmps22
 go_upto_region 1 with fail
 generalize ((w.alloc (.cells (lS x s).toArray 39)).alloc (.cells [.int .u64 (b.1 : Int), .slice xb.eA xb.n xb.ec, .slice xb.gA xb.g xb.gc].toArray 32)).alloc (.cells l0S.toArray 39) = W0 at hR0 hR1 hR2 hB ⊢
 go_wp2_with (refine zac rfl 39 (.tmp 2) rfl (w.heap.size) 0 rfl _ _ (hR0) ((lS x s)) (by rfl) _ Tryz.underlying39 rfl (by exact zaf) ?_)
 refine (HOW.out _ hB).mono ?_
 rintro e w1 ⟨y, rfl, hy, hyf, hb⟩
 have hlt0 := hR2.lt
 have hyo : OffS 0 (w.heap.size + 3) y := ⟨(hyf.d.off 0).mono (Nat.le_refl _) (by omega), (hyf.m.off 0).mono (Nat.le_refl _) (by omega)⟩
 replace hR0 := hR0.later hb
 replace hR1 := hR1.later hb
 replace hR2 := hR2.later hb
 replace hB := zaa hB hb
 clear hb HOW hyf
 have hO := (Only.refl w.heap.size w1).setRow (lS y s).toArray
 unfold aggS
 go_upto_region 2 with (refine zab rfl 39 (.tmp 2) (.tmp 9) rfl (w.heap.size) rfl ((lS y s)) rfl _ _ (hR0) (by exact zaf) rfl (zan y s) ?_)
 replace hR0 := hR0.setRow (lS y s)
 replace hR1 := hR1.only hO (by omega)
 replace hR2 := hR2.only hO (by omega)
 replace hy := hy.at_only hO hyo (Nat.zero_le _) (by omega)
 replace hB := below_setRow hB (Nat.le_refl _) (lS y s).toArray
 clear hO
 generalize w1.setRow w.heap.size (lS y s).toArray = w2 at hR0 hR1 hR2 hy hB ⊢
 go_wp2_with (refine zac rfl 39 (.tmp 2) rfl (w.heap.size) 0 rfl _ _ (hR0) ((lS y s)) (by rfl) _ Tryz.underlying39 rfl (by exact zaf) ?_)
 refine (HRT.out y _ hB hy).mono ?_
 rintro e w3 ⟨r, rfl, HR, hb⟩
 have hlt0 := hR2.lt
 replace hR0 := hR0.later hb
 replace hR1 := hR1.later hb
 replace hR2 := hR2.later hb
 replace hy := hy.keep hb
 replace hB := zaa hB hb
 clear hb HRT
 cases r with
 | false =>
  have HP := Lib.hid (HARG.out (fun hh => by have := HR.out.2 hh.1; cases this))
  clear HARG HNO HYES HTR HLM HOB0 HRB HBR HR
  go_wp2_with (first
   | (refine zac rfl 39 (.tmp 2) rfl (w.heap.size) 0 rfl _ _ (hR0) ((lS y s)) (by rfl) _ Tryz.underlying39 rfl (by exact zaf) ?_)
   | (refine zab rfl 39 (.tmp 4) (.tmp 18) rfl (w.heap.size + 2) rfl ((lS y s)) rfl _ _ (hR2) (by exact zaf) rfl (zan y s) ?_))
  refine bodyPost_ret (zag (p := 4) (u := 5) (ty := 39) (by rfl) _ _ (w.heap.size + 2) 39 _ _ (by rfl) (by exact hR2.setRow _) Tryz.underlying39 (by rfl) (by exact zaf)) (by rfl) ?_
  have hO := (Only.refl (w.heap.size + 2) w3).setRow (lS y s).toArray
  rw [← HP.out]
  exact ⟨y, rfl, hy.at_only hO hyo (Nat.zero_le _) (by omega), hyo.mono (Nat.le_refl _) (by omega), below_setRow hB (by omega) _⟩
 | true =>
  have HRI := Lib.hid (HR.out.1 rfl)
  clear HR
  have d0 := hR1.cell (i := 0) rfl
  have d1 := hR1.cell (i := 1) rfl
  have d2 := hR1.cell (i := 2) rfl
  obtain ⟨rb, hrb⟩ : ∃ q, zaJ b.2.1 b.2.2 = q := ⟨_, rfl⟩
  have HRBQ := Lib.hid hrb
  rw [hrb] at HRB
  clear hrb
  go_wp2_with fail
  refine (HRB.out _ hB).mono ?_
  rintro e wr ⟨rfl, hb⟩
  replace hR0 := hR0.later hb
  replace hR1 := hR1.later hb
  replace hR2 := hR2.later hb
  replace hy := hy.keep hb
  replace hB := zaa hB hb
  clear hb HRB d0 d1 d2
  cases rb with
  | false =>
   have HP := Lib.hid (HARG.out (fun hh => by have := hh.2; rw [HRBQ.out] at this; cases this))
   clear HARG HNO HYES HTR HLM HOB0 HBR HRI
   go_wp2_with (first
    | (refine zac rfl 39 (.tmp 2) rfl (w.heap.size) 0 rfl _ _ (hR0) ((lS y s)) (by rfl) _ Tryz.underlying39 rfl (by exact zaf) ?_)
    | (refine zab rfl 39 (.tmp 4) (.tmp 18) rfl (w.heap.size + 2) rfl ((lS y s)) rfl _ _ (hR2) (by exact zaf) rfl (zan y s) ?_))
   refine bodyPost_ret (zag (p := 4) (u := 5) (ty := 39) (by rfl) _ _ (w.heap.size + 2) 39 _ _ (by rfl) (by exact hR2.setRow _) Tryz.underlying39 (by rfl) (by exact zaf)) (by rfl) ?_
   have hO := (Only.refl (w.heap.size + 2) wr).setRow (lS y s).toArray
   rw [← HP.out]
   exact ⟨y, rfl, hy.at_only hO hyo (Nat.zero_le _) (by omega), hyo.mono (Nat.le_refl _) (by omega), below_setRow hB (by omega) _⟩
  | true =>
   have HOB := Lib.hid (fun W (hb : Below wr.heap.size wr W) => HOB0.out W (zaa hB hb))
   have HBR2 := Lib.hid (HBR.out HRBQ.out)
   have hlw := hR2.lt
   clear HARG HOB0 HBR
   go_upto_region 4 with fail
   go_cut [6, 7] (fun vp ve wcut => CutI w wr s b vp ve wcut)
   case first =>
    have hBd : Below wr.heap.size wr wr.drew := (Below.refl _ _).drew
    have hS : inS w.heap.size (w.heap.size + 1) (.int .u64 (s.m.clock : Int)) (.int .u64 (s.m.b.1 : Int)) (.slice y.m.b.eA y.m.b.n y.m.b.ec) (.slice y.m.b.gA y.m.b.g y.m.b.gc) (.int .i64 s.m.c.1) (.int .u64 (s.m.c.2.1 : Int)) (.slice y.m.c.A y.m.c.s y.m.c.c) (.int .u64 (b.1 : Int)) (.slice xb.eA xb.n xb.ec) (.slice xb.gA xb.g xb.gc) wr.drew := zdG (W := wr.drew) hR0 hR1
    replace hR0 := hR0.drew
    replace hR1 := hR1.drew
    have hyd := hy.im.keep ((Below.refl _ wr).drew)
    clear hR2 hB hy
    refine zah (inS w.heap.size (w.heap.size + 1) (.int .u64 (s.m.clock : Int)) (.int .u64 (s.m.b.1 : Int)) (.slice y.m.b.eA y.m.b.n y.m.b.ec) (.slice y.m.b.gA y.m.b.g y.m.b.gc) (.int .i64 s.m.c.1) (.int .u64 (s.m.c.2.1 : Int)) (.slice y.m.c.A y.m.c.s y.m.c.c) (.int .u64 (b.1 : Int)) (.slice xb.eA xb.n xb.ec) (.slice xb.gA xb.g xb.gc)) (.step 0 false (.step 1 false (.step 2 false (.fork 3 (.fork 4 (.step 5 false (.step 6 false (.step 7 false (.step 8 true (.step 9 true (.step 10 false (.nil))))))) 8 (.step 4 true (.step 5 false (.step 6 false (.step 7 false (.step 9 true (.step 10 false (.nil)))))))) 8 (.step 3 true (.step 4 true (.step 5 false (.step 6 false (.step 7 false (.step 9 true (.step 10 false (.nil)))))))))))) hS (by kernel_rfl) (by kernel_rfl) (by rfl) (by kernel_rfl) ?_
    generalize wr.drew = wv at hBd hS hR0 hR1 hyd ⊢
    iterate 3 (refine zae rfl (by rfl) (v := ?_) ?_ ?_; rotate_left 1; (rintro W ⟨hW0, hW1⟩; go_simp <;> with_reducible rfl); simp only [pA, pB, pC, Act.put, pD, pE, pF])
    clear hS
    refine zco rfl rfl (by rfl) (by rfl) (fun K hK => ?_) (fun K hK => ?_)
    ·go_simp
     refine (HOB.out wv hBd).mono ?_
     rintro e wa ⟨yb, rfl, hyb, hybf, -, -, hb⟩
     have hszwa := hBd.size
     replace hR0 := hR0.later hb
     replace hR1 := hR1.later hb
     replace hyd := hyd.keep hb
     replace hBd := zaa hBd hb
     refine hK.out _ _ (zdG hR0 hR1) ?_
     clear hK K
     (try simp only [pA, pB, pC, Act.put, pD, pE, pF])
     clear hb
     refine zco rfl rfl (by rfl) (by rfl) (fun K hK => ?_) (fun K hK => ?_)
     ·go_simp
      have HIN := Lib.hid (zcJ y.m s.m yb b wa hyd hyb)
      unfold aggM zdY aggB at HIN
      refine HIN.out.mono ?_
      rintro e wb ⟨hii, hb⟩
      clear HIN
      obtain ⟨z, m', er, rfl, hzc⟩ := zh3 (x := y.m) (m := s.m) (y := yb) (b := b) hii
      unfold aggM
      clear hii
      replace hR0 := hR0.later hb
      replace hR1 := hR1.later hb
      replace hyd := hyd.keep hb
      replace hyb := hyb.keep hb
      have hsbwb := hb.size
      replace hBd := zaa hBd hb
      refine hK.out _ _ (zdG hR0 hR1) ?_
      clear hK K
      (try simp only [pA, pB, pC, Act.put, pD, pE, pF])
      iterate 3 (refine zae rfl (by rfl) (v := ?_) ?_ ?_; rotate_left 1; (rintro W ⟨hW0, hW1⟩; go_simp <;> with_reducible rfl); simp only [pA, pB, pC, Act.put, pD, pE, pF])
      refine zad rfl (by rfl) (fun K hK => ?_)
      go_simp
      obtain ⟨hR6, hB6⟩ := zat wb 37 l0M _ rfl
      have hge : wr.heap.size ≤ wb.heap.size := hBd.size
      replace hR0 := hR0.later hB6
      replace hR1 := hR1.later hB6
      have hyg : OffM wb.heap.size (wb.heap.size + 1) y.m := hyd.off _
      have hybg : OffB wb.heap.size (wb.heap.size + 1) yb := hyb.off _
      replace hyd := hyd.keep hB6
      replace hyb := hyb.keep hB6
      replace hBd := zaa hBd hB6
      refine hK.out _ _ (zdG hR0 hR1) ?_
      clear hK K hB6
      generalize wb.alloc (.cells l0M.toArray 37) = wc at *
      generalize hge6 : wb.heap.size = g6 at *
      clear hge6
      (try simp only [pA, pB, pC, Act.put, pD, pE, pF])
      refine zad rfl (by rfl) (fun K hK => ?_)
      refine Row.wp_store 37 (.tmp 6) (.tmp 25) (by rfl) (by rfl) (lM z m') (by rfl) hR6 (by exact zai) rfl (zaq z m') ?_
      have hzi : InM wc z m' := by
       rcases hzc with ⟨_, _, rfl, rfl⟩ | ⟨_, _, rfl, rfl⟩
       ·exact hyd
       ·exact ⟨hyd.fc, hyb, hyd.ic⟩
      have hzg : OffM g6 (g6 + 1) z := by
       rcases hzc with ⟨_, _, rfl, rfl⟩ | ⟨_, _, rfl, rfl⟩
       ·exact hyg
       ·exact ⟨hybg, hyg.c⟩
      have hzo : OffM 0 (w.heap.size + 3) z := by
       rcases hzc with ⟨_, _, rfl, rfl⟩ | ⟨_, _, rfl, rfl⟩
       ·exact hyo.m
       ·exact ⟨(hybf.off 0).mono (Nat.le_refl _) (by omega), hyo.m.c⟩
      have hcs : (b.1 ≤ s.m.b.1 ∧ er = 13 ∧ m' = s.m) ∨ (s.m.b.1 < b.1 ∧ er = 0 ∧ m' = { s.m with b := b }) := by
       rcases hzc with ⟨h1, h2, h3, h4⟩ | ⟨h1, h2, h3, h4⟩
       ·exact .inl ⟨h1, h2, h3⟩
       ·exact .inr ⟨h1, h2, h3⟩
      have hO := (Only.refl g6 wc).setRow (lM z m').toArray
      refine hK.out _ _ (zdG (hR0.only hO (by omega)) (hR1.only hO (by omega))) ?_
      have HREL : Hid (CutI w wr s b (.pointer (some ⟨g6, 0, none⟩)) (.int .i64 er) (wc.setRow g6 (lM z m').toArray)) := ⟨g6, z, m', er, rfl, rfl, hR6.setRow _, hzi.at_only hO hzg (Nat.le_refl _) (Nat.lt_succ_self _), hzo, by omega, Lib.hid hcs, below_setRow hBd (by omega) _⟩
      clear hK K hzc hyd hyb hybf
      (try simp only [pA, pB, pC, Act.put, pD, pE, pF])
      iterate 1 (refine zae rfl (by rfl) (v := ?_) ?_ ?_; rotate_left 1; (rintro W ⟨hW0, hW1⟩; go_simp <;> with_reducible rfl); simp only [pA, pB, pC, Act.put, pD, pE, pF])
      refine zal ?_
      go_wp2_with fail
      go_meet
      case rel => exact HREL.out
     ·go_simp
      obtain ⟨hR6, hB6⟩ := zat wa 37 l0M _ rfl
      have hge : wr.heap.size ≤ wa.heap.size := hBd.size
      replace hR0 := hR0.later hB6
      replace hR1 := hR1.later hB6
      have hyg : OffM wa.heap.size (wa.heap.size + 1) y.m := hyd.off _
      have hybg : OffB wa.heap.size (wa.heap.size + 1) yb := hyb.off _
      replace hyd := hyd.keep hB6
      replace hyb := hyb.keep hB6
      replace hBd := zaa hBd hB6
      refine hK.out _ _ (zdG hR0 hR1) ?_
      clear hK K hB6
      generalize wa.alloc (.cells l0M.toArray 37) = wb at *
      generalize hge6 : wa.heap.size = g6 at *
      clear hge6
      (try simp only [pA, pB, pC, Act.put, pD, pE, pF])
      refine zad rfl (by rfl) (fun K hK => ?_)
      go_simp
      have HIN := Lib.hid (zcJ y.m s.m yb b wb hyd hyb)
      unfold aggM zdY aggB at HIN
      refine HIN.out.mono ?_
      rintro e wc ⟨hii, hb⟩
      clear HIN
      obtain ⟨z, m', er, rfl, hzc⟩ := zh3 (x := y.m) (m := s.m) (y := yb) (b := b) hii
      unfold aggM
      clear hii
      replace hR0 := hR0.later hb
      replace hR1 := hR1.later hb
      replace hyd := hyd.keep hb
      replace hyb := hyb.keep hb
      have hsbwc := hb.size
      replace hBd := zaa hBd hb
      refine hK.out _ _ (zdG hR0 hR1) ?_
      clear hK K
      (try simp only [pA, pB, pC, Act.put, pD, pE, pF])
      replace hR6 := hR6.later hb
      iterate 3 (refine zae rfl (by rfl) (v := ?_) ?_ ?_; rotate_left 1; (rintro W ⟨hW0, hW1⟩; go_simp <;> with_reducible rfl); simp only [pA, pB, pC, Act.put, pD, pE, pF])
      refine zad rfl (by rfl) (fun K hK => ?_)
      refine Row.wp_store 37 (.tmp 6) (.tmp 25) (by rfl) (by rfl) (lM z m') (by rfl) hR6 (by exact zai) rfl (zaq z m') ?_
      have hzi : InM wc z m' := by
       rcases hzc with ⟨_, _, rfl, rfl⟩ | ⟨_, _, rfl, rfl⟩
       ·exact hyd
       ·exact ⟨hyd.fc, hyb, hyd.ic⟩
      have hzg : OffM g6 (g6 + 1) z := by
       rcases hzc with ⟨_, _, rfl, rfl⟩ | ⟨_, _, rfl, rfl⟩
       ·exact hyg
       ·exact ⟨hybg, hyg.c⟩
      have hzo : OffM 0 (w.heap.size + 3) z := by
       rcases hzc with ⟨_, _, rfl, rfl⟩ | ⟨_, _, rfl, rfl⟩
       ·exact hyo.m
       ·exact ⟨(hybf.off 0).mono (Nat.le_refl _) (by omega), hyo.m.c⟩
      have hcs : (b.1 ≤ s.m.b.1 ∧ er = 13 ∧ m' = s.m) ∨ (s.m.b.1 < b.1 ∧ er = 0 ∧ m' = { s.m with b := b }) := by
       rcases hzc with ⟨h1, h2, h3, h4⟩ | ⟨h1, h2, h3, h4⟩
       ·exact .inl ⟨h1, h2, h3⟩
       ·exact .inr ⟨h1, h2, h3⟩
      have hO := (Only.refl g6 wc).setRow (lM z m').toArray
      refine hK.out _ _ (zdG (hR0.only hO (by omega)) (hR1.only hO (by omega))) ?_
      have HREL : Hid (CutI w wr s b (.pointer (some ⟨g6, 0, none⟩)) (.int .i64 er) (wc.setRow g6 (lM z m').toArray)) := ⟨g6, z, m', er, rfl, rfl, hR6.setRow _, hzi.at_only hO hzg (Nat.le_refl _) (Nat.lt_succ_self _), hzo, by omega, Lib.hid hcs, below_setRow hBd (by omega) _⟩
      clear hK K hzc hyd hyb hybf
      (try simp only [pA, pB, pC, Act.put, pD, pE, pF])
      iterate 1 (refine zae rfl (by rfl) (v := ?_) ?_ ?_; rotate_left 1; (rintro W ⟨hW0, hW1⟩; go_simp <;> with_reducible rfl); simp only [pA, pB, pC, Act.put, pD, pE, pF])
      refine zal ?_
      go_wp2_with fail
      go_meet
      case rel => exact HREL.out
    ·go_simp
     obtain ⟨hR6, hB6⟩ := zat wv 37 l0M _ rfl
     have hge : wr.heap.size ≤ wv.heap.size := hBd.size
     replace hR0 := hR0.later hB6
     replace hR1 := hR1.later hB6
     have hyg : OffM wv.heap.size (wv.heap.size + 1) y.m := hyd.off _
     replace hyd := hyd.keep hB6
     replace hBd := zaa hBd hB6
     refine hK.out _ _ (zdG hR0 hR1) ?_
     clear hK K hB6
     generalize wv.alloc (.cells l0M.toArray 37) = wa at *
     generalize hge6 : wv.heap.size = g6 at *
     clear hge6
     (try simp only [pA, pB, pC, Act.put, pD, pE, pF])
     refine zad rfl (by rfl) (fun K hK => ?_)
     go_simp
     have hlw := hR6.lt
     refine (HOB.out wa hBd).mono ?_
     rintro e wb ⟨yb, rfl, hyb, hybf, -, -, hb⟩
     have hszwb := hBd.size
     replace hR0 := hR0.later hb
     replace hR1 := hR1.later hb
     replace hyd := hyd.keep hb
     replace hBd := zaa hBd hb
     refine hK.out _ _ (zdG hR0 hR1) ?_
     clear hK K
     (try simp only [pA, pB, pC, Act.put, pD, pE, pF])
     replace hR6 := hR6.later hb
     have hybg : OffB g6 (g6 + 1) yb := (hybf.off g6).mono (Nat.le_refl _) (by omega)
     clear hb
     refine zad rfl (by rfl) (fun K hK => ?_)
     go_simp
     have HIN := Lib.hid (zcJ y.m s.m yb b wb hyd hyb)
     unfold aggM zdY aggB at HIN
     refine HIN.out.mono ?_
     rintro e wc ⟨hii, hb⟩
     clear HIN
     obtain ⟨z, m', er, rfl, hzc⟩ := zh3 (x := y.m) (m := s.m) (y := yb) (b := b) hii
     unfold aggM
     clear hii
     replace hR0 := hR0.later hb
     replace hR1 := hR1.later hb
     replace hyd := hyd.keep hb
     replace hyb := hyb.keep hb
     have hsbwc := hb.size
     replace hBd := zaa hBd hb
     refine hK.out _ _ (zdG hR0 hR1) ?_
     clear hK K
     (try simp only [pA, pB, pC, Act.put, pD, pE, pF])
     replace hR6 := hR6.later hb
     iterate 3 (refine zae rfl (by rfl) (v := ?_) ?_ ?_; rotate_left 1; (rintro W ⟨hW0, hW1⟩; go_simp <;> with_reducible rfl); simp only [pA, pB, pC, Act.put, pD, pE, pF])
     refine zad rfl (by rfl) (fun K hK => ?_)
     refine Row.wp_store 37 (.tmp 6) (.tmp 25) (by rfl) (by rfl) (lM z m') (by rfl) hR6 (by exact zai) rfl (zaq z m') ?_
     have hzi : InM wc z m' := by
      rcases hzc with ⟨_, _, rfl, rfl⟩ | ⟨_, _, rfl, rfl⟩
      ·exact hyd
      ·exact ⟨hyd.fc, hyb, hyd.ic⟩
     have hzg : OffM g6 (g6 + 1) z := by
      rcases hzc with ⟨_, _, rfl, rfl⟩ | ⟨_, _, rfl, rfl⟩
      ·exact hyg
      ·exact ⟨hybg, hyg.c⟩
     have hzo : OffM 0 (w.heap.size + 3) z := by
      rcases hzc with ⟨_, _, rfl, rfl⟩ | ⟨_, _, rfl, rfl⟩
      ·exact hyo.m
      ·exact ⟨(hybf.off 0).mono (Nat.le_refl _) (by omega), hyo.m.c⟩
     have hcs : (b.1 ≤ s.m.b.1 ∧ er = 13 ∧ m' = s.m) ∨ (s.m.b.1 < b.1 ∧ er = 0 ∧ m' = { s.m with b := b }) := by
      rcases hzc with ⟨h1, h2, h3, h4⟩ | ⟨h1, h2, h3, h4⟩
      ·exact .inl ⟨h1, h2, h3⟩
      ·exact .inr ⟨h1, h2, h3⟩
     have hO := (Only.refl g6 wc).setRow (lM z m').toArray
     refine hK.out _ _ (zdG (hR0.only hO (by omega)) (hR1.only hO (by omega))) ?_
     have HREL : Hid (CutI w wr s b (.pointer (some ⟨g6, 0, none⟩)) (.int .i64 er) (wc.setRow g6 (lM z m').toArray)) := ⟨g6, z, m', er, rfl, rfl, hR6.setRow _, hzi.at_only hO hzg (Nat.le_refl _) (Nat.lt_succ_self _), hzo, by omega, Lib.hid hcs, below_setRow hBd (by omega) _⟩
     clear hK K hzc hyd hyb hybf
     (try simp only [pA, pB, pC, Act.put, pD, pE, pF])
     iterate 1 (refine zae rfl (by rfl) (v := ?_) ?_ ?_; rotate_left 1; (rintro W ⟨hW0, hW1⟩; go_simp <;> with_reducible rfl); simp only [pA, pB, pC, Act.put, pD, pE, pF])
     refine zal ?_
     go_wp2_with fail
     go_meet
     case rel => exact HREL.out
   case rest =>
    rename World => wx
    obtain ⟨g6, z, m, er, rfl, rfl, hR6, hz, hzo, hg6, HC, hb⟩ := hcut
    replace hR0 := hR0.later hb
    replace hR1 := hR1.later hb
    replace hR2 := hR2.later hb
    replace hy := hy.keep hb
    replace hB := zaa hB hb
    have hg62 : w.heap.size + 2 < g6 := by omega
    clear hb HOB hg6
    by_cases hv : s.m.b.1 < b.1
    ·obtain ⟨e1, e2⟩ : er = 0 ∧ m = { s.m with b := b } := by
      rcases HC.out with ⟨h1, _⟩ | ⟨_, h2, h3⟩
      ·omega
      ·exact ⟨h2, h3⟩
     subst e1
     have HP := Lib.hid (HYES.out ⟨HRI.out, HRBQ.out⟩ hv)
     have HRM := Lib.hid (HTR.out ⟨HRI.out, HRBQ.out⟩)
     rw [← e2] at HP HRM
     have HLIM := Lib.hid (HLM.out HRI.out)
     have HTN : Hid (s.turn = 0 ∨ s.turn = 1) := HRI.out.2.2.1
     have HLEN2 := Lib.hid (HLEN.out HRBQ.out)
     clear HNO HYES HTR HLM HRI e2 hv HC HLEN
     go_upto_region 7 with fail
     have hS : tkS w.heap.size g6 (w.heap.size + 1) (.slice y.d.A0 y.d.n0 y.d.c0) (.int .i64 s.d.a0.s) (.slice y.d.A1 y.d.n1 y.d.c1) (.int .i64 s.d.a1.s) (.int .i64 s.d.fuse) (.int .i64 s.d.keep) (.bool s.d.down) (.int .i64 s.turn) (.int .u64 (s.num : Int)) (.int .u64 (s.m.clock : Int)) (.int .u64 (s.m.b.1 : Int)) (.slice y.m.b.eA y.m.b.n y.m.b.ec) (.slice y.m.b.gA y.m.b.g y.m.b.gc) (.int .i64 s.m.c.1) (.int .u64 (s.m.c.2.1 : Int)) (.slice y.m.c.A y.m.c.s y.m.c.c) (.int .u64 (m.clock : Int)) (.int .u64 (m.b.1 : Int)) (.slice z.b.eA z.b.n z.b.ec) (.slice z.b.gA z.b.g z.b.gc) (.int .i64 m.c.1) (.int .u64 (m.c.2.1 : Int)) (.slice z.c.A z.c.s z.c.c) (.int .u64 (b.1 : Int)) (.slice xb.eA xb.n xb.ec) (.slice xb.gA xb.g xb.gc) wx.drew := zfB (W := wx.drew) hR0 hR6 hR1
     replace hR0 := hR0.drew
     replace hR1 := hR1.drew
     replace hR2 := hR2.drew
     replace hR6 := hR6.drew
     replace hy := hy.keep ((Below.refl _ wx).drew)
     replace hz := hz.keep ((Below.refl _ wx).drew)
     replace hB := hB.drew
     refine zah (tkS w.heap.size g6 (w.heap.size + 1) (.slice y.d.A0 y.d.n0 y.d.c0) (.int .i64 s.d.a0.s) (.slice y.d.A1 y.d.n1 y.d.c1) (.int .i64 s.d.a1.s) (.int .i64 s.d.fuse) (.int .i64 s.d.keep) (.bool s.d.down) (.int .i64 s.turn) (.int .u64 (s.num : Int)) (.int .u64 (s.m.clock : Int)) (.int .u64 (s.m.b.1 : Int)) (.slice y.m.b.eA y.m.b.n y.m.b.ec) (.slice y.m.b.gA y.m.b.g y.m.b.gc) (.int .i64 s.m.c.1) (.int .u64 (s.m.c.2.1 : Int)) (.slice y.m.c.A y.m.c.s y.m.c.c) (.int .u64 (m.clock : Int)) (.int .u64 (m.b.1 : Int)) (.slice z.b.eA z.b.n z.b.ec) (.slice z.b.gA z.b.g z.b.gc) (.int .i64 m.c.1) (.int .u64 (m.c.2.1 : Int)) (.slice z.c.A z.c.s z.c.c) (.int .u64 (b.1 : Int)) (.slice xb.eA xb.n xb.ec) (.slice xb.gA xb.g xb.gc)) (.step 0 false (.step 1 false (.step 2 false (.step 3 true (.step 4 true (.step 5 false (.step 6 false (.step 7 true (.step 8 false (.nil)))))))))) hS (by kernel_rfl) (by kernel_rfl) (by rfl) (by kernel_rfl) ?_
     generalize wx.drew = wv at *
     iterate 3 (refine zae rfl (by rfl) (v := ?_) ?_ ?_; rotate_left 1; (rintro W ⟨hW0, hW1⟩; go_simp <;> with_reducible rfl); simp only [pA, pB, pC, Act.put, pD, pE, pF])
     clear hS
     refine zad rfl (by rfl) (fun K hK => ?_)
     go_simp
     refine (HBR2.out wv hB).mono ?_
     rintro e w6 ⟨v, rfl, hown, hb⟩
     obtain ⟨A6, c6, rfl, hc6, hr6⟩ := zbk hown
     replace hR0 := hR0.later hb
     replace hR1 := hR1.later hb
     replace hR2 := hR2.later hb
     replace hR6 := hR6.later hb
     replace hy := hy.keep hb
     replace hz := hz.keep hb
     replace hB := zaa hB hb
     refine hK.out _ _ (zfB hR0 hR6 hR1) ?_
     clear hK K hb hown HBR2
     (try simp only [pA, pB, pC, Act.put, pD, pE, pF])
     refine zad rfl (by rfl) (fun K hK => ?_)
     go_simp
     have HKE := Lib.hid (zhq y s z m (zdF b) _ A6 c6 w6 hy hz (Lib.hid rfl) hr6 hc6 HLEN2.out HLIM.out HRM.out HTN.out (Lib.hid (HKT.out _ hB)))
     rw [HP.out] at HKE
     unfold aggS aggM at HKE
     have hlt2 := hR2.lt
     refine HKE.out.mono ?_
     rintro e w7 ⟨q, rfl, hq, hqo, hb⟩
     have hqo2 : OffS 0 (w.heap.size + 3) q := hqo 0 _ (by omega) hyo hzo
     replace hR0 := hR0.later hb
     replace hR1 := hR1.later hb
     replace hR2 := hR2.later hb
     replace hR6 := hR6.later hb
     replace hB := zaa hB hb
     refine hK.out _ _ (zfB hR0 hR6 hR1) ?_
     clear hK K hb HKE hqo hr6
     obtain ⟨s', er⟩ := P
     dsimp only at hq ⊢
     unfold aggS
     (try simp only [pA, pB, pC, Act.put, pD, pE, pF])
     iterate 2 (refine zae rfl (by rfl) (v := ?_) ?_ ?_; rotate_left 1; (rintro W ⟨hW0, hW1⟩; go_simp <;> with_reducible rfl); simp only [pA, pB, pC, Act.put, pD, pE, pF])
     refine zad rfl (by rfl) (fun K hK => ?_)
     refine Row.wp_store 39 (.tmp 4) (.tmp 36) (by rfl) (by rfl) (lS q s') (by rfl) hR2 (by exact zaf) rfl (zan q s') ?_
     have hO := (Only.refl (w.heap.size + 2) w7).setRow (lS q s').toArray
     refine hK.out _ _ (zfB (hR0.only hO (by omega)) (hR6.only hO (by omega)) (hR1.only hO (by omega))) ?_
     clear hK K
     (try simp only [pA, pB, pC, Act.put, pD, pE, pF])
     iterate 1 (refine zae rfl (by rfl) (v := ?_) ?_ ?_; rotate_left 1; (rintro W ⟨hW0, hW1⟩; go_simp <;> with_reducible rfl); simp only [pA, pB, pC, Act.put, pD, pE, pF])
     refine zal ?_
     go_wp2_with fail
     refine bodyPost_ret (zag (p := 4) (u := 5) (ty := 39) (by rfl) _ _ (w.heap.size + 2) 39 _ _ (by rfl) (by exact hR2.setRow _) Tryz.underlying39 (by rfl) (by exact zaf)) (by rfl) ?_
     exact ⟨q, rfl, hq.at_only hO hqo2 (Nat.zero_le _) (by omega), hqo2.mono (Nat.le_refl _) (by omega), below_setRow hB (by omega) _⟩
    ·have e1 : er = 13 := by
      rcases HC.out with ⟨_, h2, _⟩ | ⟨h1, _⟩
      ·exact h2
      ·exact absurd h1 hv
     subst e1
     have HP := Lib.hid (HNO.out ⟨HRI.out, HRBQ.out⟩ (by omega))
     clear HNO HYES HTR HLM HRI HBR2 HC hv
     go_wp2_with (first
      | (refine zac rfl 39 (.tmp 2) rfl (w.heap.size) 0 rfl _ _ (hR0) ((lS y s)) (by rfl) _ Tryz.underlying39 rfl (by exact zaf) ?_)
      | (refine zab rfl 39 (.tmp 4) (.tmp 29) rfl (w.heap.size + 2) rfl ((lS y s)) rfl _ _ (hR2) (by exact zaf) rfl (zan y s) ?_))
     refine bodyPost_ret (zag (p := 4) (u := 5) (ty := 39) (by rfl) _ _ (w.heap.size + 2) 39 _ _ (by rfl) (by exact hR2.setRow _) Tryz.underlying39 (by rfl) (by exact zaf)) (by rfl) ?_
     have hO := (Only.refl (w.heap.size + 2) wx).setRow (lS y s).toArray
     rw [← HP.out]
     exact ⟨y, rfl, hy.at_only hO hyo (Nat.zero_le _) (by omega), hyo.mono (Nat.le_refl _) (by omega), below_setRow hB (by omega) _⟩
theorem znS (v v' : Nat) (es es' : List ED) (gs gs' : List Gn) (n ec m gc n' ec' m' gc' : Nat) (eA gA eA' gA' : Option Addr) (w : World) (HN : Hid (es.length = n)) (HM : Hid (gs.length = m)) (HN' : Hid (es'.length = n')) (HM' : Hid (gs'.length = m')) (hre : RdE w eA es) (hoe : okD w es) (hrg : RdG w gA gs) (hre' : RdE w eA' es') (hoe' : okD w es') (hrg' : RdG w gA' gs') (hn : n ≤ 1000000000) (hm : m ≤ 1000000000) :
  Calls Tryz.prog 56 #[aggB v eA n ec gA m gc, aggB v' eA' n' ec' gA' m' gc'] w fun e₁ w' => e₁ = .returned (.bool (decide ((v, conE es, gs) = (v', conE es', gs')))) ∧ Below w.heap.size w w' := by
 obtain ⟨P, hP⟩ : ∃ P, decide ((v, conE es, gs) = (v', conE es', gs')) = P := ⟨_, rfl⟩
 rw [hP]
 have HP := Lib.hid hP
 clear hP
 have hR0 : Row (w.alloc (.cells #[.int .u64 (v : Int), .slice eA n ec, .slice gA m gc] 32)) w.heap.size 32 [.int .u64 (v : Int), .slice eA n ec, .slice gA m gc] := Row.new w _ _ _ rfl
 have hR1 : Row ((w.alloc (.cells #[.int .u64 (v : Int), .slice eA n ec, .slice gA m gc] 32)).alloc (.cells #[.int .u64 (v' : Int), .slice eA' n' ec', .slice gA' m' gc'] 32)) (w.heap.size + 1) 32 [.int .u64 (v' : Int), .slice eA' n' ec', .slice gA' m' gc'] := Row.new_at _ _ (by simp) _ _ _ rfl
 replace hR0 := hR0.alloc (.cells #[.int .u64 (v' : Int), .slice eA' n' ec', .slice gA' m' gc'] 32)
 have hB : Below w.heap.size w ((w.alloc (.cells #[.int .u64 (v : Int), .slice eA n ec, .slice gA m gc] 32)).alloc (.cells #[.int .u64 (v' : Int), .slice eA' n' ec', .slice gA' m' gc'] 32)) := zak (zak (Below.refl _ _) _) _
 unfold aggB
 go_enter Tryz.func56, Tryz.ntmps56
 go_upto_region 1 with fail
 generalize (w.alloc (.cells #[.int .u64 (v : Int), .slice eA n ec, .slice gA m gc] 32)).alloc (.cells #[.int .u64 (v' : Int), .slice eA' n' ec', .slice gA' m' gc'] 32) = w3 at hR0 hR1 hB ⊢
 have c0 : w3.cell? ⟨w.heap.size, 0, none⟩ = some (.int .u64 (v : Int)) := hR0.cell rfl
 have c1 : w3.cell? ⟨w.heap.size, 1, none⟩ = some (.slice eA n ec) := hR0.cell rfl
 have c2 : w3.cell? ⟨w.heap.size, 2, none⟩ = some (.slice gA m gc) := hR0.cell rfl
 have d0 : w3.cell? ⟨w.heap.size + 1, 0, none⟩ = some (.int .u64 (v' : Int)) := hR1.cell rfl
 have d1 : w3.cell? ⟨w.heap.size + 1, 1, none⟩ = some (.slice eA' n' ec') := hR1.cell rfl
 have d2 : w3.cell? ⟨w.heap.size + 1, 2, none⟩ = some (.slice gA' m' gc') := hR1.cell rfl
 have HB := Lib.hid hB
 clear hB
 by_cases h1 : v = v'
 ·subst h1
  by_cases h2 : n = n'
  ·subst h2
   go_wp2_with fail
   refine (zle gs gs' m m' gc gc' gA gA' _ HM HM' (hrg.keep HB.out) (hrg'.keep HB.out) hm).mono ?_
   rintro e₁ w4 ⟨rfl, hb4⟩
   have HB4 := Lib.hid (zaa HB.out hb4)
   have hR04 := hR0.later hb4
   have hR14 := hR1.later hb4
   have hre4 := hre.keep HB4.out
   have hre4' := hre'.keep HB4.out
   have hoe4 := hoe.keep HB4.out
   have hoe4' := hoe'.keep HB4.out
   clear c0 c1 c2 d0 d1 d2 hb4
   by_cases h3 : gs = gs'
   ·rw [decide_eq_true h3]
    have HPE : Hid (P = decide (conE es = conE es')) := by
     unfold Hid
     rw [← HP.out, h3]
     simp
    go_wp2_with fail
    go_loopw [5] (fun i wr => (∃ j : Nat, i = .int .i64 (j : Int) ∧ j ≤ n ∧ (conE es).take j = (conE es').take j) ∧ Below w4.heap.size w4 wr) (fun i _ => n - (intOf i).toNat)
    case atStart => exact ⟨⟨0, rfl, by omega, by simp⟩, Below.refl _ _⟩
    case round =>
     obtain ⟨⟨j, rfl, hj, htk⟩, hB⟩ := hrel
     have HB5 := Lib.hid (zaa HB4.out hB)
     have hR05 := hR04.later hB
     have hR15 := hR14.later hB
     by_cases hlt : j < n
     ·have hjl : j < es.length := by rw [HN.out]; exact hlt
      have hjm : j < es'.length := by rw [HN'.out]; exact hlt
      obtain ⟨b, o, rfl, hb, hrng, p0, p1, p2⟩ := hre4.one hjl
      obtain ⟨b2, o2, rfl, hb2, hrng2, q0, q1, q2⟩ := hre4'.one hjm
      replace p0 := (hB.cell (p := ⟨b, o + j * 3, none⟩) hb).trans p0
      replace p1 := (hB.cell (p := ⟨b, o + j * 3 + 1, none⟩) hb).trans p1
      replace p2 := (hB.cell (p := ⟨b, o + j * 3 + 2, none⟩) hb).trans p2
      replace q0 := (hB.cell (p := ⟨b2, o2 + j * 3, none⟩) hb2).trans q0
      replace q1 := (hB.cell (p := ⟨b2, o2 + j * 3 + 1, none⟩) hb2).trans q1
      replace q2 := (hB.cell (p := ⟨b2, o2 + j * 3 + 2, none⟩) hb2).trans q2
      have hx := (hoe4 _ (List.getElem_mem hjl)).keep hB
      have hy := (hoe4' _ (List.getElem_mem hjm)).keep hB
      have HT : Hid (es[j].con = es'[j].con → (conE es).take (j + 1) = (conE es').take (j + 1)) := fun h => by
       rw [List.take_succ_eq_append_getElem (by rw [zaF]; exact hjl), List.take_succ_eq_append_getElem (by rw [zaF]; exact hjm), htk, zcj es j hjl, zcj es' j hjm, h]
      have HI : Hid (¬ es[j].con = es'[j].con → decide (conE es = conE es') = false) := fun h => by
       rw [decide_eq_false_iff_not]
       intro e
       have h1 := zcj es j hjl
       have h2 := zcj es' j hjm
       simp only [e] at h1
       exact h (h1.symm.trans h2)
      generalize es[j] = x at p0 p1 p2 hx HT HI
      generalize es'[j] = y at q0 q1 q2 hy HT HI
      obtain ⟨xt, xe, xA, xc, xs⟩ := x
      obtain ⟨yt, ye, yA, yc, ys⟩ := y
      obtain ⟨_, hxr⟩ := hx
      obtain ⟨_, hyr⟩ := hy
      unfold ED.con at HT HI
      unfold ED.at2 at p2 q2
      unfold vNG at p0 p1 q0 q1
      dsimp only at p0 p1 p2 q0 q1 q2 hxr hyr HT HI
      have e0 : ∀ W, Below wr.heap.size wr W → W.cell? ⟨b, o + j * 3, none⟩ = some (.int .u64 (xt : Int)) := fun W hW => (hW.cell (p := ⟨b, o + j * 3, none⟩) (World.block_lt_of_cell? wr _ p0)).trans p0
      have e1 : ∀ W, Below wr.heap.size wr W → W.cell? ⟨b, o + j * 3 + 1, none⟩ = some (.int .u64 (xe : Int)) := fun W hW => (hW.cell (p := ⟨b, o + j * 3 + 1, none⟩) (World.block_lt_of_cell? wr _ p1)).trans p1
      have e2 : ∀ W, Below wr.heap.size wr W → W.cell? ⟨b, o + j * 3 + 2, none⟩ = some (.slice xA xs.length xc) := fun W hW => (hW.cell (p := ⟨b, o + j * 3 + 2, none⟩) (World.block_lt_of_cell? wr _ p2)).trans p2
      have f0 : ∀ W, Below wr.heap.size wr W → W.cell? ⟨b2, o2 + j * 3, none⟩ = some (.int .u64 (yt : Int)) := fun W hW => (hW.cell (p := ⟨b2, o2 + j * 3, none⟩) (World.block_lt_of_cell? wr _ q0)).trans q0
      have f1 : ∀ W, Below wr.heap.size wr W → W.cell? ⟨b2, o2 + j * 3 + 1, none⟩ = some (.int .u64 (ye : Int)) := fun W hW => (hW.cell (p := ⟨b2, o2 + j * 3 + 1, none⟩) (World.block_lt_of_cell? wr _ q1)).trans q1
      have f2 : ∀ W, Below wr.heap.size wr W → W.cell? ⟨b2, o2 + j * 3 + 2, none⟩ = some (.slice yA ys.length yc) := fun W hW => (hW.cell (p := ⟨b2, o2 + j * 3 + 2, none⟩) (World.block_lt_of_cell? wr _ q2)).trans q2
      have c1w : wr.cell? ⟨w.heap.size, 1, none⟩ = some (.slice (some ⟨b, o, none⟩) n ec) := hR05.cell rfl
      have c1 : ∀ W, Below wr.heap.size wr W → W.cell? ⟨w.heap.size, 1, none⟩ = some (.slice (some ⟨b, o, none⟩) n ec) := fun W hW => (hR05.later hW).cell rfl
      have d1 : ∀ W, Below wr.heap.size wr W → W.cell? ⟨w.heap.size + 1, 1, none⟩ = some (.slice (some ⟨b2, o2, none⟩) n ec') := fun W hW => (hR15.later hW).cell rfl
      have i2 : (0 : Int) ≤ (j : Int) := by omega
      have i3 : (j : Int) < (n : Int) := by omega
      have HXR := Lib.hid hxr
      have HYR := Lib.hid hyr
      have HBr := Lib.hid hB
      generalize hxl : xs.length = xl at e2
      generalize hyl : ys.length = yl at f2
      have HXL := Lib.hid hxl
      have HYL := Lib.hid hyl
      clear hB htk p0 p1 p2 q0 q1 q2 hrng hrng2 hxr hyr hxl hyl hR04 hR14 hR05 hR15 hre4 hre4' hoe4 hoe4'
      go_wp2_with fail
      have hBase := (Below.refl wr.heap.size wr).drew
      refine zaw (.step 0 false (.step 1 false (.step 2 false (.step 3 false (.step 4 false (.step 5 false (.step 6 false (.step 7 false (.step 8 false (.step 9 false (.step 10 true (.step 11 false (.nil))))))))))))) (by kernel_rfl) (by kernel_rfl) (by rfl) (by kernel_rfl) ?_
      iterate 10 (refine zae rfl (by rfl) (v := ?_) ?_ ?_; rotate_left 1; (intro W hW; have hW0 := zaa hBase hW; (try dsimp only at hW); go_simp <;> with_reducible rfl); simp only [List.getElem_toArray, List.getElem_cons_zero, List.getElem_cons_succ, Act.put, List.setIfInBounds_toArray, List.set_cons_zero, List.set_cons_succ])
      (refine zaI rfl (by rfl) (fun K hK => ?_); go_simp; (refine (zhS xt xe yt ye xs ys xl xc yl yc xA yA _ HXL HYL (HXR.out.keep hBase) (HYR.out.keep hBase)).mono ?_; rintro e₁ w5 ⟨rfl, hbx⟩); refine hK.out _ _ hbx ?_; clear hK K; replace hBase := zaa hBase hbx)
      have HB6 := Lib.hid (zaa HBr.out hBase)
      have HB7 := Lib.hid (zaa HB4.out HB6.out)
      by_cases hxy : (xt, xe, xs) = (yt, ye, ys)
      ·rw [decide_eq_true hxy]
       have HT2 := Lib.hid (HT.out hxy)
       clear hxy
       iterate 1 (refine zae rfl (by rfl) (v := ?_) ?_ ?_; rotate_left 1; (intro W hW; have hW0 := zaa hBase hW; (try dsimp only at hW); go_simp <;> with_reducible rfl); simp only [List.getElem_toArray, List.getElem_cons_zero, List.getElem_cons_succ, Act.put, List.setIfInBounds_toArray, List.set_cons_zero, List.set_cons_succ])
       refine zal ?_
       clear c1 c1w d1 e0 e1 e2 f0 f1 f2
       go_wp2_with fail
       go_roundw
       case rel => exact ⟨⟨j + 1, by go_num, by omega, HT2.out⟩, HB6.out⟩
       case measure => simp [intOf]; omega
      ·rw [decide_eq_false hxy]
       have HH : Hid (P = false) := HPE.out.trans (HI.out hxy)
       clear hxy
       iterate 1 (refine zae rfl (by rfl) (v := ?_) ?_ ?_; rotate_left 1; (intro W hW; have hW0 := zaa hBase hW; (try dsimp only at hW); go_simp <;> with_reducible rfl); simp only [List.getElem_toArray, List.getElem_cons_zero, List.getElem_cons_succ, Act.put, List.setIfInBounds_toArray, List.set_cons_zero, List.set_cons_succ])
       refine zal ?_
       clear c1 c1w d1 e0 e1 e2 f0 f1 f2
       go_wp2_with fail
       go_ret
       exact ⟨by rw [HH.out]; rfl, HB7.out⟩
     ·have HH : Hid (P = true) := by
       unfold Hid
       rw [HPE.out, decide_eq_true_iff]
       have : j = n := by omega
       subst this
       have h1 := List.take_of_length_le (l := conE es) (i := j) (by rw [zaF, HN.out]; exact Nat.le_refl _)
       have h2 := List.take_of_length_le (l := conE es') (i := j) (by rw [zaF, HN'.out]; exact Nat.le_refl _)
       rw [← h1, ← h2, htk]
      have j1 : ¬ (j : Int) < (n : Int) := by omega
      have c1w : wr.cell? ⟨w.heap.size, 1, none⟩ = some (.slice eA n ec) := hR05.cell rfl
      clear hB htk
      go_wp2_with fail
      go_ret
      exact ⟨by rw [HH.out]; rfl, HB5.out⟩
   ·rw [decide_eq_false h3]
    have HPF : Hid (P = false) := by unfold Hid; rw [← HP.out]; simp [h3]
    go_wp2_with fail
    go_ret
    exact ⟨by rw [HPF.out]; rfl, HB4.out⟩
  ·have HPF : Hid (P = false) := by
    unfold Hid
    rw [← HP.out, decide_eq_false_iff_not]
    intro e
    injection e with _ e
    injection e with e _
    have := congrArg List.length e
    rw [zaF, zaF, HN.out, HN'.out] at this
    exact h2 this
   have hne : ((n : Int) != (n' : Int)) = true := by simp; omega
   have hnd : (n != n') = true := by simp; omega
   go_wp2_with fail
   go_ret
   exact ⟨by rw [HPF.out]; rfl, HB.out⟩
 ·have HPF : Hid (P = false) := by unfold Hid; rw [← HP.out]; simp [h1]
  have hne : ((v : Int) != (v' : Int)) = true := by simp; omega
  have hnd : (v != v') = true := by simp; omega
  go_wp2_with fail
  go_ret
  exact ⟨by rw [HPF.out]; rfl, HB.out⟩
end Go.Proofs.YteljklkgdejhpaaGreatDoor
