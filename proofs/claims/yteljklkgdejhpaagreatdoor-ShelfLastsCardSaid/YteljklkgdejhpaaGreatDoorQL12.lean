/-
  What the program's only and Has of layer 20 answer (landed code). Condition: the package's table holds the sixty-four constants.
-/
import Derived.Test.YteljklkgdejhpaaGreatDoorQL11
set_option linter.unusedSimpArgs false
set_option linter.unusedVariables false
set_option maxRecDepth 100000
set_option maxHeartbeats 16000000
namespace Go.Proofs.YteljklkgdejhpaaGreatDoor
open Go.RowKit
structure OffD (lo hi : Nat) (x : WD) : Prop where
 a : x.n0 ≠ 0 → ∀ a, x.A0 = some a → a.block < lo ∨ hi ≤ a.block
 b : x.n1 ≠ 0 → ∀ a, x.A1 = some a → a.block < lo ∨ hi ≤ a.block
structure OffS (lo hi : Nat) (x : WS) : Prop where
 d : OffD lo hi x.d
 m : OffM lo hi x.m
section
variable {lo hi lo' hi' : Nat} {w W : World}
theorem OffD.mono {x : WD} (h : OffD lo hi x) (hl : lo ≤ lo') (hh : hi' ≤ hi) : OffD lo' hi' x := ⟨fun h0 a ha => by have := h.a h0 a ha; omega, fun h0 a ha => by have := h.b h0 a ha; omega⟩
theorem OffS.mono {x : WS} (h : OffS lo hi x) (hl : lo ≤ lo') (hh : hi' ≤ hi) : OffS lo' hi' x := ⟨h.d.mono hl hh, h.m.mono hl hh⟩
theorem FreshD.off {B : Nat} {x : WD} (h : FreshD B x) (lo : Nat) : OffD lo B x := ⟨fun _ a ha => .inr (h.1 a ha), fun _ a ha => .inr (h.2 a ha)⟩
theorem InD.off {x : WD} {D : DK} (h : InD w x D) (hi : Nat) : OffD w.heap.size hi x :=
 ⟨fun h0 a ha => .inl (h.r0.off (by intro e; exact h0 (by rw [← h.l0, e]; rfl)) a ha), fun h0 a ha => .inl (h.r1.off (by intro e; exact h0 (by rw [← h.l1, e]; rfl)) a ha)⟩
theorem InS.off {x : WS} {s : ShK} (h : InS w x s) (hi : Nat) : OffS w.heap.size hi x := ⟨h.id.off hi, h.im.off hi⟩
theorem InD.agree {x : WD} {D : DK} (h : InD w x D) (k : Agree lo hi w W) (ho : OffD lo hi x) : InD W x D :=
 ⟨h.l0, h.h0, h.r0.agree k (fun hn => ho.a (by rw [← h.l0]; intro e; exact hn (List.eq_nil_of_length_eq_zero e))), h.l1, h.h1, h.r1.agree k (fun hn => ho.b (by rw [← h.l1]; intro e; exact hn (List.eq_nil_of_length_eq_zero e)))⟩
theorem InS.agree {x : WS} {s : ShK} (h : InS w x s) (k : Agree lo hi w W) (ho : OffS lo hi x) : InS W x s := ⟨h.id.agree k ho.d, h.im.agree k ho.m⟩
theorem InS.at_only {g : Nat} {x : WS} {s : ShK} (h : InS w x s) (k : Only g w W) (ho : OffS lo hi x) (hl : lo ≤ g) (hh : g < hi) : InS W x s := h.agree (Agree.of_only k hl hh) ho
theorem InD.at_only {g : Nat} {x : WD} {D : DK} (h : InD w x D) (k : Only g w W) (ho : OffD lo hi x) (hl : lo ≤ g) (hh : g < hi) : InD W x D := h.agree (Agree.of_only k hl hh) ho
end
def RetX (w : World) (s : ShK) (er : Int) (e : Ending) (w' : World) : Prop := ∃ x, e = .returned (.tuple #[aggS x s, .int .i64 er]) ∧ InS w' x s ∧ OffS 0 w.heap.size x ∧ Below w.heap.size w w'
theorem zkM (x : WD) (D : DK) (w : World) (h : InD w x D) (hn0 : x.n0 ≤ 70368744177664) (hn1 : x.n1 ≤ 70368744177664) :
  Calls Tryz.prog 30 #[aggD x D] w fun e w' => ∃ y, e = .returned (aggS ⟨y, zbj⟩ (zbG D)) ∧ InD w' y D ∧ FreshD w.heap.size y ∧ Below w.heap.size w w' := by
 obtain ⟨hR0, hR1, hB⟩ := zaB w 27 39 (lD x D) l0S _ _ rfl rfl
 have HOW := Lib.hid (fun W (hb : Below w.heap.size w W) => zeM x D W (h.keep hb) hn0 hn1)
 unfold aggD at HOW
 clear h
 unfold aggD
 go_enter Tryz.func30, Tryz.ntmps30
 go_upto_region 1 with fail
 generalize (w.alloc (.cells (lD x D).toArray 27)).alloc (.cells l0S.toArray 39) = W0 at hR0 hR1 hB ⊢
 have hlt := hR1.lt
 go_wp2_with (refine zac rfl 27 (.tmp 1) rfl (w.heap.size) 0 rfl _ _ (hR0) ((lD x D)) (by rfl) _ Tryz.underlying27 rfl (by exact zaj) ?_)
 refine (HOW.out _ hB).mono ?_
 rintro e w1 ⟨y, rfl, h20, h21, h22, h23, h24, h25, -, hb⟩
 obtain ⟨hyb, hyf⟩ := zko (x := y) (D := D) h24 h25
 unfold aggD
 replace hR1 := hR1.later hb
 replace hB := zaa hB hb
 clear h20 h21 h22 h23 h24 h25 hb HOW hR0
 go_wp2_with (refine zab rfl 39 (.tmp 2) (.tmp 5) rfl (w.heap.size + 1) rfl ([.slice y.A0 y.n0 y.c0, .int .i64 D.a0.s, .slice y.A1 y.n1 y.c1, .int .i64 D.a1.s, .int .i64 D.fuse, .int .i64 D.keep, .bool D.down, .int .i64 0, .int .u64 0, .int .u64 0, .int .u64 0, .slice none 0 0, .slice none 0 0, .int .i64 0, .int .u64 0, .slice none 0 0]) rfl _ _ (hR1) (by exact zaf) rfl (zan ⟨y, zbj⟩ (zbG D)) ?_)
 refine bodyPost_ret (results_cell_row (p := 2) (ty := 39) (by rfl) _ _ (w.heap.size + 1) 39 _ (0, 0) _ (by rfl) (by exact hR1.setRow _) Tryz.underlying39 (by rfl) (by exact zaf)) (by rfl) ?_
 have hO := (Only.refl (w.heap.size + 1) w1).setRow [.slice y.A0 y.n0 y.c0, .int .i64 D.a0.s, .slice y.A1 y.n1 y.c1, .int .i64 D.a1.s, .int .i64 D.fuse, .int .i64 D.keep, .bool D.down, .int .i64 0, .int .u64 0, .int .u64 0, .int .u64 0, .slice none 0 0, .slice none 0 0, .int .i64 0, .int .u64 0, .slice none 0 0].toArray
 exact ⟨y, rfl, hyb.only hO (hyf.mono (by omega)), hyf.mono (by omega), below_setRow hB (by omega) _⟩
def hasS (f : List UInt8 → List UInt8) (D : DK) : ShK × Int := match hasK f D with
 | none => (zbG D, 7)
 | some x => (⟨D, (x.1 : Int), x.2.1, x.2.2.1⟩, 0)
theorem zi4 {f : List UInt8 → List UInt8} {D : DK} (h : hasK f D = none) : hasS f D = (zbG D, 7) := by unfold hasS; rw [h]
theorem zi5 {f : List UInt8 → List UInt8} {D : DK} {k n z : Nat} {m : MemK} (h : hasK f D = some (k, n, m, z)) : hasS f D = (⟨D, (k : Int), n, m⟩, 0) := by unfold hasS; rw [h]
def hel8 (g : Nat) (b c d e f h i j : Value) (W : World) : Prop := W.cell? ⟨g, 1, none⟩ = some b ∧ (W.cell? ⟨g, 2, none⟩ = some c ∧ (W.cell? ⟨g, 3, none⟩ = some d ∧ (W.cell? ⟨g, 4, none⟩ = some e ∧ (W.cell? ⟨g, 5, none⟩ = some f ∧ (W.cell? ⟨g, 6, none⟩ = some h ∧ (W.cell? ⟨g, 7, none⟩ = some i ∧ W.cell? ⟨g, 8, none⟩ = some j))))))
theorem zfn {g : Nat} {t : TypeId} {a b c d e f h i j k : Value} {W : World} (hX : Row W g t [a, b, c, d, e, f, h, i, j, k]) : hel8 g b c d e f h i j W := ⟨hX.cell rfl, hX.cell rfl, hX.cell rfl, hX.cell rfl, hX.cell rfl, hX.cell rfl, hX.cell rfl, hX.cell rfl⟩
theorem zpF [Inhabited Tab] (x : WD) (D : DK) (w : World) (h : InD w x D) (hn0 : x.n0 ≤ 1000000000) (hn1 : x.n1 ≤ 1000000000) (HK : Hid (KTab w)) :
  Calls Tryz.prog 10 #[aggD x D] w (RetX w (hasS fS D).1 (hasS fS D).2) := by
 obtain ⟨hR0, hR1, hB⟩ := zaB w 27 39 (lD x D) l0S _ _ rfl rfl
 have HON := Lib.hid (fun W (hb : Below w.heap.size w W) => zkM x D W (h.keep hb) (by omega) (by omega))
 have HNW := Lib.hid (fun W (hb : Below w.heap.size w W) => zho x D W (h.keep hb) hn0 hn1 (Lib.hid (HK.out.keep hb)))
 unfold aggD at HON HNW
 clear h
 unfold aggD
 go_enter Tryz.func10, Tryz.ntmps10
 go_upto_region 1 with fail
 generalize (w.alloc (.cells (lD x D).toArray 27)).alloc (.cells l0S.toArray 39) = W0 at hR0 hR1 hB ⊢
 have hlt := hR1.lt
 go_wp2_with (refine zac rfl 27 (.tmp 1) rfl (w.heap.size) 0 rfl _ _ (hR0) ((lD x D)) (by rfl) _ Tryz.underlying27 rfl (by exact zaj) ?_)
 refine (HON.out _ hB).mono ?_
 rintro e w1 ⟨y, rfl, hy, hyf, hb⟩
 unfold aggS zbG zcu zbj zcC zeX
 dsimp only
 replace hR0 := hR0.later hb
 replace hR1 := hR1.later hb
 replace hB := zaa hB hb
 have hs1 := hb.size
 obtain ⟨hR4, hB4⟩ := zat w1 39 l0S _ rfl
 clear hb HON
 go_upto_region 2 with (refine zab rfl 39 (.tmp 4) (.tmp 8) rfl (w1.heap.size) rfl ([.slice y.A0 y.n0 y.c0, .int .i64 D.a0.s, .slice y.A1 y.n1 y.c1, .int .i64 D.a1.s, .int .i64 D.fuse, .int .i64 D.keep, .bool D.down, .int .i64 0, .int .u64 0, .int .u64 0, .int .u64 0, .slice none 0 0, .slice none 0 0, .int .i64 0, .int .u64 0, .slice none 0 0]) rfl _ _ (hR4) (by exact zaf) rfl (zan ⟨y, zbj⟩ (zbG D)) ?_)
 have hR42 := hR4.setRow [.slice y.A0 y.n0 y.c0, .int .i64 D.a0.s, .slice y.A1 y.n1 y.c1, .int .i64 D.a1.s, .int .i64 D.fuse, .int .i64 D.keep, .bool D.down, .int .i64 0, .int .u64 0, .int .u64 0, .int .u64 0, .slice none 0 0, .slice none 0 0, .int .i64 0, .int .u64 0, .slice none 0 0]
 have hbn := below_setRow hB4 (Nat.le_refl _) [.slice y.A0 y.n0 y.c0, .int .i64 D.a0.s, .slice y.A1 y.n1 y.c1, .int .i64 D.a1.s, .int .i64 D.fuse, .int .i64 D.keep, .bool D.down, .int .i64 0, .int .u64 0, .int .u64 0, .int .u64 0, .slice none 0 0, .slice none 0 0, .int .i64 0, .int .u64 0, .slice none 0 0].toArray
 clear hR4 hB4
 generalize (w1.alloc (.cells l0S.toArray 39)).setRow w1.heap.size [.slice y.A0 y.n0 y.c0, .int .i64 D.a0.s, .slice y.A1 y.n1 y.c1, .int .i64 D.a1.s, .int .i64 D.fuse, .int .i64 D.keep, .bool D.down, .int .i64 0, .int .u64 0, .int .u64 0, .int .u64 0, .slice none 0 0, .slice none 0 0, .int .i64 0, .int .u64 0, .slice none 0 0].toArray = w2 at hR42 hbn ⊢
 replace hR0 := hR0.later hbn
 replace hR1 := hR1.later hbn
 have hyg : OffD w1.heap.size (w1.heap.size + 1) y := hy.off _
 replace hy := hy.keep hbn
 replace hB := zaa hB hbn
 clear hbn
 have hg4 : w.heap.size + 1 < w1.heap.size := by omega
 generalize w1.heap.size = g4 at hR42 hg4 hyg ⊢
 go_wp2_with (refine zac rfl 27 (.tmp 1) rfl (w.heap.size) 0 rfl _ _ (hR0) ((lD x D)) (by rfl) _ Tryz.underlying27 rfl (by exact zaj) ?_)
 refine (HNW.out _ hB).mono ?_
 rintro e w3 ⟨t, s, num, xm, m, a, rfl, hI, ho, hnum, ht, hs0, hs1', hb⟩
 have hl4 := hR42.lt
 replace hR1 := hR1.later hb
 replace hR42 := hR42.later hb
 replace hy := hy.keep hb
 replace hB := zaa hB hb
 have hs3 := hb.size
 obtain ⟨hR6, hB6⟩ := zat w3 79 [.bool false, .int .u64 0, .int .u64 0, .int .u64 0, .slice none 0 0, .slice none 0 0, .int .i64 0, .int .u64 0, .slice none 0 0, .bool false] _ rfl
 clear hb HNW hR0
 go_upto_region 3 with (refine zab rfl 79 (.tmp 6) (.tmp 13) rfl (w3.heap.size) rfl ([.bool s, .int .u64 (num : Int), .int .u64 (m.clock : Int), .int .u64 (m.b.1 : Int), .slice xm.b.eA xm.b.n xm.b.ec, .slice xm.b.gA xm.b.g xm.b.gc, .int .i64 m.c.1, .int .u64 (m.c.2.1 : Int), .slice xm.c.A xm.c.s xm.c.c, .bool a]) rfl _ _ (hR6) (by exact zaG) rfl (zbQ s num xm m a) ?_)
 have hR62 := hR6.setRow [.bool s, .int .u64 (num : Int), .int .u64 (m.clock : Int), .int .u64 (m.b.1 : Int), .slice xm.b.eA xm.b.n xm.b.ec, .slice xm.b.gA xm.b.g xm.b.gc, .int .i64 m.c.1, .int .u64 (m.c.2.1 : Int), .slice xm.c.A xm.c.s xm.c.c, .bool a]
 have hbn := below_setRow hB6 (Nat.le_refl _) [.bool s, .int .u64 (num : Int), .int .u64 (m.clock : Int), .int .u64 (m.b.1 : Int), .slice xm.b.eA xm.b.n xm.b.ec, .slice xm.b.gA xm.b.g xm.b.gc, .int .i64 m.c.1, .int .u64 (m.c.2.1 : Int), .slice xm.c.A xm.c.s xm.c.c, .bool a].toArray
 clear hR6 hB6
 generalize (w3.alloc (.cells #[.bool false, .int .u64 0, .int .u64 0, .int .u64 0, .slice none 0 0, .slice none 0 0, .int .i64 0, .int .u64 0, .slice none 0 0, .bool false] 79)).setRow w3.heap.size [.bool s, .int .u64 (num : Int), .int .u64 (m.clock : Int), .int .u64 (m.b.1 : Int), .slice xm.b.eA xm.b.n xm.b.ec, .slice xm.b.gA xm.b.g xm.b.gc, .int .i64 m.c.1, .int .u64 (m.c.2.1 : Int), .slice xm.c.A xm.c.s xm.c.c, .bool a].toArray = w4 at hR62 hbn ⊢
 replace hR1 := hR1.later hbn
 replace hR42 := hR42.later hbn
 replace hy := hy.keep hbn
 replace hI := hI.keep hbn
 replace hB := zaa hB hbn
 clear hbn
 have hg6 : g4 < w3.heap.size := by omega
 have hog : OffM 0 (g4 + 1) xm := ho.mono (Nat.le_refl _) (by omega)
 generalize w3.heap.size = g6 at hR62 hg6 ⊢
 have k0 := hR62.cell (i := 0) rfl
 have hoy : OffD 0 w.heap.size y := (hyf.off 0).mono (Nat.le_refl _) (by omega)
 have hoy2 : OffD 0 (w.heap.size + 2) y := (hyf.off 0).mono (Nat.le_refl _) (by omega)
 cases s with
 | false =>
  have HR := Lib.hid (zi4 (hs0.out rfl))
  clear hs0 hs1'
  go_wp2_with (first
   | (refine zac rfl 39 (.tmp 4) rfl (g4) 0 rfl _ _ (hR42) ([.slice y.A0 y.n0 y.c0, .int .i64 D.a0.s, .slice y.A1 y.n1 y.c1, .int .i64 D.a1.s, .int .i64 D.fuse, .int .i64 D.keep, .bool D.down, .int .i64 0, .int .u64 0, .int .u64 0, .int .u64 0, .slice none 0 0, .slice none 0 0, .int .i64 0, .int .u64 0, .slice none 0 0]) (by rfl) _ Tryz.underlying39 rfl (by exact zaf) ?_)
   | (refine zab rfl 39 (.tmp 2) (.tmp 17) rfl (w.heap.size + 1) rfl ([.slice y.A0 y.n0 y.c0, .int .i64 D.a0.s, .slice y.A1 y.n1 y.c1, .int .i64 D.a1.s, .int .i64 D.fuse, .int .i64 D.keep, .bool D.down, .int .i64 0, .int .u64 0, .int .u64 0, .int .u64 0, .slice none 0 0, .slice none 0 0, .int .i64 0, .int .u64 0, .slice none 0 0]) rfl _ _ (hR1) (by exact zaf) rfl (zan ⟨y, zbj⟩ (zbG D)) ?_))
  refine bodyPost_ret (zag (p := 2) (u := 3) (ty := 39) (by rfl) _ _ (w.heap.size + 1) 39 _ _ (by rfl) (by exact hR1.setRow _) Tryz.underlying39 (by rfl) (by exact zaf)) (by rfl) ?_
  have hO := (Only.refl (w.heap.size + 1) w4).setRow [.slice y.A0 y.n0 y.c0, .int .i64 D.a0.s, .slice y.A1 y.n1 y.c1, .int .i64 D.a1.s, .int .i64 D.fuse, .int .i64 D.keep, .bool D.down, .int .i64 0, .int .u64 0, .int .u64 0, .int .u64 0, .slice none 0 0, .slice none 0 0, .int .i64 0, .int .u64 0, .slice none 0 0].toArray
  rw [HR.out]
  exact ⟨⟨y, zbj⟩, rfl, ⟨hy.at_only hO hoy2 (Nat.zero_le _) (by omega), zc6 _⟩, ⟨hoy, (zbB _).off 0⟩, below_setRow hB (by omega) _⟩
 | true =>
  have HR := Lib.hid (hs1'.out rfl)
  clear hs0 hs1'
  go_upto_region 5 with fail
  have hS := zfn (W := w4.drew) (show Row w4.drew g6 79 [.bool true, .int .u64 (num : Int), .int .u64 (m.clock : Int), .int .u64 (m.b.1 : Int), .slice xm.b.eA xm.b.n xm.b.ec, .slice xm.b.gA xm.b.g xm.b.gc, .int .i64 m.c.1, .int .u64 (m.c.2.1 : Int), .slice xm.c.A xm.c.s xm.c.c, .bool a] from hR62)
  have hR6' := hR62.drew
  have hR4' := hR42.drew
  have hR1' := hR1.drew
  have hB' := hB.drew
  have hy' := hy.keep ((Below.refl _ w4).drew)
  have hI' := hI.keep ((Below.refl _ w4).drew)
  refine zah (hel8 g6 (.int .u64 (num : Int)) (.int .u64 (m.clock : Int)) (.int .u64 (m.b.1 : Int)) (.slice xm.b.eA xm.b.n xm.b.ec) (.slice xm.b.gA xm.b.g xm.b.gc) (.int .i64 m.c.1) (.int .u64 (m.c.2.1 : Int)) (.slice xm.c.A xm.c.s xm.c.c)) (.step 0 false (.step 1 false (.step 2 false (.step 3 false (.step 4 false (.step 5 false (.step 6 true (.step 7 false (.step 8 true (.step 9 false (.step 10 true (.nil)))))))))))) hS (by kernel_rfl) (by kernel_rfl) (by rfl) (by kernel_rfl) ?_
  clear hR62 hR42 hR1 hB hy hI k0
  generalize w4.drew = wv at *
  iterate 6 (refine zae rfl (by rfl) (v := ?_) ?_ ?_; rotate_left 1; (rintro W ⟨hW0, hW1⟩; go_simp <;> with_reducible rfl); simp only [pA, pB, pC, Act.put, pD, pE, pF])
  have f7 := hR4'.frozen 7
  have c7 : wv.cell? ⟨g4, 7, none⟩ = some (.int .i64 0) := hR4'.cell rfl
  have hO := (Only.refl g4 wv).setCell 7 (.int .i64 t)
  have hR45 : Row (wv.setCell ⟨g4, 7, none⟩ (.int .i64 t)) g4 39 [.slice y.A0 y.n0 y.c0, .int .i64 D.a0.s, .slice y.A1 y.n1 y.c1, .int .i64 D.a1.s, .int .i64 D.fuse, .int .i64 D.keep, .bool D.down, .int .i64 t, .int .u64 0, .int .u64 0, .int .u64 0, .slice none 0 0, .slice none 0 0, .int .i64 0, .int .u64 0, .slice none 0 0] := hR4'.setCell 7 _
  have hR65 := hR6'.only hO (by omega)
  refine zad rfl (by rfl) (fun K hK => ?_)
  go_simp
  refine hK.out _ _ (zfn hR65) ?_
  clear hK K
  have hR15 := hR1'.only hO (by omega)
  have hB5 := hB'.trans (hO.below.mono (by omega))
  have hy5 := hy'.at_only hO hyg (Nat.le_refl _) (Nat.lt_succ_self _)
  have hI5 := hI'.at_only hO hog (Nat.zero_le _) (Nat.lt_succ_self _)
  clear f7 c7 hO hR4' hR6' hR1' hB' hy' hI' hS
  generalize wv.setCell ⟨g4, 7, none⟩ (.int .i64 t) = w5 at *
  have hS5 := zfn hR65
  iterate 1 (refine zae rfl (by rfl) (v := ?_) ?_ ?_; rotate_left 1; (rintro W ⟨hW0, hW1⟩; go_simp <;> with_reducible rfl); simp only [pA, pB, pC, Act.put, pD, pE, pF])
  have f8 := hR45.frozen 8
  have c8 : w5.cell? ⟨g4, 8, none⟩ = some (.int .u64 0) := hR45.cell rfl
  have hO := (Only.refl g4 w5).setCell 8 (.int .u64 (num : Int))
  have hR46 : Row (w5.setCell ⟨g4, 8, none⟩ (.int .u64 (num : Int))) g4 39 [.slice y.A0 y.n0 y.c0, .int .i64 D.a0.s, .slice y.A1 y.n1 y.c1, .int .i64 D.a1.s, .int .i64 D.fuse, .int .i64 D.keep, .bool D.down, .int .i64 t, .int .u64 (num : Int), .int .u64 0, .int .u64 0, .slice none 0 0, .slice none 0 0, .int .i64 0, .int .u64 0, .slice none 0 0] := hR45.setCell 8 _
  have hR66 := hR65.only hO (by omega)
  refine zad rfl (by rfl) (fun K hK => ?_)
  go_simp
  refine hK.out _ _ (zfn hR66) ?_
  clear hK K
  have hR16 := hR15.only hO (by omega)
  have hB6 := hB5.trans (hO.below.mono (by omega))
  have hy6 := hy5.at_only hO hyg (Nat.le_refl _) (Nat.lt_succ_self _)
  have hI6 := hI5.at_only hO hog (Nat.zero_le _) (Nat.lt_succ_self _)
  clear f8 c8 hO hR45 hR65 hR15 hB5 hy5 hI5 hS5
  generalize w5.setCell ⟨g4, 8, none⟩ (.int .u64 (num : Int)) = w6 at *
  have hS6 := zfn hR66
  iterate 1 (refine zae rfl (by rfl) (v := ?_) ?_ ?_; rotate_left 1; (rintro W ⟨hW0, hW1⟩; go_simp <;> with_reducible rfl); simp only [pA, pB, pC, Act.put, pD, pE, pF])
  refine zad rfl (by rfl) (fun K hK => ?_)
  refine wp_store_mid 37 (.tmp 25) (.tmp 22) rfl g4 9 (lM xm m).toArray rfl rfl (zaV hR46 9 7 (by simp)) (by exact zai) (by exact all_oneCell_toArray (zaq xm m)) ?_
  have hO := Only.setCells (g := g4) (lM xm m) 9 (Only.refl _ w6)
  refine hK.out _ _ (zfn (hR66.only hO (by omega))) ?_
  clear hK K
  have hR47 : Row (w6.setCells g4 9 (lM xm m)) g4 39 [.slice y.A0 y.n0 y.c0, .int .i64 D.a0.s, .slice y.A1 y.n1 y.c1, .int .i64 D.a1.s, .int .i64 D.fuse, .int .i64 D.keep, .bool D.down, .int .i64 t, .int .u64 (num : Int), .int .u64 (m.clock : Int), .int .u64 (m.b.1 : Int), .slice xm.b.eA xm.b.n xm.b.ec, .slice xm.b.gA xm.b.g xm.b.gc, .int .i64 m.c.1, .int .u64 (m.c.2.1 : Int), .slice xm.c.A xm.c.s xm.c.c] := hR46.setCells _ 9 (by simp)
  have hR17 := hR16.only hO (by omega)
  have hB7 := hB6.trans (hO.below.mono (by omega))
  have hy7 := hy6.at_only hO hyg (Nat.le_refl _) (Nat.lt_succ_self _)
  have hI7 := hI6.at_only hO hog (Nat.zero_le _) (Nat.lt_succ_self _)
  clear hO hR46 hR66 hR16 hB6 hy6 hI6 hS6
  generalize w6.setCells g4 9 (lM xm m) = w7 at *
  refine zal ?_
  go_wp2_with (first
   | (refine zac rfl 39 (.tmp 4) rfl (g4) 0 rfl _ _ (hR47) ([.slice y.A0 y.n0 y.c0, .int .i64 D.a0.s, .slice y.A1 y.n1 y.c1, .int .i64 D.a1.s, .int .i64 D.fuse, .int .i64 D.keep, .bool D.down, .int .i64 t, .int .u64 (num : Int), .int .u64 (m.clock : Int), .int .u64 (m.b.1 : Int), .slice xm.b.eA xm.b.n xm.b.ec, .slice xm.b.gA xm.b.g xm.b.gc, .int .i64 m.c.1, .int .u64 (m.c.2.1 : Int), .slice xm.c.A xm.c.s xm.c.c]) (by rfl) _ Tryz.underlying39 rfl (by exact zaf) ?_)
   | (refine zab rfl 39 (.tmp 2) (.tmp 26) rfl (w.heap.size + 1) rfl ([.slice y.A0 y.n0 y.c0, .int .i64 D.a0.s, .slice y.A1 y.n1 y.c1, .int .i64 D.a1.s, .int .i64 D.fuse, .int .i64 D.keep, .bool D.down, .int .i64 t, .int .u64 (num : Int), .int .u64 (m.clock : Int), .int .u64 (m.b.1 : Int), .slice xm.b.eA xm.b.n xm.b.ec, .slice xm.b.gA xm.b.g xm.b.gc, .int .i64 m.c.1, .int .u64 (m.c.2.1 : Int), .slice xm.c.A xm.c.s xm.c.c]) rfl _ _ (hR17) (by exact zaf) rfl (zan ⟨y, xm⟩ ⟨D, t, num, m⟩) ?_))
  refine bodyPost_ret (zag (p := 2) (u := 3) (ty := 39) (by rfl) _ _ (w.heap.size + 1) 39 _ _ (by rfl) (by exact hR17.setRow _) Tryz.underlying39 (by rfl) (by exact zaf)) (by rfl) ?_
  have hO := (Only.refl (w.heap.size + 1) w7).setRow [.slice y.A0 y.n0 y.c0, .int .i64 D.a0.s, .slice y.A1 y.n1 y.c1, .int .i64 D.a1.s, .int .i64 D.fuse, .int .i64 D.keep, .bool D.down, .int .i64 t, .int .u64 (num : Int), .int .u64 (m.clock : Int), .int .u64 (m.b.1 : Int), .slice xm.b.eA xm.b.n xm.b.ec, .slice xm.b.gA xm.b.g xm.b.gc, .int .i64 m.c.1, .int .u64 (m.c.2.1 : Int), .slice xm.c.A xm.c.s xm.c.c].toArray
  obtain ⟨z, hz, _⟩ := HR.out
  have htt : ((t.toNat : Nat) : Int) = t := by rcases ht with h | h <;> rw [h] <;> rfl
  rw [zi5 hz, htt]
  exact ⟨⟨y, xm⟩, rfl, ⟨hy7.at_only hO hoy2 (Nat.zero_le _) (by omega), hI7.at_only hO hog (Nat.zero_le _) (by omega)⟩, ⟨hoy, hog.mono (Nat.le_refl _) (by omega)⟩, below_setRow hB7 (by omega) _⟩
structure LimK (D : DK) : Prop where
 a0 : D.a0.b.length ≤ 70368744177664
 a1 : D.a1.b.length ≤ 70368744177664
 fu : D.fuse ≤ 9223372036854775807
 ke : D.keep ≤ 9223372036854775807
theorem InD.n0 {w : World} {x : WD} {D : DK} (h : InD w x D) (l : LimK D) : x.n0 ≤ 70368744177664 := by rw [← h.l0]; exact l.a0
theorem InD.n1 {w : World} {x : WD} {D : DK} (h : InD w x D) (l : LimK D) : x.n1 ≤ 70368744177664 := by rw [← h.l1]; exact l.a1
theorem zh2 {D : DK} {k : Int} {full : Nat → Bool} {goes done : Nat → AK → AK} (h : (zcW D k full goes done).2 = 0) (l : LimK D) (hd : ∀ j, full j = false → (done j (getA D j)).b.length ≤ 70368744177664) : LimK (zcW D k full goes done).1 := by
 unfold zcW at h ⊢
 split at h
 ·exact absurd h (by show ¬ (1 : Int) = 0; decide)
 ·rename_i h1
  rw [if_neg h1]
  split at h
  ·exact absurd h (by show ¬ (14 : Int) = 0; decide)
  ·rename_i h2
   rw [if_neg h2]
   split at h
   ·exact absurd h (by show ¬ (12 : Int) = 0; decide)
   ·rename_i h3
    rw [if_neg h3]
    split at h
    ·exact absurd h (by show ¬ (14 : Int) = 0; decide)
    ·rename_i h4
     rw [if_neg h4]
     have hl := hd k.toNat (by simpa using h3)
     have hfu : burn D.fuse ≤ 9223372036854775807 := by
      have := l.fu
      unfold burn
      split <;> omega
     dsimp only
     unfold setA
     split
     ·exact ⟨by rename_i hk; rw [hk] at hl; simpa [hk] using hl, l.a1, hfu, l.ke⟩
     ·rename_i hk
      exact ⟨l.a0, hl, hfu, l.ke⟩
structure Stp where
 F : Nat
 caps : Array Value
 h : DK → DK × Int
def vStp (t : Stp) : Value := .func (.func t.F) #[] t.caps
structure DoS (w : World) (t : Stp) : Prop where
 en : ∀ args W, (callFunc t.F args).run Tryz.prog W = .ok (.enter t.F args) W
 ca : ∀ (x : WD) (D : DK) (W : World), Below w.heap.size w W → InD W x D → LimK D → Calls Tryz.prog t.F (#[aggD x D] ++ t.caps) W (RetD W (t.h D).1 (t.h D).2)
 li : ∀ D, LimK D → (t.h D).2 = 0 → LimK (t.h D).1
theorem DoS.later {w w' : World} {t : Stp} (h : DoS w t) (hb : Below w.heap.size w w') : DoS w' t := ⟨h.en, fun x D W hW hi hl => h.ca x D W (zaa hb hW) hi hl, h.li⟩
def zgQ (b : Nat) (k : Int) : Stp := ⟨103, #[.pointer (some ⟨b, 0, none⟩)], fun D => zcE D k⟩
def zd3 (b : Nat) (k : Int) : Stp := ⟨108, #[.pointer (some ⟨b, 0, none⟩)], fun D => zda D k⟩
def zcs (b : Nat) (k : Int) (c : List UInt8) : Stp := ⟨105, #[.pointer (some ⟨b, 0, none⟩), .pointer (some ⟨b + 1, 0, none⟩)], fun D => zbf D k c⟩
theorem zoM {D : DK} {k : Int} (l : LimK D) (h : (zcE D k).2 = 0) : LimK (zcE D k).1 := zh2 h l (fun j _ => by show 0 ≤ _; omega)
theorem zoN {D : DK} (l : LimK D) (j : Nat) : (getA D j).b.length ≤ 70368744177664 := by
 unfold getA
 split
 ·exact l.a0
 ·exact l.a1
theorem zoO {D : DK} {k : Int} (l : LimK D) (h : (zda D k).2 = 0) : LimK (zda D k).1 := zh2 h l (fun j _ => zoN l j)
theorem znC {D : DK} {k : Int} {c : List UInt8} (l : LimK D) (h : (zbf D k c).2 = 0) : LimK (zbf D k c).1 := zh2 h l (fun j hj => by
 have := of_decide_eq_false hj
 show ((getA D j).b ++ c).length ≤ _
 rw [List.length_append]
 omega)
theorem znD (b : Nat) (k : Int) (x : WD) (D : DK) (w : World) (hc : w.cell? ⟨b, 0, none⟩ = some (.int .i64 k)) (h : InD w x D) (l : LimK D) :
  Calls Tryz.prog 103 #[aggD x D, .pointer (some ⟨b, 0, none⟩)] w (RetD w (zcE D k).1 (zcE D k).2) := by
 obtain ⟨hR0, hR1, hB⟩ := zaB w 27 27 (lD x D) l0D _ _ rfl rfl
 have HC := Lib.hid (fun W (hb : Below w.heap.size w W) => zk1 x D k W (h.keep hb) (h.n0 l) (h.n1 l) l.fu l.ke)
 unfold aggD at HC
 have hbl := World.block_lt_of_cell? w _ hc
 obtain ⟨P, hP⟩ : ∃ P, zcE D k = P := ⟨_, rfl⟩
 rw [hP] at HC ⊢
 clear h l hP
 unfold aggD
 go_enter Tryz.func103, Tryz.ntmps103
 go_upto_region 1 with fail
 have hc1 := (hB.cell (p := ⟨b, 0, none⟩) hbl).trans hc
 clear hc hbl
 generalize (w.alloc (.cells (lD x D).toArray 27)).alloc (.cells l0D.toArray 27) = W0 at hR0 hR1 hB hc1 ⊢
 go_wp2_with (refine zac rfl 27 (.tmp 2) rfl (w.heap.size) 0 rfl _ _ (hR0) ((lD x D)) (by rfl) _ Tryz.underlying27 rfl (by exact zaj) ?_)
 refine (HC.out _ hB).mono ?_
 rintro e w1 ⟨y, rfl, hy, hyf, hb⟩
 obtain ⟨D', er⟩ := P
 unfold aggD
 have hl0 := hR1.lt
 replace hR1 := hR1.later hb
 replace hB := zaa hB hb
 clear hb HC hR0 hc1
 dsimp only at hy ⊢
 go_wp2_with (refine zab rfl 27 (.tmp 3) (.tmp 8) rfl (w.heap.size + 1) rfl ((lD y D')) rfl _ _ (hR1) (by exact zaj) rfl (za7 y D') ?_)
 refine bodyPost_ret (zag (p := 3) (u := 4) (ty := 27) (by rfl) _ _ (w.heap.size + 1) 27 _ _ (by rfl) (by exact hR1.setRow _) Tryz.underlying27 (by rfl) (by exact zaj)) (by rfl) ?_
 have hO := (Only.refl (w.heap.size + 1) w1).setRow (lD y D').toArray
 exact ⟨y, rfl, hy.only hO (hyf.mono (by omega)), hyf.mono (by omega), below_setRow hB (by omega) _⟩
theorem znE (b : Nat) (k : Int) (x : WD) (D : DK) (w : World) (hc : w.cell? ⟨b, 0, none⟩ = some (.int .i64 k)) (h : InD w x D) (l : LimK D) :
  Calls Tryz.prog 108 #[aggD x D, .pointer (some ⟨b, 0, none⟩)] w (RetD w (zda D k).1 (zda D k).2) := by
 obtain ⟨hR0, hR1, hB⟩ := zaB w 27 27 (lD x D) l0D _ _ rfl rfl
 have HC := Lib.hid (fun W (hb : Below w.heap.size w W) => zk0 x D k W (h.keep hb) (h.n0 l) (h.n1 l) l.fu l.ke)
 unfold aggD at HC
 have hbl := World.block_lt_of_cell? w _ hc
 obtain ⟨P, hP⟩ : ∃ P, zda D k = P := ⟨_, rfl⟩
 rw [hP] at HC ⊢
 clear h l hP
 unfold aggD
 go_enter Tryz.func108, Tryz.ntmps108
 go_upto_region 1 with fail
 have hc1 := (hB.cell (p := ⟨b, 0, none⟩) hbl).trans hc
 clear hc hbl
 generalize (w.alloc (.cells (lD x D).toArray 27)).alloc (.cells l0D.toArray 27) = W0 at hR0 hR1 hB hc1 ⊢
 go_wp2_with (refine zac rfl 27 (.tmp 2) rfl (w.heap.size) 0 rfl _ _ (hR0) ((lD x D)) (by rfl) _ Tryz.underlying27 rfl (by exact zaj) ?_)
 refine (HC.out _ hB).mono ?_
 rintro e w1 ⟨y, rfl, hy, hyf, hb⟩
 obtain ⟨D', er⟩ := P
 unfold aggD
 have hl0 := hR1.lt
 replace hR1 := hR1.later hb
 replace hB := zaa hB hb
 clear hb HC hR0 hc1
 dsimp only at hy ⊢
 go_wp2_with (refine zab rfl 27 (.tmp 3) (.tmp 8) rfl (w.heap.size + 1) rfl ((lD y D')) rfl _ _ (hR1) (by exact zaj) rfl (za7 y D') ?_)
 refine bodyPost_ret (zag (p := 3) (u := 4) (ty := 27) (by rfl) _ _ (w.heap.size + 1) 27 _ _ (by rfl) (by exact hR1.setRow _) Tryz.underlying27 (by rfl) (by exact zaj)) (by rfl) ?_
 have hO := (Only.refl (w.heap.size + 1) w1).setRow (lD y D').toArray
 exact ⟨y, rfl, hy.only hO (hyf.mono (by omega)), hyf.mono (by omega), below_setRow hB (by omega) _⟩
theorem zlL (b : Nat) (k : Int) (c : List UInt8) (C : Option Addr) (n d : Nat) (x : WD) (D : DK) (w : World) (hc : w.cell? ⟨b, 0, none⟩ = some (.int .i64 k)) (hc2 : w.cell? ⟨b + 1, 0, none⟩ = some (.slice C n d)) (HL : Hid (c.length = n)) (hnd : n ≤ d) (hr : Rd vB w C c) (hn : n ≤ 70368744177664) (h : InD w x D) (l : LimK D) :
  Calls Tryz.prog 105 #[aggD x D, .pointer (some ⟨b, 0, none⟩), .pointer (some ⟨b + 1, 0, none⟩)] w (RetD w (zbf D k c).1 (zbf D k c).2) := by
 obtain ⟨hR0, hR1, hB⟩ := zaB w 27 27 (lD x D) l0D _ _ rfl rfl
 have HC := Lib.hid (fun W (hb : Below w.heap.size w W) => zjs x D k c C n d W (h.keep hb) HL hnd (hr.keep hb) (h.n0 l) (h.n1 l) hn l.fu l.ke)
 unfold aggD at HC
 have hbl := World.block_lt_of_cell? w _ hc
 have hbl2 := World.block_lt_of_cell? w _ hc2
 obtain ⟨P, hP⟩ : ∃ P, zbf D k c = P := ⟨_, rfl⟩
 rw [hP] at HC ⊢
 clear h l hP hr hnd hn
 unfold aggD
 go_enter Tryz.func105, Tryz.ntmps105
 go_upto_region 1 with fail
 have hc1 := (hB.cell (p := ⟨b, 0, none⟩) hbl).trans hc
 have hc21 := (hB.cell (p := ⟨b + 1, 0, none⟩) hbl2).trans hc2
 clear hc hbl hc2 hbl2
 generalize (w.alloc (.cells (lD x D).toArray 27)).alloc (.cells l0D.toArray 27) = W0 at hR0 hR1 hB hc1 hc21 ⊢
 go_wp2_with (refine zac rfl 27 (.tmp 3) rfl (w.heap.size) 0 rfl _ _ (hR0) ((lD x D)) (by rfl) _ Tryz.underlying27 rfl (by exact zaj) ?_)
 refine (HC.out _ hB).mono ?_
 rintro e w1 ⟨y, rfl, hy, hyf, hb⟩
 obtain ⟨D', er⟩ := P
 unfold aggD
 have hl0 := hR1.lt
 replace hR1 := hR1.later hb
 replace hB := zaa hB hb
 clear hb HC hR0 hc1 hc21
 dsimp only at hy ⊢
 go_wp2_with (refine zab rfl 27 (.tmp 4) (.tmp 10) rfl (w.heap.size + 1) rfl ((lD y D')) rfl _ _ (hR1) (by exact zaj) rfl (za7 y D') ?_)
 refine bodyPost_ret (zag (p := 4) (u := 5) (ty := 27) (by rfl) _ _ (w.heap.size + 1) 27 _ _ (by rfl) (by exact hR1.setRow _) Tryz.underlying27 (by rfl) (by exact zaj)) (by rfl) ?_
 have hO := (Only.refl (w.heap.size + 1) w1).setRow (lD y D').toArray
 exact ⟨y, rfl, hy.only hO (hyf.mono (by omega)), hyf.mono (by omega), below_setRow hB (by omega) _⟩
theorem znF (k : Int) (w : World) : Calls Tryz.prog 66 #[.int .i64 k] w fun e w' => e = .returned (vStp (zgQ w.heap.size k)) ∧ DoS w' (zgQ w.heap.size k) ∧ Below w.heap.size w w' := by
 obtain ⟨hR, hB⟩ := zat w 3 [.int .i64 k] _ rfl
 go_enter Tryz.func66, Tryz.ntmps66
 go_wp2_with fail
 go_ret
 exact ⟨rfl, ⟨fun args W => by kernel_rfl, fun x D W hb hi hl => znD w.heap.size k x D W ((hR.later hb).cell rfl) hi hl, fun D l h => zoM l h⟩, hB⟩
theorem zi6 (k : Int) (w : World) : Calls Tryz.prog 69 #[.int .i64 k] w fun e w' => e = .returned (vStp (zd3 w.heap.size k)) ∧ DoS w' (zd3 w.heap.size k) ∧ Below w.heap.size w w' := by
 obtain ⟨hR, hB⟩ := zat w 3 [.int .i64 k] _ rfl
 go_enter Tryz.func69, Tryz.ntmps69
 go_wp2_with fail
 go_ret
 exact ⟨rfl, ⟨fun args W => by kernel_rfl, fun x D W hb hi hl => znE w.heap.size k x D W ((hR.later hb).cell rfl) hi hl, fun D l h => zoO l h⟩, hB⟩
theorem zhp (k : Int) (c : List UInt8) (n : Nat) (C : Option Addr) (d : Nat) (w : World) (HL : Hid (c.length = n)) (hnd : n ≤ d) (hr : Rd vB w C c) (hn : n ≤ 70368744177664) :
  Calls Tryz.prog 67 #[.int .i64 k, .slice C n d] w fun e w' => e = .returned (vStp (zcs w.heap.size k c)) ∧ DoS w' (zcs w.heap.size k c) ∧ Below w.heap.size w w' := by
 obtain ⟨hR, hR1, hB⟩ := zaB w 3 22 [.int .i64 k] [.slice C n d] _ _ rfl rfl
 go_enter Tryz.func67, Tryz.ntmps67
 go_wp2_with fail
 go_ret
 exact ⟨rfl, ⟨fun args W => by kernel_rfl, fun x D W hb hi hl => zlL w.heap.size k c C n d x D W ((hR.later hb).cell rfl) ((hR1.later hb).cell rfl) HL hnd (hr.keep (zaa hB hb)) hn hi hl, fun D l h => znC l h⟩, hB⟩
theorem zkN [Inhabited Tab] (t : List UInt8) (n : Nat) (A : Option Addr) (c : Nat) (w : World) (HN : Hid (t.length = n)) (hr : Rd vB w A t) (hc : n ≤ c) (hn : n ≤ 60000) (HK : Hid (KTab w)) :
  Calls Tryz.prog 68 #[.slice A n c] w fun e w' => ∃ A' c', e = .returned (.slice A' (n + 6) c') ∧ n + 6 ≤ c' ∧ Hid ((zas fS t).length = n + 6) ∧ Rd vB w' A' (zas fS t) ∧ Below w.heap.size w w' := by
 have HP := Lib.hid (znv t n A c w HN hr hn HK)
 have hl : (zas fS t).length = n + 6 := by rw [zaZ zcr, HN.out, Nat.add_comm]
 have HL := Lib.hid hl
 clear hr HK hl
 generalize zas fS t = S at HP HL ⊢
 go_enter Tryz.func68, Tryz.ntmps68
 go_wp2_with fail
 refine HP.out.mono ?_
 rintro e w1 ⟨v, rfl, hown, hb⟩
 obtain ⟨A', c', rfl, hc', hr'⟩ := zbk hown
 rw [HL.out] at hc' ⊢
 clear hown
 go_wp2_with fail
 go_ret
 exact ⟨A', c', rfl, hc', HL, hr', hb⟩
def runD : List Stp → DK → DK × Int
 | [], D => (D, 0)
 | t :: r, D => if (t.h D).2 ≠ 0 then t.h D else runD r (t.h D).1
def zgB (St : List Stp) (s : ShK) : ShK × Int := if (runD St s.d).2 ≠ 0 then (zbG (runD St s.d).1, (runD St s.d).2) else ({ s with d := (runD St s.d).1 }, 0)
def zp5 (w : World) (x : WS) (s' : ShK) (er : Int) (e : Ending) (w' : World) : Prop :=
 ∃ x', e = .returned (.tuple #[aggS x' s', .int .i64 er]) ∧ InS w' x' s' ∧ (∀ lo hi, hi ≤ w.heap.size → OffS lo hi x → OffS lo hi x') ∧ Below w.heap.size w w'
def zqt (w : World) (x : WS) (s : ShK) (St : List Stp) (i : Value) (wr : World) : Prop :=
 ∃ (k : Nat) (y : WD) (D : DK), i = .int .i64 (k : Int) ∧ k ≤ St.length ∧ Hid (runD St s.d = runD (St.drop k) D) ∧ Row wr w.heap.size 39 [.slice y.A0 y.n0 y.c0, .int .i64 D.a0.s, .slice y.A1 y.n1 y.c1, .int .i64 D.a1.s, .int .i64 D.fuse, .int .i64 D.keep, .bool D.down, .int .i64 s.turn, .int .u64 (s.num : Int), .int .u64 (s.m.clock : Int), .int .u64 (s.m.b.1 : Int), .slice x.m.b.eA x.m.b.n x.m.b.ec, .slice x.m.b.gA x.m.b.g x.m.b.gc, .int .i64 s.m.c.1, .int .u64 (s.m.c.2.1 : Int), .slice x.m.c.A x.m.c.s x.m.c.c] ∧ Row wr (w.heap.size + 1) 39 l0S ∧ InD wr y D ∧ (∀ lo hi, hi ≤ w.heap.size → OffD lo hi x.d → OffD lo hi y) ∧ OffD w.heap.size (w.heap.size + 2) y ∧ Hid (LimK D) ∧ Below w.heap.size w wr
theorem zkO (x : WS) (s : ShK) (St : List Stp) (n c : Nat) (A : Option Addr) (w : World) (h : InS w x s) (hl : LimK s.d) (HN : Hid (St.length = n)) (hr : Rd vStp w A St) (hd : Hid (∀ t ∈ St, DoS w t)) (hn : n ≤ 1000000) :
  Calls Tryz.prog 65 #[aggS x s, .slice A n c] w (zp5 w x (zgB St s).1 (zgB St s).2) := by
 obtain ⟨hR0, hR1, hB⟩ := zaB w 39 39 (lS x s) l0S _ _ rfl rfl
 have HM := Lib.hid (fun W (hb : Below w.heap.size w W) => h.im.keep hb)
 have HOM := Lib.hid h.im
 have hd0 := h.id.keep hB
 have hoff0 : OffD w.heap.size (w.heap.size + 2) x.d := h.id.off _
 have HL := Lib.hid hl
 clear h hl
 unfold aggS
 go_enter Tryz.func65, Tryz.ntmps65
 go_upto_region 2 with fail
 generalize (w.alloc (.cells (lS x s).toArray 39)).alloc (.cells l0S.toArray 39) = W0 at hR0 hR1 hB hd0 ⊢
 go_loopw [12] (fun i wr => zqt w x s St i wr) (fun i _ => n - (intOf i).toNat)
 case atStart => exact ⟨0, x.d, s.d, rfl, Nat.zero_le _, Lib.hid rfl, hR0, hR1, hd0, (fun _ _ _ h => h), hoff0, HL, hB⟩
 case round =>
  clear hR0 hR1 hB hd0 hoff0
  obtain ⟨k, y, D, rfl, hk, HR, hR0, hR1, hy, hoA, hoB, HLD, hB⟩ := hrel
  have hl1 := hR1.lt
  by_cases hlt : k < n
  ·have hks : k < St.length := by rw [HN.out]; exact hlt
   obtain ⟨b3, o3, rfl, hb3, hcell⟩ := (hr.keep hB).at hks
   have hck := hcell k hks
   have hdk := (hd.out _ (List.getElem_mem hks)).later hB
   have HDR : Hid (St.drop k = St[k] :: St.drop (k + 1)) := List.drop_eq_getElem_cons hks
   clear hcell
   generalize St[k] = tk at hck hdk HDR
   obtain ⟨F, caps, hh⟩ := tk
   unfold vStp at hck
   dsimp only at hck
   have HCA := Lib.hid (hdk.ca y D wr (Below.refl _ _) hy HLD.out)
   have HEN := Lib.hid hdk.en
   have HLI := Lib.hid (hdk.li D HLD.out)
   unfold aggD at HCA
   dsimp only at HCA HEN HLI
   obtain ⟨P, hP⟩ : ∃ P, hh D = P := ⟨_, rfl⟩
   have HP := Lib.hid hP
   rw [hP] at HCA HLI
   clear hP hdk
   have i2 : (0 : Int) ≤ (k : Int) := by omega
   have i3 : (k : Int) < (n : Int) := by omega
   go_upto_region 4 with fail
   go_upto_region 5 with (first
    | (refine zac rfl 27 (.tmp 18) rfl (w.heap.size) 0 rfl _ _ (hR0) ((lD y D)) (by rfl) _ Tryz.underlying27 rfl (by exact zaj) ?_)
    | (refine wpList_plain rfl ?_; intro _ hK; refine zce (.tmp 17) (.tmp 19) _ rfl F caps rfl _ rfl HEN.out ?_; refine HCA.out.mono ?_; rintro e w3 ⟨z, rfl, hz, hzf, hb⟩; refine ⟨_, rfl, hK _ _ ?_⟩; clear hK; unfold aggD)
    | (refine zab rfl 27 (.tmp 8) (.tmp 21) rfl w3.heap.size rfl (lD z P.1) rfl _ _ (zat w3 27 l0D _ rfl).1 (by exact zaj) rfl (za7 z P.1) ?_))
   have hl3 := hb.size
   have hyo := hzf.off 0
   have hzo : OffD w3.heap.size (w3.heap.size + 1) z := hz.off _
   have hbx := below_setRow (zat w3 27 l0D _ rfl).2 (Nat.le_refl _) (lD z P.1).toArray
   have hR8 := (zat w3 27 l0D _ rfl).1.setRow (lD z P.1)
   replace hR0 := (hR0.later hb).later hbx
   replace hR1 := (hR1.later hb).later hbx
   replace hz := hz.keep hbx
   replace hB := zaa (zaa hB hb) hbx
   clear hbx hb HCA
   generalize (w3.alloc (.cells l0D.toArray 27)).setRow w3.heap.size (lD z P.1).toArray = w4 at hR8 hR0 hR1 hz hB ⊢
   have hg8 : w.heap.size + 1 < w3.heap.size := by omega
   have hzA : ∀ lo hi, hi ≤ w.heap.size → OffD lo hi x.d → OffD lo hi z := fun lo hi hh _ => (hzf.off lo).mono (Nat.le_refl _) (by omega)
   have hzB : OffD w.heap.size (w.heap.size + 2) z := (hzf.off _).mono (Nat.le_refl _) (by omega)
   generalize w3.heap.size = g8 at hR8 hg8 ⊢
   by_cases he : P.2 = 0
   ·have HN2 := Lib.hid (HLI.out he)
    obtain ⟨D', er⟩ := P
    dsimp only at he HN2 hR8 hz
    subst he
    go_upto_region 7 with fail
    have hth := zaV hR0 0 7 (by simp)
    have hO := Only.setCells (g := w.heap.size) (lD z D') 0 (Only.refl _ w4)
    have hR02 : Row (w4.setCells w.heap.size 0 (lD z D')) w.heap.size 39 [.slice z.A0 z.n0 z.c0, .int .i64 D'.a0.s, .slice z.A1 z.n1 z.c1, .int .i64 D'.a1.s, .int .i64 D'.fuse, .int .i64 D'.keep, .bool D'.down, .int .i64 s.turn, .int .u64 (s.num : Int), .int .u64 (s.m.clock : Int), .int .u64 (s.m.b.1 : Int), .slice x.m.b.eA x.m.b.n x.m.b.ec, .slice x.m.b.gA x.m.b.g x.m.b.gc, .int .i64 s.m.c.1, .int .u64 (s.m.c.2.1 : Int), .slice x.m.c.A x.m.c.s x.m.c.c] := hR0.setCells _ 0 (by simp)
    have hR12 := hR1.only hO (by omega)
    have hz2 := hz.at_only hO hzB (Nat.le_refl _) (by omega)
    have hB2 := hB.trans hO.below
    go_upto_region 8 with (first
     | (refine zac rfl 27 (.tmp 8) rfl (g8) 0 rfl _ _ (hR8) ((lD z D')) (by rfl) _ Tryz.underlying27 rfl (by exact zaj) ?_)
     | (refine wpList_store_mid rfl 27 (.tmp 29) (.tmp 28) rfl (w.heap.size) 0 ((lD z D').toArray) rfl rfl (hth) (by exact zaj) (by exact all_oneCell_toArray (za7 z D')) ?_))
    clear hR0 hR1 hz hB hO hth hR8
    generalize w4.setCells w.heap.size 0 (lD z D') = w5 at hR02 hR12 hz2 hB2 ⊢
    go_wp2_with fail
    go_roundw
    case rel =>
     refine ⟨k + 1, z, D', by go_num, by omega, ?_, hR02, hR12, hz2, hzA, hzB, HN2, hB2⟩
     unfold Hid
     rw [HR.out, HDR.out]
     show (if (hh D).2 ≠ 0 then hh D else runD (St.drop (k + 1)) (hh D).1) = _
     rw [HP.out, if_neg (not_not_intro rfl)]
    case measure => simp [intOf]; omega
   ·have HFIN : Hid (zgB St s = (zbG P.1, P.2)) := by
     have h1 : runD St s.d = P := by
      rw [HR.out, HDR.out]
      show (if (hh D).2 ≠ 0 then hh D else runD (St.drop (k + 1)) (hh D).1) = _
      rw [HP.out, if_pos he]
     unfold Hid zgB
     rw [h1, if_pos he]
    obtain ⟨D', er⟩ := P
    dsimp only at he HFIN hR8 hz ⊢
    have hz1 : (er == 0) = false := beq_eq_false_iff_ne.2 he
    have hz2 : (er != 0) = true := by rw [bne, hz1]; rfl
    go_wp2_with (first
     | (refine zac rfl 27 (.tmp 8) rfl (g8) 0 rfl _ _ (hR8) ((lD z D')) (by rfl) _ Tryz.underlying27 rfl (by exact zaj) ?_)
     | (refine zab rfl 39 (.tmp 4) (.tmp 26) rfl (w.heap.size + 1) rfl ([.slice z.A0 z.n0 z.c0, .int .i64 D'.a0.s, .slice z.A1 z.n1 z.c1, .int .i64 D'.a1.s, .int .i64 D'.fuse, .int .i64 D'.keep, .bool D'.down, .int .i64 0, .int .u64 0, .int .u64 0, .int .u64 0, .slice none 0 0, .slice none 0 0, .int .i64 0, .int .u64 0, .slice none 0 0]) rfl _ _ (hR1) (by exact zaf) rfl (zan ⟨z, zbj⟩ (zbG D')) ?_))
    refine bodyPost_ret (zag (p := 4) (u := 5) (ty := 39) (by rfl) _ _ (w.heap.size + 1) 39 _ _ (by rfl) (by exact hR1.setRow _) Tryz.underlying39 (by rfl) (by exact zaf)) (by rfl) ?_
    have hO := (Only.refl (w.heap.size + 1) w4).setRow [.slice z.A0 z.n0 z.c0, .int .i64 D'.a0.s, .slice z.A1 z.n1 z.c1, .int .i64 D'.a1.s, .int .i64 D'.fuse, .int .i64 D'.keep, .bool D'.down, .int .i64 0, .int .u64 0, .int .u64 0, .int .u64 0, .slice none 0 0, .slice none 0 0, .int .i64 0, .int .u64 0, .slice none 0 0].toArray
    rw [HFIN.out]
    exact ⟨⟨z, zbj⟩, rfl, ⟨hz.at_only hO hzB (by omega) (by omega), zc6 _⟩, (fun lo hi hh ho => ⟨hzA lo hi hh ho.d, (zbB _).off lo⟩), below_setRow hB (by omega) _⟩
  ·have hkn : k = n := by
    have := hk
    rw [HN.out] at this
    omega
   subst hkn
   have hi1 : ¬ (k : Int) < (k : Int) := by omega
   have HFIN : Hid (zgB St s = ({ s with d := D }, 0)) := by
    have h1 : runD St s.d = (D, 0) := by
     rw [HR.out, ← HN.out, List.drop_length]
     rfl
    unfold Hid zgB
    rw [h1, if_neg (not_not_intro rfl)]
   go_wp2_with (first
    | (refine zac rfl 39 (.tmp 2) rfl (w.heap.size) 0 rfl _ _ (hR0) ([.slice y.A0 y.n0 y.c0, .int .i64 D.a0.s, .slice y.A1 y.n1 y.c1, .int .i64 D.a1.s, .int .i64 D.fuse, .int .i64 D.keep, .bool D.down, .int .i64 s.turn, .int .u64 (s.num : Int), .int .u64 (s.m.clock : Int), .int .u64 (s.m.b.1 : Int), .slice x.m.b.eA x.m.b.n x.m.b.ec, .slice x.m.b.gA x.m.b.g x.m.b.gc, .int .i64 s.m.c.1, .int .u64 (s.m.c.2.1 : Int), .slice x.m.c.A x.m.c.s x.m.c.c]) (by rfl) _ Tryz.underlying39 rfl (by exact zaf) ?_)
    | (refine zab rfl 39 (.tmp 4) (.tmp 31) rfl (w.heap.size + 1) rfl ([.slice y.A0 y.n0 y.c0, .int .i64 D.a0.s, .slice y.A1 y.n1 y.c1, .int .i64 D.a1.s, .int .i64 D.fuse, .int .i64 D.keep, .bool D.down, .int .i64 s.turn, .int .u64 (s.num : Int), .int .u64 (s.m.clock : Int), .int .u64 (s.m.b.1 : Int), .slice x.m.b.eA x.m.b.n x.m.b.ec, .slice x.m.b.gA x.m.b.g x.m.b.gc, .int .i64 s.m.c.1, .int .u64 (s.m.c.2.1 : Int), .slice x.m.c.A x.m.c.s x.m.c.c]) rfl _ _ (hR1) (by exact zaf) rfl (zan ⟨y, x.m⟩ { s with d := D }) ?_))
   refine bodyPost_ret (zag (p := 4) (u := 5) (ty := 39) (by rfl) _ _ (w.heap.size + 1) 39 _ _ (by rfl) (by exact hR1.setRow _) Tryz.underlying39 (by rfl) (by exact zaf)) (by rfl) ?_
   have hO := (Only.refl (w.heap.size + 1) wr).setRow [.slice y.A0 y.n0 y.c0, .int .i64 D.a0.s, .slice y.A1 y.n1 y.c1, .int .i64 D.a1.s, .int .i64 D.fuse, .int .i64 D.keep, .bool D.down, .int .i64 s.turn, .int .u64 (s.num : Int), .int .u64 (s.m.clock : Int), .int .u64 (s.m.b.1 : Int), .slice x.m.b.eA x.m.b.n x.m.b.ec, .slice x.m.b.gA x.m.b.g x.m.b.gc, .int .i64 s.m.c.1, .int .u64 (s.m.c.2.1 : Int), .slice x.m.c.A x.m.c.s x.m.c.c].toArray
   have hBf := below_setRow hB (show w.heap.size ≤ w.heap.size + 1 by omega) [.slice y.A0 y.n0 y.c0, .int .i64 D.a0.s, .slice y.A1 y.n1 y.c1, .int .i64 D.a1.s, .int .i64 D.fuse, .int .i64 D.keep, .bool D.down, .int .i64 s.turn, .int .u64 (s.num : Int), .int .u64 (s.m.clock : Int), .int .u64 (s.m.b.1 : Int), .slice x.m.b.eA x.m.b.n x.m.b.ec, .slice x.m.b.gA x.m.b.g x.m.b.gc, .int .i64 s.m.c.1, .int .u64 (s.m.c.2.1 : Int), .slice x.m.c.A x.m.c.s x.m.c.c].toArray
   rw [HFIN.out]
   exact ⟨⟨y, x.m⟩, rfl, ⟨hy.at_only hO hoB (by omega) (by omega), HM.out _ hBf⟩, (fun lo hi hh ho => ⟨hoA lo hi hh ho.d, ho.m⟩), hBf⟩
def shS (g : Nat) (a b c d e f h i j k l m n o p q : Value) (W : World) : Prop := W.cell? ⟨g, 0, none⟩ = some a ∧ (W.cell? ⟨g, 1, none⟩ = some b ∧ (W.cell? ⟨g, 2, none⟩ = some c ∧ (W.cell? ⟨g, 3, none⟩ = some d ∧ (W.cell? ⟨g, 4, none⟩ = some e ∧ (W.cell? ⟨g, 5, none⟩ = some f ∧ (W.cell? ⟨g, 6, none⟩ = some h ∧ (W.cell? ⟨g, 7, none⟩ = some i ∧ (W.cell? ⟨g, 8, none⟩ = some j ∧ (W.cell? ⟨g, 9, none⟩ = some k ∧ (W.cell? ⟨g, 10, none⟩ = some l ∧ (W.cell? ⟨g, 11, none⟩ = some m ∧ (W.cell? ⟨g, 12, none⟩ = some n ∧ (W.cell? ⟨g, 13, none⟩ = some o ∧ (W.cell? ⟨g, 14, none⟩ = some p ∧ (W.cell? ⟨g, 15, none⟩ = some q)))))))))))))))
theorem zcV {g : Nat} {t : TypeId} {a b c d e f h i j k l m n o p q : Value} {W : World} (h1 : Row W g t [a, b, c, d, e, f, h, i, j, k, l, m, n, o, p, q]) : shS g a b c d e f h i j k l m n o p q W := ⟨h1.cell rfl, h1.cell rfl, h1.cell rfl, h1.cell rfl, h1.cell rfl, h1.cell rfl, h1.cell rfl, h1.cell rfl, h1.cell rfl, h1.cell rfl, h1.cell rfl, h1.cell rfl, h1.cell rfl, h1.cell rfl, h1.cell rfl, h1.cell rfl⟩
theorem zi7 (b1 b2 b3 : Nat) (k : Int) (t : List UInt8) (f : List UInt8 → List UInt8) (D : DK) : runD [zgQ b1 k, zcs b2 k (zas f t), zd3 b3 k] D = zbd f D k t := by
 show (if (zcE D k).2 ≠ 0 then zcE D k else (if (zbf (zcE D k).1 k (zas f t)).2 ≠ 0 then zbf (zcE D k).1 k (zas f t) else (if (zda (zbf (zcE D k).1 k (zas f t)).1 k).2 ≠ 0 then zda (zbf (zcE D k).1 k (zas f t)).1 k else ((zda (zbf (zcE D k).1 k (zas f t)).1 k).1, 0)))) = _
 unfold zbd zdb
 by_cases h1 : (zcE D k).2 = 0
 ·rw [if_neg (not_not_intro h1), if_pos h1]
  by_cases h2 : (zbf (zcE D k).1 k (zas f t)).2 = 0
  ·rw [if_neg (not_not_intro h2), if_neg (not_not_intro h2)]
   by_cases h3 : (zda (zbf (zcE D k).1 k (zas f t)).1 k).2 = 0
   ·rw [if_neg (not_not_intro h3), ← h3]
   ·rw [if_pos h3]
  ·rw [if_pos h2, if_pos h2]
 ·rw [if_pos h1, if_neg h1]
theorem zoP (b2 b3 : Nat) (k : Int) (t : List UInt8) (f : List UInt8 → List UInt8) (D : DK) : runD [zcs b2 k (zas f t), zd3 b3 k] D = zdb f D k t := by
 show (if (zbf D k (zas f t)).2 ≠ 0 then zbf D k (zas f t) else (if (zda (zbf D k (zas f t)).1 k).2 ≠ 0 then zda (zbf D k (zas f t)).1 k else ((zda (zbf D k (zas f t)).1 k).1, 0))) = _
 unfold zdb
 by_cases h2 : (zbf D k (zas f t)).2 = 0
 ·rw [if_neg (not_not_intro h2), if_neg (not_not_intro h2)]
  by_cases h3 : (zda (zbf D k (zas f t)).1 k).2 = 0
  ·rw [if_neg (not_not_intro h3), ← h3]
  ·rw [if_pos h3]
 ·rw [if_pos h2, if_pos h2]
theorem znG (b1 b2 b3 : Nat) (f : List UInt8 → List UInt8) (s : ShK) (h : s.num < 4611686018427387904) : zgB [zgQ b1 (1 - s.turn), zcs b2 (1 - s.turn) (zas f (zaz (s.num + 1) s.m)), zd3 b3 (1 - s.turn)] { s with turn := 1 - s.turn, num := s.num + 1 } = zbA f s := by
 unfold zgB zbA
 rw [if_neg (by omega : ¬ 4611686018427387904 ≤ s.num)]
 dsimp only
 rw [zi7]
theorem zkP [Inhabited Tab] (x : WS) (s : ShK) (w : World) (h : InS w x s) (hl : LimK s.d) (hm : zaX s.m = true) (ht : s.turn = 0 ∨ s.turn = 1) (hn : s.num < 4611686018427387904) (HK : Hid (KTab w)) :
  Calls Tryz.prog 36 #[aggS x s] w (zp5 w x (zbA fS s).1 (zbA fS s).2) := by
 obtain ⟨hR0, hR1, hB⟩ := zaB w 39 39 (lS x s) l0S _ _ rfl rfl
 obtain ⟨P, hP⟩ : ∃ P, zbA fS s = P := ⟨_, rfl⟩
 obtain ⟨k, hk⟩ : ∃ k, 1 - s.turn = k := ⟨_, rfl⟩
 obtain ⟨N, hN⟩ : ∃ N, s.num + 1 = N := ⟨_, rfl⟩
 have HDN : Hid (∀ b1 b2 b3, zgB [zgQ b1 k, zcs b2 k (zas fS (zaz N s.m)), zd3 b3 k] { s with turn := k, num := N } = P) := fun b1 b2 b3 => by rw [← hk, ← hN, ← hP]; exact znG b1 b2 b3 fS s hn
 have HI := Lib.hid (fun W (hb : Below w.heap.size w W) => h.keep hb)
 have HL := Lib.hid hl
 have hle := zgp N hm
 have HMR := Lib.hid (fun W (hb : Below w.heap.size w W) => zdm N x.m s.m W (h.im.keep hb) hm (by omega))
 unfold aggM at HMR
 have HKK := Lib.hid (fun W (hb : Below w.heap.size w W) => HK.out.keep hb)
 rw [hP]
 clear hP h hl hm
 unfold aggS
 go_enter Tryz.func36, Tryz.ntmps36
 go_upto_region 1 with fail
 generalize (w.alloc (.cells (lS x s).toArray 39)).alloc (.cells l0S.toArray 39) = W0 at hR0 hR1 hB ⊢
 have f7 := hR0.frozen 7
 have c7 : W0.cell? ⟨w.heap.size, 7, none⟩ = some (.int .i64 s.turn) := hR0.cell rfl
 have hw1 : IntKind.i64.wrap (1 - s.turn) = k := by rw [IntKind.wrap_i64]; omega
 have hO := (Only.refl w.heap.size W0).setCell 7 (.int .i64 k)
 have hR01 : Row (W0.setCell ⟨w.heap.size, 7, none⟩ (.int .i64 k)) w.heap.size 39 [.slice x.d.A0 x.d.n0 x.d.c0, .int .i64 s.d.a0.s, .slice x.d.A1 x.d.n1 x.d.c1, .int .i64 s.d.a1.s, .int .i64 s.d.fuse, .int .i64 s.d.keep, .bool s.d.down, .int .i64 k, .int .u64 (s.num : Int), .int .u64 (s.m.clock : Int), .int .u64 (s.m.b.1 : Int), .slice x.m.b.eA x.m.b.n x.m.b.ec, .slice x.m.b.gA x.m.b.g x.m.b.gc, .int .i64 s.m.c.1, .int .u64 (s.m.c.2.1 : Int), .slice x.m.c.A x.m.c.s x.m.c.c] := hR0.setCell 7 _
 have hR11 := hR1.only hO (by omega)
 have hB1 := hB.trans hO.below
 go_upto_region 2 with fail
 clear hR0 hR1 hB f7 c7 hO
 generalize W0.setCell ⟨w.heap.size, 7, none⟩ (.int .i64 k) = W1 at hR01 hR11 hB1 ⊢
 have f8 := hR01.frozen 8
 have c8 : W1.cell? ⟨w.heap.size, 8, none⟩ = some (.int .u64 (s.num : Int)) := hR01.cell rfl
 have hw2 : IntKind.u64.wrap ((s.num : Int) + 1) = (N : Int) := by rw [IntKind.wrap_u64]; omega
 have hO := (Only.refl w.heap.size W1).setCell 8 (.int .u64 (N : Int))
 have hR02 : Row (W1.setCell ⟨w.heap.size, 8, none⟩ (.int .u64 (N : Int))) w.heap.size 39 [.slice x.d.A0 x.d.n0 x.d.c0, .int .i64 s.d.a0.s, .slice x.d.A1 x.d.n1 x.d.c1, .int .i64 s.d.a1.s, .int .i64 s.d.fuse, .int .i64 s.d.keep, .bool s.d.down, .int .i64 k, .int .u64 (N : Int), .int .u64 (s.m.clock : Int), .int .u64 (s.m.b.1 : Int), .slice x.m.b.eA x.m.b.n x.m.b.ec, .slice x.m.b.gA x.m.b.g x.m.b.gc, .int .i64 s.m.c.1, .int .u64 (s.m.c.2.1 : Int), .slice x.m.c.A x.m.c.s x.m.c.c] := hR01.setCell 8 _
 have hR12 := hR11.only hO (by omega)
 have hB2 := hB1.trans hO.below
 go_upto_region 3 with fail
 clear hR01 hR11 hB1 f8 c8 hO hw1 hw2
 generalize W1.setCell ⟨w.heap.size, 8, none⟩ (.int .u64 (N : Int)) = W2 at hR02 hR12 hB2 ⊢
 have hS : shS w.heap.size (.slice x.d.A0 x.d.n0 x.d.c0) (.int .i64 s.d.a0.s) (.slice x.d.A1 x.d.n1 x.d.c1) (.int .i64 s.d.a1.s) (.int .i64 s.d.fuse) (.int .i64 s.d.keep) (.bool s.d.down) (.int .i64 k) (.int .u64 (N : Int)) (.int .u64 (s.m.clock : Int)) (.int .u64 (s.m.b.1 : Int)) (.slice x.m.b.eA x.m.b.n x.m.b.ec) (.slice x.m.b.gA x.m.b.g x.m.b.gc) (.int .i64 s.m.c.1) (.int .u64 (s.m.c.2.1 : Int)) (.slice x.m.c.A x.m.c.s x.m.c.c) W2.drew := zcV (W := W2.drew) hR02
 have hR0 := hR02.drew
 have hR1 := hR12.drew
 have hB := hB2.drew
 refine zah (shS w.heap.size (.slice x.d.A0 x.d.n0 x.d.c0) (.int .i64 s.d.a0.s) (.slice x.d.A1 x.d.n1 x.d.c1) (.int .i64 s.d.a1.s) (.int .i64 s.d.fuse) (.int .i64 s.d.keep) (.bool s.d.down) (.int .i64 k) (.int .u64 (N : Int)) (.int .u64 (s.m.clock : Int)) (.int .u64 (s.m.b.1 : Int)) (.slice x.m.b.eA x.m.b.n x.m.b.ec) (.slice x.m.b.gA x.m.b.g x.m.b.gc) (.int .i64 s.m.c.1) (.int .u64 (s.m.c.2.1 : Int)) (.slice x.m.c.A x.m.c.s x.m.c.c)) (.step 0 false (.step 1 false (.step 2 false (.step 4 false (.step 5 false (.step 6 false (.step 7 false (.step 8 false (.step 9 false (.step 13 false (.step 14 false (.step 3 true (.step 10 true (.step 11 true (.step 12 true (.step 15 true (.step 16 true (.step 17 true (.step 18 false (.step 19 false (.step 20 true (.step 21 false (.nil))))))))))))))))))))))) hS (by kernel_rfl) (by kernel_rfl) (by rfl) (by kernel_rfl) ?_
 clear hR02 hR12 hB2
 generalize W2.drew = wv at *
 iterate 11 (refine zae rfl (by rfl) (v := ?_) ?_ ?_; rotate_left 1; (rintro W ⟨hW0, hW1⟩; go_simp <;> with_reducible rfl); simp only [pA, pB, pC, Act.put, pD, pE, pF])
 clear hS
 refine zad rfl (by rfl) (fun K hK => ?_)
 go_simp
 refine (znF k wv).mono ?_
 rintro e w1 ⟨rfl, hd1, hb⟩
 replace hR0 := hR0.later hb
 replace hR1 := hR1.later hb
 replace hB := zaa hB hb
 refine hK.out _ _ (zcV hR0) ?_
 clear hK K hb
 generalize hb1 : wv.heap.size = b1 at hd1 ⊢
 clear hb1
 (try simp only [pA, pB, pC, Act.put, pD, pE, pF])
 refine zad rfl (by rfl) (fun K hK => ?_)
 go_simp
 refine (HMR.out w1 hB).mono ?_
 rintro e w2 ⟨v, rfl, hown, hb⟩
 obtain ⟨A2, c2, rfl, hc2, hr2⟩ := zbk hown
 replace hR0 := hR0.later hb
 replace hR1 := hR1.later hb
 have hB2 := zaa hB hb
 replace hd1 := hd1.later hb
 refine hK.out _ _ (zcV hR0) ?_
 clear hK K hb hown hB
 (try simp only [pA, pB, pC, Act.put, pD, pE, pF])
 refine zad rfl (by rfl) (fun K hK => ?_)
 go_simp
 refine (zkN (zaz N s.m) _ A2 c2 w2 (Lib.hid rfl) hr2 hc2 (by omega) (HKK.out w2 hB2)).mono ?_
 rintro e w3 ⟨A3, c3, rfl, hc3, HL3, hr3, hb⟩
 replace hR0 := hR0.later hb
 replace hR1 := hR1.later hb
 have hB3 := zaa hB2 hb
 replace hd1 := hd1.later hb
 refine hK.out _ _ (zcV hR0) ?_
 clear hK K hb hB2 hr2
 (try simp only [pA, pB, pC, Act.put, pD, pE, pF])
 refine zad rfl (by rfl) (fun K hK => ?_)
 go_simp
 refine (zhp k (zas fS (zaz N s.m)) _ A3 c3 w3 HL3 hc3 hr3 (by omega)).mono ?_
 rintro e w4 ⟨rfl, hd2, hb⟩
 replace hR0 := hR0.later hb
 replace hR1 := hR1.later hb
 have hB4 := zaa hB3 hb
 replace hd1 := hd1.later hb
 refine hK.out _ _ (zcV hR0) ?_
 clear hK K hb hB3 hr3
 generalize hb2 : w3.heap.size = b2 at hd2 ⊢
 clear hb2
 (try simp only [pA, pB, pC, Act.put, pD, pE, pF])
 refine zad rfl (by rfl) (fun K hK => ?_)
 go_simp
 refine (zi6 k w4).mono ?_
 rintro e w5 ⟨rfl, hd3, hb⟩
 replace hR0 := hR0.later hb
 replace hR1 := hR1.later hb
 have hB5 := zaa hB4 hb
 replace hd1 := hd1.later hb
 replace hd2 := hd2.later hb
 refine hK.out _ _ (zcV hR0) ?_
 clear hK K hb hB4
 generalize hb3 : w4.heap.size = b3 at hd3 ⊢
 clear hb3
 (try simp only [pA, pB, pC, Act.put, pD, pE, pF])
 refine zad rfl (by rfl) (fun K hK => ?_)
 obtain ⟨v1, hv1⟩ : ∃ v, vStp (zgQ b1 k) = v := ⟨_, rfl⟩
 obtain ⟨v2, hv2⟩ : ∃ v, vStp (zcs b2 k (zas fS (zaz N s.m))) = v := ⟨_, rfl⟩
 obtain ⟨v3, hv3⟩ : ∃ v, vStp (zd3 b3 k) = v := ⟨_, rfl⟩
 rw [hv1, hv2, hv3]
 have hq1 : v1 = .func (.func 103) #[] #[.pointer (some ⟨b1, 0, none⟩)] := hv1.symm
 have hq2 : v2 = .func (.func 105) #[] #[.pointer (some ⟨b2, 0, none⟩), .pointer (some ⟨b2 + 1, 0, none⟩)] := hv2.symm
 have hq3 : v3 = .func (.func 108) #[] #[.pointer (some ⟨b3, 0, none⟩)] := hv3.symm
 have HV := Lib.hid (show [zgQ b1 k, zcs b2 k (zas fS (zaz N s.m)), zd3 b3 k].map vStp = [v1, v2, v3] by rw [← hv1, ← hv2, ← hv3]; rfl)
 clear hv1 hv2 hv3
 rw [hq1, hq2, hq3] at HV ⊢
 clear hq1 hq2 hq3
 go_simp
 have hbx := zak (Below.refl w5.heap.size w5) (.cells #[.func (.func 103) #[] #[.pointer (some ⟨b1, 0, none⟩)], .func (.func 105) #[] #[.pointer (some ⟨b2, 0, none⟩), .pointer (some ⟨b2 + 1, 0, none⟩)], .func (.func 108) #[] #[.pointer (some ⟨b3, 0, none⟩)]] 119)
 have hrn : Rd vStp (w5.alloc (.cells #[.func (.func 103) #[] #[.pointer (some ⟨b1, 0, none⟩)], .func (.func 105) #[] #[.pointer (some ⟨b2, 0, none⟩), .pointer (some ⟨b2 + 1, 0, none⟩)], .func (.func 108) #[] #[.pointer (some ⟨b3, 0, none⟩)]] 119)) (some ⟨w5.heap.size, 0, none⟩) [zgQ b1 k, zcs b2 k (zas fS (zaz N s.m)), zd3 b3 k] := Rd.new w5 _ _ _ (by rw [HV.out])
 replace hR0 := hR0.later hbx
 replace hR1 := hR1.later hbx
 have hB6 := zaa hB5 hbx
 refine hK.out _ _ (zcV hR0) ?_
 have hdall : ∀ t ∈ [zgQ b1 k, zcs b2 k (zas fS (zaz N s.m)), zd3 b3 k], DoS (w5.alloc (.cells #[.func (.func 103) #[] #[.pointer (some ⟨b1, 0, none⟩)], .func (.func 105) #[] #[.pointer (some ⟨b2, 0, none⟩), .pointer (some ⟨b2 + 1, 0, none⟩)], .func (.func 108) #[] #[.pointer (some ⟨b3, 0, none⟩)]] 119)) t := fun t ht => by
  rcases List.mem_cons.1 ht with e | ht
  ·rw [e]; exact hd1.later hbx
  ·rcases List.mem_cons.1 ht with e | ht
   ·rw [e]; exact hd2.later hbx
   ·rcases List.mem_cons.1 ht with e | ht
    ·rw [e]; exact hd3.later hbx
    ·exact absurd ht (by simp)
 have hi6 := HI.out _ hB6
 have HD := Lib.hid (zkO x { s with turn := k, num := N } [zgQ b1 k, zcs b2 k (zas fS (zaz N s.m)), zd3 b3 k] 3 3 (some ⟨w5.heap.size, 0, none⟩) _ ⟨hi6.id, hi6.im⟩ HL.out (Lib.hid rfl) hrn (Lib.hid hdall) (by omega))
 rw [HDN.out] at HD
 unfold aggS at HD
 dsimp only at HD
 clear hK K hbx hi6 hdall hrn hd1 hd2 hd3 hB5 HV HDN
 generalize w5.heap.size = q5 at HD hR0 hR1 hB6 ⊢
 generalize w5.alloc (.cells #[.func (.func 103) #[] #[.pointer (some ⟨b1, 0, none⟩)], .func (.func 105) #[] #[.pointer (some ⟨b2, 0, none⟩), .pointer (some ⟨b2 + 1, 0, none⟩)], .func (.func 108) #[] #[.pointer (some ⟨b3, 0, none⟩)]] 119) = w6 at HD hR0 hR1 hB6 ⊢
 (try simp only [pA, pB, pC, Act.put, pD, pE, pF])
 refine zad rfl (by rfl) (fun K hK => ?_)
 go_simp
 have hsz := hB6.size
 refine HD.out.mono ?_
 rintro e w7 ⟨y, rfl, hy, hyo, hb⟩
 have hl1 := hR1.lt
 replace hR0 := hR0.later hb
 replace hR1 := hR1.later hb
 have hB7 := zaa hB6 hb
 refine hK.out _ _ (zcV hR0) ?_
 have hoA : ∀ lo hi, hi ≤ w.heap.size → OffS lo hi x → OffS lo hi y := fun lo hi hh ho => hyo lo hi (by omega) ho
 have hoB : OffS (w.heap.size + 1) (w.heap.size + 2) y := hyo _ _ (by omega) (((HI.out w (Below.refl _ _)).off (w.heap.size + 2)).mono (by omega) (Nat.le_refl _))
 clear hK K hb HD hyo hB6
 obtain ⟨s', er⟩ := P
 dsimp only at hy ⊢
 unfold aggS
 (try simp only [pA, pB, pC, Act.put, pD, pE, pF])
 iterate 2 (refine zae rfl (by rfl) (v := ?_) ?_ ?_; rotate_left 1; (rintro W ⟨hW0, hW1⟩; go_simp <;> with_reducible rfl); simp only [pA, pB, pC, Act.put, pD, pE, pF])
 refine zad rfl (by rfl) (fun K hK => ?_)
 refine Row.wp_store 39 (.tmp 2) (.tmp 30) (by rfl) (by rfl) (lS y s') (by rfl) hR1 (by exact zaf) rfl (zan y s') ?_
 have hO := (Only.refl (w.heap.size + 1) w7).setRow (lS y s').toArray
 refine hK.out _ _ (zcV (hR0.only hO (by omega))) ?_
 clear hK K
 (try simp only [pA, pB, pC, Act.put, pD, pE, pF])
 iterate 1 (refine zae rfl (by rfl) (v := ?_) ?_ ?_; rotate_left 1; (rintro W ⟨hW0, hW1⟩; go_simp <;> with_reducible rfl); simp only [pA, pB, pC, Act.put, pD, pE, pF])
 refine zal ?_
 go_wp2_with fail
 refine bodyPost_ret (zag (p := 2) (u := 3) (ty := 39) (by rfl) _ _ (w.heap.size + 1) 39 _ _ (by rfl) (by exact hR1.setRow _) Tryz.underlying39 (by rfl) (by exact zaf)) (by rfl) ?_
 exact ⟨y, rfl, hy.at_only hO hoB (by omega) (by omega), hoA, below_setRow hB7 (by omega) _⟩
theorem ze3 {f : List UInt8 → List UInt8} {D : DK} {k n z : Nat} {m : MemK} (h : hasK f D = some (k, n, m, z)) : zaX m = true ∧ fitM m ∧ n < 18446744073709551616 ∧ (k = 0 ∨ k = 1) := by
 unfold hasK at h
 split at h
 ·rename_i a b ha hb
  split at h
  ·injection h with h
   injection h with h1 h2
   subst h2
   exact ⟨zcK ha, (zb9 ha).2, (zb9 ha).1, .inl h1.symm⟩
  ·injection h with h
   injection h with h1 h2
   subst h2
   exact ⟨zcK hb, (zb9 hb).2, (zb9 hb).1, .inr h1.symm⟩
 ·rename_i a ha hb
  injection h with h
  injection h with h1 h2
  subst h2
  exact ⟨zcK ha, (zb9 ha).2, (zb9 ha).1, .inl h1.symm⟩
 ·rename_i b ha hb
  injection h with h
  injection h with h1 h2
  subst h2
  exact ⟨zcK hb, (zb9 hb).2, (zb9 hb).1, .inr h1.symm⟩
 ·cases h
theorem zlM {n n' : Nat} {m m' : MemK} (h : zaz n m = zaz n' m') (hr : zaX m = true) (hr' : zaX m' = true) (hf : fitM m) (hf' : fitM m') (hn : n < 18446744073709551616) (hn' : n' < 18446744073709551616) : n = n' ∧ m = m' := by
 have h1 := zfJ hr hf hn
 rw [h, zfJ hr' hf' hn'] at h1
 injection h1 with h1
 injection h1 with h1 h2
 exact ⟨h1.symm, h2.symm⟩
theorem zj6 {f : List UInt8 → List UInt8} {s : ShK} (hf : fitM s.m) (hn : s.num < 18446744073709551616) :
  zav f s ↔ (zaA s.d ∧ s.d.down = false ∧ s.num ≤ 4611686018427387904 ∧ zaX s.m = true) ∧ ∃ k n m z, hasK f s.d = some (k, n, m, z) ∧ z = (getA s.d k).b.length ∧ (k : Int) = s.turn ∧ (getA s.d k).s = (getA s.d k).b.length ∧ zaz n m = zaz s.num s.m := by
 constructor
 ·rintro ⟨h1, h2, h3, h5, h6, h7⟩
  obtain ⟨a1, a2, a3, a4⟩ := ze3 h6
  exact ⟨⟨h1, h2, h5, a1⟩, s.turn.toNat, s.num, s.m, _, h6, rfl, by omega, h7, rfl⟩
 ·rintro ⟨⟨h1, h2, h3, h5⟩, k, n, m, z, h6, h7, h8, h9, h10⟩
  obtain ⟨a1, a2, a3, a4⟩ := ze3 h6
  obtain ⟨rfl, rfl⟩ := zlM h10 a1 h5 a2 hf a3 hn
  have hk : s.turn.toNat = k := by omega
  refine ⟨h1, h2, by omega, h3, ?_, ?_⟩
  ·rw [hk, h6, h7]
  ·rw [hk]
   exact h9
def zpG (w : World) (P : Prop) (e : Ending) (w' : World) : Prop := ∃ r : Bool, e = .returned (.bool r) ∧ Hid (r = true ↔ P) ∧ Below w.heap.size w w'
def rtS (g4 g5 g1 : Nat) (a b n c d e f h i j N C E F G H I J : Value) (W : World) : Prop := W.cell? ⟨g5, 0, none⟩ = some a ∧ (W.cell? ⟨g5, 1, none⟩ = some b ∧ (W.cell? ⟨g4, 1, none⟩ = some n ∧ (W.cell? ⟨g4, 2, none⟩ = some c ∧ (W.cell? ⟨g4, 3, none⟩ = some d ∧ (W.cell? ⟨g4, 4, none⟩ = some e ∧ (W.cell? ⟨g4, 5, none⟩ = some f ∧ (W.cell? ⟨g4, 6, none⟩ = some h ∧ (W.cell? ⟨g4, 7, none⟩ = some i ∧ (W.cell? ⟨g4, 8, none⟩ = some j ∧ (W.cell? ⟨g1, 8, none⟩ = some N ∧ (W.cell? ⟨g1, 9, none⟩ = some C ∧ (W.cell? ⟨g1, 10, none⟩ = some E ∧ (W.cell? ⟨g1, 11, none⟩ = some F ∧ (W.cell? ⟨g1, 12, none⟩ = some G ∧ (W.cell? ⟨g1, 13, none⟩ = some H ∧ (W.cell? ⟨g1, 14, none⟩ = some I ∧ (W.cell? ⟨g1, 15, none⟩ = some J)))))))))))))))))
theorem zfA {g4 g5 g1 : Nat} {t4 t5 t1 : TypeId} {a b n c d e f h i j N C E F G H I J x4 y4 z0 z1 z2 z3 z4 z5 z6 z7 : Value} {W : World} (h5 : Row W g5 t5 [a, b]) (h4 : Row W g4 t4 [x4, n, c, d, e, f, h, i, j, y4]) (h1 : Row W g1 t1 [z0, z1, z2, z3, z4, z5, z6, z7, N, C, E, F, G, H, I, J]) : rtS g4 g5 g1 a b n c d e f h i j N C E F G H I J W :=
 ⟨h5.cell rfl, h5.cell rfl, h4.cell rfl, h4.cell rfl, h4.cell rfl, h4.cell rfl, h4.cell rfl, h4.cell rfl, h4.cell rfl, h4.cell rfl, h1.cell rfl, h1.cell rfl, h1.cell rfl, h1.cell rfl, h1.cell rfl, h1.cell rfl, h1.cell rfl, h1.cell rfl⟩
theorem zi8 (b o : Nat) (W : World) : (Instr.indexAt 25 (.pointer (some ⟨b, o, none⟩)) (.int .i64 0)).run Tryz.prog W = .ok (.pointer (some ⟨b, o, none⟩)) W := by kernel_rfl
theorem zi9 (b : Nat) (W : World) : (Instr.indexAt 25 (.pointer (some ⟨b, 0, none⟩)) (.int .i64 1)).run Tryz.prog W = .ok (.pointer (some ⟨b, 2, none⟩)) W := by kernel_rfl
theorem zdE [Inhabited Tab] (x : WS) (s : ShK) (w : World) (h : InS w x s) (hn0 : x.d.n0 ≤ 1000000000) (hn1 : x.d.n1 ≤ 1000000000) (hnum : s.num < 18446744073709551616) (HK : Hid (KTab w)) :
  Calls Tryz.prog 15 #[aggS x s] w (zpG w (zav fS s)) := by
 obtain ⟨hR0, hB⟩ := zat w 39 (lS x s) _ rfl
 have HI := Lib.hid (fun W (hb : Below w.heap.size w W) => h.keep hb)
 have HRT := Lib.hid (zj6 (f := fS) h.im.fit hnum)
 have HDR := Lib.hid (fun W (hb : Below w.heap.size w W) => zdx x.d s.d W (h.id.keep hb))
 have HMR := Lib.hid (fun W (hb : Below w.heap.size w W) => zfz x.m s.m W (h.im.keep hb))
 have HNW := Lib.hid (fun W (hb : Below w.heap.size w W) => zho x.d s.d W (h.id.keep hb) hn0 hn1 (Lib.hid (HK.out.keep hb)))
 have HL0 := Lib.hid h.id.l0
 have HL1 := Lib.hid h.id.l1
 unfold aggD at HDR HNW
 unfold aggM at HMR
 clear h
 unfold aggS
 obtain ⟨PD, hPD⟩ : ∃ P, decide (zaA s.d) = P := ⟨_, rfl⟩
 obtain ⟨PM, hPM⟩ : ∃ P, zaX s.m = P := ⟨_, rfl⟩
 have HPD := Lib.hid hPD
 have HPM := Lib.hid hPM
 rw [hPD] at HDR
 rw [hPM] at HMR
 clear hPD hPM
 have no : ¬ (PD = true ∧ s.d.down = false ∧ s.num ≤ 4611686018427387904 ∧ PM = true) → ¬ zav fS s := fun hn hr => hn (by
  obtain ⟨⟨h1, h2, h3, h4⟩, _⟩ := HRT.out.1 hr
  exact ⟨by rw [← HPD.out]; exact decide_eq_true h1, h2, h3, by rw [← HPM.out]; exact h4⟩)
 have NO := Lib.hid no
 clear no
 go_enter Tryz.func15, Tryz.ntmps15
 go_upto_region 1 with fail
 generalize (w.alloc (.cells (lS x s).toArray 39)) = W0 at hR0 hB ⊢
 go_wp2_with (refine zac rfl 27 (.tmp 6) rfl (w.heap.size) 0 rfl _ _ (hR0) ((lD x.d s.d)) (by rfl) _ Tryz.underlying27 rfl (by exact zaj) ?_)
 refine (HDR.out _ hB).mono ?_
 rintro e w1 ⟨rfl, hb⟩
 replace hR0 := hR0.later hb
 replace hB := zaa hB hb
 clear hb HDR
 cases PD with
 | false =>
  have HNN := Lib.hid (NO.out (fun hh => by have := hh.1; cases this))
  go_wp2_with fail
  go_ret
  exact ⟨false, rfl, ⟨(fun h => by cases h), fun h => absurd h HNN.out⟩, hB⟩
 | true =>
  have k6 := hR0.cell (i := 6) rfl
  obtain ⟨dn, hdn⟩ : ∃ b, s.d.down = b := ⟨_, rfl⟩
  have HDN := Lib.hid hdn
  rw [hdn] at k6
  cases dn with
  | true =>
   have HNN := Lib.hid (NO.out (fun hh => by have := hh.2.1; rw [HDN.out] at this; cases this))
   clear hdn
   go_wp2_with fail
   go_ret
   exact ⟨false, rfl, ⟨(fun h => by cases h), fun h => absurd h HNN.out⟩, hB⟩
  | false =>
   clear hdn
   have k8 := hR0.cell (i := 8) rfl
   by_cases hmx : 4611686018427387904 < s.num
   ·have HNN := Lib.hid (NO.out (fun hh => by have := hh.2.2.1; omega))
    have i1 : (4611686018427387904 : Int) < (s.num : Int) := by omega
    clear hmx
    go_wp2_with fail
    go_ret
    exact ⟨false, rfl, ⟨(fun h => by cases h), fun h => absurd h HNN.out⟩, hB⟩
   ·have HMX : Hid (s.num ≤ 4611686018427387904) := Nat.le_of_not_lt hmx
    have i1 : ¬ (4611686018427387904 : Int) < (s.num : Int) := by omega
    clear hmx
    have m0 := hR0.cell (i := 9) rfl
    have m1 := hR0.cell (i := 10) rfl
    have m2 := hR0.cell (i := 11) rfl
    have m3 := hR0.cell (i := 12) rfl
    have m4 := hR0.cell (i := 13) rfl
    have m5 := hR0.cell (i := 14) rfl
    have m6 := hR0.cell (i := 15) rfl
    go_wp2_with fail
    refine (HMR.out _ hB).mono ?_
    rintro e w2 ⟨rfl, hb⟩
    replace hR0 := hR0.later hb
    replace hB := zaa hB hb
    clear hb HMR m0 m1 m2 m3 m4 m5 m6 k6 k8
    cases PM with
    | false =>
     have HNN := Lib.hid (NO.out (fun hh => by have := hh.2.2.2; cases this))
     go_wp2_with fail
     go_ret
     exact ⟨false, rfl, ⟨(fun h => by cases h), fun h => absurd h HNN.out⟩, hB⟩
    | true =>
     clear NO
     have HPRE : Hid (zaA s.d ∧ s.d.down = false ∧ s.num ≤ 4611686018427387904 ∧ zaX s.m = true) := ⟨of_decide_eq_true HPD.out, HDN.out, HMX.out, HPM.out⟩
     go_wp2_with (refine zac rfl 27 (.tmp 27) rfl (w.heap.size) 0 rfl _ _ (hR0) ((lD x.d s.d)) (by rfl) _ Tryz.underlying27 rfl (by exact zaj) ?_)
     refine (HNW.out _ hB).mono ?_
     rintro e w3 ⟨t, sf, num, xm, m, a, rfl, hI, ho, hnm, ht, hs0, hs1, hb⟩
     replace hR0 := hR0.later hb
     replace hB := zaa hB hb
     obtain ⟨hR4, hB4⟩ := zat w3 79 [.bool false, .int .u64 0, .int .u64 0, .int .u64 0, .slice none 0 0, .slice none 0 0, .int .i64 0, .int .u64 0, .slice none 0 0, .bool false] _ rfl
     clear hb HNW
     go_upto_region 4 with (refine zab rfl 79 (.tmp 4) (.tmp 31) rfl (w3.heap.size) rfl ([.bool sf, .int .u64 (num : Int), .int .u64 (m.clock : Int), .int .u64 (m.b.1 : Int), .slice xm.b.eA xm.b.n xm.b.ec, .slice xm.b.gA xm.b.g xm.b.gc, .int .i64 m.c.1, .int .u64 (m.c.2.1 : Int), .slice xm.c.A xm.c.s xm.c.c, .bool a]) rfl _ _ (hR4) (by exact zaG) rfl (zbQ sf num xm m a) ?_)
     have hR42 := hR4.setRow [.bool sf, .int .u64 (num : Int), .int .u64 (m.clock : Int), .int .u64 (m.b.1 : Int), .slice xm.b.eA xm.b.n xm.b.ec, .slice xm.b.gA xm.b.g xm.b.gc, .int .i64 m.c.1, .int .u64 (m.c.2.1 : Int), .slice xm.c.A xm.c.s xm.c.c, .bool a]
     have hbn := below_setRow hB4 (Nat.le_refl _) [.bool sf, .int .u64 (num : Int), .int .u64 (m.clock : Int), .int .u64 (m.b.1 : Int), .slice xm.b.eA xm.b.n xm.b.ec, .slice xm.b.gA xm.b.g xm.b.gc, .int .i64 m.c.1, .int .u64 (m.c.2.1 : Int), .slice xm.c.A xm.c.s xm.c.c, .bool a].toArray
     clear hR4 hB4
     generalize (w3.alloc (.cells #[.bool false, .int .u64 0, .int .u64 0, .int .u64 0, .slice none 0 0, .slice none 0 0, .int .i64 0, .int .u64 0, .slice none 0 0, .bool false] 79)).setRow w3.heap.size [.bool sf, .int .u64 (num : Int), .int .u64 (m.clock : Int), .int .u64 (m.b.1 : Int), .slice xm.b.eA xm.b.n xm.b.ec, .slice xm.b.gA xm.b.g xm.b.gc, .int .i64 m.c.1, .int .u64 (m.c.2.1 : Int), .slice xm.c.A xm.c.s xm.c.c, .bool a].toArray = w4 at hR42 hbn ⊢
     have hg4 : w.heap.size < w3.heap.size := hR0.lt
     replace hR0 := hR0.later hbn
     replace hI := hI.keep hbn
     replace hB := zaa hB hbn
     clear hbn
     generalize w3.heap.size = g4 at hR42 hg4 ⊢
     have k0 := hR42.cell (i := 0) rfl
     cases sf with
     | false =>
      have HNN : Hid (¬ zav fS s) := fun hr => by
       obtain ⟨_, k, n, m, z, h1, _⟩ := HRT.out.1 hr
       rw [hs0.out rfl] at h1
       cases h1
      clear hs0 hs1
      go_wp2_with fail
      go_ret
      exact ⟨false, rfl, ⟨(fun h => by cases h), fun h => absurd h HNN.out⟩, hB⟩
     | true =>
      have HZ := Lib.hid (hs1.out rfl)
      clear hs0 hs1
      have k9 := hR42.cell (i := 9) rfl
      cases a with
      | false =>
       have HNN : Hid (¬ zav fS s) := fun hr => by
        obtain ⟨_, k, n, m, z, h1, h2, _⟩ := HRT.out.1 hr
        obtain ⟨z', h3, h4⟩ := HZ.out
        rw [h3] at h1
        injection h1 with h1
        injection h1 with e1 e2
        injection e2 with e2 e3
        injection e3 with e3 e4
        have := h4.2 (by rw [e4, e1]; exact h2)
        cases this
       go_wp2_with fail
       go_ret
       exact ⟨false, rfl, ⟨(fun h => by cases h), fun h => absurd h HNN.out⟩, hB⟩
      | true =>
       have k7 := hR0.cell (i := 7) rfl
       obtain ⟨z, hz, hzz⟩ := HZ.out
       have HZ2 := Lib.hid (And.intro hz (hzz.1 rfl))
       have HAR := Lib.hid (ze3 hz)
       clear hz hzz HZ
       by_cases htt : t = s.turn
       ·have HTT := Lib.hid htt
        have j0 : (t == s.turn) = true := beq_iff_eq.2 htt
        have j1 : (t != s.turn) = false := by rw [bne, j0]; rfl
        clear htt
        rcases ht with rfl | rfl
        ·have HW : ∀ W, Below w.heap.size w W → True := fun _ _ => trivial
         have ix := zi8 w.heap.size 0
         obtain ⟨hR5, hB5⟩ := zat w4 24 [.slice none 0 0, .int .i64 0] _ rfl
         go_upto_region 7 with (first
          | (refine zac rfl 24 (.tmp 49) rfl (w.heap.size) 0 rfl _ _ (hR0) ([.slice x.d.A0 x.d.n0 x.d.c0, .int .i64 s.d.a0.s]) (by rfl) _ Tryz.underlying24 rfl (by exact zau) ?_)
          | (refine zab rfl 24 (.tmp 5) (.tmp 50) rfl (w4.heap.size) rfl ([.slice x.d.A0 x.d.n0 x.d.c0, .int .i64 s.d.a0.s]) rfl _ _ (hR5) (by exact zau) rfl (zaN x.d.A0 x.d.n0 x.d.c0 s.d.a0.s) ?_))
         have hR52 := hR5.setRow [.slice x.d.A0 x.d.n0 x.d.c0, .int .i64 s.d.a0.s]
         have hbn := below_setRow hB5 (Nat.le_refl _) [.slice x.d.A0 x.d.n0 x.d.c0, .int .i64 s.d.a0.s].toArray
         clear hR5 hB5
         generalize (w4.alloc (.cells #[.slice none 0 0, .int .i64 0] 24)).setRow w4.heap.size [.slice x.d.A0 x.d.n0 x.d.c0, .int .i64 s.d.a0.s].toArray = w5 at hR52 hbn ⊢
         replace hR0 := hR0.later hbn
         have hg5 := hR42.lt
         replace hR42 := hR42.later hbn
         replace hI := hI.keep hbn
         replace hB := zaa hB hbn
         clear hbn k0 k9 k7 ix
         generalize w4.heap.size = g5 at hR52 hg5 ⊢
         have hS : rtS g4 g5 w.heap.size (.slice x.d.A0 x.d.n0 x.d.c0) (.int .i64 s.d.a0.s) (.int .u64 (num : Int)) (.int .u64 (m.clock : Int)) (.int .u64 (m.b.1 : Int)) (.slice xm.b.eA xm.b.n xm.b.ec) (.slice xm.b.gA xm.b.g xm.b.gc) (.int .i64 m.c.1) (.int .u64 (m.c.2.1 : Int)) (.slice xm.c.A xm.c.s xm.c.c) (.int .u64 (s.num : Int)) (.int .u64 (s.m.clock : Int)) (.int .u64 (s.m.b.1 : Int)) (.slice x.m.b.eA x.m.b.n x.m.b.ec) (.slice x.m.b.gA x.m.b.g x.m.b.gc) (.int .i64 s.m.c.1) (.int .u64 (s.m.c.2.1 : Int)) (.slice x.m.c.A x.m.c.s x.m.c.c) w5.drew := zfA (W := w5.drew) hR52 hR42 hR0
         have hR0' := hR0.drew
         have hR4' := hR42.drew
         have hR5' := hR52.drew
         have hI' := hI.keep ((Below.refl _ w5).drew)
         have hB' := hB.drew
         have HLN : Hid ((getA s.d 0).b.length = x.d.n0) := HL0.out
         obtain ⟨sq, hsq⟩ : ∃ b, (s.d.a0.s == (x.d.n0 : Int)) = b := ⟨_, rfl⟩
         cases sq with
         | false =>
          have HNN : Hid (¬ zav fS s) := fun hr => by
           obtain ⟨_, k, n, m', z', h1, h2, h3, h4, _⟩ := HRT.out.1 hr
           have hk : k = 0 := by rw [← HTT.out] at h3; omega
           subst hk
           rw [HLN.out] at h4
           rw [show (getA s.d 0).s = s.d.a0.s from rfl] at h4
           rw [h4, beq_self_eq_true] at hsq
           cases hsq
          refine zah (rtS g4 g5 w.heap.size (.slice x.d.A0 x.d.n0 x.d.c0) (.int .i64 s.d.a0.s) (.int .u64 (num : Int)) (.int .u64 (m.clock : Int)) (.int .u64 (m.b.1 : Int)) (.slice xm.b.eA xm.b.n xm.b.ec) (.slice xm.b.gA xm.b.g xm.b.gc) (.int .i64 m.c.1) (.int .u64 (m.c.2.1 : Int)) (.slice xm.c.A xm.c.s xm.c.c) (.int .u64 (s.num : Int)) (.int .u64 (s.m.clock : Int)) (.int .u64 (s.m.b.1 : Int)) (.slice x.m.b.eA x.m.b.n x.m.b.ec) (.slice x.m.b.gA x.m.b.g x.m.b.gc) (.int .i64 s.m.c.1) (.int .u64 (s.m.c.2.1 : Int)) (.slice x.m.c.A x.m.c.s x.m.c.c)) (.step 0 false (.step 1 false (.step 2 false (.step 3 false (.step 4 false (.step 5 false (.step 6 false (.step 7 false (.step 8 false (.step 9 false (.step 10 false (.step 12 false (.step 13 false (.step 14 false (.step 15 false (.step 11 true (.step 16 true (.step 17 true (.step 18 false (.step 19 false (.nil))))))))))))))))))))) hS (by kernel_rfl) (by kernel_rfl) (by rfl) (by kernel_rfl) ?_
          clear hR0 hR42 hR52 hI hB hR0' hR4' hR5' hI' HRT
          generalize w5.drew = wv at *
          iterate 7 (refine zae rfl (by rfl) (v := ?_) ?_ ?_; rotate_left 1; (rintro W ⟨hW0, hW1⟩; go_simp <;> with_reducible rfl); simp only [pA, pB, pC, Act.put, pD, pE, pF])
          iterate 11 (refine zdh rfl (by rfl) ?_; simp only [pA, pB, pC, Act.put, pD, pE, pF])
          iterate 2 (refine zae rfl (by rfl) (v := ?_) ?_ ?_; rotate_left 1; (rintro W ⟨hW0, hW1⟩; go_simp <;> with_reducible rfl); simp only [pA, pB, pC, Act.put, pD, pE, pF])
          refine zal ?_
          go_wp2_with fail
          go_ret
          exact ⟨false, rfl, ⟨(fun h => by cases h), fun h => absurd h HNN.out⟩, hB'⟩
         | true =>
          have hsq2 : s.d.a0.s = (x.d.n0 : Int) := beq_iff_eq.1 hsq
          have HIF : Hid (zaz num m = zaz s.num s.m ↔ zav fS s) := by
           constructor
           ·intro he
            exact HRT.out.2 ⟨HPRE.out, 0, num, m, z, HZ2.out.1, HZ2.out.2, HTT.out, by rw [HLN.out]; exact hsq2, he⟩
           ·intro hr
            obtain ⟨_, k, n, m', z', h1, h2, h3, h4, h5⟩ := HRT.out.1 hr
            rw [HZ2.out.1] at h1
            injection h1 with h1
            injection h1 with e1 e2
            injection e2 with e2 e3
            injection e3 with e3 e4
            rw [e2, e3]
            exact h5
          have HM1 := Lib.hid (fun W (hb : Below w5.drew.heap.size w5.drew W) => zdm num xm m W (hI'.keep hb) HAR.out.1 hnm)
          have HM2 := Lib.hid (fun W (hb : Below w.heap.size w W) => zdm s.num x.m s.m W (HI.out W hb).im HPM.out hnum)
          unfold aggM at HM1 HM2
          clear hsq2 HRT
          refine zah (rtS g4 g5 w.heap.size (.slice x.d.A0 x.d.n0 x.d.c0) (.int .i64 s.d.a0.s) (.int .u64 (num : Int)) (.int .u64 (m.clock : Int)) (.int .u64 (m.b.1 : Int)) (.slice xm.b.eA xm.b.n xm.b.ec) (.slice xm.b.gA xm.b.g xm.b.gc) (.int .i64 m.c.1) (.int .u64 (m.c.2.1 : Int)) (.slice xm.c.A xm.c.s xm.c.c) (.int .u64 (s.num : Int)) (.int .u64 (s.m.clock : Int)) (.int .u64 (s.m.b.1 : Int)) (.slice x.m.b.eA x.m.b.n x.m.b.ec) (.slice x.m.b.gA x.m.b.g x.m.b.gc) (.int .i64 s.m.c.1) (.int .u64 (s.m.c.2.1 : Int)) (.slice x.m.c.A x.m.c.s x.m.c.c)) (.step 0 false (.step 1 false (.step 2 false (.step 3 false (.step 4 false (.step 5 false (.step 6 false (.step 7 false (.step 8 false (.step 9 false (.step 10 false (.step 12 false (.step 13 false (.step 14 false (.step 15 false (.step 11 true (.step 16 true (.step 17 true (.step 18 false (.step 19 false (.nil))))))))))))))))))))) hS (by kernel_rfl) (by kernel_rfl) (by rfl) (by kernel_rfl) ?_
          clear hR0 hR42 hR52 hI hB
          generalize w5.drew = wv at *
          iterate 15 (refine zae rfl (by rfl) (v := ?_) ?_ ?_; rotate_left 1; (rintro W ⟨hW0, hW1⟩; go_simp <;> with_reducible rfl); simp only [pA, pB, pC, Act.put, pD, pE, pF])
          refine zad rfl (by rfl) (fun K hK => ?_)
          go_simp
          refine (HM1.out _ (Below.refl _ _)).mono ?_
          rintro e w6 ⟨v6, rfl, hown6, hb6⟩
          obtain ⟨A6, c6, rfl, hc6, hr6⟩ := zbk hown6
          have hR06 := hR0'.later hb6
          have hR46 := hR4'.later hb6
          have hR56 := hR5'.later hb6
          have hB6 := zaa hB' hb6
          refine hK.out _ _ (zfA hR56 hR46 hR06) ?_
          clear hK K hb6 hown6 hR0' hR4' hR5' hB' hS HM1 hI'
          refine zad rfl (by rfl) (fun K hK => ?_)
          go_simp
          refine (HM2.out _ hB6).mono ?_
          rintro e w7 ⟨v7, rfl, hown7, hb7⟩
          obtain ⟨A7, c7, rfl, hc7, hr7⟩ := zbk hown7
          have hr67 := hr6.keep hb7
          have hB7 := zaa hB6 hb7
          refine hK.out _ _ (zfA (hR56.later hb7) (hR46.later hb7) (hR06.later hb7)) ?_
          have hS7 := zfA (hR56.later hb7) (hR46.later hb7) (hR06.later hb7)
          clear hK K hb7 hown7 hR06 hR46 hR56 hB6 HM2 hr6
          refine zad rfl (by rfl) (fun K hK => ?_)
          go_simp
          refine (zgk _ _ _ _ A6 A7 c6 c7 w7 (Lib.hid rfl) (Lib.hid rfl) hr67 hr7).mono ?_
          rintro e w8 ⟨rfl, rfl⟩
          refine hK.out _ _ hS7 ?_
          clear hK K hS7
          iterate 2 (refine zae rfl (by rfl) (v := ?_) ?_ ?_; rotate_left 1; (rintro W ⟨hW0, hW1⟩; go_simp <;> with_reducible rfl); simp only [pA, pB, pC, Act.put, pD, pE, pF])
          refine zal ?_
          go_wp2_with fail
          go_ret
          exact ⟨_, rfl, by unfold Hid; rw [decide_eq_true_iff]; exact HIF.out, hB7⟩
        ·have HW : ∀ W, Below w.heap.size w W → True := fun _ _ => trivial
         have ix := zi9 w.heap.size
         obtain ⟨hR5, hB5⟩ := zat w4 24 [.slice none 0 0, .int .i64 0] _ rfl
         go_upto_region 7 with (first
          | (refine zac rfl 24 (.tmp 49) rfl (w.heap.size) 2 rfl _ _ (hR0) ([.slice x.d.A1 x.d.n1 x.d.c1, .int .i64 s.d.a1.s]) (by rfl) _ Tryz.underlying24 rfl (by exact zau) ?_)
          | (refine zab rfl 24 (.tmp 5) (.tmp 50) rfl (w4.heap.size) rfl ([.slice x.d.A1 x.d.n1 x.d.c1, .int .i64 s.d.a1.s]) rfl _ _ (hR5) (by exact zau) rfl (zaN x.d.A1 x.d.n1 x.d.c1 s.d.a1.s) ?_))
         have hR52 := hR5.setRow [.slice x.d.A1 x.d.n1 x.d.c1, .int .i64 s.d.a1.s]
         have hbn := below_setRow hB5 (Nat.le_refl _) [.slice x.d.A1 x.d.n1 x.d.c1, .int .i64 s.d.a1.s].toArray
         clear hR5 hB5
         generalize (w4.alloc (.cells #[.slice none 0 0, .int .i64 0] 24)).setRow w4.heap.size [.slice x.d.A1 x.d.n1 x.d.c1, .int .i64 s.d.a1.s].toArray = w5 at hR52 hbn ⊢
         replace hR0 := hR0.later hbn
         have hg5 := hR42.lt
         replace hR42 := hR42.later hbn
         replace hI := hI.keep hbn
         replace hB := zaa hB hbn
         clear hbn k0 k9 k7 ix
         generalize w4.heap.size = g5 at hR52 hg5 ⊢
         have hS : rtS g4 g5 w.heap.size (.slice x.d.A1 x.d.n1 x.d.c1) (.int .i64 s.d.a1.s) (.int .u64 (num : Int)) (.int .u64 (m.clock : Int)) (.int .u64 (m.b.1 : Int)) (.slice xm.b.eA xm.b.n xm.b.ec) (.slice xm.b.gA xm.b.g xm.b.gc) (.int .i64 m.c.1) (.int .u64 (m.c.2.1 : Int)) (.slice xm.c.A xm.c.s xm.c.c) (.int .u64 (s.num : Int)) (.int .u64 (s.m.clock : Int)) (.int .u64 (s.m.b.1 : Int)) (.slice x.m.b.eA x.m.b.n x.m.b.ec) (.slice x.m.b.gA x.m.b.g x.m.b.gc) (.int .i64 s.m.c.1) (.int .u64 (s.m.c.2.1 : Int)) (.slice x.m.c.A x.m.c.s x.m.c.c) w5.drew := zfA (W := w5.drew) hR52 hR42 hR0
         have hR0' := hR0.drew
         have hR4' := hR42.drew
         have hR5' := hR52.drew
         have hI' := hI.keep ((Below.refl _ w5).drew)
         have hB' := hB.drew
         have HLN : Hid ((getA s.d 1).b.length = x.d.n1) := HL1.out
         obtain ⟨sq, hsq⟩ : ∃ b, (s.d.a1.s == (x.d.n1 : Int)) = b := ⟨_, rfl⟩
         cases sq with
         | false =>
          have HNN : Hid (¬ zav fS s) := fun hr => by
           obtain ⟨_, k, n, m', z', h1, h2, h3, h4, _⟩ := HRT.out.1 hr
           have hk : k = 1 := by rw [← HTT.out] at h3; omega
           subst hk
           rw [HLN.out] at h4
           rw [show (getA s.d 1).s = s.d.a1.s from rfl] at h4
           rw [h4, beq_self_eq_true] at hsq
           cases hsq
          refine zah (rtS g4 g5 w.heap.size (.slice x.d.A1 x.d.n1 x.d.c1) (.int .i64 s.d.a1.s) (.int .u64 (num : Int)) (.int .u64 (m.clock : Int)) (.int .u64 (m.b.1 : Int)) (.slice xm.b.eA xm.b.n xm.b.ec) (.slice xm.b.gA xm.b.g xm.b.gc) (.int .i64 m.c.1) (.int .u64 (m.c.2.1 : Int)) (.slice xm.c.A xm.c.s xm.c.c) (.int .u64 (s.num : Int)) (.int .u64 (s.m.clock : Int)) (.int .u64 (s.m.b.1 : Int)) (.slice x.m.b.eA x.m.b.n x.m.b.ec) (.slice x.m.b.gA x.m.b.g x.m.b.gc) (.int .i64 s.m.c.1) (.int .u64 (s.m.c.2.1 : Int)) (.slice x.m.c.A x.m.c.s x.m.c.c)) (.step 0 false (.step 1 false (.step 2 false (.step 3 false (.step 4 false (.step 5 false (.step 6 false (.step 7 false (.step 8 false (.step 9 false (.step 10 false (.step 12 false (.step 13 false (.step 14 false (.step 15 false (.step 11 true (.step 16 true (.step 17 true (.step 18 false (.step 19 false (.nil))))))))))))))))))))) hS (by kernel_rfl) (by kernel_rfl) (by rfl) (by kernel_rfl) ?_
          clear hR0 hR42 hR52 hI hB hR0' hR4' hR5' hI' HRT
          generalize w5.drew = wv at *
          iterate 7 (refine zae rfl (by rfl) (v := ?_) ?_ ?_; rotate_left 1; (rintro W ⟨hW0, hW1⟩; go_simp <;> with_reducible rfl); simp only [pA, pB, pC, Act.put, pD, pE, pF])
          iterate 11 (refine zdh rfl (by rfl) ?_; simp only [pA, pB, pC, Act.put, pD, pE, pF])
          iterate 2 (refine zae rfl (by rfl) (v := ?_) ?_ ?_; rotate_left 1; (rintro W ⟨hW0, hW1⟩; go_simp <;> with_reducible rfl); simp only [pA, pB, pC, Act.put, pD, pE, pF])
          refine zal ?_
          go_wp2_with fail
          go_ret
          exact ⟨false, rfl, ⟨(fun h => by cases h), fun h => absurd h HNN.out⟩, hB'⟩
         | true =>
          have hsq2 : s.d.a1.s = (x.d.n1 : Int) := beq_iff_eq.1 hsq
          have HIF : Hid (zaz num m = zaz s.num s.m ↔ zav fS s) := by
           constructor
           ·intro he
            exact HRT.out.2 ⟨HPRE.out, 1, num, m, z, HZ2.out.1, HZ2.out.2, HTT.out, by rw [HLN.out]; exact hsq2, he⟩
           ·intro hr
            obtain ⟨_, k, n, m', z', h1, h2, h3, h4, h5⟩ := HRT.out.1 hr
            rw [HZ2.out.1] at h1
            injection h1 with h1
            injection h1 with e1 e2
            injection e2 with e2 e3
            injection e3 with e3 e4
            rw [e2, e3]
            exact h5
          have HM1 := Lib.hid (fun W (hb : Below w5.drew.heap.size w5.drew W) => zdm num xm m W (hI'.keep hb) HAR.out.1 hnm)
          have HM2 := Lib.hid (fun W (hb : Below w.heap.size w W) => zdm s.num x.m s.m W (HI.out W hb).im HPM.out hnum)
          unfold aggM at HM1 HM2
          clear hsq2 HRT
          refine zah (rtS g4 g5 w.heap.size (.slice x.d.A1 x.d.n1 x.d.c1) (.int .i64 s.d.a1.s) (.int .u64 (num : Int)) (.int .u64 (m.clock : Int)) (.int .u64 (m.b.1 : Int)) (.slice xm.b.eA xm.b.n xm.b.ec) (.slice xm.b.gA xm.b.g xm.b.gc) (.int .i64 m.c.1) (.int .u64 (m.c.2.1 : Int)) (.slice xm.c.A xm.c.s xm.c.c) (.int .u64 (s.num : Int)) (.int .u64 (s.m.clock : Int)) (.int .u64 (s.m.b.1 : Int)) (.slice x.m.b.eA x.m.b.n x.m.b.ec) (.slice x.m.b.gA x.m.b.g x.m.b.gc) (.int .i64 s.m.c.1) (.int .u64 (s.m.c.2.1 : Int)) (.slice x.m.c.A x.m.c.s x.m.c.c)) (.step 0 false (.step 1 false (.step 2 false (.step 3 false (.step 4 false (.step 5 false (.step 6 false (.step 7 false (.step 8 false (.step 9 false (.step 10 false (.step 12 false (.step 13 false (.step 14 false (.step 15 false (.step 11 true (.step 16 true (.step 17 true (.step 18 false (.step 19 false (.nil))))))))))))))))))))) hS (by kernel_rfl) (by kernel_rfl) (by rfl) (by kernel_rfl) ?_
          clear hR0 hR42 hR52 hI hB
          generalize w5.drew = wv at *
          iterate 15 (refine zae rfl (by rfl) (v := ?_) ?_ ?_; rotate_left 1; (rintro W ⟨hW0, hW1⟩; go_simp <;> with_reducible rfl); simp only [pA, pB, pC, Act.put, pD, pE, pF])
          refine zad rfl (by rfl) (fun K hK => ?_)
          go_simp
          refine (HM1.out _ (Below.refl _ _)).mono ?_
          rintro e w6 ⟨v6, rfl, hown6, hb6⟩
          obtain ⟨A6, c6, rfl, hc6, hr6⟩ := zbk hown6
          have hR06 := hR0'.later hb6
          have hR46 := hR4'.later hb6
          have hR56 := hR5'.later hb6
          have hB6 := zaa hB' hb6
          refine hK.out _ _ (zfA hR56 hR46 hR06) ?_
          clear hK K hb6 hown6 hR0' hR4' hR5' hB' hS HM1 hI'
          refine zad rfl (by rfl) (fun K hK => ?_)
          go_simp
          refine (HM2.out _ hB6).mono ?_
          rintro e w7 ⟨v7, rfl, hown7, hb7⟩
          obtain ⟨A7, c7, rfl, hc7, hr7⟩ := zbk hown7
          have hr67 := hr6.keep hb7
          have hB7 := zaa hB6 hb7
          refine hK.out _ _ (zfA (hR56.later hb7) (hR46.later hb7) (hR06.later hb7)) ?_
          have hS7 := zfA (hR56.later hb7) (hR46.later hb7) (hR06.later hb7)
          clear hK K hb7 hown7 hR06 hR46 hR56 hB6 HM2 hr6
          refine zad rfl (by rfl) (fun K hK => ?_)
          go_simp
          refine (zgk _ _ _ _ A6 A7 c6 c7 w7 (Lib.hid rfl) (Lib.hid rfl) hr67 hr7).mono ?_
          rintro e w8 ⟨rfl, rfl⟩
          refine hK.out _ _ hS7 ?_
          clear hK K hS7
          iterate 2 (refine zae rfl (by rfl) (v := ?_) ?_ ?_; rotate_left 1; (rintro W ⟨hW0, hW1⟩; go_simp <;> with_reducible rfl); simp only [pA, pB, pC, Act.put, pD, pE, pF])
          refine zal ?_
          go_wp2_with fail
          go_ret
          exact ⟨_, rfl, by unfold Hid; rw [decide_eq_true_iff]; exact HIF.out, hB7⟩
       ·have HNN : Hid (¬ zav fS s) := fun hr => by
         obtain ⟨_, k, n, m', z', h1, h2, h3, _⟩ := HRT.out.1 hr
         rw [HZ2.out.1] at h1
         injection h1 with h1
         injection h1 with e1 e2
         rcases ht with h | h <;> rw [h] at e1 htt
         ·exact htt (by rw [← h3, ← e1]; rfl)
         ·exact htt (by rw [← h3, ← e1]; rfl)
        have j0 : (t == s.turn) = false := beq_eq_false_iff_ne.2 htt
        have j1 : (t != s.turn) = true := by rw [bne, j0]; rfl
        clear htt
        go_wp2_with fail
        go_ret
        exact ⟨false, rfl, ⟨(fun h => by cases h), fun h => absurd h HNN.out⟩, hB⟩
end Go.Proofs.YteljklkgdejhpaaGreatDoor
