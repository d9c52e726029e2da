/-
  What the law's deed of layer 20 comes to (landed code). Condition: the package's table holds the sixty-four constants.
-/
import Derived.Test.YteljklkgdejhpaaGreatDoorQL14
set_option linter.unusedSimpArgs false
set_option linter.unusedVariables false
set_option maxRecDepth 100000
set_option maxHeartbeats 16000000
namespace Go.Proofs.YteljklkgdejhpaaGreatDoor
open Go.RowKit
structure De where
 u : Us
 clock : Nat
 floor : Nat
 ver : Nat
 fuse : UInt8
 keep : UInt8
structure fitDe (x : De) : Prop where
 u : zcF x.u
 clock : x.clock < 18446744073709551616
 floor : x.floor < 18446744073709551616
 ver : x.ver < 18446744073709551616
def setF (s : ShK) (fu ke : Int) : ShK := { s with d := { s.d with fuse := fu, keep := ke } }
def zdq (x : De) : Int := if x.fuse.toNat < 6 then (x.fuse.toNat : Int) else -1
def zbs (x : De) : Int := if x.fuse.toNat < 6 then 40 * (x.keep.toNat : Int) else 0
noncomputable def doK (f : List UInt8 → List UInt8) (s : ShK) (x : De) : ShK × Int := if 0 < x.ver then zaD f s (x.ver, [], []) else zbq f s x.u x.clock x.floor
def zfq (dd : De) : List Value := [.int .u64 (dd.u.1 : Int), .int .u64 (dd.u.2.1 : Int), .int .u64 (dd.u.2.2 : Int), .int .u64 (dd.clock : Int), .int .u64 (dd.floor : Int), .int .u64 (dd.ver : Int), .int .u8 (dd.fuse.toNat : Int), .int .u8 (dd.keep.toNat : Int)]
def zgH (dd : De) : Value := .agg #[.int .u64 (dd.u.1 : Int), .int .u64 (dd.u.2.1 : Int), .int .u64 (dd.u.2.2 : Int), .int .u64 (dd.clock : Int), .int .u64 (dd.floor : Int), .int .u64 (dd.ver : Int), .int .u8 (dd.fuse.toNat : Int), .int .u8 (dd.keep.toNat : Int)]
theorem InS.setF {w : World} {x : WS} {s : ShK} (h : InS w x s) (fu ke : Int) : InS w x (setF s fu ke) := ⟨⟨h.id.l0, h.id.h0, h.id.r0, h.id.l1, h.id.h1, h.id.r1⟩, h.im⟩
theorem za4 {f : List UInt8 → List UInt8} {s : ShK} (h : zav f s) {fu ke : Int} (h1 : -1 ≤ fu) (h2 : 0 ≤ ke) : zav f (setF s fu ke) := ⟨⟨h.1.1, h.1.2.1, h1, h2⟩, h.2.1, h.2.2.1, h.2.2.2.1, h.2.2.2.2.1, h.2.2.2.2.2⟩
theorem ze5 {fn : Func} {p q u : Tmp} {ty tz : TypeId} (h : fn.results = #[.cell p ty, .cell q tz, .tmp u]) (tmps : Array Value) (P : Program) (w : World) :
  (results fn tmps).run P w = ((asAddr (tmps.getD p undef)).run P w).andThen fun a w₁ => ((loadVar ty a).run P w₁).andThen fun x w₂ => ((asAddr (tmps.getD q undef)).run P w₂).andThen fun b w₃ => ((loadVar tz b).run P w₃).andThen fun y w₄ => .ok (.tuple #[x, y, tmps.getD u undef]) w₄ := by
 simp only [results, h]
 simp [Sem.run_bind, Result.andThen]
theorem zbR {P : Program} {fn : Func} {p q u : Tmp} {ty tz : TypeId} (h : fn.results = #[.cell p ty, .cell q tz, .tmp u]) (tmps : Array Value) (w : World) (g g' : Nat) (t t' : TypeId) (l l' : List Value) (d d' : TypeDesc) (hp : tmps.getD p undef = .pointer (some ⟨g, 0, none⟩)) (hq : tmps.getD q undef = .pointer (some ⟨g', 0, none⟩)) (hg : Row w g t l) (hg' : Row w g' t' l')
  (hu : P.underlying ty = some d) (hd : d.isRow = true) (hi : (P.info? ty).map (·.size) = some l.length) (hu' : P.underlying tz = some d') (hd' : d'.isRow = true) (hi' : (P.info? tz).map (·.size) = some l'.length) : (results fn tmps).run P w = .ok (.tuple #[.agg l.toArray, .agg l'.toArray, tmps.getD u undef]) w := by
 rw [ze5 h, hp, hq]
 simp only [asAddr, Sem.run_pure, Result.andThen_ok, hg.loadVar (P := P) ty d hu hd hi, hg'.loadVar (P := P) tz d' hu' hd' hi']
def dpS (g1 g2 : Nat) (a0 a1 a2 a3 a4 a5 a6 a7 a8 a9 a10 a11 a12 a13 a14 a15 b0 b1 b2 b3 b4 b5 b6 : Value) (W : World) : Prop := W.cell? ⟨g1, 0, none⟩ = some a0 ∧ (W.cell? ⟨g1, 1, none⟩ = some a1 ∧ (W.cell? ⟨g1, 2, none⟩ = some a2 ∧ (W.cell? ⟨g1, 3, none⟩ = some a3 ∧ (W.cell? ⟨g1, 4, none⟩ = some a4 ∧ (W.cell? ⟨g1, 5, none⟩ = some a5 ∧ (W.cell? ⟨g1, 6, none⟩ = some a6 ∧ (W.cell? ⟨g1, 7, none⟩ = some a7 ∧ (W.cell? ⟨g1, 8, none⟩ = some a8 ∧ (W.cell? ⟨g1, 9, none⟩ = some a9 ∧ (W.cell? ⟨g1, 10, none⟩ = some a10 ∧ (W.cell? ⟨g1, 11, none⟩ = some a11 ∧ (W.cell? ⟨g1, 12, none⟩ = some a12 ∧ (W.cell? ⟨g1, 13, none⟩ = some a13 ∧ (W.cell? ⟨g1, 14, none⟩ = some a14 ∧ (W.cell? ⟨g1, 15, none⟩ = some a15 ∧ (W.cell? ⟨g2, 9, none⟩ = some b0 ∧ (W.cell? ⟨g2, 10, none⟩ = some b1 ∧ (W.cell? ⟨g2, 11, none⟩ = some b2 ∧ (W.cell? ⟨g2, 12, none⟩ = some b3 ∧ (W.cell? ⟨g2, 13, none⟩ = some b4 ∧ (W.cell? ⟨g2, 14, none⟩ = some b5 ∧ (W.cell? ⟨g2, 15, none⟩ = some b6))))))))))))))))))))))
theorem zdH {g1 g2 : Nat} {t1 t2 : TypeId} {a0 a1 a2 a3 a4 a5 a6 a7 a8 a9 a10 a11 a12 a13 a14 a15 b0 b1 b2 b3 b4 b5 b6 c0 c1 c2 c3 c4 c5 c6 c7 c8 : Value} {W : World} (h1 : Row W g1 t1 [a0, a1, a2, a3, a4, a5, a6, a7, a8, a9, a10, a11, a12, a13, a14, a15]) (h2 : Row W g2 t2 [c0, c1, c2, c3, c4, c5, c6, c7, c8, b0, b1, b2, b3, b4, b5, b6]) : dpS g1 g2 a0 a1 a2 a3 a4 a5 a6 a7 a8 a9 a10 a11 a12 a13 a14 a15 b0 b1 b2 b3 b4 b5 b6 W := ⟨h1.cell rfl, h1.cell rfl, h1.cell rfl, h1.cell rfl, h1.cell rfl, h1.cell rfl, h1.cell rfl, h1.cell rfl, h1.cell rfl, h1.cell rfl, h1.cell rfl, h1.cell rfl, h1.cell rfl, h1.cell rfl, h1.cell rfl, h1.cell rfl, h2.cell rfl, h2.cell rfl, h2.cell rfl, h2.cell rfl, h2.cell rfl, h2.cell rfl, h2.cell rfl⟩
def duS (g : Nat) (a b : Value) (W : World) : Prop := W.cell? ⟨g, 6, none⟩ = some a ∧ W.cell? ⟨g, 7, none⟩ = some b
def zlV (w : World) (s' : ShK) (m' : MemK) (er : Int) (e : Ending) (w' : World) : Prop := ∃ y z, e = .returned (.tuple #[aggS y s', aggM z m', .int .i64 er]) ∧ InS w' y s' ∧ InM w' z m' ∧ OffS 0 w.heap.size y ∧ OffM 0 w.heap.size z ∧ Below w.heap.size w w'
theorem zh5 (w : World) {v : Nat} (h : v < 18446744073709551616) : InB w zcC (v, [], []) := ⟨rfl, rfl, rfl, Nat.le_refl _, Nat.le_refl _, RdE.nil, okD.nil _, RdG.nil, by decide, by decide, (fun x hx => by cases hx), ⟨h, (fun x hx => by cases hx), (fun x hx => by cases hx)⟩⟩
theorem zp6 [Inhabited Tab] (x : WS) (s : ShK) (dd : De) (w : World) (h : InS w x s) (hr : zav fS s) (hd : fitDe dd) (hf6 : dd.fuse.toNat < 6) (hv : 0 < dd.ver) (HK : Hid (KTab w)) :
  Calls Tryz.prog 25 #[aggS x s, zgH dd] w (zlV w (doK fS (setF s (zdq dd) (zbs dd)) dd).1 (doK fS (setF s (-1) (zbs dd)) dd).1.m (doK fS (setF s (zdq dd) (zbs dd)) dd).2) := by
 obtain ⟨hR0, hR1, hR2, hB⟩ := za8 w 39 69 39 (lS x s) [.int .u64 (dd.u.1 : Int), .int .u64 (dd.u.2.1 : Int), .int .u64 (dd.u.2.2 : Int), .int .u64 (dd.clock : Int), .int .u64 (dd.floor : Int), .int .u64 (dd.ver : Int), .int .u8 (dd.fuse.toNat : Int), .int .u8 (dd.keep.toNat : Int)] l0S _ _ _ rfl rfl rfl
 obtain ⟨hR3, hB3⟩ := zat (((w.alloc (.cells (lS x s).toArray 39)).alloc (.cells [.int .u64 (dd.u.1 : Int), .int .u64 (dd.u.2.1 : Int), .int .u64 (dd.u.2.2 : Int), .int .u64 (dd.clock : Int), .int .u64 (dd.floor : Int), .int .u64 (dd.ver : Int), .int .u8 (dd.fuse.toNat : Int), .int .u8 (dd.keep.toNat : Int)].toArray 69)).alloc (.cells l0S.toArray 39)) 37 l0M _ rfl
 have hz3 : (((w.alloc (.cells (lS x s).toArray 39)).alloc (.cells [.int .u64 (dd.u.1 : Int), .int .u64 (dd.u.2.1 : Int), .int .u64 (dd.u.2.2 : Int), .int .u64 (dd.clock : Int), .int .u64 (dd.floor : Int), .int .u64 (dd.ver : Int), .int .u8 (dd.fuse.toNat : Int), .int .u8 (dd.keep.toNat : Int)].toArray 69)).alloc (.cells l0S.toArray 39)).heap.size = w.heap.size + 3 := by simp
 rw [hz3] at hR3
 replace hR0 := hR0.later hB3
 replace hR1 := hR1.later hB3
 replace hR2 := hR2.later hB3
 replace hB := zaa hB hB3
 clear hB3 hz3
 obtain ⟨F, hF⟩ : ∃ F, zdq dd = F := ⟨_, rfl⟩
 obtain ⟨K, hK⟩ : ∃ K, zbs dd = K := ⟨_, rfl⟩
 obtain ⟨P, hP⟩ : ∃ P, doK fS (setF s F K) dd = P := ⟨_, rfl⟩
 obtain ⟨Q, hQ⟩ : ∃ Q, doK fS (setF s (-1) K) dd = Q := ⟨_, rfl⟩
 have hFb : -1 ≤ F ∧ F ≤ 1000 := by
  rw [← hF]
  unfold zdq
  split <;> omega
 have hKb : 0 ≤ K ∧ K ≤ 1000000 := by
  have := dd.keep.toNat_lt
  rw [← hK]
  unfold zbs
  split <;> omega
 have HI : ∀ (fu : Int) (G : ShK × Int), -1 ≤ fu → fu ≤ 1000 → doK fS (setF s fu K) dd = G → 0 < dd.ver → ∀ W, Below w.heap.size w W → InS W x s → Calls Tryz.prog 22 #[.agg #[.slice x.d.A0 x.d.n0 x.d.c0, .int .i64 s.d.a0.s, .slice x.d.A1 x.d.n1 x.d.c1, .int .i64 s.d.a1.s, .int .i64 fu, .int .i64 K, .bool s.d.down, .int .i64 s.turn, .int .u64 (s.num : Int), .int .u64 (s.m.clock : Int), .int .u64 (s.m.b.1 : Int), .slice x.m.b.eA x.m.b.n x.m.b.ec, .slice x.m.b.gA x.m.b.g x.m.b.gc, .int .i64 s.m.c.1, .int .u64 (s.m.c.2.1 : Int), .slice x.m.c.A x.m.c.s x.m.c.c], .agg #[.int .u64 (dd.ver : Int), .slice none 0 0, .slice none 0 0]] W (RetX W G.1 G.2) := fun fu G h1 h2 hG hv W hb hx => by
  have hrs := za4 hr h1 hKb.1
  obtain ⟨j1, j2, j3⟩ := zgG hx hr
  have := zcc x (setF s fu K) zcC (dd.ver, [], []) W (hx.setF fu K) (zh5 W hd.ver) j1 j2 j3 (by show fu ≤ _; omega) (by show K ≤ _; omega) (Lib.hid (HK.out.keep hb))
  unfold doK at hG
  rw [if_pos hv] at hG
  rw [hG] at this
  exact this
 have HT : ∀ (fu : Int) (G : ShK × Int), -1 ≤ fu → fu ≤ 1000 → doK fS (setF s fu K) dd = G → ¬ 0 < dd.ver → ∀ W, Below w.heap.size w W → InS W x s → Calls Tryz.prog 20 #[.agg #[.slice x.d.A0 x.d.n0 x.d.c0, .int .i64 s.d.a0.s, .slice x.d.A1 x.d.n1 x.d.c1, .int .i64 s.d.a1.s, .int .i64 fu, .int .i64 K, .bool s.d.down, .int .i64 s.turn, .int .u64 (s.num : Int), .int .u64 (s.m.clock : Int), .int .u64 (s.m.b.1 : Int), .slice x.m.b.eA x.m.b.n x.m.b.ec, .slice x.m.b.gA x.m.b.g x.m.b.gc, .int .i64 s.m.c.1, .int .u64 (s.m.c.2.1 : Int), .slice x.m.c.A x.m.c.s x.m.c.c], .agg #[.int .u64 (dd.u.1 : Int), .int .u64 (dd.u.2.1 : Int), .int .u64 (dd.u.2.2 : Int)], .int .u64 (dd.clock : Int), .int .u64 (dd.floor : Int)] W (RetX W G.1 G.2) := fun fu G h1 h2 hG hv W hb hx => by
  have hrs := za4 hr h1 hKb.1
  obtain ⟨j1, j2, j3⟩ := zgG hx hr
  have := zdp x (setF s fu K) dd.u dd.clock dd.floor W (hx.setF fu K) hd.u hd.clock hd.floor j1 j2 j3 (by show fu ≤ _; omega) (by show K ≤ _; omega) (Lib.hid (HK.out.keep hb))
  unfold doK at hG
  rw [if_neg hv] at hG
  rw [hG] at this
  exact this
 have HI1 := Lib.hid (HI (-1) Q (by omega) (by omega) hQ)
 have HI2 := Lib.hid (HI F P hFb.1 hFb.2 hP)
 have HT1 := Lib.hid (HT (-1) Q (by omega) (by omega) hQ)
 have HT2 := Lib.hid (HT F P hFb.1 hFb.2 hP)
 have HOX := Lib.hid (fun (_ : World) (g : Nat) (hg : w.heap.size ≤ g) => (h.off (g + 1)).mono hg (Nat.le_refl (g + 1)))
 have hx := h.keep hB
 have hx0 : OffS w.heap.size (w.heap.size + 1) x := h.off _
 have HFE := Lib.hid hF
 have HKE := Lib.hid hK
 rw [hF, hK, hP, hQ]
 clear hP hQ HI HT hFb hKb h hr hd HK hF hK
 unfold aggS zgH
 go_enter Tryz.func25, Tryz.ntmps25
 go_upto_region 1 with fail
 generalize (((w.alloc (.cells (lS x s).toArray 39)).alloc (.cells [.int .u64 (dd.u.1 : Int), .int .u64 (dd.u.2.1 : Int), .int .u64 (dd.u.2.2 : Int), .int .u64 (dd.clock : Int), .int .u64 (dd.floor : Int), .int .u64 (dd.ver : Int), .int .u8 (dd.fuse.toNat : Int), .int .u8 (dd.keep.toNat : Int)].toArray 69)).alloc (.cells l0S.toArray 39)).alloc (.cells l0M.toArray 37) = W0 at hR0 hR1 hR2 hR3 hB hx ⊢
 have f4 := hR0.frozen 4
 have c4 : W0.cell? ⟨w.heap.size, 4, none⟩ = some (.int .i64 s.d.fuse) := hR0.cell rfl
 have hO := (Only.refl w.heap.size W0).setCell 4 (.int .i64 (-1))
 have hR00 := hR0.setCell 4 (.int .i64 (-1))
 have f5 := hR00.frozen 5
 have c5 : (W0.setCell ⟨w.heap.size, 4, none⟩ (.int .i64 (-1))).cell? ⟨w.heap.size, 5, none⟩ = some (.int .i64 s.d.keep) := hR00.cell rfl
 have hO2 := hO.setCell 5 (.int .i64 0)
 go_upto_region 2 with fail
 replace hR0 := hR00.setCell 5 (.int .i64 0)
 replace hR1 := hR1.only hO2 (by omega)
 replace hR2 := hR2.only hO2 (by omega)
 replace hR3 := hR3.only hO2 (by omega)
 replace hx := hx.at_only hO2 hx0 (Nat.le_refl _) (Nat.lt_succ_self _)
 replace hB := hB.trans hO2.below
 clear f4 c4 f5 c5 hO hO2 hR00
 generalize (W0.setCell ⟨w.heap.size, 4, none⟩ (.int .i64 (-1))).setCell ⟨w.heap.size, 5, none⟩ (.int .i64 0) = W1 at *
 have k6 : W1.cell? ⟨w.heap.size + 1, 6, none⟩ = some (.int .u8 (dd.fuse.toNat : Int)) := hR1.cell rfl
 have k7 : W1.cell? ⟨w.heap.size + 1, 7, none⟩ = some (.int .u8 (dd.keep.toNat : Int)) := hR1.cell rfl
 have i6 : (dd.fuse.toNat : Int) < 6 := by omega
 have hF1 : (dd.fuse.toNat : Int) = F := by rw [← HFE.out]; exact (if_pos hf6).symm
 have hK1 : 40 * (dd.keep.toNat : Int) = K := by rw [← HKE.out]; exact (if_pos hf6).symm
 have HF1 := Lib.hid hF1
 have HK1 := Lib.hid hK1
 have hkl := dd.keep.toNat_lt
 have hfl := dd.fuse.toNat_lt
 have hw1 : IntKind.i64.wrap (40 * (dd.keep.toNat : Int)) = 40 * (dd.keep.toNat : Int) := by rw [IntKind.wrap_i64]; omega
 have hw2 : IntKind.i64.wrap (dd.keep.toNat : Int) = (dd.keep.toNat : Int) := by rw [IntKind.wrap_i64]; omega
 have hw3 : IntKind.i64.wrap (dd.fuse.toNat : Int) = (dd.fuse.toNat : Int) := by rw [IntKind.wrap_i64]; omega
 clear hf6 hF1 hK1 HFE HKE
 go_upto_region 3 with fail
 have hS : duS (w.heap.size + 1) (.int .u8 (dd.fuse.toNat : Int)) (.int .u8 (dd.keep.toNat : Int)) W1.drew := ⟨k6, k7⟩
 replace hR0 := hR0.drew
 replace hR1 := hR1.drew
 replace hR2 := hR2.drew
 replace hR3 := hR3.drew
 replace hx := hx.keep ((Below.refl _ W1).drew)
 replace hB := hB.drew
 clear k6 k7 i6
 refine zah (duS (w.heap.size + 1) (.int .u8 (dd.fuse.toNat : Int)) (.int .u8 (dd.keep.toNat : Int))) (.step 0 false (.step 1 false (.step 2 false (.step 3 false (.step 4 false (.step 5 false (.step 6 false (.step 7 false (.step 8 false (.step 9 true (.step 10 false (.step 11 false (.step 12 true (.nil)))))))))))))) hS (by kernel_rfl) (by kernel_rfl) (by rfl) (by kernel_rfl) ?_
 generalize W1.drew = W2 at *
 iterate 9 (refine zae rfl (by rfl) (v := ?_) ?_ ?_; rotate_left 1; (rintro W ⟨hW0, hW1⟩; go_simp <;> with_reducible rfl); simp only [pA, pB, pC, Act.put, pD, pE, pF])
 clear hS
 have f4 := hR0.frozen 4
 have c4 : W2.cell? ⟨w.heap.size, 4, none⟩ = some (.int .i64 (-1)) := hR0.cell rfl
 have hO := (Only.refl w.heap.size W2).setCell 4 (.int .i64 (dd.fuse.toNat : Int))
 refine zad rfl (by rfl) (fun K' hK => ?_)
 go_simp
 replace hR1 := hR1.only hO (by omega)
 refine hK.out _ _ ⟨hR1.cell (i := 6) rfl, hR1.cell (i := 7) rfl⟩ ?_
 clear hK K' f4 c4
 replace hR0 := hR0.setCell 4 (.int .i64 (dd.fuse.toNat : Int))
 replace hR2 := hR2.only hO (by omega)
 replace hR3 := hR3.only hO (by omega)
 replace hx := hx.at_only hO hx0 (Nat.le_refl _) (Nat.lt_succ_self _)
 replace hB := hB.trans hO.below
 clear hO
 generalize W2.setCell ⟨w.heap.size, 4, none⟩ (.int .i64 (dd.fuse.toNat : Int)) = W3 at *
 (try simp only [pA, pB, pC, Act.put, pD, pE, pF])
 iterate 2 (refine zae rfl (by rfl) (v := ?_) ?_ ?_; rotate_left 1; (rintro W ⟨hW0, hW1⟩; go_simp <;> with_reducible rfl); simp only [pA, pB, pC, Act.put, pD, pE, pF])
 have f5 := hR0.frozen 5
 have c5 : W3.cell? ⟨w.heap.size, 5, none⟩ = some (.int .i64 0) := hR0.cell rfl
 have hO := (Only.refl w.heap.size W3).setCell 5 (.int .i64 (40 * (dd.keep.toNat : Int)))
 refine zad rfl (by rfl) (fun K' hK => ?_)
 go_simp
 replace hR1 := hR1.only hO (by omega)
 refine hK.out _ _ ⟨hR1.cell (i := 6) rfl, hR1.cell (i := 7) rfl⟩ ?_
 clear hK K' f5 c5
 replace hR0 := hR0.setCell 5 (.int .i64 (40 * (dd.keep.toNat : Int)))
 replace hR2 := hR2.only hO (by omega)
 replace hR3 := hR3.only hO (by omega)
 replace hx := hx.at_only hO hx0 (Nat.le_refl _) (Nat.lt_succ_self _)
 replace hB := hB.trans hO.below
 clear hO
 generalize W3.setCell ⟨w.heap.size, 5, none⟩ (.int .i64 (40 * (dd.keep.toNat : Int))) = W4 at *
 (try simp only [pA, pB, pC, Act.put, pD, pE, pF])
 refine zal ?_
 replace hR0 : Row W4 w.heap.size 39 [.slice x.d.A0 x.d.n0 x.d.c0, .int .i64 s.d.a0.s, .slice x.d.A1 x.d.n1 x.d.c1, .int .i64 s.d.a1.s, .int .i64 F, .int .i64 K, .bool s.d.down, .int .i64 s.turn, .int .u64 (s.num : Int), .int .u64 (s.m.clock : Int), .int .u64 (s.m.b.1 : Int), .slice x.m.b.eA x.m.b.n x.m.b.ec, .slice x.m.b.gA x.m.b.g x.m.b.gc, .int .i64 s.m.c.1, .int .u64 (s.m.c.2.1 : Int), .slice x.m.c.A x.m.c.s x.m.c.c] := by rw [← HF1.out, ← HK1.out]; exact hR0
 clear hw1 hw2 hw3 hkl hfl HF1 HK1
 obtain ⟨hR7, hBn⟩ := zat W4 39 l0S _ rfl
 go_upto_region 5 with (first
  | (refine zac rfl 39 (.tmp 2) rfl (w.heap.size) 0 rfl _ _ (hR0) ([.slice x.d.A0 x.d.n0 x.d.c0, .int .i64 s.d.a0.s, .slice x.d.A1 x.d.n1 x.d.c1, .int .i64 s.d.a1.s, .int .i64 F, .int .i64 K, .bool s.d.down, .int .i64 s.turn, .int .u64 (s.num : Int), .int .u64 (s.m.clock : Int), .int .u64 (s.m.b.1 : Int), .slice x.m.b.eA x.m.b.n x.m.b.ec, .slice x.m.b.gA x.m.b.g x.m.b.gc, .int .i64 s.m.c.1, .int .u64 (s.m.c.2.1 : Int), .slice x.m.c.A x.m.c.s x.m.c.c]) (by rfl) _ Tryz.underlying39 rfl (by exact zaf) ?_)
  | (refine zab rfl 39 (.tmp 7) (.tmp 35) rfl (W4.heap.size) rfl ([.slice x.d.A0 x.d.n0 x.d.c0, .int .i64 s.d.a0.s, .slice x.d.A1 x.d.n1 x.d.c1, .int .i64 s.d.a1.s, .int .i64 F, .int .i64 K, .bool s.d.down, .int .i64 s.turn, .int .u64 (s.num : Int), .int .u64 (s.m.clock : Int), .int .u64 (s.m.b.1 : Int), .slice x.m.b.eA x.m.b.n x.m.b.ec, .slice x.m.b.gA x.m.b.g x.m.b.gc, .int .i64 s.m.c.1, .int .u64 (s.m.c.2.1 : Int), .slice x.m.c.A x.m.c.s x.m.c.c]) rfl _ _ (hR7) (by exact zaf) rfl (zan x (setF s F K)) ?_))
 have hgg7 : w.heap.size + 4 ≤ W4.heap.size := by have := hR3.lt; omega
 replace hR7 := hR7.setRow [.slice x.d.A0 x.d.n0 x.d.c0, .int .i64 s.d.a0.s, .slice x.d.A1 x.d.n1 x.d.c1, .int .i64 s.d.a1.s, .int .i64 F, .int .i64 K, .bool s.d.down, .int .i64 s.turn, .int .u64 (s.num : Int), .int .u64 (s.m.clock : Int), .int .u64 (s.m.b.1 : Int), .slice x.m.b.eA x.m.b.n x.m.b.ec, .slice x.m.b.gA x.m.b.g x.m.b.gc, .int .i64 s.m.c.1, .int .u64 (s.m.c.2.1 : Int), .slice x.m.c.A x.m.c.s x.m.c.c]
 have hbn := below_setRow hBn (Nat.le_refl _) [.slice x.d.A0 x.d.n0 x.d.c0, .int .i64 s.d.a0.s, .slice x.d.A1 x.d.n1 x.d.c1, .int .i64 s.d.a1.s, .int .i64 F, .int .i64 K, .bool s.d.down, .int .i64 s.turn, .int .u64 (s.num : Int), .int .u64 (s.m.clock : Int), .int .u64 (s.m.b.1 : Int), .slice x.m.b.eA x.m.b.n x.m.b.ec, .slice x.m.b.gA x.m.b.g x.m.b.gc, .int .i64 s.m.c.1, .int .u64 (s.m.c.2.1 : Int), .slice x.m.c.A x.m.c.s x.m.c.c].toArray
 clear hBn
 generalize (W4.alloc (.cells l0S.toArray 39)).setRow W4.heap.size [.slice x.d.A0 x.d.n0 x.d.c0, .int .i64 s.d.a0.s, .slice x.d.A1 x.d.n1 x.d.c1, .int .i64 s.d.a1.s, .int .i64 F, .int .i64 K, .bool s.d.down, .int .i64 s.turn, .int .u64 (s.num : Int), .int .u64 (s.m.clock : Int), .int .u64 (s.m.b.1 : Int), .slice x.m.b.eA x.m.b.n x.m.b.ec, .slice x.m.b.gA x.m.b.g x.m.b.gc, .int .i64 s.m.c.1, .int .u64 (s.m.c.2.1 : Int), .slice x.m.c.A x.m.c.s x.m.c.c].toArray = W5 at hR7 hbn ⊢
 replace hR0 := hR0.later hbn
 replace hR1 := hR1.later hbn
 replace hR2 := hR2.later hbn
 replace hR3 := hR3.later hbn
 replace hx := hx.keep hbn
 replace hB := zaa hB hbn
 clear hbn
 generalize hge : W4.heap.size = g7 at *
 clear hge
 have f4 := hR7.frozen 4
 have c4 : W5.cell? ⟨g7, 4, none⟩ = some (.int .i64 F) := hR7.cell rfl
 have hO := (Only.refl g7 W5).setCell 4 (.int .i64 (-1))
 have hxg : OffS g7 (g7 + 1) x := (HOX.out W5 g7 (by omega))
 go_upto_region 6 with fail
 replace hR7 := hR7.setCell 4 (.int .i64 (-1))
 replace hR0 := hR0.only hO (by omega)
 replace hR1 := hR1.only hO (by omega)
 replace hR2 := hR2.only hO (by omega)
 replace hR3 := hR3.only hO (by omega)
 replace hx := hx.at_only hO hxg (Nat.le_refl _) (Nat.lt_succ_self _)
 replace hB := hB.trans (hO.below.mono (by omega))
 clear f4 c4 hO hxg
 generalize W5.setCell ⟨g7, 4, none⟩ (.int .i64 (-1)) = W6 at *
 have k5 := hR1.cell (i := 5) rfl
 have i1 : (0 : Int) < (dd.ver : Int) := by omega
 have hvi := hv
 clear hv HT1 HT2
 go_upto_region 7 with fail
 obtain ⟨hR8, hBn⟩ := zat W6 32 l0B _ rfl
 go_upto_region 8 with (refine zab rfl 32 (.tmp 8) (.tmp 43) rfl (W6.heap.size) rfl ([.int .u64 (dd.ver : Int), .slice none 0 0, .slice none 0 0]) rfl _ _ (hR8) (by exact zax) rfl (zaK _ _ _ rfl rfl rfl) ?_)
 replace hR8 := hR8.setRow [.int .u64 (dd.ver : Int), .slice none 0 0, .slice none 0 0]
 have hbn := below_setRow hBn (Nat.le_refl _) [.int .u64 (dd.ver : Int), .slice none 0 0, .slice none 0 0].toArray
 clear hBn
 generalize (W6.alloc (.cells l0B.toArray 32)).setRow W6.heap.size [.int .u64 (dd.ver : Int), .slice none 0 0, .slice none 0 0].toArray = W7 at hR8 hbn ⊢
 replace hR0 := hR0.later hbn
 replace hR2 := hR2.later hbn
 replace hR3 := hR3.later hbn
 replace hR7 := hR7.later hbn
 replace hx := hx.keep hbn
 replace hB := zaa hB hbn
 clear hbn
 generalize hge : W6.heap.size = g8 at *
 clear hge
 clear k5 i1
 go_wp2_with (first
  | (refine zac rfl 39 (.tmp 7) rfl (g7) 0 rfl _ _ (hR7) ([.slice x.d.A0 x.d.n0 x.d.c0, .int .i64 s.d.a0.s, .slice x.d.A1 x.d.n1 x.d.c1, .int .i64 s.d.a1.s, .int .i64 (-1), .int .i64 K, .bool s.d.down, .int .i64 s.turn, .int .u64 (s.num : Int), .int .u64 (s.m.clock : Int), .int .u64 (s.m.b.1 : Int), .slice x.m.b.eA x.m.b.n x.m.b.ec, .slice x.m.b.gA x.m.b.g x.m.b.gc, .int .i64 s.m.c.1, .int .u64 (s.m.c.2.1 : Int), .slice x.m.c.A x.m.c.s x.m.c.c]) (by rfl) _ Tryz.underlying39 rfl (by exact zaf) ?_)
  | (refine zac rfl 32 (.tmp 8) rfl (g8) 0 rfl _ _ (hR8) ([.int .u64 (dd.ver : Int), .slice none 0 0, .slice none 0 0]) (by rfl) _ Tryz.underlying32 rfl (by exact zax) ?_))
 refine (HI1.out hvi W7 hB hx).mono ?_
 rintro e wa ⟨z, rfl, hz, hoz, hb⟩
 have hsz := hR3.lt
 have hsw := hb.size
 replace hR0 := hR0.later hb
 replace hR2 := hR2.later hb
 replace hR3 := hR3.later hb
 replace hR8 := hR8.later hb
 replace hx := hx.keep hb
 replace hB := zaa hB hb
 clear hb
 replace hoz := hoz.mono (Nat.le_refl _) (show w.heap.size + 4 ≤ _ by omega)
 obtain ⟨hR9, hBn⟩ := zat wa 39 l0S _ rfl
 unfold aggS
 have hgg : w.heap.size + 4 ≤ wa.heap.size := by omega
 go_upto_region 9 with (refine zab rfl 39 (.tmp 9) (.tmp 48) rfl (wa.heap.size) rfl ((lS z Q.1)) rfl _ _ (hR9) (by exact zaf) rfl (zan z Q.1) ?_)
 replace hR9 := hR9.setRow (lS z Q.1)
 have hbn := below_setRow hBn (Nat.le_refl _) (lS z Q.1).toArray
 clear hBn
 generalize (wa.alloc (.cells l0S.toArray 39)).setRow wa.heap.size (lS z Q.1).toArray = wb at hR9 hbn ⊢
 replace hR0 := hR0.later hbn
 replace hR2 := hR2.later hbn
 replace hR3 := hR3.later hbn
 replace hR8 := hR8.later hbn
 replace hx := hx.keep hbn
 replace hz := hz.keep hbn
 replace hB := zaa hB hbn
 clear hbn
 generalize hge : wa.heap.size = g9 at *
 clear hge
 go_wp2_with (first
  | (refine zac rfl 39 (.tmp 2) rfl (w.heap.size) 0 rfl _ _ (hR0) ([.slice x.d.A0 x.d.n0 x.d.c0, .int .i64 s.d.a0.s, .slice x.d.A1 x.d.n1 x.d.c1, .int .i64 s.d.a1.s, .int .i64 F, .int .i64 K, .bool s.d.down, .int .i64 s.turn, .int .u64 (s.num : Int), .int .u64 (s.m.clock : Int), .int .u64 (s.m.b.1 : Int), .slice x.m.b.eA x.m.b.n x.m.b.ec, .slice x.m.b.gA x.m.b.g x.m.b.gc, .int .i64 s.m.c.1, .int .u64 (s.m.c.2.1 : Int), .slice x.m.c.A x.m.c.s x.m.c.c]) (by rfl) _ Tryz.underlying39 rfl (by exact zaf) ?_)
  | (refine zac rfl 32 (.tmp 8) rfl (g8) 0 rfl _ _ (hR8) ([.int .u64 (dd.ver : Int), .slice none 0 0, .slice none 0 0]) (by rfl) _ Tryz.underlying32 rfl (by exact zax) ?_))
 refine (HI2.out hvi wb hB hx).mono ?_
 rintro e wc ⟨y, rfl, hy, hoy, hb⟩
 have hsz := hR3.lt
 have hsw := hb.size
 replace hR2 := hR2.later hb
 replace hR3 := hR3.later hb
 replace hR9 := hR9.later hb
 replace hx := hx.keep hb
 replace hz := hz.keep hb
 replace hB := zaa hB hb
 clear hb
 replace hoy := hoy.mono (Nat.le_refl _) (show w.heap.size + 4 ≤ _ by omega)
 obtain ⟨hR11, hBn⟩ := zat wc 39 l0S _ rfl
 unfold aggS
 have hgg : w.heap.size + 4 ≤ wc.heap.size := by omega
 go_upto_region 10 with (refine zab rfl 39 (.tmp 11) (.tmp 54) rfl (wc.heap.size) rfl ((lS y P.1)) rfl _ _ (hR11) (by exact zaf) rfl (zan y P.1) ?_)
 replace hR11 := hR11.setRow (lS y P.1)
 have hbn := below_setRow hBn (Nat.le_refl _) (lS y P.1).toArray
 clear hBn
 generalize (wc.alloc (.cells l0S.toArray 39)).setRow wc.heap.size (lS y P.1).toArray = wl at hR11 hbn ⊢
 replace hR2 := hR2.later hbn
 replace hR3 := hR3.later hbn
 replace hR9 := hR9.later hbn
 replace hx := hx.keep hbn
 replace hz := hz.keep hbn
 replace hy := hy.keep hbn
 replace hB := zaa hB hbn
 clear hbn
 generalize hge : wc.heap.size = g11 at *
 clear hge
 have hS : dpS g11 g9 (.slice y.d.A0 y.d.n0 y.d.c0) (.int .i64 P.1.d.a0.s) (.slice y.d.A1 y.d.n1 y.d.c1) (.int .i64 P.1.d.a1.s) (.int .i64 P.1.d.fuse) (.int .i64 P.1.d.keep) (.bool P.1.d.down) (.int .i64 P.1.turn) (.int .u64 (P.1.num : Int)) (.int .u64 (P.1.m.clock : Int)) (.int .u64 (P.1.m.b.1 : Int)) (.slice y.m.b.eA y.m.b.n y.m.b.ec) (.slice y.m.b.gA y.m.b.g y.m.b.gc) (.int .i64 P.1.m.c.1) (.int .u64 (P.1.m.c.2.1 : Int)) (.slice y.m.c.A y.m.c.s y.m.c.c) (.int .u64 (Q.1.m.clock : Int)) (.int .u64 (Q.1.m.b.1 : Int)) (.slice z.m.b.eA z.m.b.n z.m.b.ec) (.slice z.m.b.gA z.m.b.g z.m.b.gc) (.int .i64 Q.1.m.c.1) (.int .u64 (Q.1.m.c.2.1 : Int)) (.slice z.m.c.A z.m.c.s z.m.c.c) wl.drew := zdH (W := wl.drew) hR11 hR9
 replace hR2 := hR2.drew
 replace hR3 := hR3.drew
 replace hR11 := hR11.drew
 replace hR9 := hR9.drew
 replace hy := hy.keep ((Below.refl _ wl).drew)
 replace hz := hz.keep ((Below.refl _ wl).drew)
 replace hB := hB.drew
 refine zah (dpS g11 g9 (.slice y.d.A0 y.d.n0 y.d.c0) (.int .i64 P.1.d.a0.s) (.slice y.d.A1 y.d.n1 y.d.c1) (.int .i64 P.1.d.a1.s) (.int .i64 P.1.d.fuse) (.int .i64 P.1.d.keep) (.bool P.1.d.down) (.int .i64 P.1.turn) (.int .u64 (P.1.num : Int)) (.int .u64 (P.1.m.clock : Int)) (.int .u64 (P.1.m.b.1 : Int)) (.slice y.m.b.eA y.m.b.n y.m.b.ec) (.slice y.m.b.gA y.m.b.g y.m.b.gc) (.int .i64 P.1.m.c.1) (.int .u64 (P.1.m.c.2.1 : Int)) (.slice y.m.c.A y.m.c.s y.m.c.c) (.int .u64 (Q.1.m.clock : Int)) (.int .u64 (Q.1.m.b.1 : Int)) (.slice z.m.b.eA z.m.b.n z.m.b.ec) (.slice z.m.b.gA z.m.b.g z.m.b.gc) (.int .i64 Q.1.m.c.1) (.int .u64 (Q.1.m.c.2.1 : Int)) (.slice z.m.c.A z.m.c.s z.m.c.c)) (.step 0 false (.step 1 false (.step 2 false (.step 3 false (.step 4 true (.step 5 true (.step 6 false (.nil)))))))) hS (by kernel_rfl) (by kernel_rfl) (by rfl) (by kernel_rfl) ?_
 generalize wl.drew = wv at *
 iterate 4 (refine zae rfl (by rfl) (v := ?_) ?_ ?_; rotate_left 1; (rintro W ⟨hW0, hW1⟩; go_simp <;> with_reducible rfl); simp only [pA, pB, pC, Act.put, pD, pE, pF])
 clear hS
 refine zad rfl (by rfl) (fun K' hK => ?_)
 refine Row.wp_store 39 (.tmp 4) (.tmp 56) (by rfl) (by rfl) (lS y P.1) (by rfl) hR2 (by exact zaf) rfl (zan y P.1) ?_
 have hO := (Only.refl (w.heap.size + 2) wv).setRow (lS y P.1).toArray
 replace hR2 := hR2.setRow (lS y P.1)
 replace hR3 := hR3.only hO (by omega)
 replace hR11 := hR11.only hO (by omega)
 replace hR9 := hR9.only hO (by omega)
 replace hy := hy.at_only hO hoy (Nat.zero_le _) (by omega)
 replace hz := hz.at_only hO hoz (Nat.zero_le _) (by omega)
 replace hB := below_setRow hB (show w.heap.size ≤ w.heap.size + 2 by omega) (lS y P.1).toArray
 refine hK.out _ _ (zdH hR11 hR9) ?_
 clear hK K' hO
 generalize wv.setRow (w.heap.size + 2) (lS y P.1).toArray = wq at *
 (try simp only [pA, pB, pC, Act.put, pD, pE, pF])
 refine zad rfl (by rfl) (fun K' hK => ?_)
 refine Row.wp_store 37 (.tmp 5) (.tmp 58) (by rfl) (by rfl) (lM z.m Q.1.m) (by rfl) hR3 (by exact zai) rfl (zaq z.m Q.1.m) ?_
 have hO := (Only.refl (w.heap.size + 3) wq).setRow (lM z.m Q.1.m).toArray
 replace hR3 := hR3.setRow (lM z.m Q.1.m)
 replace hR2 := hR2.only hO (by omega)
 replace hR11 := hR11.only hO (by omega)
 replace hR9 := hR9.only hO (by omega)
 replace hy := hy.at_only hO hoy (Nat.zero_le _) (by omega)
 replace hz := hz.at_only hO hoz (Nat.zero_le _) (by omega)
 replace hB := below_setRow hB (show w.heap.size ≤ w.heap.size + 3 by omega) (lM z.m Q.1.m).toArray
 refine hK.out _ _ (zdH hR11 hR9) ?_
 clear hK K' hO
 generalize wq.setRow (w.heap.size + 3) (lM z.m Q.1.m).toArray = wr at *
 (try simp only [pA, pB, pC, Act.put, pD, pE, pF])
 iterate 1 (refine zae rfl (by rfl) (v := ?_) ?_ ?_; rotate_left 1; (rintro W ⟨hW0, hW1⟩; go_simp <;> with_reducible rfl); simp only [pA, pB, pC, Act.put, pD, pE, pF])
 refine zal ?_
 go_wp2_with fail
 refine bodyPost_ret (zbR (p := 4) (q := 5) (u := 6) (ty := 39) (tz := 37) (by rfl) _ _ (w.heap.size + 2) (w.heap.size + 3) 39 37 _ _ _ _ (by rfl) (by rfl) (by exact hR2) (by exact hR3) Tryz.underlying39 (by rfl) (by exact zaf) Tryz.underlying37 (by rfl) (by exact zai)) (by rfl) ?_
 exact ⟨y, z.m, rfl, hy, hz.im, hoy.mono (Nat.le_refl _) (by omega), hoz.m.mono (Nat.le_refl _) (by omega), hB⟩
theorem zp7 [Inhabited Tab] (x : WS) (s : ShK) (dd : De) (w : World) (h : InS w x s) (hr : zav fS s) (hd : fitDe dd) (hf6 : dd.fuse.toNat < 6) (hv : ¬ 0 < dd.ver) (HK : Hid (KTab w)) :
  Calls Tryz.prog 25 #[aggS x s, zgH dd] w (zlV w (doK fS (setF s (zdq dd) (zbs dd)) dd).1 (doK fS (setF s (-1) (zbs dd)) dd).1.m (doK fS (setF s (zdq dd) (zbs dd)) dd).2) := by
 obtain ⟨hR0, hR1, hR2, hB⟩ := za8 w 39 69 39 (lS x s) [.int .u64 (dd.u.1 : Int), .int .u64 (dd.u.2.1 : Int), .int .u64 (dd.u.2.2 : Int), .int .u64 (dd.clock : Int), .int .u64 (dd.floor : Int), .int .u64 (dd.ver : Int), .int .u8 (dd.fuse.toNat : Int), .int .u8 (dd.keep.toNat : Int)] l0S _ _ _ rfl rfl rfl
 obtain ⟨hR3, hB3⟩ := zat (((w.alloc (.cells (lS x s).toArray 39)).alloc (.cells [.int .u64 (dd.u.1 : Int), .int .u64 (dd.u.2.1 : Int), .int .u64 (dd.u.2.2 : Int), .int .u64 (dd.clock : Int), .int .u64 (dd.floor : Int), .int .u64 (dd.ver : Int), .int .u8 (dd.fuse.toNat : Int), .int .u8 (dd.keep.toNat : Int)].toArray 69)).alloc (.cells l0S.toArray 39)) 37 l0M _ rfl
 have hz3 : (((w.alloc (.cells (lS x s).toArray 39)).alloc (.cells [.int .u64 (dd.u.1 : Int), .int .u64 (dd.u.2.1 : Int), .int .u64 (dd.u.2.2 : Int), .int .u64 (dd.clock : Int), .int .u64 (dd.floor : Int), .int .u64 (dd.ver : Int), .int .u8 (dd.fuse.toNat : Int), .int .u8 (dd.keep.toNat : Int)].toArray 69)).alloc (.cells l0S.toArray 39)).heap.size = w.heap.size + 3 := by simp
 rw [hz3] at hR3
 replace hR0 := hR0.later hB3
 replace hR1 := hR1.later hB3
 replace hR2 := hR2.later hB3
 replace hB := zaa hB hB3
 clear hB3 hz3
 obtain ⟨F, hF⟩ : ∃ F, zdq dd = F := ⟨_, rfl⟩
 obtain ⟨K, hK⟩ : ∃ K, zbs dd = K := ⟨_, rfl⟩
 obtain ⟨P, hP⟩ : ∃ P, doK fS (setF s F K) dd = P := ⟨_, rfl⟩
 obtain ⟨Q, hQ⟩ : ∃ Q, doK fS (setF s (-1) K) dd = Q := ⟨_, rfl⟩
 have hFb : -1 ≤ F ∧ F ≤ 1000 := by
  rw [← hF]
  unfold zdq
  split <;> omega
 have hKb : 0 ≤ K ∧ K ≤ 1000000 := by
  have := dd.keep.toNat_lt
  rw [← hK]
  unfold zbs
  split <;> omega
 have HI : ∀ (fu : Int) (G : ShK × Int), -1 ≤ fu → fu ≤ 1000 → doK fS (setF s fu K) dd = G → 0 < dd.ver → ∀ W, Below w.heap.size w W → InS W x s → Calls Tryz.prog 22 #[.agg #[.slice x.d.A0 x.d.n0 x.d.c0, .int .i64 s.d.a0.s, .slice x.d.A1 x.d.n1 x.d.c1, .int .i64 s.d.a1.s, .int .i64 fu, .int .i64 K, .bool s.d.down, .int .i64 s.turn, .int .u64 (s.num : Int), .int .u64 (s.m.clock : Int), .int .u64 (s.m.b.1 : Int), .slice x.m.b.eA x.m.b.n x.m.b.ec, .slice x.m.b.gA x.m.b.g x.m.b.gc, .int .i64 s.m.c.1, .int .u64 (s.m.c.2.1 : Int), .slice x.m.c.A x.m.c.s x.m.c.c], .agg #[.int .u64 (dd.ver : Int), .slice none 0 0, .slice none 0 0]] W (RetX W G.1 G.2) := fun fu G h1 h2 hG hv W hb hx => by
  have hrs := za4 hr h1 hKb.1
  obtain ⟨j1, j2, j3⟩ := zgG hx hr
  have := zcc x (setF s fu K) zcC (dd.ver, [], []) W (hx.setF fu K) (zh5 W hd.ver) j1 j2 j3 (by show fu ≤ _; omega) (by show K ≤ _; omega) (Lib.hid (HK.out.keep hb))
  unfold doK at hG
  rw [if_pos hv] at hG
  rw [hG] at this
  exact this
 have HT : ∀ (fu : Int) (G : ShK × Int), -1 ≤ fu → fu ≤ 1000 → doK fS (setF s fu K) dd = G → ¬ 0 < dd.ver → ∀ W, Below w.heap.size w W → InS W x s → Calls Tryz.prog 20 #[.agg #[.slice x.d.A0 x.d.n0 x.d.c0, .int .i64 s.d.a0.s, .slice x.d.A1 x.d.n1 x.d.c1, .int .i64 s.d.a1.s, .int .i64 fu, .int .i64 K, .bool s.d.down, .int .i64 s.turn, .int .u64 (s.num : Int), .int .u64 (s.m.clock : Int), .int .u64 (s.m.b.1 : Int), .slice x.m.b.eA x.m.b.n x.m.b.ec, .slice x.m.b.gA x.m.b.g x.m.b.gc, .int .i64 s.m.c.1, .int .u64 (s.m.c.2.1 : Int), .slice x.m.c.A x.m.c.s x.m.c.c], .agg #[.int .u64 (dd.u.1 : Int), .int .u64 (dd.u.2.1 : Int), .int .u64 (dd.u.2.2 : Int)], .int .u64 (dd.clock : Int), .int .u64 (dd.floor : Int)] W (RetX W G.1 G.2) := fun fu G h1 h2 hG hv W hb hx => by
  have hrs := za4 hr h1 hKb.1
  obtain ⟨j1, j2, j3⟩ := zgG hx hr
  have := zdp x (setF s fu K) dd.u dd.clock dd.floor W (hx.setF fu K) hd.u hd.clock hd.floor j1 j2 j3 (by show fu ≤ _; omega) (by show K ≤ _; omega) (Lib.hid (HK.out.keep hb))
  unfold doK at hG
  rw [if_neg hv] at hG
  rw [hG] at this
  exact this
 have HI1 := Lib.hid (HI (-1) Q (by omega) (by omega) hQ)
 have HI2 := Lib.hid (HI F P hFb.1 hFb.2 hP)
 have HT1 := Lib.hid (HT (-1) Q (by omega) (by omega) hQ)
 have HT2 := Lib.hid (HT F P hFb.1 hFb.2 hP)
 have HOX := Lib.hid (fun (_ : World) (g : Nat) (hg : w.heap.size ≤ g) => (h.off (g + 1)).mono hg (Nat.le_refl (g + 1)))
 have hx := h.keep hB
 have hx0 : OffS w.heap.size (w.heap.size + 1) x := h.off _
 have HFE := Lib.hid hF
 have HKE := Lib.hid hK
 rw [hF, hK, hP, hQ]
 clear hP hQ HI HT hFb hKb h hr hd HK hF hK
 unfold aggS zgH
 go_enter Tryz.func25, Tryz.ntmps25
 go_upto_region 1 with fail
 generalize (((w.alloc (.cells (lS x s).toArray 39)).alloc (.cells [.int .u64 (dd.u.1 : Int), .int .u64 (dd.u.2.1 : Int), .int .u64 (dd.u.2.2 : Int), .int .u64 (dd.clock : Int), .int .u64 (dd.floor : Int), .int .u64 (dd.ver : Int), .int .u8 (dd.fuse.toNat : Int), .int .u8 (dd.keep.toNat : Int)].toArray 69)).alloc (.cells l0S.toArray 39)).alloc (.cells l0M.toArray 37) = W0 at hR0 hR1 hR2 hR3 hB hx ⊢
 have f4 := hR0.frozen 4
 have c4 : W0.cell? ⟨w.heap.size, 4, none⟩ = some (.int .i64 s.d.fuse) := hR0.cell rfl
 have hO := (Only.refl w.heap.size W0).setCell 4 (.int .i64 (-1))
 have hR00 := hR0.setCell 4 (.int .i64 (-1))
 have f5 := hR00.frozen 5
 have c5 : (W0.setCell ⟨w.heap.size, 4, none⟩ (.int .i64 (-1))).cell? ⟨w.heap.size, 5, none⟩ = some (.int .i64 s.d.keep) := hR00.cell rfl
 have hO2 := hO.setCell 5 (.int .i64 0)
 go_upto_region 2 with fail
 replace hR0 := hR00.setCell 5 (.int .i64 0)
 replace hR1 := hR1.only hO2 (by omega)
 replace hR2 := hR2.only hO2 (by omega)
 replace hR3 := hR3.only hO2 (by omega)
 replace hx := hx.at_only hO2 hx0 (Nat.le_refl _) (Nat.lt_succ_self _)
 replace hB := hB.trans hO2.below
 clear f4 c4 f5 c5 hO hO2 hR00
 generalize (W0.setCell ⟨w.heap.size, 4, none⟩ (.int .i64 (-1))).setCell ⟨w.heap.size, 5, none⟩ (.int .i64 0) = W1 at *
 have k6 : W1.cell? ⟨w.heap.size + 1, 6, none⟩ = some (.int .u8 (dd.fuse.toNat : Int)) := hR1.cell rfl
 have k7 : W1.cell? ⟨w.heap.size + 1, 7, none⟩ = some (.int .u8 (dd.keep.toNat : Int)) := hR1.cell rfl
 have i6 : (dd.fuse.toNat : Int) < 6 := by omega
 have hF1 : (dd.fuse.toNat : Int) = F := by rw [← HFE.out]; exact (if_pos hf6).symm
 have hK1 : 40 * (dd.keep.toNat : Int) = K := by rw [← HKE.out]; exact (if_pos hf6).symm
 have HF1 := Lib.hid hF1
 have HK1 := Lib.hid hK1
 have hkl := dd.keep.toNat_lt
 have hfl := dd.fuse.toNat_lt
 have hw1 : IntKind.i64.wrap (40 * (dd.keep.toNat : Int)) = 40 * (dd.keep.toNat : Int) := by rw [IntKind.wrap_i64]; omega
 have hw2 : IntKind.i64.wrap (dd.keep.toNat : Int) = (dd.keep.toNat : Int) := by rw [IntKind.wrap_i64]; omega
 have hw3 : IntKind.i64.wrap (dd.fuse.toNat : Int) = (dd.fuse.toNat : Int) := by rw [IntKind.wrap_i64]; omega
 clear hf6 hF1 hK1 HFE HKE
 go_upto_region 3 with fail
 have hS : duS (w.heap.size + 1) (.int .u8 (dd.fuse.toNat : Int)) (.int .u8 (dd.keep.toNat : Int)) W1.drew := ⟨k6, k7⟩
 replace hR0 := hR0.drew
 replace hR1 := hR1.drew
 replace hR2 := hR2.drew
 replace hR3 := hR3.drew
 replace hx := hx.keep ((Below.refl _ W1).drew)
 replace hB := hB.drew
 clear k6 k7 i6
 refine zah (duS (w.heap.size + 1) (.int .u8 (dd.fuse.toNat : Int)) (.int .u8 (dd.keep.toNat : Int))) (.step 0 false (.step 1 false (.step 2 false (.step 3 false (.step 4 false (.step 5 false (.step 6 false (.step 7 false (.step 8 false (.step 9 true (.step 10 false (.step 11 false (.step 12 true (.nil)))))))))))))) hS (by kernel_rfl) (by kernel_rfl) (by rfl) (by kernel_rfl) ?_
 generalize W1.drew = W2 at *
 iterate 9 (refine zae rfl (by rfl) (v := ?_) ?_ ?_; rotate_left 1; (rintro W ⟨hW0, hW1⟩; go_simp <;> with_reducible rfl); simp only [pA, pB, pC, Act.put, pD, pE, pF])
 clear hS
 have f4 := hR0.frozen 4
 have c4 : W2.cell? ⟨w.heap.size, 4, none⟩ = some (.int .i64 (-1)) := hR0.cell rfl
 have hO := (Only.refl w.heap.size W2).setCell 4 (.int .i64 (dd.fuse.toNat : Int))
 refine zad rfl (by rfl) (fun K' hK => ?_)
 go_simp
 replace hR1 := hR1.only hO (by omega)
 refine hK.out _ _ ⟨hR1.cell (i := 6) rfl, hR1.cell (i := 7) rfl⟩ ?_
 clear hK K' f4 c4
 replace hR0 := hR0.setCell 4 (.int .i64 (dd.fuse.toNat : Int))
 replace hR2 := hR2.only hO (by omega)
 replace hR3 := hR3.only hO (by omega)
 replace hx := hx.at_only hO hx0 (Nat.le_refl _) (Nat.lt_succ_self _)
 replace hB := hB.trans hO.below
 clear hO
 generalize W2.setCell ⟨w.heap.size, 4, none⟩ (.int .i64 (dd.fuse.toNat : Int)) = W3 at *
 (try simp only [pA, pB, pC, Act.put, pD, pE, pF])
 iterate 2 (refine zae rfl (by rfl) (v := ?_) ?_ ?_; rotate_left 1; (rintro W ⟨hW0, hW1⟩; go_simp <;> with_reducible rfl); simp only [pA, pB, pC, Act.put, pD, pE, pF])
 have f5 := hR0.frozen 5
 have c5 : W3.cell? ⟨w.heap.size, 5, none⟩ = some (.int .i64 0) := hR0.cell rfl
 have hO := (Only.refl w.heap.size W3).setCell 5 (.int .i64 (40 * (dd.keep.toNat : Int)))
 refine zad rfl (by rfl) (fun K' hK => ?_)
 go_simp
 replace hR1 := hR1.only hO (by omega)
 refine hK.out _ _ ⟨hR1.cell (i := 6) rfl, hR1.cell (i := 7) rfl⟩ ?_
 clear hK K' f5 c5
 replace hR0 := hR0.setCell 5 (.int .i64 (40 * (dd.keep.toNat : Int)))
 replace hR2 := hR2.only hO (by omega)
 replace hR3 := hR3.only hO (by omega)
 replace hx := hx.at_only hO hx0 (Nat.le_refl _) (Nat.lt_succ_self _)
 replace hB := hB.trans hO.below
 clear hO
 generalize W3.setCell ⟨w.heap.size, 5, none⟩ (.int .i64 (40 * (dd.keep.toNat : Int))) = W4 at *
 (try simp only [pA, pB, pC, Act.put, pD, pE, pF])
 refine zal ?_
 replace hR0 : Row W4 w.heap.size 39 [.slice x.d.A0 x.d.n0 x.d.c0, .int .i64 s.d.a0.s, .slice x.d.A1 x.d.n1 x.d.c1, .int .i64 s.d.a1.s, .int .i64 F, .int .i64 K, .bool s.d.down, .int .i64 s.turn, .int .u64 (s.num : Int), .int .u64 (s.m.clock : Int), .int .u64 (s.m.b.1 : Int), .slice x.m.b.eA x.m.b.n x.m.b.ec, .slice x.m.b.gA x.m.b.g x.m.b.gc, .int .i64 s.m.c.1, .int .u64 (s.m.c.2.1 : Int), .slice x.m.c.A x.m.c.s x.m.c.c] := by rw [← HF1.out, ← HK1.out]; exact hR0
 clear hw1 hw2 hw3 hkl hfl HF1 HK1
 obtain ⟨hR7, hBn⟩ := zat W4 39 l0S _ rfl
 go_upto_region 5 with (first
  | (refine zac rfl 39 (.tmp 2) rfl (w.heap.size) 0 rfl _ _ (hR0) ([.slice x.d.A0 x.d.n0 x.d.c0, .int .i64 s.d.a0.s, .slice x.d.A1 x.d.n1 x.d.c1, .int .i64 s.d.a1.s, .int .i64 F, .int .i64 K, .bool s.d.down, .int .i64 s.turn, .int .u64 (s.num : Int), .int .u64 (s.m.clock : Int), .int .u64 (s.m.b.1 : Int), .slice x.m.b.eA x.m.b.n x.m.b.ec, .slice x.m.b.gA x.m.b.g x.m.b.gc, .int .i64 s.m.c.1, .int .u64 (s.m.c.2.1 : Int), .slice x.m.c.A x.m.c.s x.m.c.c]) (by rfl) _ Tryz.underlying39 rfl (by exact zaf) ?_)
  | (refine zab rfl 39 (.tmp 7) (.tmp 35) rfl (W4.heap.size) rfl ([.slice x.d.A0 x.d.n0 x.d.c0, .int .i64 s.d.a0.s, .slice x.d.A1 x.d.n1 x.d.c1, .int .i64 s.d.a1.s, .int .i64 F, .int .i64 K, .bool s.d.down, .int .i64 s.turn, .int .u64 (s.num : Int), .int .u64 (s.m.clock : Int), .int .u64 (s.m.b.1 : Int), .slice x.m.b.eA x.m.b.n x.m.b.ec, .slice x.m.b.gA x.m.b.g x.m.b.gc, .int .i64 s.m.c.1, .int .u64 (s.m.c.2.1 : Int), .slice x.m.c.A x.m.c.s x.m.c.c]) rfl _ _ (hR7) (by exact zaf) rfl (zan x (setF s F K)) ?_))
 have hgg7 : w.heap.size + 4 ≤ W4.heap.size := by have := hR3.lt; omega
 replace hR7 := hR7.setRow [.slice x.d.A0 x.d.n0 x.d.c0, .int .i64 s.d.a0.s, .slice x.d.A1 x.d.n1 x.d.c1, .int .i64 s.d.a1.s, .int .i64 F, .int .i64 K, .bool s.d.down, .int .i64 s.turn, .int .u64 (s.num : Int), .int .u64 (s.m.clock : Int), .int .u64 (s.m.b.1 : Int), .slice x.m.b.eA x.m.b.n x.m.b.ec, .slice x.m.b.gA x.m.b.g x.m.b.gc, .int .i64 s.m.c.1, .int .u64 (s.m.c.2.1 : Int), .slice x.m.c.A x.m.c.s x.m.c.c]
 have hbn := below_setRow hBn (Nat.le_refl _) [.slice x.d.A0 x.d.n0 x.d.c0, .int .i64 s.d.a0.s, .slice x.d.A1 x.d.n1 x.d.c1, .int .i64 s.d.a1.s, .int .i64 F, .int .i64 K, .bool s.d.down, .int .i64 s.turn, .int .u64 (s.num : Int), .int .u64 (s.m.clock : Int), .int .u64 (s.m.b.1 : Int), .slice x.m.b.eA x.m.b.n x.m.b.ec, .slice x.m.b.gA x.m.b.g x.m.b.gc, .int .i64 s.m.c.1, .int .u64 (s.m.c.2.1 : Int), .slice x.m.c.A x.m.c.s x.m.c.c].toArray
 clear hBn
 generalize (W4.alloc (.cells l0S.toArray 39)).setRow W4.heap.size [.slice x.d.A0 x.d.n0 x.d.c0, .int .i64 s.d.a0.s, .slice x.d.A1 x.d.n1 x.d.c1, .int .i64 s.d.a1.s, .int .i64 F, .int .i64 K, .bool s.d.down, .int .i64 s.turn, .int .u64 (s.num : Int), .int .u64 (s.m.clock : Int), .int .u64 (s.m.b.1 : Int), .slice x.m.b.eA x.m.b.n x.m.b.ec, .slice x.m.b.gA x.m.b.g x.m.b.gc, .int .i64 s.m.c.1, .int .u64 (s.m.c.2.1 : Int), .slice x.m.c.A x.m.c.s x.m.c.c].toArray = W5 at hR7 hbn ⊢
 replace hR0 := hR0.later hbn
 replace hR1 := hR1.later hbn
 replace hR2 := hR2.later hbn
 replace hR3 := hR3.later hbn
 replace hx := hx.keep hbn
 replace hB := zaa hB hbn
 clear hbn
 generalize hge : W4.heap.size = g7 at *
 clear hge
 have f4 := hR7.frozen 4
 have c4 : W5.cell? ⟨g7, 4, none⟩ = some (.int .i64 F) := hR7.cell rfl
 have hO := (Only.refl g7 W5).setCell 4 (.int .i64 (-1))
 have hxg : OffS g7 (g7 + 1) x := (HOX.out W5 g7 (by omega))
 go_upto_region 6 with fail
 replace hR7 := hR7.setCell 4 (.int .i64 (-1))
 replace hR0 := hR0.only hO (by omega)
 replace hR1 := hR1.only hO (by omega)
 replace hR2 := hR2.only hO (by omega)
 replace hR3 := hR3.only hO (by omega)
 replace hx := hx.at_only hO hxg (Nat.le_refl _) (Nat.lt_succ_self _)
 replace hB := hB.trans (hO.below.mono (by omega))
 clear f4 c4 hO hxg
 generalize W5.setCell ⟨g7, 4, none⟩ (.int .i64 (-1)) = W6 at *
 have k5 := hR1.cell (i := 5) rfl
 have i1 : ¬ (0 : Int) < (dd.ver : Int) := by omega
 have hvi := hv
 clear hv HI1 HI2
 go_upto_region 11 with fail
 clear k5 i1
 have k3 := hR1.cell (i := 3) rfl
 have k4 := hR1.cell (i := 4) rfl
 go_wp2_with (first
  | (refine zac rfl 39 (.tmp 7) rfl (g7) 0 rfl _ _ (hR7) ([.slice x.d.A0 x.d.n0 x.d.c0, .int .i64 s.d.a0.s, .slice x.d.A1 x.d.n1 x.d.c1, .int .i64 s.d.a1.s, .int .i64 (-1), .int .i64 K, .bool s.d.down, .int .i64 s.turn, .int .u64 (s.num : Int), .int .u64 (s.m.clock : Int), .int .u64 (s.m.b.1 : Int), .slice x.m.b.eA x.m.b.n x.m.b.ec, .slice x.m.b.gA x.m.b.g x.m.b.gc, .int .i64 s.m.c.1, .int .u64 (s.m.c.2.1 : Int), .slice x.m.c.A x.m.c.s x.m.c.c]) (by rfl) _ Tryz.underlying39 rfl (by exact zaf) ?_)
  | (refine zac rfl 57 (.tmp 62) rfl (w.heap.size + 1) 0 rfl _ _ (hR1) ([.int .u64 (dd.u.1 : Int), .int .u64 (dd.u.2.1 : Int), .int .u64 (dd.u.2.2 : Int)]) (by rfl) _ Tryz.underlying57 rfl (by exact zaW) ?_))
 refine (HT1.out hvi W6 hB hx).mono ?_
 rintro e wa ⟨z, rfl, hz, hoz, hb⟩
 have hsz := hR3.lt
 have hsw := hb.size
 replace hR0 := hR0.later hb
 replace hR1 := hR1.later hb
 replace hR2 := hR2.later hb
 replace hR3 := hR3.later hb
 replace hx := hx.keep hb
 replace hB := zaa hB hb
 clear hb
 replace hoz := hoz.mono (Nat.le_refl _) (show w.heap.size + 4 ≤ _ by omega)
 obtain ⟨hR9, hBn⟩ := zat wa 39 l0S _ rfl
 unfold aggS
 have hgg : w.heap.size + 4 ≤ wa.heap.size := by omega
 go_upto_region 12 with (refine zab rfl 39 (.tmp 13) (.tmp 69) rfl (wa.heap.size) rfl ((lS z Q.1)) rfl _ _ (hR9) (by exact zaf) rfl (zan z Q.1) ?_)
 replace hR9 := hR9.setRow (lS z Q.1)
 have hbn := below_setRow hBn (Nat.le_refl _) (lS z Q.1).toArray
 clear hBn
 generalize (wa.alloc (.cells l0S.toArray 39)).setRow wa.heap.size (lS z Q.1).toArray = wb at hR9 hbn ⊢
 replace hR0 := hR0.later hbn
 replace hR1 := hR1.later hbn
 replace hR2 := hR2.later hbn
 replace hR3 := hR3.later hbn
 replace hx := hx.keep hbn
 replace hz := hz.keep hbn
 replace hB := zaa hB hbn
 clear hbn
 generalize hge : wa.heap.size = g9 at *
 clear hge
 clear k3 k4
 have k3 := hR1.cell (i := 3) rfl
 have k4 := hR1.cell (i := 4) rfl
 go_wp2_with (first
  | (refine zac rfl 39 (.tmp 2) rfl (w.heap.size) 0 rfl _ _ (hR0) ([.slice x.d.A0 x.d.n0 x.d.c0, .int .i64 s.d.a0.s, .slice x.d.A1 x.d.n1 x.d.c1, .int .i64 s.d.a1.s, .int .i64 F, .int .i64 K, .bool s.d.down, .int .i64 s.turn, .int .u64 (s.num : Int), .int .u64 (s.m.clock : Int), .int .u64 (s.m.b.1 : Int), .slice x.m.b.eA x.m.b.n x.m.b.ec, .slice x.m.b.gA x.m.b.g x.m.b.gc, .int .i64 s.m.c.1, .int .u64 (s.m.c.2.1 : Int), .slice x.m.c.A x.m.c.s x.m.c.c]) (by rfl) _ Tryz.underlying39 rfl (by exact zaf) ?_)
  | (refine zac rfl 57 (.tmp 73) rfl (w.heap.size + 1) 0 rfl _ _ (hR1) ([.int .u64 (dd.u.1 : Int), .int .u64 (dd.u.2.1 : Int), .int .u64 (dd.u.2.2 : Int)]) (by rfl) _ Tryz.underlying57 rfl (by exact zaW) ?_))
 refine (HT2.out hvi wb hB hx).mono ?_
 rintro e wc ⟨y, rfl, hy, hoy, hb⟩
 have hsz := hR3.lt
 have hsw := hb.size
 replace hR2 := hR2.later hb
 replace hR3 := hR3.later hb
 replace hR9 := hR9.later hb
 replace hx := hx.keep hb
 replace hz := hz.keep hb
 replace hB := zaa hB hb
 clear hb
 replace hoy := hoy.mono (Nat.le_refl _) (show w.heap.size + 4 ≤ _ by omega)
 obtain ⟨hR11, hBn⟩ := zat wc 39 l0S _ rfl
 unfold aggS
 have hgg : w.heap.size + 4 ≤ wc.heap.size := by omega
 go_upto_region 13 with (refine zab rfl 39 (.tmp 15) (.tmp 80) rfl (wc.heap.size) rfl ((lS y P.1)) rfl _ _ (hR11) (by exact zaf) rfl (zan y P.1) ?_)
 replace hR11 := hR11.setRow (lS y P.1)
 have hbn := below_setRow hBn (Nat.le_refl _) (lS y P.1).toArray
 clear hBn
 generalize (wc.alloc (.cells l0S.toArray 39)).setRow wc.heap.size (lS y P.1).toArray = wl at hR11 hbn ⊢
 replace hR2 := hR2.later hbn
 replace hR3 := hR3.later hbn
 replace hR9 := hR9.later hbn
 replace hx := hx.keep hbn
 replace hz := hz.keep hbn
 replace hy := hy.keep hbn
 replace hB := zaa hB hbn
 clear hbn
 generalize hge : wc.heap.size = g11 at *
 clear hge
 clear k3 k4
 have hS : dpS g11 g9 (.slice y.d.A0 y.d.n0 y.d.c0) (.int .i64 P.1.d.a0.s) (.slice y.d.A1 y.d.n1 y.d.c1) (.int .i64 P.1.d.a1.s) (.int .i64 P.1.d.fuse) (.int .i64 P.1.d.keep) (.bool P.1.d.down) (.int .i64 P.1.turn) (.int .u64 (P.1.num : Int)) (.int .u64 (P.1.m.clock : Int)) (.int .u64 (P.1.m.b.1 : Int)) (.slice y.m.b.eA y.m.b.n y.m.b.ec) (.slice y.m.b.gA y.m.b.g y.m.b.gc) (.int .i64 P.1.m.c.1) (.int .u64 (P.1.m.c.2.1 : Int)) (.slice y.m.c.A y.m.c.s y.m.c.c) (.int .u64 (Q.1.m.clock : Int)) (.int .u64 (Q.1.m.b.1 : Int)) (.slice z.m.b.eA z.m.b.n z.m.b.ec) (.slice z.m.b.gA z.m.b.g z.m.b.gc) (.int .i64 Q.1.m.c.1) (.int .u64 (Q.1.m.c.2.1 : Int)) (.slice z.m.c.A z.m.c.s z.m.c.c) wl.drew := zdH (W := wl.drew) hR11 hR9
 replace hR2 := hR2.drew
 replace hR3 := hR3.drew
 replace hR11 := hR11.drew
 replace hR9 := hR9.drew
 replace hy := hy.keep ((Below.refl _ wl).drew)
 replace hz := hz.keep ((Below.refl _ wl).drew)
 replace hB := hB.drew
 refine zah (dpS g11 g9 (.slice y.d.A0 y.d.n0 y.d.c0) (.int .i64 P.1.d.a0.s) (.slice y.d.A1 y.d.n1 y.d.c1) (.int .i64 P.1.d.a1.s) (.int .i64 P.1.d.fuse) (.int .i64 P.1.d.keep) (.bool P.1.d.down) (.int .i64 P.1.turn) (.int .u64 (P.1.num : Int)) (.int .u64 (P.1.m.clock : Int)) (.int .u64 (P.1.m.b.1 : Int)) (.slice y.m.b.eA y.m.b.n y.m.b.ec) (.slice y.m.b.gA y.m.b.g y.m.b.gc) (.int .i64 P.1.m.c.1) (.int .u64 (P.1.m.c.2.1 : Int)) (.slice y.m.c.A y.m.c.s y.m.c.c) (.int .u64 (Q.1.m.clock : Int)) (.int .u64 (Q.1.m.b.1 : Int)) (.slice z.m.b.eA z.m.b.n z.m.b.ec) (.slice z.m.b.gA z.m.b.g z.m.b.gc) (.int .i64 Q.1.m.c.1) (.int .u64 (Q.1.m.c.2.1 : Int)) (.slice z.m.c.A z.m.c.s z.m.c.c)) (.step 0 false (.step 1 false (.step 2 false (.step 3 false (.step 4 true (.step 5 true (.step 6 false (.nil)))))))) hS (by kernel_rfl) (by kernel_rfl) (by rfl) (by kernel_rfl) ?_
 generalize wl.drew = wv at *
 iterate 4 (refine zae rfl (by rfl) (v := ?_) ?_ ?_; rotate_left 1; (rintro W ⟨hW0, hW1⟩; go_simp <;> with_reducible rfl); simp only [pA, pB, pC, Act.put, pD, pE, pF])
 clear hS
 refine zad rfl (by rfl) (fun K' hK => ?_)
 refine Row.wp_store 39 (.tmp 4) (.tmp 82) (by rfl) (by rfl) (lS y P.1) (by rfl) hR2 (by exact zaf) rfl (zan y P.1) ?_
 have hO := (Only.refl (w.heap.size + 2) wv).setRow (lS y P.1).toArray
 replace hR2 := hR2.setRow (lS y P.1)
 replace hR3 := hR3.only hO (by omega)
 replace hR11 := hR11.only hO (by omega)
 replace hR9 := hR9.only hO (by omega)
 replace hy := hy.at_only hO hoy (Nat.zero_le _) (by omega)
 replace hz := hz.at_only hO hoz (Nat.zero_le _) (by omega)
 replace hB := below_setRow hB (show w.heap.size ≤ w.heap.size + 2 by omega) (lS y P.1).toArray
 refine hK.out _ _ (zdH hR11 hR9) ?_
 clear hK K' hO
 generalize wv.setRow (w.heap.size + 2) (lS y P.1).toArray = wq at *
 (try simp only [pA, pB, pC, Act.put, pD, pE, pF])
 refine zad rfl (by rfl) (fun K' hK => ?_)
 refine Row.wp_store 37 (.tmp 5) (.tmp 84) (by rfl) (by rfl) (lM z.m Q.1.m) (by rfl) hR3 (by exact zai) rfl (zaq z.m Q.1.m) ?_
 have hO := (Only.refl (w.heap.size + 3) wq).setRow (lM z.m Q.1.m).toArray
 replace hR3 := hR3.setRow (lM z.m Q.1.m)
 replace hR2 := hR2.only hO (by omega)
 replace hR11 := hR11.only hO (by omega)
 replace hR9 := hR9.only hO (by omega)
 replace hy := hy.at_only hO hoy (Nat.zero_le _) (by omega)
 replace hz := hz.at_only hO hoz (Nat.zero_le _) (by omega)
 replace hB := below_setRow hB (show w.heap.size ≤ w.heap.size + 3 by omega) (lM z.m Q.1.m).toArray
 refine hK.out _ _ (zdH hR11 hR9) ?_
 clear hK K' hO
 generalize wq.setRow (w.heap.size + 3) (lM z.m Q.1.m).toArray = wr at *
 (try simp only [pA, pB, pC, Act.put, pD, pE, pF])
 iterate 1 (refine zae rfl (by rfl) (v := ?_) ?_ ?_; rotate_left 1; (rintro W ⟨hW0, hW1⟩; go_simp <;> with_reducible rfl); simp only [pA, pB, pC, Act.put, pD, pE, pF])
 refine zal ?_
 go_wp2_with fail
 refine bodyPost_ret (zbR (p := 4) (q := 5) (u := 6) (ty := 39) (tz := 37) (by rfl) _ _ (w.heap.size + 2) (w.heap.size + 3) 39 37 _ _ _ _ (by rfl) (by rfl) (by exact hR2) (by exact hR3) Tryz.underlying39 (by rfl) (by exact zaf) Tryz.underlying37 (by rfl) (by exact zai)) (by rfl) ?_
 exact ⟨y, z.m, rfl, hy, hz.im, hoy.mono (Nat.le_refl _) (by omega), hoz.m.mono (Nat.le_refl _) (by omega), hB⟩
theorem zp8 [Inhabited Tab] (x : WS) (s : ShK) (dd : De) (w : World) (h : InS w x s) (hr : zav fS s) (hd : fitDe dd) (hf6 : ¬ dd.fuse.toNat < 6) (hv : 0 < dd.ver) (HK : Hid (KTab w)) :
  Calls Tryz.prog 25 #[aggS x s, zgH dd] w (zlV w (doK fS (setF s (zdq dd) (zbs dd)) dd).1 (doK fS (setF s (-1) (zbs dd)) dd).1.m (doK fS (setF s (zdq dd) (zbs dd)) dd).2) := by
 obtain ⟨hR0, hR1, hR2, hB⟩ := za8 w 39 69 39 (lS x s) [.int .u64 (dd.u.1 : Int), .int .u64 (dd.u.2.1 : Int), .int .u64 (dd.u.2.2 : Int), .int .u64 (dd.clock : Int), .int .u64 (dd.floor : Int), .int .u64 (dd.ver : Int), .int .u8 (dd.fuse.toNat : Int), .int .u8 (dd.keep.toNat : Int)] l0S _ _ _ rfl rfl rfl
 obtain ⟨hR3, hB3⟩ := zat (((w.alloc (.cells (lS x s).toArray 39)).alloc (.cells [.int .u64 (dd.u.1 : Int), .int .u64 (dd.u.2.1 : Int), .int .u64 (dd.u.2.2 : Int), .int .u64 (dd.clock : Int), .int .u64 (dd.floor : Int), .int .u64 (dd.ver : Int), .int .u8 (dd.fuse.toNat : Int), .int .u8 (dd.keep.toNat : Int)].toArray 69)).alloc (.cells l0S.toArray 39)) 37 l0M _ rfl
 have hz3 : (((w.alloc (.cells (lS x s).toArray 39)).alloc (.cells [.int .u64 (dd.u.1 : Int), .int .u64 (dd.u.2.1 : Int), .int .u64 (dd.u.2.2 : Int), .int .u64 (dd.clock : Int), .int .u64 (dd.floor : Int), .int .u64 (dd.ver : Int), .int .u8 (dd.fuse.toNat : Int), .int .u8 (dd.keep.toNat : Int)].toArray 69)).alloc (.cells l0S.toArray 39)).heap.size = w.heap.size + 3 := by simp
 rw [hz3] at hR3
 replace hR0 := hR0.later hB3
 replace hR1 := hR1.later hB3
 replace hR2 := hR2.later hB3
 replace hB := zaa hB hB3
 clear hB3 hz3
 obtain ⟨F, hF⟩ : ∃ F, zdq dd = F := ⟨_, rfl⟩
 obtain ⟨K, hK⟩ : ∃ K, zbs dd = K := ⟨_, rfl⟩
 obtain ⟨P, hP⟩ : ∃ P, doK fS (setF s F K) dd = P := ⟨_, rfl⟩
 obtain ⟨Q, hQ⟩ : ∃ Q, doK fS (setF s (-1) K) dd = Q := ⟨_, rfl⟩
 have hFb : -1 ≤ F ∧ F ≤ 1000 := by
  rw [← hF]
  unfold zdq
  split <;> omega
 have hKb : 0 ≤ K ∧ K ≤ 1000000 := by
  have := dd.keep.toNat_lt
  rw [← hK]
  unfold zbs
  split <;> omega
 have HI : ∀ (fu : Int) (G : ShK × Int), -1 ≤ fu → fu ≤ 1000 → doK fS (setF s fu K) dd = G → 0 < dd.ver → ∀ W, Below w.heap.size w W → InS W x s → Calls Tryz.prog 22 #[.agg #[.slice x.d.A0 x.d.n0 x.d.c0, .int .i64 s.d.a0.s, .slice x.d.A1 x.d.n1 x.d.c1, .int .i64 s.d.a1.s, .int .i64 fu, .int .i64 K, .bool s.d.down, .int .i64 s.turn, .int .u64 (s.num : Int), .int .u64 (s.m.clock : Int), .int .u64 (s.m.b.1 : Int), .slice x.m.b.eA x.m.b.n x.m.b.ec, .slice x.m.b.gA x.m.b.g x.m.b.gc, .int .i64 s.m.c.1, .int .u64 (s.m.c.2.1 : Int), .slice x.m.c.A x.m.c.s x.m.c.c], .agg #[.int .u64 (dd.ver : Int), .slice none 0 0, .slice none 0 0]] W (RetX W G.1 G.2) := fun fu G h1 h2 hG hv W hb hx => by
  have hrs := za4 hr h1 hKb.1
  obtain ⟨j1, j2, j3⟩ := zgG hx hr
  have := zcc x (setF s fu K) zcC (dd.ver, [], []) W (hx.setF fu K) (zh5 W hd.ver) j1 j2 j3 (by show fu ≤ _; omega) (by show K ≤ _; omega) (Lib.hid (HK.out.keep hb))
  unfold doK at hG
  rw [if_pos hv] at hG
  rw [hG] at this
  exact this
 have HT : ∀ (fu : Int) (G : ShK × Int), -1 ≤ fu → fu ≤ 1000 → doK fS (setF s fu K) dd = G → ¬ 0 < dd.ver → ∀ W, Below w.heap.size w W → InS W x s → Calls Tryz.prog 20 #[.agg #[.slice x.d.A0 x.d.n0 x.d.c0, .int .i64 s.d.a0.s, .slice x.d.A1 x.d.n1 x.d.c1, .int .i64 s.d.a1.s, .int .i64 fu, .int .i64 K, .bool s.d.down, .int .i64 s.turn, .int .u64 (s.num : Int), .int .u64 (s.m.clock : Int), .int .u64 (s.m.b.1 : Int), .slice x.m.b.eA x.m.b.n x.m.b.ec, .slice x.m.b.gA x.m.b.g x.m.b.gc, .int .i64 s.m.c.1, .int .u64 (s.m.c.2.1 : Int), .slice x.m.c.A x.m.c.s x.m.c.c], .agg #[.int .u64 (dd.u.1 : Int), .int .u64 (dd.u.2.1 : Int), .int .u64 (dd.u.2.2 : Int)], .int .u64 (dd.clock : Int), .int .u64 (dd.floor : Int)] W (RetX W G.1 G.2) := fun fu G h1 h2 hG hv W hb hx => by
  have hrs := za4 hr h1 hKb.1
  obtain ⟨j1, j2, j3⟩ := zgG hx hr
  have := zdp x (setF s fu K) dd.u dd.clock dd.floor W (hx.setF fu K) hd.u hd.clock hd.floor j1 j2 j3 (by show fu ≤ _; omega) (by show K ≤ _; omega) (Lib.hid (HK.out.keep hb))
  unfold doK at hG
  rw [if_neg hv] at hG
  rw [hG] at this
  exact this
 have HI1 := Lib.hid (HI (-1) Q (by omega) (by omega) hQ)
 have HI2 := Lib.hid (HI F P hFb.1 hFb.2 hP)
 have HT1 := Lib.hid (HT (-1) Q (by omega) (by omega) hQ)
 have HT2 := Lib.hid (HT F P hFb.1 hFb.2 hP)
 have HOX := Lib.hid (fun (_ : World) (g : Nat) (hg : w.heap.size ≤ g) => (h.off (g + 1)).mono hg (Nat.le_refl (g + 1)))
 have hx := h.keep hB
 have hx0 : OffS w.heap.size (w.heap.size + 1) x := h.off _
 have HFE := Lib.hid hF
 have HKE := Lib.hid hK
 rw [hF, hK, hP, hQ]
 clear hP hQ HI HT hFb hKb h hr hd HK hF hK
 unfold aggS zgH
 go_enter Tryz.func25, Tryz.ntmps25
 go_upto_region 1 with fail
 generalize (((w.alloc (.cells (lS x s).toArray 39)).alloc (.cells [.int .u64 (dd.u.1 : Int), .int .u64 (dd.u.2.1 : Int), .int .u64 (dd.u.2.2 : Int), .int .u64 (dd.clock : Int), .int .u64 (dd.floor : Int), .int .u64 (dd.ver : Int), .int .u8 (dd.fuse.toNat : Int), .int .u8 (dd.keep.toNat : Int)].toArray 69)).alloc (.cells l0S.toArray 39)).alloc (.cells l0M.toArray 37) = W0 at hR0 hR1 hR2 hR3 hB hx ⊢
 have f4 := hR0.frozen 4
 have c4 : W0.cell? ⟨w.heap.size, 4, none⟩ = some (.int .i64 s.d.fuse) := hR0.cell rfl
 have hO := (Only.refl w.heap.size W0).setCell 4 (.int .i64 (-1))
 have hR00 := hR0.setCell 4 (.int .i64 (-1))
 have f5 := hR00.frozen 5
 have c5 : (W0.setCell ⟨w.heap.size, 4, none⟩ (.int .i64 (-1))).cell? ⟨w.heap.size, 5, none⟩ = some (.int .i64 s.d.keep) := hR00.cell rfl
 have hO2 := hO.setCell 5 (.int .i64 0)
 go_upto_region 2 with fail
 replace hR0 := hR00.setCell 5 (.int .i64 0)
 replace hR1 := hR1.only hO2 (by omega)
 replace hR2 := hR2.only hO2 (by omega)
 replace hR3 := hR3.only hO2 (by omega)
 replace hx := hx.at_only hO2 hx0 (Nat.le_refl _) (Nat.lt_succ_self _)
 replace hB := hB.trans hO2.below
 clear f4 c4 f5 c5 hO hO2 hR00
 generalize (W0.setCell ⟨w.heap.size, 4, none⟩ (.int .i64 (-1))).setCell ⟨w.heap.size, 5, none⟩ (.int .i64 0) = W1 at *
 have k6 : W1.cell? ⟨w.heap.size + 1, 6, none⟩ = some (.int .u8 (dd.fuse.toNat : Int)) := hR1.cell rfl
 have k7 : W1.cell? ⟨w.heap.size + 1, 7, none⟩ = some (.int .u8 (dd.keep.toNat : Int)) := hR1.cell rfl
 have i6 : ¬ (dd.fuse.toNat : Int) < 6 := by omega
 have hF1 : (-1 : Int) = F := by rw [← HFE.out]; exact (if_neg hf6).symm
 have hK1 : (0 : Int) = K := by rw [← HKE.out]; exact (if_neg hf6).symm
 go_upto_region 4 with fail
 rw [hF1, hK1] at hR0
 clear k6 k7 i6 hf6 hF1 hK1 HFE HKE
 obtain ⟨hR7, hBn⟩ := zat W1 39 l0S _ rfl
 go_upto_region 5 with (first
  | (refine zac rfl 39 (.tmp 2) rfl (w.heap.size) 0 rfl _ _ (hR0) ([.slice x.d.A0 x.d.n0 x.d.c0, .int .i64 s.d.a0.s, .slice x.d.A1 x.d.n1 x.d.c1, .int .i64 s.d.a1.s, .int .i64 F, .int .i64 K, .bool s.d.down, .int .i64 s.turn, .int .u64 (s.num : Int), .int .u64 (s.m.clock : Int), .int .u64 (s.m.b.1 : Int), .slice x.m.b.eA x.m.b.n x.m.b.ec, .slice x.m.b.gA x.m.b.g x.m.b.gc, .int .i64 s.m.c.1, .int .u64 (s.m.c.2.1 : Int), .slice x.m.c.A x.m.c.s x.m.c.c]) (by rfl) _ Tryz.underlying39 rfl (by exact zaf) ?_)
  | (refine zab rfl 39 (.tmp 7) (.tmp 35) rfl (W1.heap.size) rfl ([.slice x.d.A0 x.d.n0 x.d.c0, .int .i64 s.d.a0.s, .slice x.d.A1 x.d.n1 x.d.c1, .int .i64 s.d.a1.s, .int .i64 F, .int .i64 K, .bool s.d.down, .int .i64 s.turn, .int .u64 (s.num : Int), .int .u64 (s.m.clock : Int), .int .u64 (s.m.b.1 : Int), .slice x.m.b.eA x.m.b.n x.m.b.ec, .slice x.m.b.gA x.m.b.g x.m.b.gc, .int .i64 s.m.c.1, .int .u64 (s.m.c.2.1 : Int), .slice x.m.c.A x.m.c.s x.m.c.c]) rfl _ _ (hR7) (by exact zaf) rfl (zan x (setF s F K)) ?_))
 have hgg7 : w.heap.size + 4 ≤ W1.heap.size := by have := hR3.lt; omega
 replace hR7 := hR7.setRow [.slice x.d.A0 x.d.n0 x.d.c0, .int .i64 s.d.a0.s, .slice x.d.A1 x.d.n1 x.d.c1, .int .i64 s.d.a1.s, .int .i64 F, .int .i64 K, .bool s.d.down, .int .i64 s.turn, .int .u64 (s.num : Int), .int .u64 (s.m.clock : Int), .int .u64 (s.m.b.1 : Int), .slice x.m.b.eA x.m.b.n x.m.b.ec, .slice x.m.b.gA x.m.b.g x.m.b.gc, .int .i64 s.m.c.1, .int .u64 (s.m.c.2.1 : Int), .slice x.m.c.A x.m.c.s x.m.c.c]
 have hbn := below_setRow hBn (Nat.le_refl _) [.slice x.d.A0 x.d.n0 x.d.c0, .int .i64 s.d.a0.s, .slice x.d.A1 x.d.n1 x.d.c1, .int .i64 s.d.a1.s, .int .i64 F, .int .i64 K, .bool s.d.down, .int .i64 s.turn, .int .u64 (s.num : Int), .int .u64 (s.m.clock : Int), .int .u64 (s.m.b.1 : Int), .slice x.m.b.eA x.m.b.n x.m.b.ec, .slice x.m.b.gA x.m.b.g x.m.b.gc, .int .i64 s.m.c.1, .int .u64 (s.m.c.2.1 : Int), .slice x.m.c.A x.m.c.s x.m.c.c].toArray
 clear hBn
 generalize (W1.alloc (.cells l0S.toArray 39)).setRow W1.heap.size [.slice x.d.A0 x.d.n0 x.d.c0, .int .i64 s.d.a0.s, .slice x.d.A1 x.d.n1 x.d.c1, .int .i64 s.d.a1.s, .int .i64 F, .int .i64 K, .bool s.d.down, .int .i64 s.turn, .int .u64 (s.num : Int), .int .u64 (s.m.clock : Int), .int .u64 (s.m.b.1 : Int), .slice x.m.b.eA x.m.b.n x.m.b.ec, .slice x.m.b.gA x.m.b.g x.m.b.gc, .int .i64 s.m.c.1, .int .u64 (s.m.c.2.1 : Int), .slice x.m.c.A x.m.c.s x.m.c.c].toArray = W5 at hR7 hbn ⊢
 replace hR0 := hR0.later hbn
 replace hR1 := hR1.later hbn
 replace hR2 := hR2.later hbn
 replace hR3 := hR3.later hbn
 replace hx := hx.keep hbn
 replace hB := zaa hB hbn
 clear hbn
 generalize hge : W1.heap.size = g7 at *
 clear hge
 have f4 := hR7.frozen 4
 have c4 : W5.cell? ⟨g7, 4, none⟩ = some (.int .i64 F) := hR7.cell rfl
 have hO := (Only.refl g7 W5).setCell 4 (.int .i64 (-1))
 have hxg : OffS g7 (g7 + 1) x := (HOX.out W5 g7 (by omega))
 go_upto_region 6 with fail
 replace hR7 := hR7.setCell 4 (.int .i64 (-1))
 replace hR0 := hR0.only hO (by omega)
 replace hR1 := hR1.only hO (by omega)
 replace hR2 := hR2.only hO (by omega)
 replace hR3 := hR3.only hO (by omega)
 replace hx := hx.at_only hO hxg (Nat.le_refl _) (Nat.lt_succ_self _)
 replace hB := hB.trans (hO.below.mono (by omega))
 clear f4 c4 hO hxg
 generalize W5.setCell ⟨g7, 4, none⟩ (.int .i64 (-1)) = W6 at *
 have k5 := hR1.cell (i := 5) rfl
 have i1 : (0 : Int) < (dd.ver : Int) := by omega
 have hvi := hv
 clear hv HT1 HT2
 go_upto_region 7 with fail
 obtain ⟨hR8, hBn⟩ := zat W6 32 l0B _ rfl
 go_upto_region 8 with (refine zab rfl 32 (.tmp 8) (.tmp 43) rfl (W6.heap.size) rfl ([.int .u64 (dd.ver : Int), .slice none 0 0, .slice none 0 0]) rfl _ _ (hR8) (by exact zax) rfl (zaK _ _ _ rfl rfl rfl) ?_)
 replace hR8 := hR8.setRow [.int .u64 (dd.ver : Int), .slice none 0 0, .slice none 0 0]
 have hbn := below_setRow hBn (Nat.le_refl _) [.int .u64 (dd.ver : Int), .slice none 0 0, .slice none 0 0].toArray
 clear hBn
 generalize (W6.alloc (.cells l0B.toArray 32)).setRow W6.heap.size [.int .u64 (dd.ver : Int), .slice none 0 0, .slice none 0 0].toArray = W7 at hR8 hbn ⊢
 replace hR0 := hR0.later hbn
 replace hR2 := hR2.later hbn
 replace hR3 := hR3.later hbn
 replace hR7 := hR7.later hbn
 replace hx := hx.keep hbn
 replace hB := zaa hB hbn
 clear hbn
 generalize hge : W6.heap.size = g8 at *
 clear hge
 clear k5 i1
 go_wp2_with (first
  | (refine zac rfl 39 (.tmp 7) rfl (g7) 0 rfl _ _ (hR7) ([.slice x.d.A0 x.d.n0 x.d.c0, .int .i64 s.d.a0.s, .slice x.d.A1 x.d.n1 x.d.c1, .int .i64 s.d.a1.s, .int .i64 (-1), .int .i64 K, .bool s.d.down, .int .i64 s.turn, .int .u64 (s.num : Int), .int .u64 (s.m.clock : Int), .int .u64 (s.m.b.1 : Int), .slice x.m.b.eA x.m.b.n x.m.b.ec, .slice x.m.b.gA x.m.b.g x.m.b.gc, .int .i64 s.m.c.1, .int .u64 (s.m.c.2.1 : Int), .slice x.m.c.A x.m.c.s x.m.c.c]) (by rfl) _ Tryz.underlying39 rfl (by exact zaf) ?_)
  | (refine zac rfl 32 (.tmp 8) rfl (g8) 0 rfl _ _ (hR8) ([.int .u64 (dd.ver : Int), .slice none 0 0, .slice none 0 0]) (by rfl) _ Tryz.underlying32 rfl (by exact zax) ?_))
 refine (HI1.out hvi W7 hB hx).mono ?_
 rintro e wa ⟨z, rfl, hz, hoz, hb⟩
 have hsz := hR3.lt
 have hsw := hb.size
 replace hR0 := hR0.later hb
 replace hR2 := hR2.later hb
 replace hR3 := hR3.later hb
 replace hR8 := hR8.later hb
 replace hx := hx.keep hb
 replace hB := zaa hB hb
 clear hb
 replace hoz := hoz.mono (Nat.le_refl _) (show w.heap.size + 4 ≤ _ by omega)
 obtain ⟨hR9, hBn⟩ := zat wa 39 l0S _ rfl
 unfold aggS
 have hgg : w.heap.size + 4 ≤ wa.heap.size := by omega
 go_upto_region 9 with (refine zab rfl 39 (.tmp 9) (.tmp 48) rfl (wa.heap.size) rfl ((lS z Q.1)) rfl _ _ (hR9) (by exact zaf) rfl (zan z Q.1) ?_)
 replace hR9 := hR9.setRow (lS z Q.1)
 have hbn := below_setRow hBn (Nat.le_refl _) (lS z Q.1).toArray
 clear hBn
 generalize (wa.alloc (.cells l0S.toArray 39)).setRow wa.heap.size (lS z Q.1).toArray = wb at hR9 hbn ⊢
 replace hR0 := hR0.later hbn
 replace hR2 := hR2.later hbn
 replace hR3 := hR3.later hbn
 replace hR8 := hR8.later hbn
 replace hx := hx.keep hbn
 replace hz := hz.keep hbn
 replace hB := zaa hB hbn
 clear hbn
 generalize hge : wa.heap.size = g9 at *
 clear hge
 go_wp2_with (first
  | (refine zac rfl 39 (.tmp 2) rfl (w.heap.size) 0 rfl _ _ (hR0) ([.slice x.d.A0 x.d.n0 x.d.c0, .int .i64 s.d.a0.s, .slice x.d.A1 x.d.n1 x.d.c1, .int .i64 s.d.a1.s, .int .i64 F, .int .i64 K, .bool s.d.down, .int .i64 s.turn, .int .u64 (s.num : Int), .int .u64 (s.m.clock : Int), .int .u64 (s.m.b.1 : Int), .slice x.m.b.eA x.m.b.n x.m.b.ec, .slice x.m.b.gA x.m.b.g x.m.b.gc, .int .i64 s.m.c.1, .int .u64 (s.m.c.2.1 : Int), .slice x.m.c.A x.m.c.s x.m.c.c]) (by rfl) _ Tryz.underlying39 rfl (by exact zaf) ?_)
  | (refine zac rfl 32 (.tmp 8) rfl (g8) 0 rfl _ _ (hR8) ([.int .u64 (dd.ver : Int), .slice none 0 0, .slice none 0 0]) (by rfl) _ Tryz.underlying32 rfl (by exact zax) ?_))
 refine (HI2.out hvi wb hB hx).mono ?_
 rintro e wc ⟨y, rfl, hy, hoy, hb⟩
 have hsz := hR3.lt
 have hsw := hb.size
 replace hR2 := hR2.later hb
 replace hR3 := hR3.later hb
 replace hR9 := hR9.later hb
 replace hx := hx.keep hb
 replace hz := hz.keep hb
 replace hB := zaa hB hb
 clear hb
 replace hoy := hoy.mono (Nat.le_refl _) (show w.heap.size + 4 ≤ _ by omega)
 obtain ⟨hR11, hBn⟩ := zat wc 39 l0S _ rfl
 unfold aggS
 have hgg : w.heap.size + 4 ≤ wc.heap.size := by omega
 go_upto_region 10 with (refine zab rfl 39 (.tmp 11) (.tmp 54) rfl (wc.heap.size) rfl ((lS y P.1)) rfl _ _ (hR11) (by exact zaf) rfl (zan y P.1) ?_)
 replace hR11 := hR11.setRow (lS y P.1)
 have hbn := below_setRow hBn (Nat.le_refl _) (lS y P.1).toArray
 clear hBn
 generalize (wc.alloc (.cells l0S.toArray 39)).setRow wc.heap.size (lS y P.1).toArray = wl at hR11 hbn ⊢
 replace hR2 := hR2.later hbn
 replace hR3 := hR3.later hbn
 replace hR9 := hR9.later hbn
 replace hx := hx.keep hbn
 replace hz := hz.keep hbn
 replace hy := hy.keep hbn
 replace hB := zaa hB hbn
 clear hbn
 generalize hge : wc.heap.size = g11 at *
 clear hge
 have hS : dpS g11 g9 (.slice y.d.A0 y.d.n0 y.d.c0) (.int .i64 P.1.d.a0.s) (.slice y.d.A1 y.d.n1 y.d.c1) (.int .i64 P.1.d.a1.s) (.int .i64 P.1.d.fuse) (.int .i64 P.1.d.keep) (.bool P.1.d.down) (.int .i64 P.1.turn) (.int .u64 (P.1.num : Int)) (.int .u64 (P.1.m.clock : Int)) (.int .u64 (P.1.m.b.1 : Int)) (.slice y.m.b.eA y.m.b.n y.m.b.ec) (.slice y.m.b.gA y.m.b.g y.m.b.gc) (.int .i64 P.1.m.c.1) (.int .u64 (P.1.m.c.2.1 : Int)) (.slice y.m.c.A y.m.c.s y.m.c.c) (.int .u64 (Q.1.m.clock : Int)) (.int .u64 (Q.1.m.b.1 : Int)) (.slice z.m.b.eA z.m.b.n z.m.b.ec) (.slice z.m.b.gA z.m.b.g z.m.b.gc) (.int .i64 Q.1.m.c.1) (.int .u64 (Q.1.m.c.2.1 : Int)) (.slice z.m.c.A z.m.c.s z.m.c.c) wl.drew := zdH (W := wl.drew) hR11 hR9
 replace hR2 := hR2.drew
 replace hR3 := hR3.drew
 replace hR11 := hR11.drew
 replace hR9 := hR9.drew
 replace hy := hy.keep ((Below.refl _ wl).drew)
 replace hz := hz.keep ((Below.refl _ wl).drew)
 replace hB := hB.drew
 refine zah (dpS g11 g9 (.slice y.d.A0 y.d.n0 y.d.c0) (.int .i64 P.1.d.a0.s) (.slice y.d.A1 y.d.n1 y.d.c1) (.int .i64 P.1.d.a1.s) (.int .i64 P.1.d.fuse) (.int .i64 P.1.d.keep) (.bool P.1.d.down) (.int .i64 P.1.turn) (.int .u64 (P.1.num : Int)) (.int .u64 (P.1.m.clock : Int)) (.int .u64 (P.1.m.b.1 : Int)) (.slice y.m.b.eA y.m.b.n y.m.b.ec) (.slice y.m.b.gA y.m.b.g y.m.b.gc) (.int .i64 P.1.m.c.1) (.int .u64 (P.1.m.c.2.1 : Int)) (.slice y.m.c.A y.m.c.s y.m.c.c) (.int .u64 (Q.1.m.clock : Int)) (.int .u64 (Q.1.m.b.1 : Int)) (.slice z.m.b.eA z.m.b.n z.m.b.ec) (.slice z.m.b.gA z.m.b.g z.m.b.gc) (.int .i64 Q.1.m.c.1) (.int .u64 (Q.1.m.c.2.1 : Int)) (.slice z.m.c.A z.m.c.s z.m.c.c)) (.step 0 false (.step 1 false (.step 2 false (.step 3 false (.step 4 true (.step 5 true (.step 6 false (.nil)))))))) hS (by kernel_rfl) (by kernel_rfl) (by rfl) (by kernel_rfl) ?_
 generalize wl.drew = wv at *
 iterate 4 (refine zae rfl (by rfl) (v := ?_) ?_ ?_; rotate_left 1; (rintro W ⟨hW0, hW1⟩; go_simp <;> with_reducible rfl); simp only [pA, pB, pC, Act.put, pD, pE, pF])
 clear hS
 refine zad rfl (by rfl) (fun K' hK => ?_)
 refine Row.wp_store 39 (.tmp 4) (.tmp 56) (by rfl) (by rfl) (lS y P.1) (by rfl) hR2 (by exact zaf) rfl (zan y P.1) ?_
 have hO := (Only.refl (w.heap.size + 2) wv).setRow (lS y P.1).toArray
 replace hR2 := hR2.setRow (lS y P.1)
 replace hR3 := hR3.only hO (by omega)
 replace hR11 := hR11.only hO (by omega)
 replace hR9 := hR9.only hO (by omega)
 replace hy := hy.at_only hO hoy (Nat.zero_le _) (by omega)
 replace hz := hz.at_only hO hoz (Nat.zero_le _) (by omega)
 replace hB := below_setRow hB (show w.heap.size ≤ w.heap.size + 2 by omega) (lS y P.1).toArray
 refine hK.out _ _ (zdH hR11 hR9) ?_
 clear hK K' hO
 generalize wv.setRow (w.heap.size + 2) (lS y P.1).toArray = wq at *
 (try simp only [pA, pB, pC, Act.put, pD, pE, pF])
 refine zad rfl (by rfl) (fun K' hK => ?_)
 refine Row.wp_store 37 (.tmp 5) (.tmp 58) (by rfl) (by rfl) (lM z.m Q.1.m) (by rfl) hR3 (by exact zai) rfl (zaq z.m Q.1.m) ?_
 have hO := (Only.refl (w.heap.size + 3) wq).setRow (lM z.m Q.1.m).toArray
 replace hR3 := hR3.setRow (lM z.m Q.1.m)
 replace hR2 := hR2.only hO (by omega)
 replace hR11 := hR11.only hO (by omega)
 replace hR9 := hR9.only hO (by omega)
 replace hy := hy.at_only hO hoy (Nat.zero_le _) (by omega)
 replace hz := hz.at_only hO hoz (Nat.zero_le _) (by omega)
 replace hB := below_setRow hB (show w.heap.size ≤ w.heap.size + 3 by omega) (lM z.m Q.1.m).toArray
 refine hK.out _ _ (zdH hR11 hR9) ?_
 clear hK K' hO
 generalize wq.setRow (w.heap.size + 3) (lM z.m Q.1.m).toArray = wr at *
 (try simp only [pA, pB, pC, Act.put, pD, pE, pF])
 iterate 1 (refine zae rfl (by rfl) (v := ?_) ?_ ?_; rotate_left 1; (rintro W ⟨hW0, hW1⟩; go_simp <;> with_reducible rfl); simp only [pA, pB, pC, Act.put, pD, pE, pF])
 refine zal ?_
 go_wp2_with fail
 refine bodyPost_ret (zbR (p := 4) (q := 5) (u := 6) (ty := 39) (tz := 37) (by rfl) _ _ (w.heap.size + 2) (w.heap.size + 3) 39 37 _ _ _ _ (by rfl) (by rfl) (by exact hR2) (by exact hR3) Tryz.underlying39 (by rfl) (by exact zaf) Tryz.underlying37 (by rfl) (by exact zai)) (by rfl) ?_
 exact ⟨y, z.m, rfl, hy, hz.im, hoy.mono (Nat.le_refl _) (by omega), hoz.m.mono (Nat.le_refl _) (by omega), hB⟩
theorem zp9 [Inhabited Tab] (x : WS) (s : ShK) (dd : De) (w : World) (h : InS w x s) (hr : zav fS s) (hd : fitDe dd) (hf6 : ¬ dd.fuse.toNat < 6) (hv : ¬ 0 < dd.ver) (HK : Hid (KTab w)) :
  Calls Tryz.prog 25 #[aggS x s, zgH dd] w (zlV w (doK fS (setF s (zdq dd) (zbs dd)) dd).1 (doK fS (setF s (-1) (zbs dd)) dd).1.m (doK fS (setF s (zdq dd) (zbs dd)) dd).2) := by
 obtain ⟨hR0, hR1, hR2, hB⟩ := za8 w 39 69 39 (lS x s) [.int .u64 (dd.u.1 : Int), .int .u64 (dd.u.2.1 : Int), .int .u64 (dd.u.2.2 : Int), .int .u64 (dd.clock : Int), .int .u64 (dd.floor : Int), .int .u64 (dd.ver : Int), .int .u8 (dd.fuse.toNat : Int), .int .u8 (dd.keep.toNat : Int)] l0S _ _ _ rfl rfl rfl
 obtain ⟨hR3, hB3⟩ := zat (((w.alloc (.cells (lS x s).toArray 39)).alloc (.cells [.int .u64 (dd.u.1 : Int), .int .u64 (dd.u.2.1 : Int), .int .u64 (dd.u.2.2 : Int), .int .u64 (dd.clock : Int), .int .u64 (dd.floor : Int), .int .u64 (dd.ver : Int), .int .u8 (dd.fuse.toNat : Int), .int .u8 (dd.keep.toNat : Int)].toArray 69)).alloc (.cells l0S.toArray 39)) 37 l0M _ rfl
 have hz3 : (((w.alloc (.cells (lS x s).toArray 39)).alloc (.cells [.int .u64 (dd.u.1 : Int), .int .u64 (dd.u.2.1 : Int), .int .u64 (dd.u.2.2 : Int), .int .u64 (dd.clock : Int), .int .u64 (dd.floor : Int), .int .u64 (dd.ver : Int), .int .u8 (dd.fuse.toNat : Int), .int .u8 (dd.keep.toNat : Int)].toArray 69)).alloc (.cells l0S.toArray 39)).heap.size = w.heap.size + 3 := by simp
 rw [hz3] at hR3
 replace hR0 := hR0.later hB3
 replace hR1 := hR1.later hB3
 replace hR2 := hR2.later hB3
 replace hB := zaa hB hB3
 clear hB3 hz3
 obtain ⟨F, hF⟩ : ∃ F, zdq dd = F := ⟨_, rfl⟩
 obtain ⟨K, hK⟩ : ∃ K, zbs dd = K := ⟨_, rfl⟩
 obtain ⟨P, hP⟩ : ∃ P, doK fS (setF s F K) dd = P := ⟨_, rfl⟩
 obtain ⟨Q, hQ⟩ : ∃ Q, doK fS (setF s (-1) K) dd = Q := ⟨_, rfl⟩
 have hFb : -1 ≤ F ∧ F ≤ 1000 := by
  rw [← hF]
  unfold zdq
  split <;> omega
 have hKb : 0 ≤ K ∧ K ≤ 1000000 := by
  have := dd.keep.toNat_lt
  rw [← hK]
  unfold zbs
  split <;> omega
 have HI : ∀ (fu : Int) (G : ShK × Int), -1 ≤ fu → fu ≤ 1000 → doK fS (setF s fu K) dd = G → 0 < dd.ver → ∀ W, Below w.heap.size w W → InS W x s → Calls Tryz.prog 22 #[.agg #[.slice x.d.A0 x.d.n0 x.d.c0, .int .i64 s.d.a0.s, .slice x.d.A1 x.d.n1 x.d.c1, .int .i64 s.d.a1.s, .int .i64 fu, .int .i64 K, .bool s.d.down, .int .i64 s.turn, .int .u64 (s.num : Int), .int .u64 (s.m.clock : Int), .int .u64 (s.m.b.1 : Int), .slice x.m.b.eA x.m.b.n x.m.b.ec, .slice x.m.b.gA x.m.b.g x.m.b.gc, .int .i64 s.m.c.1, .int .u64 (s.m.c.2.1 : Int), .slice x.m.c.A x.m.c.s x.m.c.c], .agg #[.int .u64 (dd.ver : Int), .slice none 0 0, .slice none 0 0]] W (RetX W G.1 G.2) := fun fu G h1 h2 hG hv W hb hx => by
  have hrs := za4 hr h1 hKb.1
  obtain ⟨j1, j2, j3⟩ := zgG hx hr
  have := zcc x (setF s fu K) zcC (dd.ver, [], []) W (hx.setF fu K) (zh5 W hd.ver) j1 j2 j3 (by show fu ≤ _; omega) (by show K ≤ _; omega) (Lib.hid (HK.out.keep hb))
  unfold doK at hG
  rw [if_pos hv] at hG
  rw [hG] at this
  exact this
 have HT : ∀ (fu : Int) (G : ShK × Int), -1 ≤ fu → fu ≤ 1000 → doK fS (setF s fu K) dd = G → ¬ 0 < dd.ver → ∀ W, Below w.heap.size w W → InS W x s → Calls Tryz.prog 20 #[.agg #[.slice x.d.A0 x.d.n0 x.d.c0, .int .i64 s.d.a0.s, .slice x.d.A1 x.d.n1 x.d.c1, .int .i64 s.d.a1.s, .int .i64 fu, .int .i64 K, .bool s.d.down, .int .i64 s.turn, .int .u64 (s.num : Int), .int .u64 (s.m.clock : Int), .int .u64 (s.m.b.1 : Int), .slice x.m.b.eA x.m.b.n x.m.b.ec, .slice x.m.b.gA x.m.b.g x.m.b.gc, .int .i64 s.m.c.1, .int .u64 (s.m.c.2.1 : Int), .slice x.m.c.A x.m.c.s x.m.c.c], .agg #[.int .u64 (dd.u.1 : Int), .int .u64 (dd.u.2.1 : Int), .int .u64 (dd.u.2.2 : Int)], .int .u64 (dd.clock : Int), .int .u64 (dd.floor : Int)] W (RetX W G.1 G.2) := fun fu G h1 h2 hG hv W hb hx => by
  have hrs := za4 hr h1 hKb.1
  obtain ⟨j1, j2, j3⟩ := zgG hx hr
  have := zdp x (setF s fu K) dd.u dd.clock dd.floor W (hx.setF fu K) hd.u hd.clock hd.floor j1 j2 j3 (by show fu ≤ _; omega) (by show K ≤ _; omega) (Lib.hid (HK.out.keep hb))
  unfold doK at hG
  rw [if_neg hv] at hG
  rw [hG] at this
  exact this
 have HI1 := Lib.hid (HI (-1) Q (by omega) (by omega) hQ)
 have HI2 := Lib.hid (HI F P hFb.1 hFb.2 hP)
 have HT1 := Lib.hid (HT (-1) Q (by omega) (by omega) hQ)
 have HT2 := Lib.hid (HT F P hFb.1 hFb.2 hP)
 have HOX := Lib.hid (fun (_ : World) (g : Nat) (hg : w.heap.size ≤ g) => (h.off (g + 1)).mono hg (Nat.le_refl (g + 1)))
 have hx := h.keep hB
 have hx0 : OffS w.heap.size (w.heap.size + 1) x := h.off _
 have HFE := Lib.hid hF
 have HKE := Lib.hid hK
 rw [hF, hK, hP, hQ]
 clear hP hQ HI HT hFb hKb h hr hd HK hF hK
 unfold aggS zgH
 go_enter Tryz.func25, Tryz.ntmps25
 go_upto_region 1 with fail
 generalize (((w.alloc (.cells (lS x s).toArray 39)).alloc (.cells [.int .u64 (dd.u.1 : Int), .int .u64 (dd.u.2.1 : Int), .int .u64 (dd.u.2.2 : Int), .int .u64 (dd.clock : Int), .int .u64 (dd.floor : Int), .int .u64 (dd.ver : Int), .int .u8 (dd.fuse.toNat : Int), .int .u8 (dd.keep.toNat : Int)].toArray 69)).alloc (.cells l0S.toArray 39)).alloc (.cells l0M.toArray 37) = W0 at hR0 hR1 hR2 hR3 hB hx ⊢
 have f4 := hR0.frozen 4
 have c4 : W0.cell? ⟨w.heap.size, 4, none⟩ = some (.int .i64 s.d.fuse) := hR0.cell rfl
 have hO := (Only.refl w.heap.size W0).setCell 4 (.int .i64 (-1))
 have hR00 := hR0.setCell 4 (.int .i64 (-1))
 have f5 := hR00.frozen 5
 have c5 : (W0.setCell ⟨w.heap.size, 4, none⟩ (.int .i64 (-1))).cell? ⟨w.heap.size, 5, none⟩ = some (.int .i64 s.d.keep) := hR00.cell rfl
 have hO2 := hO.setCell 5 (.int .i64 0)
 go_upto_region 2 with fail
 replace hR0 := hR00.setCell 5 (.int .i64 0)
 replace hR1 := hR1.only hO2 (by omega)
 replace hR2 := hR2.only hO2 (by omega)
 replace hR3 := hR3.only hO2 (by omega)
 replace hx := hx.at_only hO2 hx0 (Nat.le_refl _) (Nat.lt_succ_self _)
 replace hB := hB.trans hO2.below
 clear f4 c4 f5 c5 hO hO2 hR00
 generalize (W0.setCell ⟨w.heap.size, 4, none⟩ (.int .i64 (-1))).setCell ⟨w.heap.size, 5, none⟩ (.int .i64 0) = W1 at *
 have k6 : W1.cell? ⟨w.heap.size + 1, 6, none⟩ = some (.int .u8 (dd.fuse.toNat : Int)) := hR1.cell rfl
 have k7 : W1.cell? ⟨w.heap.size + 1, 7, none⟩ = some (.int .u8 (dd.keep.toNat : Int)) := hR1.cell rfl
 have i6 : ¬ (dd.fuse.toNat : Int) < 6 := by omega
 have hF1 : (-1 : Int) = F := by rw [← HFE.out]; exact (if_neg hf6).symm
 have hK1 : (0 : Int) = K := by rw [← HKE.out]; exact (if_neg hf6).symm
 go_upto_region 4 with fail
 rw [hF1, hK1] at hR0
 clear k6 k7 i6 hf6 hF1 hK1 HFE HKE
 obtain ⟨hR7, hBn⟩ := zat W1 39 l0S _ rfl
 go_upto_region 5 with (first
  | (refine zac rfl 39 (.tmp 2) rfl (w.heap.size) 0 rfl _ _ (hR0) ([.slice x.d.A0 x.d.n0 x.d.c0, .int .i64 s.d.a0.s, .slice x.d.A1 x.d.n1 x.d.c1, .int .i64 s.d.a1.s, .int .i64 F, .int .i64 K, .bool s.d.down, .int .i64 s.turn, .int .u64 (s.num : Int), .int .u64 (s.m.clock : Int), .int .u64 (s.m.b.1 : Int), .slice x.m.b.eA x.m.b.n x.m.b.ec, .slice x.m.b.gA x.m.b.g x.m.b.gc, .int .i64 s.m.c.1, .int .u64 (s.m.c.2.1 : Int), .slice x.m.c.A x.m.c.s x.m.c.c]) (by rfl) _ Tryz.underlying39 rfl (by exact zaf) ?_)
  | (refine zab rfl 39 (.tmp 7) (.tmp 35) rfl (W1.heap.size) rfl ([.slice x.d.A0 x.d.n0 x.d.c0, .int .i64 s.d.a0.s, .slice x.d.A1 x.d.n1 x.d.c1, .int .i64 s.d.a1.s, .int .i64 F, .int .i64 K, .bool s.d.down, .int .i64 s.turn, .int .u64 (s.num : Int), .int .u64 (s.m.clock : Int), .int .u64 (s.m.b.1 : Int), .slice x.m.b.eA x.m.b.n x.m.b.ec, .slice x.m.b.gA x.m.b.g x.m.b.gc, .int .i64 s.m.c.1, .int .u64 (s.m.c.2.1 : Int), .slice x.m.c.A x.m.c.s x.m.c.c]) rfl _ _ (hR7) (by exact zaf) rfl (zan x (setF s F K)) ?_))
 have hgg7 : w.heap.size + 4 ≤ W1.heap.size := by have := hR3.lt; omega
 replace hR7 := hR7.setRow [.slice x.d.A0 x.d.n0 x.d.c0, .int .i64 s.d.a0.s, .slice x.d.A1 x.d.n1 x.d.c1, .int .i64 s.d.a1.s, .int .i64 F, .int .i64 K, .bool s.d.down, .int .i64 s.turn, .int .u64 (s.num : Int), .int .u64 (s.m.clock : Int), .int .u64 (s.m.b.1 : Int), .slice x.m.b.eA x.m.b.n x.m.b.ec, .slice x.m.b.gA x.m.b.g x.m.b.gc, .int .i64 s.m.c.1, .int .u64 (s.m.c.2.1 : Int), .slice x.m.c.A x.m.c.s x.m.c.c]
 have hbn := below_setRow hBn (Nat.le_refl _) [.slice x.d.A0 x.d.n0 x.d.c0, .int .i64 s.d.a0.s, .slice x.d.A1 x.d.n1 x.d.c1, .int .i64 s.d.a1.s, .int .i64 F, .int .i64 K, .bool s.d.down, .int .i64 s.turn, .int .u64 (s.num : Int), .int .u64 (s.m.clock : Int), .int .u64 (s.m.b.1 : Int), .slice x.m.b.eA x.m.b.n x.m.b.ec, .slice x.m.b.gA x.m.b.g x.m.b.gc, .int .i64 s.m.c.1, .int .u64 (s.m.c.2.1 : Int), .slice x.m.c.A x.m.c.s x.m.c.c].toArray
 clear hBn
 generalize (W1.alloc (.cells l0S.toArray 39)).setRow W1.heap.size [.slice x.d.A0 x.d.n0 x.d.c0, .int .i64 s.d.a0.s, .slice x.d.A1 x.d.n1 x.d.c1, .int .i64 s.d.a1.s, .int .i64 F, .int .i64 K, .bool s.d.down, .int .i64 s.turn, .int .u64 (s.num : Int), .int .u64 (s.m.clock : Int), .int .u64 (s.m.b.1 : Int), .slice x.m.b.eA x.m.b.n x.m.b.ec, .slice x.m.b.gA x.m.b.g x.m.b.gc, .int .i64 s.m.c.1, .int .u64 (s.m.c.2.1 : Int), .slice x.m.c.A x.m.c.s x.m.c.c].toArray = W5 at hR7 hbn ⊢
 replace hR0 := hR0.later hbn
 replace hR1 := hR1.later hbn
 replace hR2 := hR2.later hbn
 replace hR3 := hR3.later hbn
 replace hx := hx.keep hbn
 replace hB := zaa hB hbn
 clear hbn
 generalize hge : W1.heap.size = g7 at *
 clear hge
 have f4 := hR7.frozen 4
 have c4 : W5.cell? ⟨g7, 4, none⟩ = some (.int .i64 F) := hR7.cell rfl
 have hO := (Only.refl g7 W5).setCell 4 (.int .i64 (-1))
 have hxg : OffS g7 (g7 + 1) x := (HOX.out W5 g7 (by omega))
 go_upto_region 6 with fail
 replace hR7 := hR7.setCell 4 (.int .i64 (-1))
 replace hR0 := hR0.only hO (by omega)
 replace hR1 := hR1.only hO (by omega)
 replace hR2 := hR2.only hO (by omega)
 replace hR3 := hR3.only hO (by omega)
 replace hx := hx.at_only hO hxg (Nat.le_refl _) (Nat.lt_succ_self _)
 replace hB := hB.trans (hO.below.mono (by omega))
 clear f4 c4 hO hxg
 generalize W5.setCell ⟨g7, 4, none⟩ (.int .i64 (-1)) = W6 at *
 have k5 := hR1.cell (i := 5) rfl
 have i1 : ¬ (0 : Int) < (dd.ver : Int) := by omega
 have hvi := hv
 clear hv HI1 HI2
 go_upto_region 11 with fail
 clear k5 i1
 have k3 := hR1.cell (i := 3) rfl
 have k4 := hR1.cell (i := 4) rfl
 go_wp2_with (first
  | (refine zac rfl 39 (.tmp 7) rfl (g7) 0 rfl _ _ (hR7) ([.slice x.d.A0 x.d.n0 x.d.c0, .int .i64 s.d.a0.s, .slice x.d.A1 x.d.n1 x.d.c1, .int .i64 s.d.a1.s, .int .i64 (-1), .int .i64 K, .bool s.d.down, .int .i64 s.turn, .int .u64 (s.num : Int), .int .u64 (s.m.clock : Int), .int .u64 (s.m.b.1 : Int), .slice x.m.b.eA x.m.b.n x.m.b.ec, .slice x.m.b.gA x.m.b.g x.m.b.gc, .int .i64 s.m.c.1, .int .u64 (s.m.c.2.1 : Int), .slice x.m.c.A x.m.c.s x.m.c.c]) (by rfl) _ Tryz.underlying39 rfl (by exact zaf) ?_)
  | (refine zac rfl 57 (.tmp 62) rfl (w.heap.size + 1) 0 rfl _ _ (hR1) ([.int .u64 (dd.u.1 : Int), .int .u64 (dd.u.2.1 : Int), .int .u64 (dd.u.2.2 : Int)]) (by rfl) _ Tryz.underlying57 rfl (by exact zaW) ?_))
 refine (HT1.out hvi W6 hB hx).mono ?_
 rintro e wa ⟨z, rfl, hz, hoz, hb⟩
 have hsz := hR3.lt
 have hsw := hb.size
 replace hR0 := hR0.later hb
 replace hR1 := hR1.later hb
 replace hR2 := hR2.later hb
 replace hR3 := hR3.later hb
 replace hx := hx.keep hb
 replace hB := zaa hB hb
 clear hb
 replace hoz := hoz.mono (Nat.le_refl _) (show w.heap.size + 4 ≤ _ by omega)
 obtain ⟨hR9, hBn⟩ := zat wa 39 l0S _ rfl
 unfold aggS
 have hgg : w.heap.size + 4 ≤ wa.heap.size := by omega
 go_upto_region 12 with (refine zab rfl 39 (.tmp 13) (.tmp 69) rfl (wa.heap.size) rfl ((lS z Q.1)) rfl _ _ (hR9) (by exact zaf) rfl (zan z Q.1) ?_)
 replace hR9 := hR9.setRow (lS z Q.1)
 have hbn := below_setRow hBn (Nat.le_refl _) (lS z Q.1).toArray
 clear hBn
 generalize (wa.alloc (.cells l0S.toArray 39)).setRow wa.heap.size (lS z Q.1).toArray = wb at hR9 hbn ⊢
 replace hR0 := hR0.later hbn
 replace hR1 := hR1.later hbn
 replace hR2 := hR2.later hbn
 replace hR3 := hR3.later hbn
 replace hx := hx.keep hbn
 replace hz := hz.keep hbn
 replace hB := zaa hB hbn
 clear hbn
 generalize hge : wa.heap.size = g9 at *
 clear hge
 clear k3 k4
 have k3 := hR1.cell (i := 3) rfl
 have k4 := hR1.cell (i := 4) rfl
 go_wp2_with (first
  | (refine zac rfl 39 (.tmp 2) rfl (w.heap.size) 0 rfl _ _ (hR0) ([.slice x.d.A0 x.d.n0 x.d.c0, .int .i64 s.d.a0.s, .slice x.d.A1 x.d.n1 x.d.c1, .int .i64 s.d.a1.s, .int .i64 F, .int .i64 K, .bool s.d.down, .int .i64 s.turn, .int .u64 (s.num : Int), .int .u64 (s.m.clock : Int), .int .u64 (s.m.b.1 : Int), .slice x.m.b.eA x.m.b.n x.m.b.ec, .slice x.m.b.gA x.m.b.g x.m.b.gc, .int .i64 s.m.c.1, .int .u64 (s.m.c.2.1 : Int), .slice x.m.c.A x.m.c.s x.m.c.c]) (by rfl) _ Tryz.underlying39 rfl (by exact zaf) ?_)
  | (refine zac rfl 57 (.tmp 73) rfl (w.heap.size + 1) 0 rfl _ _ (hR1) ([.int .u64 (dd.u.1 : Int), .int .u64 (dd.u.2.1 : Int), .int .u64 (dd.u.2.2 : Int)]) (by rfl) _ Tryz.underlying57 rfl (by exact zaW) ?_))
 refine (HT2.out hvi wb hB hx).mono ?_
 rintro e wc ⟨y, rfl, hy, hoy, hb⟩
 have hsz := hR3.lt
 have hsw := hb.size
 replace hR2 := hR2.later hb
 replace hR3 := hR3.later hb
 replace hR9 := hR9.later hb
 replace hx := hx.keep hb
 replace hz := hz.keep hb
 replace hB := zaa hB hb
 clear hb
 replace hoy := hoy.mono (Nat.le_refl _) (show w.heap.size + 4 ≤ _ by omega)
 obtain ⟨hR11, hBn⟩ := zat wc 39 l0S _ rfl
 unfold aggS
 have hgg : w.heap.size + 4 ≤ wc.heap.size := by omega
 go_upto_region 13 with (refine zab rfl 39 (.tmp 15) (.tmp 80) rfl (wc.heap.size) rfl ((lS y P.1)) rfl _ _ (hR11) (by exact zaf) rfl (zan y P.1) ?_)
 replace hR11 := hR11.setRow (lS y P.1)
 have hbn := below_setRow hBn (Nat.le_refl _) (lS y P.1).toArray
 clear hBn
 generalize (wc.alloc (.cells l0S.toArray 39)).setRow wc.heap.size (lS y P.1).toArray = wl at hR11 hbn ⊢
 replace hR2 := hR2.later hbn
 replace hR3 := hR3.later hbn
 replace hR9 := hR9.later hbn
 replace hx := hx.keep hbn
 replace hz := hz.keep hbn
 replace hy := hy.keep hbn
 replace hB := zaa hB hbn
 clear hbn
 generalize hge : wc.heap.size = g11 at *
 clear hge
 clear k3 k4
 have hS : dpS g11 g9 (.slice y.d.A0 y.d.n0 y.d.c0) (.int .i64 P.1.d.a0.s) (.slice y.d.A1 y.d.n1 y.d.c1) (.int .i64 P.1.d.a1.s) (.int .i64 P.1.d.fuse) (.int .i64 P.1.d.keep) (.bool P.1.d.down) (.int .i64 P.1.turn) (.int .u64 (P.1.num : Int)) (.int .u64 (P.1.m.clock : Int)) (.int .u64 (P.1.m.b.1 : Int)) (.slice y.m.b.eA y.m.b.n y.m.b.ec) (.slice y.m.b.gA y.m.b.g y.m.b.gc) (.int .i64 P.1.m.c.1) (.int .u64 (P.1.m.c.2.1 : Int)) (.slice y.m.c.A y.m.c.s y.m.c.c) (.int .u64 (Q.1.m.clock : Int)) (.int .u64 (Q.1.m.b.1 : Int)) (.slice z.m.b.eA z.m.b.n z.m.b.ec) (.slice z.m.b.gA z.m.b.g z.m.b.gc) (.int .i64 Q.1.m.c.1) (.int .u64 (Q.1.m.c.2.1 : Int)) (.slice z.m.c.A z.m.c.s z.m.c.c) wl.drew := zdH (W := wl.drew) hR11 hR9
 replace hR2 := hR2.drew
 replace hR3 := hR3.drew
 replace hR11 := hR11.drew
 replace hR9 := hR9.drew
 replace hy := hy.keep ((Below.refl _ wl).drew)
 replace hz := hz.keep ((Below.refl _ wl).drew)
 replace hB := hB.drew
 refine zah (dpS g11 g9 (.slice y.d.A0 y.d.n0 y.d.c0) (.int .i64 P.1.d.a0.s) (.slice y.d.A1 y.d.n1 y.d.c1) (.int .i64 P.1.d.a1.s) (.int .i64 P.1.d.fuse) (.int .i64 P.1.d.keep) (.bool P.1.d.down) (.int .i64 P.1.turn) (.int .u64 (P.1.num : Int)) (.int .u64 (P.1.m.clock : Int)) (.int .u64 (P.1.m.b.1 : Int)) (.slice y.m.b.eA y.m.b.n y.m.b.ec) (.slice y.m.b.gA y.m.b.g y.m.b.gc) (.int .i64 P.1.m.c.1) (.int .u64 (P.1.m.c.2.1 : Int)) (.slice y.m.c.A y.m.c.s y.m.c.c) (.int .u64 (Q.1.m.clock : Int)) (.int .u64 (Q.1.m.b.1 : Int)) (.slice z.m.b.eA z.m.b.n z.m.b.ec) (.slice z.m.b.gA z.m.b.g z.m.b.gc) (.int .i64 Q.1.m.c.1) (.int .u64 (Q.1.m.c.2.1 : Int)) (.slice z.m.c.A z.m.c.s z.m.c.c)) (.step 0 false (.step 1 false (.step 2 false (.step 3 false (.step 4 true (.step 5 true (.step 6 false (.nil)))))))) hS (by kernel_rfl) (by kernel_rfl) (by rfl) (by kernel_rfl) ?_
 generalize wl.drew = wv at *
 iterate 4 (refine zae rfl (by rfl) (v := ?_) ?_ ?_; rotate_left 1; (rintro W ⟨hW0, hW1⟩; go_simp <;> with_reducible rfl); simp only [pA, pB, pC, Act.put, pD, pE, pF])
 clear hS
 refine zad rfl (by rfl) (fun K' hK => ?_)
 refine Row.wp_store 39 (.tmp 4) (.tmp 82) (by rfl) (by rfl) (lS y P.1) (by rfl) hR2 (by exact zaf) rfl (zan y P.1) ?_
 have hO := (Only.refl (w.heap.size + 2) wv).setRow (lS y P.1).toArray
 replace hR2 := hR2.setRow (lS y P.1)
 replace hR3 := hR3.only hO (by omega)
 replace hR11 := hR11.only hO (by omega)
 replace hR9 := hR9.only hO (by omega)
 replace hy := hy.at_only hO hoy (Nat.zero_le _) (by omega)
 replace hz := hz.at_only hO hoz (Nat.zero_le _) (by omega)
 replace hB := below_setRow hB (show w.heap.size ≤ w.heap.size + 2 by omega) (lS y P.1).toArray
 refine hK.out _ _ (zdH hR11 hR9) ?_
 clear hK K' hO
 generalize wv.setRow (w.heap.size + 2) (lS y P.1).toArray = wq at *
 (try simp only [pA, pB, pC, Act.put, pD, pE, pF])
 refine zad rfl (by rfl) (fun K' hK => ?_)
 refine Row.wp_store 37 (.tmp 5) (.tmp 84) (by rfl) (by rfl) (lM z.m Q.1.m) (by rfl) hR3 (by exact zai) rfl (zaq z.m Q.1.m) ?_
 have hO := (Only.refl (w.heap.size + 3) wq).setRow (lM z.m Q.1.m).toArray
 replace hR3 := hR3.setRow (lM z.m Q.1.m)
 replace hR2 := hR2.only hO (by omega)
 replace hR11 := hR11.only hO (by omega)
 replace hR9 := hR9.only hO (by omega)
 replace hy := hy.at_only hO hoy (Nat.zero_le _) (by omega)
 replace hz := hz.at_only hO hoz (Nat.zero_le _) (by omega)
 replace hB := below_setRow hB (show w.heap.size ≤ w.heap.size + 3 by omega) (lM z.m Q.1.m).toArray
 refine hK.out _ _ (zdH hR11 hR9) ?_
 clear hK K' hO
 generalize wq.setRow (w.heap.size + 3) (lM z.m Q.1.m).toArray = wr at *
 (try simp only [pA, pB, pC, Act.put, pD, pE, pF])
 iterate 1 (refine zae rfl (by rfl) (v := ?_) ?_ ?_; rotate_left 1; (rintro W ⟨hW0, hW1⟩; go_simp <;> with_reducible rfl); simp only [pA, pB, pC, Act.put, pD, pE, pF])
 refine zal ?_
 go_wp2_with fail
 refine bodyPost_ret (zbR (p := 4) (q := 5) (u := 6) (ty := 39) (tz := 37) (by rfl) _ _ (w.heap.size + 2) (w.heap.size + 3) 39 37 _ _ _ _ (by rfl) (by rfl) (by exact hR2) (by exact hR3) Tryz.underlying39 (by rfl) (by exact zaf) Tryz.underlying37 (by rfl) (by exact zai)) (by rfl) ?_
 exact ⟨y, z.m, rfl, hy, hz.im, hoy.mono (Nat.le_refl _) (by omega), hoz.m.mono (Nat.le_refl _) (by omega), hB⟩
theorem zoR [Inhabited Tab] (x : WS) (s : ShK) (dd : De) (w : World) (h : InS w x s) (hr : zav fS s) (hd : fitDe dd) (HK : Hid (KTab w)) :
  Calls Tryz.prog 25 #[aggS x s, zgH dd] w (zlV w (doK fS (setF s (zdq dd) (zbs dd)) dd).1 (doK fS (setF s (-1) (zbs dd)) dd).1.m (doK fS (setF s (zdq dd) (zbs dd)) dd).2) := by
 by_cases hf6 : dd.fuse.toNat < 6
 ·by_cases hv : 0 < dd.ver
  ·exact zp6 x s dd w h hr hd hf6 hv HK
  ·exact zp7 x s dd w h hr hd hf6 hv HK
 ·by_cases hv : 0 < dd.ver
  ·exact zp8 x s dd w h hr hd hf6 hv HK
  ·exact zp9 x s dd w h hr hd hf6 hv HK
def OpI (f : List UInt8 → List UInt8) (d : DK) (n : Nat) (m : MemK) : Prop := ∃ k a o z fu ke, d = mkD k a o fu ke false ∧ HasA f k a o n m z
section
variable {f : List UInt8 → List UInt8} (h4 : ∀ b, (f b).length = 4)
include h4
omit h4 in
theorem OpI.of {s : ShK} (h : zav f s) : OpI f s.d s.num s.m := by
 obtain ⟨k, a, o, hd, _, hA, _⟩ := HasA.of h
 exact ⟨k, a, o, _, _, _, hd, hA⟩
omit h4 in
theorem OpI.lens {d : DK} {n : Nat} {m : MemK} (h : OpI f d n m) : d.a0.b.length ≤ 1048576 ∧ d.a1.b.length ≤ 1048576 := by
 obtain ⟨k, a, o, z, fu, ke, rfl, hA⟩ := h
 have h1 := hA.ra.2.2
 have h2 := hA.ro.2.2
 rcases hA.kk with e | e <;> rw [e]
 ·exact ⟨h1, h2⟩
 ·exact ⟨h2, h1⟩
end
theorem zjc {d : DK} (h : (zbL d).2 = 0) : d.a0.b.length ≤ 70368744177664 ∧ d.a1.b.length ≤ 70368744177664 := by
 unfold zbL at h
 split at h
 ·exact absurd h (by show ¬ (1 : Int) = 0; decide)
 ·rename_i hh
  have hr := (Classical.not_not.1 hh).1
  have h1 := hr.1.2.2
  have h2 := hr.2.1.2.2
  exact ⟨by omega, by omega⟩
theorem zlW {m : MemK} {u : Us} {clock floor : Nat} (h : (zaY m u clock floor).2 = 0) : (zaY m u clock floor).1.b = m.b ∧ m.clock ≤ (zaY m u clock floor).1.clock := by
 unfold zaY at h ⊢
 split
 ·exact ⟨rfl, Nat.le_refl _⟩
 ·rename_i h1
  split
  ·exact ⟨rfl, Nat.le_refl _⟩
  ·exact ⟨rfl, by show m.clock ≤ clock; omega⟩
theorem zlX (c : Ca) (u : Us) : (putC c u).2 ≠ 14 := by
 unfold putC
 split
 ·show ¬ (1 : Int) = 14; decide
 ·split
  ·show ¬ (10 : Int) = 14; decide
  ·split
   ·show ¬ (11 : Int) = 14; decide
   ·split
    ·show ¬ (12 : Int) = 14; decide
    ·show ¬ (0 : Int) = 14; decide
theorem zj8 (m : MemK) (u : Us) (clock floor : Nat) : (zaY m u clock floor).2 ≠ 14 := by
 unfold zaY
 split
 ·show ¬ (13 : Int) = 14; decide
 ·split
  ·exact zlX _ _
  ·show ¬ (0 : Int) = 14; decide
theorem znV {d : DK} (h : (zbL d).2 = 0) {s2 : ShK} (hk : d.keep ≤ 9223372036854775807) (hf : (zbL d).1.fuse = -1) : LimK (zbL d).1 := by
 obtain ⟨h1, h2⟩ := zjc h
 refine ⟨?_, ?_, by omega, by rw [zlU]; exact hk⟩
 ·unfold zbL
  split <;> exact h1
 ·unfold zbL
  split <;> exact h2
section
variable {f : List UInt8 → List UInt8} (h4 : ∀ b, (f b).length = 4)
include h4
theorem zhu {s : ShK} {d : DK} {m' : MemK} {K : Int} (hk : d.keep = K) (hK : K ≤ 1000000) (hn : s.num < 4611686018427387903) (h : znh f d s.num s.m m') :
  (zbL d).2 = 0 ∧ LimK (zbL d).1 ∧ ∃ s2, zcv f (zbL d).1 0 = (s2, 0) ∧ zav f s2 ∧ (s2.m = s.m ∨ s2.m = m') ∧ s2.num ≤ s.num + 2 := by
 obtain ⟨g1, s2, g2, g3, g4, g5, _⟩ := zni h4 h hn (room := 0) ⟨by decide, by decide⟩
 refine ⟨g1, znV (s2 := s2) g1 (by omega) ?_, s2, g2, g3, g4, g5⟩
 obtain ⟨k, a, o, n', z, mm, ke, e, _⟩ := h
 rw [e]
 exact (zaM k a o (-1) ke false).2.1
theorem zlY {s : ShK} (h : zav f s) {dd : De} (hd : fitDe dd) {F K : Int} (hF : -1 ≤ F) (hK : 0 ≤ K) (hK2 : K ≤ 1000000) (hn : s.num < 4611686018427387903) {T : List Us} (hT : TkC T s.m.c) :
  ((doK f (setF s F K) dd).2 = 0 ∧ zav f (doK f (setF s F K) dd).1 ∧ (doK f (setF s F K) dd).1.m = (doK f (setF s (-1) K) dd).1.m ∧ (doK f (setF s F K) dd).1.num ≤ s.num + 2 ∧ (dd.ver = 0 → dd.u ∉ T ∧ TkC (T ++ [dd.u]) (doK f (setF s F K) dd).1.m.c) ∧ (dd.ver ≠ 0 → TkC T (doK f (setF s F K) dd).1.m.c) ∧ s.m.b.1 ≤ (doK f (setF s F K) dd).1.m.b.1 ∧ s.m.clock ≤ (doK f (setF s F K) dd).1.m.clock) ∨
  ((doK f (setF s F K) dd).2 = 14 ∧ (zbL (doK f (setF s F K) dd).1.d).2 = 0 ∧ LimK (zbL (doK f (setF s F K) dd).1.d).1 ∧ ∃ s2, zcv f (zbL (doK f (setF s F K) dd).1.d).1 0 = (s2, 0) ∧ zav f s2 ∧ (s2.m = s.m ∨ s2.m = (doK f (setF s (-1) K) dd).1.m) ∧ s2.num ≤ s.num + 2 ∧ (dd.ver = 0 → s2.m ≠ s.m → TkC (T ++ [dd.u]) s2.m.c) ∧ TkC T s2.m.c ∧ s.m.b.1 ≤ s2.m.b.1 ∧ s.m.clock ≤ s2.m.clock) ∨
  ((doK f (setF s F K) dd).2 ≠ 0 ∧ (doK f (setF s F K) dd).2 ≠ 14 ∧ (doK f (setF s F K) dd).1 = setF s F K) := by
 have hr := za4 h hF hK
 have hr1 := za4 h (show (-1 : Int) ≤ -1 by omega) hK
 by_cases hv : 0 < dd.ver
 ·have e1 : doK f (setF s F K) dd = zaD f (setF s F K) (dd.ver, [], []) := if_pos hv
  have e2 : doK f (setF s (-1) K) dd = zaD f (setF s (-1) K) (dd.ver, [], []) := if_pos hv
  have hkk := zep f (setF s F K) (dd.ver, [], [])
  rw [e1, e2]
  have hfb : zhE (dd.ver, [], []) := ⟨hd.ver, (fun x hx => by cases hx), (fun x hx => by cases hx)⟩
  rcases zgt h4 hr hfb with ⟨g1, g2⟩ | ⟨g1, g2, g3⟩ | ⟨g1, g2, g3⟩
  ·rw [g2]
   exact .inr (.inr ⟨by show ¬ (1 : Int) = 0; decide, by show ¬ (1 : Int) = 14; decide, rfl⟩)
  ·rw [g3]
   exact .inr (.inr ⟨by show ¬ (13 : Int) = 0; decide, by show ¬ (13 : Int) = 14; decide, rfl⟩)
  ·have hto : (zaD f (setF s (-1) K) (dd.ver, [], [])).1.m = { s.m with b := (dd.ver, [], []) } := by
    rcases zgt h4 hr1 hfb with ⟨k1, _⟩ | ⟨_, k2, _⟩ | ⟨_, _, k3⟩
    ·rw [g1] at k1; cases k1
    ·have : s.m.b.1 < dd.ver := g2
     have : dd.ver ≤ s.m.b.1 := k2
     omega
    ·rcases k3 with ⟨_, _, k4, _⟩ | ⟨_, k5⟩ | ⟨k6, _⟩
     ·exact k4
     ·have : (setF s (-1) K).num = s.num := rfl
      omega
     ·exact absurd rfl k6
   have hbv : s.m.b.1 ≤ dd.ver := Nat.le_of_lt g2
   rcases g3 with ⟨a1, a2, a3, a4, _⟩ | ⟨_, a5⟩ | ⟨a6, d, a7, a8⟩
   ·refine .inl ⟨a1, a2, a3.trans hto.symm, by have : (setF s F K).num = s.num := rfl; omega, (fun e => by omega), (fun _ => by rw [a3]; exact hT), by rw [a3]; exact hbv, by rw [a3]; exact Nat.le_refl _⟩
   ·have : (setF s F K).num = s.num := rfl
    omega
   ·rw [a7] at hkk ⊢
    obtain ⟨b1, b2, s2, b3, b4, b5, b6⟩ := zhu h4 (s := setF s F K) (K := K) hkk hK2 hn a8
    refine .inr (.inl ⟨rfl, b1, b2, s2, b3, b4, ?_, b6, (fun e => by omega), ?_, ?_, ?_⟩)
    ·rw [hto]
     exact b5
    ·rcases b5 with e | e <;> rw [e] <;> exact hT
    ·rcases b5 with e | e <;> rw [e]
     ·exact Nat.le_refl _
     ·exact hbv
    ·rcases b5 with e | e <;> rw [e] <;> exact Nat.le_refl _
 ·have e1 : doK f (setF s F K) dd = zbq f (setF s F K) dd.u dd.clock dd.floor := if_neg hv
  have e2 : doK f (setF s (-1) K) dd = zbq f (setF s (-1) K) dd.u dd.clock dd.floor := if_neg hv
  have hkk := zgF f (setF s F K) dd.u dd.clock dd.floor
  rw [e1, e2]
  rcases zkH h4 hr hd.u hd.clock hd.floor with ⟨g1, g2⟩ | ⟨g1, g3⟩
  ·rw [g2]
   exact .inr (.inr ⟨g1, zj8 _ _ _ _, rfl⟩)
  ·have g1' : (zaY s.m dd.u dd.clock dd.floor).2 = 0 := g1
   have hto : (zbq f (setF s (-1) K) dd.u dd.clock dd.floor).1.m = (zaY s.m dd.u dd.clock dd.floor).1 := by
    rcases zkH h4 hr1 hd.u hd.clock hd.floor with ⟨k1, _⟩ | ⟨_, k3⟩
    ·exact absurd g1 k1
    ·rcases k3 with ⟨_, _, k4, _⟩ | ⟨_, k5⟩ | ⟨k6, _⟩
     ·exact k4
     ·have : (setF s (-1) K).num = s.num := rfl
      omega
     ·exact absurd rfl k6
   obtain ⟨t1, t2⟩ := zlS (zgD h) hT g1'
   obtain ⟨t3, t4⟩ := zlW g1'
   rcases g3 with ⟨a1, a2, a3, a4, _⟩ | ⟨_, a5⟩ | ⟨a6, d, a7, a8⟩
   ·refine .inl ⟨a1, a2, a3.trans hto.symm, by have : (setF s F K).num = s.num := rfl; omega, (fun _ => ⟨t1, by rw [a3]; exact t2⟩), (fun e => absurd (by omega) e), by rw [a3]; exact Nat.le_of_eq (congrArg Prod.fst t3).symm, by rw [a3]; exact t4⟩
   ·have : (setF s F K).num = s.num := rfl
    omega
   ·rw [a7] at hkk ⊢
    obtain ⟨b1, b2, s2, b3, b4, b5, b6⟩ := zhu h4 (s := setF s F K) (K := K) hkk hK2 hn a8
    have b5' : s2.m = s.m ∨ s2.m = (zaY s.m dd.u dd.clock dd.floor).1 := b5
    have hsub : TkC T (zaY s.m dd.u dd.clock dd.floor).1.c := t2.less (fun t ht => List.mem_append_left _ ht)
    refine .inr (.inl ⟨rfl, b1, b2, s2, b3, b4, ?_, b6, (fun _ hne => ?_), ?_, ?_, ?_⟩)
    ·rw [hto]
     exact b5
    ·rcases b5' with e | e
     ·exact absurd e hne
     ·rw [e]; exact t2
    ·rcases b5' with e | e <;> rw [e]
     ·exact hT
     ·exact hsub
    ·rcases b5' with e | e <;> rw [e]
     ·exact Nat.le_refl _
     ·exact Nat.le_of_eq (congrArg Prod.fst t3).symm
    ·rcases b5' with e | e <;> rw [e]
     ·exact Nat.le_refl _
     ·exact t4
end
end Go.Proofs.YteljklkgdejhpaaGreatDoor
namespace Go.Proofs.YteljklkgdejhpaaGreatDoor
open Go.RowKit Go.WideShapes
section
variable {H : Type} {enc : TypeId × Value → H} {W : World} {base b1 : Nat} {spare : Nat → Bool} {held : Bool} {r : Reach} {v : Value} {d : DataW H} {p : List MemPlace}
end
end Go.Proofs.YteljklkgdejhpaaGreatDoor
namespace Go.Proofs.YteljklkgdejhpaaGreatDoor
open Go.RowKit Go.Deep Go.WideShapes Go.ChangeShapes
section
variable {H : Type} {enc : TypeId × Value → H} {W : World} {base b1 : Nat} {spare : Nat → Bool} {held : Bool} {r : Reach} {v : Value} {d : DataW H} {p : List MemPlace}
end
end Go.Proofs.YteljklkgdejhpaaGreatDoor
namespace Go.Proofs.YteljklkgdejhpaaGreatDoor
open Go.RowKit
end Go.Proofs.YteljklkgdejhpaaGreatDoor
namespace Go.Proofs.YteljklkgdejhpaaGreatDoor
open Go.RowKit Go.Deep Go.WideShapes Go.ChangeShapes
theorem znW : zdJ Tryz.prog 57 (zg9 0 1 1 1 2 1 RNum RNum RNum) := zjO Tryz.underlying57 rfl rfl rfl (by kernel_rfl) (by kernel_rfl) (by kernel_rfl) (by kernel_rfl) (zdk Tryz.underlying28) (zdk Tryz.underlying28) (zdk Tryz.underlying28)
theorem zoS {w : World} {cs : List Value} {x : Us} (h : zg9 0 1 1 1 2 1 RNum RNum RNum w cs x) : cs = zes x ∧ zcF x := by
 obtain ⟨hl, ⟨h0, g0⟩, ⟨h1, g1⟩, h2, g2⟩ := h
 refine ⟨?_, g0, g1, g2⟩
 match cs, hl with
 | [a, b, c], _ =>
  simp at h0 h1 h2
  rw [h0, h1, h2]
  rfl
section
variable {H : Type} {enc : TypeId × Value → H} {W : World} {base b1 : Nat} {spare : Nat → Bool} {held : Bool} {r : Reach} {v : Value} {d : DataW H} {p : List MemPlace}
end
section
variable {H : Type} {enc : TypeId × Value → H} {W : World} {base b1 : Nat} {spare : Nat → Bool} {held : Bool} {r : Reach} {v : Value} {d : DataW H} {p : List MemPlace}
theorem zpJ (hv : Value.okWide Tryz.prog W r base 5 v) (ht : DataW.Trod enc Tryz.prog W b1 spare held 5 v d p) : ∃ y : Nat, v = .int .u8 (y : Int) ∧ y < 256 := by
 obtain ⟨n, rfl⟩ := okWide_int Tryz.underlying5 hv
 obtain ⟨fuel, hf⟩ := ht
 obtain ⟨m, e, _, hw⟩ := DataW.trod_int Tryz.underlying5 hf
 simp [Value.cells] at e
 simp [Lit.wf, IntKind.min, IntKind.max, IntKind.signed, IntKind.bits] at hw
 exact ⟨n.toNat, by congr 1; omega, by omega⟩
end
section
variable {H : Type} {enc : TypeId × Value → H} {W : World} {base b1 : Nat} {spare : Nat → Bool} {held : Bool} {r : Reach} {v : Value} {d : DataW H} {p : List MemPlace}
end
end Go.Proofs.YteljklkgdejhpaaGreatDoor
