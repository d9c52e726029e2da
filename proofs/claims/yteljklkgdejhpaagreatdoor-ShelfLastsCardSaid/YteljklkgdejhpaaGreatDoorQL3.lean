/-
  What dark answers: a disk whose power went (landed code). No conditions but those typed.
-/
import Derived.Test.YteljklkgdejhpaaGreatDoorQL2
set_option linter.unusedSimpArgs false
set_option linter.unusedVariables false
set_option maxRecDepth 100000
set_option maxHeartbeats 4000000
namespace Go.Proofs.YteljklkgdejhpaaGreatDoor
open Go.RowKit
theorem zir {n : Nat} {s keep : Int} (b : List UInt8) (hb : b.length = n) (h0 : 0 ≤ s) (h1 : s ≤ n) (h2 : 0 ≤ keep) : ∃ u q e kp : Nat, s = (u : Int) ∧ keep = (kp : Int) ∧ e = u + q ∧ e ≤ n ∧ u ≤ n ∧ cutN ⟨b, s⟩ keep = e ∧ (if (n : Int) - (u : Int) < (kp : Int) then (n : Int) - (u : Int) else (kp : Int)) = (q : Int) := by
 refine ⟨s.toNat, min (n - s.toNat) keep.toNat, s.toNat + min (n - s.toNat) keep.toNat, keep.toNat, by omega, by omega, rfl, by omega, by omega, ?_, ?_⟩
 ·unfold cutN
  dsimp only
  omega
 ·split <;> omega
theorem zmw (A : Option Addr) (n c u q e : Nat) (he : e = u + q) (hc : e ≤ c) (W : World) : (Instr.slice 22 (.slice A n c) none (some (.int .i64 ((u : Int) + (q : Int)))) none).run Tryz.prog W = .ok (.slice A e c) W := by
 have := zcd 22 5 Tryz.underlying22 za0 A n c e hc W
 rw [show (u : Int) + (q : Int) = (e : Int) by omega]
 exact this
theorem zaV {w : World} {g : Nat} {t : TypeId} {l : List Value} (h : Row w g t l) (o k : Nat) (hk : o + k ≤ l.length) : w.there g o k := fun j hj => by
 refine ⟨?_, h.frozen _⟩
 rw [h.cell? (o + j), List.getElem?_eq_getElem (by omega)]
 rfl
theorem Only.setCells {g : Nat} : ∀ (m : List Value) (o : Nat) {a w : World}, Only g a w → Only g a (w.setCells g o m)
 | [], _, _, _, h => h
 | v :: m, o, _, _, h => Only.setCells m (o + 1) (h.setCell o v)
theorem zaC (A0 : Option Addr) (n0 c0 : Nat) (s0 : Int) (A1 : Option Addr) (n1 c1 : Nat) (s1 f k : Int) (d : Bool) : ∀ v ∈ [Value.slice A0 n0 c0, .int .i64 s0, .slice A1 n1 c1, .int .i64 s1, .int .i64 f, .int .i64 k, .bool d], ∀ y, v ≠ vB y := zeL ⟨A0, n0, c0, A1, n1, c1⟩ ⟨⟨[], s0⟩, ⟨[], s1⟩, f, k, d⟩
theorem zbH (A0 : Option Addr) (n0 c0 : Nat) (s0 : Int) (A1 : Option Addr) (n1 c1 : Nat) (s1 f k : Int) (d : Bool) : ∀ v ∈ [Value.slice A0 n0 c0, .int .i64 s0, .slice A1 n1 c1, .int .i64 s1, .int .i64 f, .int .i64 k, .bool d], v.oneCell' = true := za7 ⟨A0, n0, c0, A1, n1, c1⟩ ⟨⟨[], s0⟩, ⟨[], s1⟩, f, k, d⟩
theorem zg1 (x : WD) (D : DK) (keep : Int) (w : World) (h : InD w x D) (hr0 : zaS D.a0) (hr1 : zaS D.a1) (hk : 0 ≤ keep) (hk2 : keep ≤ 9223372036854775807) :
  Calls Tryz.prog 171 #[aggD x D, .int .i64 keep] w fun e w' => ∃ m0 m1, e = .returned (aggD ⟨x.A0, m0, x.c0, x.A1, m1, x.c1⟩ (zgL D keep)) ∧ InD w' ⟨x.A0, m0, x.c0, x.A1, m1, x.c1⟩ (zgL D keep) ∧ Below w.heap.size w w' := by
 obtain ⟨A0, n0, c0, A1, n1, c1⟩ := x
 obtain ⟨⟨b0, s0⟩, ⟨b1, s1⟩, f, kk, d⟩ := D
 obtain ⟨l0, h0, r0, l1, h1, r1⟩ := h
 obtain ⟨a0, a1, a2⟩ := hr0
 obtain ⟨a3, a4, a5⟩ := hr1
 dsimp only at l0 h0 l1 h1 r0 r1 a0 a1 a2 a3 a4 a5
 rw [l0] at a1 a2
 rw [l1] at a4 a5
 obtain ⟨u0, q0, e0, kp, rfl, rfl, E0, m0, v0, hc0, i0⟩ := zir b0 l0 a0 a1 hk
 obtain ⟨u1, q1, e1, kp', rfl, ek, E1, m1, v1, hc1, i1⟩ := zir b1 l1 a3 a4 hk
 have ek' : kp' = kp := by omega
 subst ek'
 clear ek
 have x0 := zmw A0 n0 c0 u0 q0 e0 E0 (by omega)
 have x1 := zmw A1 n1 c1 u1 q1 e1 E1 (by omega)
 have L0 := Lib.hid l0
 have L1 := Lib.hid l1
 have HC0 := Lib.hid hc0
 have HC1 := Lib.hid hc1
 have HE0 := Lib.hid E0
 have HE1 := Lib.hid E1
 have y0 : (u0 : Int) + (q0 : Int) ≤ (n0 : Int) := by omega
 have y1 : (u1 : Int) + (q1 : Int) ≤ (n1 : Int) := by omega
 have z0 : (n0 : Int) ≤ 1048576 := by omega
 have z1 : (n1 : Int) ≤ 1048576 := by omega
 have hlose : Hid (zgL ⟨⟨b0, (u0 : Int)⟩, ⟨b1, (u1 : Int)⟩, f, kk, d⟩ (kp' : Int) = ⟨⟨b0.take e0, (e0 : Int)⟩, ⟨b1.take e1, (e1 : Int)⟩, -1, kk, true⟩) := by
  unfold Hid zgL zbD
  dsimp only
  rw [hc0, hc1]
 rw [hlose.out]
 clear hlose l0 l1 hc0 hc1 E0 E1
 unfold aggD
 dsimp only
 obtain ⟨hR0, hRz, hB0⟩ := zaB w 27 27 [.slice A0 n0 c0, .int .i64 (u0 : Int), .slice A1 n1 c1, .int .i64 (u1 : Int), .int .i64 f, .int .i64 kk, .bool d] [.slice none 0 0, .int .i64 0, .slice none 0 0, .int .i64 0, .int .i64 0, .int .i64 0, .bool false] _ _ rfl rfl
 go_enter Tryz.func171, Tryz.ntmps171
 go_upto_region 1 with fail
 generalize (w.alloc (.cells [Value.slice A0 n0 c0, .int .i64 (u0 : Int), .slice A1 n1 c1, .int .i64 (u1 : Int), .int .i64 f, .int .i64 kk, .bool d].toArray 27)).alloc (.cells [Value.slice none 0 0, .int .i64 0, .slice none 0 0, .int .i64 0, .int .i64 0, .int .i64 0, .bool false].toArray 27) = W at hR0 hRz hB0 ⊢
 replace r0 := r0.keep hB0
 replace r1 := r1.keep hB0
 have t0 : W.cell? ⟨w.heap.size, 0, none⟩ = some (.slice A0 n0 c0) := hR0.cell rfl
 have t1 : W.cell? ⟨w.heap.size, 1, none⟩ = some (.int .i64 (u0 : Int)) := hR0.cell rfl
 have t2 : W.cell? ⟨w.heap.size, 2, none⟩ = some (.slice A1 n1 c1) := hR0.cell rfl
 have t3 : W.cell? ⟨w.heap.size, 3, none⟩ = some (.int .i64 (u1 : Int)) := hR0.cell rfl
 have hs0 := hB0.size
 have hgz := hRz.lt
 go_wp2_with fail
 clear t0 t1 t2 t3
 refine wp_loop_rounds 3 ?_
 rw [rounds_succ]
 obtain ⟨hR1, hB1⟩ := zat W 24 [.slice none 0 0, .int .i64 0] _ rfl
 have ix0 := zdv (.slice A0 n0 c0) (.int .i64 (u0 : Int)) (.slice A1 n1 c1) (.int .i64 (u1 : Int))
 have ix1 := zdw (.slice A0 n0 c0) (.int .i64 (u0 : Int)) (.slice A1 n1 c1) (.int .i64 (u1 : Int))
 go_upto_region 4 with (refine zab rfl 24 (.tmp 6) (.tmp 12) rfl W.heap.size rfl [.slice A0 n0 c0, .int .i64 (u0 : Int)] rfl _ _ hR1 (by exact zau) rfl (zaN A0 n0 c0 u0) ?_)
 have hR2 := hR1.setRow [.slice A0 n0 c0, .int .i64 (u0 : Int)]
 have hB2 : Below W.heap.size W ((W.alloc (.cells #[Value.slice none 0 0, .int .i64 0] 24)).setRow W.heap.size #[.slice A0 n0 c0, .int .i64 (u0 : Int)]) := below_setRow hB1 (Nat.le_refl _) _
 clear hR1 hB1
 generalize (W.alloc (.cells #[Value.slice none 0 0, .int .i64 0] 24)).setRow W.heap.size #[.slice A0 n0 c0, .int .i64 (u0 : Int)] = W2 at hR2 hB2 ⊢
 have t0 : W2.cell? ⟨W.heap.size, 0, none⟩ = some (.slice A0 n0 c0) := hR2.cell rfl
 have t1 : W2.cell? ⟨W.heap.size, 1, none⟩ = some (.int .i64 (u0 : Int)) := hR2.cell rfl
 replace r0 := r0.keep hB2
 replace r1 := r1.keep hB2
 replace hR0 := hR0.later hB2
 replace hRz := hRz.later hB2
 replace hB0 := zaa hB0 hB2
 have hs2 := hB2.size
 clear hR2 hB2
 go_wp2_with fail
 refine (zfc A0 e0 c0 _).mono ?_
 rintro e w1 ⟨rfl, hb1⟩
 unfold aggA
 replace r0 := r0.keep hb1
 replace r1 := r1.keep hb1
 replace hR0 := hR0.later hb1
 replace hRz := hRz.later hb1
 replace hB0 := zaa hB0 hb1
 have hs1 := hb1.size
 clear hb1 t0 t1
 have hth := zaV hR0 0 2 (by simp)
 have hR0' : Row (w1.setCells w.heap.size 0 [.slice A0 e0 c0, .int .i64 (e0 : Int)]) w.heap.size 27 [.slice A0 e0 c0, .int .i64 (e0 : Int), .slice A1 n1 c1, .int .i64 (u1 : Int), .int .i64 f, .int .i64 kk, .bool d] := hR0.setCells _ 0 (by simp)
 have hO : Only w.heap.size w1 (w1.setCells w.heap.size 0 [.slice A0 e0 c0, .int .i64 (e0 : Int)]) := Only.setCells _ 0 (Only.refl _ w1)
 have r0' := r0.no_byte hR0 (zaC A0 n0 c0 u0 A1 n1 c1 u1 f kk d) hO
 have r1' := r1.no_byte hR0 (zaC A0 n0 c0 u0 A1 n1 c1 u1 f kk d) hO
 have hRz' := Row.setCells_other (show w.heap.size + 1 ≠ w.heap.size by omega) [.slice A0 e0 c0, .int .i64 (e0 : Int)] 0 hRz
 have hB0' : Below w.heap.size w (w1.setCells w.heap.size 0 [.slice A0 e0 c0, .int .i64 (e0 : Int)]) := zaQ (Nat.le_refl _) _ 0 hB0
 have hsz : w1.heap.size ≤ (w1.setCells w.heap.size 0 [.slice A0 e0 c0, .int .i64 (e0 : Int)]).heap.size := hO.below.size
 clear r0 r1 hR0 hRz hB0 hO
 go_wp2_with (refine wpList_store_mid rfl 24 (.tmp 30) (.tmp 28) rfl w.heap.size 0 #[.slice A0 e0 c0, .int .i64 (e0 : Int)] rfl rfl hth (by exact zau) (by exact all_oneCell_toArray (zaN A0 e0 c0 e0)) ?_)
 rw [rounds_succ]
 clear hth ix0
 generalize w1.setCells w.heap.size 0 [.slice A0 e0 c0, .int .i64 (e0 : Int)] = W at hR0' r0' r1' hRz' hB0' hsz ⊢
 have hgz := hRz'.lt
 obtain ⟨hR1, hB1⟩ := zat W 24 [.slice none 0 0, .int .i64 0] _ rfl
 go_upto_region 4 with (refine zab rfl 24 (.tmp 6) (.tmp 12) rfl W.heap.size rfl [.slice A1 n1 c1, .int .i64 (u1 : Int)] rfl _ _ hR1 (by exact zau) rfl (zaN A1 n1 c1 u1) ?_)
 have hR2 := hR1.setRow [.slice A1 n1 c1, .int .i64 (u1 : Int)]
 have hB2 : Below W.heap.size W ((W.alloc (.cells #[Value.slice none 0 0, .int .i64 0] 24)).setRow W.heap.size #[.slice A1 n1 c1, .int .i64 (u1 : Int)]) := below_setRow hB1 (Nat.le_refl _) _
 clear hR1 hB1
 generalize (W.alloc (.cells #[Value.slice none 0 0, .int .i64 0] 24)).setRow W.heap.size #[.slice A1 n1 c1, .int .i64 (u1 : Int)] = W4 at hR2 hB2 ⊢
 have t0 : W4.cell? ⟨W.heap.size, 0, none⟩ = some (.slice A1 n1 c1) := hR2.cell rfl
 have t1 : W4.cell? ⟨W.heap.size, 1, none⟩ = some (.int .i64 (u1 : Int)) := hR2.cell rfl
 replace r0' := r0'.keep hB2
 replace r1' := r1'.keep hB2
 replace hR0' := hR0'.later hB2
 replace hRz' := hRz'.later hB2
 replace hB0' := zaa hB0' hB2
 have hs4 := hB2.size
 clear hR2 hB2
 go_wp2_with fail
 refine (zfc A1 e1 c1 _).mono ?_
 rintro e w3 ⟨rfl, hb1⟩
 unfold aggA
 replace r0' := r0'.keep hb1
 replace r1' := r1'.keep hb1
 replace hR0' := hR0'.later hb1
 replace hRz' := hRz'.later hb1
 replace hB0' := zaa hB0' hb1
 have hs3 := hb1.size
 clear hb1 t0 t1
 have hth := zaV hR0' 2 2 (by simp)
 have hR0 : Row (w3.setCells w.heap.size 2 [.slice A1 e1 c1, .int .i64 (e1 : Int)]) w.heap.size 27 [.slice A0 e0 c0, .int .i64 (e0 : Int), .slice A1 e1 c1, .int .i64 (e1 : Int), .int .i64 f, .int .i64 kk, .bool d] := hR0'.setCells _ 2 (by simp)
 have hO : Only w.heap.size w3 (w3.setCells w.heap.size 2 [.slice A1 e1 c1, .int .i64 (e1 : Int)]) := Only.setCells _ 2 (Only.refl _ w3)
 have r0 := r0'.no_byte hR0' (zaC A0 e0 c0 e0 A1 n1 c1 u1 f kk d) hO
 have r1 := r1'.no_byte hR0' (zaC A0 e0 c0 e0 A1 n1 c1 u1 f kk d) hO
 have hRz := Row.setCells_other (show w.heap.size + 1 ≠ w.heap.size by omega) [.slice A1 e1 c1, .int .i64 (e1 : Int)] 2 hRz'
 have hB0 : Below w.heap.size w (w3.setCells w.heap.size 2 [.slice A1 e1 c1, .int .i64 (e1 : Int)]) := zaQ (Nat.le_refl _) _ 2 hB0'
 clear r0' r1' hR0' hRz' hB0' hO
 go_wp2_with (refine wpList_store_mid rfl 24 (.tmp 30) (.tmp 28) rfl w.heap.size 2 #[.slice A1 e1 c1, .int .i64 (e1 : Int)] rfl rfl hth (by exact zau) (by exact all_oneCell_toArray (zaN A1 e1 c1 e1)) ?_)
 rw [rounds_succ]
 clear hth ix1
 generalize w3.setCells w.heap.size 2 [.slice A1 e1 c1, .int .i64 (e1 : Int)] = W at hR0 r0 r1 hRz hB0 ⊢
 have f4 := hR0.frozen 4
 have g4 : W.cell? ⟨w.heap.size, 4, none⟩ = some (.int .i64 f) := hR0.cell rfl
 have hR0' : Row (W.setCell ⟨w.heap.size, 4, none⟩ (.int .i64 (-1))) w.heap.size 27 [.slice A0 e0 c0, .int .i64 (e0 : Int), .slice A1 e1 c1, .int .i64 (e1 : Int), .int .i64 (-1), .int .i64 kk, .bool d] := hR0.setCell 4 _
 have f6 := hR0'.frozen 6
 have g6 : (W.setCell ⟨w.heap.size, 4, none⟩ (.int .i64 (-1))).cell? ⟨w.heap.size, 6, none⟩ = some (.bool d) := hR0'.cell rfl
 have hR6 : Row ((W.setCell ⟨w.heap.size, 4, none⟩ (.int .i64 (-1))).setCell ⟨w.heap.size, 6, none⟩ (.bool true)) w.heap.size 27 [.slice A0 e0 c0, .int .i64 (e0 : Int), .slice A1 e1 c1, .int .i64 (e1 : Int), .int .i64 (-1), .int .i64 kk, .bool true] := hR0'.setCell 6 _
 have hO : Only w.heap.size W ((W.setCell ⟨w.heap.size, 4, none⟩ (.int .i64 (-1))).setCell ⟨w.heap.size, 6, none⟩ (.bool true)) := ((Only.refl _ W).setCell 4 _).setCell 6 _
 go_upto_region 7 with fail
 have r0' := r0.no_byte hR0 (zaC A0 e0 c0 e0 A1 e1 c1 e1 f kk d) hO
 have r1' := r1.no_byte hR0 (zaC A0 e0 c0 e0 A1 e1 c1 e1 f kk d) hO
 have hRz' := (hRz.setCell_other (p := ⟨w.heap.size, 4, none⟩) (by show w.heap.size + 1 ≠ w.heap.size; omega) (.int .i64 (-1))).setCell_other (p := ⟨w.heap.size, 6, none⟩) (by show w.heap.size + 1 ≠ w.heap.size; omega) (.bool true)
 have hB0' := hB0.trans hO.below
 clear hR0 r0 r1 hRz hB0 hO hR0' f4 g4 f6 g6
 generalize (W.setCell ⟨w.heap.size, 4, none⟩ (.int .i64 (-1))).setCell ⟨w.heap.size, 6, none⟩ (.bool true) = W6 at hR6 r0' r1' hRz' hB0' ⊢
 go_wp2_with (first
  | (refine zac rfl 27 (.tmp 2) rfl w.heap.size 0 rfl _ _ hR6 [.slice A0 e0 c0, .int .i64 (e0 : Int), .slice A1 e1 c1, .int .i64 (e1 : Int), .int .i64 (-1), .int .i64 kk, .bool true] (by rfl) _ Tryz.underlying27 rfl (by exact zaj) ?_)
  | (refine zab rfl 27 (.tmp 4) (.tmp 34) rfl (w.heap.size + 1) rfl [.slice A0 e0 c0, .int .i64 (e0 : Int), .slice A1 e1 c1, .int .i64 (e1 : Int), .int .i64 (-1), .int .i64 kk, .bool true] rfl _ _ hRz' (by exact zaj) rfl (zbH A0 e0 c0 e0 A1 e1 c1 e1 (-1) kk true) ?_))
 refine bodyPost_ret (results_cell_row (p := 4) (ty := 27) (by rfl) _ _ (w.heap.size + 1) 27 _ (0, 0) _ (by rfl) (by exact hRz'.setRow _) Tryz.underlying27 (by rfl) (by exact zaj)) (by rfl) ?_
 have hO := (Only.refl (w.heap.size + 1) W6).setRow [.slice A0 e0 c0, .int .i64 (e0 : Int), .slice A1 e1 c1, .int .i64 (e1 : Int), .int .i64 (-1), .int .i64 kk, .bool true].toArray
 have r0 := r0'.no_byte hRz' (zaC none 0 0 0 none 0 0 0 0 0 false) hO
 have r1 := r1'.no_byte hRz' (zaC none 0 0 0 none 0 0 0 0 0 false) hO
 exact ⟨e0, e1, rfl, ⟨by show (b0.take e0).length = e0; rw [List.length_take, L0.out]; omega, by show e0 ≤ c0; omega, r0.take e0, by show (b1.take e1).length = e1; rw [List.length_take, L1.out]; omega, by show e1 ≤ c1; omega, r1.take e1⟩, below_setRow hB0' (by omega) _⟩
def zf5 (w : World) (more : Nat) (F : Nat) (caps : Array Value) (h : AK → AK) : Prop :=
 (∀ args W, (callFunc F args).run Tryz.prog W = .ok (.enter F args) W) ∧ ∀ (w1 : World) (A : Option Addr) (n c : Nat) (s : Int) (b : List UInt8), Below w.heap.size w w1 → Hid (b.length = n) → n + more ≤ 1048576 → w1.ownsRow w.heap.size 5 1 (.slice A n c) n (b.map vB) →
  Calls Tryz.prog F (#[aggA A n c s] ++ caps) w1 (RetA w.heap.size w1 (Value.slice A n c).ownBlock (h ⟨b, s⟩))
def zbl (D : DK) (k : Int) (more : Nat) (hs hd : AK → AK) : DK × Int := zcW D k (fun j => decide (1048576 < (getA D j).b.length + more)) (fun _ a => hs a) (fun _ a => hd a)
theorem zko {w : World} {B : Nat} {x : WD} {D : DK} (h0 : w.ownsRow B 5 1 (.slice x.A0 x.n0 x.c0) x.n0 (D.a0.b.map vB)) (h1 : w.ownsRow B 5 1 (.slice x.A1 x.n1 x.c1) x.n1 (D.a1.b.map vB)) : InD w x D ∧ FreshD B x := by
 obtain ⟨a1, a2, a3⟩ := zdP h0
 obtain ⟨b1, b2, b3⟩ := zdP h1
 have e0 := h0.1
 have e1 := h1.1
 rw [List.length_map, Nat.mul_one] at e0 e1
 exact ⟨⟨e0, a1, a2, e1, b1, b2⟩, a3, b3⟩
section
variable {D : DK} {k : Int} {more : Nat} {hs hd : AK → AK}
theorem zkp (h : ¬ (zaA D ∧ (k = 0 ∨ k = 1))) : zbl D k more hs hd = (D, 1) := if_pos h
theorem zis (h : zaA D) (hk : k = 0 ∨ k = 1) (hd' : D.down = true) : zbl D k more hs hd = (D, 14) := by
 unfold zbl zcW
 rw [if_neg (fun hn => hn ⟨h, hk⟩), if_pos hd']
theorem zit (h : zaA D) (hk : k = 0 ∨ k = 1) (hd' : D.down = false) (hf : 1048576 < (getA D k.toNat).b.length + more) : zbl D k more hs hd = (D, 12) := by
 unfold zbl zcW
 rw [if_neg (fun hn => hn ⟨h, hk⟩), if_neg (by rw [hd']; exact Bool.false_ne_true), if_pos (decide_eq_true hf)]
theorem ziu (h : zaA D) (hk : k = 0 ∨ k = 1) (hd' : D.down = false) (hf : ¬ 1048576 < (getA D k.toNat).b.length + more) (h0 : D.fuse = 0) : zbl D k more hs hd = (zgL (setA D k.toNat (hs (getA D k.toNat))) D.keep, 14) := by
 unfold zbl zcW
 rw [if_neg (fun hn => hn ⟨h, hk⟩), if_neg (by rw [hd']; exact Bool.false_ne_true), if_neg (by rw [decide_eq_true_iff]; exact hf), if_pos h0]
theorem zeN (h : zaA D) (hk : k = 0 ∨ k = 1) (hd' : D.down = false) (hf : ¬ 1048576 < (getA D k.toNat).b.length + more) (h0 : D.fuse ≠ 0) : zbl D k more hs hd = ({ setA D k.toNat (hd (getA D k.toNat)) with fuse := burn D.fuse }, 0) := by
 unfold zbl zcW
 rw [if_neg (fun hn => hn ⟨h, hk⟩), if_neg (by rw [hd']; exact Bool.false_ne_true), if_neg (by rw [decide_eq_true_iff]; exact hf), if_neg h0]
end
theorem zce {P : Program} {op : Oper} {a : Act} {w : World} {K : Act → World → Prop} {Q : Exit → Act → World → Prop} (x y : Operand) (ts : Array TypeId) (ho : op.op = .call { callee := .value x, args := #[y], argTypes := ts }) (F : Nat) (caps : Array Value) (hx : a.eval x = .func (.func F) #[] caps) (v : Value) (hy : a.eval y = v)
  (hF : ∀ args W, (callFunc F args).run P W = .ok (.enter F args) W) (h : Calls P F (#[v] ++ caps) w (fun e w' => ∃ r, e = .returned r ∧ K (a.put op.dst r) w')) : op.wp P a w K Q := by
 unfold Oper.wp execOp
 simp only [ho, resolve, invoke, Deferred.ofValue, hx, Sem.run_bind, Sem.run_pure, Result.andThen_ok, List.map_toArray, List.map_cons, List.map_nil, hy, hF, Array.empty_append, Oper.upon_enter]
 refine h.mono ?_
 rintro e w' ⟨r, rfl, hk⟩
 exact hk
theorem zcf {u v : Value} {A : Option Addr} {n c : Nat} (hv : v = .slice A n c) (h : u.ownBlock = none ∨ u.ownBlock ≠ v.ownBlock) : ∀ a, A = some a → u.ownBlock ≠ some a.block := by
 subst hv
 rintro a rfl
 rcases h with h | h
 ·rw [h]; intro e; cases e
 ·exact h
theorem za8 (w : World) (ty tz tu : TypeId) (l m k : List Value) (cs ds es : Array Value) (h1 : cs = l.toArray) (h2 : ds = m.toArray) (h3 : es = k.toArray) : Row (((w.alloc (.cells cs ty)).alloc (.cells ds tz)).alloc (.cells es tu)) w.heap.size ty l ∧ Row (((w.alloc (.cells cs ty)).alloc (.cells ds tz)).alloc (.cells es tu)) (w.heap.size + 1) tz m ∧ Row (((w.alloc (.cells cs ty)).alloc (.cells ds tz)).alloc (.cells es tu)) (w.heap.size + 1 + 1) tu k ∧ Below w.heap.size w (((w.alloc (.cells cs ty)).alloc (.cells ds tz)).alloc (.cells es tu)) := by
 obtain ⟨a, b, c⟩ := zaB w ty tz l m cs ds h1 h2
 obtain ⟨d, e⟩ := zat ((w.alloc (.cells cs ty)).alloc (.cells ds tz)) tu k es h3
 have hz : ((w.alloc (.cells cs ty)).alloc (.cells ds tz)).heap.size = w.heap.size + 2 := by simp
 rw [hz] at d
 exact ⟨a.later e, b.later e, d, zaa c e⟩
def zoe (g3 o g5 : Nat) (v m : Value) (W : World) : Prop := W.cell? ⟨g5, 0, none⟩ = some m ∧ W.cell? ⟨g3, o, none⟩ = some v
def fnS (g5 o : Nat) (v : Value) (W : World) : Prop := W.cell? ⟨g5, o, none⟩ = some v ∧ True
theorem zfd (x : WD) (D : DK) (k : Int) (more : Nat) (nd ns : Nat) (cd cs : Array Value) (hd hs : AK → AK) (w : World) (h : InD w x D) (hn0 : x.n0 ≤ 70368744177664) (hn1 : x.n1 ≤ 70368744177664) (hm : more ≤ 70368744177664) (hf : D.fuse ≤ 9223372036854775807) (hk : D.keep ≤ 9223372036854775807)
  (HD : Hid (zf5 w more nd cd hd)) (HS : Hid (zaA D → zf5 w more ns cs hs)) (HSr : Hid (∀ a, zaS a → a.b.length + more ≤ 1048576 → zaS (hs a))) :
  Calls Tryz.prog 144 #[aggD x D, .int .i64 k, .agg #[.int .i64 (more : Int), .func (.func nd) #[] cd, .func (.func ns) #[] cs]] w (RetD w (zbl D k more hs hd).1 (zbl D k more hs hd).2) := by
 obtain ⟨A0, n0, c0, A1, n1, c1⟩ := x
 have HX := Lib.hid h
 dsimp only at hn0 hn1
 obtain ⟨⟨b0, s0⟩, ⟨b1, s1⟩, f, kk, d⟩ := D
 dsimp only at hf hk
 unfold aggD
 dsimp only
 clear h
 obtain ⟨hR0, hRs, hRr, hB0⟩ := za8 w 27 200 27 [.slice A0 n0 c0, .int .i64 s0, .slice A1 n1 c1, .int .i64 s1, .int .i64 f, .int .i64 kk, .bool d] [.int .i64 (more : Int), .func (.func nd) #[] cd, .func (.func ns) #[] cs] [.slice none 0 0, .int .i64 0, .slice none 0 0, .int .i64 0, .int .i64 0, .int .i64 0, .bool false] _ _ _ rfl rfl rfl
 go_enter Tryz.func144, Tryz.ntmps144
 go_upto_region 1 with fail
 generalize ((w.alloc (.cells [Value.slice A0 n0 c0, .int .i64 s0, .slice A1 n1 c1, .int .i64 s1, .int .i64 f, .int .i64 kk, .bool d].toArray 27)).alloc (.cells [Value.int .i64 (more : Int), .func (.func nd) #[] cd, .func (.func ns) #[] cs].toArray 200)).alloc (.cells [Value.slice none 0 0, .int .i64 0, .slice none 0 0, .int .i64 0, .int .i64 0, .int .i64 0, .bool false].toArray 27) = W at hR0 hRs hRr hB0 ⊢
 replace HX := Lib.hid (HX.out.keep hB0)
 have hlt := hRr.lt
 go_wp2_with (refine zac rfl 27 (.tmp 3) rfl w.heap.size 0 rfl _ _ hR0 [.slice A0 n0 c0, .int .i64 s0, .slice A1 n1 c1, .int .i64 s1, .int .i64 f, .int .i64 kk, .bool d] (by rfl) _ Tryz.underlying27 rfl (by exact zaj) ?_)
 refine (zeM ⟨A0, n0, c0, A1, n1, c1⟩ ⟨⟨b0, s0⟩, ⟨b1, s1⟩, f, kk, d⟩ W HX.out hn0 hn1).mono ?_
 rintro e w1 ⟨⟨B0, m0, d0, B1, m1, d1⟩, rfl, L0, hd0, L1, hd1, ho0, ho1, hap, hb1⟩
 dsimp only at L0 L1 hd0 hd1 ho0 ho1 hap
 unfold aggD
 dsimp only
 replace hR0 := hR0.later hb1
 replace hRs := hRs.later hb1
 replace hRr := hRr.later hb1
 replace hB0 := zaa hB0 hb1
 have hsz := hb1.size
 clear hb1 HX
 go_upto_region 2 with (refine zab rfl 27 (.tmp 3) (.tmp 10) rfl w.heap.size rfl [.slice B0 m0 d0, .int .i64 s0, .slice B1 m1 d1, .int .i64 s1, .int .i64 f, .int .i64 kk, .bool d] rfl _ _ hR0 (by exact zaj) rfl (zbH B0 m0 d0 s0 B1 m1 d1 s1 f kk d) ?_)
 have X0 := zbr (w' := w1.setRow w.heap.size #[.slice B0 m0 d0, .int .i64 s0, .slice B1 m1 d1, .int .i64 s1, .int .i64 f, .int .i64 kk, .bool d]) ho0 (fun b hb _ => Go.setRow_other w1 w.heap.size b _ (by omega))
 have X1 := zbr (w' := w1.setRow w.heap.size #[.slice B0 m0 d0, .int .i64 s0, .slice B1 m1 d1, .int .i64 s1, .int .i64 f, .int .i64 kk, .bool d]) ho1 (fun b hb _ => Go.setRow_other w1 w.heap.size b _ (by omega))
 have HA0 : Hid (∀ g, (Value.slice B0 m0 d0).ownBlock = some g → w.heap.size + 3 ≤ g) := fun g hg => by have := (ho0.lt g hg).1; omega
 have HA1 : Hid (∀ g, (Value.slice B1 m1 d1).ownBlock = some g → w.heap.size + 3 ≤ g) := fun g hg => by have := (ho1.lt g hg).1; omega
 replace X0 := Lib.hid (zc5 X0 (show w.heap.size ≤ W.heap.size by omega))
 replace X1 := Lib.hid (zc5 X1 (show w.heap.size ≤ W.heap.size by omega))
 have hR1 : Row (w1.setRow w.heap.size #[.slice B0 m0 d0, .int .i64 s0, .slice B1 m1 d1, .int .i64 s1, .int .i64 f, .int .i64 kk, .bool d]) w.heap.size 27 [.slice B0 m0 d0, .int .i64 s0, .slice B1 m1 d1, .int .i64 s1, .int .i64 f, .int .i64 kk, .bool d] := hR0.setRow _
 replace hRs := hRs.setRow_other (show w.heap.size + 1 ≠ w.heap.size by omega) #[.slice B0 m0 d0, .int .i64 s0, .slice B1 m1 d1, .int .i64 s1, .int .i64 f, .int .i64 kk, .bool d]
 replace hRr := hRr.setRow_other (show w.heap.size + 1 + 1 ≠ w.heap.size by omega) #[.slice B0 m0 d0, .int .i64 s0, .slice B1 m1 d1, .int .i64 s1, .int .i64 f, .int .i64 kk, .bool d]
 replace hB0 := below_setRow hB0 (Nat.le_refl _) #[.slice B0 m0 d0, .int .i64 s0, .slice B1 m1 d1, .int .i64 s1, .int .i64 f, .int .i64 kk, .bool d]
 have HAP := Lib.hid hap
 clear ho0 ho1 hR0 hlt hsz hap
 generalize w1.setRow w.heap.size #[.slice B0 m0 d0, .int .i64 s0, .slice B1 m1 d1, .int .i64 s1, .int .i64 f, .int .i64 kk, .bool d] = W1 at X0 X1 hR1 hRs hRr hB0 ⊢
 obtain ⟨hIn, hFr⟩ := zko (x := ⟨B0, m0, d0, B1, m1, d1⟩) (D := ⟨⟨b0, s0⟩, ⟨b1, s1⟩, f, kk, d⟩) X0.out X1.out
 go_wp2_with (refine zac rfl 27 (.tmp 3) rfl w.heap.size 0 rfl _ _ hR1 [.slice B0 m0 d0, .int .i64 s0, .slice B1 m1 d1, .int .i64 s1, .int .i64 f, .int .i64 kk, .bool d] (by rfl) _ Tryz.underlying27 rfl (by exact zaj) ?_)
 refine (zdx ⟨B0, m0, d0, B1, m1, d1⟩ ⟨⟨b0, s0⟩, ⟨b1, s1⟩, f, kk, d⟩ W1 hIn).mono ?_
 rintro e w2 ⟨rfl, hb2⟩
 replace X0 := Lib.hid (zam X0.out hb2)
 replace X1 := Lib.hid (zam X1.out hb2)
 replace hIn := hIn.keep hb2
 have hR0 := hR1.later hb2
 replace hRs := hRs.later hb2
 replace hRr := hRr.later hb2
 replace hB0 := zaa hB0 hb2
 clear hb2 hR1 hn0 hn1
 by_cases hright : zaA ⟨⟨b0, s0⟩, ⟨b1, s1⟩, f, kk, d⟩
 ·rw [decide_eq_true hright]
  by_cases k0 : k = 0
  ·subst k0
   obtain ⟨⟨p0, p1, p2⟩, ⟨p3, p4, p5⟩, p6, p7⟩ := id hright
   dsimp only at p0 p1 p2 p3 p4 p5 p6 p7
   rw [L0.out] at p1 p2
   rw [L1.out] at p4 p5
   have q0 : (m0 : Int) ≤ 1048576 := by omega
   have q1 : (m1 : Int) ≤ 1048576 := by omega
   have c4 : w2.cell? ⟨w.heap.size, 4, none⟩ = some (.int .i64 f) := hR0.cell rfl
   have c6 : w2.cell? ⟨w.heap.size, 6, none⟩ = some (.bool d) := hR0.cell rfl
   cases d
   case true =>
    have HST := Lib.hid (zis (hs := hs) (hd := hd) (more := more) hright (Or.inl rfl) rfl)
    clear hright
    go_wp2_with (first | (refine zac rfl 27 (.tmp 3) rfl w.heap.size 0 rfl _ _ hR0 [.slice B0 m0 d0, .int .i64 s0, .slice B1 m1 d1, .int .i64 s1, .int .i64 f, .int .i64 kk, .bool true] (by rfl) _ Tryz.underlying27 rfl (by exact zaj) ?_) | (refine zab rfl 27 (.tmp 6) _ rfl (w.heap.size + 1 + 1) rfl [.slice B0 m0 d0, .int .i64 s0, .slice B1 m1 d1, .int .i64 s1, .int .i64 f, .int .i64 kk, .bool true] rfl _ _ hRr (by exact zaj) rfl (zbH B0 m0 d0 s0 B1 m1 d1 s1 f kk true) ?_))
    refine bodyPost_ret (zag (p := 6) (u := 7) (ty := 27) (by rfl) _ _ (w.heap.size + 1 + 1) 27 _ _ (by rfl) (by exact hRr.setRow _) Tryz.underlying27 (by rfl) (by exact zaj)) (by rfl) ?_
    rw [HST.out]
    exact ⟨⟨B0, m0, d0, B1, m1, d1⟩, rfl, hIn.no_byte hRr (zaC none 0 0 0 none 0 0 0 0 0 false) ((Only.refl _ _).setRow _), hFr, below_setRow hB0 (by omega) _⟩
   case false =>
    by_cases hfull : 1048576 < m0 + more
    ·have HST := Lib.hid (zit (hs := hs) (hd := hd) (more := more) hright (Or.inl rfl) rfl (by show 1048576 < b0.length + more; rw [L0.out]; exact hfull))
     have hfi : (1048576 : Int) - (m0 : Int) < (more : Int) := by omega
     have hww : IntKind.i64.wrap (1048576 - (m0 : Int)) = 1048576 - (m0 : Int) := by rw [IntKind.wrap_i64]; omega
     clear hright
     go_upto_region 6 with fail
     refine zah (zoe w.heap.size 0 (w.heap.size + 1) (.slice B0 m0 d0) (.int .i64 (more : Int))) (.step 0 false (.step 1 false (.step 2 false (.step 3 false (.step 4 false (.step 5 false (.step 6 false (.step 7 false (.step 8 false (.step 9 false (.nil))))))))))) ⟨hRs.drew.cell rfl, hR0.drew.cell rfl⟩ (by kernel_rfl) (by kernel_rfl) (by rfl) (by kernel_rfl) ?_
     iterate 10 (refine zae rfl (by rfl) (v := ?_) ?_ ?_; rotate_left 1; (intro W hW; (try dsimp only at hW); obtain ⟨hW0, hW1⟩ := hW; go_simp <;> with_reducible rfl); simp only [List.getElem_toArray, List.getElem_cons_zero, List.getElem_cons_succ, Act.put, List.setIfInBounds_toArray, List.set_cons_zero, List.set_cons_succ])
     refine zal ?_
     clear hww
     replace hR0 := hR0.drew
     replace hRr := hRr.drew
     replace hB0 := hB0.drew
     replace hIn := hIn.keep ((Below.refl _ w2).drew)
     go_wp2_with (first | (refine zac rfl 27 (.tmp 3) rfl w.heap.size 0 rfl _ _ hR0 [.slice B0 m0 d0, .int .i64 s0, .slice B1 m1 d1, .int .i64 s1, .int .i64 f, .int .i64 kk, .bool false] (by rfl) _ Tryz.underlying27 rfl (by exact zaj) ?_) | (refine zab rfl 27 (.tmp 6) _ rfl (w.heap.size + 1 + 1) rfl [.slice B0 m0 d0, .int .i64 s0, .slice B1 m1 d1, .int .i64 s1, .int .i64 f, .int .i64 kk, .bool false] rfl _ _ hRr (by exact zaj) rfl (zbH B0 m0 d0 s0 B1 m1 d1 s1 f kk false) ?_))
     refine bodyPost_ret (zag (p := 6) (u := 7) (ty := 27) (by rfl) _ _ (w.heap.size + 1 + 1) 27 _ _ (by rfl) (by exact hRr.setRow _) Tryz.underlying27 (by rfl) (by exact zaj)) (by rfl) ?_
     rw [HST.out]
     exact ⟨⟨B0, m0, d0, B1, m1, d1⟩, rfl, hIn.no_byte hRr (zaC none 0 0 0 none 0 0 0 0 0 false) ((Only.refl _ _).setRow _), hFr, below_setRow hB0 (by omega) _⟩
    ·have hnf : ¬ 1048576 < (getA ⟨⟨b0, s0⟩, ⟨b1, s1⟩, f, kk, false⟩ (0 : Int).toNat).b.length + more := by show ¬ 1048576 < b0.length + more; rw [L0.out]; exact hfull
     have hfi : ¬ (1048576 : Int) - (m0 : Int) < (more : Int) := by omega
     have hww : IntKind.i64.wrap (1048576 - (m0 : Int)) = 1048576 - (m0 : Int) := by rw [IntKind.wrap_i64]; omega
     have hle : m0 + more ≤ 1048576 := by omega
     go_upto_region 6 with fail
     refine zah (zoe w.heap.size 0 (w.heap.size + 1) (.slice B0 m0 d0) (.int .i64 (more : Int))) (.step 0 false (.step 1 false (.step 2 false (.step 3 false (.step 4 false (.step 5 false (.step 6 false (.step 7 false (.step 8 false (.step 9 false (.nil))))))))))) ⟨hRs.drew.cell rfl, hR0.drew.cell rfl⟩ (by kernel_rfl) (by kernel_rfl) (by rfl) (by kernel_rfl) ?_
     iterate 10 (refine zae rfl (by rfl) (v := ?_) ?_ ?_; rotate_left 1; (intro W hW; (try dsimp only at hW); obtain ⟨hW0, hW1⟩ := hW; go_simp <;> with_reducible rfl); simp only [List.getElem_toArray, List.getElem_cons_zero, List.getElem_cons_succ, Act.put, List.setIfInBounds_toArray, List.set_cons_zero, List.set_cons_succ])
     refine zal ?_
     clear hww
     replace hR0 := hR0.drew
     replace hRs := hRs.drew
     replace hRr := hRr.drew
     have hbd : Below w2.heap.size w2 w2.drew := (Below.refl _ w2).drew
     replace hB0 := hB0.drew
     replace hIn := hIn.keep hbd
     replace X0 := Lib.hid (zam X0.out hbd)
     replace X1 := Lib.hid (zam X1.out hbd)
     replace c4 : w2.drew.cell? ⟨w.heap.size, 4, none⟩ = some (.int .i64 f) := c4
     clear hbd c6 hfull
     generalize w2.drew = w2 at hR0 hRs hRr hB0 hIn X0 X1 c4 ⊢
     by_cases hf0 : f = 0
     ·subst hf0
      have HST : Hid (zbl ⟨⟨b0, s0⟩, ⟨b1, s1⟩, 0, kk, false⟩ 0 more hs hd = (zgL ⟨hs ⟨b0, s0⟩, ⟨b1, s1⟩, 0, kk, false⟩ kk, 14)) := ziu hright (Or.inl rfl) rfl hnf rfl
      have hbd := (Below.refl w2.heap.size w2).drew
      replace hR0 := hR0.drew
      replace hRs := hRs.drew
      replace hRr := hRr.drew
      replace hB0 := hB0.drew
      replace hIn := hIn.keep hbd
      replace X0 := Lib.hid (zam X0.out hbd)
      replace X1 := Lib.hid (zam X1.out hbd)
      clear hbd
      go_upto_region 11 with fail
      refine zah (fnS (w.heap.size + 1) 2 (.func (.func ns) #[] cs)) (.step 0 false (.step 1 false (.step 2 false (.step 3 false (.step 4 false (.step 5 true (.step 6 true (.step 7 false (.step 8 true (.nil)))))))))) ⟨hRs.cell rfl, trivial⟩ (by kernel_rfl) (by kernel_rfl) (by rfl) (by kernel_rfl) ?_
      try clear c4
      generalize w2.drew = w2 at hR0 hRs hRr hB0 hIn X0 X1 ⊢
      have HCL := Lib.hid ((HS.out hright).2 w2 B0 m0 d0 s0 b0 hB0 L0 hle X0.out)
      have hXR := HSr.out ⟨b0, s0⟩ ⟨p0, by rw [L0.out]; exact p1, by rw [L0.out]; exact p2⟩ (by rw [L0.out]; exact hle)
      generalize hs ⟨b0, s0⟩ = X at HST HCL hXR
      obtain ⟨bX, sX⟩ := X
      skip
      iterate 5 (refine zae rfl (by rfl) (v := ?_) ?_ ?_; rotate_left 1; (intro W hW; (try dsimp only at hW); obtain ⟨hW0, hW1⟩ := hW; go_simp <;> with_reducible rfl); simp only [List.getElem_toArray, List.getElem_cons_zero, List.getElem_cons_succ, Act.put, List.setIfInBounds_toArray, List.set_cons_zero, List.set_cons_succ])
      refine zad rfl (by rfl) (fun K hK => ?_)
      refine wp_load_mid 24 (.tmp 53) (by rfl) w.heap.size 0 (by rfl) [.slice B0 m0 d0, .int .i64 s0] _ (hR0.range_part 0 _ rfl) Tryz.underlying24 (by rfl) (by exact zau) ?_
      refine hK.out _ _ ⟨hRs.cell rfl, trivial⟩ ?_
      clear hK K
      refine zad rfl (by rfl) (fun K hK => ?_)
      refine zce (.tmp 51) (.tmp 54) #[24] rfl ns cs rfl _ rfl (HS.out hright).1 ?_
      refine HCL.out.mono ?_
      rintro e w3 ⟨A2, n2, c2, rfl, h2, h3, h4, h5, h6⟩
      refine ⟨_, rfl, ?_⟩
      dsimp only at h2 h4
      have hg0 : ∀ g, g < w.heap.size + 3 → (Value.slice B0 m0 d0).ownBlock ≠ some g := fun g hg e => by have := HA0.out g e; omega
      have rO := hIn.r1.grown h6 (zcf rfl HAP.out)
      replace hR0 := hR0.grown h6 (hg0 _ (by omega))
      replace hRs := hRs.grown h6 (hg0 _ (by omega))
      replace hRr := hRr.grown h6 (hg0 _ (by omega))
      replace hB0 := hB0.grown h6 hB0.size (fun k e => by have := HA0.out k e; omega)
      refine hK.out _ _ ⟨hRs.cell rfl, trivial⟩ ?_
      clear hK K HCL X0 X1
      unfold aggA
      iterate 1 (refine zae rfl (by rfl) (v := ?_) ?_ ?_; rotate_left 1; (intro W hW; (try dsimp only at hW); obtain ⟨hW0, hW1⟩ := hW; go_simp <;> with_reducible rfl); simp only [List.getElem_toArray, List.getElem_cons_zero, List.getElem_cons_succ, Act.put, List.setIfInBounds_toArray, List.set_cons_zero, List.set_cons_succ])
      refine zad rfl (by rfl) (fun K hK => ?_)
      refine wp_store_mid 24 (.tmp 56) (.tmp 55) rfl w.heap.size 0 #[.slice A2 n2 c2, .int .i64 sX] rfl rfl (zaV hR0 0 2 (by simp)) (by exact zau) (by exact all_oneCell_toArray (zaN A2 n2 c2 sX)) ?_
      refine hK.out _ _ ⟨(Row.setCells_other (show w.heap.size + 1 ≠ w.heap.size by omega) [.slice A2 n2 c2, .int .i64 sX] 0 hRs).cell rfl, trivial⟩ ?_
      clear hK K
      refine zal ?_
      have hR1 : Row (w3.setCells w.heap.size 0 [.slice A2 n2 c2, .int .i64 sX]) w.heap.size 27 [.slice A2 n2 c2, .int .i64 sX, .slice B1 m1 d1, .int .i64 s1, .int .i64 0, .int .i64 kk, .bool false] := hR0.setCells _ 0 (by simp)
      replace hRr := Row.setCells_other (show w.heap.size + 1 + 1 ≠ w.heap.size by omega) [.slice A2 n2 c2, .int .i64 sX] 0 hRr
      have hO : Only w.heap.size w3 (w3.setCells w.heap.size 0 [.slice A2 n2 c2, .int .i64 sX]) := Only.setCells _ 0 (Only.refl _ w3)
      have rX := h4.no_byte hR0 (zaC B0 m0 d0 s0 B1 m1 d1 s1 0 kk false) hO
      replace rO := rO.no_byte hR0 (zaC B0 m0 d0 s0 B1 m1 d1 s1 0 kk false) hO
      replace hB0 := zaQ (Nat.le_refl _) [.slice A2 n2 c2, .int .i64 sX] 0 hB0
      clear hR0 hRs h4 h6 hO
      generalize w3.setCells w.heap.size 0 [.slice A2 n2 c2, .int .i64 sX] = w4 at hR1 hRr hB0 rX rO ⊢
      have c5 : w4.cell? ⟨w.heap.size, 5, none⟩ = some (.int .i64 kk) := hR1.cell rfl
      go_wp2_with (refine zac rfl 27 (.tmp 3) rfl w.heap.size 0 rfl _ _ hR1 [.slice A2 n2 c2, .int .i64 sX, .slice B1 m1 d1, .int .i64 s1, .int .i64 0, .int .i64 kk, .bool false] (by rfl) _ Tryz.underlying27 rfl (by exact zaj) ?_)
      refine (zg1 ⟨A2, n2, c2, B1, m1, d1⟩ ⟨⟨bX, sX⟩, ⟨b1, s1⟩, 0, kk, false⟩ kk w4 ⟨h2, h3, rX, L1.out, hd1, rO⟩ hXR ⟨p3, by rw [L1.out]; exact p4, by rw [L1.out]; exact p5⟩ p7 hk).mono ?_
      rintro e w5 ⟨v0, v1, rfl, hIn5, hb5⟩
      replace hRr := hRr.later hb5
      replace hB0 := zaa hB0 hb5
      generalize zgL ⟨⟨bX, sX⟩, ⟨b1, s1⟩, 0, kk, false⟩ kk = DL at HST hIn5 ⊢
      unfold aggD
      dsimp only
      clear hb5 hR1 c5
      go_wp2_with (refine zab rfl 27 (.tmp 6) _ rfl (w.heap.size + 1 + 1) rfl (zdi ⟨A2, v0, c2, B1, v1, d1⟩ DL) rfl _ _ hRr (by exact zaj) rfl (za7 ⟨A2, v0, c2, B1, v1, d1⟩ DL) ?_)
      refine bodyPost_ret (zag (p := 6) (u := 7) (ty := 27) (by rfl) _ _ (w.heap.size + 1 + 1) 27 _ _ (by rfl) (by exact hRr.setRow _) Tryz.underlying27 (by rfl) (by exact zaj)) (by rfl) ?_
      rw [HST.out]
      exact ⟨⟨A2, v0, c2, B1, v1, d1⟩, rfl, hIn5.no_byte hRr (zaC none 0 0 0 none 0 0 0 0 0 false) ((Only.refl _ _).setRow _), ⟨h5, hFr.2⟩, below_setRow hB0 (by omega) _⟩
     ·by_cases hf1 : 0 < f
      ·have HST : Hid (zbl ⟨⟨b0, s0⟩, ⟨b1, s1⟩, f, kk, false⟩ 0 more hs hd = (⟨hd ⟨b0, s0⟩, ⟨b1, s1⟩, f - 1, kk, false⟩, 0)) := by
        have := zeN (hs := hs) (hd := hd) (more := more) hright (Or.inl rfl) rfl hnf hf0
        unfold burn at this
        rw [if_pos hf1] at this
        exact this
       have f4 := hR0.frozen 4
       have hR1 : Row (w2.setCell ⟨w.heap.size, 4, none⟩ (.int .i64 (f - 1))) w.heap.size 27 [.slice B0 m0 d0, .int .i64 s0, .slice B1 m1 d1, .int .i64 s1, .int .i64 (f - 1), .int .i64 kk, .bool false] := hR0.setCell 4 _
       have hO : Only w.heap.size w2 (w2.setCell ⟨w.heap.size, 4, none⟩ (.int .i64 (f - 1))) := (Only.refl _ w2).setCell 4 _
       have hIn2 := hIn.no_byte hR0 (zaC B0 m0 d0 s0 B1 m1 d1 s1 f kk false) hO
       have hRs2 := hRs.setCell_other (p := ⟨w.heap.size, 4, none⟩) (show w.heap.size + 1 ≠ w.heap.size by omega) (.int .i64 (f - 1))
       have hRr2 := hRr.setCell_other (p := ⟨w.heap.size, 4, none⟩) (show w.heap.size + 1 + 1 ≠ w.heap.size by omega) (.int .i64 (f - 1))
       have hB2 := hB0.trans hO.below
       have Y0 := Lib.hid (zcQ X0.out (g := w.heap.size) (fun e => by have := HA0.out _ e; omega) hO.other)
       have Y1 := Lib.hid (zcQ X1.out (g := w.heap.size) (fun e => by have := HA1.out _ e; omega) hO.other)
       have hwf : IntKind.i64.wrap (f - 1) = f - 1 := by rw [IntKind.wrap_i64]; omega
       go_upto_region 14 with fail
       clear hwf f4 c4 hR0 hRs hRr hIn hB0 X0 X1 hO
       generalize w2.setCell ⟨w.heap.size, 4, none⟩ (.int .i64 (f - 1)) = w2 at hR1 hRs2 hRr2 hIn2 hB2 Y0 Y1 ⊢
       rename Row w2 w.heap.size _ _ => hR0
       rename Row w2 (w.heap.size + 1) _ _ => hRs
       rename Row w2 (w.heap.size + 1 + 1) _ _ => hRr
       rename InD w2 _ _ => hIn
       rename Below w.heap.size w w2 => hB0
       rename Hid (w2.ownsRow w.heap.size _ 1 (.slice B0 m0 d0) _ _) => X0
       rename Hid (w2.ownsRow w.heap.size _ 1 (.slice B1 m1 d1) _ _) => X1
       have hbd := (Below.refl w2.heap.size w2).drew
       replace hR0 := hR0.drew
       replace hRs := hRs.drew
       replace hRr := hRr.drew
       replace hB0 := hB0.drew
       replace hIn := hIn.keep hbd
       replace X0 := Lib.hid (zam X0.out hbd)
       replace X1 := Lib.hid (zam X1.out hbd)
       clear hbd
       refine zah (fnS (w.heap.size + 1) 1 (.func (.func nd) #[] cd)) (.step 0 false (.step 1 false (.step 2 false (.step 3 false (.step 4 false (.step 5 true (.step 6 true (.step 7 false (.step 8 true (.nil)))))))))) ⟨hRs.cell rfl, trivial⟩ (by kernel_rfl) (by kernel_rfl) (by rfl) (by kernel_rfl) ?_
       try clear c4
       generalize w2.drew = w2 at hR0 hRs hRr hB0 hIn X0 X1 ⊢
       have HCL := Lib.hid (HD.out.2 w2 B0 m0 d0 s0 b0 hB0 L0 hle X0.out)
       skip
       generalize hd ⟨b0, s0⟩ = X at HST HCL
       obtain ⟨bX, sX⟩ := X
       skip
       iterate 5 (refine zae rfl (by rfl) (v := ?_) ?_ ?_; rotate_left 1; (intro W hW; (try dsimp only at hW); obtain ⟨hW0, hW1⟩ := hW; go_simp <;> with_reducible rfl); simp only [List.getElem_toArray, List.getElem_cons_zero, List.getElem_cons_succ, Act.put, List.setIfInBounds_toArray, List.set_cons_zero, List.set_cons_succ])
       refine zad rfl (by rfl) (fun K hK => ?_)
       refine wp_load_mid 24 (.tmp 69) (by rfl) w.heap.size 0 (by rfl) [.slice B0 m0 d0, .int .i64 s0] _ (hR0.range_part 0 _ rfl) Tryz.underlying24 (by rfl) (by exact zau) ?_
       refine hK.out _ _ ⟨hRs.cell rfl, trivial⟩ ?_
       clear hK K
       refine zad rfl (by rfl) (fun K hK => ?_)
       refine zce (.tmp 67) (.tmp 70) #[24] rfl nd cd rfl _ rfl HD.out.1 ?_
       refine HCL.out.mono ?_
       rintro e w3 ⟨A2, n2, c2, rfl, h2, h3, h4, h5, h6⟩
       refine ⟨_, rfl, ?_⟩
       dsimp only at h2 h4
       have hg0 : ∀ g, g < w.heap.size + 3 → (Value.slice B0 m0 d0).ownBlock ≠ some g := fun g hg e => by have := HA0.out g e; omega
       have rO := hIn.r1.grown h6 (zcf rfl HAP.out)
       replace hR0 := hR0.grown h6 (hg0 _ (by omega))
       replace hRs := hRs.grown h6 (hg0 _ (by omega))
       replace hRr := hRr.grown h6 (hg0 _ (by omega))
       replace hB0 := hB0.grown h6 hB0.size (fun k e => by have := HA0.out k e; omega)
       refine hK.out _ _ ⟨hRs.cell rfl, trivial⟩ ?_
       clear hK K HCL X0 X1
       unfold aggA
       iterate 1 (refine zae rfl (by rfl) (v := ?_) ?_ ?_; rotate_left 1; (intro W hW; (try dsimp only at hW); obtain ⟨hW0, hW1⟩ := hW; go_simp <;> with_reducible rfl); simp only [List.getElem_toArray, List.getElem_cons_zero, List.getElem_cons_succ, Act.put, List.setIfInBounds_toArray, List.set_cons_zero, List.set_cons_succ])
       refine zad rfl (by rfl) (fun K hK => ?_)
       refine wp_store_mid 24 (.tmp 72) (.tmp 71) rfl w.heap.size 0 #[.slice A2 n2 c2, .int .i64 sX] rfl rfl (zaV hR0 0 2 (by simp)) (by exact zau) (by exact all_oneCell_toArray (zaN A2 n2 c2 sX)) ?_
       refine hK.out _ _ ⟨(Row.setCells_other (show w.heap.size + 1 ≠ w.heap.size by omega) [.slice A2 n2 c2, .int .i64 sX] 0 hRs).cell rfl, trivial⟩ ?_
       clear hK K
       refine zal ?_
       have hR1 : Row (w3.setCells w.heap.size 0 [.slice A2 n2 c2, .int .i64 sX]) w.heap.size 27 [.slice A2 n2 c2, .int .i64 sX, .slice B1 m1 d1, .int .i64 s1, .int .i64 (f - 1), .int .i64 kk, .bool false] := hR0.setCells _ 0 (by simp)
       replace hRr := Row.setCells_other (show w.heap.size + 1 + 1 ≠ w.heap.size by omega) [.slice A2 n2 c2, .int .i64 sX] 0 hRr
       have hO : Only w.heap.size w3 (w3.setCells w.heap.size 0 [.slice A2 n2 c2, .int .i64 sX]) := Only.setCells _ 0 (Only.refl _ w3)
       have rX := h4.no_byte hR0 (zaC B0 m0 d0 s0 B1 m1 d1 s1 (f - 1) kk false) hO
       replace rO := rO.no_byte hR0 (zaC B0 m0 d0 s0 B1 m1 d1 s1 (f - 1) kk false) hO
       replace hB0 := zaQ (Nat.le_refl _) [.slice A2 n2 c2, .int .i64 sX] 0 hB0
       clear hR0 hRs h4 h6 hO
       generalize w3.setCells w.heap.size 0 [.slice A2 n2 c2, .int .i64 sX] = w4 at hR1 hRr hB0 rX rO ⊢
       go_wp2_with (first | (refine zac rfl 27 (.tmp 3) rfl w.heap.size 0 rfl _ _ hR1 [.slice A2 n2 c2, .int .i64 sX, .slice B1 m1 d1, .int .i64 s1, .int .i64 (f - 1), .int .i64 kk, .bool false] (by rfl) _ Tryz.underlying27 rfl (by exact zaj) ?_) | (refine zab rfl 27 (.tmp 6) _ rfl (w.heap.size + 1 + 1) rfl [.slice A2 n2 c2, .int .i64 sX, .slice B1 m1 d1, .int .i64 s1, .int .i64 (f - 1), .int .i64 kk, .bool false] rfl _ _ hRr (by exact zaj) rfl (zbH A2 n2 c2 sX B1 m1 d1 s1 (f - 1) kk false) ?_))
       refine bodyPost_ret (zag (p := 6) (u := 7) (ty := 27) (by rfl) _ _ (w.heap.size + 1 + 1) 27 _ _ (by rfl) (by exact hRr.setRow _) Tryz.underlying27 (by rfl) (by exact zaj)) (by rfl) ?_
       rw [HST.out]
       have hIn5 : InD w4 ⟨A2, n2, c2, B1, m1, d1⟩ ⟨⟨bX, sX⟩, ⟨b1, s1⟩, (f - 1), kk, false⟩ := ⟨h2, h3, rX, L1.out, hd1, rO⟩
       exact ⟨⟨A2, n2, c2, B1, m1, d1⟩, rfl, hIn5.no_byte hRr (zaC none 0 0 0 none 0 0 0 0 0 false) ((Only.refl _ _).setRow _), ⟨h5, hFr.2⟩, below_setRow hB0 (by omega) _⟩
      ·have hf2 : f = -1 := by omega
       subst hf2
       have HST : Hid (zbl ⟨⟨b0, s0⟩, ⟨b1, s1⟩, (-1), kk, false⟩ 0 more hs hd = (⟨hd ⟨b0, s0⟩, ⟨b1, s1⟩, (-1), kk, false⟩, 0)) := by
        have := zeN (hs := hs) (hd := hd) (more := more) hright (Or.inl rfl) rfl hnf hf0
        unfold burn at this
        rw [if_neg hf1] at this
        exact this
       have hbd := (Below.refl w2.heap.size w2).drew
       replace hR0 := hR0.drew
       replace hRs := hRs.drew
       replace hRr := hRr.drew
       replace hB0 := hB0.drew
       replace hIn := hIn.keep hbd
       replace X0 := Lib.hid (zam X0.out hbd)
       replace X1 := Lib.hid (zam X1.out hbd)
       clear hbd
       go_upto_region 14 with fail
       refine zah (fnS (w.heap.size + 1) 1 (.func (.func nd) #[] cd)) (.step 0 false (.step 1 false (.step 2 false (.step 3 false (.step 4 false (.step 5 true (.step 6 true (.step 7 false (.step 8 true (.nil)))))))))) ⟨hRs.cell rfl, trivial⟩ (by kernel_rfl) (by kernel_rfl) (by rfl) (by kernel_rfl) ?_
       try clear c4
       generalize w2.drew = w2 at hR0 hRs hRr hB0 hIn X0 X1 ⊢
       have HCL := Lib.hid (HD.out.2 w2 B0 m0 d0 s0 b0 hB0 L0 hle X0.out)
       skip
       generalize hd ⟨b0, s0⟩ = X at HST HCL
       obtain ⟨bX, sX⟩ := X
       skip
       iterate 5 (refine zae rfl (by rfl) (v := ?_) ?_ ?_; rotate_left 1; (intro W hW; (try dsimp only at hW); obtain ⟨hW0, hW1⟩ := hW; go_simp <;> with_reducible rfl); simp only [List.getElem_toArray, List.getElem_cons_zero, List.getElem_cons_succ, Act.put, List.setIfInBounds_toArray, List.set_cons_zero, List.set_cons_succ])
       refine zad rfl (by rfl) (fun K hK => ?_)
       refine wp_load_mid 24 (.tmp 69) (by rfl) w.heap.size 0 (by rfl) [.slice B0 m0 d0, .int .i64 s0] _ (hR0.range_part 0 _ rfl) Tryz.underlying24 (by rfl) (by exact zau) ?_
       refine hK.out _ _ ⟨hRs.cell rfl, trivial⟩ ?_
       clear hK K
       refine zad rfl (by rfl) (fun K hK => ?_)
       refine zce (.tmp 67) (.tmp 70) #[24] rfl nd cd rfl _ rfl HD.out.1 ?_
       refine HCL.out.mono ?_
       rintro e w3 ⟨A2, n2, c2, rfl, h2, h3, h4, h5, h6⟩
       refine ⟨_, rfl, ?_⟩
       dsimp only at h2 h4
       have hg0 : ∀ g, g < w.heap.size + 3 → (Value.slice B0 m0 d0).ownBlock ≠ some g := fun g hg e => by have := HA0.out g e; omega
       have rO := hIn.r1.grown h6 (zcf rfl HAP.out)
       replace hR0 := hR0.grown h6 (hg0 _ (by omega))
       replace hRs := hRs.grown h6 (hg0 _ (by omega))
       replace hRr := hRr.grown h6 (hg0 _ (by omega))
       replace hB0 := hB0.grown h6 hB0.size (fun k e => by have := HA0.out k e; omega)
       refine hK.out _ _ ⟨hRs.cell rfl, trivial⟩ ?_
       clear hK K HCL X0 X1
       unfold aggA
       iterate 1 (refine zae rfl (by rfl) (v := ?_) ?_ ?_; rotate_left 1; (intro W hW; (try dsimp only at hW); obtain ⟨hW0, hW1⟩ := hW; go_simp <;> with_reducible rfl); simp only [List.getElem_toArray, List.getElem_cons_zero, List.getElem_cons_succ, Act.put, List.setIfInBounds_toArray, List.set_cons_zero, List.set_cons_succ])
       refine zad rfl (by rfl) (fun K hK => ?_)
       refine wp_store_mid 24 (.tmp 72) (.tmp 71) rfl w.heap.size 0 #[.slice A2 n2 c2, .int .i64 sX] rfl rfl (zaV hR0 0 2 (by simp)) (by exact zau) (by exact all_oneCell_toArray (zaN A2 n2 c2 sX)) ?_
       refine hK.out _ _ ⟨(Row.setCells_other (show w.heap.size + 1 ≠ w.heap.size by omega) [.slice A2 n2 c2, .int .i64 sX] 0 hRs).cell rfl, trivial⟩ ?_
       clear hK K
       refine zal ?_
       have hR1 : Row (w3.setCells w.heap.size 0 [.slice A2 n2 c2, .int .i64 sX]) w.heap.size 27 [.slice A2 n2 c2, .int .i64 sX, .slice B1 m1 d1, .int .i64 s1, .int .i64 (-1), .int .i64 kk, .bool false] := hR0.setCells _ 0 (by simp)
       replace hRr := Row.setCells_other (show w.heap.size + 1 + 1 ≠ w.heap.size by omega) [.slice A2 n2 c2, .int .i64 sX] 0 hRr
       have hO : Only w.heap.size w3 (w3.setCells w.heap.size 0 [.slice A2 n2 c2, .int .i64 sX]) := Only.setCells _ 0 (Only.refl _ w3)
       have rX := h4.no_byte hR0 (zaC B0 m0 d0 s0 B1 m1 d1 s1 (-1) kk false) hO
       replace rO := rO.no_byte hR0 (zaC B0 m0 d0 s0 B1 m1 d1 s1 (-1) kk false) hO
       replace hB0 := zaQ (Nat.le_refl _) [.slice A2 n2 c2, .int .i64 sX] 0 hB0
       clear hR0 hRs h4 h6 hO
       generalize w3.setCells w.heap.size 0 [.slice A2 n2 c2, .int .i64 sX] = w4 at hR1 hRr hB0 rX rO ⊢
       go_wp2_with (first | (refine zac rfl 27 (.tmp 3) rfl w.heap.size 0 rfl _ _ hR1 [.slice A2 n2 c2, .int .i64 sX, .slice B1 m1 d1, .int .i64 s1, .int .i64 (-1), .int .i64 kk, .bool false] (by rfl) _ Tryz.underlying27 rfl (by exact zaj) ?_) | (refine zab rfl 27 (.tmp 6) _ rfl (w.heap.size + 1 + 1) rfl [.slice A2 n2 c2, .int .i64 sX, .slice B1 m1 d1, .int .i64 s1, .int .i64 (-1), .int .i64 kk, .bool false] rfl _ _ hRr (by exact zaj) rfl (zbH A2 n2 c2 sX B1 m1 d1 s1 (-1) kk false) ?_))
       refine bodyPost_ret (zag (p := 6) (u := 7) (ty := 27) (by rfl) _ _ (w.heap.size + 1 + 1) 27 _ _ (by rfl) (by exact hRr.setRow _) Tryz.underlying27 (by rfl) (by exact zaj)) (by rfl) ?_
       rw [HST.out]
       have hIn5 : InD w4 ⟨A2, n2, c2, B1, m1, d1⟩ ⟨⟨bX, sX⟩, ⟨b1, s1⟩, (-1), kk, false⟩ := ⟨h2, h3, rX, L1.out, hd1, rO⟩
       exact ⟨⟨A2, n2, c2, B1, m1, d1⟩, rfl, hIn5.no_byte hRr (zaC none 0 0 0 none 0 0 0 0 0 false) ((Only.refl _ _).setRow _), ⟨h5, hFr.2⟩, below_setRow hB0 (by omega) _⟩
  ·by_cases k1 : k = 1
   ·subst k1
    obtain ⟨⟨p0, p1, p2⟩, ⟨p3, p4, p5⟩, p6, p7⟩ := id hright
    dsimp only at p0 p1 p2 p3 p4 p5 p6 p7
    rw [L0.out] at p1 p2
    rw [L1.out] at p4 p5
    have q0 : (m0 : Int) ≤ 1048576 := by omega
    have q1 : (m1 : Int) ≤ 1048576 := by omega
    have c4 : w2.cell? ⟨w.heap.size, 4, none⟩ = some (.int .i64 f) := hR0.cell rfl
    have c6 : w2.cell? ⟨w.heap.size, 6, none⟩ = some (.bool d) := hR0.cell rfl
    cases d
    case true =>
     have HST := Lib.hid (zis (hs := hs) (hd := hd) (more := more) hright (Or.inr rfl) rfl)
     clear hright
     go_wp2_with (first | (refine zac rfl 27 (.tmp 3) rfl w.heap.size 0 rfl _ _ hR0 [.slice B0 m0 d0, .int .i64 s0, .slice B1 m1 d1, .int .i64 s1, .int .i64 f, .int .i64 kk, .bool true] (by rfl) _ Tryz.underlying27 rfl (by exact zaj) ?_) | (refine zab rfl 27 (.tmp 6) _ rfl (w.heap.size + 1 + 1) rfl [.slice B0 m0 d0, .int .i64 s0, .slice B1 m1 d1, .int .i64 s1, .int .i64 f, .int .i64 kk, .bool true] rfl _ _ hRr (by exact zaj) rfl (zbH B0 m0 d0 s0 B1 m1 d1 s1 f kk true) ?_))
     refine bodyPost_ret (zag (p := 6) (u := 7) (ty := 27) (by rfl) _ _ (w.heap.size + 1 + 1) 27 _ _ (by rfl) (by exact hRr.setRow _) Tryz.underlying27 (by rfl) (by exact zaj)) (by rfl) ?_
     rw [HST.out]
     exact ⟨⟨B0, m0, d0, B1, m1, d1⟩, rfl, hIn.no_byte hRr (zaC none 0 0 0 none 0 0 0 0 0 false) ((Only.refl _ _).setRow _), hFr, below_setRow hB0 (by omega) _⟩
    case false =>
     by_cases hfull : 1048576 < m1 + more
     ·have HST := Lib.hid (zit (hs := hs) (hd := hd) (more := more) hright (Or.inr rfl) rfl (by show 1048576 < b1.length + more; rw [L1.out]; exact hfull))
      have hfi : (1048576 : Int) - (m1 : Int) < (more : Int) := by omega
      have hww : IntKind.i64.wrap (1048576 - (m1 : Int)) = 1048576 - (m1 : Int) := by rw [IntKind.wrap_i64]; omega
      clear hright
      go_upto_region 6 with fail
      refine zah (zoe w.heap.size 2 (w.heap.size + 1) (.slice B1 m1 d1) (.int .i64 (more : Int))) (.step 0 false (.step 1 false (.step 2 false (.step 3 false (.step 4 false (.step 5 false (.step 6 false (.step 7 false (.step 8 false (.step 9 false (.nil))))))))))) ⟨hRs.drew.cell rfl, hR0.drew.cell rfl⟩ (by kernel_rfl) (by kernel_rfl) (by rfl) (by kernel_rfl) ?_
      iterate 10 (refine zae rfl (by rfl) (v := ?_) ?_ ?_; rotate_left 1; (intro W hW; (try dsimp only at hW); obtain ⟨hW0, hW1⟩ := hW; go_simp <;> with_reducible rfl); simp only [List.getElem_toArray, List.getElem_cons_zero, List.getElem_cons_succ, Act.put, List.setIfInBounds_toArray, List.set_cons_zero, List.set_cons_succ])
      refine zal ?_
      clear hww
      replace hR0 := hR0.drew
      replace hRr := hRr.drew
      replace hB0 := hB0.drew
      replace hIn := hIn.keep ((Below.refl _ w2).drew)
      go_wp2_with (first | (refine zac rfl 27 (.tmp 3) rfl w.heap.size 0 rfl _ _ hR0 [.slice B0 m0 d0, .int .i64 s0, .slice B1 m1 d1, .int .i64 s1, .int .i64 f, .int .i64 kk, .bool false] (by rfl) _ Tryz.underlying27 rfl (by exact zaj) ?_) | (refine zab rfl 27 (.tmp 6) _ rfl (w.heap.size + 1 + 1) rfl [.slice B0 m0 d0, .int .i64 s0, .slice B1 m1 d1, .int .i64 s1, .int .i64 f, .int .i64 kk, .bool false] rfl _ _ hRr (by exact zaj) rfl (zbH B0 m0 d0 s0 B1 m1 d1 s1 f kk false) ?_))
      refine bodyPost_ret (zag (p := 6) (u := 7) (ty := 27) (by rfl) _ _ (w.heap.size + 1 + 1) 27 _ _ (by rfl) (by exact hRr.setRow _) Tryz.underlying27 (by rfl) (by exact zaj)) (by rfl) ?_
      rw [HST.out]
      exact ⟨⟨B0, m0, d0, B1, m1, d1⟩, rfl, hIn.no_byte hRr (zaC none 0 0 0 none 0 0 0 0 0 false) ((Only.refl _ _).setRow _), hFr, below_setRow hB0 (by omega) _⟩
     ·have hnf : ¬ 1048576 < (getA ⟨⟨b0, s0⟩, ⟨b1, s1⟩, f, kk, false⟩ (1 : Int).toNat).b.length + more := by show ¬ 1048576 < b1.length + more; rw [L1.out]; exact hfull
      have hfi : ¬ (1048576 : Int) - (m1 : Int) < (more : Int) := by omega
      have hww : IntKind.i64.wrap (1048576 - (m1 : Int)) = 1048576 - (m1 : Int) := by rw [IntKind.wrap_i64]; omega
      have hle : m1 + more ≤ 1048576 := by omega
      go_upto_region 6 with fail
      refine zah (zoe w.heap.size 2 (w.heap.size + 1) (.slice B1 m1 d1) (.int .i64 (more : Int))) (.step 0 false (.step 1 false (.step 2 false (.step 3 false (.step 4 false (.step 5 false (.step 6 false (.step 7 false (.step 8 false (.step 9 false (.nil))))))))))) ⟨hRs.drew.cell rfl, hR0.drew.cell rfl⟩ (by kernel_rfl) (by kernel_rfl) (by rfl) (by kernel_rfl) ?_
      iterate 10 (refine zae rfl (by rfl) (v := ?_) ?_ ?_; rotate_left 1; (intro W hW; (try dsimp only at hW); obtain ⟨hW0, hW1⟩ := hW; go_simp <;> with_reducible rfl); simp only [List.getElem_toArray, List.getElem_cons_zero, List.getElem_cons_succ, Act.put, List.setIfInBounds_toArray, List.set_cons_zero, List.set_cons_succ])
      refine zal ?_
      clear hww
      replace hR0 := hR0.drew
      replace hRs := hRs.drew
      replace hRr := hRr.drew
      have hbd : Below w2.heap.size w2 w2.drew := (Below.refl _ w2).drew
      replace hB0 := hB0.drew
      replace hIn := hIn.keep hbd
      replace X0 := Lib.hid (zam X0.out hbd)
      replace X1 := Lib.hid (zam X1.out hbd)
      replace c4 : w2.drew.cell? ⟨w.heap.size, 4, none⟩ = some (.int .i64 f) := c4
      clear hbd c6 hfull
      generalize w2.drew = w2 at hR0 hRs hRr hB0 hIn X0 X1 c4 ⊢
      by_cases hf0 : f = 0
      ·subst hf0
       have HST : Hid (zbl ⟨⟨b0, s0⟩, ⟨b1, s1⟩, 0, kk, false⟩ 1 more hs hd = (zgL ⟨⟨b0, s0⟩, hs ⟨b1, s1⟩, 0, kk, false⟩ kk, 14)) := ziu hright (Or.inr rfl) rfl hnf rfl
       have hbd := (Below.refl w2.heap.size w2).drew
       replace hR0 := hR0.drew
       replace hRs := hRs.drew
       replace hRr := hRr.drew
       replace hB0 := hB0.drew
       replace hIn := hIn.keep hbd
       replace X0 := Lib.hid (zam X0.out hbd)
       replace X1 := Lib.hid (zam X1.out hbd)
       clear hbd
       go_upto_region 11 with fail
       refine zah (fnS (w.heap.size + 1) 2 (.func (.func ns) #[] cs)) (.step 0 false (.step 1 false (.step 2 false (.step 3 false (.step 4 false (.step 5 true (.step 6 true (.step 7 false (.step 8 true (.nil)))))))))) ⟨hRs.cell rfl, trivial⟩ (by kernel_rfl) (by kernel_rfl) (by rfl) (by kernel_rfl) ?_
       try clear c4
       generalize w2.drew = w2 at hR0 hRs hRr hB0 hIn X0 X1 ⊢
       have HCL := Lib.hid ((HS.out hright).2 w2 B1 m1 d1 s1 b1 hB0 L1 hle X1.out)
       have hXR := HSr.out ⟨b1, s1⟩ ⟨p3, by rw [L1.out]; exact p4, by rw [L1.out]; exact p5⟩ (by rw [L1.out]; exact hle)
       generalize hs ⟨b1, s1⟩ = X at HST HCL hXR
       obtain ⟨bX, sX⟩ := X
       skip
       iterate 5 (refine zae rfl (by rfl) (v := ?_) ?_ ?_; rotate_left 1; (intro W hW; (try dsimp only at hW); obtain ⟨hW0, hW1⟩ := hW; go_simp <;> with_reducible rfl); simp only [List.getElem_toArray, List.getElem_cons_zero, List.getElem_cons_succ, Act.put, List.setIfInBounds_toArray, List.set_cons_zero, List.set_cons_succ])
       refine zad rfl (by rfl) (fun K hK => ?_)
       refine wp_load_mid 24 (.tmp 53) (by rfl) w.heap.size 2 (by rfl) [.slice B1 m1 d1, .int .i64 s1] _ (hR0.range_part 2 _ rfl) Tryz.underlying24 (by rfl) (by exact zau) ?_
       refine hK.out _ _ ⟨hRs.cell rfl, trivial⟩ ?_
       clear hK K
       refine zad rfl (by rfl) (fun K hK => ?_)
       refine zce (.tmp 51) (.tmp 54) #[24] rfl ns cs rfl _ rfl (HS.out hright).1 ?_
       refine HCL.out.mono ?_
       rintro e w3 ⟨A2, n2, c2, rfl, h2, h3, h4, h5, h6⟩
       refine ⟨_, rfl, ?_⟩
       dsimp only at h2 h4
       have hg0 : ∀ g, g < w.heap.size + 3 → (Value.slice B1 m1 d1).ownBlock ≠ some g := fun g hg e => by have := HA1.out g e; omega
       have rO := hIn.r0.grown h6 (zcf rfl (zfb HAP.out))
       replace hR0 := hR0.grown h6 (hg0 _ (by omega))
       replace hRs := hRs.grown h6 (hg0 _ (by omega))
       replace hRr := hRr.grown h6 (hg0 _ (by omega))
       replace hB0 := hB0.grown h6 hB0.size (fun k e => by have := HA1.out k e; omega)
       refine hK.out _ _ ⟨hRs.cell rfl, trivial⟩ ?_
       clear hK K HCL X0 X1
       unfold aggA
       iterate 1 (refine zae rfl (by rfl) (v := ?_) ?_ ?_; rotate_left 1; (intro W hW; (try dsimp only at hW); obtain ⟨hW0, hW1⟩ := hW; go_simp <;> with_reducible rfl); simp only [List.getElem_toArray, List.getElem_cons_zero, List.getElem_cons_succ, Act.put, List.setIfInBounds_toArray, List.set_cons_zero, List.set_cons_succ])
       refine zad rfl (by rfl) (fun K hK => ?_)
       refine wp_store_mid 24 (.tmp 56) (.tmp 55) rfl w.heap.size 2 #[.slice A2 n2 c2, .int .i64 sX] rfl rfl (zaV hR0 2 2 (by simp)) (by exact zau) (by exact all_oneCell_toArray (zaN A2 n2 c2 sX)) ?_
       refine hK.out _ _ ⟨(Row.setCells_other (show w.heap.size + 1 ≠ w.heap.size by omega) [.slice A2 n2 c2, .int .i64 sX] 2 hRs).cell rfl, trivial⟩ ?_
       clear hK K
       refine zal ?_
       have hR1 : Row (w3.setCells w.heap.size 2 [.slice A2 n2 c2, .int .i64 sX]) w.heap.size 27 [.slice B0 m0 d0, .int .i64 s0, .slice A2 n2 c2, .int .i64 sX, .int .i64 0, .int .i64 kk, .bool false] := hR0.setCells _ 2 (by simp)
       replace hRr := Row.setCells_other (show w.heap.size + 1 + 1 ≠ w.heap.size by omega) [.slice A2 n2 c2, .int .i64 sX] 2 hRr
       have hO : Only w.heap.size w3 (w3.setCells w.heap.size 2 [.slice A2 n2 c2, .int .i64 sX]) := Only.setCells _ 2 (Only.refl _ w3)
       have rX := h4.no_byte hR0 (zaC B0 m0 d0 s0 B1 m1 d1 s1 0 kk false) hO
       replace rO := rO.no_byte hR0 (zaC B0 m0 d0 s0 B1 m1 d1 s1 0 kk false) hO
       replace hB0 := zaQ (Nat.le_refl _) [.slice A2 n2 c2, .int .i64 sX] 2 hB0
       clear hR0 hRs h4 h6 hO
       generalize w3.setCells w.heap.size 2 [.slice A2 n2 c2, .int .i64 sX] = w4 at hR1 hRr hB0 rX rO ⊢
       have c5 : w4.cell? ⟨w.heap.size, 5, none⟩ = some (.int .i64 kk) := hR1.cell rfl
       go_wp2_with (refine zac rfl 27 (.tmp 3) rfl w.heap.size 0 rfl _ _ hR1 [.slice B0 m0 d0, .int .i64 s0, .slice A2 n2 c2, .int .i64 sX, .int .i64 0, .int .i64 kk, .bool false] (by rfl) _ Tryz.underlying27 rfl (by exact zaj) ?_)
       refine (zg1 ⟨B0, m0, d0, A2, n2, c2⟩ ⟨⟨b0, s0⟩, ⟨bX, sX⟩, 0, kk, false⟩ kk w4 ⟨L0.out, hd0, rO, h2, h3, rX⟩ ⟨p0, by rw [L0.out]; exact p1, by rw [L0.out]; exact p2⟩ hXR p7 hk).mono ?_
       rintro e w5 ⟨v0, v1, rfl, hIn5, hb5⟩
       replace hRr := hRr.later hb5
       replace hB0 := zaa hB0 hb5
       generalize zgL ⟨⟨b0, s0⟩, ⟨bX, sX⟩, 0, kk, false⟩ kk = DL at HST hIn5 ⊢
       unfold aggD
       dsimp only
       clear hb5 hR1 c5
       go_wp2_with (refine zab rfl 27 (.tmp 6) _ rfl (w.heap.size + 1 + 1) rfl (zdi ⟨B0, v0, d0, A2, v1, c2⟩ DL) rfl _ _ hRr (by exact zaj) rfl (za7 ⟨B0, v0, d0, A2, v1, c2⟩ DL) ?_)
       refine bodyPost_ret (zag (p := 6) (u := 7) (ty := 27) (by rfl) _ _ (w.heap.size + 1 + 1) 27 _ _ (by rfl) (by exact hRr.setRow _) Tryz.underlying27 (by rfl) (by exact zaj)) (by rfl) ?_
       rw [HST.out]
       exact ⟨⟨B0, v0, d0, A2, v1, c2⟩, rfl, hIn5.no_byte hRr (zaC none 0 0 0 none 0 0 0 0 0 false) ((Only.refl _ _).setRow _), ⟨hFr.1, h5⟩, below_setRow hB0 (by omega) _⟩
      ·by_cases hf1 : 0 < f
       ·have HST : Hid (zbl ⟨⟨b0, s0⟩, ⟨b1, s1⟩, f, kk, false⟩ 1 more hs hd = (⟨⟨b0, s0⟩, hd ⟨b1, s1⟩, f - 1, kk, false⟩, 0)) := by
         have := zeN (hs := hs) (hd := hd) (more := more) hright (Or.inr rfl) rfl hnf hf0
         unfold burn at this
         rw [if_pos hf1] at this
         exact this
        have f4 := hR0.frozen 4
        have hR1 : Row (w2.setCell ⟨w.heap.size, 4, none⟩ (.int .i64 (f - 1))) w.heap.size 27 [.slice B0 m0 d0, .int .i64 s0, .slice B1 m1 d1, .int .i64 s1, .int .i64 (f - 1), .int .i64 kk, .bool false] := hR0.setCell 4 _
        have hO : Only w.heap.size w2 (w2.setCell ⟨w.heap.size, 4, none⟩ (.int .i64 (f - 1))) := (Only.refl _ w2).setCell 4 _
        have hIn2 := hIn.no_byte hR0 (zaC B0 m0 d0 s0 B1 m1 d1 s1 f kk false) hO
        have hRs2 := hRs.setCell_other (p := ⟨w.heap.size, 4, none⟩) (show w.heap.size + 1 ≠ w.heap.size by omega) (.int .i64 (f - 1))
        have hRr2 := hRr.setCell_other (p := ⟨w.heap.size, 4, none⟩) (show w.heap.size + 1 + 1 ≠ w.heap.size by omega) (.int .i64 (f - 1))
        have hB2 := hB0.trans hO.below
        have Y0 := Lib.hid (zcQ X0.out (g := w.heap.size) (fun e => by have := HA0.out _ e; omega) hO.other)
        have Y1 := Lib.hid (zcQ X1.out (g := w.heap.size) (fun e => by have := HA1.out _ e; omega) hO.other)
        have hwf : IntKind.i64.wrap (f - 1) = f - 1 := by rw [IntKind.wrap_i64]; omega
        go_upto_region 14 with fail
        clear hwf f4 c4 hR0 hRs hRr hIn hB0 X0 X1 hO
        generalize w2.setCell ⟨w.heap.size, 4, none⟩ (.int .i64 (f - 1)) = w2 at hR1 hRs2 hRr2 hIn2 hB2 Y0 Y1 ⊢
        rename Row w2 w.heap.size _ _ => hR0
        rename Row w2 (w.heap.size + 1) _ _ => hRs
        rename Row w2 (w.heap.size + 1 + 1) _ _ => hRr
        rename InD w2 _ _ => hIn
        rename Below w.heap.size w w2 => hB0
        rename Hid (w2.ownsRow w.heap.size _ 1 (.slice B0 m0 d0) _ _) => X0
        rename Hid (w2.ownsRow w.heap.size _ 1 (.slice B1 m1 d1) _ _) => X1
        have hbd := (Below.refl w2.heap.size w2).drew
        replace hR0 := hR0.drew
        replace hRs := hRs.drew
        replace hRr := hRr.drew
        replace hB0 := hB0.drew
        replace hIn := hIn.keep hbd
        replace X0 := Lib.hid (zam X0.out hbd)
        replace X1 := Lib.hid (zam X1.out hbd)
        clear hbd
        refine zah (fnS (w.heap.size + 1) 1 (.func (.func nd) #[] cd)) (.step 0 false (.step 1 false (.step 2 false (.step 3 false (.step 4 false (.step 5 true (.step 6 true (.step 7 false (.step 8 true (.nil)))))))))) ⟨hRs.cell rfl, trivial⟩ (by kernel_rfl) (by kernel_rfl) (by rfl) (by kernel_rfl) ?_
        try clear c4
        generalize w2.drew = w2 at hR0 hRs hRr hB0 hIn X0 X1 ⊢
        have HCL := Lib.hid (HD.out.2 w2 B1 m1 d1 s1 b1 hB0 L1 hle X1.out)
        skip
        generalize hd ⟨b1, s1⟩ = X at HST HCL
        obtain ⟨bX, sX⟩ := X
        skip
        iterate 5 (refine zae rfl (by rfl) (v := ?_) ?_ ?_; rotate_left 1; (intro W hW; (try dsimp only at hW); obtain ⟨hW0, hW1⟩ := hW; go_simp <;> with_reducible rfl); simp only [List.getElem_toArray, List.getElem_cons_zero, List.getElem_cons_succ, Act.put, List.setIfInBounds_toArray, List.set_cons_zero, List.set_cons_succ])
        refine zad rfl (by rfl) (fun K hK => ?_)
        refine wp_load_mid 24 (.tmp 69) (by rfl) w.heap.size 2 (by rfl) [.slice B1 m1 d1, .int .i64 s1] _ (hR0.range_part 2 _ rfl) Tryz.underlying24 (by rfl) (by exact zau) ?_
        refine hK.out _ _ ⟨hRs.cell rfl, trivial⟩ ?_
        clear hK K
        refine zad rfl (by rfl) (fun K hK => ?_)
        refine zce (.tmp 67) (.tmp 70) #[24] rfl nd cd rfl _ rfl HD.out.1 ?_
        refine HCL.out.mono ?_
        rintro e w3 ⟨A2, n2, c2, rfl, h2, h3, h4, h5, h6⟩
        refine ⟨_, rfl, ?_⟩
        dsimp only at h2 h4
        have hg0 : ∀ g, g < w.heap.size + 3 → (Value.slice B1 m1 d1).ownBlock ≠ some g := fun g hg e => by have := HA1.out g e; omega
        have rO := hIn.r0.grown h6 (zcf rfl (zfb HAP.out))
        replace hR0 := hR0.grown h6 (hg0 _ (by omega))
        replace hRs := hRs.grown h6 (hg0 _ (by omega))
        replace hRr := hRr.grown h6 (hg0 _ (by omega))
        replace hB0 := hB0.grown h6 hB0.size (fun k e => by have := HA1.out k e; omega)
        refine hK.out _ _ ⟨hRs.cell rfl, trivial⟩ ?_
        clear hK K HCL X0 X1
        unfold aggA
        iterate 1 (refine zae rfl (by rfl) (v := ?_) ?_ ?_; rotate_left 1; (intro W hW; (try dsimp only at hW); obtain ⟨hW0, hW1⟩ := hW; go_simp <;> with_reducible rfl); simp only [List.getElem_toArray, List.getElem_cons_zero, List.getElem_cons_succ, Act.put, List.setIfInBounds_toArray, List.set_cons_zero, List.set_cons_succ])
        refine zad rfl (by rfl) (fun K hK => ?_)
        refine wp_store_mid 24 (.tmp 72) (.tmp 71) rfl w.heap.size 2 #[.slice A2 n2 c2, .int .i64 sX] rfl rfl (zaV hR0 2 2 (by simp)) (by exact zau) (by exact all_oneCell_toArray (zaN A2 n2 c2 sX)) ?_
        refine hK.out _ _ ⟨(Row.setCells_other (show w.heap.size + 1 ≠ w.heap.size by omega) [.slice A2 n2 c2, .int .i64 sX] 2 hRs).cell rfl, trivial⟩ ?_
        clear hK K
        refine zal ?_
        have hR1 : Row (w3.setCells w.heap.size 2 [.slice A2 n2 c2, .int .i64 sX]) w.heap.size 27 [.slice B0 m0 d0, .int .i64 s0, .slice A2 n2 c2, .int .i64 sX, .int .i64 (f - 1), .int .i64 kk, .bool false] := hR0.setCells _ 2 (by simp)
        replace hRr := Row.setCells_other (show w.heap.size + 1 + 1 ≠ w.heap.size by omega) [.slice A2 n2 c2, .int .i64 sX] 2 hRr
        have hO : Only w.heap.size w3 (w3.setCells w.heap.size 2 [.slice A2 n2 c2, .int .i64 sX]) := Only.setCells _ 2 (Only.refl _ w3)
        have rX := h4.no_byte hR0 (zaC B0 m0 d0 s0 B1 m1 d1 s1 (f - 1) kk false) hO
        replace rO := rO.no_byte hR0 (zaC B0 m0 d0 s0 B1 m1 d1 s1 (f - 1) kk false) hO
        replace hB0 := zaQ (Nat.le_refl _) [.slice A2 n2 c2, .int .i64 sX] 2 hB0
        clear hR0 hRs h4 h6 hO
        generalize w3.setCells w.heap.size 2 [.slice A2 n2 c2, .int .i64 sX] = w4 at hR1 hRr hB0 rX rO ⊢
        go_wp2_with (first | (refine zac rfl 27 (.tmp 3) rfl w.heap.size 0 rfl _ _ hR1 [.slice B0 m0 d0, .int .i64 s0, .slice A2 n2 c2, .int .i64 sX, .int .i64 (f - 1), .int .i64 kk, .bool false] (by rfl) _ Tryz.underlying27 rfl (by exact zaj) ?_) | (refine zab rfl 27 (.tmp 6) _ rfl (w.heap.size + 1 + 1) rfl [.slice B0 m0 d0, .int .i64 s0, .slice A2 n2 c2, .int .i64 sX, .int .i64 (f - 1), .int .i64 kk, .bool false] rfl _ _ hRr (by exact zaj) rfl (zbH B0 m0 d0 s0 A2 n2 c2 sX (f - 1) kk false) ?_))
        refine bodyPost_ret (zag (p := 6) (u := 7) (ty := 27) (by rfl) _ _ (w.heap.size + 1 + 1) 27 _ _ (by rfl) (by exact hRr.setRow _) Tryz.underlying27 (by rfl) (by exact zaj)) (by rfl) ?_
        rw [HST.out]
        have hIn5 : InD w4 ⟨B0, m0, d0, A2, n2, c2⟩ ⟨⟨b0, s0⟩, ⟨bX, sX⟩, (f - 1), kk, false⟩ := ⟨L0.out, hd0, rO, h2, h3, rX⟩
        exact ⟨⟨B0, m0, d0, A2, n2, c2⟩, rfl, hIn5.no_byte hRr (zaC none 0 0 0 none 0 0 0 0 0 false) ((Only.refl _ _).setRow _), ⟨hFr.1, h5⟩, below_setRow hB0 (by omega) _⟩
       ·have hf2 : f = -1 := by omega
        subst hf2
        have HST : Hid (zbl ⟨⟨b0, s0⟩, ⟨b1, s1⟩, (-1), kk, false⟩ 1 more hs hd = (⟨⟨b0, s0⟩, hd ⟨b1, s1⟩, (-1), kk, false⟩, 0)) := by
         have := zeN (hs := hs) (hd := hd) (more := more) hright (Or.inr rfl) rfl hnf hf0
         unfold burn at this
         rw [if_neg hf1] at this
         exact this
        have hbd := (Below.refl w2.heap.size w2).drew
        replace hR0 := hR0.drew
        replace hRs := hRs.drew
        replace hRr := hRr.drew
        replace hB0 := hB0.drew
        replace hIn := hIn.keep hbd
        replace X0 := Lib.hid (zam X0.out hbd)
        replace X1 := Lib.hid (zam X1.out hbd)
        clear hbd
        go_upto_region 14 with fail
        refine zah (fnS (w.heap.size + 1) 1 (.func (.func nd) #[] cd)) (.step 0 false (.step 1 false (.step 2 false (.step 3 false (.step 4 false (.step 5 true (.step 6 true (.step 7 false (.step 8 true (.nil)))))))))) ⟨hRs.cell rfl, trivial⟩ (by kernel_rfl) (by kernel_rfl) (by rfl) (by kernel_rfl) ?_
        try clear c4
        generalize w2.drew = w2 at hR0 hRs hRr hB0 hIn X0 X1 ⊢
        have HCL := Lib.hid (HD.out.2 w2 B1 m1 d1 s1 b1 hB0 L1 hle X1.out)
        skip
        generalize hd ⟨b1, s1⟩ = X at HST HCL
        obtain ⟨bX, sX⟩ := X
        skip
        iterate 5 (refine zae rfl (by rfl) (v := ?_) ?_ ?_; rotate_left 1; (intro W hW; (try dsimp only at hW); obtain ⟨hW0, hW1⟩ := hW; go_simp <;> with_reducible rfl); simp only [List.getElem_toArray, List.getElem_cons_zero, List.getElem_cons_succ, Act.put, List.setIfInBounds_toArray, List.set_cons_zero, List.set_cons_succ])
        refine zad rfl (by rfl) (fun K hK => ?_)
        refine wp_load_mid 24 (.tmp 69) (by rfl) w.heap.size 2 (by rfl) [.slice B1 m1 d1, .int .i64 s1] _ (hR0.range_part 2 _ rfl) Tryz.underlying24 (by rfl) (by exact zau) ?_
        refine hK.out _ _ ⟨hRs.cell rfl, trivial⟩ ?_
        clear hK K
        refine zad rfl (by rfl) (fun K hK => ?_)
        refine zce (.tmp 67) (.tmp 70) #[24] rfl nd cd rfl _ rfl HD.out.1 ?_
        refine HCL.out.mono ?_
        rintro e w3 ⟨A2, n2, c2, rfl, h2, h3, h4, h5, h6⟩
        refine ⟨_, rfl, ?_⟩
        dsimp only at h2 h4
        have hg0 : ∀ g, g < w.heap.size + 3 → (Value.slice B1 m1 d1).ownBlock ≠ some g := fun g hg e => by have := HA1.out g e; omega
        have rO := hIn.r0.grown h6 (zcf rfl (zfb HAP.out))
        replace hR0 := hR0.grown h6 (hg0 _ (by omega))
        replace hRs := hRs.grown h6 (hg0 _ (by omega))
        replace hRr := hRr.grown h6 (hg0 _ (by omega))
        replace hB0 := hB0.grown h6 hB0.size (fun k e => by have := HA1.out k e; omega)
        refine hK.out _ _ ⟨hRs.cell rfl, trivial⟩ ?_
        clear hK K HCL X0 X1
        unfold aggA
        iterate 1 (refine zae rfl (by rfl) (v := ?_) ?_ ?_; rotate_left 1; (intro W hW; (try dsimp only at hW); obtain ⟨hW0, hW1⟩ := hW; go_simp <;> with_reducible rfl); simp only [List.getElem_toArray, List.getElem_cons_zero, List.getElem_cons_succ, Act.put, List.setIfInBounds_toArray, List.set_cons_zero, List.set_cons_succ])
        refine zad rfl (by rfl) (fun K hK => ?_)
        refine wp_store_mid 24 (.tmp 72) (.tmp 71) rfl w.heap.size 2 #[.slice A2 n2 c2, .int .i64 sX] rfl rfl (zaV hR0 2 2 (by simp)) (by exact zau) (by exact all_oneCell_toArray (zaN A2 n2 c2 sX)) ?_
        refine hK.out _ _ ⟨(Row.setCells_other (show w.heap.size + 1 ≠ w.heap.size by omega) [.slice A2 n2 c2, .int .i64 sX] 2 hRs).cell rfl, trivial⟩ ?_
        clear hK K
        refine zal ?_
        have hR1 : Row (w3.setCells w.heap.size 2 [.slice A2 n2 c2, .int .i64 sX]) w.heap.size 27 [.slice B0 m0 d0, .int .i64 s0, .slice A2 n2 c2, .int .i64 sX, .int .i64 (-1), .int .i64 kk, .bool false] := hR0.setCells _ 2 (by simp)
        replace hRr := Row.setCells_other (show w.heap.size + 1 + 1 ≠ w.heap.size by omega) [.slice A2 n2 c2, .int .i64 sX] 2 hRr
        have hO : Only w.heap.size w3 (w3.setCells w.heap.size 2 [.slice A2 n2 c2, .int .i64 sX]) := Only.setCells _ 2 (Only.refl _ w3)
        have rX := h4.no_byte hR0 (zaC B0 m0 d0 s0 B1 m1 d1 s1 (-1) kk false) hO
        replace rO := rO.no_byte hR0 (zaC B0 m0 d0 s0 B1 m1 d1 s1 (-1) kk false) hO
        replace hB0 := zaQ (Nat.le_refl _) [.slice A2 n2 c2, .int .i64 sX] 2 hB0
        clear hR0 hRs h4 h6 hO
        generalize w3.setCells w.heap.size 2 [.slice A2 n2 c2, .int .i64 sX] = w4 at hR1 hRr hB0 rX rO ⊢
        go_wp2_with (first | (refine zac rfl 27 (.tmp 3) rfl w.heap.size 0 rfl _ _ hR1 [.slice B0 m0 d0, .int .i64 s0, .slice A2 n2 c2, .int .i64 sX, .int .i64 (-1), .int .i64 kk, .bool false] (by rfl) _ Tryz.underlying27 rfl (by exact zaj) ?_) | (refine zab rfl 27 (.tmp 6) _ rfl (w.heap.size + 1 + 1) rfl [.slice B0 m0 d0, .int .i64 s0, .slice A2 n2 c2, .int .i64 sX, .int .i64 (-1), .int .i64 kk, .bool false] rfl _ _ hRr (by exact zaj) rfl (zbH B0 m0 d0 s0 A2 n2 c2 sX (-1) kk false) ?_))
        refine bodyPost_ret (zag (p := 6) (u := 7) (ty := 27) (by rfl) _ _ (w.heap.size + 1 + 1) 27 _ _ (by rfl) (by exact hRr.setRow _) Tryz.underlying27 (by rfl) (by exact zaj)) (by rfl) ?_
        rw [HST.out]
        have hIn5 : InD w4 ⟨B0, m0, d0, A2, n2, c2⟩ ⟨⟨b0, s0⟩, ⟨bX, sX⟩, (-1), kk, false⟩ := ⟨L0.out, hd0, rO, h2, h3, rX⟩
        exact ⟨⟨B0, m0, d0, A2, n2, c2⟩, rfl, hIn5.no_byte hRr (zaC none 0 0 0 none 0 0 0 0 0 false) ((Only.refl _ _).setRow _), ⟨hFr.1, h5⟩, below_setRow hB0 (by omega) _⟩
   ·have HST : Hid (zbl ⟨⟨b0, s0⟩, ⟨b1, s1⟩, f, kk, d⟩ k more hs hd = (⟨⟨b0, s0⟩, ⟨b1, s1⟩, f, kk, d⟩, 1)) := zkp (fun hn => by rcases hn.2 with h | h <;> contradiction)
    by_cases k2 : k < 0
    ·clear k0 k1
     go_wp2_with (first | (refine zac rfl 27 (.tmp 3) rfl w.heap.size 0 rfl _ _ hR0 [.slice B0 m0 d0, .int .i64 s0, .slice B1 m1 d1, .int .i64 s1, .int .i64 f, .int .i64 kk, .bool d] (by rfl) _ Tryz.underlying27 rfl (by exact zaj) ?_) | (refine zab rfl 27 (.tmp 6) _ rfl (w.heap.size + 1 + 1) rfl [.slice B0 m0 d0, .int .i64 s0, .slice B1 m1 d1, .int .i64 s1, .int .i64 f, .int .i64 kk, .bool d] rfl _ _ hRr (by exact zaj) rfl (zbH B0 m0 d0 s0 B1 m1 d1 s1 f kk d) ?_))
     refine bodyPost_ret (zag (p := 6) (u := 7) (ty := 27) (by rfl) _ _ (w.heap.size + 1 + 1) 27 _ _ (by rfl) (by exact hRr.setRow _) Tryz.underlying27 (by rfl) (by exact zaj)) (by rfl) ?_
     rw [HST.out]
     exact ⟨⟨B0, m0, d0, B1, m1, d1⟩, rfl, hIn.no_byte hRr (zaC none 0 0 0 none 0 0 0 0 0 false) ((Only.refl _ _).setRow _), hFr, below_setRow hB0 (by omega) _⟩
    ·have k3 : 2 ≤ k := by omega
     clear k0 k1
     go_wp2_with (first | (refine zac rfl 27 (.tmp 3) rfl w.heap.size 0 rfl _ _ hR0 [.slice B0 m0 d0, .int .i64 s0, .slice B1 m1 d1, .int .i64 s1, .int .i64 f, .int .i64 kk, .bool d] (by rfl) _ Tryz.underlying27 rfl (by exact zaj) ?_) | (refine zab rfl 27 (.tmp 6) _ rfl (w.heap.size + 1 + 1) rfl [.slice B0 m0 d0, .int .i64 s0, .slice B1 m1 d1, .int .i64 s1, .int .i64 f, .int .i64 kk, .bool d] rfl _ _ hRr (by exact zaj) rfl (zbH B0 m0 d0 s0 B1 m1 d1 s1 f kk d) ?_))
     refine bodyPost_ret (zag (p := 6) (u := 7) (ty := 27) (by rfl) _ _ (w.heap.size + 1 + 1) 27 _ _ (by rfl) (by exact hRr.setRow _) Tryz.underlying27 (by rfl) (by exact zaj)) (by rfl) ?_
     rw [HST.out]
     exact ⟨⟨B0, m0, d0, B1, m1, d1⟩, rfl, hIn.no_byte hRr (zaC none 0 0 0 none 0 0 0 0 0 false) ((Only.refl _ _).setRow _), hFr, below_setRow hB0 (by omega) _⟩
 ·have HST : Hid (zbl ⟨⟨b0, s0⟩, ⟨b1, s1⟩, f, kk, d⟩ k more hs hd = (⟨⟨b0, s0⟩, ⟨b1, s1⟩, f, kk, d⟩, 1)) := zkp (fun hn => hright hn.1)
  rw [decide_eq_false hright]
  clear hright
  go_wp2_with (first | (refine zac rfl 27 (.tmp 3) rfl w.heap.size 0 rfl _ _ hR0 [.slice B0 m0 d0, .int .i64 s0, .slice B1 m1 d1, .int .i64 s1, .int .i64 f, .int .i64 kk, .bool d] (by rfl) _ Tryz.underlying27 rfl (by exact zaj) ?_) | (refine zab rfl 27 (.tmp 6) _ rfl (w.heap.size + 1 + 1) rfl [.slice B0 m0 d0, .int .i64 s0, .slice B1 m1 d1, .int .i64 s1, .int .i64 f, .int .i64 kk, .bool d] rfl _ _ hRr (by exact zaj) rfl (zbH B0 m0 d0 s0 B1 m1 d1 s1 f kk d) ?_))
  refine bodyPost_ret (zag (p := 6) (u := 7) (ty := 27) (by rfl) _ _ (w.heap.size + 1 + 1) 27 _ _ (by rfl) (by exact hRr.setRow _) Tryz.underlying27 (by rfl) (by exact zaj)) (by rfl) ?_
  rw [HST.out]
  exact ⟨⟨B0, m0, d0, B1, m1, d1⟩, rfl, hIn.no_byte hRr (zaC none 0 0 0 none 0 0 0 0 0 false) ((Only.refl _ _).setRow _), hFr, below_setRow hB0 (by omega) _⟩
theorem zjo : ∀ args W, (callFunc 147 args).run Tryz.prog W = .ok (.enter 147 args) W := fun args W => by kernel_rfl
theorem ziv : ∀ args W, (callFunc 149 args).run Tryz.prog W = .ok (.enter 149 args) W := fun args W => by kernel_rfl
theorem ziw : ∀ args W, (callFunc 153 args).run Tryz.prog W = .ok (.enter 153 args) W := fun args W => by kernel_rfl
theorem zjp : ∀ args W, (callFunc 145 args).run Tryz.prog W = .ok (.enter 145 args) W := fun args W => by kernel_rfl
theorem zhM : ∀ args W, (callFunc 146 args).run Tryz.prog W = .ok (.enter 146 args) W := fun args W => by kernel_rfl
theorem zfu (w : World) (more : Nat) : zf5 w more 146 #[] (fun a => a) := by
 refine ⟨zhM, fun w1 A n c s b hb HN hle ho => ?_⟩
 rw [show (#[aggA A n c s] ++ #[] : Array Value) = #[aggA A n c s] by simp]
 refine (zhL A n c s w1).mono ?_
 rintro e w2 ⟨rfl, h2⟩
 obtain ⟨h3, h4, h5⟩ := zdP ho
 exact ⟨A, n, c, rfl, HN, h3, h4.keep h2, h5, zbv h2 _⟩
theorem zjq (w : World) (more : Nat) : zf5 w more 153 #[] (fun a => ⟨a.b, a.b.length⟩) := by
 refine ⟨ziw, fun w1 A n c s b hb HN hle ho => ?_⟩
 rw [show (#[aggA A n c s] ++ #[] : Array Value) = #[aggA A n c s] by simp]
 refine (zio A n c s w1).mono ?_
 rintro e w2 ⟨rfl, h2⟩
 obtain ⟨h3, h4, h5⟩ := zdP ho
 exact ⟨A, n, c, by rw [← HN.out], HN, h3, h4.keep h2, h5, zbv h2 _⟩
theorem zkY (w : World) (more : Nat) : zf5 w more 145 #[] (fun _ => ⟨[], 0⟩) := by
 refine ⟨zjp, fun w1 A n c s b hb HN hle ho => ?_⟩
 rw [show (#[aggA A n c s] ++ #[] : Array Value) = #[aggA A n c s] by simp]
 refine (zjm A n c s w1).mono ?_
 rintro e w2 ⟨rfl, h2⟩
 exact ⟨none, 0, 0, rfl, rfl, Nat.le_refl _, Rd.nil, (fun a h => by cases h), zbv h2 _⟩
theorem zkZ (w : World) (l : List UInt8) (C : Option Addr) (m d g1 : Nat) (HL : Hid (l.length = m)) (hr : Rd vB w C l) (c1 : w.cell? ⟨g1, 0, none⟩ = some (.slice C m d)) : zf5 w m 147 #[.pointer (some ⟨g1, 0, none⟩)] (fun a => ⟨a.b ++ l, a.s⟩) := by
 refine ⟨zjo, fun w1 A n c s b hb HN hle ho => ?_⟩
 rw [show (#[aggA A n c s] ++ #[.pointer (some ⟨g1, 0, none⟩)] : Array Value) = #[aggA A n c s, .pointer (some ⟨g1, 0, none⟩)] by simp]
 exact zjn w.heap.size b l A C n c m d s g1 w1 HN HL ho (hr.keep hb) hle hb.size ((hb.cell (p := ⟨g1, 0, none⟩) (World.block_lt_of_cell? w _ c1)).trans c1)
theorem zjr (w : World) (l : List UInt8) (C : Option Addr) (m d g1 g2 : Nat) (keep : Int) (hk : 0 ≤ keep) (HL : Hid (l.length = m)) (hmd : m ≤ d) (hr : Rd vB w C l) (c1 : w.cell? ⟨g1, 0, none⟩ = some (.slice C m d)) (c2 : w.cell? ⟨g2, 5, none⟩ = some (.int .i64 keep)) : zf5 w m 149 #[.pointer (some ⟨g1, 0, none⟩), .pointer (some ⟨g2, 0, none⟩)] (fun a => ⟨a.b ++ l.take keep.toNat, a.s⟩) := by
 refine ⟨ziv, fun w1 A n c s b hb HN hle ho => ?_⟩
 rw [show (#[aggA A n c s] ++ #[.pointer (some ⟨g1, 0, none⟩), .pointer (some ⟨g2, 0, none⟩)] : Array Value) = #[aggA A n c s, .pointer (some ⟨g1, 0, none⟩), .pointer (some ⟨g2, 0, none⟩)] by simp]
 obtain ⟨kp, rfl⟩ : ∃ kp : Nat, keep = (kp : Int) := ⟨keep.toNat, by omega⟩
 have h1 := World.block_lt_of_cell? w _ c1
 have h2 := World.block_lt_of_cell? w _ c2
 exact zip w.heap.size b l A C n c m d s kp g1 g2 w1 HN HL hmd ho (hr.keep hb) hle hb.size h1 h2 ((hb.cell (p := ⟨g1, 0, none⟩) h1).trans c1) ((hb.cell (p := ⟨g2, 5, none⟩) h2).trans c2)
theorem zg2 {D : DK} {k : Int} {full full' : Nat → Bool} {g d : Nat → AK → AK} (h : zaA D → full k.toNat = full' k.toNat) : zcW D k full g d = zcW D k full' g d := by
 unfold zcW
 by_cases hr : zaA D ∧ (k = 0 ∨ k = 1)
 ·rw [h hr.1]
 ·rw [if_pos hr, if_pos hr]
theorem zix (D : DK) (k : Int) (h : zaA D) : (fun _ => false) k.toNat = (fun j => decide (1048576 < (getA D j).b.length + 0)) k.toNat := by
 symm
 show decide (1048576 < (getA D k.toNat).b.length + 0) = false
 rw [decide_eq_false_iff_not]
 have h0 := h.1.2.2
 have h1 := h.2.1.2.2
 unfold getA
 split <;> omega
theorem zjs (x : WD) (D : DK) (k : Int) (b : List UInt8) (C : Option Addr) (m d : Nat) (w : World) (h : InD w x D) (HL : Hid (b.length = m)) (hmd : m ≤ d) (hr : Rd vB w C b) (hn0 : x.n0 ≤ 70368744177664) (hn1 : x.n1 ≤ 70368744177664) (hm : m ≤ 70368744177664) (hf : D.fuse ≤ 9223372036854775807) (hk : D.keep ≤ 9223372036854775807) :
  Calls Tryz.prog 106 #[aggD x D, .int .i64 k, .slice C m d] w (RetD w (zbf D k b).1 (zbf D k b).2) := by
 obtain ⟨hR0, hRb, hRr, hB⟩ := za8 w 27 22 27 [Value.slice x.A0 x.n0 x.c0, .int .i64 D.a0.s, .slice x.A1 x.n1 x.c1, .int .i64 D.a1.s, .int .i64 D.fuse, .int .i64 D.keep, .bool D.down] [.slice C m d] [.slice none 0 0, .int .i64 0, .slice none 0 0, .int .i64 0, .int .i64 0, .int .i64 0, .bool false] _ _ _ rfl rfl rfl
 have HW : Hid (zbf D k b = zbl D k m (fun a => ⟨a.b ++ b.take D.keep.toNat, a.s⟩) (fun a => ⟨a.b ++ b, a.s⟩)) := by
  unfold Hid
  rw [← HL.out]
  rfl
 rw [HW.out]
 clear HW
 obtain ⟨SO, HSO⟩ : ∃ SO, zbl D k m (fun a => ⟨a.b ++ b.take D.keep.toNat, a.s⟩) (fun a => ⟨a.b ++ b, a.s⟩) = SO := ⟨_, rfl⟩
 rw [HSO]
 replace HSO := Lib.hid HSO
 have HX := Lib.hid h
 clear h
 unfold aggD
 go_enter Tryz.func106, Tryz.ntmps106
 go_upto_region 1 with fail
 generalize ((w.alloc (.cells [Value.slice x.A0 x.n0 x.c0, .int .i64 D.a0.s, .slice x.A1 x.n1 x.c1, .int .i64 D.a1.s, .int .i64 D.fuse, .int .i64 D.keep, .bool D.down].toArray 27)).alloc (.cells [Value.slice C m d].toArray 22)).alloc (.cells [Value.slice none 0 0, .int .i64 0, .slice none 0 0, .int .i64 0, .int .i64 0, .int .i64 0, .bool false].toArray 27) = W at hR0 hRb hRr hB ⊢
 have c1 : W.cell? ⟨w.heap.size + 1, 0, none⟩ = some (.slice C m d) := hRb.cell rfl
 have c5 : W.cell? ⟨w.heap.size, 5, none⟩ = some (.int .i64 D.keep) := hR0.cell rfl
 replace HX := Lib.hid (HX.out.keep hB)
 have HRb := Lib.hid (hr.keep hB)
 have hlt := hRr.lt
 have HT := (zfd x D k m 147 149 #[.pointer (some ⟨w.heap.size + 1, 0, none⟩)] #[.pointer (some ⟨w.heap.size + 1, 0, none⟩), .pointer (some ⟨w.heap.size, 0, none⟩)] (fun a => ⟨a.b ++ b, a.s⟩) (fun a => ⟨a.b ++ b.take D.keep.toNat, a.s⟩) W HX.out hn0 hn1 hm hf hk
  (zkZ W b C m d (w.heap.size + 1) HL HRb.out c1)
  (fun hr' => zjr W b C m d (w.heap.size + 1) w.heap.size D.keep hr'.2.2.2 HL hmd HRb.out c1 c5)
  (fun a ha hle => ⟨ha.1, by have := ha.2.1; show a.s ≤ ((a.b ++ b.take D.keep.toNat).length : Int); rw [List.length_append]; omega, by show (a.b ++ b.take D.keep.toNat).length ≤ 1048576; rw [List.length_append, List.length_take]; have := HL.out; omega⟩))
 unfold aggD at HT
 rw [HSO.out] at HT
 replace HT := Lib.hid HT
 clear HSO
 clear c5 hRb
 go_wp2_with (refine zac rfl 27 (.tmp 3) rfl w.heap.size 0 rfl _ _ hR0 (zdi x D) (by rfl) _ Tryz.underlying27 rfl (by exact zaj) ?_)
 refine HT.out.mono ?_
 rintro e w2 ⟨y, rfl, hIn, hFr, hb⟩
 obtain ⟨DO, er⟩ := SO
 dsimp only at hIn hb ⊢
 replace hRr := hRr.later hb
 replace hB := zaa hB hb
 replace hFr := hFr.mono (show w.heap.size ≤ W.heap.size by omega)
 clear hb HT hR0 c1
 unfold aggD
 go_wp2_with (refine zab rfl 27 (.tmp 6) _ rfl (w.heap.size + 1 + 1) rfl (zdi y DO) rfl _ _ hRr (by exact zaj) rfl (za7 y DO) ?_)
 refine bodyPost_ret (zag (p := 6) (u := 7) (ty := 27) (by rfl) _ _ (w.heap.size + 1 + 1) 27 _ _ (by rfl) (by exact hRr.setRow _) Tryz.underlying27 (by rfl) (by exact zaj)) (by rfl) ?_
 exact ⟨y, rfl, hIn.no_byte hRr (zaC none 0 0 0 none 0 0 0 0 0 false) ((Only.refl _ _).setRow _), hFr, below_setRow hB (by omega) _⟩
theorem zk0 (x : WD) (D : DK) (k : Int) (w : World) (h : InD w x D) (hn0 : x.n0 ≤ 70368744177664) (hn1 : x.n1 ≤ 70368744177664) (hf : D.fuse ≤ 9223372036854775807) (hk : D.keep ≤ 9223372036854775807) :
  Calls Tryz.prog 109 #[aggD x D, .int .i64 k] w (RetD w (zda D k).1 (zda D k).2) := by
 obtain ⟨hR0, hRr, hB⟩ := zaB w 27 27 [Value.slice x.A0 x.n0 x.c0, .int .i64 D.a0.s, .slice x.A1 x.n1 x.c1, .int .i64 D.a1.s, .int .i64 D.fuse, .int .i64 D.keep, .bool D.down] [Value.slice none 0 0, .int .i64 0, .slice none 0 0, .int .i64 0, .int .i64 0, .int .i64 0, .bool false] _ _ rfl rfl
 have HW : Hid (zda D k = zbl D k 0 (fun a => a) (fun a => ⟨a.b, a.b.length⟩)) := by
  unfold Hid zda zbl
  exact zg2 (zix D k)
 rw [HW.out]
 clear HW
 obtain ⟨SO, HSO⟩ : ∃ SO, zbl D k 0 (fun a => a) (fun a => ⟨a.b, a.b.length⟩) = SO := ⟨_, rfl⟩
 rw [HSO]
 replace HSO := Lib.hid HSO
 have HX := Lib.hid h
 clear h
 unfold aggD
 go_enter Tryz.func109, Tryz.ntmps109
 go_upto_region 1 with fail
 generalize (w.alloc (.cells [Value.slice x.A0 x.n0 x.c0, .int .i64 D.a0.s, .slice x.A1 x.n1 x.c1, .int .i64 D.a1.s, .int .i64 D.fuse, .int .i64 D.keep, .bool D.down].toArray 27)).alloc (.cells [Value.slice none 0 0, .int .i64 0, .slice none 0 0, .int .i64 0, .int .i64 0, .int .i64 0, .bool false].toArray 27) = W at hR0 hRr hB ⊢
 replace HX := Lib.hid (HX.out.keep hB)
 have hlt := hRr.lt
 have HT := (zfd x D k 0 153 146 #[] #[] (fun a => ⟨a.b, a.b.length⟩) (fun a => a) W HX.out hn0 hn1 (by omega) hf hk (zjq W 0) (fun _ => zfu W 0) (fun a ha _ => ha))
 unfold aggD at HT
 rw [HSO.out] at HT
 replace HT := Lib.hid HT
 clear HSO
 go_wp2_with (refine zac rfl 27 (.tmp 2) rfl w.heap.size 0 rfl _ _ hR0 (zdi x D) (by rfl) _ Tryz.underlying27 rfl (by exact zaj) ?_)
 refine HT.out.mono ?_
 rintro e w2 ⟨y, rfl, hIn, hFr, hb⟩
 obtain ⟨DO, er⟩ := SO
 dsimp only at hIn hb ⊢
 replace hRr := hRr.later hb
 replace hB := zaa hB hb
 replace hFr := hFr.mono (show w.heap.size ≤ W.heap.size by omega)
 clear hb HT hR0
 unfold aggD
 go_wp2_with (refine zab rfl 27 (.tmp 4) _ rfl (w.heap.size + 1) rfl (zdi y DO) rfl _ _ hRr (by exact zaj) rfl (za7 y DO) ?_)
 refine bodyPost_ret (zag (p := 4) (u := 5) (ty := 27) (by rfl) _ _ (w.heap.size + 1) 27 _ _ (by rfl) (by exact hRr.setRow _) Tryz.underlying27 (by rfl) (by exact zaj)) (by rfl) ?_
 exact ⟨y, rfl, hIn.no_byte hRr (zaC none 0 0 0 none 0 0 0 0 0 false) ((Only.refl _ _).setRow _), hFr, below_setRow hB (by omega) _⟩
theorem zk1 (x : WD) (D : DK) (k : Int) (w : World) (h : InD w x D) (hn0 : x.n0 ≤ 70368744177664) (hn1 : x.n1 ≤ 70368744177664) (hf : D.fuse ≤ 9223372036854775807) (hk : D.keep ≤ 9223372036854775807) :
  Calls Tryz.prog 104 #[aggD x D, .int .i64 k] w (RetD w (zcE D k).1 (zcE D k).2) := by
 obtain ⟨hR0, hRr, hB⟩ := zaB w 27 27 [Value.slice x.A0 x.n0 x.c0, .int .i64 D.a0.s, .slice x.A1 x.n1 x.c1, .int .i64 D.a1.s, .int .i64 D.fuse, .int .i64 D.keep, .bool D.down] [Value.slice none 0 0, .int .i64 0, .slice none 0 0, .int .i64 0, .int .i64 0, .int .i64 0, .bool false] _ _ rfl rfl
 have HW : Hid (zcE D k = zbl D k 0 (fun a => a) (fun _ => ⟨[], 0⟩)) := by
  unfold Hid zcE zbl
  exact zg2 (zix D k)
 rw [HW.out]
 clear HW
 obtain ⟨SO, HSO⟩ : ∃ SO, zbl D k 0 (fun a => a) (fun _ => ⟨[], 0⟩) = SO := ⟨_, rfl⟩
 rw [HSO]
 replace HSO := Lib.hid HSO
 have HX := Lib.hid h
 clear h
 unfold aggD
 go_enter Tryz.func104, Tryz.ntmps104
 go_upto_region 1 with fail
 generalize (w.alloc (.cells [Value.slice x.A0 x.n0 x.c0, .int .i64 D.a0.s, .slice x.A1 x.n1 x.c1, .int .i64 D.a1.s, .int .i64 D.fuse, .int .i64 D.keep, .bool D.down].toArray 27)).alloc (.cells [Value.slice none 0 0, .int .i64 0, .slice none 0 0, .int .i64 0, .int .i64 0, .int .i64 0, .bool false].toArray 27) = W at hR0 hRr hB ⊢
 replace HX := Lib.hid (HX.out.keep hB)
 have hlt := hRr.lt
 have HT := (zfd x D k 0 145 146 #[] #[] (fun _ => ⟨[], 0⟩) (fun a => a) W HX.out hn0 hn1 (by omega) hf hk (zkY W 0) (fun _ => zfu W 0) (fun a ha _ => ha))
 unfold aggD at HT
 rw [HSO.out] at HT
 replace HT := Lib.hid HT
 clear HSO
 go_wp2_with (refine zac rfl 27 (.tmp 2) rfl w.heap.size 0 rfl _ _ hR0 (zdi x D) (by rfl) _ Tryz.underlying27 rfl (by exact zaj) ?_)
 refine HT.out.mono ?_
 rintro e w2 ⟨y, rfl, hIn, hFr, hb⟩
 obtain ⟨DO, er⟩ := SO
 dsimp only at hIn hb ⊢
 replace hRr := hRr.later hb
 replace hB := zaa hB hb
 replace hFr := hFr.mono (show w.heap.size ≤ W.heap.size by omega)
 clear hb HT hR0
 unfold aggD
 go_wp2_with (refine zab rfl 27 (.tmp 4) _ rfl (w.heap.size + 1) rfl (zdi y DO) rfl _ _ hRr (by exact zaj) rfl (za7 y DO) ?_)
 refine bodyPost_ret (zag (p := 4) (u := 5) (ty := 27) (by rfl) _ _ (w.heap.size + 1) 27 _ _ (by rfl) (by exact hRr.setRow _) Tryz.underlying27 (by rfl) (by exact zaj)) (by rfl) ?_
 exact ⟨y, rfl, hIn.no_byte hRr (zaC none 0 0 0 none 0 0 0 0 0 false) ((Only.refl _ _).setRow _), hFr, below_setRow hB (by omega) _⟩
theorem zk2 (x : WD) (D : DK) (w : World) (h : InD w x D) (hn0 : x.n0 ≤ 70368744177664) (hn1 : x.n1 ≤ 70368744177664) :
  Calls Tryz.prog 26 #[aggD x D] w (RetD w (zbL D).1 (zbL D).2) := by
 obtain ⟨hR0, hRr, hB⟩ := zaB w 27 27 [Value.slice x.A0 x.n0 x.c0, .int .i64 D.a0.s, .slice x.A1 x.n1 x.c1, .int .i64 D.a1.s, .int .i64 D.fuse, .int .i64 D.keep, .bool D.down] [Value.slice none 0 0, .int .i64 0, .slice none 0 0, .int .i64 0, .int .i64 0, .int .i64 0, .bool false] _ _ rfl rfl
 have HX := Lib.hid h
 clear h
 unfold aggD
 go_enter Tryz.func26, Tryz.ntmps26
 go_upto_region 1 with fail
 generalize (w.alloc (.cells [Value.slice x.A0 x.n0 x.c0, .int .i64 D.a0.s, .slice x.A1 x.n1 x.c1, .int .i64 D.a1.s, .int .i64 D.fuse, .int .i64 D.keep, .bool D.down].toArray 27)).alloc (.cells [Value.slice none 0 0, .int .i64 0, .slice none 0 0, .int .i64 0, .int .i64 0, .int .i64 0, .bool false].toArray 27) = W at hR0 hRr hB ⊢
 replace HX := Lib.hid (HX.out.keep hB)
 have hlt := hRr.lt
 have HO := Lib.hid (zeM x D W HX.out hn0 hn1)
 unfold aggD at HO
 go_wp2_with (refine zac rfl 27 (.tmp 1) rfl w.heap.size 0 rfl _ _ hR0 [Value.slice x.A0 x.n0 x.c0, .int .i64 D.a0.s, .slice x.A1 x.n1 x.c1, .int .i64 D.a1.s, .int .i64 D.fuse, .int .i64 D.keep, .bool D.down] (by rfl) _ Tryz.underlying27 rfl (by exact zaj) ?_)
 refine HO.out.mono ?_
 rintro e w1 ⟨y, rfl, L0, hd0, L1, hd1, ho0, ho1, hap, hb1⟩
 unfold aggD
 replace hR0 := hR0.later hb1
 replace hRr := hRr.later hb1
 replace hB := zaa hB hb1
 have hsz := hb1.size
 obtain ⟨hIn, hFr⟩ := zko (x := y) (D := D) ho0 ho1
 replace hFr := hFr.mono (show w.heap.size ≤ W.heap.size by omega)
 clear hb1 HX HO ho0 ho1 hap
 go_upto_region 2 with (refine zab rfl 27 (.tmp 1) (.tmp 5) rfl w.heap.size rfl [Value.slice y.A0 y.n0 y.c0, .int .i64 D.a0.s, .slice y.A1 y.n1 y.c1, .int .i64 D.a1.s, .int .i64 D.fuse, .int .i64 D.keep, .bool D.down] rfl _ _ hR0 (by exact zaj) rfl (za7 y D) ?_)
 have hR1 : Row (w1.setRow w.heap.size [Value.slice y.A0 y.n0 y.c0, .int .i64 D.a0.s, .slice y.A1 y.n1 y.c1, .int .i64 D.a1.s, .int .i64 D.fuse, .int .i64 D.keep, .bool D.down].toArray) w.heap.size 27 [Value.slice y.A0 y.n0 y.c0, .int .i64 D.a0.s, .slice y.A1 y.n1 y.c1, .int .i64 D.a1.s, .int .i64 D.fuse, .int .i64 D.keep, .bool D.down] := hR0.setRow _
 replace hIn := hIn.no_byte hR0 (zeL x D) ((Only.refl _ w1).setRow [Value.slice y.A0 y.n0 y.c0, .int .i64 D.a0.s, .slice y.A1 y.n1 y.c1, .int .i64 D.a1.s, .int .i64 D.fuse, .int .i64 D.keep, .bool D.down].toArray)
 replace hRr := hRr.setRow_other (show w.heap.size + 1 ≠ w.heap.size by omega) [Value.slice y.A0 y.n0 y.c0, .int .i64 D.a0.s, .slice y.A1 y.n1 y.c1, .int .i64 D.a1.s, .int .i64 D.fuse, .int .i64 D.keep, .bool D.down].toArray
 replace hB := below_setRow hB (Nat.le_refl _) [Value.slice y.A0 y.n0 y.c0, .int .i64 D.a0.s, .slice y.A1 y.n1 y.c1, .int .i64 D.a1.s, .int .i64 D.fuse, .int .i64 D.keep, .bool D.down].toArray
 clear hR0
 generalize w1.setRow w.heap.size [Value.slice y.A0 y.n0 y.c0, .int .i64 D.a0.s, .slice y.A1 y.n1 y.c1, .int .i64 D.a1.s, .int .i64 D.fuse, .int .i64 D.keep, .bool D.down].toArray = W1 at hR1 hIn hRr hB ⊢
 have HRT := Lib.hid (zdx y D W1 hIn)
 unfold aggD at HRT
 go_wp2_with (refine zac rfl 27 (.tmp 1) rfl w.heap.size 0 rfl _ _ hR1 [Value.slice y.A0 y.n0 y.c0, .int .i64 D.a0.s, .slice y.A1 y.n1 y.c1, .int .i64 D.a1.s, .int .i64 D.fuse, .int .i64 D.keep, .bool D.down] (by rfl) _ Tryz.underlying27 rfl (by exact zaj) ?_)
 refine HRT.out.mono ?_
 rintro e w2 ⟨rfl, hb2⟩
 replace hIn := hIn.keep hb2
 have hR0 := hR1.later hb2
 replace hRr := hRr.later hb2
 replace hB := zaa hB hb2
 clear hb2 hR1 HRT
 have c6 : w2.cell? ⟨w.heap.size, 6, none⟩ = some (.bool D.down) := hR0.cell rfl
 by_cases hright : zaA D
 ·rw [decide_eq_true hright]
  by_cases hd : D.down = true
  ·have HST : Hid (zbL D = ({ D with down := false }, 0)) := by unfold Hid zbL; rw [if_neg (fun hn => hn ⟨hright, hd⟩)]
   rw [hd] at c6
   clear hd hright
   have f6 := hR0.frozen 6
   have hR2 : Row (w2.setCell ⟨w.heap.size, 6, none⟩ (.bool false)) w.heap.size 27 [Value.slice y.A0 y.n0 y.c0, .int .i64 D.a0.s, .slice y.A1 y.n1 y.c1, .int .i64 D.a1.s, .int .i64 D.fuse, .int .i64 D.keep, .bool false] := hR0.setCell 6 _
   have hO : Only w.heap.size w2 (w2.setCell ⟨w.heap.size, 6, none⟩ (.bool false)) := (Only.refl _ w2).setCell 6 _
   go_upto_region 5 with fail
   replace hIn := hIn.no_byte hR0 (zeL y D) hO
   replace hRr := hRr.setCell_other (p := ⟨w.heap.size, 6, none⟩) (show w.heap.size + 1 ≠ w.heap.size by omega) (.bool false)
   replace hB := hB.trans hO.below
   clear hR0 c6 f6 hO
   generalize w2.setCell ⟨w.heap.size, 6, none⟩ (.bool false) = w3 at hR2 hIn hRr hB ⊢
   go_wp2_with (first | (refine zac rfl 27 (.tmp 1) rfl w.heap.size 0 rfl _ _ hR2 [Value.slice y.A0 y.n0 y.c0, .int .i64 D.a0.s, .slice y.A1 y.n1 y.c1, .int .i64 D.a1.s, .int .i64 D.fuse, .int .i64 D.keep, .bool false] (by rfl) _ Tryz.underlying27 rfl (by exact zaj) ?_) | (refine zab rfl 27 (.tmp 2) _ rfl (w.heap.size + 1) rfl [Value.slice y.A0 y.n0 y.c0, .int .i64 D.a0.s, .slice y.A1 y.n1 y.c1, .int .i64 D.a1.s, .int .i64 D.fuse, .int .i64 D.keep, .bool false] rfl _ _ hRr (by exact zaj) rfl (za7 y { D with down := false }) ?_))
   refine bodyPost_ret (zag (p := 2) (u := 3) (ty := 27) (by rfl) _ _ (w.heap.size + 1) 27 _ _ (by rfl) (by exact hRr.setRow _) Tryz.underlying27 (by rfl) (by exact zaj)) (by rfl) ?_
   rw [HST.out]
   have hIn5 : InD w3 y { D with down := false } := ⟨hIn.l0, hIn.h0, hIn.r0, hIn.l1, hIn.h1, hIn.r1⟩
   exact ⟨y, rfl, hIn5.no_byte hRr (zaC none 0 0 0 none 0 0 0 0 0 false) ((Only.refl _ _).setRow _), hFr, below_setRow hB (by omega) _⟩
  ·have HST : Hid (zbL D = (D, 1)) := by unfold Hid zbL; rw [if_pos (fun hn => hd hn.2)]
   rw [Bool.not_eq_true] at hd
   rw [hd] at c6
   clear hd hright
   go_wp2_with (first | (refine zac rfl 27 (.tmp 1) rfl w.heap.size 0 rfl _ _ hR0 [Value.slice y.A0 y.n0 y.c0, .int .i64 D.a0.s, .slice y.A1 y.n1 y.c1, .int .i64 D.a1.s, .int .i64 D.fuse, .int .i64 D.keep, .bool D.down] (by rfl) _ Tryz.underlying27 rfl (by exact zaj) ?_) | (refine zab rfl 27 (.tmp 2) _ rfl (w.heap.size + 1) rfl [Value.slice y.A0 y.n0 y.c0, .int .i64 D.a0.s, .slice y.A1 y.n1 y.c1, .int .i64 D.a1.s, .int .i64 D.fuse, .int .i64 D.keep, .bool D.down] rfl _ _ hRr (by exact zaj) rfl (za7 y D) ?_))
   refine bodyPost_ret (zag (p := 2) (u := 3) (ty := 27) (by rfl) _ _ (w.heap.size + 1) 27 _ _ (by rfl) (by exact hRr.setRow _) Tryz.underlying27 (by rfl) (by exact zaj)) (by rfl) ?_
   rw [HST.out]
   exact ⟨y, rfl, hIn.no_byte hRr (zaC none 0 0 0 none 0 0 0 0 0 false) ((Only.refl _ _).setRow _), hFr, below_setRow hB (by omega) _⟩
 ·have HST : Hid (zbL D = (D, 1)) := by unfold Hid zbL; rw [if_pos (fun hn => hright hn.1)]
  rw [decide_eq_false hright]
  clear hright
  go_wp2_with (first | (refine zac rfl 27 (.tmp 1) rfl w.heap.size 0 rfl _ _ hR0 [Value.slice y.A0 y.n0 y.c0, .int .i64 D.a0.s, .slice y.A1 y.n1 y.c1, .int .i64 D.a1.s, .int .i64 D.fuse, .int .i64 D.keep, .bool D.down] (by rfl) _ Tryz.underlying27 rfl (by exact zaj) ?_) | (refine zab rfl 27 (.tmp 2) _ rfl (w.heap.size + 1) rfl [Value.slice y.A0 y.n0 y.c0, .int .i64 D.a0.s, .slice y.A1 y.n1 y.c1, .int .i64 D.a1.s, .int .i64 D.fuse, .int .i64 D.keep, .bool D.down] rfl _ _ hRr (by exact zaj) rfl (za7 y D) ?_))
  refine bodyPost_ret (zag (p := 2) (u := 3) (ty := 27) (by rfl) _ _ (w.heap.size + 1) 27 _ _ (by rfl) (by exact hRr.setRow _) Tryz.underlying27 (by rfl) (by exact zaj)) (by rfl) ?_
  rw [HST.out]
  exact ⟨y, rfl, hIn.no_byte hRr (zaC none 0 0 0 none 0 0 0 0 0 false) ((Only.refl _ _).setRow _), hFr, below_setRow hB (by omega) _⟩
end Go.Proofs.YteljklkgdejhpaaGreatDoor
