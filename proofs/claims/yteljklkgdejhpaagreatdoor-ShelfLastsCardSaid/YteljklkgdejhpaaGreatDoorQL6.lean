/-
  Entries in memory: a slice of structs of two numbers and a byte slice read as a list; bundles. No conditions but those typed.
-/
import Derived.Test.YteljklkgdejhpaaGreatDoorQL5
import Derived.Lib.AppendZeros
import Derived.WalkKit
import Derived.Deep.DeepCutAuto
import Derived.Laws.StructEq
import Derived.RangeFuncNested
import Derived.RangeFuncBound
import Derived.RangeFuncCalls
import Derived.RangeFuncLeaves
import Derived.Shelf.Abstract
import Derived.Shelf.RegionOpen
import Derived.OwnWalkIn
import Derived.TacticsInMore
import Derived.LoopNIn
import Derived.LoopIn
import Derived.StillTailTactics
import Derived.OrdersIn
import Derived.TacticsIn
import Derived.Lib.SmallJoins
import Derived.Lib.SlBytesConst
import Derived.ProofKit
import Derived.OpenShut
import Derived.Deep.Slices
import Derived.Deep.Strs
import Derived.Test.YteljklkgdejhpaaGreatDoorRows
set_option linter.unusedSimpArgs false
set_option linter.unusedVariables false
set_option maxRecDepth 100000
set_option maxHeartbeats 4000000
namespace Go.Proofs.YteljklkgdejhpaaGreatDoor
open Go.RowKit
structure ED where
 t : Nat
 e : Nat
 A : Option Addr
 c : Nat
 s : List UInt8
def ED.at2 (x : ED) : Value := .slice x.A x.s.length x.c
def ED.cells (x : ED) : List Value := [vNG x.t, vNG x.e, x.at2]
def ED.con (x : ED) : En := (x.t, x.e, x.s)
def ED.ok (w : World) (x : ED) : Prop := x.s.length ≤ x.c ∧ Rd vB w x.A x.s
def zbc (xs : List ED) : List Value := xs.flatMap ED.cells
def conE (xs : List ED) : List En := xs.map ED.con
def RdE (w : World) (A : Option Addr) (xs : List ED) : Prop :=
 xs ≠ [] → ∃ b o, A = some ⟨b, o, none⟩ ∧ ∀ i (h : i < xs.length), w.cell? ⟨b, o + i * 3, none⟩ = some (vNG xs[i].t) ∧ w.cell? ⟨b, o + i * 3 + 1, none⟩ = some (vNG xs[i].e) ∧ w.cell? ⟨b, o + i * 3 + 2, none⟩ = some xs[i].at2
def okD (w : World) (xs : List ED) : Prop := ∀ x ∈ xs, x.ok w
theorem zaF (xs : List ED) : (conE xs).length = xs.length := by simp [conE]
theorem zcj (xs : List ED) (i : Nat) (h : i < xs.length) : (conE xs)[i]'(by rw [zaF]; exact h) = xs[i].con := by simp [conE]
theorem zgg (xs : List ED) (x : ED) : conE (xs ++ [x]) = conE xs ++ [x.con] := by simp [conE]
theorem zjH (xs : List ED) (x : ED) : zbc (xs ++ [x]) = zbc xs ++ x.cells := by simp [zbc]
theorem zbJ : ∀ xs : List ED, (zbc xs).length = xs.length * 3
 | [] => rfl
 | x :: xs => by
  have := zbJ xs
  unfold zbc at *
  rw [List.flatMap_cons, List.length_append, this, List.length_cons]
  simp [ED.cells]
  omega
theorem zed : ∀ (xs : List ED) (i : Nat) (h : i < xs.length), (zbc xs)[i * 3]? = some (vNG xs[i].t) ∧ (zbc xs)[i * 3 + 1]? = some (vNG xs[i].e) ∧ (zbc xs)[i * 3 + 2]? = some xs[i].at2
 | x :: xs, 0, _ => ⟨rfl, rfl, rfl⟩
 | x :: xs, i + 1, h => by
  have ih := zed xs i (by simpa using h)
  have e : zbc (x :: xs) = vNG x.t :: vNG x.e :: x.at2 :: zbc xs := rfl
  rw [e, show (i + 1) * 3 = i * 3 + 1 + 1 + 1 by omega]
  simp only [List.getElem?_cons_succ]
  exact ih
theorem zla : ∀ (xs : List ED), ∀ u ∈ zbc xs, u.oneCell' = true := fun xs u hu => by
 obtain ⟨x, _, hx⟩ := List.mem_flatMap.1 hu
 simp [ED.cells, vNG, ED.at2] at hx
 rcases hx with rfl | rfl | rfl <;> rfl
theorem ED.ok.keep {w w' : World} {x : ED} (h : x.ok w) (hb : Below w.heap.size w w') : x.ok w' := ⟨h.1, h.2.keep hb⟩
theorem okD.keep {w w' : World} {xs : List ED} (h : okD w xs) (hb : Below w.heap.size w w') : okD w' xs := fun x hx => (h x hx).keep hb
theorem okD.app {w : World} {xs ys : List ED} (h : okD w xs) (k : okD w ys) : okD w (xs ++ ys) := fun x hx => (List.mem_append.1 hx).elim (h x) (k x)
theorem okD.nil (w : World) : okD w [] := fun x hx => by cases hx
section
variable {w w' : World} {A : Option Addr} {xs : List ED}
theorem RdE.nil : RdE w A [] := fun h => absurd rfl h
theorem RdE.at (h : RdE w A xs) {k : Nat} (hk : k < xs.length) : ∃ b o, A = some ⟨b, o, none⟩ ∧ b < w.heap.size ∧ ∀ i (h : i < xs.length), w.cell? ⟨b, o + i * 3, none⟩ = some (vNG xs[i].t) ∧ w.cell? ⟨b, o + i * 3 + 1, none⟩ = some (vNG xs[i].e) ∧ w.cell? ⟨b, o + i * 3 + 2, none⟩ = some xs[i].at2 := by
 obtain ⟨b, o, e, hc⟩ := h (by rintro rfl; simp at hk)
 exact ⟨b, o, e, World.block_lt_of_cell? w _ (hc k hk).1, hc⟩
theorem RdE.keep (h : RdE w A xs) (hb : Below w.heap.size w w') : RdE w' A xs := fun hn => by
 obtain ⟨b, o, e, hc⟩ := h hn
 refine ⟨b, o, e, fun i hi => ?_⟩
 obtain ⟨h0, h1, h2⟩ := hc i hi
 have hlt := World.block_lt_of_cell? w _ h0
 exact ⟨(hb.cell (p := ⟨b, o + i * 3, none⟩) hlt).trans h0, (hb.cell (p := ⟨b, o + i * 3 + 1, none⟩) hlt).trans h1, (hb.cell (p := ⟨b, o + i * 3 + 2, none⟩) hlt).trans h2⟩
theorem RdE.range {b o : Nat} (h : RdE w (some ⟨b, o, none⟩) xs) : ∀ j u, (zbc xs)[j]? = some u → w.cell? ((⟨b, o, none⟩ : Addr).add j) = some u := fun j u hu => by
 have hj : j < xs.length * 3 := by
  rw [← zbJ]
  exact (List.getElem?_eq_some_iff.1 hu).1
 have hi : j / 3 < xs.length := by omega
 obtain ⟨b', o', e, hc⟩ := h (by rintro rfl; simp at hi)
 injection e with e
 injection e with e1 e2 _
 subst e1 e2
 obtain ⟨h0, h1, h2⟩ := hc (j / 3) hi
 obtain ⟨g0, g1, g2⟩ := zed xs (j / 3) hi
 have e1 : (⟨b, o, none⟩ : Addr).add j = ⟨b, o + j, none⟩ := by unfold Addr.add; split <;> simp_all
 rw [e1]
 rcases (by omega : j % 3 = 0 ∨ j % 3 = 1 ∨ j % 3 = 2) with hp | hp | hp
 ·have e2 : j / 3 * 3 = j := by omega
  rw [e2] at h0 g0
  rw [h0, ← g0, hu]
 ·have e2 : j / 3 * 3 + 1 = j := by omega
  rw [Nat.add_assoc, e2] at h1
  rw [e2] at g1
  rw [h1, ← g1, hu]
 ·have e2 : j / 3 * 3 + 2 = j := by omega
  rw [Nat.add_assoc, e2] at h2
  rw [e2] at g2
  rw [h2, ← g2, hu]
theorem RdE.one (h : RdE w A xs) {k : Nat} (hk : k < xs.length) : ∃ b o, A = some ⟨b, o, none⟩ ∧ b < w.heap.size ∧ w.rangeAt b (o + k * 3) xs[k].cells ∧ w.cell? ⟨b, o + k * 3, none⟩ = some (vNG xs[k].t) ∧ w.cell? ⟨b, o + k * 3 + 1, none⟩ = some (vNG xs[k].e) ∧ w.cell? ⟨b, o + k * 3 + 2, none⟩ = some xs[k].at2 := by
 obtain ⟨b, o, e, hb, hc⟩ := h.at hk
 obtain ⟨h0, h1, h2⟩ := hc k hk
 refine ⟨b, o, e, hb, fun j u hu => ?_, h0, h1, h2⟩
 match j, hu with
 | 0, hu => injection hu with hu; subst hu; exact h0
 | 1, hu => injection hu with hu; subst hu; exact h1
 | 2, hu => injection hu with hu; subst hu; exact h2
theorem RdE.own {base : Nat} {e : TypeId} {n c : Nat} (h : w.ownsRow base e 3 (.slice A n c) n (zbc xs)) : RdE w A xs := fun hn => by
 have hl : xs.length = n := by
  have := h.1
  rw [zbJ] at this
  omega
 have hpos : 0 < n := by
  rcases Nat.eq_zero_or_pos n with h0 | h0
  ·exact absurd (List.eq_nil_of_length_eq_zero (by omega)) hn
  ·exact h0
 obtain ⟨g, cap, hv, _, hlt⟩ := h.form hpos
 have hA : A = some ⟨g, 0, none⟩ := by injection hv
 subst hA
 refine ⟨g, 0, rfl, fun i hi => ?_⟩
 obtain ⟨g0, g1, g2⟩ := zed xs i hi
 have h0 := h.cells (g := g) rfl _ _ g0
 have h1 := h.cells (g := g) rfl _ _ g1
 have h2 := h.cells (g := g) rfl _ _ g2
 have e1 : ∀ j, (⟨g, 0, none⟩ : Addr).add j = ⟨g, 0 + j, none⟩ := fun j => by unfold Addr.add; split <;> simp_all
 rw [e1] at h0 h1 h2
 exact ⟨h0, h1, h2⟩
theorem zeV {base : Nat} {e : TypeId} {v : Value} {n : Nat} {ys : List Value} (h : w.ownsRow base e 3 v n ys) : ∃ A cap, v = .slice A n cap ∧ n ≤ cap := by
 rcases h.2 with ⟨rfl, rfl⟩ | ⟨g, cap, cur, rfl, _, _, hc, _⟩
 ·exact ⟨none, 0, rfl, Nat.le_refl _⟩
 ·exact ⟨_, cap, rfl, hc⟩
theorem zdB {base : Nat} {e : TypeId} {v : Value} {n : Nat} {ys : List Value} (h : w.ownsRow base e 3 v n ys) (hh : ∀ b, base ≤ b → b < w.heap.size → w'.heap[b]? = w.heap[b]?) : w'.ownsRow base e 3 v n ys := by
 refine ⟨h.1, ?_⟩
 rcases h.2 with h0 | ⟨g, cap, cur, hv, hg, hc, r⟩
 ·exact .inl h0
 ·exact .inr ⟨g, cap, cur, hv, hg, (hh g hg (Array.getElem?_eq_some_iff.1 hc).1).trans hc, r⟩
theorem zem {base : Nat} {e : TypeId} {v : Value} {n : Nat} {ys : List Value} (h : w.ownsRow base e 3 v n ys) (hb : Below w.heap.size w w') : w'.ownsRow base e 3 v n ys := zdB h (fun b _ hb' => hb.block b hb')
end
theorem ED.one (x : ED) : ∀ v ∈ x.cells, v.oneCell' = true := fun v hv => by
 simp [ED.cells, vNG, ED.at2] at hv
 rcases hv with rfl | rfl | rfl <;> rfl
def ordG (a b : Gn) : Int := if cmpN a.1 b.1 ≠ 0 then cmpN a.1 b.1 else cmpN a.2 b.2
theorem zpj (a b : Gn) : ordG a b < 0 ↔ ltG a b = true := by
 rw [zl7]
 unfold ordG cmpN
 split <;> (try split at *) <;> (try split at *) <;> (try split at *) <;> (try split at *) <;> omega
theorem zpQ (x y : Int) (g : Nat) (w : World) (t : TypeId) (hR : Row w g t [.int .i64 x, .int .i64 y]) : Calls Tryz.prog 121 #[.slice (some ⟨g, 0, none⟩) 2 2] w fun e w' => e = .returned (.int .i64 (if x ≠ 0 then x else y)) ∧ w = w' := by
 have c0 := hR.cell (i := 0) rfl
 have c1 := hR.cell (i := 1) rfl
 by_cases hx : x = 0
 ·subst hx
  by_cases hy : y = 0
  ·subst hy
   go_enter Tryz.func121, Tryz.ntmps121
   go_wp2_with fail
   refine wp_loop_rounds 3 ?_
   iterate 3 (rw [rounds_succ]; go_wp2)
   go_ret
   exact ⟨rfl, rfl⟩
  ·go_enter Tryz.func121, Tryz.ntmps121
   go_wp2_with fail
   refine wp_loop_rounds 3 ?_
   iterate 2 (rw [rounds_succ]; go_wp2)
   go_ret
   exact ⟨rfl, rfl⟩
 ·go_enter Tryz.func121, Tryz.ntmps121
  go_wp2_with fail
  refine wp_loop_rounds 3 ?_
  rw [rounds_succ]
  go_wp2
  go_ret
  exact ⟨by simp [hx], rfl⟩
theorem zmP (a b : Gn) (w : World) (ha : a.1 < 18446744073709551616 ∧ a.2 < 18446744073709551616) (hb : b.1 < 18446744073709551616 ∧ b.2 < 18446744073709551616) : Calls Tryz.prog 118 #[aggG a, aggG b] w fun e w' => e = .returned (.int .i64 (ordG a b)) ∧ Below w.heap.size w w' := by
 obtain ⟨a1, a2⟩ := a
 obtain ⟨b1, b2⟩ := b
 obtain ⟨ha1, ha2⟩ := ha
 obtain ⟨hb1, hb2⟩ := hb
 dsimp only at ha1 ha2 hb1 hb2
 obtain ⟨r, hr⟩ : ∃ r, ordG (a1, a2) (b1, b2) = r := ⟨_, rfl⟩
 rw [hr]
 have HX := Lib.hid hr
 clear hr
 unfold ordG at HX
 unfold aggG vNG
 dsimp only at HX ⊢
 go_enter Tryz.func118, Tryz.ntmps118
 go_wp2_with fail
 have hR0 : Row (w.alloc (.cells #[.int .u64 (a1 : Int), .int .u64 (a2 : Int)] 148)) w.heap.size 148 [.int .u64 (a1 : Int), .int .u64 (a2 : Int)] := Row.new w _ _ _ rfl
 have hR1 : Row ((w.alloc (.cells #[.int .u64 (a1 : Int), .int .u64 (a2 : Int)] 148)).alloc (.cells #[.int .u64 (b1 : Int), .int .u64 (b2 : Int)] 148)) (w.heap.size + 1) 148 [.int .u64 (b1 : Int), .int .u64 (b2 : Int)] := Row.new_at _ _ (by simp) _ _ _ rfl
 replace hR0 := hR0.alloc (.cells #[.int .u64 (b1 : Int), .int .u64 (b2 : Int)] 148)
 have hB : Below w.heap.size w ((w.alloc (.cells #[.int .u64 (a1 : Int), .int .u64 (a2 : Int)] 148)).alloc (.cells #[.int .u64 (b1 : Int), .int .u64 (b2 : Int)] 148)) := zak (zak (Below.refl _ _) _) _
 generalize (w.alloc (.cells #[.int .u64 (a1 : Int), .int .u64 (a2 : Int)] 148)).alloc (.cells #[.int .u64 (b1 : Int), .int .u64 (b2 : Int)] 148) = w3 at hR0 hR1 hB ⊢
 have c0 : ∀ W, Below w3.heap.size w3 W → W.cell? ⟨w.heap.size, 0, none⟩ = some (.int .u64 (a1 : Int)) := fun W hW => (hR0.later hW).cell rfl
 have c1 : ∀ W, Below w3.heap.size w3 W → W.cell? ⟨w.heap.size, 1, none⟩ = some (.int .u64 (a2 : Int)) := fun W hW => (hR0.later hW).cell rfl
 have c2 : ∀ W, Below w3.heap.size w3 W → W.cell? ⟨w.heap.size + 1, 0, none⟩ = some (.int .u64 (b1 : Int)) := fun W hW => (hR1.later hW).cell rfl
 have c3 : ∀ W, Below w3.heap.size w3 W → W.cell? ⟨w.heap.size + 1, 1, none⟩ = some (.int .u64 (b2 : Int)) := fun W hW => (hR1.later hW).cell rfl
 have hBase := (Below.refl w3.heap.size w3).drew
 refine zaw (.step 0 false (.step 1 false (.step 2 false (.step 3 false (.step 5 false (.step 6 false (.step 7 false (.step 8 false (.step 4 true (.step 9 true (.step 10 true (.step 11 true (.step 12 false (.nil)))))))))))))) (by kernel_rfl) (by kernel_rfl) (by rfl) (by kernel_rfl) ?_
 iterate 8 (refine zae rfl (by rfl) (v := ?_) ?_ ?_; rotate_left 1; (intro W hW; have hW0 := zaa hBase hW; (try dsimp only at hW); go_simp <;> with_reducible rfl); simp only [List.getElem_toArray, List.getElem_cons_zero, List.getElem_cons_succ, Act.put, List.setIfInBounds_toArray, List.set_cons_zero, List.set_cons_succ])
 (refine zaI rfl (by rfl) (fun K hK => ?_); go_simp; (refine (zf6 a1 b1 _ ha1 hb1).mono ?_; rintro e₁ w4 ⟨rfl, rfl⟩; have hbx := Below.refl w3.drew.heap.size w3.drew); refine hK.out _ _ hbx ?_; clear hK K; replace hBase := zaa hBase hbx)
 (refine zaI rfl (by rfl) (fun K hK => ?_); go_simp; (refine (zf6 a2 b2 _ ha2 hb2).mono ?_; rintro e₁ w4 ⟨rfl, rfl⟩; have hbx := Below.refl w3.drew.heap.size w3.drew); refine hK.out _ _ hbx ?_; clear hK K; replace hBase := zaa hBase hbx)
 generalize cmpN a1 b1 = x at HX ⊢
 generalize cmpN a2 b2 = y at HX ⊢
 have hR2 := Row.new w3.drew 3 [.int .i64 x, .int .i64 y] _ rfl
 (refine zaI rfl (by rfl) (fun K hK => ?_); go_simp; (have hbx := zak (Below.refl _ w3.drew) (.cells #[.int .i64 x, .int .i64 y] 3)); refine hK.out _ _ hbx ?_; clear hK K; replace hBase := zaa hBase hbx)
 have hor := zpQ x y _ _ _ hR2
 rw [HX.out] at hor
 (refine zaI rfl (by rfl) (fun K hK => ?_); go_simp; (refine hor.mono ?_; clear hor; rintro e₁ w4 ⟨rfl, rfl⟩; have hbx := Below.refl (w3.drew.alloc (.cells #[.int .i64 x, .int .i64 y] 3)).heap.size (w3.drew.alloc (.cells #[.int .i64 x, .int .i64 y] 3))); refine hK.out _ _ hbx ?_; clear hK K; replace hBase := zaa hBase hbx)
 iterate 1 (refine zae rfl (by rfl) (v := ?_) ?_ ?_; rotate_left 1; (intro W hW; have hW0 := zaa hBase hW; (try dsimp only at hW); go_simp <;> with_reducible rfl); simp only [List.getElem_toArray, List.getElem_cons_zero, List.getElem_cons_succ, Act.put, List.setIfInBounds_toArray, List.set_cons_zero, List.set_cons_succ])
 refine zal ?_
 go_wp2_with fail
 go_ret
 exact ⟨rfl, zaa hB hBase⟩
theorem zjI : ∀ l : List Gn, zek l = true ↔ ∀ k (h : k + 1 < l.length), ltG l[k] l[k + 1] = true
 | [] => by simp [zek]
 | [a] => by simp [zek]
 | a :: b :: l => by
  have ih := zjI (b :: l)
  unfold zek
  rw [Bool.and_eq_true, ih]
  constructor
  ·rintro ⟨h1, h2⟩ k hk
   cases k with
   | zero => exact h1
   | succ k => exact h2 k (by simpa using hk)
  ·intro h
   exact ⟨h 0 (by simp), fun k hk => h (k + 1) (by simpa using hk)⟩
abbrev fitN (g : Gn) : Prop := g.1 < 18446744073709551616 ∧ g.2 < 18446744073709551616
theorem zmQ (l : List Gn) (n c : Nat) (A : Option Addr) (w : World) (HN : Hid (l.length = n)) (hr : RdG w A l) (HF : Hid (fitG l)) (hn : n ≤ 1000000000) :
  Calls Tryz.prog 117 #[.slice A n c, .func (.func 118) #[] #[]] w fun e w' => e = .returned (.bool (zek l)) ∧ Below w.heap.size w w' := by
 go_enter Tryz.func117, Tryz.ntmps117
 go_wp2_with fail
 go_loopw [5] (fun i wr => (∃ k : Nat, 1 ≤ k ∧ i = .int .i64 (k : Int) ∧ k ≤ max 1 n ∧ ∀ j (h : j + 1 < l.length), j + 1 < k → ltG l[j] l[j + 1] = true) ∧ Below w.heap.size w wr) (fun i _ => n - (intOf i).toNat)
 case atStart => exact ⟨⟨1, Nat.le_refl _, rfl, by omega, fun j _ hj => by omega⟩, Below.refl _ _⟩
 case round =>
  obtain ⟨⟨k, hk1, rfl, hk2, hs⟩, hB⟩ := hrel
  by_cases hlt : k < n
  ·obtain ⟨m, hm⟩ : ∃ m, m = k - 1 := ⟨_, rfl⟩
   have hw : IntKind.i64.wrap ((k : Int) - 1) = (m : Int) := by rw [IntKind.wrap_i64]; omega
   have hlen := HN.out
   have hka : k - 1 < l.length := by omega
   have hkb : k < l.length := by omega
   obtain ⟨b, o, rfl, hb, hcell⟩ := hr.at hkb
   obtain ⟨p0, p1⟩ := hcell (k - 1) hka
   obtain ⟨q0, q1⟩ := hcell k hkb
   have HP : Hid (fitN l[k - 1]) := HF.out _ (List.getElem_mem hka)
   have HQ : Hid (fitN l[k]) := HF.out _ (List.getElem_mem hkb)
   have HS : Hid (∀ j (h : j + 1 < l.length), j + 1 < k + 1 → (ltG l[k - 1] l[k] = true → ltG l[j] l[j + 1] = true)) := by
    intro j hj hjk h
    by_cases e : j + 1 = k
    ·subst e
     exact h
    ·exact hs j hj (by omega)
   have HE : Hid (ltG l[k - 1] l[k] = false → zek l = false) := by
    intro h
    rw [Bool.eq_false_iff]
    intro h2
    have h3 := (zjI l).1 h2 (k - 1) (by omega)
    have e : k - 1 + 1 = k := by omega
    simp only [e] at h3
    rw [h] at h3
    cases h3
   generalize l[k - 1] = x at p0 p1 HP HS HE
   generalize l[k] = y at q0 q1 HQ HS HE
   obtain ⟨x0, x1⟩ := x
   obtain ⟨y0, y1⟩ := y
   rw [← hm] at p0 p1
   have HM := Lib.hid hm
   unfold vNG at p0 p1 q0 q1
   dsimp only at p0 p1 q0 q1
   have d0 : ∀ W, Below wr.heap.size wr W → W.cell? ⟨b, o + m * 2, none⟩ = some (.int .u64 (x0 : Int)) := fun W hW => ((hB.trans (hW.mono hB.size)).cell (p := ⟨b, o + m * 2, none⟩) hb).trans p0
   have d1 : ∀ W, Below wr.heap.size wr W → W.cell? ⟨b, o + m * 2 + 1, none⟩ = some (.int .u64 (x1 : Int)) := fun W hW => ((hB.trans (hW.mono hB.size)).cell (p := ⟨b, o + m * 2 + 1, none⟩) hb).trans p1
   have d2 : ∀ W, Below wr.heap.size wr W → W.cell? ⟨b, o + k * 2, none⟩ = some (.int .u64 (y0 : Int)) := fun W hW => ((hB.trans (hW.mono hB.size)).cell (p := ⟨b, o + k * 2, none⟩) hb).trans q0
   have d3 : ∀ W, Below wr.heap.size wr W → W.cell? ⟨b, o + k * 2 + 1, none⟩ = some (.int .u64 (y1 : Int)) := fun W hW => ((hB.trans (hW.mono hB.size)).cell (p := ⟨b, o + k * 2 + 1, none⟩) hb).trans q1
   have i0 : (0 : Int) ≤ (m : Int) := by omega
   have i1 : (m : Int) < (n : Int) := by omega
   have i2 : (0 : Int) ≤ (k : Int) := by omega
   have i3 : (k : Int) < (n : Int) := by omega
   have HB := Lib.hid hB
   clear hcell hs p0 p1 q0 q1 hB hlen hm
   go_wp2_with fail
   have hBase := (Below.refl wr.heap.size wr).drew
   refine zaw (.step 0 false (.step 1 false (.step 2 false (.step 3 false (.step 4 false (.step 5 false (.step 6 false (.step 7 false (.step 8 false (.step 9 false (.step 10 true (.step 11 false (.nil))))))))))))) (by kernel_rfl) (by kernel_rfl) (by rfl) (by kernel_rfl) ?_
   iterate 10 (refine zae rfl (by rfl) (v := ?_) ?_ ?_; rotate_left 1; (intro W hW; have hW0 := zaa hBase hW; (try dsimp only at hW); go_simp <;> with_reducible rfl); simp only [List.getElem_toArray, List.getElem_cons_zero, List.getElem_cons_succ, Act.put, List.setIfInBounds_toArray, List.set_cons_zero, List.set_cons_succ])
   (refine zaI rfl (by rfl) (fun K hK => ?_); go_simp; (refine (zmP (x0, x1) (y0, y1) _ HP.out HQ.out).mono ?_; rintro e₁ w4 ⟨rfl, hbx⟩); refine hK.out _ _ hbx ?_; clear hK K; replace hBase := zaa hBase hbx)
   have hneg := zpj (x0, x1) (y0, y1)
   generalize ordG (x0, x1) (y0, y1) = r at hneg ⊢
   by_cases hr0 : 0 ≤ r
   ·have hS : zek l = false := HE.out (by rw [Bool.eq_false_iff]; intro h; have := hneg.2 h; omega)
    have HSR := Lib.hid hS
    clear hneg HS HE hS
    have hd : decide (0 ≤ r) = true := decide_eq_true hr0
    iterate 1 (refine zae rfl (by rfl) (v := ?_) ?_ ?_; rotate_left 1; (intro W hW; have hW0 := zaa hBase hW; (try dsimp only at hW); go_simp <;> with_reducible rfl); simp only [List.getElem_toArray, List.getElem_cons_zero, List.getElem_cons_succ, Act.put, List.setIfInBounds_toArray, List.set_cons_zero, List.set_cons_succ])
    refine zal ?_
    go_wp2_with fail
    go_ret
    exact ⟨by rw [HSR.out]; rfl, zaa HB.out hBase⟩
   ·have hL : ltG (x0, x1) (y0, y1) = true := hneg.1 (by omega)
    clear hneg
    have HB2 := Lib.hid (zaa HB.out hBase)
    have hd : decide (0 ≤ r) = false := decide_eq_false hr0
    iterate 1 (refine zae rfl (by rfl) (v := ?_) ?_ ?_; rotate_left 1; (intro W hW; have hW0 := zaa hBase hW; (try dsimp only at hW); go_simp <;> with_reducible rfl); simp only [List.getElem_toArray, List.getElem_cons_zero, List.getElem_cons_succ, Act.put, List.setIfInBounds_toArray, List.set_cons_zero, List.set_cons_succ])
    refine zal ?_
    go_wp2_with fail
    go_roundw
    case rel => exact ⟨⟨k + 1, by omega, by go_num, by omega, fun j hj hjk => HS.out j hj hjk hL⟩, HB2.out⟩
    case measure => simp [intOf]; omega
  ·have hS : zek l = true := (zjI l).2 (fun j hj => hs j hj (by have := HN.out; omega))
   have HSR := Lib.hid hS
   have HB := Lib.hid hB
   have j1 : ¬ (k : Int) < (n : Int) := by omega
   clear hs hB hS
   go_wp2_with fail
   go_ret
   exact ⟨by rw [HSR.out]; rfl, HB.out⟩
theorem zey (l : List Gn) (n c : Nat) (A : Option Addr) (w : World) (HN : Hid (l.length = n)) (hr : RdG w A l) (HF : Hid (fitG l)) (hn : n ≤ 1000000000) :
  Calls Tryz.prog 76 #[.slice A n c] w fun e w' => e = .returned (.bool (zb4 l)) ∧ Below w.heap.size w w' := by
 by_cases h : n ≤ 64
 ·have hR : zb4 l = zek l := by
   unfold zb4
   rw [HN.out, decide_eq_true h, Bool.and_true]
  rw [hR]
  generalize hS : zek l = S
  have hri := zmQ l n c A
  rw [hS] at hri
  clear hS hR
  go_enter Tryz.func76, Tryz.ntmps76
  go_wp2_with fail
  refine (hri _ HN hr HF hn).mono ?_
  rintro e w1 ⟨rfl, hb1⟩
  go_wp2_with fail
  go_ret
  exact ⟨rfl, hb1⟩
 ·have hR : zb4 l = false := by
   unfold zb4
   rw [HN.out, decide_eq_false h, Bool.and_false]
  rw [hR]
  go_enter Tryz.func76, Tryz.ntmps76
  go_wp2_with fail
  go_ret
  exact ⟨rfl, Below.refl _ _⟩
theorem zpk (A : Option Addr) (n cap lo m : Nat) (h : lo + m ≤ cap) (W : World) : (Instr.slice 22 (.slice A n cap) (some (.int .i64 (lo : Int))) (some (.int .i64 ((lo : Int) + (m : Int)))) none).run Tryz.prog W = .ok (.slice (if cap = lo then A else A.map (·.add (lo * 1))) m (cap - lo)) W := by
 have he : Tryz.prog.elem 22 = 5 := by simp [Program.elem, Tryz.underlying22]
 rw [run_slice_lh W 22 A n cap (by rw [he]; exact Tryz.underlying22) .i64 .i64 (lo : Int) ((lo : Int) + (m : Int)) (by omega) (by omega) (by omega), he, za0]
 simp only [Result.andThen, sliced, Int.toNat_natCast]
 rw [show ((lo : Int) + (m : Int)).toNat - lo = m by omega]
theorem ziE : (Tryz.prog.info? 148).map (fun i => (i.zero, i.size, i.bytes)) = some (some (.agg #[.int .u64 0, .int .u64 0]), 2, 16) := by kernel_rfl
theorem ziF : (Tryz.prog.info? 148).map (·.size) = some 2 := by kernel_rfl
def zqf (w : World) (l : List Gn) (e : Ending) (w' : World) : Prop := ∃ v, e = .returned v ∧ w'.ownsRow w.heap.size 148 2 v l.length (zbm l) ∧ Below w.heap.size w w'
theorem zlb (l : List Gn) (A : Option Addr) (c : Nat) (w : World) (hr : RdG w A l) (hl : l.length ≤ 1000000000) : Calls Tryz.prog 91 #[.slice A l.length c] w (zqf w l) := by
 obtain ⟨i0, hi, hz0, hz1, hz2⟩ := info_parts ziE
 cases A with
 | none =>
  have hb : l = [] := by
   by_cases h : l = []
   ·exact h
   ·obtain ⟨_, _, e, _⟩ := hr h
    cases e
  subst hb
  have hnil : ∀ W, (binOp .eql 30 (.slice none 0 c) (.slice none 0 0)).run Tryz.prog W = .ok (.bool true) W := fun W => Lib.run_eql_slice_nil W _ _ none 0 c 0 0 Tryz.underlying30
  go_enter Tryz.func91, Tryz.ntmps91
  go_wp2_with fail
  go_ret
  exact ⟨_, rfl, World.ownsRow_nil _ _ _ _, Below.refl _ _⟩
 | some a =>
  have hnil : ∀ W, (binOp .eql 30 (.slice (some a) l.length c) (.slice none 0 0)).run Tryz.prog W = .ok (.bool false) W := fun W => Lib.run_eql_slice_nil W _ _ (some a) l.length c 0 0 Tryz.underlying30
  have hown0 : (w.alloc (.cells #[] 148)).ownsRow w.heap.size 148 2 (.slice (some ⟨w.heap.size, 0, none⟩) 0 0) 0 [] := World.ownsRow_made w #[] 0 (Nat.le_refl _) (by unfold maxLen; omega) rfl
  have hr0 : RdG (w.alloc (.cells #[] 148)) (some a) l := hr.keep (zak (Below.refl _ _) _)
  go_enter Tryz.func91, Tryz.ntmps91
  go_wp2_with (at_builtin; refine zfi _ rfl (.tmp 5) (.tmp 6) 30 rfl w.heap.size 148 i0 (.agg #[.int .u64 0, .int .u64 0]) 16 Tryz.underlying30 hi hz0 hz1 hz2 rfl _ _ _ rfl hown0 (some a) l c rfl hr0 (by unfold maxLen; omega) (by omega) (by simp) ?_; intro v1 w1 hown1 hgrow1 _)
  go_ret
  rw [Nat.zero_add, List.nil_append] at hown1
  exact ⟨_, rfl, hown1, (zak (Below.refl _ w) _).grown hgrow1 (by simp) (fun k hk => (hown0.lt k hk).1)⟩
theorem zoV (v : Nat) : (putL v).length = 8 := rfl
def beG (l : List Gn) (k : Nat) : List UInt8 := UInt8.ofNat l.length :: zck (l.take k)
theorem zlc (l : List Gn) (k : Nat) (hk : k ≤ l.length) : (beG l k).length = 1 + 16 * k := by
 unfold beG
 rw [List.length_cons, zfP, List.length_take]
 omega
theorem zol (l : List Gn) (k : Nat) (h : k < l.length) : beG l (k + 1) = beG l k ++ putL l[k].1 ++ putL l[k].2 := by
 unfold beG zck
 rw [List.take_succ_eq_append_getElem h, List.flatMap_append]
 simp
theorem zpl (l : List Gn) : beG l l.length = zbe l := by unfold beG zbe; rw [List.take_length]
def ByG (l : List Gn) (w : World) (v i : Value) (wr : World) : Prop := ∃ k : Nat, k ≤ l.length ∧ i = .int .i64 (k : Int) ∧ wr.ownsRow w.heap.size 5 1 v (beG l k).length ((beG l k).map vB) ∧ Below w.heap.size w wr
theorem zom {l : List Gn} {w wr : World} {v : Value} {k : Nat} (h : k < l.length) (ho : wr.ownsRow w.heap.size 5 1 v ((beG l k).length + 8 + 8) ((beG l k).map vB ++ (putL l[k].1).map vB ++ (putL l[k].2).map vB)) (hB : Below w.heap.size w wr) : ByG l w v (.int .i64 ((k : Int) + 1)) wr := by
 refine ⟨k + 1, by omega, by go_num, ?_, hB⟩
 rw [zol l k h, List.map_append, List.map_append, List.length_append, List.length_append, zoV, zoV]
 exact ho
theorem zon (l : List Gn) (n : Nat) (HN : l.length = n) (h : n ≤ 64) : #[Value.int .u8 (n : Int)] = ((beG l 0).map vB).toArray := by
 unfold beG
 rw [HN]
 simp [zck, vB, UInt8.toNat_ofNat']
 omega
def zfv (l : List Gn) : List UInt8 × Int := if zb4 l = true then (zbe l, 0) else ([], 1)
theorem ziG {l : List Gn} (h : zb4 l = true) : zfv l = (zbe l, 0) := by unfold zfv; rw [if_pos h]
theorem zmR {l : List Gn} (h : zb4 l = false) : zfv l = ([], 1) := by unfold zfv; rw [h]; rfl
def zqg (w : World) (L : List UInt8) (k : Int) (e : Ending) (w' : World) : Prop := ∃ v, e = .returned (.tuple #[v, .int .i64 k]) ∧ w'.ownsRow w.heap.size 5 1 v L.length (L.map vB) ∧ Below w.heap.size w w'
theorem zfj (v : Nat) (L : List UInt8) (hv : v < 18446744073709551616) (HL : Hid (putL v = L)) (w : World) : Calls Tryz.prog 114 #[.int .u64 (v : Int)] w fun e w' => ∃ A c, e = .returned (.slice A 8 c) ∧ 8 ≤ c ∧ Rd vB w' A L ∧ Below w.heap.size w w' :=
 (zhH v hv w).mono fun e w' ⟨A, c, h1, h2, h3, h4⟩ => ⟨A, c, h1, h2, by rw [← HL.out]; exact h3, h4⟩
theorem zgh {w : World} {base : Nat} {e : TypeId} {v : Value} {n : Nat} {xs : List Value} (h : w.ownsRow base e 1 v n xs) : v.ownBlock ≠ some w.heap.size := fun e => by have := (h.lt _ e).2; omega
theorem zjJ (l : List Gn) (n c : Nat) (A : Option Addr) (w : World) (HN : Hid (l.length = n)) (hr : RdG w A l) (HF : Hid (fitG l)) (hn : n ≤ 1000000000) :
  Calls Tryz.prog 115 #[.slice A n c] w (zqg w (zfv l).1 (zfv l).2) := by
 obtain ⟨i0, hi, hz0, hz1, hz2⟩ := info_parts zcx
 obtain ⟨P, hP⟩ : ∃ P, P = zfv l := ⟨_, rfl⟩
 rw [← hP]
 have HP := Lib.hid hP
 clear hP
 go_enter Tryz.func115, Tryz.ntmps115
 go_wp2_with fail
 refine (zey l n c A _ HN hr HF hn).mono ?_
 rintro e w1 ⟨rfl, hb1⟩
 obtain ⟨R, hR⟩ : ∃ R, R = zb4 l := ⟨_, rfl⟩
 rw [← hR]
 cases R with
 | false =>
  have HPP : Hid (P = ([], 1)) := HP.out.trans (zmR hR.symm)
  clear hR
  go_wp2_with fail
  go_ret2
  exact ⟨_, by rw [HPP.out]; rfl, by rw [HPP.out]; exact World.ownsRow_nil _ _ _ _, hb1⟩
 | true =>
  have hl64 : l.length ≤ 64 := (zcO.1 hR.symm).2
  have HPP : Hid (P = (zbe l, 0)) := HP.out.trans (ziG hR.symm)
  have e1 := HN.out
  subst e1
  clear hR HN
  have hby := zon l l.length rfl hl64
  have HO : Hid ((w1.alloc (.cells #[Value.int .u8 (l.length : Int)] 5)).ownsRow w.heap.size 5 1 (.slice (some ⟨w1.heap.size, 0, none⟩) 1 1) (beG l 0).length ((beG l 0).map vB)) := zd9 (zf4 w1 5 ((beG l 0).map vB) _ hby (by unfold maxLen; simp [beG, zck])) hb1.size
  have HB : Hid (Below w.heap.size w (w1.alloc (.cells #[Value.int .u8 (l.length : Int)] 5))) := zak hb1 _
  clear hby
  go_upto_region 4 with fail
  generalize w1.alloc (.cells #[Value.int .u8 (l.length : Int)] 5) = w2 at HO HB ⊢
  go_wp2_with fail
  go_loopw [4, 16] (fun v i wr => ByG l w v i wr) (fun _ i _ => l.length - (intOf i).toNat)
  case atStart => exact ⟨0, Nat.zero_le _, rfl, HO.out, HB.out⟩
  case round =>
   clear HO HB
   obtain ⟨k, hk, rfl, hown, hbel⟩ := hrel
   by_cases hlt : k < l.length
   ·obtain ⟨b, o, rfl, hb, hrng, _, _⟩ := (hr.keep hbel).pair hlt
    have hx := HF.out _ (List.getElem_mem hlt)
    have HNX := Lib.hid (fun (v : Value) (wr : World) (h) hB => zom (w := w) (wr := wr) (v := v) hlt h hB)
    have hbl := zlc l k hk
    generalize l[k] = x at hrng hx HNX
    obtain ⟨x0, x1⟩ := x
    dsimp only at hx HNX
    generalize beG l k = Lk at hown HNX hbl
    have i2 : (0 : Int) ≤ (k : Int) := by omega
    have i3 : (k : Int) < (l.length : Int) := by omega
    have hR0 : Row (wr.alloc (.cells #[.int .u64 0, .int .u64 0] 148)) wr.heap.size 148 [.int .u64 0, .int .u64 0] := Row.new wr _ _ _ rfl
    unfold zjG vNG at hrng
    dsimp only at hrng
    go_upto_region 7 with (first
     | (refine wpList_load_mid rfl 148 (.tmp 18) rfl b (o + k * 2) rfl [.int .u64 (x0 : Int), .int .u64 (x1 : Int)] _ hrng Tryz.underlying148 rfl (by exact ziF) ?_)
     | (refine zab rfl 148 (.tmp 6) (.tmp 19) rfl wr.heap.size rfl [.int .u64 (x0 : Int), .int .u64 (x1 : Int)] rfl _ _ hR0 (by exact ziF) rfl (zmO (x0, x1)) ?_))
    have hR1 := hR0.setRow [.int .u64 (x0 : Int), .int .u64 (x1 : Int)]
    have hbn : Below wr.heap.size wr ((wr.alloc (.cells #[.int .u64 0, .int .u64 0] 148)).setRow wr.heap.size [.int .u64 (x0 : Int), .int .u64 (x1 : Int)].toArray) := below_setRow (zak (Below.refl _ _) _) (Nat.le_refl _) _
    generalize (wr.alloc (.cells #[.int .u64 0, .int .u64 0] 148)).setRow wr.heap.size [.int .u64 (x0 : Int), .int .u64 (x1 : Int)].toArray = w3 at hR1 hbn ⊢
    have hap := zgh hown
    replace hown := zam hown hbn
    replace hbel := zaa hbel hbn
    have HBB := Lib.hid hbel
    have hg3 := hR1.lt
    clear hbn hR0 hrng
    generalize wr.heap.size = g1 at hR1 hap hg3 ⊢
    have c0 : w3.cell? ⟨g1, 0, none⟩ = some (.int .u64 (x0 : Int)) := hR1.cell rfl
    have hv1 := hx.1
    have hv2 := hx.2
    have HX := Lib.hid hx
    obtain ⟨L1, hL1⟩ : ∃ L, putL x0 = L := ⟨_, rfl⟩
    obtain ⟨L2, hL2⟩ : ∃ L, putL x1 = L := ⟨_, rfl⟩
    have hl1 : L1.length = 8 := by rw [← hL1]; rfl
    have hl2 : L2.length = 8 := by rw [← hL2]; rfl
    rw [hL1, hL2] at HNX
    have HL1 := Lib.hid hL1
    have HL2 := Lib.hid hL2
    have HN1 := Lib.hid hl1
    have HN2 := Lib.hid hl2
    clear hL1 hL2 hl1 hl2 hx hbel
    go_wp2_with fail
    refine (zfj x0 L1 HX.out.1 HL1 _).mono ?_
    rintro ee w4 ⟨A1, c1, rfl, hc1, hr1, hb1⟩
    have hown4 := zam hown hb1
    have hR4 := hR1.later hb1
    have hB4 := zaa HBB.out hb1
    have hsz4 := hB4.size
    have hg4 := hR4.lt
    clear hown hb1 c0 hR1
    go_wp2_with (at_builtin; refine zao _ rfl (.tmp 20) (.tmp 23) 22 rfl w.heap.size 5 i0 (.int .u8 0) 1 Tryz.underlying22 hi hz0 hz1 hz2 rfl _ _ _ rfl hown4 A1 L1 c1 (by rw [HN1.out]; rfl) hr1 zbt (by rw [HN1.out]; unfold maxLen; omega) (by rw [HN1.out]; omega) (by omega) ?_; intro v5 w5 hown5 hgrow5 hat5; have hR5 := hR4.grown hgrow5 hap; have hap5 := zhJ hap hg4 hat5; have hB5 := hB4.grown hgrow5 hsz4 (fun k hk => (hown4.lt k hk).1); have c1' : w5.cell? ⟨g1, 1, none⟩ = some (.int .u64 (x1 : Int)) := hR5.cell rfl)
    refine (zfj x1 L2 HX.out.2 HL2 _).mono ?_
    rintro ee w6 ⟨A2, c2, rfl, hc2, hr2, hb2⟩
    have hown6 := zam hown5 hb2
    have hB6 := zaa hB5 hb2
    have hsz6 := hB6.size
    clear hown5 hb2 c1' hR5 hgrow5 hown4 hB4 hat5
    go_wp2_with (at_builtin; refine zao _ rfl (.tmp 25) (.tmp 28) 22 rfl w.heap.size 5 i0 (.int .u8 0) 1 Tryz.underlying22 hi hz0 hz1 hz2 rfl _ _ _ rfl hown6 A2 L2 c2 (by rw [HN2.out]; rfl) hr2 zbt (by rw [HN2.out, HN1.out]; unfold maxLen; omega) (by rw [HN2.out, HN1.out]; omega) (by omega) ?_; intro v7 w7 hown7 hgrow7 hat7)
    have hB7 := hB6.grown hgrow7 hsz6 (fun k hk => (hown6.lt k hk).1)
    go_roundw
    case rel => exact HNX.out _ _ (by rw [HN1.out, HN2.out] at hown7; exact hown7) hB7
    case measure => simp [intOf]; omega
   ·have hkl : k = l.length := by omega
    subst hkl
    rw [zpl] at hown
    have HOW := Lib.hid hown
    have HB := Lib.hid hbel
    clear hown hbel
    go_wp2_with fail
    go_ret2
    exact ⟨_, by rw [HPP.out]; rfl, by rw [HPP.out]; exact HOW.out, HB.out⟩
theorem zoo (a b c d : Nat) (w : World) : (binOp .neq 148 (.agg #[.int .u64 (a : Int), .int .u64 (b : Int)]) (.agg #[.int .u64 (c : Int), .int .u64 (d : Int)])).run Tryz.prog w = .ok (.bool (!decide ((a, b) = (c, d)))) w := by
 have u3 := Tryz.underlying28
 have a3 := Tryz.isAgg28
 have z3 := Tryz.sizeOf28
 have hS : Tryz.prog.underlying 148 = some (.struct (Tryz.prog.fieldsOf 148)) := by kernel_rfl
 have hp : Tryz.prog.stoodInHeld 148 = false := by kernel_rfl
 rw [run_neq_struct, show (10000 : Nat) = 9999 + 1 from rfl, run_equalIn_agg w 9999 148 _ _ hS hp]
 simp only [Program.fieldsOf, Tryz.underlying148]
 go_simp
 by_cases h1 : a = c <;> by_cases h2 : b = d <;> simp [h1, h2] <;> omega
theorem zld (op : BinOp) (x y : Operand) (xs ys : Array Value) (w : World) : (eqGuard op 148 x y (.agg xs) (.agg ys)).run Tryz.prog w = .ok () w := run_eqGuard_agg w op 148 x y xs ys (by kernel_rfl)
theorem zle (l m : List Gn) (n k c d : Nat) (A B : Option Addr) (w : World) (HN : Hid (l.length = n)) (HM : Hid (m.length = k)) (hr : RdG w A l) (hs : RdG w B m) (hn : n ≤ 1000000000) :
  Calls Tryz.prog 93 #[.slice A n c, .slice B k d] w fun e w' => e = .returned (.bool (decide (l = m))) ∧ Below w.heap.size w w' := by
 obtain ⟨P, hP⟩ : ∃ P, decide (l = m) = P := ⟨_, rfl⟩
 rw [hP]
 have HP := Lib.hid hP
 clear hP
 by_cases hnk : n = k
 ·subst hnk
  go_enter Tryz.func93, Tryz.ntmps93
  go_wp2_with fail
  go_loopw [5] (fun i wr => (∃ j : Nat, i = .int .i64 (j : Int) ∧ j ≤ n ∧ l.take j = m.take j) ∧ Below w.heap.size w wr) (fun i _ => n - (intOf i).toNat)
  case atStart => exact ⟨⟨0, rfl, by omega, by simp⟩, Below.refl _ _⟩
  case round =>
   obtain ⟨⟨j, rfl, hj, htk⟩, hB⟩ := hrel
   by_cases hlt : j < n
   ·have hjl : j < l.length := by rw [HN.out]; exact hlt
    have hjm : j < m.length := by rw [HM.out]; exact hlt
    obtain ⟨b, o, rfl, hb, _, p0, p1⟩ := hr.pair hjl
    obtain ⟨b2, o2, rfl, hb2, _, q0, q1⟩ := hs.pair hjm
    replace p0 := (hB.cell (p := ⟨b, o + j * 2, none⟩) hb).trans p0
    replace p1 := (hB.cell (p := ⟨b, o + j * 2 + 1, none⟩) hb).trans p1
    replace q0 := (hB.cell (p := ⟨b2, o2 + j * 2, none⟩) hb2).trans q0
    replace q1 := (hB.cell (p := ⟨b2, o2 + j * 2 + 1, none⟩) hb2).trans q1
    have HT : Hid (l[j] = m[j] → l.take (j + 1) = m.take (j + 1)) := fun h => by
     rw [List.take_succ_eq_append_getElem hjl, List.take_succ_eq_append_getElem hjm, htk, h]
    have HI : Hid (¬ l[j] = m[j] → decide (l = m) = false) := fun h => by
     rw [decide_eq_false_iff_not]
     intro e
     subst e
     exact h rfl
    generalize l[j] = x at p0 p1 HT HI
    generalize m[j] = y at q0 q1 HT HI
    obtain ⟨x0, x1⟩ := x
    obtain ⟨y0, y1⟩ := y
    unfold vNG at p0 p1 q0 q1
    dsimp only at p0 p1 q0 q1
    have d0 : ∀ W, Below wr.heap.size wr W → W.cell? ⟨b, o + j * 2, none⟩ = some (.int .u64 (x0 : Int)) := fun W hW => (hW.cell (p := ⟨b, o + j * 2, none⟩) (World.block_lt_of_cell? wr _ p0)).trans p0
    have d1 : ∀ W, Below wr.heap.size wr W → W.cell? ⟨b, o + j * 2 + 1, none⟩ = some (.int .u64 (x1 : Int)) := fun W hW => (hW.cell (p := ⟨b, o + j * 2 + 1, none⟩) (World.block_lt_of_cell? wr _ p1)).trans p1
    have d2 : ∀ W, Below wr.heap.size wr W → W.cell? ⟨b2, o2 + j * 2, none⟩ = some (.int .u64 (y0 : Int)) := fun W hW => (hW.cell (p := ⟨b2, o2 + j * 2, none⟩) (World.block_lt_of_cell? wr _ q0)).trans q0
    have d3 : ∀ W, Below wr.heap.size wr W → W.cell? ⟨b2, o2 + j * 2 + 1, none⟩ = some (.int .u64 (y1 : Int)) := fun W hW => (hW.cell (p := ⟨b2, o2 + j * 2 + 1, none⟩) (World.block_lt_of_cell? wr _ q1)).trans q1
    have i2 : (0 : Int) ≤ (j : Int) := by omega
    have i3 : (j : Int) < (n : Int) := by omega
    have hq := fun W => zoo x0 x1 y0 y1 W
    have HQ : Hid (decide ((x0, x1) = (y0, y1)) = true ↔ (x0, x1) = (y0, y1)) := by unfold Hid; rw [decide_eq_true_iff]
    generalize decide ((x0, x1) = (y0, y1)) = r at hq HQ
    have hgd := fun op x y xs ys W => zld op x y xs ys W
    have HB := Lib.hid hB
    clear hB htk p0 p1 q0 q1
    go_wp2_with fail
    have hBase := (Below.refl wr.heap.size wr).drew
    refine zaw (.step 0 false (.step 1 false (.step 2 false (.step 3 false (.step 4 false (.step 5 false (.step 6 false (.step 7 false (.step 8 false (.nil)))))))))) (by kernel_rfl) (by kernel_rfl) (by rfl) (by kernel_rfl) ?_
    iterate 9 (refine zae rfl (by rfl) (v := ?_) ?_ ?_; rotate_left 1; (intro W hW; have hW0 := zaa hBase hW; (try dsimp only at hW); go_simp <;> with_reducible rfl); simp only [List.getElem_toArray, List.getElem_cons_zero, List.getElem_cons_succ, Act.put, List.setIfInBounds_toArray, List.set_cons_zero, List.set_cons_succ])
    refine zal ?_
    have HB2 := Lib.hid (zaa HB.out hBase)
    cases r with
    | true =>
     have HT2 := Lib.hid (HT.out (HQ.out.1 rfl))
     go_wp2_with fail
     go_roundw
     case rel => exact ⟨⟨j + 1, by go_num, by omega, HT2.out⟩, HB2.out⟩
     case measure => simp [intOf]; omega
    | false =>
     have HH : Hid (P = false) := HP.out.symm.trans (HI.out (fun h => by have := HQ.out.2 h; cases this))
     go_wp2_with fail
     go_ret
     exact ⟨by rw [HH.out]; rfl, HB2.out⟩
   ·have HH : Hid (P = true) := by
     unfold Hid
     rw [← HP.out, decide_eq_true_iff]
     have : j = n := by omega
     subst this
     have h1 := List.take_of_length_le (l := l) (i := j) (by rw [HN.out]; exact Nat.le_refl _)
     have h2 := List.take_of_length_le (l := m) (i := j) (by rw [HM.out]; exact Nat.le_refl _)
     rw [← h1, ← h2, htk]
    have j1 : ¬ (j : Int) < (n : Int) := by omega
    have HB := Lib.hid hB
    clear hB htk
    go_wp2_with fail
    go_ret
    exact ⟨by rw [HH.out]; rfl, HB.out⟩
 ·have HH : Hid (P = false) := by
   unfold Hid
   rw [← HP.out, decide_eq_false_iff_not]
   rintro rfl
   exact hnk (HN.out.symm.trans HM.out)
  have hne : ((n : Int) != (k : Int)) = true := by simp; omega
  go_enter Tryz.func93, Tryz.ntmps93
  go_wp2_with fail
  go_ret
  exact ⟨by rw [HH.out]; rfl, Below.refl _ _⟩
def aggB (v : Nat) (eA : Option Addr) (n ec : Nat) (gA : Option Addr) (m gc : Nat) : Value := .agg #[.int .u64 (v : Int), .slice eA n ec, .slice gA m gc]
def zpR (v : Nat) (eA : Option Addr) (n ec : Nat) (gA : Option Addr) (m gc : Nat) : List Value := [.int .u64 (v : Int), .slice eA n ec, .slice gA m gc]
theorem zdU (w : World) (ty : TypeId) (a b c : Value) : Row (w.alloc (.cells #[a, b, c] ty)) w.heap.size ty [a, b, c] ∧ Below w.heap.size w (w.alloc (.cells #[a, b, c] ty)) := ⟨Row.new w ty _ _ rfl, zak (Below.refl _ _) _⟩
theorem zax : (Tryz.prog.info? 32).map (·.size) = some 3 := by kernel_rfl
theorem zbK : (Tryz.prog.info? 91).map (·.size) = some 3 := by kernel_rfl
theorem zaK (a b c : Value) (ha : a.oneCell' = true) (hb : b.oneCell' = true) (hc : c.oneCell' = true) : ∀ v ∈ [a, b, c], v.oneCell' = true := fun v hv => by
 simp at hv
 rcases hv with rfl | rfl | rfl <;> assumption
def aggN (t e : Nat) (A : Option Addr) (n c : Nat) : Value := .agg #[.int .u64 (t : Int), .int .u64 (e : Int), .slice A n c]
theorem zhS (t e t' e' : Nat) (s s' : List UInt8) (n c n' c' : Nat) (A A' : Option Addr) (w : World) (HN : Hid (s.length = n)) (HM : Hid (s'.length = n')) (hr : Rd vB w A s) (hr' : Rd vB w A' s') :
  Calls Tryz.prog 94 #[aggN t e A n c, aggN t' e' A' n' c'] w fun e₁ w' => e₁ = .returned (.bool (decide ((t, e, s) = (t', e', s')))) ∧ Below w.heap.size w w' := by
 obtain ⟨P, hP⟩ : ∃ P, decide ((t, e, s) = (t', e', s')) = P := ⟨_, rfl⟩
 rw [hP]
 have HP := Lib.hid hP
 clear hP
 have hR0 : Row (w.alloc (.cells #[.int .u64 (t : Int), .int .u64 (e : Int), .slice A n c] 91)) w.heap.size 91 [.int .u64 (t : Int), .int .u64 (e : Int), .slice A n c] := Row.new w _ _ _ rfl
 have hR1 : Row ((w.alloc (.cells #[.int .u64 (t : Int), .int .u64 (e : Int), .slice A n c] 91)).alloc (.cells #[.int .u64 (t' : Int), .int .u64 (e' : Int), .slice A' n' c'] 91)) (w.heap.size + 1) 91 [.int .u64 (t' : Int), .int .u64 (e' : Int), .slice A' n' c'] := Row.new_at _ _ (by simp) _ _ _ rfl
 replace hR0 := hR0.alloc (.cells #[.int .u64 (t' : Int), .int .u64 (e' : Int), .slice A' n' c'] 91)
 have hB : Below w.heap.size w ((w.alloc (.cells #[.int .u64 (t : Int), .int .u64 (e : Int), .slice A n c] 91)).alloc (.cells #[.int .u64 (t' : Int), .int .u64 (e' : Int), .slice A' n' c'] 91)) := zak (zak (Below.refl _ _) _) _
 unfold aggN
 go_enter Tryz.func94, Tryz.ntmps94
 go_upto_region 1 with fail
 generalize (w.alloc (.cells #[.int .u64 (t : Int), .int .u64 (e : Int), .slice A n c] 91)).alloc (.cells #[.int .u64 (t' : Int), .int .u64 (e' : Int), .slice A' n' c'] 91) = w3 at hR0 hR1 hB ⊢
 have c0 : w3.cell? ⟨w.heap.size, 0, none⟩ = some (.int .u64 (t : Int)) := hR0.cell rfl
 have c1 : w3.cell? ⟨w.heap.size, 1, none⟩ = some (.int .u64 (e : Int)) := hR0.cell rfl
 have c2 : w3.cell? ⟨w.heap.size, 2, none⟩ = some (.slice A n c) := hR0.cell rfl
 have d0 : w3.cell? ⟨w.heap.size + 1, 0, none⟩ = some (.int .u64 (t' : Int)) := hR1.cell rfl
 have d1 : w3.cell? ⟨w.heap.size + 1, 1, none⟩ = some (.int .u64 (e' : Int)) := hR1.cell rfl
 have d2 : w3.cell? ⟨w.heap.size + 1, 2, none⟩ = some (.slice A' n' c') := hR1.cell rfl
 have hs1 := zhz (P := Tryz.prog) w3 22 5 9 Tryz.underlying22 Tryz.underlying5 Tryz.underlying9 A s n c HN.out (hr.keep hB)
 have hs2 := zhz (P := Tryz.prog) w3 22 5 9 Tryz.underlying22 Tryz.underlying5 Tryz.underlying9 A' s' n' c' HM.out (hr'.keep hB)
 have HB := Lib.hid hB
 clear hB hR0 hR1 hr hr'
 by_cases h1 : t = t'
 ·subst h1
  by_cases h2 : e = e'
  ·subst h2
   have hq := zmv s s' P (by rw [← HP.out]; simp)
   unfold strL at hq
   generalize (⟨s.toArray⟩ : ByteArray) = S at hs1 hq
   generalize (⟨s'.toArray⟩ : ByteArray) = S' at hs2 hq
   go_wp2_with fail
   go_ret
   exact ⟨rfl, HB.out⟩
  ·have HPF : Hid (P = false) := by unfold Hid; rw [← HP.out]; simp [h2]
   have h2d : decide (e = e') = false := decide_eq_false h2
   have h2i : ((e : Int) == (e' : Int)) = false := beq_eq_false_iff_ne.2 (by omega)
   go_wp2_with fail
   go_ret
   exact ⟨by rw [HPF.out]; rfl, HB.out⟩
 ·have HPF : Hid (P = false) := by unfold Hid; rw [← HP.out]; simp [h1]
  have h1d : decide (t = t') = false := decide_eq_false h1
  have h1i : ((t : Int) == (t' : Int)) = false := beq_eq_false_iff_ne.2 (by omega)
  go_wp2_with fail
  go_ret
  exact ⟨by rw [HPF.out]; rfl, HB.out⟩
end Go.Proofs.YteljklkgdejhpaaGreatDoor
namespace Go.Proofs.YteljklkgdejhpaaGreatDoor
open Go.RowKit Go.Shelf
attribute [local go_sem] Oper.semAt_some
def chA (A : Option Addr) (i : Nat) : Option Addr := A.map (·.add (i * 1))
abbrev Ck (cnt : Nat) := { j : Nat // j < cnt }
def Ck.enc (A : Option Addr) {cnt : Nat} (x : Ck cnt) : Array Value := #[.slice (chA A (16 * x.1)) 16 16]
def chS {cnt : Nat} (xs : List (Ck cnt)) : Prop := xs.map (·.1) = List.range cnt
def chP {cnt : Nat} (xs : List (Ck cnt)) : Prop := ∃ k, k ≤ cnt ∧ xs.map (·.1) = List.range k
theorem zmS (A : Option Addr) (n c i : Nat) (h : i + 16 ≤ c) (W : World) : (Instr.slice 22 (.slice A n c) (some (.int .i64 (i : Int))) (some (.int .i64 ((i : Int) + 16))) (some (.int .i64 ((i : Int) + 16)))).run Tryz.prog W = .ok (.slice (chA A i) 16 16) W := by
 have he : Tryz.prog.elem 22 = 5 := by simp [Program.elem, Tryz.underlying22]
 have hz : (sizeOf 5).run Tryz.prog W = .ok 1 W := by kernel_rfl
 rw [run_slice_lhm W 22 A n c (by rw [he]; exact Tryz.underlying22) .i64 .i64 .i64 (i : Int) ((i : Int) + 16) ((i : Int) + 16) (by omega) (by omega) (by omega) (by omega), he, hz]
 simp only [Result.andThen, sliced, Int.toNat_natCast]
 rw [show ((i : Int) + 16).toNat - i = 16 by omega, if_neg (by omega)]
 rfl
theorem zmT (A : Option Addr) (n c : Nat) (w : World) :
  Calls Tryz.prog 191 #[.slice A n c, .int .i64 16] w fun e w' => e = .returned (.func (.func 197) #[] #[.pointer (some ⟨w.heap.size, 0, none⟩), .pointer (some ⟨w.heap.size + 1, 0, none⟩)]) ∧ w' = (w.alloc (.cells #[.slice A n c] 22)).alloc (.cells #[.int .i64 16] 3) := by
 go_enter Tryz.func191, Tryz.ntmps191
 go_wp2_with fail
 go_ret
 exact ⟨rfl, rfl⟩
theorem zmU (n : Nat) (hn : 1 ≤ n) (l Bs Bz cnt len cap : Nat) (A : Option Addr) (Kp : World → World → Prop) (HL : Hid (len = 16 * cnt)) (hlen : len ≤ 140737488351232) (hcap : len ≤ cap) (J Jx : List (Ck cnt) → World → Prop)
  (hY : ∀ pre x W, J pre W → pre.length < cnt → YieldAt Fence.wide (n - 1) Tryz.prog l (Ck.enc A x) W fun e W' => (e = .returned (.bool true) ∧ J (pre ++ [x]) W' ∧ Kp W W') ∨ (e = .returned (.bool false) ∧ Jx (pre ++ [x]) W'))
  (W : World) (hKr : Kp W W) (hKt : ∀ X Y, Kp W X → Kp X Y → Kp W Y) (hJd : ∀ pre W, J pre W → J pre W.drew) (hKd : ∀ X, Kp W X → Kp W X.drew) (hread : ∀ W', Kp W W' → W'.cell? ⟨Bs, 0, none⟩ = some (.slice A len cap) ∧ W'.cell? ⟨Bz, 0, none⟩ = some (.int .i64 16)) (h0 : J [] W) :
  CallsIn Fence.wide n Tryz.prog 197 #[.func (.yield l) #[] #[], .pointer (some ⟨Bs, 0, none⟩), .pointer (some ⟨Bz, 0, none⟩)] W fun e W' => (∃ v, e = .returned v) ∧ ((∃ xs, chS xs ∧ J xs W') ∨ (∃ pre, chP pre ∧ Jx pre W')) := by
 refine callsIn_of_wp Tryz.func197 rfl trivial ?_ rfl
 simp only [Tryz.ntmps197, List.size_toArray, List.length_cons, List.length_nil, Nat.reduceAdd, Nat.reduceSub, Array.replicate_succ, Array.replicate_zero, List.push_toArray, List.append_toArray, List.nil_append, List.cons_append]
 gi_wp2
 gi_loopw [4] (fun i wr => ∃ k m : Nat, k ≤ cnt ∧ m = 16 * k ∧ i = .int .i64 (m : Int) ∧ (∃ pre : List (Ck cnt), pre.length = k ∧ pre.map (·.1) = List.range k ∧ J pre wr) ∧ Kp W wr)
  (fun i _ => len - (intOf i).toNat)
 case atStart => exact ⟨0, 0, Nat.zero_le _, rfl, rfl, ⟨[], rfl, rfl, h0⟩, hKr⟩
 case round =>
  obtain ⟨k, m, hk, hm, rfl, ⟨pre, hpl, hpm, hJs⟩, hK⟩ := hrel
  obtain ⟨hcb, hcz⟩ := hread wr hK
  by_cases hkc : k = cnt
  ·have HPM : Hid (chS pre) := by unfold Hid chS; rw [hpm, hkc]
   have hml : ¬ (m : Int) < (len : Int) := by have := HL.out; omega
   clear hpm hpl hm
   gi_wp2
   go_end0
   exact ⟨⟨_, rfl⟩, .inl ⟨_, HPM.out, hJs⟩⟩
  ·have hkl : k < cnt := by omega
   have hml : (m : Int) < (len : Int) := by have := HL.out; omega
   have HM : Hid (m = 16 * k ∧ m + 16 ≤ len) := ⟨hm, by have := HL.out; omega⟩
   have hcut := fun W => zmS A len cap m (by have := HM.out; omega) W
   obtain ⟨A', hcf, _⟩ := zeF (P := Tryz.prog) 22 5 Tryz.underlying22 (fun w => by kernel_rfl) A len cap m (by have := HM.out; omega) hcap
   obtain ⟨fn, tmps, assign, body, hy, hR⟩ := hY pre ⟨k, hkl⟩ wr.drew (hJd _ _ hJs) (by omega)
   unfold Ck.enc at hy
   dsimp only at hy
   rw [← HM.out.1] at hy
   have HPM : Hid ((pre ++ [(⟨k, hkl⟩ : Ck cnt)]).map (·.1) = List.range (k + 1)) := by
    unfold Hid
    rw [List.map_append, hpm, List.range_succ]
    rfl
   have HPL : Hid ((pre ++ [(⟨k, hkl⟩ : Ck cnt)]).length = k + 1) := by
    unfold Hid
    rw [List.length_append, hpl, List.length_singleton]
   have HKD := Lib.hid (hKd _ hK)
   have hKl : ∀ W, Below wr.heap.size wr W → True := fun _ _ => trivial
   have cb : ∀ W, Below wr.heap.size wr W → W.cell? ⟨Bs, 0, none⟩ = some (.slice A len cap) := fun W hW => (hW.cell (p := ⟨Bs, 0, none⟩) (World.block_lt_of_cell? wr _ hcb)).trans hcb
   have cz : ∀ W, Below wr.heap.size wr W → W.cell? ⟨Bz, 0, none⟩ = some (.int .i64 16) := fun W hW => (hW.cell (p := ⟨Bz, 0, none⟩) (World.block_lt_of_cell? wr _ hcz)).trans hcz
   have hmin : ¬ ((len - m : Nat) : Int) < 16 := by have := HM.out; omega
   have hm16 : (m : Int) + 16 ≤ (len : Int) := by have := HM.out; omega
   clear hpm hpl hm hK hJs hcut
   gi_wp2
   refine wpIn_wide.2 ?_
   have hBase := (Below.refl wr.heap.size wr).drew
   refine zaw (.step 0 false (.step 1 false (.step 2 false (.step 3 false (.step 4 false (.step 5 false (.step 6 false (.nil)))))))) (by kernel_rfl) (by kernel_rfl) (by rfl) (by kernel_rfl) ?_
   iterate 7 (refine zae rfl (by rfl) (v := ?_) ?_ ?_; rotate_left 1; (intro W hW; have hW0 := zaa hBase hW; (try dsimp only at hW); go_simp <;> with_reducible rfl); simp only [List.getElem_toArray, List.getElem_cons_zero, List.getElem_cons_succ, Act.put, List.setIfInBounds_toArray, List.set_cons_zero, List.set_cons_succ])
   refine zal ?_
   have cb1 := cb _ hBase
   have cz1 := cz _ hBase
   have hcut := zmS A len cap m (by have := HM.out; omega) wr.drew
   generalize wr.drew = wd at hBase hy hR HKD cb1 cz1 hcut ⊢
   clear cb cz hcf
   gi_wp2
   refine hR.mono ?_
   rintro e W3 (⟨rfl, hJ3, hk3⟩ | ⟨rfl, hJx3⟩)
   ·have hK3 := hKt _ _ HKD.out hk3
    have cz3 := (hread _ hK3).2
    have HK3 := Lib.hid hK3
    clear cb1 cz1 hcut hy hR hK3
    gi_wp2
    go_roundw
    case rel => exact ⟨k + 1, m + 16, by omega, by have := HM.out; omega, by go_num, ⟨_, HPL.out, HPM.out, hJ3⟩, HK3.out⟩
    case measure => have := HM.out; simp [intOf] <;> omega
   ·clear cb1 cz1 hcut hy hR
    gi_wp2
    refine bodyPost_ret (results_none rfl _ _ _) rfl ?_
    exact ⟨⟨_, rfl⟩, .inr ⟨_, ⟨k + 1, by omega, HPM.out⟩, hJx3⟩⟩
theorem zjK (n : Nat) (hn : 1 ≤ n) (Bs Bz cnt len cap : Nat) (A : Option Addr) (Kp : World → World → Prop) (HL : Hid (len = 16 * cnt)) (hlen : len ≤ 140737488351232) (hcap : len ≤ cap) (w : World)
  (hKr : ∀ W, Kp W W) (hKt : ∀ X Y Z, Kp X Y → Kp Y Z → Kp X Z) (hKd : ∀ X, Kp X X.drew) (hread : ∀ W, Below w.heap.size w W → ∀ W', Kp W W' → W'.cell? ⟨Bs, 0, none⟩ = some (.slice A len cap) ∧ W'.cell? ⟨Bz, 0, none⟩ = some (.int .i64 16)) :
  SeqStopsK Fence.wide n Tryz.prog 197 #[.pointer (some ⟨Bs, 0, none⟩), .pointer (some ⟨Bz, 0, none⟩)] (Ck.enc A (cnt := cnt)) Kp chS chP cnt w := fun l J Jx W hW hJ _ hY h0 =>
 zmU n hn l Bs Bz cnt len cap A Kp HL hlen hcap J Jx hY W (hKr W) (fun X Y h k => hKt _ _ _ h k) (fun pre X h => hJ pre X X.drew none h ⟨rfl, rfl, rfl, Nat.le_refl _, fun _ _ _ => rfl⟩ (fun r e => by cases e)) (fun X h => hKt _ _ _ h (hKd X)) (hread W hW) h0
end Go.Proofs.YteljklkgdejhpaaGreatDoor
namespace Go.Proofs.YteljklkgdejhpaaGreatDoor
def zjL (ops : List Oper) : Bool := ops.all fun o => match o.op with | .defer _ => false | _ => true
theorem zlf {ops : List Oper} (h : zjL ops = true) {i : Nat} {o : Oper} (ho : ops[i]? = some o) : ∀ c, o.op ≠ .defer c := by
 intro c hc
 have h1 := List.all_eq_true.1 h o (List.mem_of_getElem? ho)
 rw [hc] at h1
 cases h1
section
variable {P : Program} {ops : Array Oper} {w : World} {md : Region.Mode} {n l₀ : Nat}
end
end Go.Proofs.YteljklkgdejhpaaGreatDoor
namespace Go.Proofs.YteljklkgdejhpaaGreatDoor
open Go.RowKit Go.Shelf
attribute [local go_sem] Oper.semAt_some
def gnA (b : List UInt8) (j : Nat) : Gn := (valN ((b.drop (16 * j)).take 8), valN ((b.drop (16 * j + 8)).take 8))
theorem zhT : ∀ (n : Nat) (b : List UInt8), zcP n b = (List.range n).map (gnA b)
 | 0, b => rfl
 | n + 1, b => by
  rw [List.range_succ_eq_map, List.map_cons, List.map_map]
  unfold zcP
  rw [zhT n (b.drop 16)]
  congr 1
  apply List.map_congr_left
  intro j _
  unfold gnA
  simp only [Function.comp_apply, List.drop_drop, Nat.mul_succ]
  congr 3 <;> congr 1 <;> omega
theorem zfw (l : List UInt8) (A : Option Addr) (c : Nat) (w : World) (hr : Rd vB w A l) (HL : Hid (l.length = 8)) (v : Nat) (HV : Hid (valN l = v)) :
  Calls Tryz.prog 192 #[.slice A 8 c] w fun e w' => e = .returned (.int .u64 (v : Int)) ∧ w' = w := by
 have hg := zmq l A c w hr (by rw [HL.out]; omega)
 have hgr : getR l = (v, 0) := by unfold getR; rw [if_pos HL.out, HV.out]
 rw [hgr, HL.out] at hg
 have HG := Lib.hid hg
 clear hg hgr
 have hv8 : v < 18446744073709551616 := by rw [← HV.out]; exact zcD l (by rw [HL.out]; omega)
 have HV8 := Lib.hid hv8
 go_enter Tryz.func192, Tryz.ntmps192
 go_wp2_with fail
 refine HG.out.mono ?_
 rintro e w1 ⟨rfl, rfl⟩
 go_wp2_with fail
 go_ret
 exact ⟨rfl, rfl⟩
def zpm (w : World) (l : List Gn) (n : Nat) (k : Int) (e : Ending) (w' : World) : Prop := ∃ v, e = .returned (.tuple #[v, .int .i64 (n : Int), .int .i64 k]) ∧ w'.ownsRow w.heap.size 148 2 v l.length (zbm l) ∧ Below w.heap.size w w'
theorem zmV {b : List UInt8} (h : b.length = 0) : zaO b = ([], 0, 2) := by unfold zaO; rw [if_pos h]
theorem zmW {b : List UInt8} (h : b.length ≠ 0) (h2 : 64 < cntG b) : zaO b = ([], 0, 3) := by unfold zaO; rw [if_neg h, if_pos h2]
theorem zlg {b : List UInt8} (h : b.length ≠ 0) (h2 : ¬ 64 < cntG b) (h3 : b.length < 1 + 16 * cntG b) : zaO b = ([], 0, 2) := by unfold zaO; rw [if_neg h, if_neg h2, if_pos h3]
theorem zmX {b : List UInt8} (h : b.length ≠ 0) (h2 : ¬ 64 < cntG b) (h3 : ¬ b.length < 1 + 16 * cntG b) : zaO b = if zb4 (zcP (cntG b) (b.drop 1)) = true then (zcP (cntG b) (b.drop 1), 1 + 16 * cntG b, 0) else ([], 0, 3) := by unfold zaO; rw [if_neg h, if_neg h2, if_neg h3]
def KpC (n₀ Bs Bz : Nat) (W W' : World) : Prop := Below n₀ W W' ∧ W'.heap[Bs]? = W.heap[Bs]? ∧ W'.heap[Bz]? = W.heap[Bz]?
theorem KpC.refl (n₀ Bs Bz : Nat) (W : World) : KpC n₀ Bs Bz W W := ⟨Below.refl _ _, rfl, rfl⟩
theorem KpC.drew (n₀ Bs Bz : Nat) (W : World) : KpC n₀ Bs Bz W W.drew := ⟨(Below.refl _ _).drew, rfl, rfl⟩
theorem KpC.trans {n₀ Bs Bz : Nat} {X Y Z : World} (h : KpC n₀ Bs Bz X Y) (k : KpC n₀ Bs Bz Y Z) : KpC n₀ Bs Bz X Z := ⟨h.1.trans k.1, k.2.1.trans h.2.1, k.2.2.trans h.2.2⟩
theorem KpC.own {n₀ Bs Bz : Nat} {w : World} (hn : n₀ ≤ w.heap.size) (hB : Bs < w.heap.size) (hZ : Bz < w.heap.size) (W : World) (l : Nat) (o o' : Obj) (hl : w.heap.size ≤ l) (h : W.heap[l]? = some o) (h1 : o.isCells = false) (h2 : o.isWalk = false) : KpC n₀ Bs Bz W (W.putObj l o') :=
 ⟨belowK_b hn W l o o' hl h h1 h2, World.putObj_heap_other (by omega), World.putObj_heap_other (by omega)⟩
theorem zgi {W W' : World} {row : Option Nat} {B : Nat} {t : TypeId} {v : Value} (h : Boxed W B t v) (hg : W.grownBy W' row) (hr : ∀ r, row = some r → ∃ o : Obj, W.heap[r]? = some o ∧ o.isCells = false) : Boxed W' B t v := boxed_own B t (fun _ : Unit => v) () W W' row h hg hr
def ReI (w : World) (b : List UInt8) (n₀ Bl Bs Bz : Nat) (s : Value) {cnt : Nat} (pre : List (Ck cnt)) (W : World) : Prop :=
 ((∃ v, Boxed W Bl 30 v ∧ W.ownsRow n₀ 148 2 v pre.length (zbm (pre.map (fun x => gnA b x.1))) ∧ True) ∧ Boxed W Bs 22 s ∧ Boxed W Bz 3 (.int .i64 16)) ∧ Below n₀ w W
theorem zpn (w : World) (b : List UInt8) (n₀ Bl Bs Bz : Nat) (s : Value) {cnt : Nat} (B : Nat) (hn : n₀ ≤ w.heap.size) (hB : n₀ ≤ B) : OwnFrom B (ReI w b n₀ Bl Bs Bz s (cnt := cnt)) :=
 OwnFrom.and (Own.from (fun pre A B row hs hg hr => ⟨holdsRow_own n₀ Bl 30 148 2 (fun (p : List (Ck cnt)) => p.length) (fun p => zbm (p.map (fun x => gnA b x.1))) (fun _ _ => True) pre A B row hs.1 hg hr, zgi hs.2.1 hg hr, zgi hs.2.2 hg hr⟩) _) (ownFrom_below hn hB)
theorem zdV (b : List UInt8) (n c : Nat) (A : Option Addr) (w : World) (HN : Hid (b.length = n)) (hr : Rd vB w A b) (hn : n ≤ 1000000000) (hc : n ≤ c) (HS : Hid (b.length = 0 ∨ 64 < cntG b ∨ b.length < 1 + 16 * cntG b)) :
  Calls Tryz.prog 185 #[.slice A n c] w (zpm w (zaO b).1 (zaO b).2.1 (zaO b).2.2) := by
 obtain ⟨P, hP⟩ : ∃ P, P = zaO b := ⟨_, rfl⟩
 rw [← hP]
 have hlen := HN.out
 by_cases h0 : n = 0
 ·have HP : Hid (P = ([], 0, 2)) := hP.trans (zmV (by omega))
  clear hP
  subst h0
  go_enter Tryz.func185, Tryz.ntmps185
  go_wp2_with fail
  go_ret3
  exact ⟨_, by rw [HP.out]; rfl, by rw [HP.out]; exact World.ownsRow_nil _ _ _ _, Below.refl _ _⟩
 ·have hb0 : b.length ≠ 0 := by omega
  obtain ⟨blk, o, rfl, hblk, hcell⟩ := hr.at (k := 0) (by omega)
  have hc0 := hcell 0 (by omega)
  have hcnt : cntG b = (b[0]'(by omega)).toNat := by unfold cntG; rw [List.getD_eq_getElem?_getD, List.getElem?_eq_getElem (by omega)]; rfl
  rw [Nat.add_zero] at hc0
  unfold vB at hc0
  rw [← hcnt] at hc0
  have hlt : cntG b < 256 := by rw [hcnt]; exact UInt8.toNat_lt _
  have HC := Lib.hid hcnt
  have z1 : ((n : Int) == 0) = false := beq_eq_false_iff_ne.2 (by omega)
  have hp : (0 : Int) < (n : Int) := by omega
  by_cases h64 : 64 < cntG b
  ·have HP : Hid (P = ([], 0, 3)) := hP.trans (zmW hb0 h64)
   clear hP hcell hcnt HS
   generalize cntG b = q at hc0 hlt h64 HC
   go_enter Tryz.func185, Tryz.ntmps185
   go_wp2_with fail
   go_ret3
   exact ⟨_, by rw [HP.out]; rfl, by rw [HP.out]; exact World.ownsRow_nil _ _ _ _, Below.refl _ _⟩
  ·have hsh : b.length < 1 + 16 * cntG b := by rcases HS.out with h | h | h; exact absurd h hb0; exact absurd h h64; exact h
   have HP : Hid (P = ([], 0, 2)) := hP.trans (zlg hb0 h64 hsh)
   rw [hlen] at hsh
   clear hP hcell hcnt HS
   generalize cntG b = q at hc0 hlt h64 HC hsh
   go_enter Tryz.func185, Tryz.ntmps185
   go_wp2_with fail
   go_ret3
   exact ⟨_, by rw [HP.out]; rfl, by rw [HP.out]; exact World.ownsRow_nil _ _ _ _, Below.refl _ _⟩
end Go.Proofs.YteljklkgdejhpaaGreatDoor
namespace Go.Proofs.YteljklkgdejhpaaGreatDoor
open Go.RowKit
def zmY (Q : Exit → Act → World → Prop) : Exit → Act → World → Prop
 | .panic _, _, _ => False
 | .outgrown, _, _ => False
 | e, a, w => Q e a w
theorem zg7 {Q : Exit → Act → World → Prop} : ¬ LetsOut (zmY Q) := fun ⟨_, _, h⟩ => h
theorem zgP {n l₀ : Nat} {P : Program} {row : String} {args : Array Value} {w : World} {R : Value → World → Prop} (h : Rows P row args w R) : RowsIn (Fence.wide.inRound l₀) n P row args w R :=
 fun c cs _ => let ⟨v, w', r, s⟩ := h c cs; ⟨v, w', r, stepsIn_wide.2 s⟩
section
variable {P : Program} {ops : Array Oper} {n l₀ : Nat} {Q : Exit → Act → World → Prop}
theorem zlh {o : Oper} {a : Act} {w : World} {K K' : Act → World → Prop} (hd : ∀ c, o.op ≠ .defer c) (hK : ∀ a w, K a w → K' a w) (h : o.wp P a w K (zmY Q)) : o.wpIn (Fence.wide.inRound l₀) n P a w K' Q := by
 unfold Oper.wp at h
 unfold Oper.wpIn
 refine ⟨fun _ _ => trivial, ?_⟩
 have e : (Fence.wide.inRound l₀).round = some l₀ := rfl
 rw [e, Oper.semAt_some l₀ a.eval o hd]
 generalize (execOp a.eval o).run P w = r at *
 cases r with
 | ok x w' =>
  cases x <;> simp only [Oper.upon] at h <;> simp only [Oper.uponIn]
  case enter f args =>
   refine ⟨fun h0 => (by cases h0), ?_⟩
   refine CallsIn.inRound l₀ (callsIn_wide.2 (h.mono fun e w'' he => ?_))
   cases e with
   | returned v => exact hK _ _ he
   | panicked c => exact he.elim
   | outgrown => exact (zg7 he).elim
  case row row args => exact ⟨fun h0 => (by cases h0), zgP (h.mono fun v w'' hv => hK _ _ hv)⟩
  all_goals exact hK _ _ h
 | halt x w' =>
  cases x <;> simp only [Oper.upon] at h <;> simp only [Oper.uponIn]
  case panic v => exact h.elim
theorem zb8 {S : World → Prop} (hd : zjL ops.toList = true) : ∀ (fuel : Nat) (listed : Array Bool) (a : Act) (w : World), wpAnyH P .any ops (zmY Q) S fuel listed a w → wpAnyIn (Fence.wide.inRound l₀) n P .any ops Q fuel listed a w
 | 0, listed, a, w, h => ⟨h.1, h.2⟩
 | fuel + 1, listed, a, w, h => by
  refine ⟨fun h0 => h.1 h0, fun i hi => ?_⟩
  have hi' := h.2 i hi
  unfold wpOp at hi'
  unfold wpOpIn
  split
  ·rename_i ho
   simp only [ho] at hi'
   exact zb8 hd fuel _ a w hi'.2
  ·rename_i o ho
   simp only [ho] at hi'
   split
   ·rename_i hw
    simp only [hw, if_true] at hi'
    rcases hi' with h1 | ⟨_, h1⟩
    ·exact zlh (zlf hd (i := i) (by simpa using ho)) (fun a' w' h' => zb8 hd fuel _ a' w' h'.2) h1
    ·exact (zg7 h1).elim
   ·rename_i hw
    simp only [hw] at hi'
    exact ⟨fun _ _ => trivial, zb8 hd fuel _ _ _ hi'.2⟩
theorem zez (S : World → Prop) (plan : Plan) {id : Nat} {a : Act} {w : World} (hS : S w.drew) (hm : P.follows .mixedOrders = true) (hs : Region.noSelect ops = true) (hd : zjL ops.toList = true) (hlen : plan.size = ops.size) (hp : zcB ops plan (Array.replicate ops.size false) = true)
  (h : za1 P ops (zmY Q) plan S a w.drew) : (Code.region id ops true).wpIn (Fence.wide.inRound l₀) n P Q a w := by
 refine wpIn_region_any hm ?_
 have := zba hs (fun _ _ _ _ _ h => h) plan S _ a w.drew hS hp h
 rw [hlen] at this
 exact zb8 hd _ _ _ _ this
theorem zdC {S : World → Prop} {a : Act} {w : World} (h : Q .normal a w) : za1 P ops (zmY Q) .nil S a w := h
end
end Go.Proofs.YteljklkgdejhpaaGreatDoor
namespace Go.Proofs.YteljklkgdejhpaaGreatDoor
open Go.RowKit Go.Shelf
attribute [local go_sem] Oper.semAt_some
theorem Rd.chA {w : World} {A : Option Addr} {l : List UInt8} (h : Rd vB w A l) (k : Nat) : Rd vB w (chA A k) (l.drop k) := by
 have := h.drop k (l.length + k + 1) (by omega)
 rw [if_neg (by omega)] at this
 exact this
theorem zdW {w : World} {base : Nat} {e : TypeId} {v : Value} {n : Nat} {xs : List Value} (h : w.ownsRow base e 2 v n xs) : ∃ A cap, v = .slice A n cap ∧ n ≤ cap := by
 rcases h.2 with ⟨rfl, rfl⟩ | ⟨g, cap, cur, rfl, _, _, hc, _⟩
 ·exact ⟨none, 0, rfl, Nat.le_refl _⟩
 ·exact ⟨_, cap, rfl, hc⟩
theorem zjM (b : List UInt8) (n c : Nat) (A : Option Addr) (w : World) (HN : Hid (b.length = n)) (hr : Rd vB w A b) (hn : n ≤ 1000000000) (hc : n ≤ c) (h0 : b.length ≠ 0) (h64 : ¬ 64 < cntG b) (hen : ¬ b.length < 1 + 16 * cntG b) :
  Calls Tryz.prog 185 #[.slice A n c] w (zpm w (zaO b).1 (zaO b).2.1 (zaO b).2.2) := by
 obtain ⟨j0, hj, gz0, gz1, gz2⟩ := info_parts ziE
 obtain ⟨P, hP⟩ : ∃ P, P = zaO b := ⟨_, rfl⟩
 rw [← hP]
 have HP : Hid (P = _) := hP.trans (zmX h0 h64 hen)
 clear hP
 have hlen := HN.out
 obtain ⟨blk, o, rfl, hblk, hcell⟩ := hr.at (k := 0) (by omega)
 have hc0 := hcell 0 (by omega)
 have hcnt : cntG b = (b[0]'(by omega)).toNat := by unfold cntG; rw [List.getD_eq_getElem?_getD, List.getElem?_eq_getElem (by omega)]; rfl
 rw [Nat.add_zero] at hc0
 unfold vB at hc0
 rw [← hcnt] at hc0
 obtain ⟨A1, hA1⟩ : ∃ A1, (if c = 1 then some ⟨blk, o, none⟩ else (some (⟨blk, o, none⟩ : Addr)).map (·.add (1 * 1))) = A1 := ⟨_, rfl⟩
 have hr1 : Rd vB w A1 (b.drop 1) := by rw [← hA1]; exact hr.drop 1 c (by omega)
 have HR1 := Lib.hid hr1
 clear hcell hcnt hr1
 generalize cntG b = q at hc0 h64 hen HP
 have z1 : ((n : Int) == 0) = false := beq_eq_false_iff_ne.2 (by omega)
 have hp : (0 : Int) < (n : Int) := by omega
 obtain ⟨E, hE⟩ : ∃ E : Nat, E = 1 + 16 * q := ⟨_, rfl⟩
 rw [hlen] at hen
 have hEn : E ≤ n := by omega
 have HE := Lib.hid hE
 have hcut : ∀ W, (Instr.slice 22 (.slice (some ⟨blk, o, none⟩) n c) (some (.int .i64 1)) (some (.int .i64 (E : Int))) none).run Tryz.prog W = .ok (.slice A1 (16 * q) (c - 1)) W := fun W => by
  have := zpk (some ⟨blk, o, none⟩) n c 1 (16 * q) (by omega) W
  rw [show ((1 : Nat) : Int) + ((16 * q : Nat) : Int) = (E : Int) by omega] at this
  rw [hA1] at this
  exact this
 have HCUT := Lib.hid hcut
 have d64 : ¬ (64 : Int) < (q : Int) := by omega
 have dn : ¬ (n : Int) < 1 + (q : Int) * 16 := by omega
 have HQ : Hid (q ≤ 64) := by unfold Hid; omega
 have HEN : Hid (E ≤ n) := hEn
 clear hcut hlen h0 hE hA1
 refine (callsIn_wide (n := 3)).1 ?_
 refine callsIn_of_wp_marks Tryz.func185 rfl trivial ?_ rfl
 simp only [Tryz.ntmps185, List.size_toArray, List.length_cons, List.length_nil, Nat.reduceAdd, Nat.reduceSub, Array.replicate_succ, Array.replicate_zero, List.push_toArray, List.append_toArray, List.nil_append, List.cons_append]
 refine wpIn_wide.2 ?_
 go_upto_region 9 with fail
 have e1 : (1 + (q : Int) * 16) = (E : Int) := by have := HE.out; omega
 rw [e1]
 clear e1 hc0 z1 d64 dn h64 hen hEn hp
 have hq64 : q ≤ 64 := HQ.out
 go_upto_region 10 with (at_make; refine wpList_make_own _ rfl _ _ 30 rfl w.heap.size 148 j0 (.agg #[.int .u64 0, .int .u64 0]) 2 Tryz.underlying30 hj gz0 gz1 .i64 .i64 _ q rfl rfl (by omega) (by rw [gz2]; omega) (by unfold maxLen; omega) (Nat.le_refl _) ?_; intro w0 hown0 hgrow0)
 have hB0 : Below w.heap.size w w0 := (Below.refl _ w).grown hgrow0 (Nat.le_refl _) (fun k hk => by cases hk)
 have bL : Boxed (w0.alloc (.cells #[.slice (some ⟨w.heap.size, 0, none⟩) 0 q] 30)) w0.heap.size 30 (.slice (some ⟨w.heap.size, 0, none⟩) 0 q) := Boxed.new _ _ _
 have hown1 := zde hown0 (zak (Below.refl _ w0) (.cells #[.slice (some ⟨w.heap.size, 0, none⟩) 0 q] 30))
 have hB1 := zak hB0 (.cells #[.slice (some ⟨w.heap.size, 0, none⟩) 0 q] 30)
 have hBl : w.heap.size ≤ w0.heap.size := hB0.size
 have hsz1 : (w0.alloc (.cells #[.slice (some ⟨w.heap.size, 0, none⟩) 0 q] 30)).heap.size = w0.heap.size + 1 := by simp
 generalize w0.alloc (.cells #[.slice (some ⟨w.heap.size, 0, none⟩) 0 q] 30) = w1 at bL hown1 hB1 hsz1 ⊢
 generalize w0.heap.size = Bl at bL hsz1 hBl ⊢
 have hcu := HCUT.out
 clear hown0 hgrow0 hB0
 go_wp2_with (go_at_call 191; refine (zmT _ _ _ _).mono ?_; rintro e w' ⟨rfl, rfl⟩)
 clear hcu
 have bS := (Boxed.new w1 22 (.slice A1 (16 * q) (c - 1))).alloc (.cells #[.int .i64 16] 3)
 have bZ := Boxed.new (w1.alloc (.cells #[.slice A1 (16 * q) (c - 1)] 22)) 3 (.int .i64 16)
 rw [World.size_alloc] at bZ
 replace bL := (bL.alloc (.cells #[.slice A1 (16 * q) (c - 1)] 22)).alloc (.cells #[.int .i64 16] 3)
 have hbn : Below w1.heap.size w1 ((w1.alloc (.cells #[.slice A1 (16 * q) (c - 1)] 22)).alloc (.cells #[.int .i64 16] 3)) := zak (zak (Below.refl _ _) _) _
 have hown2 := zde hown1 hbn
 have hB2 := zaa hB1 hbn
 have hsz2 : ((w1.alloc (.cells #[.slice A1 (16 * q) (c - 1)] 22)).alloc (.cells #[.int .i64 16] 3)).heap.size = Bl + 3 := by simp [hsz1]
 rw [hsz1] at bS bZ
 clear hown1 hbn hB1
 generalize ((w1.alloc (.cells #[.slice A1 (16 * q) (c - 1)] 22)).alloc (.cells #[.int .i64 16] 3)) = W0 at bL bS bZ hown2 hB2 hsz2 ⊢
 have HLN : Hid (16 * q = 16 * q) := rfl
 refine (wpIn_wide (n := 3)).1 ?_
 refine wpIn_rangeFunc_ownG rfl (by omega) (gf := 197) (lb := #[.pointer (some ⟨Bl + 1, 0, none⟩), .pointer (some ⟨Bl + 1 + 1, 0, none⟩)]) rfl trivial (enters_of Tryz.func197 (by kernel_rfl) rfl)
  (zjK _ (by omega) (Bl + 1) (Bl + 1 + 1) q (16 * q) (c - 1) A1 (KpC w.heap.size (Bl + 1) (Bl + 1 + 1)) (Lib.hid rfl) (by have := HQ.out; omega) (by have := HE.out; have := HEN.out; omega) W0 (KpC.refl _ _ _) (fun _ _ _ => KpC.trans) (KpC.drew _ _ _)
   (fun W hW W' hK => ⟨by
    have h1 : W'.heap[Bl + 1]? = W0.heap[Bl + 1]? := hK.2.1.trans (hW.block _ (by omega))
    exact Boxed.cell (t := 22) (h1.trans bS), by
    have h1 : W'.heap[Bl + 1 + 1]? = W0.heap[Bl + 1 + 1]? := hK.2.2.trans (hW.block _ (by omega))
    exact Boxed.cell (t := 3) (h1.trans bZ)⟩))
  (fun h k => KpC.trans h k) (KpC.own (by omega) (by omega) (by omega)) (Below.refl _ _) (fun _ => rfl)
  (ReI w (b.drop 1) w.heap.size Bl (Bl + 1) (Bl + 1 + 1) (.slice A1 (16 * q) (c - 1))) (fun _ _ _ => False) (zpn w (b.drop 1) w.heap.size Bl (Bl + 1) (Bl + 1 + 1) (.slice A1 (16 * q) (c - 1)) _ (Nat.le_refl _) (by omega)) (fun _ _ _ _ _ hs _ _ => hs)
  ⟨⟨⟨_, bL, hown2, trivial⟩, bS, bZ⟩, hB2⟩
  (fun x => { tmps := #[.slice (some ⟨blk, o, none⟩) n c, undef, .slice none 0 0, .int .i64 0, .int .i64 0, .int .i64 (q : Int), .int .i64 (E : Int), .pointer (some ⟨Bl, 0, none⟩), .slice (chA A1 (16 * x.1)) 16 16, .slice (some ⟨blk, o, none⟩) n c, .int .i64 (n : Int), .bool false, .slice (some ⟨blk, o, none⟩) n c, .pointer (some ⟨blk, o, none⟩), .int .u8 (q : Int), .int .i64 (q : Int), .int .i64 (q : Int), .int .i64 ((q : Int) * 16), .int .i64 (E : Int), .bool false, .int .i64 (q : Int), .bool false, .bool false, .slice (some ⟨blk, o, none⟩) n c, .int .i64 (n : Int), .int .i64 (E : Int), .bool false, .int .i64 (q : Int), .slice (some ⟨w.heap.size, 0, none⟩) 0 q, .slice (some ⟨blk, o, none⟩) n c, .int .i64 (E : Int), .slice A1 (16 * q) (c - 1), .func (.func 197) #[] #[.pointer (some ⟨Bl + 1, 0, none⟩), .pointer (some ⟨Bl + 1 + 1, 0, none⟩)], .slice (chA A1 (16 * x.1)) 16 16, undef, undef, undef, undef, undef, undef, undef, undef, undef, undef, undef, undef, undef, undef, undef], defers := [] }) ?assign ?body ?done ?stop
 case assign =>
  intro l x W K hK
  unfold Ck.enc
  gi_wp2
  exact hK
 case body =>
  rintro l pre x W ⟨⟨⟨v, hv, hown, _⟩, hs, hz⟩, hB⟩ hpl
  have hxq := x.2
  have HXJ : Hid (gnA (b.drop 1) x.1 = gnA (b.drop 1) x.1) := rfl
  have hbl : (b.drop 1).length = n - 1 := by rw [List.length_drop, HN.out]
  have hrW := (HR1.out.keep hB).chA (16 * x.1)
  have hEQ := HE.out
  have hEN := HEN.out
  obtain ⟨L1, hL1⟩ : ∃ L, ((b.drop 1).drop (16 * x.1)).take 8 = L := ⟨_, rfl⟩
  obtain ⟨L2, hL2⟩ : ∃ L, ((b.drop 1).drop (16 * x.1 + 8)).take 8 = L := ⟨_, rfl⟩
  have hn1 : L1.length = 8 := by rw [← hL1, List.length_take, List.length_drop, hbl]; omega
  have hn2 : L2.length = 8 := by rw [← hL2, List.length_take, List.length_drop, hbl]; omega
  obtain ⟨v1, hv1⟩ : ∃ v, valN L1 = v := ⟨_, rfl⟩
  obtain ⟨v2, hv2⟩ : ∃ v, valN L2 = v := ⟨_, rfl⟩
  have HG : Hid (gnA (b.drop 1) x.1 = (v1, v2)) := by unfold Hid gnA; rw [hL1, hL2, hv1, hv2]
  have hr1 : Rd vB W (chA A1 (16 * x.1)) L1 := by rw [← hL1]; exact hrW.take 8
  have hr2 : Rd vB W ((chA A1 (16 * x.1)).map (·.add (8 * 1))) L2 := by
   have h := (hrW.drop 8 10000000000 (by rw [List.length_drop, hbl]; omega)).take 8
   rw [if_neg (by omega), List.drop_drop, hL2] at h
   exact h
  have hcl := hv.cell
  have hcf := hv.frozen
  have hct : ∀ W, (Instr.slice 22 (.slice (chA A1 (16 * x.1)) 16 16) none (some (.int .i64 8)) none).run Tryz.prog W = .ok (.slice (chA A1 (16 * x.1)) 8 16) W := fun W => zcd (P := Tryz.prog) 22 5 Tryz.underlying22 za0 _ 16 16 8 (by omega) W
  have hcg : ∀ W, (Instr.slice 22 (.slice (chA A1 (16 * x.1)) 16 16) (some (.int .i64 8)) none none).run Tryz.prog W = .ok (.slice ((chA A1 (16 * x.1)).map (·.add (8 * 1))) 8 8) W := fun W => by
   have he : Tryz.prog.elem 22 = 5 := by simp [Program.elem, Tryz.underlying22]
   rw [run_slice_l W 22 _ 16 16 (by rw [he]; exact Tryz.underlying22) .i64 8 (by omega) (by omega), he, za0]
   simp [Result.andThen, sliced]
  generalize (chA A1 (16 * x.1)).map (·.add (8 * 1)) = A3 at hr2 hcg
  generalize chA A1 (16 * x.1) = A2 at hr1 hct hcg hrW ⊢
  have HC1 := Lib.hid (zfw L1 A2 16 W.drew (hr1.keep (Below.refl _ _).drew) hn1 v1 hv1)
  have HC2 := Lib.hid (zfw L2 A3 8 W.drew (hr2.keep (Below.refl _ _).drew) hn2 v2 hv2)
  clear hr1 hr2 hrW hL1 hL2 hn1 hn2 hv1 hv2 hbl hEQ hEN bL bS bZ hown2 hB2 HXJ
  gi_wp2
  have hS : True := trivial
  have hclD : W.drew.cell? ⟨Bl, 0, none⟩ = some v := hcl
  have hnew : (W.drew.alloc (.cells #[.int .u64 (v1 : Int), .int .u64 (v2 : Int)] 148)).cell? ⟨Bl, 0, none⟩ = some v := by rw [World.cell?_alloc_lt _ _ _ (World.block_lt_of_cell? _ _ hclD)]; exact hclD
  refine zez (fun _ => True) (.step 1 false (.step 2 false (.step 4 false (.step 5 false (.fork 0 (.step 3 true (.step 6 true (.step 7 false (.step 8 true (.step 9 true (.step 10 true .nil)))))) 3 (.fork 0 (.step 6 true (.step 7 false (.step 8 true (.step 9 true (.step 10 true .nil))))) 6 (.step 7 false (.fork 0 (.step 8 true (.step 9 true (.step 10 true .nil))) 8 (.step 0 true (.step 9 true (.step 10 true .nil))))))))))) trivial (by kernel_rfl) (by kernel_rfl) (by rfl) (by rfl) (by kernel_rfl) ?_
  have hvD : Boxed W.drew Bl 30 v := hv
  have hownD : W.drew.ownsRow w.heap.size 148 2 v pre.length (zbm (pre.map (fun x => gnA (b.drop 1) x.1))) := hown
  have hsD : Boxed W.drew (Bl + 1) 22 (.slice A1 (16 * q) (c - 1)) := hs
  have hzD : Boxed W.drew (Bl + 1 + 1) 3 (.int .i64 16) := hz
  have HBD : Hid (Below w.heap.size w W.drew) := hB.drew
  have HKD : Hid (KeepsOthers W W.drew) := KeepsOthers.drew W
  have HWD : Hid (Below w.heap.size W W.drew ∧ W.drew.heap[Bl + 1]? = W.heap[Bl + 1]? ∧ W.drew.heap[Bl + 1 + 1]? = W.heap[Bl + 1 + 1]?) := ⟨(Below.refl _ _).drew, rfl, rfl⟩
  clear hcf hcl hv hown hs hz hB
  generalize W.drew = wd at *
  have HG2 : Hid (zbm ((pre ++ [x]).map (fun x => gnA (b.drop 1) x.1)) = zbm (pre.map (fun x => gnA (b.drop 1) x.1)) ++ zbm [(v1, v2)]) := by
   unfold Hid
   rw [List.map_append, zk8, List.map_cons, List.map_nil, HG.out]
  have hpq : pre.length < 64 := by omega
  have hrp : RdG (wd.alloc (.cells #[.int .u64 (v1 : Int), .int .u64 (v2 : Int)] 148)) (some ⟨wd.heap.size, 0, none⟩) [(v1, v2)] := fun _ => by
   refine ⟨wd.heap.size, 0, rfl, fun i hi => ?_⟩
   have hi0 : i = 0 := by simpa using hi
   subst hi0
   have hRn : Row (wd.alloc (.cells #[.int .u64 (v1 : Int), .int .u64 (v2 : Int)] 148)) wd.heap.size 148 [.int .u64 (v1 : Int), .int .u64 (v2 : Int)] := Row.new wd _ _ _ rfl
   exact ⟨hRn.cell rfl, hRn.cell rfl⟩
  have hszd : w.heap.size ≤ wd.heap.size := HBD.out.size
  iterate 4 (refine zae rfl (by rfl) (v := ?_) ?_ ?_; rotate_left 1; (intro W hW; go_simp <;> with_reducible rfl); simp only [List.getElem_toArray, List.getElem_cons_zero, List.getElem_cons_succ, Act.put, List.setIfInBounds_toArray, List.set_cons_zero, List.set_cons_succ])
  refine zco rfl rfl (by rfl) (by rfl) (fun K hK => ?_) (fun K hK => ?_)
  ·go_simp
   refine hK.out _ _ trivial ?_
   clear hK K
   (refine zad rfl (by rfl) (fun K hK => ?_); go_simp; (refine HC1.out.mono ?_; rintro e₁ w4 ⟨rfl, h4⟩; replace h4 := h4.symm; subst h4); refine hK.out _ _ hS ?_; clear hK K)
   (refine zad rfl (by rfl) (fun K hK => ?_); go_simp; (refine HC2.out.mono ?_; rintro e₁ w4 ⟨rfl, h4⟩; replace h4 := h4.symm; subst h4); refine hK.out _ _ hS ?_; clear hK K)
   iterate 1 (refine zae rfl (by rfl) (v := ?_) ?_ ?_; rotate_left 1; (intro W hW; go_simp <;> with_reducible rfl); simp only [List.getElem_toArray, List.getElem_cons_zero, List.getElem_cons_succ, Act.put, List.setIfInBounds_toArray, List.set_cons_zero, List.set_cons_succ])
   (refine zad rfl (by rfl) (fun K hK => ?_); go_simp; skip; refine hK.out _ _ hS ?_; clear hK K)
   refine zad rfl (by rfl) (fun K hK => ?_)
   refine zb7 _ (.tmp 34) (.tmp 42) 30 (by rfl) w.heap.size 148 j0 (.agg #[.int .u64 0, .int .u64 0]) 16 Tryz.underlying30 hj gz0 gz1 gz2 rfl v pre.length _ (by rfl) (hownD.alloc _) (some ⟨wd.heap.size, 0, none⟩) [(v1, v2)] 1 (by rfl) hrp (by simp; unfold maxLen; omega) (by simp; omega) (by simp; omega) ?_
   intro v3 w3 hown3 hgrow3 _
   obtain ⟨hv4, hv5, hr5, hk5, hb5⟩ := hvD.appended (by decide) hownD hszd hBl hown3 hgrow3
   have hs4 := (hsD.alloc (.cells #[.int .u64 (v1 : Int), .int .u64 (v2 : Int)] 148)).kept hgrow3 (hsD.not_row (by decide) hownD)
   have hz4 := (hzD.alloc (.cells #[.int .u64 (v1 : Int), .int .u64 (v2 : Int)] 148)).kept hgrow3 (hzD.not_row (by decide) hownD)
   obtain ⟨A5, c5, hv3E, _⟩ := zdW hown3
   subst hv3E
   simp only [List.getElem_toArray, List.getElem_cons_zero, List.getElem_cons_succ, Act.put, List.setIfInBounds_toArray, List.set_cons_zero, List.set_cons_succ]
   refine hK.out _ _ trivial ?_
   clear hK K
   have hc9 := hv4.cell
   have hf9 := hv4.frozen
   (refine zad rfl (by rfl) (fun K hK => ?_); go_simp; skip; refine hK.out _ _ hS ?_; clear hK K)
   refine zdC ?_
   gi_wp2
   have hs5 := hs4.other (B' := Bl) (by omega) (.slice A5 (pre.length + 1) c5)
   have hz5 := hz4.other (B' := Bl) (by omega) (.slice A5 (pre.length + 1) c5)
   refine ⟨(HKD.out.trans hk5).from _, ⟨HWD.out.1.trans hb5, ?_, ?_⟩, ⟨⟨_, hv5, ?_, trivial⟩, hs5, hz5⟩, HBD.out.trans hb5⟩
   ·exact (show _ = _ from hs5).trans ((show wd.heap[Bl + 1]? = _ from hsD).symm.trans HWD.out.2.1)
   ·exact (show _ = _ from hz5).trans ((show wd.heap[Bl + 1 + 1]? = _ from hzD).symm.trans HWD.out.2.2)
   ·rw [HG2.out, List.length_append]
    exact hr5
  ·go_simp
   refine HC1.out.mono ?_; rintro e₁ w4 ⟨rfl, h4⟩; replace h4 := h4.symm; subst h4
   refine hK.out _ _ trivial ?_
   clear hK K
   refine zco rfl rfl (by rfl) (by rfl) (fun K hK => ?_) (fun K hK => ?_)
   ·go_simp
    refine hK.out _ _ trivial ?_
    clear hK K
    (refine zad rfl (by rfl) (fun K hK => ?_); go_simp; (refine HC2.out.mono ?_; rintro e₁ w4 ⟨rfl, h4⟩; replace h4 := h4.symm; subst h4); refine hK.out _ _ hS ?_; clear hK K)
    iterate 1 (refine zae rfl (by rfl) (v := ?_) ?_ ?_; rotate_left 1; (intro W hW; go_simp <;> with_reducible rfl); simp only [List.getElem_toArray, List.getElem_cons_zero, List.getElem_cons_succ, Act.put, List.setIfInBounds_toArray, List.set_cons_zero, List.set_cons_succ])
    (refine zad rfl (by rfl) (fun K hK => ?_); go_simp; skip; refine hK.out _ _ hS ?_; clear hK K)
    refine zad rfl (by rfl) (fun K hK => ?_)
    refine zb7 _ (.tmp 34) (.tmp 42) 30 (by rfl) w.heap.size 148 j0 (.agg #[.int .u64 0, .int .u64 0]) 16 Tryz.underlying30 hj gz0 gz1 gz2 rfl v pre.length _ (by rfl) (hownD.alloc _) (some ⟨wd.heap.size, 0, none⟩) [(v1, v2)] 1 (by rfl) hrp (by simp; unfold maxLen; omega) (by simp; omega) (by simp; omega) ?_
    intro v3 w3 hown3 hgrow3 _
    obtain ⟨hv4, hv5, hr5, hk5, hb5⟩ := hvD.appended (by decide) hownD hszd hBl hown3 hgrow3
    have hs4 := (hsD.alloc (.cells #[.int .u64 (v1 : Int), .int .u64 (v2 : Int)] 148)).kept hgrow3 (hsD.not_row (by decide) hownD)
    have hz4 := (hzD.alloc (.cells #[.int .u64 (v1 : Int), .int .u64 (v2 : Int)] 148)).kept hgrow3 (hzD.not_row (by decide) hownD)
    obtain ⟨A5, c5, hv3E, _⟩ := zdW hown3
    subst hv3E
    simp only [List.getElem_toArray, List.getElem_cons_zero, List.getElem_cons_succ, Act.put, List.setIfInBounds_toArray, List.set_cons_zero, List.set_cons_succ]
    refine hK.out _ _ trivial ?_
    clear hK K
    have hc9 := hv4.cell
    have hf9 := hv4.frozen
    (refine zad rfl (by rfl) (fun K hK => ?_); go_simp; skip; refine hK.out _ _ hS ?_; clear hK K)
    refine zdC ?_
    gi_wp2
    have hs5 := hs4.other (B' := Bl) (by omega) (.slice A5 (pre.length + 1) c5)
    have hz5 := hz4.other (B' := Bl) (by omega) (.slice A5 (pre.length + 1) c5)
    refine ⟨(HKD.out.trans hk5).from _, ⟨HWD.out.1.trans hb5, ?_, ?_⟩, ⟨⟨_, hv5, ?_, trivial⟩, hs5, hz5⟩, HBD.out.trans hb5⟩
    ·exact (show _ = _ from hs5).trans ((show wd.heap[Bl + 1]? = _ from hsD).symm.trans HWD.out.2.1)
    ·exact (show _ = _ from hz5).trans ((show wd.heap[Bl + 1 + 1]? = _ from hzD).symm.trans HWD.out.2.2)
    ·rw [HG2.out, List.length_append]
     exact hr5
   ·go_simp
    refine HC2.out.mono ?_; rintro e₁ w4 ⟨rfl, h4⟩; replace h4 := h4.symm; subst h4
    refine hK.out _ _ trivial ?_
    clear hK K
    iterate 1 (refine zae rfl (by rfl) (v := ?_) ?_ ?_; rotate_left 1; (intro W hW; go_simp <;> with_reducible rfl); simp only [List.getElem_toArray, List.getElem_cons_zero, List.getElem_cons_succ, Act.put, List.setIfInBounds_toArray, List.set_cons_zero, List.set_cons_succ])
    refine zco rfl rfl (by rfl) (by rfl) (fun K hK => ?_) (fun K hK => ?_)
    ·go_simp
     refine hK.out _ _ trivial ?_
     clear hK K
     (refine zad rfl (by rfl) (fun K hK => ?_); go_simp; skip; refine hK.out _ _ hS ?_; clear hK K)
     refine zad rfl (by rfl) (fun K hK => ?_)
     refine zb7 _ (.tmp 34) (.tmp 42) 30 (by rfl) w.heap.size 148 j0 (.agg #[.int .u64 0, .int .u64 0]) 16 Tryz.underlying30 hj gz0 gz1 gz2 rfl v pre.length _ (by rfl) (hownD.alloc _) (some ⟨wd.heap.size, 0, none⟩) [(v1, v2)] 1 (by rfl) hrp (by simp; unfold maxLen; omega) (by simp; omega) (by simp; omega) ?_
     intro v3 w3 hown3 hgrow3 _
     obtain ⟨hv4, hv5, hr5, hk5, hb5⟩ := hvD.appended (by decide) hownD hszd hBl hown3 hgrow3
     have hs4 := (hsD.alloc (.cells #[.int .u64 (v1 : Int), .int .u64 (v2 : Int)] 148)).kept hgrow3 (hsD.not_row (by decide) hownD)
     have hz4 := (hzD.alloc (.cells #[.int .u64 (v1 : Int), .int .u64 (v2 : Int)] 148)).kept hgrow3 (hzD.not_row (by decide) hownD)
     obtain ⟨A5, c5, hv3E, _⟩ := zdW hown3
     subst hv3E
     simp only [List.getElem_toArray, List.getElem_cons_zero, List.getElem_cons_succ, Act.put, List.setIfInBounds_toArray, List.set_cons_zero, List.set_cons_succ]
     refine hK.out _ _ trivial ?_
     clear hK K
     have hc9 := hv4.cell
     have hf9 := hv4.frozen
     (refine zad rfl (by rfl) (fun K hK => ?_); go_simp; skip; refine hK.out _ _ hS ?_; clear hK K)
     refine zdC ?_
     gi_wp2
     have hs5 := hs4.other (B' := Bl) (by omega) (.slice A5 (pre.length + 1) c5)
     have hz5 := hz4.other (B' := Bl) (by omega) (.slice A5 (pre.length + 1) c5)
     refine ⟨(HKD.out.trans hk5).from _, ⟨HWD.out.1.trans hb5, ?_, ?_⟩, ⟨⟨_, hv5, ?_, trivial⟩, hs5, hz5⟩, HBD.out.trans hb5⟩
     ·exact (show _ = _ from hs5).trans ((show wd.heap[Bl + 1]? = _ from hsD).symm.trans HWD.out.2.1)
     ·exact (show _ = _ from hz5).trans ((show wd.heap[Bl + 1 + 1]? = _ from hzD).symm.trans HWD.out.2.2)
     ·rw [HG2.out, List.length_append]
      exact hr5
    ·go_simp
     refine hK.out _ _ trivial ?_
     clear hK K
     (refine zad rfl (by rfl) (fun K hK => ?_); go_simp; skip; refine hK.out _ _ hS ?_; clear hK K)
     refine zad rfl (by rfl) (fun K hK => ?_)
     refine zb7 _ (.tmp 34) (.tmp 42) 30 (by rfl) w.heap.size 148 j0 (.agg #[.int .u64 0, .int .u64 0]) 16 Tryz.underlying30 hj gz0 gz1 gz2 rfl v pre.length _ (by rfl) (hownD.alloc _) (some ⟨wd.heap.size, 0, none⟩) [(v1, v2)] 1 (by rfl) hrp (by simp; unfold maxLen; omega) (by simp; omega) (by simp; omega) ?_
     intro v3 w3 hown3 hgrow3 _
     obtain ⟨hv4, hv5, hr5, hk5, hb5⟩ := hvD.appended (by decide) hownD hszd hBl hown3 hgrow3
     have hs4 := (hsD.alloc (.cells #[.int .u64 (v1 : Int), .int .u64 (v2 : Int)] 148)).kept hgrow3 (hsD.not_row (by decide) hownD)
     have hz4 := (hzD.alloc (.cells #[.int .u64 (v1 : Int), .int .u64 (v2 : Int)] 148)).kept hgrow3 (hzD.not_row (by decide) hownD)
     obtain ⟨A5, c5, hv3E, _⟩ := zdW hown3
     subst hv3E
     simp only [List.getElem_toArray, List.getElem_cons_zero, List.getElem_cons_succ, Act.put, List.setIfInBounds_toArray, List.set_cons_zero, List.set_cons_succ]
     refine hK.out _ _ trivial ?_
     clear hK K
     have hc9 := hv4.cell
     have hf9 := hv4.frozen
     (refine zad rfl (by rfl) (fun K hK => ?_); go_simp; skip; refine hK.out _ _ hS ?_; clear hK K)
     refine zdC ?_
     gi_wp2
     have hs5 := hs4.other (B' := Bl) (by omega) (.slice A5 (pre.length + 1) c5)
     have hz5 := hz4.other (B' := Bl) (by omega) (.slice A5 (pre.length + 1) c5)
     refine ⟨(HKD.out.trans hk5).from _, ⟨HWD.out.1.trans hb5, ?_, ?_⟩, ⟨⟨_, hv5, ?_, trivial⟩, hs5, hz5⟩, HBD.out.trans hb5⟩
     ·exact (show _ = _ from hs5).trans ((show wd.heap[Bl + 1]? = _ from hsD).symm.trans HWD.out.2.1)
     ·exact (show _ = _ from hz5).trans ((show wd.heap[Bl + 1 + 1]? = _ from hzD).symm.trans HWD.out.2.2)
     ·rw [HG2.out, List.length_append]
      exact hr5
 case done =>
  rintro D xs W hD hSx ⟨⟨⟨v, hv, hown, _⟩, hs, hz⟩, hB⟩ hDf
  have hxs : xs.map (fun x => gnA (b.drop 1) x.1) = zcP q (b.drop 1) := by
   rw [zhT, ← hSx, List.map_map]
   rfl
  have hxl : xs.length = q := by
   have := congrArg List.length hSx
   simpa using this
  rw [hxs, hxl] at hown
  obtain ⟨hft1, hft2, hft3⟩ := zeE q (b.drop 1) (by rw [List.length_drop, HN.out]; have := HE.out; have := HEN.out; omega)
  obtain ⟨A5, c5, rfl, hq5⟩ := zdW hown
  have hrd : RdG W A5 (zcP q (b.drop 1)) := RdG.own hown
  have HRT := Lib.hid (fun W' hW' => zey (zcP q (b.drop 1)) q c5 A5 W' hft2 (hrd.keep hW') hft3 (by omega))
  have hcl := hv.cell
  have HOW := Lib.hid hown
  have HBB := Lib.hid hB
  have HT2 := Lib.hid hft2
  have hDl : D < W.heap.size := (Array.getElem?_eq_some_iff.1 hDf).1
  generalize zcP q (b.drop 1) = l at HOW HRT HP hft2 HT2
  have hcl2 : ∀ W', Below W.heap.size W W' → W'.cell? ⟨Bl, 0, none⟩ = some (.slice A5 q c5) := fun W' h => Boxed.cell ((h.block _ (Boxed.lt hv)).trans hv)
  have HCL := Lib.hid hcl2
  obtain ⟨R, hR⟩ : ∃ R, zb4 l = R := ⟨_, rfl⟩
  rw [hR] at HRT HP
  clear hv hown hs hz hB hxs hxl hft1 hft3 hrd hft2 hcl2 hR bL bS bZ hown2 hB2
  cases R with
  | false =>
   have HPP : Hid (P = ([], 0, 3)) := HP.out
   gi_wp2
   go_wp2_with fail
   refine (HRT.out _ (Below.refl _ _)).mono ?_
   rintro e w2 ⟨rfl, hb2⟩
   have hDf2 : w2.heap[D]? = some (.deferred (some [])) := (hb2.block D hDl).trans hDf
   have HB2 := Lib.hid hb2
   clear hb2 hcl
   go_wp2_with fail
   refine ⟨by simp, .inl ⟨_, _, rfl, run_takeDeferred hDf2, ?_⟩⟩
   refine ⟨_, results_tmp3 rfl _ _ _, _, by rw [HPP.out]; rfl, by rw [HPP.out]; exact World.ownsRow_nil _ _ _ _, ?_⟩
   exact (HBB.out.trans (HB2.out.mono HBB.out.size)).trans (belowK_b (w := w) (Nat.le_refl _) w2 D _ _ (by have := HBB.out.size; omega) hDf2 rfl rfl)
  | true =>
   have HPP : Hid (P = (l, 1 + 16 * q, 0)) := HP.out
   gi_wp2
   go_wp2_with fail
   refine (HRT.out _ (Below.refl _ _)).mono ?_
   rintro e w2 ⟨rfl, hb2⟩
   have hDf2 : w2.heap[D]? = some (.deferred (some [])) := (hb2.block D hDl).trans hDf
   have hcl3 := HCL.out _ hb2
   have HB2 := Lib.hid hb2
   clear hb2 hcl
   go_wp2_with fail
   refine ⟨by simp, .inl ⟨_, _, rfl, run_takeDeferred hDf2, ?_⟩⟩
   have hown3 := ownsRow_putObj (zde HOW.out HB2.out) (.deferred none) hDf2 rfl
   refine ⟨_, results_tmp3 rfl _ _ _, .slice A5 q c5, by rw [HPP.out, ← HE.out]; rfl, by rw [HPP.out]; dsimp only; rw [HT2.out]; exact hown3, ?_⟩
   exact (HBB.out.trans (HB2.out.mono HBB.out.size)).trans (belowK_b (w := w) (Nat.le_refl _) w2 D _ _ (by have := HBB.out.size; omega) hDf2 rfl rfl)
 case stop =>
  rintro D c pre W _ _ h _
  exact h.elim
end Go.Proofs.YteljklkgdejhpaaGreatDoor
namespace Go.Proofs.YteljklkgdejhpaaGreatDoor
open Go.RowKit
theorem zmZ (k : Nat) (D : List UInt8) : (zcP k D).length = k := by rw [zhT]; simp
theorem zli (b : List UInt8) (n c : Nat) (A : Option Addr) (w : World) (HN : Hid (b.length = n)) (hr : Rd vB w A b) (hn : n ≤ 1000000000) (hc : n ≤ c) :
  Calls Tryz.prog 185 #[.slice A n c] w (zpm w (zaO b).1 (zaO b).2.1 (zaO b).2.2) := by
 by_cases h0 : b.length = 0
 ·exact zdV b n c A w HN hr hn hc (Lib.hid (.inl h0))
 ·by_cases h64 : 64 < cntG b
  ·exact zdV b n c A w HN hr hn hc (Lib.hid (.inr (.inl h64)))
  ·by_cases hs : b.length < 1 + 16 * cntG b
   ·exact zdV b n c A w HN hr hn hc (Lib.hid (.inr (.inr hs)))
   ·exact zjM b n c A w HN hr hn hc h0 h64 hs
end Go.Proofs.YteljklkgdejhpaaGreatDoor
namespace Go.Proofs.YteljklkgdejhpaaGreatDoor
open Go.RowKit Go.Deep Go.WideShapes Go.ChangeShapes
def zdJ (P : Program) (t : TypeId) {α : Type} (R : World → List Value → α → Prop) : Prop :=
 ∀ {H : Type} (enc : TypeId × Value → H) (w : World) (base : Nat) (spare : Nat → Bool) (held : Bool) (fuel : Nat) (cs : List Value) (x : DataW H × List MemPlace), DataW.trod enc P w base spare held fuel t cs = some x → ∃ a : α, R w cs a
def zhU : World → List Value → UInt8 → Prop := fun _ cs c => cs = [vB c]
def RNum : World → List Value → Nat → Prop := fun _ cs v => cs = [.int .u64 (v : Int)] ∧ v < 18446744073709551616
section
variable {P : Program} {t e : TypeId}
theorem zg8 (ht : P.underlying t = some (.int .u8)) : zdJ P t zhU := fun enc w base spare held fuel cs x h => by
 obtain ⟨n, rfl, _, hw⟩ := DataW.trod_int ht h
 simp [Lit.wf, IntKind.min, IntKind.max, IntKind.signed, IntKind.bits] at hw
 refine ⟨UInt8.ofNat n.toNat, ?_⟩
 unfold zhU vB
 rw [UInt8.toNat_ofNat']
 congr 2
 omega
theorem zdk (ht : P.underlying t = some (.int .u64)) : zdJ P t RNum := fun enc w base spare held fuel cs x h => by
 obtain ⟨n, rfl, _, hw⟩ := DataW.trod_int ht h
 obtain ⟨v, hv, rfl⟩ := zmd hw
 exact ⟨v, rfl, hv⟩
def zoW (m : Nat) {α : Type} (R : World → List Value → α → Prop) : World → List Value → List α → Prop := fun w cs l =>
 ∃ (A : Option Addr) (cap : Nat), cs = [.slice A l.length cap] ∧ l.length ≤ cap ∧ cap ≤ 9223372036854775807 ∧
  (l ≠ [] → ∃ b o, A = some ⟨b, o, none⟩ ∧ ∀ i (h : i < l.length), ∃ ecs : List Value, ecs.length = m ∧ (∀ j (hj : j < ecs.length), w.cell? ⟨b, o + i * m + j, none⟩ = some ecs[j]) ∧ R w ecs l[i])
theorem zop {w : World} {base : Nat} {a : Addr} {n : Nat} {cs : List Value} (h : w.cells? base a n = some cs) : cs.length = n ∧ ∀ j (hj : j < cs.length), w.cell? (a.add j) = some cs[j] := by
 obtain ⟨_, hl, hc⟩ := World.cells?_some h
 refine ⟨hl, fun j hj => ?_⟩
 have := hc j (by omega)
 rw [this]
 exact List.getElem?_eq_getElem hj
theorem zgj {α : Type} (n : Nat) (p : Nat → α → Prop) (h : ∀ i, i < n → ∃ a, p i a) : ∃ l : List α, l.length = n ∧ ∀ i (hi : i < l.length), p i l[i] := by
 induction n with
 | zero => exact ⟨[], rfl, fun i hi => by simp at hi⟩
 | succ n ih =>
  obtain ⟨l, hl, hp⟩ := ih (fun i hi => h i (by omega))
  obtain ⟨a, ha⟩ := h n (by omega)
  refine ⟨l ++ [a], by simp [hl], fun i hi => ?_⟩
  by_cases hin : i < l.length
  ·rw [List.getElem_append_left hin]; exact hp i hin
  ·have : i = n := by simp at hi; omega
   subst this
   rw [List.getElem_append_right (by omega)]
   simpa [hl] using ha
theorem zjN {α : Type} {R : World → List Value → α → Prop} {m : Nat} (ht : P.underlying t = some (.slice e)) (hc : P.cellsOf e = m) (hm : 0 < m) (he : zdJ P e R) : zdJ P t (zoW m R) := fun enc w base spare held fuel cs x h => by
 rcases open_slice ht h with ⟨rfl, _⟩ | ⟨a, len, cap, mm, n, D, Pl, rfl, hb, hl, hcap, hmm, rfl, hx⟩
 ·exact ⟨[], none, 0, rfl, Nat.le_refl _, by omega, fun h => absurd rfl h⟩
 ·have hlm : len ≤ mm := by rw [hmm]; split <;> omega
  unfold maxLen at hcap
  obtain ⟨l, hll, hp⟩ := zgj len (fun i (y : α) => ∃ ecs : List Value, ecs.length = m ∧ (∀ j (hj : j < ecs.length), w.cell? ((a.add (i * m)).add j) = some ecs[j]) ∧ R w ecs y) (fun i hi => by
   obtain ⟨ecs, h1, h2⟩ := hx i (by omega)
   rw [hc] at h1
   obtain ⟨h3, h4⟩ := zop h1
   obtain ⟨y, hy⟩ := he enc w base spare held n ecs _ h2
   exact ⟨y, ecs, h3, h4, hy⟩)
  refine ⟨l, some a, cap, by rw [hll], by omega, by omega, fun hn => ?_⟩
  have h0 : 0 < l.length := by
   rcases Nat.eq_zero_or_pos l.length with h | h
   ·exact absurd (List.eq_nil_of_length_eq_zero h) hn
   ·exact h
  obtain ⟨b, o, spot⟩ := a
  obtain ⟨ecs, h3, h4, _⟩ := hp 0 h0
  have hc0 := h4 0 (by omega)
  have hspot : spot = none := by simpa [Addr.add] using World.cell?_spot hc0
  subst hspot
  have hadd : ∀ i j, ((⟨b, o, none⟩ : Addr).add i).add j = ⟨b, o + i + j, none⟩ := fun i j => by unfold Addr.add; split <;> split <;> simp_all
  refine ⟨b, o, rfl, fun i hi => ?_⟩
  obtain ⟨ecs, h3, h4, h5⟩ := hp i hi
  exact ⟨ecs, h3, fun j hj => by rw [← hadd]; exact h4 j hj, h5⟩
def zg9 (a0 n0 a1 n1 a2 n2 : Nat) {α β γ : Type} (R : World → List Value → α → Prop) (S : World → List Value → β → Prop) (T : World → List Value → γ → Prop) : World → List Value → α × β × γ → Prop := fun w cs x => cs.length = n0 + n1 + n2 ∧ R w ((cs.drop a0).take n0) x.1 ∧ S w ((cs.drop a1).take n1) x.2.1 ∧ T w ((cs.drop a2).take n2) x.2.2
theorem zjO {α β γ : Type} {R : World → List Value → α → Prop} {S : World → List Value → β → Prop} {T : World → List Value → γ → Prop} {f0 f1 f2 : Field} {a0 n0 a1 n1 a2 n2 : Nat} (ht : P.underlying t = some (.struct #[f0, f1, f2])) (e0 : f0.offset = a0) (e1 : f1.offset = a1) (e2 : f2.offset = a2)
  (c0 : P.cellsOf f0.type = n0) (c1 : P.cellsOf f1.type = n1) (c2 : P.cellsOf f2.type = n2) (hn : P.cellsOf t = n0 + n1 + n2) (h0 : zdJ P f0.type R) (h1 : zdJ P f1.type S) (h2 : zdJ P f2.type T) : zdJ P t (zg9 a0 n0 a1 n1 a2 n2 R S T) := fun enc w base spare held fuel cs x h => by
 obtain ⟨xs, n, _, _, hl, hxl, hx⟩ := DataW.trod_struct ht h
 have k0 := hx 0 f0 rfl
 have k1 := hx 1 f1 rfl
 have k2 := hx 2 f2 rfl
 simp only [List.size_toArray, List.length_cons, List.length_nil, Nat.zero_add, Nat.reduceAdd] at hxl
 rw [List.getElem?_eq_getElem (by omega), e0, c0] at k0
 rw [List.getElem?_eq_getElem (by omega), e1, c1] at k1
 rw [List.getElem?_eq_getElem (by omega), e2, c2] at k2
 obtain ⟨x0, r0⟩ := h0 enc w base spare held n _ _ k0
 obtain ⟨x1, r1⟩ := h1 enc w base spare held n _ _ k1
 obtain ⟨x2, r2⟩ := h2 enc w base spare held n _ _ k2
 exact ⟨(x0, x1, x2), by omega, r0, r1, r2⟩
end
end Go.Proofs.YteljklkgdejhpaaGreatDoor
namespace Go.Proofs.YteljklkgdejhpaaGreatDoor
open Go.RowKit Go.WideShapes
section
variable {H : Type} {enc : TypeId × Value → H} {W : World} {base b1 : Nat} {spare : Nat → Bool} {held : Bool} {r : Reach} {v : Value} {d : DataW H} {p : List MemPlace}
end
end Go.Proofs.YteljklkgdejhpaaGreatDoor
namespace Go.Proofs.YteljklkgdejhpaaGreatDoor
open Go.RowKit Go.Deep Go.WideShapes Go.ChangeShapes
section
variable {H : Type} {enc : TypeId × Value → H} {W : World} {base b1 : Nat} {spare : Nat → Bool} {held : Bool} {r : Reach} {v : Value} {d : DataW H} {p : List MemPlace}
end
def zqh (w : World) (L : List UInt8) (k : Int) (e : Ending) (w' : World) : Prop := ∃ A m c, e = .returned (.tuple #[.slice A m c, .int .i64 k]) ∧ Hid (L.length = m) ∧ m ≤ c ∧ Rd vB w' A L ∧ Below w.heap.size w w'
theorem zm0 {b : List UInt8} : (zaO b).1.length ≤ 64 ∧ (zaO b).2.1 ≤ 1025 := by
 unfold zaO
 split
 ·simp
 ·split
  ·simp
  ·split
   ·simp
   ·split
    ·rw [zmZ]
     constructor
     ·omega
     ·show 1 + 16 * cntG b ≤ 1025
      omega
    ·simp
theorem zm1 {b : List UInt8} : fitG (zaO b).1 := by
 unfold zaO
 split
 ·exact fun x hx => by cases hx
 ·split
  ·exact fun x hx => by cases hx
  ·split
   ·exact fun x hx => by cases hx
   ·split
    ·exact (zeE _ _ (by rw [List.length_drop]; omega)).2.2
    ·exact fun x hx => by cases hx
end Go.Proofs.YteljklkgdejhpaaGreatDoor
namespace Go.Proofs.YteljklkgdejhpaaGreatDoor
end Go.Proofs.YteljklkgdejhpaaGreatDoor
namespace Go.Proofs.YteljklkgdejhpaaGreatDoor
open Go.RowKit
theorem zpo (a b : List UInt8) : ((strL a).toList == (strL b).toList) = decide (a = b) := by
 unfold strL
 rw [ByteArray.toList_mk, ByteArray.toList_mk]
 by_cases h : a = b <;> simp [h]
theorem zgk (a b : List UInt8) (n m : Nat) (A B : Option Addr) (c d : Nat) (w : World) (HN : Hid (a.length = n)) (HM : Hid (b.length = m)) (ha : Rd vB w A a) (hb : Rd vB w B b) :
  Calls Tryz.prog 39 #[.slice A n c, .slice B m d] w fun e w' => e = .returned (.bool (decide (a = b))) ∧ w = w' := by
 have s0 : (convert 22 9 (.slice A n c)).run Tryz.prog w = .ok (.string (strL a)) w := zhz _ _ _ _ Tryz.underlying22 Tryz.underlying5 Tryz.underlying9 _ a _ _ HN.out ha
 have s1 : (convert 22 9 (.slice B m d)).run Tryz.prog w = .ok (.string (strL b)) w := zhz _ _ _ _ Tryz.underlying22 Tryz.underlying5 Tryz.underlying9 _ b _ _ HM.out hb
 have b0 := zpo a b
 obtain ⟨r, hr⟩ : ∃ r, r = decide (a = b) := ⟨_, rfl⟩
 rw [← hr] at b0 ⊢
 generalize strL a = SA at s0 b0
 generalize strL b = SB at s1 b0
 clear hr ha hb
 go_enter Tryz.func39, Tryz.ntmps39
 go_wp2_with fail
 go_ret
 exact ⟨rfl, rfl⟩
end Go.Proofs.YteljklkgdejhpaaGreatDoor
