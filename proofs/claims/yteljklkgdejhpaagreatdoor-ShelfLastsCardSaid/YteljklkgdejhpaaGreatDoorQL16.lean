/-
  A parameter that is a list of deeds, opened. No conditions.
-/
import Derived.Test.YteljklkgdejhpaaGreatDoorQL15
import Derived.Test.YteljklkgdejhpaaGreatDoorRows
import Derived.Lib.LaidTab
import Derived.MakeChecks
set_option linter.unusedSimpArgs false
set_option linter.unusedVariables false
set_option maxRecDepth 100000
set_option maxHeartbeats 16000000
namespace Go.Proofs.YteljklkgdejhpaaGreatDoor
open Go.RowKit Go.Deep Go.WideShapes Go.ChangeShapes
def RdDe (w : World) (A : Option Addr) (l : List De) : Prop := l ≠ [] → ∃ b o, A = some ⟨b, o, none⟩ ∧ ∀ i (hi : i < l.length), ∀ j (hj : j < (zfq l[i]).length), w.cell? ⟨b, o + i * 8 + j, none⟩ = some (zfq l[i])[j]
def RSix (a0 n0 a1 n1 a2 n2 a3 n3 a4 n4 a5 n5 : Nat) {α β γ δ ε ζ : Type} (R : World → List Value → α → Prop) (S : World → List Value → β → Prop) (T : World → List Value → γ → Prop) (U : World → List Value → δ → Prop) (V : World → List Value → ε → Prop) (X : World → List Value → ζ → Prop) : World → List Value → α × β × γ × δ × ε × ζ → Prop := fun w cs x => cs.length = n0 + n1 + n2 + n3 + n4 + n5 ∧ R w ((cs.drop a0).take n0) x.1 ∧ S w ((cs.drop a1).take n1) x.2.1 ∧ T w ((cs.drop a2).take n2) x.2.2.1 ∧ U w ((cs.drop a3).take n3) x.2.2.2.1 ∧ V w ((cs.drop a4).take n4) x.2.2.2.2.1 ∧ X w ((cs.drop a5).take n5) x.2.2.2.2.2
theorem znX {P : Program} {t : TypeId} {α β γ δ ε ζ : Type} {R : World → List Value → α → Prop} {S : World → List Value → β → Prop} {T : World → List Value → γ → Prop} {U : World → List Value → δ → Prop} {V : World → List Value → ε → Prop} {X : World → List Value → ζ → Prop} {f0 f1 f2 f3 f4 f5 : Field} {a0 n0 a1 n1 a2 n2 a3 n3 a4 n4 a5 n5 : Nat} (ht : P.underlying t = some (.struct #[f0, f1, f2, f3, f4, f5])) (e0 : f0.offset = a0) (e1 : f1.offset = a1) (e2 : f2.offset = a2) (e3 : f3.offset = a3) (e4 : f4.offset = a4) (e5 : f5.offset = a5)
  (c0 : P.cellsOf f0.type = n0) (c1 : P.cellsOf f1.type = n1) (c2 : P.cellsOf f2.type = n2) (c3 : P.cellsOf f3.type = n3) (c4 : P.cellsOf f4.type = n4) (c5 : P.cellsOf f5.type = n5) (hn : P.cellsOf t = n0 + n1 + n2 + n3 + n4 + n5) (h0 : zdJ P f0.type R) (h1 : zdJ P f1.type S) (h2 : zdJ P f2.type T) (h3 : zdJ P f3.type U) (h4 : zdJ P f4.type V) (h5 : zdJ P f5.type X) : zdJ P t (RSix a0 n0 a1 n1 a2 n2 a3 n3 a4 n4 a5 n5 R S T U V X) := fun enc w base spare held fuel cs x h => by
 obtain ⟨xs, n, _, _, hl, hxl, hx⟩ := DataW.trod_struct ht h
 have k0 := hx 0 f0 rfl
 have k1 := hx 1 f1 rfl
 have k2 := hx 2 f2 rfl
 have k3 := hx 3 f3 rfl
 have k4 := hx 4 f4 rfl
 have k5 := hx 5 f5 rfl
 simp only [List.size_toArray, List.length_cons, List.length_nil, Nat.zero_add, Nat.reduceAdd] at hxl
 rw [List.getElem?_eq_getElem (by omega), e0, c0] at k0
 rw [List.getElem?_eq_getElem (by omega), e1, c1] at k1
 rw [List.getElem?_eq_getElem (by omega), e2, c2] at k2
 rw [List.getElem?_eq_getElem (by omega), e3, c3] at k3
 rw [List.getElem?_eq_getElem (by omega), e4, c4] at k4
 rw [List.getElem?_eq_getElem (by omega), e5, c5] at k5
 obtain ⟨x0, r0⟩ := h0 enc w base spare held n _ _ k0
 obtain ⟨x1, r1⟩ := h1 enc w base spare held n _ _ k1
 obtain ⟨x2, r2⟩ := h2 enc w base spare held n _ _ k2
 obtain ⟨x3, r3⟩ := h3 enc w base spare held n _ _ k3
 obtain ⟨x4, r4⟩ := h4 enc w base spare held n _ _ k4
 obtain ⟨x5, r5⟩ := h5 enc w base spare held n _ _ k5
 exact ⟨(x0, x1, x2, x3, x4, x5), by omega, r0, r1, r2, r3, r4, r5⟩
theorem zlZ : zdJ Tryz.prog 69 (RSix 0 3 3 1 4 1 5 1 6 1 7 1 (zg9 0 1 1 1 2 1 RNum RNum RNum) RNum RNum RNum zhU zhU) := znX Tryz.underlying69 rfl rfl rfl rfl rfl rfl (by kernel_rfl) (by kernel_rfl) (by kernel_rfl) (by kernel_rfl) (by kernel_rfl) (by kernel_rfl) (by kernel_rfl) znW (zdk Tryz.underlying28) (zdk Tryz.underlying28) (zdk Tryz.underlying28) (zg8 Tryz.underlying5) (zg8 Tryz.underlying5)
theorem zj9 : zdJ Tryz.prog 64 (zoW 8 (RSix 0 3 3 1 4 1 5 1 6 1 7 1 (zg9 0 1 1 1 2 1 RNum RNum RNum) RNum RNum RNum zhU zhU)) := zjN Tryz.underlying64 (by kernel_rfl) (by omega) zlZ
theorem znY {w : World} {cs : List Value} {q : Us × Nat × Nat × Nat × UInt8 × UInt8} (h : RSix 0 3 3 1 4 1 5 1 6 1 7 1 (zg9 0 1 1 1 2 1 RNum RNum RNum) RNum RNum RNum zhU zhU w cs q) : ∃ d : De, cs = zfq d ∧ fitDe d := by
 obtain ⟨u, c, f, v, fu, ke⟩ := q
 obtain ⟨hl, h0, ⟨e1, g1⟩, ⟨e2, g2⟩, ⟨e3, g3⟩, e4, e5⟩ := h
 obtain ⟨e0, g0⟩ := zoS h0
 refine ⟨⟨u, c, f, v, fu, ke⟩, ?_, ⟨g0, g1, g2, g3⟩⟩
 unfold zhU vB at e4 e5
 unfold zfq
 match cs, hl with
 | [x0, x1, x2, x3, x4, x5, x6, x7], _ =>
  simp [zes, vNU] at e0 e1 e2 e3 e4 e5
  obtain ⟨a0, a1, a2⟩ := e0
  rw [a0, a1, a2, e1, e2, e3, e4, e5]
section
variable {H : Type} {enc : TypeId × Value → H} {W : World} {base b1 : Nat} {spare : Nat → Bool} {held : Bool} {r : Reach} {v : Value} {d : DataW H} {p : List MemPlace}
theorem zl0 (hv : Value.okWide Tryz.prog W r base 64 v) (ht : DataW.Trod enc Tryz.prog W b1 spare held 64 v d p) : ∃ (l : List De) (A : Option Addr) (cap : Nat), v = .slice A l.length cap ∧ l.length ≤ cap ∧ cap ≤ 9223372036854775807 ∧ RdDe W A l ∧ ∀ x ∈ l, fitDe x := by
 obtain ⟨a, len, cap, rfl⟩ := okWide_slice Tryz.underlying64 hv
 obtain ⟨fuel, hf⟩ := ht
 obtain ⟨ls, A, c, e, h1, h2, h3⟩ := zj9 enc W _ _ _ _ _ _ hf
 simp [Value.cells] at e
 obtain ⟨rfl, rfl, rfl⟩ := e
 by_cases hn : ls = []
 ·subst hn
  exact ⟨[], _, _, rfl, h1, h2, fun h => absurd rfl h, fun x hx => by cases hx⟩
 ·obtain ⟨b, o, rfl, hc⟩ := h3 hn
  obtain ⟨es, hl, hp⟩ := zgj ls.length (fun i (y : De) => (∀ j (hj : j < (zfq y).length), W.cell? ⟨b, o + i * 8 + j, none⟩ = some (zfq y)[j]) ∧ fitDe y) (fun i hi => by
   obtain ⟨ecs, h4, h5, h6⟩ := hc i hi
   obtain ⟨y, rfl, h7⟩ := znY h6
   exact ⟨y, h5, h7⟩)
  refine ⟨es, some ⟨b, o, none⟩, _, by rw [hl], by omega, h2, fun _ => ⟨b, o, rfl, fun i hi => (hp i hi).1⟩, fun x hx => ?_⟩
  obtain ⟨i, hi, rfl⟩ := List.getElem_of_mem hx
  exact (hp i hi).2
end
end Go.Proofs.YteljklkgdejhpaaGreatDoor
namespace Go.Proofs.YteljklkgdejhpaaGreatDoor
open Go.RowKit
inductive PlanM where
 | fork (i : Nat) (p : Plan) (j : Nat) (q : Plan) (k : Nat) (r : Plan)
 | read (i : Nat) (rest : PlanM)
def PlanM.size : PlanM → Nat
 | .fork _ p _ _ _ _ => p.size + 1
 | .read _ rest => rest.size + 1
def zgI (ops : Array Oper) : PlanM → Array Bool → Bool
 | .fork i p j q k r, listed => Region.ready .any ops listed == [i, j, k] && (q.size == p.size && (r.size == p.size && (zcB ops p (listed.setIfInBounds i true) && (zcB ops q (listed.setIfInBounds j true) && zcB ops r (listed.setIfInBounds k true)))))
 | .read i rest, listed => (Region.free .any ops listed i && (Region.ready .any ops listed).contains i) && zgI ops rest (listed.setIfInBounds i true)
def zfr (P : Program) (ops : Array Oper) (Q : Exit → Act → World → Prop) : PlanM → (World → Prop) → Act → World → Prop
 | .fork i p j q k r, S, a, w =>
   wpOp P ops Q i (fun a' w' => S w' ∧ za1 P ops Q p S a' w') a w ∧ wpOp P ops Q j (fun a' w' => S w' ∧ za1 P ops Q q S a' w') a w ∧ wpOp P ops Q k (fun a' w' => S w' ∧ za1 P ops Q r S a' w') a w
 | .read i rest, S, a, w => ∃ o, ops[i]? = some o ∧ Region.wanted o (yielded ops a.tmps) = true ∧ ∃ v, (∀ W, S W → (execOp a.eval o).run P W = .ok (.value v) W) ∧ zfr P ops Q rest S (a.put o.dst v) w
section
variable {P : Program} {ops : Array Oper} {Q : Exit → Act → World → Prop}
theorem zfD (hs : Region.noSelect ops = true) (hQ : ∀ c a w d v, Q (.panic c) (Act.put a d v) w → Q (.panic c) a w) :
  ∀ (plan : PlanM) (S : World → Prop) (listed : Array Bool) (a : Act) (w : World), S w → zgI ops plan listed = true → zfr P ops Q plan S a w → wpAnyH P .any ops Q S plan.size listed a w
 | .fork i p j q k r, S, listed, a, w, hS, hp, h => by
  simp only [zgI, Bool.and_eq_true] at hp
  obtain ⟨hp1, hp2, hp3, hp4, hp5, hp6⟩ := hp
  refine wpAnyH_all (rs := [i, j, k]) (eq_of_beq hp1) (by simp) (fun x hx => ?_)
  simp only [List.mem_cons, List.not_mem_nil, or_false] at hx
  rcases hx with rfl | rfl | rfl
  ·exact wpOp_mono (fun a' w' g => ⟨g.1, zba hs hQ p S _ a' w' g.1 hp4 g.2⟩) h.1
  ·refine wpOp_mono (fun a' w' g => ?_) h.2.1
   have := zba hs hQ q S _ a' w' g.1 hp5 g.2
   rw [eq_of_beq hp2] at this
   exact ⟨g.1, this⟩
  ·refine wpOp_mono (fun a' w' g => ?_) h.2.2
   have := zba hs hQ r S _ a' w' g.1 hp6 g.2
   rw [eq_of_beq hp3] at this
   exact ⟨g.1, this⟩
 | .read i rest, S, listed, a, w, hS, hp, h => by
  obtain ⟨o, ho, hw, v, hv, hr⟩ := h
  simp only [zgI, Bool.and_eq_true] at hp
  obtain ⟨⟨hp1, hp2⟩, hp3⟩ := hp
  exact wpAnyH_take ho hs hp1 hp2 (fun c a w h => hQ c a w _ _ h) (.inl ⟨hw, hv⟩) hS (zfD hs hQ rest S _ _ w hS hp3 hr)
theorem zgJ (S : World → Prop) (plan : PlanM) {id : Nat} {a : Act} {w : World} (hS : S w.drew) (hm : P.follows .mixedOrders = true) (hs : Region.noSelect ops = true) (hlen : plan.size = ops.size) (hp : zgI ops plan (Array.replicate ops.size false) = true)
  (h : zfr P ops (NoPanic Q) plan S a w.drew) : (Code.region id ops true).wp P Q a w := by
 refine wp_region_noPanic (wp_region_held_drew (S := S) hm hS (fun _ => ?_))
 have := zfD hs (fun _ _ _ _ _ h => h) plan S _ a w.drew hS hp h
 rw [hlen] at this
 exact this
theorem zl1 {i : Nat} {rest : PlanM} {S : World → Prop} {o : Oper} {a : Act} {w : World} {v : Value} (ho : ops[i]? = some o) (hw : Region.wanted o (yielded ops a.tmps) = true)
  (hv : ∀ W, S W → (execOp a.eval o).run P W = .ok (.value v) W) (h : zfr P ops Q rest S (a.put o.dst v) w) : zfr P ops Q (.read i rest) S a w := ⟨o, ho, hw, v, hv, h⟩
theorem zl2 {i j k : Nat} {p q r : Plan} {S : World → Prop} {o u z : Oper} {a : Act} {w : World} (ho : ops[i]? = some o) (hu : ops[j]? = some u) (hz : ops[k]? = some z) (hw : Region.wanted o (yielded ops a.tmps) = true) (hx : Region.wanted u (yielded ops a.tmps) = true) (hy : Region.wanted z (yielded ops a.tmps) = true)
  (h : ∀ K : Act → World → Prop, Shut (∀ a' w', S w' → za1 P ops Q p S a' w' → K a' w') → o.wp P a w K Q) (g : ∀ K : Act → World → Prop, Shut (∀ a' w', S w' → za1 P ops Q q S a' w' → K a' w') → u.wp P a w K Q) (l : ∀ K : Act → World → Prop, Shut (∀ a' w', S w' → za1 P ops Q r S a' w' → K a' w') → z.wp P a w K Q) : zfr P ops Q (.fork i p j q k r) S a w := by
 refine ⟨?_, ?_, ?_⟩
 ·unfold wpOp
  simp only [ho, hw, if_true]
  exact .inl (h _ (fun _ _ hb hr => ⟨hb, hr⟩))
 ·unfold wpOp
  simp only [hu, hx, if_true]
  exact .inl (g _ (fun _ _ hb hr => ⟨hb, hr⟩))
 ·unfold wpOp
  simp only [hz, hy, if_true]
  exact .inl (l _ (fun _ _ hb hr => ⟨hb, hr⟩))
end
theorem zhv {w w' : World} (h : w.grownBy w' none) : Agree 0 0 w w' := fun b hb _ => h.block b hb (fun e => by cases e)
theorem zhw {w w' : World} {b : Nat} (h : w.grownBy w' (some b)) : Agree b (b + 1) w w' := fun k hk hc => h.block k hk (fun e => by injection e with e; omega)
theorem OffS.all {x : WS} {s : ShK} {w : World} (h : InS w x s) : OffS 0 0 x := ⟨⟨fun h0 a ha => .inr (Nat.zero_le _), fun h0 a ha => .inr (Nat.zero_le _)⟩, ⟨⟨fun h0 a ha => .inr (Nat.zero_le _), fun y hy hs a ha => .inr (Nat.zero_le _), fun h0 a ha => .inr (Nat.zero_le _)⟩, fun h0 a ha => .inr (Nat.zero_le _)⟩⟩
theorem InS.grownA {w w' : World} {x : WS} {s : ShK} {o : Option Nat} (h : InS w x s) (hg : w.grownBy w' o) (hn : ∀ b, o = some b → OffS b (b + 1) x) : InS w' x s := by
 cases o with
 | none => exact h.agree (zhv hg) (OffS.all h)
 | some b => exact h.agree (zhw hg) (hn b rfl)
theorem InM.grownA {w w' : World} {x : WM} {m : MemK} {o : Option Nat} (h : InM w x m) (hg : w.grownBy w' o) (hn : ∀ b, o = some b → OffM b (b + 1) x) : InM w' x m := by
 cases o with
 | none => exact h.agree (zhv hg) ⟨⟨fun h0 a ha => .inr (Nat.zero_le _), fun y hy hs a ha => .inr (Nat.zero_le _), fun h0 a ha => .inr (Nat.zero_le _)⟩, fun h0 a ha => .inr (Nat.zero_le _)⟩
 | some b => exact h.agree (zhw hg) (hn b rfl)
theorem zgR {base g : Nat} {w w' : World} {e : TypeId} {v : Value} {n : Nat} {xs : List Value} (h : w.ownsRow base e 3 v n xs) (k : Only g w w') (hg : v.ownBlock ≠ some g) : w'.ownsRow base e 3 v n xs := by
 refine ⟨h.1, ?_⟩
 rcases h.2 with h0 | ⟨b, cap, cur, hv, hb, hc, r⟩
 ·exact .inl h0
 ·refine .inr ⟨b, cap, cur, hv, hb, (k.other b (fun e => hg ?_) (Array.getElem?_eq_some_iff.1 hc).1).trans hc, r⟩
  rw [hv, e]
  rfl
structure RL (w : World) (g5 g9 ga gb : Nat) (x : WS) (s : ShK) (y : WS) (t : ShK) (z : WM) (m' : MemK) (T : List Us) (v : Value) (wr : World) : Prop where
 r5 : Row wr g5 39 (lS x s)
 r9 : Row wr g9 37 (lM x.m s.m)
 ra : Row wr ga 39 (lS y t)
 rb : Row wr gb 37 (lM z m')
 ix : InS wr x s
 iy : InS wr y t
 iz : InM wr z m'
 oy : OffS 0 (g5 + 1) y
 ow : wr.ownsRow (g5 + 1) 57 3 v T.length (zar T)
 ot : ∀ b, v.ownBlock = some b → b ≠ g9 ∧ b ≠ ga ∧ b ≠ gb ∧ OffS b (b + 1) x ∧ OffS b (b + 1) y ∧ OffM b (b + 1) z
 o1 : g5 < g9 ∧ g5 < ga ∧ g5 < gb ∧ ga ≠ g9 ∧ ga ≠ gb ∧ gb ≠ g9 ∧ w.heap.size ≤ g5
 be : Below w.heap.size w wr
section
variable {w wr w' : World} {g5 g9 ga gb : Nat} {x : WS} {s : ShK} {y : WS} {t : ShK} {z : WM} {m' : MemK} {T : List Us} {v : Value}
theorem RL.later (h : RL w g5 g9 ga gb x s y t z m' T v wr) (hb : Below wr.heap.size wr w') : RL w g5 g9 ga gb x s y t z m' T v w' :=
 ⟨h.r5.later hb, h.r9.later hb, h.ra.later hb, h.rb.later hb, h.ix.keep hb, h.iy.keep hb, h.iz.keep hb, h.oy, zbh h.ow hb, h.ot, h.o1, zaa h.be hb⟩
theorem RL.grown (h : RL w g5 g9 ga gb x s y t z m' T v wr) (hg : wr.grownBy w' v.ownBlock) {v' : Value} {u : Us} (ho : w'.ownsRow (g5 + 1) 57 3 v' (T.length + 1) (zar T ++ zar [u])) (ha : v'.ownBlock = v.ownBlock ∨ v'.ownBlock = some wr.heap.size) : RL w g5 g9 ga gb x s y t z m' (T ++ [u]) v' w' := by
 have hlt := fun b e => h.ow.lt b e
 have h1 := h.o1
 have l9 := h.r9.lt
 have la := h.ra.lt
 have lb := h.rb.lt
 refine ⟨h.r5.grown hg (fun e => ?_), h.r9.grown hg (fun e => ?_), h.ra.grown hg (fun e => ?_), h.rb.grown hg (fun e => ?_), h.ix.grownA hg (fun b e => (h.ot b e).2.2.2.1), h.iy.grownA hg (fun b e => (h.ot b e).2.2.2.2.1), h.iz.grownA hg (fun b e => (h.ot b e).2.2.2.2.2), h.oy, ?_, fun b e => ?_, h.o1, h.be.grown hg (by have := h.be.size; omega) (fun b e => by have := (hlt b e).1; omega)⟩
 ·have := (hlt _ e).1; omega
 ·exact (h.ot _ e).1 rfl
 ·exact (h.ot _ e).2.1 rfl
 ·exact (h.ot _ e).2.2.1 rfl
 ·rw [List.length_append, zcg]
  exact ho
 ·rcases ha with ha | ha
  ·exact h.ot b (ha ▸ e)
  ·rw [ha] at e
   injection e with e
   subst e
   exact ⟨by omega, by omega, by omega, h.ix.off _, h.iy.off _, h.iz.off _⟩
end
def deS (b q : Nat) (dd : De) (W : World) : Prop := W.cell? ⟨b, q, none⟩ = some (.int .u64 (dd.u.1 : Int)) ∧ W.cell? ⟨b, q + 1, none⟩ = some (.int .u64 (dd.u.2.1 : Int)) ∧ W.cell? ⟨b, q + 2, none⟩ = some (.int .u64 (dd.u.2.2 : Int)) ∧ W.cell? ⟨b, q + 3, none⟩ = some (.int .u64 (dd.clock : Int)) ∧ W.cell? ⟨b, q + 4, none⟩ = some (.int .u64 (dd.floor : Int)) ∧ W.cell? ⟨b, q + 5, none⟩ = some (.int .u64 (dd.ver : Int)) ∧ W.cell? ⟨b, q + 6, none⟩ = some (.int .u8 (dd.fuse.toNat : Int)) ∧ W.cell? ⟨b, q + 7, none⟩ = some (.int .u8 (dd.keep.toNat : Int))
theorem deS.keep {b q : Nat} {dd : De} {w W : World} (h : deS b q dd w) (hb : Below w.heap.size w W) : deS b q dd W := by
 have hk : ∀ {p : Addr} {v : Value}, w.cell? p = some v → W.cell? p = some v := fun e => (hb.cell (World.block_lt_of_cell? w _ e)).trans e
 exact ⟨hk h.1, hk h.2.1, hk h.2.2.1, hk h.2.2.2.1, hk h.2.2.2.2.1, hk h.2.2.2.2.2.1, hk h.2.2.2.2.2.2.1, hk h.2.2.2.2.2.2.2⟩
def ldS (g5 b q : Nat) (x : WS) (s : ShK) (dd : De) (W : World) : Prop := Row W g5 39 (lS x s) ∧ deS b q dd W
def CasD [Inhabited Tab] (s t : ShK) (m' : MemK) (er : Int) (dd : De) (T : List Us) : Prop :=
 (er = 0 ∧ zav fS t ∧ t.m = m' ∧ t.num ≤ s.num + 2 ∧ (dd.ver = 0 → dd.u ∉ T ∧ TkC (T ++ [dd.u]) t.m.c) ∧ (dd.ver ≠ 0 → TkC T t.m.c) ∧ s.m.b.1 ≤ t.m.b.1 ∧ s.m.clock ≤ t.m.clock) ∨
 (er = 14 ∧ (zbL t.d).2 = 0 ∧ LimK (zbL t.d).1 ∧ ∃ s2, zcv fS (zbL t.d).1 0 = (s2, 0) ∧ zav fS s2 ∧ (s2.m = s.m ∨ s2.m = m') ∧ s2.num ≤ s.num + 2 ∧ (dd.ver = 0 → s2.m ≠ s.m → TkC (T ++ [dd.u]) s2.m.c) ∧ TkC T s2.m.c ∧ s.m.b.1 ≤ s2.m.b.1 ∧ s.m.clock ≤ s2.m.clock) ∨
 (er ≠ 0 ∧ er ≠ 14 ∧ zav fS t ∧ t.m = s.m ∧ t.num ≤ s.num + 2 ∧ TkC T t.m.c)
def CutD (W : World) (t : ShK) (m' : MemK) (er : Int) (v1 v2 v3 : Value) (wc : World) : Prop := ∃ ga gb y z, v1 = .pointer (some ⟨ga, 0, none⟩) ∧ v2 = .pointer (some ⟨gb, 0, none⟩) ∧ v3 = .int .i64 er ∧ W.heap.size ≤ ga ∧ W.heap.size ≤ gb ∧ ga ≠ gb ∧ Row wc ga 39 (lS y t) ∧ Row wc gb 37 (lM z m') ∧ InS wc y t ∧ InM wc z m' ∧ OffS 0 W.heap.size y ∧ OffM 0 W.heap.size z ∧ Below W.heap.size W wc
def CutQ (er : Int) (n : Nat) (w0 : World) (v : Value) (wd : World) : Prop := ∃ bq : Bool, v = .bool bq ∧ (bq = true ↔ er = 0 ∧ n = 0) ∧ w0 = wd
def CutT (w : World) (k g5 g9 ga gb : Nat) (x : WS) (s : ShK) (y : WS) (t : ShK) (z : WM) (m' : MemK) (T : List Us) (er : Int) (v : Value) (wc : World) : Prop := ∃ (T' : List Us) (tA : Option Addr) (tc : Nat), v = .slice tA T'.length tc ∧ T'.length ≤ k + 1 ∧ RL w g5 g9 ga gb x s y t z m' T' (.slice tA T'.length tc) wc ∧ (er = 0 → TkC T' t.m.c) ∧ (er ≠ 0 → T' = T)
structure RT (w : World) (g5 g9 ga : Nat) (x : WS) (s : ShK) (y : WS) (t : ShK) (T : List Us) (v : Value) (wr : World) : Prop where
 r5 : Row wr g5 39 (lS x s)
 r9 : Row wr g9 37 (lM x.m s.m)
 ra : Row wr ga 39 (lS y t)
 iy : InS wr y t
 oy : OffS 0 (g5 + 1) y
 ow : wr.ownsRow (g5 + 1) 57 3 v T.length (zar T)
 ot : ∀ b, v.ownBlock = some b → OffS b (b + 1) y
 o1 : w.heap.size ≤ g5
 be : Below w.heap.size w wr
theorem RL.rt {w wr : World} {g5 g9 ga gb : Nat} {x : WS} {s : ShK} {y : WS} {t : ShK} {z : WM} {m' : MemK} {T : List Us} {v : Value} (h : RL w g5 g9 ga gb x s y t z m' T v wr) : RT w g5 g9 ga x s y t T v wr := ⟨h.r5, h.r9, h.ra, h.iy, h.oy, h.ow, fun b e => (h.ot b e).2.2.2.2.1, h.o1.2.2.2.2.2.2, h.be⟩
theorem RT.later {w wr w' : World} {g5 g9 ga : Nat} {x : WS} {s : ShK} {y : WS} {t : ShK} {T : List Us} {v : Value} (h : RT w g5 g9 ga x s y t T v wr) (hb : Below wr.heap.size wr w') : RT w g5 g9 ga x s y t T v w' := ⟨h.r5.later hb, h.r9.later hb, h.ra.later hb, h.iy.keep hb, h.oy, zbh h.ow hb, h.ot, h.o1, zaa h.be hb⟩
theorem RL.risen {w wr : World} {g5 g9 ga gb : Nat} {x : WS} {s : ShK} {y : WS} {t : ShK} {z : WM} {m' : MemK} {T : List Us} {v : Value} (h : RL w g5 g9 ga gb x s y t z m' T v wr) {y2 : WS} {s2 : ShK} (iy : InS wr y2 s2) (oy : OffS 0 (ga + 1) y2) (ot : ∀ b, v.ownBlock = some b → OffS b (b + 1) y2) : RT w g5 g9 ga x s y2 s2 T v (wr.setRow ga (lS y2 s2).toArray) := by
 have hO := (Only.refl ga wr).setRow (lS y2 s2).toArray
 have h1 := h.o1
 refine ⟨h.r5.only hO (by omega), h.r9.only hO (by omega), h.ra.setRow _, iy.at_only hO oy (Nat.zero_le _) (Nat.lt_succ_self _), oy.mono (Nat.le_refl _) (by omega), zgR h.ow hO (fun e => (h.ot _ e).2.1 rfl), ot, by omega, below_setRow h.be (by omega) _⟩
def CutU [Inhabited Tab] (w : World) (k g5 g9 ga : Nat) (x : WS) (s : ShK) (v : Value) (wc : World) : Prop := ∃ (T' : List Us) (tA : Option Addr) (tc : Nat) (y : WS) (t : ShK), v = .slice tA T'.length tc ∧ T'.length ≤ k + 1 ∧ RT w g5 g9 ga x s y t T' (.slice tA T'.length tc) wc ∧ zav fS t ∧ TkC T' t.m.c ∧ t.num ≤ s.num + 2 ∧ s.m.b.1 ≤ t.m.b.1 ∧ s.m.clock ≤ t.m.clock
def zqa [Inhabited Tab] (w : World) (g5 n : Nat) (v iv : Value) (wr : World) : Prop :=
 ∃ (k : Nat) (x : WS) (s : ShK) (T : List Us) (tA : Option Addr) (tc : Nat), v = .slice tA T.length tc ∧ iv = .int .i64 (k : Int) ∧ k ≤ n ∧ T.length ≤ k ∧ Row wr g5 39 (lS x s) ∧ InS wr x s ∧ OffS g5 (g5 + 1) x ∧ (∀ b, (Value.slice tA T.length tc).ownBlock = some b → OffS b (b + 1) x) ∧ wr.ownsRow (g5 + 1) 57 3 (.slice tA T.length tc) T.length (zar T) ∧ Hid (zav fS s) ∧ Hid (TkC T s.m.c) ∧ s.num ≤ 1 + 2 * k ∧ Below w.heap.size w wr
theorem zgK [Inhabited Tab] (y : Nat) (l : List De) (n c : Nat) (A : Option Addr) (w : World) (hy : y < 256) (HN : Hid (l.length = n)) (hr : RdDe w A l) (hf : Hid (∀ d ∈ l, fitDe d)) (hnn : n ≤ 9223372036854775807) (HK : Hid (KTab w)) :
  Calls Tryz.prog 5 #[.int .u8 (y : Int), .slice A n c] w fun e w' => e = .returned (.bool true) ∧ Below w.heap.size w w' := by
 obtain ⟨j0, hj0, gz0, gz1, gz2⟩ := info_parts zec
 have HKT := Lib.hid (fun W (hb : Below w.heap.size w W) => HK.out.keep hb)
 have HRD := Lib.hid hr
 have haw := zj7 w HK
 clear hr HK
 go_enter Tryz.func5, Tryz.ntmps5
 go_wp2_with fail
 refine haw.mono ?_
 rintro e w1 ⟨rfl, hB⟩
 clear haw
 by_cases h20 : 20 < n
 ·have i1 : (20 : Int) < (n : Int) := by omega
  go_wp2_with fail
  go_ret
  exact ⟨rfl, hB⟩
 ·have i1 : ¬ (20 : Int) < (n : Int) := by omega
  obtain ⟨R, hR⟩ : ∃ R : Nat, R = y % 65 := ⟨_, rfl⟩
  have hmod : (y : Int) % 65 = (R : Int) := by omega
  have hR64 : R ≤ 64 := by omega
  clear hR
  go_wp2_with fail
  refine (ziq w1).mono ?_
  rintro e w2 ⟨rfl, hb⟩
  replace hB := zaa hB hb
  clear hb i1
  unfold aggD newK
  dsimp only
  obtain ⟨s0, e0, r0, m0, q0, -, -, -⟩ := zkR (f := fS) zcr (room := (R : Int)) ⟨by omega, by omega⟩
  have hop := zej ⟨none, 0, 0, none, 0, 0⟩ newK (R : Int) w2 (zo3 w2) znU (Lib.hid (HKT.out _ hB))
  rw [e0] at hop
  unfold aggD newK at hop
  dsimp only at hop
  have HOP := Lib.hid hop
  have HR0 := Lib.hid r0
  have HM0 := Lib.hid m0
  have hn0 : s0.num ≤ 1 := Nat.le_of_eq q0
  clear hop e0 r0 m0 q0
  go_wp2_with fail
  rw [hmod]
  refine HOP.out.mono ?_
  rintro e w3 ⟨x0, rfl, hx, hxo, hb⟩
  replace hB := zaa hB hb
  obtain ⟨hR5, hBn⟩ := zat w3 39 l0S _ rfl
  have hgw : w.heap.size ≤ w3.heap.size := hB.size
  have hxg : OffS w3.heap.size (w3.heap.size + 1) x0 := hx.off _
  clear hb HOP hxo hmod
  unfold aggS
  go_upto_region 6 with (refine zab rfl 39 (.tmp 5) (.tmp 29) rfl (w3.heap.size) rfl ((lS x0 s0)) rfl _ _ (hR5) (by exact zaf) rfl (zan x0 s0) ?_)
  replace hR5 := hR5.setRow (lS x0 s0)
  have hbn := below_setRow hBn (Nat.le_refl _) (lS x0 s0).toArray
  clear hBn
  generalize (w3.alloc (.cells l0S.toArray 39)).setRow w3.heap.size (lS x0 s0).toArray = w4 at hR5 hbn ⊢
  replace hx := hx.keep hbn
  replace hB := zaa hB hbn
  clear hbn
  generalize w3.heap.size = g5 at hR5 hgw hxg ⊢
  have HSTART : Hid (zqa w g5 n (.slice none 0 0) (.int .i64 0) w4) := ⟨0, x0, s0, [], none, 0, rfl, rfl, Nat.zero_le _, Nat.le_refl _, hR5, hx, hxg, (fun b e => by cases e), World.ownsRow_nil _ _ _ _, HR0, Lib.hid (fun t ht => by cases ht), by omega, hB⟩
  clear hR5 hx hxg hB HR0 HM0
  go_wp2_with fail
  go_loopw [7, 8] (fun v i wr => zqa w g5 n v i wr) (fun _ i _ => n - (intOf i).toNat)
  case atStart => exact HSTART.out
  case round =>
   clear HSTART
   obtain ⟨k, x, s, T, tA, tc, rfl, rfl, hk, hTk, hR5, hx, hxg, hxt, hown, HRS, HTK, hnum, hB⟩ := hrel
   by_cases hlt : k < n
   ·have hkl : k < l.length := by rw [HN.out]; exact hlt
    obtain ⟨b, o, rfl, hc⟩ := HRD.out (by rintro rfl; simp at hkl)
    have hfd := hf.out _ (List.getElem_mem hkl)
    have hde : deS b (o + k * 8) l[k] w := ⟨hc k hkl 0 (by show 0 < 8; omega), hc k hkl 1 (by show 1 < 8; omega), hc k hkl 2 (by show 2 < 8; omega), hc k hkl 3 (by show 3 < 8; omega), hc k hkl 4 (by show 4 < 8; omega), hc k hkl 5 (by show 5 < 8; omega), hc k hkl 6 (by show 6 < 8; omega), hc k hkl 7 (by show 7 < 8; omega)⟩
    clear hc
    generalize l[k] = dd at hfd hde
    have HDE := Lib.hid (fun W (hb : Below w.heap.size w W) => hde.keep hb)
    have i2 : (0 : Int) ≤ (k : Int) := by omega
    have i3 : (k : Int) < (n : Int) := by omega
    obtain ⟨t, er, m', HC, HDC⟩ : ∃ (t : ShK) (er : Int) (m' : MemK), Hid (CasD s t m' er dd T) ∧ Hid (∀ W, Below wr.heap.size wr W → Calls Tryz.prog 25 #[aggS x s, zgH dd] W (zlV W t m' er)) := by
     have hFb : -1 ≤ zdq dd := by unfold zdq; split <;> omega
     have hKb : 0 ≤ zbs dd ∧ zbs dd ≤ 1000000 := by
      have := dd.keep.toNat_lt
      unfold zbs
      split <;> omega
     refine ⟨_, _, _, ?_, fun W hb => zoR x s dd W (hx.keep hb) HRS.out hfd (Lib.hid (HKT.out _ (zaa hB hb)))⟩
     rcases zlY zcr HRS.out hfd hFb hKb.1 hKb.2 (by omega) HTK.out with h | h | ⟨h1, h2, h3⟩
     ·exact .inl h
     ·exact .inr (.inl h)
     ·rw [h3] at *
      exact .inr (.inr ⟨h1, h2, za4 HRS.out hFb hKb.1, rfl, by show s.num ≤ s.num + 2; omega, HTK.out⟩)
    unfold aggS zgH at HDC
    clear hfd hde
    obtain ⟨hR9, hBn⟩ := zat wr 37 l0M _ rfl
    go_upto_region 13 with (first
     | (refine zac rfl 37 (.tmp 39) rfl (g5) 9 rfl _ _ (hR5) ((lM x.m s.m)) (by rfl) _ Tryz.underlying37 rfl (by exact zai) ?_)
     | (refine zab rfl 37 (.tmp 9) (.tmp 40) rfl (wr.heap.size) rfl ((lM x.m s.m)) rfl _ _ (hR9) (by exact zai) rfl (zaq x.m s.m) ?_))
    replace hR9 := hR9.setRow (lM x.m s.m)
    have hbn := below_setRow hBn (Nat.le_refl _) (lM x.m s.m).toArray
    have hg9 : g5 < wr.heap.size := hR5.lt
    have hl9 : ∀ b, (Value.slice tA T.length tc).ownBlock = some b → b < wr.heap.size := fun b e => (hown.lt b e).2
    clear hBn
    generalize (wr.alloc (.cells l0M.toArray 37)).setRow wr.heap.size (lM x.m s.m).toArray = wq at hR9 hbn ⊢
    have DC := Lib.hid (fun W (hb : Below wq.heap.size wq W) => HDC.out W (zaa hbn hb))
    replace hR5 := hR5.later hbn
    replace hx := hx.keep hbn
    replace hown := zbh hown hbn
    replace hB := zaa hB hbn
    clear hbn HDC
    generalize wr.heap.size = g9 at hR9 hg9 hl9 ⊢
    (try simp only [pA, pB, pC, Act.put, pD, pE, pF])
    go_cut [10, 11, 12] (fun v1 v2 v3 wc => CutD wq t m' er v1 v2 v3 wc)
    case first =>
     have hq : Below wq.heap.size wq wq.drew := (Below.refl _ _).drew
     have hS : ldS g5 b (o + k * 8) x s dd wq.drew := ⟨hR5.drew, HDE.out _ (zaa hB hq)⟩
     replace hR5 := hR5.drew
     have h5q : g5 < wq.heap.size := by have := hR9.lt; omega
     clear hx hxt hown hl9 HC hR9 hxg
     refine zgJ (ldS g5 b (o + k * 8) x s dd) (.read 0 (.read 1 (.read 2 (.read 3 (.read 4 (.fork 5 (.step 6 false (.step 7 false (.step 8 false (.step 9 false (.fork 10 (.step 11 true (.step 12 true (.step 13 true (.step 14 false .nil)))) 11 (.step 10 true (.step 12 true (.step 13 true (.step 14 false .nil))))))))) 10 (.fork 5 (.step 6 false (.step 7 false (.step 8 false (.step 9 false (.step 11 true (.step 12 true (.step 13 true (.step 14 false .nil)))))))) 11 (.step 5 true (.step 6 false (.step 7 false (.step 8 false (.step 9 false (.step 12 true (.step 13 true (.step 14 false .nil))))))))) 11 (.fork 5 (.step 6 false (.step 7 false (.step 8 false (.step 9 false (.step 10 true (.step 12 true (.step 13 true (.step 14 false .nil)))))))) 10 (.step 5 true (.step 6 false (.step 7 false (.step 8 false (.step 9 false (.step 12 true (.step 13 true (.step 14 false .nil))))))))))))))) hS (by kernel_rfl) (by kernel_rfl) (by rfl) (by kernel_rfl) ?_
     generalize wq.drew = wv at *
     clear hS
     iterate 5 (refine zl1 rfl (by rfl) (v := ?_) ?_ ?_; rotate_left 1; (rintro W ⟨hW5, hW1⟩; (first | (obtain ⟨c0, c1, c2, c3, c4, c5, c6, c7, c8, c9, c10, c11, c12, c13, c14, c15⟩ : (W.cell? ⟨g5, 0, none⟩ = some (.slice x.d.A0 x.d.n0 x.d.c0)) ∧ (W.cell? ⟨g5, 1, none⟩ = some (.int .i64 s.d.a0.s)) ∧ (W.cell? ⟨g5, 2, none⟩ = some (.slice x.d.A1 x.d.n1 x.d.c1)) ∧ (W.cell? ⟨g5, 3, none⟩ = some (.int .i64 s.d.a1.s)) ∧ (W.cell? ⟨g5, 4, none⟩ = some (.int .i64 s.d.fuse)) ∧ (W.cell? ⟨g5, 5, none⟩ = some (.int .i64 s.d.keep)) ∧ (W.cell? ⟨g5, 6, none⟩ = some (.bool s.d.down)) ∧ (W.cell? ⟨g5, 7, none⟩ = some (.int .i64 s.turn)) ∧ (W.cell? ⟨g5, 8, none⟩ = some (.int .u64 (s.num : Int))) ∧ (W.cell? ⟨g5, 9, none⟩ = some (.int .u64 (s.m.clock : Int))) ∧ (W.cell? ⟨g5, 10, none⟩ = some (.int .u64 (s.m.b.1 : Int))) ∧ (W.cell? ⟨g5, 11, none⟩ = some (.slice x.m.b.eA x.m.b.n x.m.b.ec)) ∧ (W.cell? ⟨g5, 12, none⟩ = some (.slice x.m.b.gA x.m.b.g x.m.b.gc)) ∧ (W.cell? ⟨g5, 13, none⟩ = some (.int .i64 s.m.c.1)) ∧ (W.cell? ⟨g5, 14, none⟩ = some (.int .u64 (s.m.c.2.1 : Int))) ∧ (W.cell? ⟨g5, 15, none⟩ = some (.slice x.m.c.A x.m.c.s x.m.c.c)) := ⟨hW5.cell rfl, hW5.cell rfl, hW5.cell rfl, hW5.cell rfl, hW5.cell rfl, hW5.cell rfl, hW5.cell rfl, hW5.cell rfl, hW5.cell rfl, hW5.cell rfl, hW5.cell rfl, hW5.cell rfl, hW5.cell rfl, hW5.cell rfl, hW5.cell rfl, hW5.cell rfl⟩; clear hW5) | skip); (try unfold deS at hW1); (try obtain ⟨e0, e1, e2, e3, e4, e5, e6, e7⟩ := hW1); go_simp <;> with_reducible rfl); simp only [pA, pB, pC, Act.put, pD, pE, pF])
     refine zl2 rfl rfl rfl (by rfl) (by rfl) (by rfl) (fun K hK => ?_) (fun K hK => ?_) (fun K hK => ?_)
     ·go_simp
      refine (DC.out _ hq).mono ?_
      rintro e v1 ⟨y, z, rfl, hy, hz, oy, oz, hb⟩
      have hsz := hq.size
      replace oy : OffS 0 wq.heap.size y := oy.mono (Nat.le_refl _) hsz
      replace oz : OffM 0 wq.heap.size z := oz.mono (Nat.le_refl _) hsz
      replace hR5 := hR5.later hb
      replace hq := zaa hq hb
      refine hK.out _ _ ⟨hR5, HDE.out _ (zaa hB hq)⟩ ?_
      clear hK K hb hsz
      unfold aggS aggM
      (try simp only [pA, pB, pC, Act.put, pD, pE, pF])
      iterate 4 (refine zae rfl (by rfl) (v := ?_) ?_ ?_; rotate_left 1; (intro W hW; go_simp <;> with_reducible rfl); simp only [pA, pB, pC, Act.put, pD, pE, pF])
      refine zco rfl rfl (by rfl) (by rfl) (fun K hK => ?_) (fun K hK => ?_)
      ·as_aux_lemma =>
        obtain ⟨hRa, hb⟩ := zat v1 39 l0S _ rfl
        have hga : wq.heap.size ≤ v1.heap.size := hq.size
        have oya : OffS v1.heap.size (v1.heap.size + 1) y := hy.off _
        have oza : OffM v1.heap.size (v1.heap.size + 1) z := hz.off _
        replace hy := hy.keep hb
        replace hz := hz.keep hb
        replace hR5 := hR5.later hb
        replace hq := zaa hq hb
        go_simp
        refine hK.out _ _ ⟨hR5, HDE.out _ (zaa hB hq)⟩ ?_
        clear hK K hb
        generalize v1.alloc (.cells l0S.toArray 39) = v2 at *
        generalize v1.heap.size = ga at *
        (try simp only [pA, pB, pC, Act.put, pD, pE, pF])
        refine zad rfl (by rfl) (fun K hK => ?_)
        obtain ⟨hRb, hb⟩ := zat v2 37 l0M _ rfl
        have hgb : wq.heap.size ≤ v2.heap.size := hq.size
        have hab : ga < v2.heap.size := hRa.lt
        have oyb : OffS v2.heap.size (v2.heap.size + 1) y := hy.off _
        have ozb : OffM v2.heap.size (v2.heap.size + 1) z := hz.off _
        replace hy := hy.keep hb
        replace hz := hz.keep hb
        replace hR5 := hR5.later hb
        replace hRa := hRa.later hb
        replace hq := zaa hq hb
        go_simp
        refine hK.out _ _ ⟨hR5, HDE.out _ (zaa hB hq)⟩ ?_
        clear hK K hb
        generalize v2.alloc (.cells l0M.toArray 37) = v3 at *
        generalize v2.heap.size = gb at *
        (try simp only [pA, pB, pC, Act.put, pD, pE, pF])
        refine zad rfl (by rfl) (fun K hK => ?_)
        refine Row.wp_store 39 (.tmp 10) (.tmp 48) (by rfl) (by rfl) (lS y t) (by rfl) hRa (by exact zaf) rfl (zan y t) ?_
        have hO := (Only.refl ga v3).setRow (lS y t).toArray
        replace hRa := hRa.setRow (lS y t)
        replace hRb := hRb.only hO (by omega)
        replace hR5 := hR5.only hO (by omega)
        replace hy := hy.at_only hO oya (Nat.le_refl _) (Nat.lt_succ_self _)
        replace hz := hz.at_only hO oza (Nat.le_refl _) (Nat.lt_succ_self _)
        replace hq := below_setRow hq hga (lS y t).toArray
        refine hK.out _ _ ⟨hR5, HDE.out _ (zaa hB hq)⟩ ?_
        clear hK K hO
        generalize v3.setRow ga (lS y t).toArray = v4 at *
        (try simp only [pA, pB, pC, Act.put, pD, pE, pF])
        refine zad rfl (by rfl) (fun K hK => ?_)
        refine Row.wp_store 37 (.tmp 11) (.tmp 49) (by rfl) (by rfl) (lM z m') (by rfl) hRb (by exact zai) rfl (zaq z m') ?_
        have hO := (Only.refl gb v4).setRow (lM z m').toArray
        replace hRb := hRb.setRow (lM z m')
        replace hRa := hRa.only hO (by omega)
        replace hR5 := hR5.only hO (by omega)
        replace hy := hy.at_only hO oyb (Nat.le_refl _) (Nat.lt_succ_self _)
        replace hz := hz.at_only hO ozb (Nat.le_refl _) (Nat.lt_succ_self _)
        replace hq := below_setRow hq hgb (lM z m').toArray
        refine hK.out _ _ ⟨hR5, HDE.out _ (zaa hB hq)⟩ ?_
        clear hK K hO
        generalize v4.setRow gb (lM z m').toArray = v5 at *
        (try simp only [pA, pB, pC, Act.put, pD, pE, pF])
        iterate 1 (refine zae rfl (by rfl) (v := ?_) ?_ ?_; rotate_left 1; (intro W hW; go_simp <;> with_reducible rfl); simp only [pA, pB, pC, Act.put, pD, pE, pF])
        refine zal ?_
        have HREL : Hid (CutD wq t m' er (.pointer (some ⟨ga, 0, none⟩)) (.pointer (some ⟨gb, 0, none⟩)) (.int .i64 er) v5) := ⟨ga, gb, y, z, rfl, rfl, rfl, hga, hgb, by omega, hRa, hRb, hy, hz, oy, oz, hq⟩
        clear hRa hRb hy hz oy oz hq hR5 hga hgb hab oya oyb oza ozb
        go_wp2_with fail
        go_meet
        case rel => exact HREL.out
      ·as_aux_lemma =>
        obtain ⟨hRb, hb⟩ := zat v1 37 l0M _ rfl
        have hgb : wq.heap.size ≤ v1.heap.size := hq.size
        have oyb : OffS v1.heap.size (v1.heap.size + 1) y := hy.off _
        have ozb : OffM v1.heap.size (v1.heap.size + 1) z := hz.off _
        replace hy := hy.keep hb
        replace hz := hz.keep hb
        replace hR5 := hR5.later hb
        replace hq := zaa hq hb
        go_simp
        refine hK.out _ _ ⟨hR5, HDE.out _ (zaa hB hq)⟩ ?_
        clear hK K hb
        generalize v1.alloc (.cells l0M.toArray 37) = v6 at *
        generalize v1.heap.size = gb at *
        (try simp only [pA, pB, pC, Act.put, pD, pE, pF])
        refine zad rfl (by rfl) (fun K hK => ?_)
        obtain ⟨hRa, hb⟩ := zat v6 39 l0S _ rfl
        have hga : wq.heap.size ≤ v6.heap.size := hq.size
        have hab : gb < v6.heap.size := hRb.lt
        have oya : OffS v6.heap.size (v6.heap.size + 1) y := hy.off _
        have oza : OffM v6.heap.size (v6.heap.size + 1) z := hz.off _
        replace hy := hy.keep hb
        replace hz := hz.keep hb
        replace hR5 := hR5.later hb
        replace hRb := hRb.later hb
        replace hq := zaa hq hb
        go_simp
        refine hK.out _ _ ⟨hR5, HDE.out _ (zaa hB hq)⟩ ?_
        clear hK K hb
        generalize v6.alloc (.cells l0S.toArray 39) = v7 at *
        generalize v6.heap.size = ga at *
        (try simp only [pA, pB, pC, Act.put, pD, pE, pF])
        refine zad rfl (by rfl) (fun K hK => ?_)
        refine Row.wp_store 39 (.tmp 10) (.tmp 48) (by rfl) (by rfl) (lS y t) (by rfl) hRa (by exact zaf) rfl (zan y t) ?_
        have hO := (Only.refl ga v7).setRow (lS y t).toArray
        replace hRa := hRa.setRow (lS y t)
        replace hRb := hRb.only hO (by omega)
        replace hR5 := hR5.only hO (by omega)
        replace hy := hy.at_only hO oya (Nat.le_refl _) (Nat.lt_succ_self _)
        replace hz := hz.at_only hO oza (Nat.le_refl _) (Nat.lt_succ_self _)
        replace hq := below_setRow hq hga (lS y t).toArray
        refine hK.out _ _ ⟨hR5, HDE.out _ (zaa hB hq)⟩ ?_
        clear hK K hO
        generalize v7.setRow ga (lS y t).toArray = v8 at *
        (try simp only [pA, pB, pC, Act.put, pD, pE, pF])
        refine zad rfl (by rfl) (fun K hK => ?_)
        refine Row.wp_store 37 (.tmp 11) (.tmp 49) (by rfl) (by rfl) (lM z m') (by rfl) hRb (by exact zai) rfl (zaq z m') ?_
        have hO := (Only.refl gb v8).setRow (lM z m').toArray
        replace hRb := hRb.setRow (lM z m')
        replace hRa := hRa.only hO (by omega)
        replace hR5 := hR5.only hO (by omega)
        replace hy := hy.at_only hO oyb (Nat.le_refl _) (Nat.lt_succ_self _)
        replace hz := hz.at_only hO ozb (Nat.le_refl _) (Nat.lt_succ_self _)
        replace hq := below_setRow hq hgb (lM z m').toArray
        refine hK.out _ _ ⟨hR5, HDE.out _ (zaa hB hq)⟩ ?_
        clear hK K hO
        generalize v8.setRow gb (lM z m').toArray = v9 at *
        (try simp only [pA, pB, pC, Act.put, pD, pE, pF])
        iterate 1 (refine zae rfl (by rfl) (v := ?_) ?_ ?_; rotate_left 1; (intro W hW; go_simp <;> with_reducible rfl); simp only [pA, pB, pC, Act.put, pD, pE, pF])
        refine zal ?_
        have HREL : Hid (CutD wq t m' er (.pointer (some ⟨ga, 0, none⟩)) (.pointer (some ⟨gb, 0, none⟩)) (.int .i64 er) v9) := ⟨ga, gb, y, z, rfl, rfl, rfl, hga, hgb, by omega, hRa, hRb, hy, hz, oy, oz, hq⟩
        clear hRa hRb hy hz oy oz hq hR5 hga hgb hab oya oyb oza ozb
        go_wp2_with fail
        go_meet
        case rel => exact HREL.out
     ·obtain ⟨hRa, hb⟩ := zat wv 39 l0S _ rfl
      have hga : wq.heap.size ≤ wv.heap.size := hq.size
      replace hR5 := hR5.later hb
      replace hq := zaa hq hb
      go_simp
      refine hK.out _ _ ⟨hR5, HDE.out _ (zaa hB hq)⟩ ?_
      clear hK K hb
      generalize wv.alloc (.cells l0S.toArray 39) = v10 at *
      generalize wv.heap.size = ga at *
      (try simp only [pA, pB, pC, Act.put, pD, pE, pF])
      refine zco rfl rfl (by rfl) (by rfl) (fun K hK => ?_) (fun K hK => ?_)
      ·as_aux_lemma =>
        go_simp
        refine (DC.out _ hq).mono ?_
        rintro e v11 ⟨y, z, rfl, hy, hz, oy, oz, hb⟩
        have hsz := hq.size
        have oya : OffS ga (ga + 1) y := oy.mono (Nat.zero_le _) (Nat.succ_le_of_lt hRa.lt)
        have oza : OffM ga (ga + 1) z := oz.mono (Nat.zero_le _) (Nat.succ_le_of_lt hRa.lt)
        replace oy : OffS 0 wq.heap.size y := oy.mono (Nat.le_refl _) hsz
        replace oz : OffM 0 wq.heap.size z := oz.mono (Nat.le_refl _) hsz
        replace hR5 := hR5.later hb
        replace hRa := hRa.later hb
        replace hq := zaa hq hb
        refine hK.out _ _ ⟨hR5, HDE.out _ (zaa hB hq)⟩ ?_
        clear hK K hb hsz
        unfold aggS aggM
        (try simp only [pA, pB, pC, Act.put, pD, pE, pF])
        iterate 4 (refine zae rfl (by rfl) (v := ?_) ?_ ?_; rotate_left 1; (intro W hW; go_simp <;> with_reducible rfl); simp only [pA, pB, pC, Act.put, pD, pE, pF])
        refine zad rfl (by rfl) (fun K hK => ?_)
        obtain ⟨hRb, hb⟩ := zat v11 37 l0M _ rfl
        have hgb : wq.heap.size ≤ v11.heap.size := hq.size
        have hab : ga < v11.heap.size := hRa.lt
        have oyb : OffS v11.heap.size (v11.heap.size + 1) y := hy.off _
        have ozb : OffM v11.heap.size (v11.heap.size + 1) z := hz.off _
        replace hy := hy.keep hb
        replace hz := hz.keep hb
        replace hR5 := hR5.later hb
        replace hRa := hRa.later hb
        replace hq := zaa hq hb
        go_simp
        refine hK.out _ _ ⟨hR5, HDE.out _ (zaa hB hq)⟩ ?_
        clear hK K hb
        generalize v11.alloc (.cells l0M.toArray 37) = v12 at *
        generalize v11.heap.size = gb at *
        (try simp only [pA, pB, pC, Act.put, pD, pE, pF])
        refine zad rfl (by rfl) (fun K hK => ?_)
        refine Row.wp_store 39 (.tmp 10) (.tmp 48) (by rfl) (by rfl) (lS y t) (by rfl) hRa (by exact zaf) rfl (zan y t) ?_
        have hO := (Only.refl ga v12).setRow (lS y t).toArray
        replace hRa := hRa.setRow (lS y t)
        replace hRb := hRb.only hO (by omega)
        replace hR5 := hR5.only hO (by omega)
        replace hy := hy.at_only hO oya (Nat.le_refl _) (Nat.lt_succ_self _)
        replace hz := hz.at_only hO oza (Nat.le_refl _) (Nat.lt_succ_self _)
        replace hq := below_setRow hq hga (lS y t).toArray
        refine hK.out _ _ ⟨hR5, HDE.out _ (zaa hB hq)⟩ ?_
        clear hK K hO
        generalize v12.setRow ga (lS y t).toArray = v13 at *
        (try simp only [pA, pB, pC, Act.put, pD, pE, pF])
        refine zad rfl (by rfl) (fun K hK => ?_)
        refine Row.wp_store 37 (.tmp 11) (.tmp 49) (by rfl) (by rfl) (lM z m') (by rfl) hRb (by exact zai) rfl (zaq z m') ?_
        have hO := (Only.refl gb v13).setRow (lM z m').toArray
        replace hRb := hRb.setRow (lM z m')
        replace hRa := hRa.only hO (by omega)
        replace hR5 := hR5.only hO (by omega)
        replace hy := hy.at_only hO oyb (Nat.le_refl _) (Nat.lt_succ_self _)
        replace hz := hz.at_only hO ozb (Nat.le_refl _) (Nat.lt_succ_self _)
        replace hq := below_setRow hq hgb (lM z m').toArray
        refine hK.out _ _ ⟨hR5, HDE.out _ (zaa hB hq)⟩ ?_
        clear hK K hO
        generalize v13.setRow gb (lM z m').toArray = v14 at *
        (try simp only [pA, pB, pC, Act.put, pD, pE, pF])
        iterate 1 (refine zae rfl (by rfl) (v := ?_) ?_ ?_; rotate_left 1; (intro W hW; go_simp <;> with_reducible rfl); simp only [pA, pB, pC, Act.put, pD, pE, pF])
        refine zal ?_
        have HREL : Hid (CutD wq t m' er (.pointer (some ⟨ga, 0, none⟩)) (.pointer (some ⟨gb, 0, none⟩)) (.int .i64 er) v14) := ⟨ga, gb, y, z, rfl, rfl, rfl, hga, hgb, by omega, hRa, hRb, hy, hz, oy, oz, hq⟩
        clear hRa hRb hy hz oy oz hq hR5 hga hgb hab oya oyb oza ozb
        go_wp2_with fail
        go_meet
        case rel => exact HREL.out
      ·as_aux_lemma =>
        obtain ⟨hRb, hb⟩ := zat v10 37 l0M _ rfl
        have hgb : wq.heap.size ≤ v10.heap.size := hq.size
        have hab : ga < v10.heap.size := hRa.lt
        replace hR5 := hR5.later hb
        replace hRa := hRa.later hb
        replace hq := zaa hq hb
        go_simp
        refine hK.out _ _ ⟨hR5, HDE.out _ (zaa hB hq)⟩ ?_
        clear hK K hb
        generalize v10.alloc (.cells l0M.toArray 37) = v15 at *
        generalize v10.heap.size = gb at *
        (try simp only [pA, pB, pC, Act.put, pD, pE, pF])
        refine zad rfl (by rfl) (fun K hK => ?_)
        go_simp
        refine (DC.out _ hq).mono ?_
        rintro e v16 ⟨y, z, rfl, hy, hz, oy, oz, hb⟩
        have hsz := hq.size
        have oya : OffS ga (ga + 1) y := oy.mono (Nat.zero_le _) (Nat.succ_le_of_lt hRa.lt)
        have oza : OffM ga (ga + 1) z := oz.mono (Nat.zero_le _) (Nat.succ_le_of_lt hRa.lt)
        have oyb : OffS gb (gb + 1) y := oy.mono (Nat.zero_le _) (Nat.succ_le_of_lt hRb.lt)
        have ozb : OffM gb (gb + 1) z := oz.mono (Nat.zero_le _) (Nat.succ_le_of_lt hRb.lt)
        replace oy : OffS 0 wq.heap.size y := oy.mono (Nat.le_refl _) hsz
        replace oz : OffM 0 wq.heap.size z := oz.mono (Nat.le_refl _) hsz
        replace hR5 := hR5.later hb
        replace hRa := hRa.later hb
        replace hRb := hRb.later hb
        replace hq := zaa hq hb
        refine hK.out _ _ ⟨hR5, HDE.out _ (zaa hB hq)⟩ ?_
        clear hK K hb hsz
        unfold aggS aggM
        (try simp only [pA, pB, pC, Act.put, pD, pE, pF])
        iterate 4 (refine zae rfl (by rfl) (v := ?_) ?_ ?_; rotate_left 1; (intro W hW; go_simp <;> with_reducible rfl); simp only [pA, pB, pC, Act.put, pD, pE, pF])
        refine zad rfl (by rfl) (fun K hK => ?_)
        refine Row.wp_store 39 (.tmp 10) (.tmp 48) (by rfl) (by rfl) (lS y t) (by rfl) hRa (by exact zaf) rfl (zan y t) ?_
        have hO := (Only.refl ga v16).setRow (lS y t).toArray
        replace hRa := hRa.setRow (lS y t)
        replace hRb := hRb.only hO (by omega)
        replace hR5 := hR5.only hO (by omega)
        replace hy := hy.at_only hO oya (Nat.le_refl _) (Nat.lt_succ_self _)
        replace hz := hz.at_only hO oza (Nat.le_refl _) (Nat.lt_succ_self _)
        replace hq := below_setRow hq hga (lS y t).toArray
        refine hK.out _ _ ⟨hR5, HDE.out _ (zaa hB hq)⟩ ?_
        clear hK K hO
        generalize v16.setRow ga (lS y t).toArray = v17 at *
        (try simp only [pA, pB, pC, Act.put, pD, pE, pF])
        refine zad rfl (by rfl) (fun K hK => ?_)
        refine Row.wp_store 37 (.tmp 11) (.tmp 49) (by rfl) (by rfl) (lM z m') (by rfl) hRb (by exact zai) rfl (zaq z m') ?_
        have hO := (Only.refl gb v17).setRow (lM z m').toArray
        replace hRb := hRb.setRow (lM z m')
        replace hRa := hRa.only hO (by omega)
        replace hR5 := hR5.only hO (by omega)
        replace hy := hy.at_only hO oyb (Nat.le_refl _) (Nat.lt_succ_self _)
        replace hz := hz.at_only hO ozb (Nat.le_refl _) (Nat.lt_succ_self _)
        replace hq := below_setRow hq hgb (lM z m').toArray
        refine hK.out _ _ ⟨hR5, HDE.out _ (zaa hB hq)⟩ ?_
        clear hK K hO
        generalize v17.setRow gb (lM z m').toArray = v18 at *
        (try simp only [pA, pB, pC, Act.put, pD, pE, pF])
        iterate 1 (refine zae rfl (by rfl) (v := ?_) ?_ ?_; rotate_left 1; (intro W hW; go_simp <;> with_reducible rfl); simp only [pA, pB, pC, Act.put, pD, pE, pF])
        refine zal ?_
        have HREL : Hid (CutD wq t m' er (.pointer (some ⟨ga, 0, none⟩)) (.pointer (some ⟨gb, 0, none⟩)) (.int .i64 er) v18) := ⟨ga, gb, y, z, rfl, rfl, rfl, hga, hgb, by omega, hRa, hRb, hy, hz, oy, oz, hq⟩
        clear hRa hRb hy hz oy oz hq hR5 hga hgb hab oya oyb oza ozb
        go_wp2_with fail
        go_meet
        case rel => exact HREL.out
     ·obtain ⟨hRb, hb⟩ := zat wv 37 l0M _ rfl
      have hgb : wq.heap.size ≤ wv.heap.size := hq.size
      replace hR5 := hR5.later hb
      replace hq := zaa hq hb
      go_simp
      refine hK.out _ _ ⟨hR5, HDE.out _ (zaa hB hq)⟩ ?_
      clear hK K hb
      generalize wv.alloc (.cells l0M.toArray 37) = v19 at *
      generalize wv.heap.size = gb at *
      (try simp only [pA, pB, pC, Act.put, pD, pE, pF])
      refine zco rfl rfl (by rfl) (by rfl) (fun K hK => ?_) (fun K hK => ?_)
      ·as_aux_lemma =>
        go_simp
        refine (DC.out _ hq).mono ?_
        rintro e v20 ⟨y, z, rfl, hy, hz, oy, oz, hb⟩
        have hsz := hq.size
        have oyb : OffS gb (gb + 1) y := oy.mono (Nat.zero_le _) (Nat.succ_le_of_lt hRb.lt)
        have ozb : OffM gb (gb + 1) z := oz.mono (Nat.zero_le _) (Nat.succ_le_of_lt hRb.lt)
        replace oy : OffS 0 wq.heap.size y := oy.mono (Nat.le_refl _) hsz
        replace oz : OffM 0 wq.heap.size z := oz.mono (Nat.le_refl _) hsz
        replace hR5 := hR5.later hb
        replace hRb := hRb.later hb
        replace hq := zaa hq hb
        refine hK.out _ _ ⟨hR5, HDE.out _ (zaa hB hq)⟩ ?_
        clear hK K hb hsz
        unfold aggS aggM
        (try simp only [pA, pB, pC, Act.put, pD, pE, pF])
        iterate 4 (refine zae rfl (by rfl) (v := ?_) ?_ ?_; rotate_left 1; (intro W hW; go_simp <;> with_reducible rfl); simp only [pA, pB, pC, Act.put, pD, pE, pF])
        refine zad rfl (by rfl) (fun K hK => ?_)
        obtain ⟨hRa, hb⟩ := zat v20 39 l0S _ rfl
        have hga : wq.heap.size ≤ v20.heap.size := hq.size
        have hab : gb < v20.heap.size := hRb.lt
        have oya : OffS v20.heap.size (v20.heap.size + 1) y := hy.off _
        have oza : OffM v20.heap.size (v20.heap.size + 1) z := hz.off _
        replace hy := hy.keep hb
        replace hz := hz.keep hb
        replace hR5 := hR5.later hb
        replace hRb := hRb.later hb
        replace hq := zaa hq hb
        go_simp
        refine hK.out _ _ ⟨hR5, HDE.out _ (zaa hB hq)⟩ ?_
        clear hK K hb
        generalize v20.alloc (.cells l0S.toArray 39) = v21 at *
        generalize v20.heap.size = ga at *
        (try simp only [pA, pB, pC, Act.put, pD, pE, pF])
        refine zad rfl (by rfl) (fun K hK => ?_)
        refine Row.wp_store 39 (.tmp 10) (.tmp 48) (by rfl) (by rfl) (lS y t) (by rfl) hRa (by exact zaf) rfl (zan y t) ?_
        have hO := (Only.refl ga v21).setRow (lS y t).toArray
        replace hRa := hRa.setRow (lS y t)
        replace hRb := hRb.only hO (by omega)
        replace hR5 := hR5.only hO (by omega)
        replace hy := hy.at_only hO oya (Nat.le_refl _) (Nat.lt_succ_self _)
        replace hz := hz.at_only hO oza (Nat.le_refl _) (Nat.lt_succ_self _)
        replace hq := below_setRow hq hga (lS y t).toArray
        refine hK.out _ _ ⟨hR5, HDE.out _ (zaa hB hq)⟩ ?_
        clear hK K hO
        generalize v21.setRow ga (lS y t).toArray = v22 at *
        (try simp only [pA, pB, pC, Act.put, pD, pE, pF])
        refine zad rfl (by rfl) (fun K hK => ?_)
        refine Row.wp_store 37 (.tmp 11) (.tmp 49) (by rfl) (by rfl) (lM z m') (by rfl) hRb (by exact zai) rfl (zaq z m') ?_
        have hO := (Only.refl gb v22).setRow (lM z m').toArray
        replace hRb := hRb.setRow (lM z m')
        replace hRa := hRa.only hO (by omega)
        replace hR5 := hR5.only hO (by omega)
        replace hy := hy.at_only hO oyb (Nat.le_refl _) (Nat.lt_succ_self _)
        replace hz := hz.at_only hO ozb (Nat.le_refl _) (Nat.lt_succ_self _)
        replace hq := below_setRow hq hgb (lM z m').toArray
        refine hK.out _ _ ⟨hR5, HDE.out _ (zaa hB hq)⟩ ?_
        clear hK K hO
        generalize v22.setRow gb (lM z m').toArray = v23 at *
        (try simp only [pA, pB, pC, Act.put, pD, pE, pF])
        iterate 1 (refine zae rfl (by rfl) (v := ?_) ?_ ?_; rotate_left 1; (intro W hW; go_simp <;> with_reducible rfl); simp only [pA, pB, pC, Act.put, pD, pE, pF])
        refine zal ?_
        have HREL : Hid (CutD wq t m' er (.pointer (some ⟨ga, 0, none⟩)) (.pointer (some ⟨gb, 0, none⟩)) (.int .i64 er) v23) := ⟨ga, gb, y, z, rfl, rfl, rfl, hga, hgb, by omega, hRa, hRb, hy, hz, oy, oz, hq⟩
        clear hRa hRb hy hz oy oz hq hR5 hga hgb hab oya oyb oza ozb
        go_wp2_with fail
        go_meet
        case rel => exact HREL.out
      ·as_aux_lemma =>
        obtain ⟨hRa, hb⟩ := zat v19 39 l0S _ rfl
        have hga : wq.heap.size ≤ v19.heap.size := hq.size
        have hab : gb < v19.heap.size := hRb.lt
        replace hR5 := hR5.later hb
        replace hRb := hRb.later hb
        replace hq := zaa hq hb
        go_simp
        refine hK.out _ _ ⟨hR5, HDE.out _ (zaa hB hq)⟩ ?_
        clear hK K hb
        generalize v19.alloc (.cells l0S.toArray 39) = v24 at *
        generalize v19.heap.size = ga at *
        (try simp only [pA, pB, pC, Act.put, pD, pE, pF])
        refine zad rfl (by rfl) (fun K hK => ?_)
        go_simp
        refine (DC.out _ hq).mono ?_
        rintro e v25 ⟨y, z, rfl, hy, hz, oy, oz, hb⟩
        have hsz := hq.size
        have oya : OffS ga (ga + 1) y := oy.mono (Nat.zero_le _) (Nat.succ_le_of_lt hRa.lt)
        have oza : OffM ga (ga + 1) z := oz.mono (Nat.zero_le _) (Nat.succ_le_of_lt hRa.lt)
        have oyb : OffS gb (gb + 1) y := oy.mono (Nat.zero_le _) (Nat.succ_le_of_lt hRb.lt)
        have ozb : OffM gb (gb + 1) z := oz.mono (Nat.zero_le _) (Nat.succ_le_of_lt hRb.lt)
        replace oy : OffS 0 wq.heap.size y := oy.mono (Nat.le_refl _) hsz
        replace oz : OffM 0 wq.heap.size z := oz.mono (Nat.le_refl _) hsz
        replace hR5 := hR5.later hb
        replace hRa := hRa.later hb
        replace hRb := hRb.later hb
        replace hq := zaa hq hb
        refine hK.out _ _ ⟨hR5, HDE.out _ (zaa hB hq)⟩ ?_
        clear hK K hb hsz
        unfold aggS aggM
        (try simp only [pA, pB, pC, Act.put, pD, pE, pF])
        iterate 4 (refine zae rfl (by rfl) (v := ?_) ?_ ?_; rotate_left 1; (intro W hW; go_simp <;> with_reducible rfl); simp only [pA, pB, pC, Act.put, pD, pE, pF])
        refine zad rfl (by rfl) (fun K hK => ?_)
        refine Row.wp_store 39 (.tmp 10) (.tmp 48) (by rfl) (by rfl) (lS y t) (by rfl) hRa (by exact zaf) rfl (zan y t) ?_
        have hO := (Only.refl ga v25).setRow (lS y t).toArray
        replace hRa := hRa.setRow (lS y t)
        replace hRb := hRb.only hO (by omega)
        replace hR5 := hR5.only hO (by omega)
        replace hy := hy.at_only hO oya (Nat.le_refl _) (Nat.lt_succ_self _)
        replace hz := hz.at_only hO oza (Nat.le_refl _) (Nat.lt_succ_self _)
        replace hq := below_setRow hq hga (lS y t).toArray
        refine hK.out _ _ ⟨hR5, HDE.out _ (zaa hB hq)⟩ ?_
        clear hK K hO
        generalize v25.setRow ga (lS y t).toArray = v26 at *
        (try simp only [pA, pB, pC, Act.put, pD, pE, pF])
        refine zad rfl (by rfl) (fun K hK => ?_)
        refine Row.wp_store 37 (.tmp 11) (.tmp 49) (by rfl) (by rfl) (lM z m') (by rfl) hRb (by exact zai) rfl (zaq z m') ?_
        have hO := (Only.refl gb v26).setRow (lM z m').toArray
        replace hRb := hRb.setRow (lM z m')
        replace hRa := hRa.only hO (by omega)
        replace hR5 := hR5.only hO (by omega)
        replace hy := hy.at_only hO oyb (Nat.le_refl _) (Nat.lt_succ_self _)
        replace hz := hz.at_only hO ozb (Nat.le_refl _) (Nat.lt_succ_self _)
        replace hq := below_setRow hq hgb (lM z m').toArray
        refine hK.out _ _ ⟨hR5, HDE.out _ (zaa hB hq)⟩ ?_
        clear hK K hO
        generalize v26.setRow gb (lM z m').toArray = v27 at *
        (try simp only [pA, pB, pC, Act.put, pD, pE, pF])
        iterate 1 (refine zae rfl (by rfl) (v := ?_) ?_ ?_; rotate_left 1; (intro W hW; go_simp <;> with_reducible rfl); simp only [pA, pB, pC, Act.put, pD, pE, pF])
        refine zal ?_
        have HREL : Hid (CutD wq t m' er (.pointer (some ⟨ga, 0, none⟩)) (.pointer (some ⟨gb, 0, none⟩)) (.int .i64 er) v27) := ⟨ga, gb, y, z, rfl, rfl, rfl, hga, hgb, by omega, hRa, hRb, hy, hz, oy, oz, hq⟩
        clear hRa hRb hy hz oy oz hq hR5 hga hgb hab oya oyb oza ozb
        go_wp2_with fail
        go_meet
        case rel => exact HREL.out
    case rest =>
     rename World => wx
     obtain ⟨ga, gb, y, z, rfl, rfl, rfl, hga, hgb, hab, hRa, hRb, hy, hz, oy, oz, hb⟩ := hcut
     have h9q : g9 < wq.heap.size := hR9.lt
     have hRL : RL w g5 g9 ga gb x s y t z m' T (.slice tA T.length tc) wx := ⟨hR5.later hb, hR9.later hb, hRa, hRb, hx.keep hb, hy, hz, oy.mono (Nat.le_refl _) (by omega), zbh hown hb, (fun d e => by have := hl9 d e; exact ⟨by omega, by omega, by omega, hxt d e, oy.mono (Nat.zero_le _) (by omega), oz.mono (Nat.zero_le _) (by omega)⟩), ⟨hg9, by omega, by omega, by omega, hab, by omega, hgw⟩, zaa hB hb⟩
     clear hR5 hR9 hRa hRb hx hy hz oy oz hb hB hown hxt hxg hl9 DC hga hgb h9q hg9 hab
     have hver := (HDE.out _ hRL.be).2.2.2.2.2.1
     go_upto_region 14 with fail
     go_cut [60] (fun v wd => CutQ er dd.ver wx v wd)
     case first =>
      by_cases he : er = 0
      ·subst he
       by_cases hv : dd.ver = 0
       ·have v0 : ((dd.ver : Int) == 0) = true := by rw [hv]; rfl
        go_wp2_with fail
        go_meet
        case rel => exact ⟨true, rfl, ⟨fun _ => ⟨rfl, hv⟩, fun _ => rfl⟩, rfl⟩
       ·have v0 : ((dd.ver : Int) == 0) = false := beq_eq_false_iff_ne.2 (fun h => hv (by omega))
        go_wp2_with fail
        go_meet
        case rel => exact ⟨false, rfl, ⟨(fun h => by cases h), fun h => absurd h.2 hv⟩, rfl⟩
      ·have v0 : (er == 0) = false := beq_eq_false_iff_ne.2 he
       go_wp2_with fail
       go_meet
       case rel => exact ⟨false, rfl, ⟨(fun h => by cases h), fun h => absurd h.1 he⟩, rfl⟩
     case rest =>
      rename World => wx0
      obtain ⟨bq, rfl, HQ, hww⟩ := hcut
      subst hww
      clear hver
      go_upto_if 60 with fail
      go_cut [7] (fun v wd => CutT w k g5 g9 ga gb x s y t z m' T er v wd)
      case first =>
       cases bq with
       | false =>
        as_aux_lemma =>
         have HT0 : Hid (er = 0 → TkC T t.m.c) := fun e0 => by
          rcases HC.out with ⟨_, _, _, _, _, h6, _⟩ | ⟨h1, _⟩ | ⟨h1, _⟩
          ·exact h6 (fun hv => by cases HQ.2 ⟨e0, hv⟩)
          ·rw [h1] at e0; cases e0
          ·exact absurd e0 h1
         have HRL := Lib.hid hRL
         clear hRL HC
         go_wp2_with fail
         go_meet
         case rel => exact ⟨T, tA, tc, rfl, by omega, HRL.out, HT0.out, fun _ => rfl⟩
       | true =>
        as_aux_lemma =>
         obtain ⟨he, hv⟩ := HQ.1 rfl
         obtain ⟨hnT, hTu⟩ : dd.u ∉ T ∧ TkC (T ++ [dd.u]) t.m.c := by
          rcases HC.out with ⟨_, _, _, _, h5, _⟩ | ⟨h1, _⟩ | ⟨h1, _⟩
          ·exact h5 hv
          ·rw [h1] at he; cases he
          ·exact absurd he h1
         have HNT := Lib.hid hnT
         have HTU := Lib.hid hTu
         have HER := Lib.hid he
         have HRL := Lib.hid hRL
         clear hnT hTu HC HQ he hv hRL
         go_wp2_with fail
         go_loopw [13] (fun iv wd => ∃ j : Nat, iv = .int .i64 (j : Int) ∧ j ≤ T.length ∧ RL w g5 g9 ga gb x s y t z m' T (.slice tA T.length tc) wd) (fun iv _ => T.length - (intOf iv).toNat)
         case atStart => exact ⟨0, rfl, Nat.zero_le _, HRL.out⟩
         case round =>
          rename World => wd
          clear HRL
          obtain ⟨j, rfl, hj, hRj⟩ := hrel
          by_cases hjl : j < T.length
          ·obtain ⟨tb, oo, hte, htb, _, t0, t1, t2⟩ := (RdU.own hRj.ow).pair hjl
           have hne : T[j] ≠ dd.u := fun e => HNT.out (e ▸ List.getElem_mem hjl)
           generalize T[j] = q at t0 t1 t2 hne
           obtain ⟨x0, x1, x2⟩ := q
           unfold vNU at t0 t1 t2
           dsimp only at t0 t1 t2
           have d0 : ∀ W, Below wd.heap.size wd W → W.cell? ⟨tb, oo + j * 3, none⟩ = some (.int .u64 (x0 : Int)) := fun W hW => (hW.cell (p := ⟨tb, oo + j * 3, none⟩) htb).trans t0
           have d1 : ∀ W, Below wd.heap.size wd W → W.cell? ⟨tb, oo + j * 3 + 1, none⟩ = some (.int .u64 (x1 : Int)) := fun W hW => (hW.cell (p := ⟨tb, oo + j * 3 + 1, none⟩) htb).trans t1
           have d2 : ∀ W, Below wd.heap.size wd W → W.cell? ⟨tb, oo + j * 3 + 2, none⟩ = some (.int .u64 (x2 : Int)) := fun W hW => (hW.cell (p := ⟨tb, oo + j * 3 + 2, none⟩) htb).trans t2
           have d3 := fun W (hW : Below wd.heap.size wd W) => (HDE.out W (zaa hRj.be hW)).1
           have d4 := fun W (hW : Below wd.heap.size wd W) => (HDE.out W (zaa hRj.be hW)).2.1
           have d5 := fun W (hW : Below wd.heap.size wd W) => (HDE.out W (zaa hRj.be hW)).2.2.1
           have hq := fun W => zoU x0 x1 x2 dd.u.1 dd.u.2.1 dd.u.2.2 W
           have hdq : decide ((x0, x1, x2) = (dd.u.1, dd.u.2.1, dd.u.2.2)) = false := decide_eq_false hne
           rw [hdq] at hq
           subst hte
           have q0 : (0 : Int) ≤ (j : Int) := by omega
           have q1 : (j : Int) < (T.length : Int) := by omega
           have HRJ := Lib.hid hRj
           clear t0 t1 t2 hRj hne hdq htb
           go_wp2_with fail
           have hBase := (Below.refl wd.heap.size wd).drew
           refine zaw (.step 0 false (.step 1 false (.step 2 false (.step 3 false (.step 4 false (.step 5 false (.step 6 false (.step 7 false (.step 8 false (.step 9 false (.nil))))))))))) (by kernel_rfl) (by kernel_rfl) (by rfl) (by kernel_rfl) ?_
           iterate 10 (refine zae rfl (by rfl) (v := ?_) ?_ ?_; rotate_left 1; (intro W hW; have hW0 := zaa hBase hW; (try dsimp only at hW); go_simp <;> with_reducible rfl); simp only [pA, pB, pC, Act.put, pD, pE, pF])
           refine zal ?_
           clear d0 d1 d2 d3 d4 d5 hq
           have HRJ2 := Lib.hid (HRJ.out.later hBase)
           clear HRJ hBase
           go_wp2_with fail
           go_roundw
           case rel => exact ⟨j + 1, by go_num, by omega, HRJ2.out⟩
           case measure => simp [intOf]; omega
          ·have q1 : ¬ (j : Int) < (T.length : Int) := by omega
           obtain ⟨d0, d1, d2, _⟩ := HDE.out _ hRj.be
           go_wp2_with (at_builtin; refine zbI _ rfl (.tmp 77) (.tmp 83) 33 rfl (g5 + 1) 57 j0 (.agg #[.int .u64 0, .int .u64 0, .int .u64 0]) 24 Tryz.underlying33 hj0 gz0 gz1 gz2 rfl _ _ _ rfl (hRj.ow.alloc _) (some ⟨wd.heap.size, 0, none⟩) [(dd.u.1, dd.u.2.1, dd.u.2.2)] 1 rfl (RdU.one _ _ _ _ _) (by simp; unfold maxLen; omega) (by simp; omega) (by have := hRj.r5.lt; simp; omega) ?_; intro v7 w7 hown7 hgrow7 hat7)
           have hRA := hRj.later (zak (Below.refl _ wd) (.cells #[.int .u64 (dd.u.1 : Int), .int .u64 (dd.u.2.1 : Int), .int .u64 (dd.u.2.2 : Int)] 57))
           have hRB := hRA.grown hgrow7 (u := dd.u) hown7 hat7
           obtain ⟨A7, c7, rfl, _, _, _⟩ := zcM hRB.ow
           have HRB := Lib.hid hRB
           clear hRj hRA hRB hown7 hgrow7 hat7 d0 d1 d2
           go_meet
           case rel => exact ⟨T ++ [dd.u], A7, c7, rfl, by rw [List.length_append]; show T.length + 1 ≤ k + 1; omega, HRB.out, fun _ => HTU.out, fun h => absurd HER.out h⟩
      case rest =>
       rename World => wy
       obtain ⟨T', tA', tc', rfl, hT', hRL2, HTE, HTN⟩ := hcut
       clear hRL HQ
       go_upto_if 86 with fail
       go_cut [7] (fun v wd => CutU w k g5 g9 ga x s v wd)
       case first =>
        have HRL := Lib.hid hRL2
        rcases HC.out with ⟨he, c1, c2, c3, _, _, c6, c7⟩ | ⟨he, hrise, hlim, s2, hop, hrs2, hmm, hn2, hnv, htk2, hbv, hck⟩ | ⟨he, he2, c1, c2, c3, c4⟩
        ·subst he
         have HOK : Hid (zav fS t ∧ TkC T' t.m.c ∧ t.num ≤ s.num + 2 ∧ s.m.b.1 ≤ t.m.b.1 ∧ s.m.clock ≤ t.m.clock) := ⟨c1, HTE rfl, c3, c6, c7⟩
         have HEQ := Lib.hid c2
         clear c1 c2 c3 c6 c7 HTE HTN HC HRL
         have hsm := zbC y.m z t.m m' wy hRL2.iy.im hRL2.iz
         unfold aggM at hsm
         have HSM := Lib.hid hsm
         clear hsm
         have c9 := hRL2.ra.cell (i := 9) rfl
         have c10 := hRL2.ra.cell (i := 10) rfl
         have c11 := hRL2.ra.cell (i := 11) rfl
         have c12 := hRL2.ra.cell (i := 12) rfl
         have c13 := hRL2.ra.cell (i := 13) rfl
         have c14 := hRL2.ra.cell (i := 14) rfl
         have c15 := hRL2.ra.cell (i := 15) rfl
         have b0 := hRL2.rb.cell (i := 0) rfl
         have b1 := hRL2.rb.cell (i := 1) rfl
         have b2 := hRL2.rb.cell (i := 2) rfl
         have b3 := hRL2.rb.cell (i := 3) rfl
         have b4 := hRL2.rb.cell (i := 4) rfl
         have b5 := hRL2.rb.cell (i := 5) rfl
         have b6 := hRL2.rb.cell (i := 6) rfl
         go_wp2_with fail
         refine HSM.out.mono ?_
         rintro e wj ⟨r, rfl, HQ2, hb⟩
         have hr1 : r = true := HQ2.out.2 HEQ.out
         subst hr1
         replace hRL2 := hRL2.later hb
         clear c9 c10 c11 c12 c13 c14 c15 b0 b1 b2 b3 b4 b5 b6 hb HQ2 HSM
         go_wp2_with fail
         go_meet
         case rel => exact ⟨T', tA', tc', y, t, rfl, hT', hRL2.rt, HOK.out⟩
        ·as_aux_lemma =>
          obtain rfl := HTN (by rw [he]; decide)
          subst he
          have HLEN : Hid (t.d.a0.b.length ≤ 70368744177664 ∧ t.d.a1.b.length ≤ 70368744177664) := zjc hrise
          have HV := Lib.hid hnv
          have HT2 := Lib.hid htk2
          have HMM := Lib.hid hmm
          have HOK : Hid (zav fS s2 ∧ s2.num ≤ s.num + 2 ∧ s.m.b.1 ≤ s2.m.b.1 ∧ s.m.clock ≤ s2.m.clock) := ⟨hrs2, hn2, hbv, hck⟩
          clear hnv htk2 hmm hrs2 hn2 hbv hck HTE HTN HC HRL
          have hri := zk2 y.d t.d wy hRL2.iy.id (by rw [← hRL2.iy.id.l0]; have := HLEN.out.1; omega) (by rw [← hRL2.iy.id.l1]; have := HLEN.out.2; omega)
          unfold aggD at hri
          obtain ⟨D2, e2, hQ⟩ : ∃ D2 e2, zbL t.d = (D2, e2) := ⟨_, _, rfl⟩
          rw [hQ] at hri hrise hlim hop
          have HRI := Lib.hid hri
          have HLIM := Lib.hid hlim
          have HOPK := Lib.hid hop
          clear hri hlim hop hQ HLEN
          dsimp only at hrise
          subst hrise
          go_wp2_with (refine zac rfl 27 (.tmp 88) rfl (ga) 0 rfl _ _ (hRL2.ra) ((lD y.d t.d)) (by rfl) _ Tryz.underlying27 rfl (by exact zaj) ?_)
          refine HRI.out.mono ?_
          rintro e wu ⟨y2, rfl, hy2, hyf, hb⟩
          replace hRL2 := hRL2.later hb
          obtain ⟨hR14, hBn⟩ := zat wu 27 l0D _ rfl
          clear hb HRI hyf
          unfold aggD
          dsimp only at hy2 ⊢
          go_upto_region 23 with (refine zab rfl 27 (.tmp 14) (.tmp 91) rfl (wu.heap.size) rfl ((lD y2 D2)) rfl _ _ (hR14) (by exact zaj) rfl (za7 y2 D2) ?_)
          replace hR14 := hR14.setRow (lD y2 D2)
          have hbn := below_setRow hBn (Nat.le_refl _) (lD y2 D2).toArray
          clear hBn
          generalize (wu.alloc (.cells l0D.toArray 27)).setRow wu.heap.size (lD y2 D2).toArray = wu2 at hR14 hbn ⊢
          replace hRL2 := hRL2.later hbn
          replace hy2 := hy2.keep hbn
          clear hbn
          generalize wu.heap.size = g14 at hR14 ⊢
          have hop := zej y2 D2 0 wu2 hy2 HLIM.out (Lib.hid (HKT.out _ hRL2.be))
          rw [HOPK.out] at hop
          unfold aggD at hop
          have HOP := Lib.hid hop
          have hga2 : ga < wu2.heap.size := hRL2.ra.lt
          have hlt2 := fun d e => (hRL2.ow.lt d e).2
          clear hop HLIM HOPK hy2
          go_wp2_with (refine zac rfl 27 (.tmp 14) rfl (g14) 0 rfl _ _ (hR14) ((lD y2 D2)) (by rfl) _ Tryz.underlying27 rfl (by exact zaj) ?_)
          refine HOP.out.mono ?_
          rintro e wo ⟨u, rfl, hu, huo, hb⟩
          replace hRL2 := hRL2.later hb
          have hua : OffS 0 (ga + 1) u := huo.mono (Nat.le_refl _) hga2
          have hut : ∀ d, (Value.slice tA' T'.length tc').ownBlock = some d → OffS d (d + 1) u := fun d e => huo.mono (Nat.zero_le _) (hlt2 d e)
          obtain ⟨hR16, hBn⟩ := zat wo 39 l0S _ rfl
          have hg16 := fun d e => (hRL2.ow.lt d e).2
          clear hb HOP huo hga2 hlt2 hR14
          unfold aggS
          (try dsimp only)
          go_upto_region 24 with (refine zab rfl 39 (.tmp 16) (.tmp 96) rfl (wo.heap.size) rfl ((lS u s2)) rfl _ _ (hR16) (by exact zaf) rfl (zan u s2) ?_)
          replace hR16 := hR16.setRow (lS u s2)
          have hbn := below_setRow hBn (Nat.le_refl _) (lS u s2).toArray
          clear hBn
          generalize (wo.alloc (.cells l0S.toArray 39)).setRow wo.heap.size (lS u s2).toArray = wo2 at hR16 hbn ⊢
          replace hRL2 := hRL2.later hbn
          replace hu := hu.keep hbn
          clear hbn
          generalize wo.heap.size = g16 at hR16 hg16 ⊢
          by_cases hsame : s2.m = s.m
          ·have HSA := Lib.hid hsame
           clear hsame
           have hsm := zbC u.m x.m s2.m s.m wo2 hu.im hRL2.ix.im
           unfold aggM at hsm
           have HSM := Lib.hid hsm
           clear hsm
           have c9 := hR16.cell (i := 9) rfl
           have c10 := hR16.cell (i := 10) rfl
           have c11 := hR16.cell (i := 11) rfl
           have c12 := hR16.cell (i := 12) rfl
           have c13 := hR16.cell (i := 13) rfl
           have c14 := hR16.cell (i := 14) rfl
           have c15 := hR16.cell (i := 15) rfl
           have b0 := hRL2.r9.cell (i := 0) rfl
           have b1 := hRL2.r9.cell (i := 1) rfl
           have b2 := hRL2.r9.cell (i := 2) rfl
           have b3 := hRL2.r9.cell (i := 3) rfl
           have b4 := hRL2.r9.cell (i := 4) rfl
           have b5 := hRL2.r9.cell (i := 5) rfl
           have b6 := hRL2.r9.cell (i := 6) rfl
           go_wp2_with fail
           refine HSM.out.mono ?_
           rintro e wp ⟨r, rfl, HQ2, hb⟩
           have hr1 : r = true := HQ2.out.2 HSA.out
           subst hr1
           replace hRL2 := hRL2.later hb
           replace hR16 := hR16.later hb
           replace hu := hu.keep hb
           clear c9 c10 c11 c12 c13 c14 c15 b0 b1 b2 b3 b4 b5 b6 hb HQ2 HSM
           have hver := (HDE.out _ hRL2.be).2.2.2.2.2.1
           by_cases hv : dd.ver = 0
           ·have v0 : ((dd.ver : Int) == 0) = true := by rw [hv]; rfl
            have HVZ := Lib.hid hv
            clear hv
            have hsm := zbC u.m x.m s2.m s.m wp hu.im hRL2.ix.im
            unfold aggM at hsm
            have HSM := Lib.hid hsm
            clear hsm
            have c9 := hR16.cell (i := 9) rfl
            have c10 := hR16.cell (i := 10) rfl
            have c11 := hR16.cell (i := 11) rfl
            have c12 := hR16.cell (i := 12) rfl
            have c13 := hR16.cell (i := 13) rfl
            have c14 := hR16.cell (i := 14) rfl
            have c15 := hR16.cell (i := 15) rfl
            have b0 := hRL2.r9.cell (i := 0) rfl
            have b1 := hRL2.r9.cell (i := 1) rfl
            have b2 := hRL2.r9.cell (i := 2) rfl
            have b3 := hRL2.r9.cell (i := 3) rfl
            have b4 := hRL2.r9.cell (i := 4) rfl
            have b5 := hRL2.r9.cell (i := 5) rfl
            have b6 := hRL2.r9.cell (i := 6) rfl
            go_wp2_with fail
            refine HSM.out.mono ?_
            rintro e wr2 ⟨r, rfl, HQ2, hb⟩
            have hr1 : r = true := HQ2.out.2 HSA.out
            subst hr1
            replace hRL2 := hRL2.later hb
            replace hR16 := hR16.later hb
            replace hu := hu.keep hb
            clear c9 c10 c11 c12 c13 c14 c15 b0 b1 b2 b3 b4 b5 b6 hb HQ2 HSM hver
            as_aux_lemma =>
             have hT := Lib.hid (hRL2.risen hu hua hut)
             go_wp2_with (first
              | (refine zac rfl 39 (.tmp 16) rfl (g16) 0 rfl _ _ (hR16) ((lS u s2)) (by rfl) _ Tryz.underlying39 rfl (by exact zaf) ?_)
              | (refine zab rfl 39 (.tmp 10) (.tmp 139) rfl (ga) rfl ((lS u s2)) rfl _ _ (hRL2.ra) (by exact zaf) rfl (zan u s2) ?_))
             have HREL : Hid (CutU w k g5 g9 ga x s (.slice tA' T'.length tc') (wr2.setRow ga (lS u s2).toArray)) := ⟨T', tA', tc', u, s2, rfl, hT', hT.out, HOK.out.1, HT2.out, HOK.out.2⟩
             go_meet
             case rel => exact HREL.out
           ·have v0 : ((dd.ver : Int) == 0) = false := beq_eq_false_iff_ne.2 (fun h => hv (by omega))
            clear hv
            as_aux_lemma =>
             have hT := Lib.hid (hRL2.risen hu hua hut)
             go_wp2_with (first
              | (refine zac rfl 39 (.tmp 16) rfl (g16) 0 rfl _ _ (hR16) ((lS u s2)) (by rfl) _ Tryz.underlying39 rfl (by exact zaf) ?_)
              | (refine zab rfl 39 (.tmp 10) (.tmp 139) rfl (ga) rfl ((lS u s2)) rfl _ _ (hRL2.ra) (by exact zaf) rfl (zan u s2) ?_))
             have HREL : Hid (CutU w k g5 g9 ga x s (.slice tA' T'.length tc') (wp.setRow ga (lS u s2).toArray)) := ⟨T', tA', tc', u, s2, rfl, hT', hT.out, HOK.out.1, HT2.out, HOK.out.2⟩
             go_meet
             case rel => exact HREL.out
          ·have HTO : Hid (s2.m = m') := HMM.out.resolve_left hsame
           have HSA := Lib.hid hsame
           clear hsame
           have hsm := zbC u.m x.m s2.m s.m wo2 hu.im hRL2.ix.im
           unfold aggM at hsm
           have HSM := Lib.hid hsm
           clear hsm
           have c9 := hR16.cell (i := 9) rfl
           have c10 := hR16.cell (i := 10) rfl
           have c11 := hR16.cell (i := 11) rfl
           have c12 := hR16.cell (i := 12) rfl
           have c13 := hR16.cell (i := 13) rfl
           have c14 := hR16.cell (i := 14) rfl
           have c15 := hR16.cell (i := 15) rfl
           have b0 := hRL2.r9.cell (i := 0) rfl
           have b1 := hRL2.r9.cell (i := 1) rfl
           have b2 := hRL2.r9.cell (i := 2) rfl
           have b3 := hRL2.r9.cell (i := 3) rfl
           have b4 := hRL2.r9.cell (i := 4) rfl
           have b5 := hRL2.r9.cell (i := 5) rfl
           have b6 := hRL2.r9.cell (i := 6) rfl
           go_wp2_with fail
           refine HSM.out.mono ?_
           rintro e wp ⟨r, rfl, HQ2, hb⟩
           have hr1 : r = false := by
            cases r with
            | false => rfl
            | true => exact absurd (HQ2.out.1 rfl) HSA.out
           subst hr1
           replace hRL2 := hRL2.later hb
           replace hR16 := hR16.later hb
           replace hu := hu.keep hb
           clear c9 c10 c11 c12 c13 c14 c15 b0 b1 b2 b3 b4 b5 b6 hb HQ2 HSM
           have hsm := zbC u.m z s2.m m' wp hu.im hRL2.iz
           unfold aggM at hsm
           have HSM := Lib.hid hsm
           clear hsm
           have c9 := hR16.cell (i := 9) rfl
           have c10 := hR16.cell (i := 10) rfl
           have c11 := hR16.cell (i := 11) rfl
           have c12 := hR16.cell (i := 12) rfl
           have c13 := hR16.cell (i := 13) rfl
           have c14 := hR16.cell (i := 14) rfl
           have c15 := hR16.cell (i := 15) rfl
           have b0 := hRL2.rb.cell (i := 0) rfl
           have b1 := hRL2.rb.cell (i := 1) rfl
           have b2 := hRL2.rb.cell (i := 2) rfl
           have b3 := hRL2.rb.cell (i := 3) rfl
           have b4 := hRL2.rb.cell (i := 4) rfl
           have b5 := hRL2.rb.cell (i := 5) rfl
           have b6 := hRL2.rb.cell (i := 6) rfl
           go_wp2_with fail
           refine HSM.out.mono ?_
           rintro e wp2 ⟨r, rfl, HQ2, hb⟩
           have hr1 : r = true := HQ2.out.2 HTO.out
           subst hr1
           replace hRL2 := hRL2.later hb
           replace hR16 := hR16.later hb
           replace hu := hu.keep hb
           clear c9 c10 c11 c12 c13 c14 c15 b0 b1 b2 b3 b4 b5 b6 hb HQ2 HSM
           have hver := (HDE.out _ hRL2.be).2.2.2.2.2.1
           by_cases hv : dd.ver = 0
           ·have v0 : ((dd.ver : Int) == 0) = true := by rw [hv]; rfl
            have HVZ := Lib.hid hv
            clear hv
            have hsm := zbC u.m x.m s2.m s.m wp2 hu.im hRL2.ix.im
            unfold aggM at hsm
            have HSM := Lib.hid hsm
            clear hsm
            have c9 := hR16.cell (i := 9) rfl
            have c10 := hR16.cell (i := 10) rfl
            have c11 := hR16.cell (i := 11) rfl
            have c12 := hR16.cell (i := 12) rfl
            have c13 := hR16.cell (i := 13) rfl
            have c14 := hR16.cell (i := 14) rfl
            have c15 := hR16.cell (i := 15) rfl
            have b0 := hRL2.r9.cell (i := 0) rfl
            have b1 := hRL2.r9.cell (i := 1) rfl
            have b2 := hRL2.r9.cell (i := 2) rfl
            have b3 := hRL2.r9.cell (i := 3) rfl
            have b4 := hRL2.r9.cell (i := 4) rfl
            have b5 := hRL2.r9.cell (i := 5) rfl
            have b6 := hRL2.r9.cell (i := 6) rfl
            go_wp2_with fail
            refine HSM.out.mono ?_
            rintro e wr2 ⟨r, rfl, HQ2, hb⟩
            have hr1 : r = false := by
             cases r with
             | false => rfl
             | true => exact absurd (HQ2.out.1 rfl) HSA.out
            subst hr1
            replace hRL2 := hRL2.later hb
            replace hR16 := hR16.later hb
            replace hu := hu.keep hb
            clear c9 c10 c11 c12 c13 c14 c15 b0 b1 b2 b3 b4 b5 b6 hb HQ2 HSM hver
            obtain ⟨d0, d1, d2, _⟩ := HDE.out _ hRL2.be
            go_upto_region 28 with (at_builtin; refine zbI _ rfl (.tmp 131) (.tmp 137) 33 rfl (g5 + 1) 57 j0 (.agg #[.int .u64 0, .int .u64 0, .int .u64 0]) 24 Tryz.underlying33 hj0 gz0 gz1 gz2 rfl _ _ _ rfl (hRL2.ow.alloc _) (some ⟨wr2.heap.size, 0, none⟩) [(dd.u.1, dd.u.2.1, dd.u.2.2)] 1 rfl (RdU.one _ _ _ _ _) (by simp; unfold maxLen; omega) (by simp; omega) (by have := hRL2.r5.lt; simp; omega) ?_; intro v7 w7 hown7 hgrow7 hat7)
            have hbm := zak (Below.refl _ wr2) (.cells #[.int .u64 (dd.u.1 : Int), .int .u64 (dd.u.2.1 : Int), .int .u64 (dd.u.2.2 : Int)] 57)
            have hRA := hRL2.later hbm
            have hRB := hRA.grown hgrow7 (u := dd.u) hown7 hat7
            have hL16 : ∀ d, (Value.slice tA' T'.length tc').ownBlock = some d → d ≠ g16 := fun d e => by have := hg16 d e; omega
            replace hR16 := (hR16.later hbm).grown hgrow7 (fun e => hL16 _ e rfl)
            have hu0 := hu.keep hbm
            replace hu := hu0.grownA hgrow7 (fun d e => hut d e)
            have hut7 : ∀ d, v7.ownBlock = some d → OffS d (d + 1) u := fun d e => by
             rcases hat7 with h7 | h7
             ·exact hut d (h7 ▸ e)
             ·rw [h7] at e
              injection e with e
              subst e
              exact hu0.off _
            obtain ⟨A7, c7, rfl, _, _, _⟩ := zcM hRB.ow
            replace hRL2 := hRB
            clear hRA hRB hown7 hgrow7 hat7 d0 d1 d2 hbm hL16 hu0
            skip
            as_aux_lemma =>
             have hT := Lib.hid (hRL2.risen hu hua hut7)
             go_wp2_with (first
              | (refine zac rfl 39 (.tmp 16) rfl (g16) 0 rfl _ _ (hR16) ((lS u s2)) (by rfl) _ Tryz.underlying39 rfl (by exact zaf) ?_)
              | (refine zab rfl 39 (.tmp 10) (.tmp 139) rfl (ga) rfl ((lS u s2)) rfl _ _ (hRL2.ra) (by exact zaf) rfl (zan u s2) ?_))
             have HREL : Hid (CutU w k g5 g9 ga x s (.slice A7 (T' ++ [dd.u]).length c7) (w7.setRow ga (lS u s2).toArray)) := ⟨T' ++ [dd.u], A7, c7, u, s2, rfl, (by rw [List.length_append]; show T'.length + 1 ≤ k + 1; omega), hT.out, HOK.out.1, HV.out HVZ.out HSA.out, HOK.out.2⟩
             go_meet
             case rel => exact HREL.out
           ·have v0 : ((dd.ver : Int) == 0) = false := beq_eq_false_iff_ne.2 (fun h => hv (by omega))
            clear hv
            as_aux_lemma =>
             have hT := Lib.hid (hRL2.risen hu hua hut)
             go_wp2_with (first
              | (refine zac rfl 39 (.tmp 16) rfl (g16) 0 rfl _ _ (hR16) ((lS u s2)) (by rfl) _ Tryz.underlying39 rfl (by exact zaf) ?_)
              | (refine zab rfl 39 (.tmp 10) (.tmp 139) rfl (ga) rfl ((lS u s2)) rfl _ _ (hRL2.ra) (by exact zaf) rfl (zan u s2) ?_))
             have HREL : Hid (CutU w k g5 g9 ga x s (.slice tA' T'.length tc') (wp2.setRow ga (lS u s2).toArray)) := ⟨T', tA', tc', u, s2, rfl, hT', hT.out, HOK.out.1, HT2.out, HOK.out.2⟩
             go_meet
             case rel => exact HREL.out
        ·have v0 : (er == 0) = false := beq_eq_false_iff_ne.2 he
         have v1 : (er != 0) = true := by rw [bne, v0]; rfl
         have v2 : (er == 14) = false := beq_eq_false_iff_ne.2 he2
         obtain rfl := HTN he
         have HOK : Hid (zav fS t ∧ TkC T' t.m.c ∧ t.num ≤ s.num + 2 ∧ s.m.b.1 ≤ t.m.b.1 ∧ s.m.clock ≤ t.m.clock) := ⟨c1, c4, c3, by rw [c2]; exact Nat.le_refl _, by rw [c2]; exact Nat.le_refl _⟩
         have HEQ := Lib.hid c2
         clear c1 c2 c3 c4 HTE HTN HC HRL he he2
         have hsm := zbC y.m x.m t.m s.m wy hRL2.iy.im hRL2.ix.im
         unfold aggM at hsm
         have HSM := Lib.hid hsm
         clear hsm
         have c9 := hRL2.ra.cell (i := 9) rfl
         have c10 := hRL2.ra.cell (i := 10) rfl
         have c11 := hRL2.ra.cell (i := 11) rfl
         have c12 := hRL2.ra.cell (i := 12) rfl
         have c13 := hRL2.ra.cell (i := 13) rfl
         have c14 := hRL2.ra.cell (i := 14) rfl
         have c15 := hRL2.ra.cell (i := 15) rfl
         have b0 := hRL2.r9.cell (i := 0) rfl
         have b1 := hRL2.r9.cell (i := 1) rfl
         have b2 := hRL2.r9.cell (i := 2) rfl
         have b3 := hRL2.r9.cell (i := 3) rfl
         have b4 := hRL2.r9.cell (i := 4) rfl
         have b5 := hRL2.r9.cell (i := 5) rfl
         have b6 := hRL2.r9.cell (i := 6) rfl
         go_wp2_with fail
         refine HSM.out.mono ?_
         rintro e wj ⟨r, rfl, HQ2, hb⟩
         have hr1 : r = true := HQ2.out.2 HEQ.out
         subst hr1
         replace hRL2 := hRL2.later hb
         clear c9 c10 c11 c12 c13 c14 c15 b0 b1 b2 b3 b4 b5 b6 hb HQ2 HSM
         go_wp2_with fail
         go_meet
         case rel => exact ⟨T', tA', tc', y, t, rfl, hT', hRL2.rt, HOK.out⟩
       case rest =>
        as_aux_lemma =>
         rename World => wz
         obtain ⟨T2, tB, tcb, y3, t3, rfl, hT2, hRT, hrs3, htk3, hnum3, hbv3, hck3⟩ := hcut
         clear hRL2 HTE HTN HC
         have hlen := (OpI.of hrs3).lens
         have hrt := zdE y3 t3 wz hRT.iy (by rw [← hRT.iy.id.l0]; omega) (by rw [← hRT.iy.id.l1]; omega) (by omega) (Lib.hid (HKT.out _ hRT.be))
         unfold aggS at hrt
         have HRT := Lib.hid hrt
         have HRS3 := Lib.hid hrs3
         have HTK3 := Lib.hid htk3
         clear hrt hlen hrs3 htk3
         go_wp2_with (refine zac rfl 39 (.tmp 10) rfl (ga) 0 rfl _ _ (hRT.ra) ((lS y3 t3)) (by rfl) _ Tryz.underlying39 rfl (by exact zaf) ?_)
         refine HRT.out.mono ?_
         rintro e wk ⟨r, rfl, HQ3, hb⟩
         have hr1 : r = true := HQ3.out.2 HRS3.out
         subst hr1
         replace hRT := hRT.later hb
         clear hb HQ3 HRT
         have c9 := hRT.ra.cell (i := 9) rfl
         have c10 := hRT.ra.cell (i := 10) rfl
         have b0 := hRT.r9.cell (i := 0) rfl
         have b1 := hRT.r9.cell (i := 1) rfl
         have i8 : ¬ (t3.m.b.1 : Int) < (s.m.b.1 : Int) := by omega
         have i9 : ¬ (t3.m.clock : Int) < (s.m.clock : Int) := by omega
         have hO := (Only.refl g5 wk).setRow (lS y3 t3).toArray
         have hr5 := hRT.r5.setRow (lS y3 t3)
         have hi5 := hRT.iy.at_only hO hRT.oy (Nat.zero_le _) (Nat.lt_succ_self _)
         have ho5 := zhP hRT.ow hO (Nat.lt_succ_self _)
         have hb5 := below_setRow hRT.be hRT.o1 (lS y3 t3).toArray
         go_wp2_with (first
          | (refine zac rfl 39 (.tmp 10) rfl (ga) 0 rfl _ _ (hRT.ra) ((lS y3 t3)) (by rfl) _ Tryz.underlying39 rfl (by exact zaf) ?_)
          | (refine zab rfl 39 (.tmp 5) (.tmp 181) rfl (g5) rfl ((lS y3 t3)) rfl _ _ (hRT.r5) (by exact zaf) rfl (zan y3 t3) ?_))
         go_roundw
         case rel => exact ⟨k + 1, y3, t3, T2, tB, tcb, rfl, by go_num, by omega, hT2, hr5, hi5, hRT.oy.mono (Nat.zero_le _) (Nat.le_refl _), hRT.ot, ho5, HRS3, HTK3, by omega, hb5⟩
         case measure => simp [intOf]; omega
   ·have hkn : k = n := by omega
    subst hkn
    have i3 : ¬ (k : Int) < (k : Int) := by omega
    go_wp2_with fail
    go_ret
    exact ⟨rfl, hB⟩
theorem ktab_of_laid {W : World} (h : laidMetH Tryz.prog [("wristband/sha.constants", Rows.laid_wristband_sha_constants)] W) : KTab W := by
 rw [MakeChecks.laidMetH_plain _ _ _ (by kernel_rfl)] at h
 have e : (Rows.laid_wristband_sha_constants : DataW Unit) = Lib.tabData .u32 (kL.map fun x => (x.toNat : Int)) := by kernel_rfl
 rw [e] at h
 have hT := Lib.tabIs_of_head (P := Tryz.prog) (g := 0) (t := 245) (e := 227) (n := 64) (by kernel_rfl) (by kernel_rfl) Tryz.underlying245 Tryz.underlying227 (by kernel_rfl) (by kernel_rfl) h
 intro i hi
 have h64 : kL.length = 64 := rfl
 have := hT.cell (g := 0) (by kernel_rfl) i (by simp [h64, hi])
 show _ = some (Value.int .u32 ((kL.getD i 0).toNat : Int))
 rw [this]
 simp [List.getD, h64, hi]
end Go.Proofs.YteljklkgdejhpaaGreatDoor
namespace Go.Proofs.YteljklkgdejhpaaGreatDoor
open Go.RowKit Go.WideShapes
theorem shelflasts_any (v0 v1 : Value) (W : World) {H : Type} {enc : TypeId × Value → H} {base : Nat} {d0 d1 : DataW H} {p0 p1 : List MemPlace} (hv0 : Value.okWide Tryz.prog W .any base 5 v0) (ht0 : DataW.Trod enc Tryz.prog W 0 (fun _ => true) true 5 v0 d0 p0)
  (hv1 : Value.okWide Tryz.prog W .any base 64 v1) (ht1 : DataW.Trod enc Tryz.prog W 0 (fun _ => true) true 64 v1 d1 p1) (hk : KTab W) :
  Calls Tryz.prog 5 #[v0, v1] W fun e w' => e = .returned (.bool true) ∧ Below W.heap.size W w' := by
 obtain ⟨y, rfl, hy⟩ := zpJ hv0 ht0
 obtain ⟨l, A, c, rfl, hc, hm, hr, hf⟩ := zl0 hv1 ht1
 exact zgK y l _ c A W hy (Lib.hid rfl) hr (Lib.hid hf) (by omega) (Lib.hid hk)
end Go.Proofs.YteljklkgdejhpaaGreatDoor
