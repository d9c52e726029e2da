/-
  A region that draws its order, whose operations read, or make memory and write nothing that was there: one plan serves every order (no program is named here). Conditions: the plan is one that the region's edges allow (a Bool, reckoned), each operation that reads yields one value in every later world, and an operation that makes memory comes up alone.
-/
import Derived.Test.YtankddeolpickaaQ1
import Derived.OrdersHeld
import Derived.Deep.RegionHeld3
import Derived.OwnWalk
import Derived.Deep.MidRow
import Derived.Laws.CopyOwn
import Derived.Lib.SliceRun
import Derived.Laws.ResultCell
import Derived.Test.YtankddeolpickaaRows
import Derived.WalkKit
import Derived.WalkSpells
import Derived.Lib.Hide
import Derived.LoopTactic
import Derived.LoopN
import Derived.Deep.DeepCutAuto
import Derived.RangeFuncBox
import Derived.Deep.QuietTactic
import Derived.RangeFuncNested
import Derived.RangeFuncBound
import Derived.RangeFuncCalls
import Derived.RangeFuncLeaves
import Derived.Shelf.Abstract
import Derived.Shelf.RegionOpen
import Derived.OwnWalkIn
import Derived.TacticsInMore
import Derived.LoopNIn
import Derived.LoopIn
namespace Go.Proofs.Ytankddeolpickaa
set_option maxRecDepth 100000
open Go.RowKit

section
variable {P : Program} {ops : Array Oper} {Q : Exit → Act → World → Prop}

theorem held_weaken {md : Region.Mode} {S T : World → Prop} (h : ∀ w, T w → S w) : ∀ (fuel : Nat) (listed : Array Bool) (a : Act) (w : World), wpAnyH P md ops Q T fuel listed a w → wpAnyH P md ops Q S fuel listed a w
  | 0, _, _, _, k => k
  | fuel + 1, _, _, _, k => ⟨k.1, fun i hi => wpOp_mono (fun a' w' k' => ⟨h _ k'.1, held_weaken h fuel _ a' w' k'.2⟩) (k.2 i hi)⟩

/-- A plan: the operations' numbers, and of each whether it makes memory (it must then be the only one that may come up); a fork: two that make memory may come up, each with a plan of its own behind it. -/
inductive Plan where
  | nil
  | step (i : Nat) (g : Bool) (rest : Plan)
  | fork (i : Nat) (p : Plan) (j : Nat) (q : Plan)
def Plan.size : Plan → Nat
  | .nil => 0
  | .step _ _ rest => rest.size + 1
  | .fork _ p _ _ => p.size + 1
def planOK (ops : Array Oper) : Plan → Array Bool → Bool
  | .nil, listed => (Region.ready .any ops listed).isEmpty
  | .step i g rest, listed => (if g then Region.ready .any ops listed == [i] else Region.free .any ops listed i && (Region.ready .any ops listed).contains i) && planOK ops rest (listed.setIfInBounds i true)
  | .fork i p j q, listed => Region.ready .any ops listed == [i, j] && (q.size == p.size && (planOK ops p (listed.setIfInBounds i true) && planOK ops q (listed.setIfInBounds j true)))

/-- S: what the operations that read lean on; each operation that makes memory must show it anew, and may give more of it. -/
def wpPlan (P : Program) (ops : Array Oper) (Q : Exit → Act → World → Prop) : Plan → (World → Prop) → Act → World → Prop
  | .nil, _, a, w => Q .normal a w
  | .step i g rest, S, a, w => ∃ o, ops[i]? = some o ∧
      ((Region.wanted o (yielded ops a.tmps) = false ∧ wpPlan P ops Q rest S (a.put o.dst undef) w) ∨
       (Region.wanted o (yielded ops a.tmps) = true ∧ g = false ∧ ∃ v, (∀ W, S W → (execOp a.eval o).run P W = .ok (.value v) W) ∧ wpPlan P ops Q rest S (a.put o.dst v) w) ∨
       (Region.wanted o (yielded ops a.tmps) = true ∧ g = true ∧ o.wp P a w (fun a' w' => ∃ T : World → Prop, (∀ W, T W → S W) ∧ T w' ∧ wpPlan P ops Q rest T a' w') Q))
  | .fork i p j q, S, a, w =>
      wpOp P ops Q i (fun a' w' => ∃ T : World → Prop, (∀ W, T W → S W) ∧ T w' ∧ wpPlan P ops Q p T a' w') a w ∧
      wpOp P ops Q j (fun a' w' => ∃ T : World → Prop, (∀ W, T W → S W) ∧ T w' ∧ wpPlan P ops Q q T a' w') a w

theorem wpPlan_held (hs : Region.noSelect ops = true) (hQ : ∀ c a w d v, Q (.panic c) (Act.put a d v) w → Q (.panic c) a w) :
    ∀ (plan : Plan) (S : World → Prop) (listed : Array Bool) (a : Act) (w : World), S w → planOK ops plan listed = true → wpPlan P ops Q plan S a w → wpAnyH P .any ops Q S plan.size listed a w
  | .nil, _, listed, a, w, _, hp, h => wpAnyH_done (by simpa [planOK] using hp) h _
  | .step i g rest, S, listed, a, w, hS, hp, h => by
    obtain ⟨o, ho, h⟩ := h
    simp only [planOK, Bool.and_eq_true] at hp
    obtain ⟨hp1, hp2⟩ := hp
    have take : ∀ v, g = false → YieldsIf P ops S o v a → wpPlan P ops Q rest S (a.put o.dst v) w → wpAnyH P .any ops Q S (rest.size + 1) listed a w := by
      intro v hg hy hr
      subst hg
      simp only [Bool.false_eq_true, if_false, Bool.and_eq_true] at hp1
      exact wpAnyH_take ho hs hp1.1 hp1.2 (fun c a w h => hQ c a w _ _ h) hy hS (wpPlan_held hs hQ rest S _ _ w hS hp2 hr)
    have alone : g = true → wpOp P ops Q i (fun a' w' => ∃ T : World → Prop, (∀ W, T W → S W) ∧ T w' ∧ wpPlan P ops Q rest T a' w') a w → wpAnyH P .any ops Q S (rest.size + 1) listed a w := by
      intro hg hop
      subst hg
      simp only [if_true] at hp1
      refine wpAnyH_all (rs := [i]) (eq_of_beq hp1) (by simp) (fun j hj => ?_)
      simp only [List.mem_singleton] at hj
      subst hj
      refine wpOp_mono (fun a' w' k => ?_) hop
      obtain ⟨T, hT, hTw, k⟩ := k
      exact ⟨hT _ hTw, held_weaken hT _ _ _ _ (wpPlan_held hs hQ rest T _ a' w' hTw hp2 k)⟩
    rcases h with ⟨hw, hr⟩ | ⟨hw, hg, v, hv, hr⟩ | ⟨hw, hg, hop⟩
    · cases g with
      | false => exact take undef rfl (.inr ⟨hw, rfl⟩) hr
      | true =>
        refine alone rfl ?_
        unfold wpOp
        simp only [ho, hw, Bool.false_eq_true, if_false]
        exact ⟨S, fun _ h => h, hS, hr⟩
    · exact take v hg (.inl ⟨hw, hv⟩) hr
    · refine alone hg ?_
      unfold wpOp
      simp only [ho, hw, if_true]
      exact .inl hop
  | .fork i p j q, S, listed, a, w, hS, hp, h => by
    simp only [planOK, Bool.and_eq_true] at hp
    obtain ⟨hp1, hp2, hp3, hp4⟩ := hp
    refine wpAnyH_all (rs := [i, j]) (eq_of_beq hp1) (by simp) (fun k hk => ?_)
    simp only [List.mem_cons, List.not_mem_nil, or_false] at hk
    rcases hk with rfl | rfl
    · refine wpOp_mono (fun a' w' k => ?_) h.1
      obtain ⟨T, hT, hTw, k⟩ := k
      exact ⟨hT _ hTw, held_weaken hT _ _ _ _ (wpPlan_held hs hQ p T _ a' w' hTw hp3 k)⟩
    · refine wpOp_mono (fun a' w' k => ?_) h.2
      obtain ⟨T, hT, hTw, k⟩ := k
      have := wpPlan_held hs hQ q T _ a' w' hTw hp4 k
      rw [eq_of_beq hp2] at this
      exact ⟨hT _ hTw, held_weaken hT _ _ _ _ this⟩

/-- The beginning, at a condition of one's own. -/
theorem wp_region_plan_of (S : World → Prop) (plan : Plan) {id : Nat} {a : Act} {w : World} (hS : S w.drew) (hm : P.follows .mixedOrders = true) (hs : Region.noSelect ops = true) (hlen : plan.size = ops.size) (hp : planOK ops plan (Array.replicate ops.size false) = true)
    (h : wpPlan P ops (NoPanic Q) plan S a w.drew) : (Code.region id ops true).wp P Q a w := by
  refine wp_region_noPanic (wp_region_held_drew (S := S) hm hS (fun _ => ?_))
  have := wpPlan_held hs (fun _ _ _ _ _ h => h) plan S _ a w.drew hS hp h
  rw [hlen] at this
  exact this
/-- The beginning, at all that is there. -/
theorem wp_region_plan (plan : Plan) {id : Nat} {a : Act} {w : World} (hm : P.follows .mixedOrders = true) (hs : Region.noSelect ops = true) (hlen : plan.size = ops.size) (hp : planOK ops plan (Array.replicate ops.size false) = true)
    (h : wpPlan P ops (NoPanic Q) plan (fun W => Below w.drew.heap.size w.drew W) a w.drew) : (Code.region id ops true).wp P Q a w := wp_region_plan_of _ plan (Below.refl _ _) hm hs hlen hp h
/-- The beginning, at what lies below block number B. -/
theorem wp_region_plan_at (B : Nat) (plan : Plan) {id : Nat} {a : Act} {w : World} (hm : P.follows .mixedOrders = true) (hs : Region.noSelect ops = true) (hlen : plan.size = ops.size) (hp : planOK ops plan (Array.replicate ops.size false) = true)
    (h : wpPlan P ops (NoPanic Q) plan (fun W => Below B w.drew W) a w.drew) : (Code.region id ops true).wp P Q a w := wp_region_plan_of _ plan (Below.refl _ _) hm hs hlen hp h

theorem plan_skip {i : Nat} {g : Bool} {rest : Plan} {S : World → Prop} {o : Oper} {a : Act} {w : World} (ho : ops[i]? = some o) (hw : Region.wanted o (yielded ops a.tmps) = false)
    (h : wpPlan P ops Q rest S (a.put o.dst undef) w) : wpPlan P ops Q (.step i g rest) S a w := ⟨o, ho, .inl ⟨hw, h⟩⟩
theorem plan_read {i : Nat} {rest : Plan} {S : World → Prop} {o : Oper} {a : Act} {w : World} {v : Value} (ho : ops[i]? = some o) (hw : Region.wanted o (yielded ops a.tmps) = true)
    (hv : ∀ W, S W → (execOp a.eval o).run P W = .ok (.value v) W) (h : wpPlan P ops Q rest S (a.put o.dst v) w) : wpPlan P ops Q (.step i false rest) S a w := ⟨o, ho, .inr (.inl ⟨hw, rfl, v, hv, h⟩)⟩
/-- Behind it all that is there counts. -/
theorem plan_make {i : Nat} {rest : Plan} {o : Oper} {a : Act} {w : World} (ho : ops[i]? = some o) (hw : Region.wanted o (yielded ops a.tmps) = true)
    (h : ∀ K : Act → World → Prop, Shut (∀ a' w', Below w.heap.size w w' → wpPlan P ops Q rest (fun W => Below w'.heap.size w' W) a' w' → K a' w') → o.wp P a w K Q) : wpPlan P ops Q (.step i true rest) (fun W => Below w.heap.size w W) a w :=
  ⟨o, ho, .inr (.inr ⟨hw, rfl, h _ (fun _ _ hb hr => ⟨_, fun _ hW => below_step hb hW, Below.refl _ _, hr⟩)⟩)⟩
/-- B stays. -/
theorem plan_make_at {i : Nat} {rest : Plan} {B : Nat} {o : Oper} {a : Act} {w : World} (ho : ops[i]? = some o) (hw : Region.wanted o (yielded ops a.tmps) = true)
    (h : ∀ K : Act → World → Prop, Shut (∀ a' w', Below B w w' → wpPlan P ops Q rest (fun W => Below B w' W) a' w' → K a' w') → o.wp P a w K Q) : wpPlan P ops Q (.step i true rest) (fun W => Below B w W) a w :=
  ⟨o, ho, .inr (.inr ⟨hw, rfl, h _ (fun _ _ hb hr => ⟨_, fun _ hW => hb.trans hW, Below.refl _ _, hr⟩)⟩)⟩
/-- S stays. -/
theorem plan_make_of {i : Nat} {rest : Plan} {S : World → Prop} {o : Oper} {a : Act} {w : World} (ho : ops[i]? = some o) (hw : Region.wanted o (yielded ops a.tmps) = true)
    (h : ∀ K : Act → World → Prop, Shut (∀ a' w', S w' → wpPlan P ops Q rest S a' w' → K a' w') → o.wp P a w K Q) : wpPlan P ops Q (.step i true rest) S a w :=
  ⟨o, ho, .inr (.inr ⟨hw, rfl, h _ (fun _ _ hb hr => ⟨S, fun _ hW => hW, hb, hr⟩)⟩)⟩
/-- Two that make memory may come up: each goes by itself, S stays. -/
theorem plan_fork {i j : Nat} {p q : Plan} {S : World → Prop} {o u : Oper} {a : Act} {w : World} (ho : ops[i]? = some o) (hu : ops[j]? = some u) (hw : Region.wanted o (yielded ops a.tmps) = true) (hx : Region.wanted u (yielded ops a.tmps) = true)
    (h : ∀ K : Act → World → Prop, Shut (∀ a' w', S w' → wpPlan P ops Q p S a' w' → K a' w') → o.wp P a w K Q) (k : ∀ K : Act → World → Prop, Shut (∀ a' w', S w' → wpPlan P ops Q q S a' w' → K a' w') → u.wp P a w K Q) : wpPlan P ops Q (.fork i p j q) S a w := by
  constructor
  · unfold wpOp
    simp only [ho, hw, if_true]
    exact .inl (h _ (fun _ _ hb hr => ⟨S, fun _ hW => hW, hb, hr⟩))
  · unfold wpOp
    simp only [hu, hx, if_true]
    exact .inl (k _ (fun _ _ hb hr => ⟨S, fun _ hW => hW, hb, hr⟩))
theorem plan_done {S : World → Prop} {a : Act} {w : World} (h : Q .normal a w) : wpPlan P ops (NoPanic Q) .nil S a w := h
end

/-! ### append onto a row of the call's own: what the row held is still there, where it was -/
section
variable {P : Program} (w : World)
theorem run_append_keep (base : Nat) (t ty e : TypeId) (i : TypeInfo) (z : Value) (bytes : Nat) (ht : P.underlying t = some (.slice e)) (hi : P.info? e = some i) (hz : i.zero = some z)
    (hsize : i.size = 1) (hby : i.bytes = bytes) (hzs : z.cells.size = 1) (v : Value) (n : Nat) (xs : List Value) (hown : w.ownsRow base e 1 v n xs)
    (a : Addr) (m c : Nat) (news : List Value) (hl : news.length = m * 1) (hnews : ∀ j u, news[j]? = some u → w.cell? (a.add j) = some u) (h1 : ∀ u ∈ news, u.oneCell' = true)
    (h63 : n + m ≤ maxLen) (hbytes : (n + m) * bytes ≤ 140737488355328) (hbase : base ≤ w.heap.size) :
    ∃ v' w', (Builtin.append_ #[t, t] ty #[v, .slice (some a) m c]).run P w = .ok v' w' ∧ w'.ownsRow base e 1 v' (n + m) (xs ++ news) ∧ w.grownBy w' v.ownBlock ∧
      ∀ g, v.ownBlock = some g → ∀ j u, xs[j]? = some u → w'.cell? ⟨g, j, none⟩ = some u := by
  obtain ⟨v', w', hrun, hown', hgrow, _⟩ := run_append_own (P := P) w base t ty e i z 1 bytes ht hi hz hsize hby hzs (by omega) v n xs hown a m c news hl hnews h1 h63 hbytes hbase
  refine ⟨v', w', hrun, hown', hgrow, fun g hg j u hu => ?_⟩
  have hj : j < xs.length := by
    rcases Nat.lt_or_ge j xs.length with h | h
    · exact h
    · rw [List.getElem?_eq_none h] at hu; cases hu
  have hadd : (⟨g, 0, none⟩ : Addr).add j = ⟨g, j, none⟩ := by unfold Addr.add; split <;> simp_all
  rcases hown.2 with ⟨rfl, _⟩ | ⟨g', cap, cur, rfl, hbg, hgg, hnc, hcm, hcs, htake⟩
  · simp [Value.ownBlock] at hg
  · simp [Value.ownBlock] at hg
    subst hg
    have hold := hown.cells (g := g') rfl j u hu
    rw [hadd] at hold
    have hsmall : n + m ≤ 9223372036854775807 := by simp only [maxLen] at h63; omega
    by_cases hroom : n + m ≤ cap
    · have hr := run_append_room (P := P) w t ty e i ht hi g' n cap cur hgg a m c news (by rw [hsize]; exact hl) hnews h1 hroom (by rw [hsize, hl, hcs]; omega)
      rw [hrun] at hr
      injection hr with hv _
      subst hv
      have := hown'.cells (g := g') rfl j u (by rw [List.getElem?_append_left hj]; exact hu)
      rwa [hadd] at this
    · subst hby
      have holds : ∀ j u, xs[j]? = some u → w.cell? ((⟨g', 0, none⟩ : Addr).add j) = some u := hown.cells (g := g') rfl
      have hr := run_append_grow (P := P) w t ty e i z ht hi hz ⟨g', 0, none⟩ n cap xs (by rw [hsize]; exact hown.1) holds a m c news (by rw [hsize]; exact hl) hnews (by omega) (by omega) (growslice_fits (by omega) hbytes)
      rw [hrun] at hr
      injection hr with _ hw
      subst hw
      rw [World.cell?_alloc_lt w.drew _ ⟨g', j, none⟩ (World.block_lt_of_cell? w _ hold)]
      exact hold

theorem wp_append_keep {o : Oper} {a : Act} {K : Act → World → Prop} {Q : Exit → Act → World → Prop} (s x : Operand) (t : TypeId)
    (ho : o.op = .call { callee := .builtin .append, args := #[s, x], argTypes := #[t, t] })
    (base : Nat) (e : TypeId) (i : TypeInfo) (z : Value) (bytes : Nat) (ht : P.underlying t = some (.slice e)) (hi : P.info? e = some i) (hz : i.zero = some z)
    (hsize : i.size = 1) (hby : i.bytes = bytes) (hzs : z.cells.size = 1) (v : Value) (n : Nat) (xs : List Value) (hs : a.eval s = v) (hown : w.ownsRow base e 1 v n xs)
    (ad : Addr) (m c : Nat) (news : List Value) (hx : a.eval x = .slice (some ad) m c) (hl : news.length = m * 1) (hnews : ∀ j u, news[j]? = some u → w.cell? (ad.add j) = some u) (h1 : ∀ u ∈ news, u.oneCell' = true)
    (h63 : n + m ≤ maxLen) (hbytes : (n + m) * bytes ≤ 140737488355328) (hbase : base ≤ w.heap.size)
    (h : ∀ v' w', w'.ownsRow base e 1 v' (n + m) (xs ++ news) → w.grownBy w' v.ownBlock → (∀ g, v.ownBlock = some g → ∀ j u, xs[j]? = some u → w'.cell? ⟨g, j, none⟩ = some u) → K (a.put o.dst v') w') : o.wp P a w K Q := by
  obtain ⟨v', w', hr, h2, h3, h4⟩ := run_append_keep (P := P) w base t o.type e i z bytes ht hi hz hsize hby hzs v n xs hown ad m c news hl hnews h1 h63 hbytes hbase
  unfold Oper.wp execOp
  simp only [ho, resolve, invoke, builtin, Sem.run_bind, Sem.run_pure, Result.andThen_ok, List.map_toArray, List.map_cons, List.map_nil, hs, hx, hr]
  exact h v' w' h2 h3 h4
end

end Go.Proofs.Ytankddeolpickaa
/-
  A block of memory known whole: its cells read, one of them set, all of them set, a slice copied into it; a world given a name (no program is named here). No conditions but those typed.
-/
namespace Go.Proofs.Ytankddeolpickaa
set_option maxRecDepth 100000
open Go.RowKit

/-- A name for a world, and what is known of it. -/
theorem at_world {Q : World → Prop} {v : World} (F : World → Prop) (hF : F v) (h : ∀ W, F W → Q W) : Q v := h v hF

/-- Block g holds just these cells. -/
def Row (w : World) (g : Nat) (t : TypeId) (l : List Value) : Prop := w.heap[g]? = some (.cells l.toArray t (0, 0))

section
variable {w w' : World} {g : Nat} {t : TypeId} {l : List Value}
theorem Row.lt (h : Row w g t l) : g < w.heap.size := (Array.getElem?_eq_some_iff.1 h).1
theorem Row.cell? (h : Row w g t l) (i : Nat) : w.cell? ⟨g, i, none⟩ = l[i]? := by
  rw [cell_of_row w g i _ t (0, 0) h]
  simp
theorem Row.cell (h : Row w g t l) {i : Nat} {v : Value} (hi : l[i]? = some v) : w.cell? ⟨g, i, none⟩ = some v := (h.cell? i).trans hi
theorem Row.keep {B : Nat} (h : Row w g t l) (hb : Below B w w') (hg : g < B) : Row w' g t l := (hb.block g hg).trans h
theorem Row.later (h : Row w g t l) (hb : Below w.heap.size w w') : Row w' g t l := h.keep hb h.lt
theorem Row.drew (h : Row w g t l) : Row w.drew g t l := h
theorem Row.drewN (h : Row w g t l) (n : Nat) : Row (w.drewN n) g t l := h
theorem Row.alloc (h : Row w g t l) (o : Obj) : Row (w.alloc o) g t l := (Below.heap_alloc w o g h.lt).trans h
theorem Row.new (w : World) (t : TypeId) (l : List Value) (cs : Array Value) (h : cs = l.toArray) : Row (w.alloc (.cells cs t)) w.heap.size t l := by subst h; exact heap_alloc_new w _
theorem Row.new_at (w : World) (g : Nat) (hg : g = w.heap.size) (t : TypeId) (l : List Value) (cs : Array Value) (h : cs = l.toArray) : Row (w.alloc (.cells cs t)) g t l := by subst hg; exact Row.new w t l cs h
theorem Row.range (h : Row w g t l) : w.rangeAt g 0 l := fun j v hv => by rw [Nat.zero_add]; exact h.cell hv
theorem Row.frozen (h : Row w g t l) (i : Nat) : w.frozen? ⟨g, i, none⟩ = false := by
  have h' : w.heap[g]? = some (.cells l.toArray t (0, 0)) := h
  simp [World.frozen?, h']
theorem Row.setRow (h : Row w g t l) (m : List Value) : Row (w.setRow g m.toArray) g t m := setRow_heap w g _ _ t _ h
theorem Row.setRow_at (h : Row w g t l) (m : List Value) (cs : Array Value) (e : cs = m.toArray) : Row (w.setRow g cs) g t m := by subst e; exact h.setRow m
theorem Row.setRow_other (h : Row w g t l) {k : Nat} (hk : g ≠ k) (cs : Array Value) : Row (w.setRow k cs) g t l := (Go.setRow_other w k g cs hk).trans h
theorem Row.setCell (h : Row w g t l) (i : Nat) (v : Value) : Row (w.setCell ⟨g, i, none⟩ v) g t (l.set i v) := by
  have h' : w.heap[g]? = some (.cells l.toArray t (0, 0)) := h
  have hlt : g < w.heap.size := h.lt
  have hv : w.heap[g] = .cells l.toArray t (0, 0) := (Array.getElem?_eq_some_iff.1 h').2
  unfold Row World.setCell
  rw [Array.getElem?_eq_getElem (by simpa using hlt), Array.getElem_modify]
  simp [hv]
theorem Row.setCell_other (h : Row w g t l) {p : Addr} (hk : g ≠ p.block) (v : Value) : Row (w.setCell p v) g t l := (Below.heap_setCell w p v g hk).trans h
theorem Row.rd {α : Type} {f : α → Value} {L : List α} (h : Row w g t (L.map f)) : Rd f w (some ⟨g, 0, none⟩) L := fun _ => ⟨g, 0, rfl, fun i hi => by rw [Nat.zero_add]; exact h.cell (by simp [hi])⟩
theorem Row.rd_at {α : Type} {f : α → Value} {M : List Value} {L : List α} {o : Nat} (h : Row w g t M) (hl : (M.drop o).take L.length = L.map f) : Rd f w (some ⟨g, o, none⟩) L := fun _ => ⟨g, o, rfl, fun i hi => h.cell (by
  have := congrArg (·[i]?) hl
  simpa [List.getElem?_take, List.getElem?_drop, hi] using this)⟩

variable {P : Program}
/-- The whole, read. -/
theorem Row.load (h : Row w g t l) (ty : TypeId) (d : TypeDesc) (hu : P.underlying ty = some d) (hd : d.isRow = true) (hi : (P.info? ty).map (·.size) = some l.length) :
    (Instr.loadAt ty (.pointer (some ⟨g, 0, none⟩))).run P w = .ok (.agg l.toArray) w := run_loadAt_mid w g 0 ty l d h.range hu hd hi
theorem Row.loadVar (h : Row w g t l) (ty : TypeId) (d : TypeDesc) (hu : P.underlying ty = some d) (hd : d.isRow = true) (hi : (P.info? ty).map (·.size) = some l.length) :
    (Go.loadVar ty ⟨g, 0, none⟩).run P w = .ok (.agg l.toArray) w := run_loadVar_mid w g 0 ty l d h.range hu hd hi
/-- A part, read. -/
theorem Row.loadMid (h : Row w g t l) (ty : TypeId) (o : Nat) (m : List Value) (hm : (l.drop o).take m.length = m) (d : TypeDesc) (hu : P.underlying ty = some d) (hd : d.isRow = true) (hi : (P.info? ty).map (·.size) = some m.length) :
    (Instr.loadAt ty (.pointer (some ⟨g, o, none⟩))).run P w = .ok (.agg m.toArray) w := run_loadAt_mid w g o ty m d (fun j v hv => by
      have hj : j < m.length := (List.getElem?_eq_some_iff.1 hv).1
      have := congrArg (·[j]?) hm
      simp only [List.getElem?_take, List.getElem?_drop, hj, if_true] at this
      exact h.cell (this.trans hv)) hu hd hi
/-- The whole, set. -/
theorem Row.store (h : Row w g t l) (ty : TypeId) (m : List Value) (hi : (P.info? ty).map (·.size) = some m.length) (hl : l.length = m.length) (h1 : ∀ v ∈ m, v.oneCell' = true) :
    (Instr.storeAt ty (.pointer (some ⟨g, 0, none⟩)) (.agg m.toArray)).run P w = .ok () (w.setRow g m.toArray) := by
  simp only [Instr.storeAt, Instr.sureAddr, Sem.run_bind, Sem.run_pure, Result.andThen_ok]
  exact run_storeVar_row w g t ty l.toArray m.toArray h (by simpa using hi) (by simpa using hl) (all_oneCell_toArray h1)
end

section
variable {P : Program} {op : Oper} {a : Act} {w : World} {K : Act → World → Prop} {Q : Exit → Act → World → Prop} {ops : Array Oper} {rest : List Oper} {g : Nat} {t : TypeId} {l : List Value}
theorem Row.wp_store (ty : TypeId) (x y : Operand) (ho : op.op = .store ty x y) (hx : a.eval x = .pointer (some ⟨g, 0, none⟩)) (m : List Value) (hy : a.eval y = .agg m.toArray) (h : Row w g t l)
    (hi : (P.info? ty).map (·.size) = some m.length) (hl : l.length = m.length) (h1 : ∀ v ∈ m, v.oneCell' = true) (k : K (a.put op.dst undef) (w.setRow g m.toArray)) : op.wp P a w K Q := by
  unfold Oper.wp execOp
  have := h.store (P := P) ty m hi hl h1
  simp only [Instr.storeAt, Instr.sureAddr, Sem.run_bind, Sem.run_pure, Result.andThen_ok] at this
  simp only [ho, hx, hy, Instr.storeAt, Instr.sureAddr, Sem.run_bind, Sem.run_pure, Result.andThen_ok, this]
  exact k
theorem wpList_store_row (hgd : op.guard = none) (ty : TypeId) (x y : Operand) (ho : op.op = .store ty x y) (g : Nat) (hx : a.eval x = .pointer (some ⟨g, 0, none⟩)) (m : List Value) (hy : a.eval y = .agg m.toArray) (t : TypeId) (l : List Value) (h : Row w g t l)
    (hi : (P.info? ty).map (·.size) = some m.length) (hl : l.length = m.length) (h1 : ∀ v ∈ m, v.oneCell' = true) (k : wpList P ops Q rest (a.put op.dst undef) (w.setRow g m.toArray)) : wpList P ops Q (op :: rest) a w :=
  wpList_plain hgd fun _ hK => h.wp_store ty x y ho hx m hy hi hl h1 (hK _ _ k)
/-- A part of a block known whole, read. -/
theorem wpList_load_part (hgd : op.guard = none) (ty : TypeId) (x : Operand) (ho : op.op = .load ty x) (g o : Nat) (hx : a.eval x = .pointer (some ⟨g, o, none⟩)) (t : TypeId) (l : List Value) (h : Row w g t l) (m : List Value) (hm : (l.drop o).take m.length = m)
    (d : TypeDesc) (hu : P.underlying ty = some d) (hd : d.isRow = true) (hi : (P.info? ty).map (·.size) = some m.length) (k : wpList P ops Q rest (a.put op.dst (.agg m.toArray)) w) : wpList P ops Q (op :: rest) a w :=
  wpList_load_mid hgd ty x ho g o hx m d (fun j v hv => by
      have hj : j < m.length := (List.getElem?_eq_some_iff.1 hv).1
      have := congrArg (·[j]?) hm
      simp only [List.getElem?_take, List.getElem?_drop, hj, if_true] at this
      exact h.cell (this.trans hv)) hu hd hi k
end

theorem Row.setCells {g : Nat} {t : TypeId} : ∀ (m : List Value) (o : Nat) {w : World} {l : List Value}, Row w g t l → o + m.length ≤ l.length → Row (w.setCells g o m) g t (l.take o ++ m ++ l.drop (o + m.length))
  | [], o, w, l, h, _ => by simpa [World.setCells] using h
  | v :: m, o, w, l, h, hl => by
    simp only [List.length_cons] at hl
    have k := Row.setCells m (o + 1) (h.setCell o v) (by simp; omega)
    have e : (l.set o v).take (o + 1) ++ m ++ (l.set o v).drop (o + 1 + m.length) = l.take o ++ v :: m ++ l.drop (o + (v :: m).length) := by
      have ho : o < l.length := by omega
      rw [List.drop_set_of_lt (by omega), List.take_succ_eq_append_getElem (by simpa using ho), List.getElem_set_self, List.take_set_of_le (Nat.le_refl _)]
      simp [Nat.add_assoc, Nat.add_comm 1]
    rw [← e]
    exact k
theorem Row.setCells_other {g b : Nat} {t : TypeId} (hk : g ≠ b) : ∀ (m : List Value) (o : Nat) {w : World} {l : List Value}, Row w g t l → Row (w.setCells b o m) g t l
  | [], _, _, _, h => h
  | v :: m, o, _, _, h => Row.setCells_other hk m (o + 1) (h.setCell_other (p := ⟨b, o, none⟩) hk v)
theorem below_setCells {B b : Nat} (hb : B ≤ b) : ∀ (m : List Value) (o : Nat) {a w : World}, Below B a w → Below B a (w.setCells b o m)
  | [], _, _, _, h => h
  | v :: m, o, _, _, h => below_setCells hb m (o + 1) (h.setCell (p := ⟨b, o, none⟩) hb v)

/-- Two results, the first of them a whole block. -/
theorem results_row_tmp {P : Program} {fn : Func} {p u : Tmp} {ty : TypeId} (h : fn.results = #[.cell p ty, .tmp u]) (tmps : Array Value) (w : World) (g : Nat) (t : TypeId) (l : List Value) (d : TypeDesc) (hp : tmps.getD p undef = .pointer (some ⟨g, 0, none⟩)) (hg : Row w g t l)
    (hu : P.underlying ty = some d) (hd : d.isRow = true) (hi : (P.info? ty).map (·.size) = some l.length) : (results fn tmps).run P w = .ok (.tuple #[.agg l.toArray, tmps.getD u undef]) w := by
  rw [results_cell_tmp h, hp]
  simp only [asAddr, Sem.run_pure, Result.andThen_ok, hg.loadVar (P := P) ty d hu hd hi]

theorem Rd.setRow {α : Type} {f : α → Value} {w : World} {A : Option Addr} {L : List α} (h : Rd f w A L) {g : Nat} (cs : Array Value) (hg : ∀ a, A = some a → a.block ≠ g) : Rd f (w.setRow g cs) A L := fun hn => by
  obtain ⟨b, o, rfl, hc⟩ := h hn
  exact ⟨b, o, rfl, fun i hi => (cell_setRow_other w g cs ⟨b, o + i, none⟩ (hg ⟨b, o, none⟩ rfl)).trans (hc i hi)⟩
theorem map_one {α : Type} {f : α → Value} (hf : ∀ x, (f x).oneCell' = true) (L : List α) : ∀ v ∈ L.map f, v.oneCell' = true := fun v hv => by
  obtain ⟨x, _, rfl⟩ := List.mem_map.1 hv
  exact hf x

/-- 'copy(d, s)': the slice d lies in a block known whole, and has room for all of s. -/
theorem wp_copy_row {P : Program} {α : Type} {f : α → Value} {o : Oper} {a : Act} {w : World} {K : Act → World → Prop} {Q : Exit → Act → World → Prop} (d s : Operand) (dT sT : TypeId)
    (ho : o.op = .call { callee := .builtin .copy, args := #[d, s], argTypes := #[dT, sT] }) (elem : TypeId) (hu : P.underlying dT = some (.slice elem)) (hsz : (P.info? elem).map (·.size) = some 1)
    (g off dLen dCap : Nat) (A : Option Addr) (L : List α) (sCap : Nat) (hd : a.eval d = .slice (some ⟨g, off, none⟩) dLen dCap) (hs : a.eval s = .slice A L.length sCap)
    (cur : List Value) (t : TypeId) (hg : Row w g t cur) (hr : Rd f w A L) (hf : ∀ x, (f x).oneCell' = true) (hle : L.length ≤ dLen) (hfit : off + L.length ≤ cur.length)
    (h : K (a.put o.dst (.int .i64 (L.length : Int))) (w.setRow g (cur.take off ++ L.map f ++ cur.drop (off + L.length)).toArray)) : o.wp P a w K Q := by
  by_cases hn : L = []
  · subst hn
    have hrun := run_copy_none (P := P) w dT sT o.type elem (some ⟨g, off, none⟩) A dLen dCap 0 sCap hu hsz (by simp)
    unfold Oper.wp
    simp only [execOp, ho, resolve, invoke, builtin, hd, hs, Sem.run_bind, Sem.run_pure, Result.andThen_ok, List.map_toArray, List.map_cons, List.map_nil, List.length_nil, hrun]
    have e : w.setRow g (cur.take off ++ ([] : List α).map f ++ cur.drop (off + ([] : List α).length)).toArray = w := by
      simp only [List.map_nil, List.append_nil, List.length_nil, Nat.add_zero, List.take_append_drop]
      exact setRow_self w g _ t _ hg
    rw [e] at h
    exact h
  · obtain ⟨b, oo, rfl, hc⟩ := hr hn
    have hrun := run_copy_row (P := P) w dT sT o.type elem g off dLen dCap ⟨b, oo, none⟩ L.length sCap cur.toArray t (L.map f) hu hsz hg (by rw [List.length_map]; exact (Nat.min_eq_left hle).symm) (fun j v hv => by
      have hj : j < L.length := by simpa using (List.getElem?_eq_some_iff.1 hv).1
      have e1 : (⟨b, oo, none⟩ : Addr).add j = ⟨b, oo + j, none⟩ := by unfold Addr.add; split <;> simp_all
      rw [e1, hc j hj, ← hv]
      simp [hj]) (by simpa using hfit) (map_one hf L)
    unfold Oper.wp
    simp only [execOp, ho, resolve, invoke, builtin, hd, hs, Sem.run_bind, Sem.run_pure, Result.andThen_ok, List.map_toArray, List.map_cons, List.map_nil, hrun]
    have e2 : ((cur.toArray.toList.take off ++ L.map f ++ cur.toArray.toList.drop (off + (L.map f).length)).toArray) = (cur.take off ++ L.map f ++ cur.drop (off + L.length)).toArray := by simp
    have e3 : goInt ((L.map f).length : Nat) = .int .i64 (L.length : Int) := by simp [goInt]
    rw [e2, e3]
    exact h
theorem wpList_copy_row {P : Program} {α : Type} {f : α → Value} {ops : Array Oper} {rest : List Oper} {o : Oper} {a : Act} {w : World} {Q : Exit → Act → World → Prop} (hgd : o.guard = none) (d s : Operand) (dT sT : TypeId)
    (ho : o.op = .call { callee := .builtin .copy, args := #[d, s], argTypes := #[dT, sT] }) (elem : TypeId) (hu : P.underlying dT = some (.slice elem)) (hsz : (P.info? elem).map (·.size) = some 1)
    (g off dLen dCap : Nat) (A : Option Addr) (L : List α) (sCap : Nat) (hd : a.eval d = .slice (some ⟨g, off, none⟩) dLen dCap) (hs : a.eval s = .slice A L.length sCap)
    (cur : List Value) (t : TypeId) (hg : Row w g t cur) (hr : Rd f w A L) (hf : ∀ x, (f x).oneCell' = true) (hle : L.length ≤ dLen) (hfit : off + L.length ≤ cur.length)
    (h : wpList P ops Q rest (a.put o.dst (.int .i64 (L.length : Int))) (w.setRow g (cur.take off ++ L.map f ++ cur.drop (off + L.length)).toArray)) : wpList P ops Q (o :: rest) a w :=
  wpList_plain hgd fun _ hK => wp_copy_row d s dT sT ho elem hu hsz g off dLen dCap A L sCap hd hs cur t hg hr hf hle hfit (hK _ _ h)

end Go.Proofs.Ytankddeolpickaa
/-
  Rows of the call's own: their form, what is left of them behind other steps, two that stay apart, one known whole; one step more for plans (no program is named here). No conditions but those typed.
-/
namespace Go.Proofs.Ytankddeolpickaa
set_option maxRecDepth 100000
open Go.RowKit
set_option linter.unusedSimpArgs false
set_option linter.unusedVariables false

theorem ownsRow_same {w w' : World} {base : Nat} {e : TypeId} {v : Value} {n : Nat} {xs : List Value} (h : w.ownsRow base e 1 v n xs) (hh : ∀ b, base ≤ b → b < w.heap.size → w'.heap[b]? = w.heap[b]?) : w'.ownsRow base e 1 v n xs := by
  refine ⟨h.1, ?_⟩
  rcases h.2 with h0 | ⟨g, cap, cur, hv, hg, hc, r⟩
  · exact .inl h0
  · exact .inr ⟨g, cap, cur, hv, hg, (hh g hg (Array.getElem?_eq_some_iff.1 hc).1).trans hc, r⟩
theorem ownsRow_later {w w' : World} {base : Nat} {e : TypeId} {v : Value} {n : Nat} {xs : List Value} (h : w.ownsRow base e 1 v n xs) (hb : Below w.heap.size w w') : w'.ownsRow base e 1 v n xs := ownsRow_same h (fun b _ hb' => hb.block b hb')
theorem Rd.grown {α : Type} {f : α → Value} {w w' : World} {row : Option Nat} {A : Option Addr} {L : List α} (h : Rd f w A L) (hg : w.grownBy w' row) (hA : ∀ a, A = some a → row ≠ some a.block) : Rd f w' A L := fun hn => by
  obtain ⟨b, o, rfl, hc⟩ := h hn
  refine ⟨b, o, rfl, fun i hi => ?_⟩
  obtain ⟨_, _, _, _, h5⟩ := hg
  have hk := hc i hi
  have hlt : b < w.heap.size := World.block_lt_of_cell? w _ hk
  exact (World.cell?_of_block (w := w) (a := ⟨b, o + i, none⟩) (h5 b hlt (fun e => hA ⟨b, o, none⟩ rfl e.symm))).trans hk
theorem own_slice {α : Type} {f : α → Value} {w : World} {base : Nat} {e : TypeId} {v : Value} {l : List α} (h : w.ownsRow base e 1 v l.length (l.map f)) : ∃ A cap, v = .slice A l.length cap ∧ l.length ≤ cap ∧ Rd f w A l := by
  rcases h.2 with ⟨rfl, h0⟩ | ⟨g, cap, cur, rfl, _, _, hc, _⟩
  · have hl : l = [] := List.eq_nil_of_length_eq_zero h0
    subst hl
    exact ⟨none, 0, rfl, Nat.le_refl _, Rd.nil⟩
  · exact ⟨_, cap, rfl, hc, Rd.own h⟩

theorem Row.range_part {w : World} {g : Nat} {t : TypeId} {l : List Value} (h : Row w g t l) (o : Nat) (m : List Value) (hm : (l.drop o).take m.length = m) : w.rangeAt g o m := fun j v hv => by
  have hj : j < m.length := (List.getElem?_eq_some_iff.1 hv).1
  have := congrArg (·[j]?) hm
  simp only [List.getElem?_take, List.getElem?_drop, hj, if_true] at this
  exact h.cell (this.trans hv)

theorem own_form {w : World} {base : Nat} {e : TypeId} {v : Value} {n : Nat} {xs : List Value} (h : w.ownsRow base e 1 v n xs) : ∃ A cap, v = .slice A n cap ∧ n ≤ cap := by
  rcases h.2 with ⟨rfl, rfl⟩ | ⟨g, cap, cur, rfl, _, _, hc, _⟩
  · exact ⟨none, 0, rfl, Nat.le_refl _⟩
  · exact ⟨_, cap, rfl, hc⟩

theorem apart_symm {u v : Value} (h : u.ownBlock = none ∨ u.ownBlock ≠ v.ownBlock) : v.ownBlock = none ∨ v.ownBlock ≠ u.ownBlock := by
  rcases h with h | h
  · by_cases hv : v.ownBlock = none
    · exact .inl hv
    · exact .inr (by rw [h]; exact hv)
  · exact .inr (Ne.symm h)
/-- Apart, behind the growth of the second one. -/
theorem apart_grown {w : World} {base : Nat} {e : TypeId} {u v v' : Value} {n : Nat} {xs : List Value} (h : u.ownBlock = none ∨ u.ownBlock ≠ v.ownBlock) (ho : w.ownsRow base e 1 u n xs) (hat : v'.ownBlock = v.ownBlock ∨ v'.ownBlock = some w.heap.size) : u.ownBlock = none ∨ u.ownBlock ≠ v'.ownBlock := by
  rcases hat with hat | hat
  · rw [hat]; exact h
  · right
    rw [hat]
    intro hu
    have := (ho.lt _ hu).2
    omega
section
variable {P : Program} {ops : Array Oper} {Q : Exit → Act → World → Prop}
/-- One that makes memory; behind it a condition of one's own, which may speak of the new world. -/
theorem plan_make_to {i : Nat} {rest : Plan} {S : World → Prop} {o : Oper} {a : Act} {w : World} (ho : ops[i]? = some o) (hw : Region.wanted o (yielded ops a.tmps) = true)
    (h : ∀ K : Act → World → Prop, Shut (∀ (T : World → Prop) a' w', (∀ W, T W → S W) → T w' → wpPlan P ops Q rest T a' w' → K a' w') → o.wp P a w K Q) : wpPlan P ops Q (.step i true rest) S a w :=
  ⟨o, ho, .inr (.inr ⟨hw, rfl, h _ (fun T _ _ hT hb hr => ⟨T, hT, hb, hr⟩)⟩)⟩
end

/-- A row of the call's own, one place of it set. -/
theorem own_set {α : Type} {f : α → Value} {w : World} {base : Nat} {e : TypeId} {v : Value} {l : List α} {q : Nat} (h : w.ownsRow base e 1 v l.length (l.map f)) (hq : q < l.length) :
    ∃ g cap, v = .slice (some ⟨g, 0, none⟩) l.length cap ∧ base ≤ g ∧ g < w.heap.size ∧ l.length ≤ cap ∧ w.cell? ⟨g, q, none⟩ = some (f l[q]) ∧ w.frozen? ⟨g, q, none⟩ = false ∧ ∀ z : α, Rd f (w.setCell ⟨g, q, none⟩ (f z)) (some ⟨g, 0, none⟩) (l.set q z) := by
  rcases h.2 with ⟨rfl, h0⟩ | ⟨g, cap, cur, rfl, hg, hgg, hc, hm, hs, ht⟩
  · omega
  · have hR : Row w g e cur.toList := hgg
    rw [Nat.mul_one] at ht
    have hcell : w.cell? ⟨g, q, none⟩ = some (f l[q]) := by
      rw [hR.cell? q]
      have := congrArg (·[q]?) ht
      simpa [List.getElem?_take, hq] using this
    refine ⟨g, cap, rfl, hg, hR.lt, hc, hcell, hR.frozen _, fun z => ?_⟩
    refine Row.rd_at (hR.setCell q (f z)) ?_
    rw [List.drop_zero, List.length_set, List.take_set, ht, List.map_set]
end Go.Proofs.Ytankddeolpickaa
/-
  What the calls word.Rot and math/bits.RotateLeft32 answer: the word turned (every word, every count that an int may be).
-/
namespace Go.Proofs.Ytankddeolpickaa
set_option maxRecDepth 100000
open Go.RowKit


end Go.Proofs.Ytankddeolpickaa
/-
  What the call word.join answers: the number of the bytes, modulo 2^64.
-/
namespace Go.Proofs.Ytankddeolpickaa
set_option maxRecDepth 100000
open Go.RowKit


end Go.Proofs.Ytankddeolpickaa
/-
  What the calls word.Get and word.FromLeast answer, for any bytes.
-/
namespace Go.Proofs.Ytankddeolpickaa
set_option maxRecDepth 100000
open Go.RowKit



end Go.Proofs.Ytankddeolpickaa
/-
  What the calls word.Put and word.Least answer, for any number.
-/
namespace Go.Proofs.Ytankddeolpickaa
set_option maxRecDepth 100000
open Go.RowKit

theorem vB_ofNat (n : Nat) : vB (UInt8.ofNat n) = .int .u8 ((n % 256 : Nat) : Int) := by
  unfold vB
  rw [UInt8.toNat_ofNat']
theorem put_cells (v : Nat) (hv : v < 18446744073709551616) :
    #[Value.int IntKind.u8 ((v : Int) / 72057594037927936), Value.int IntKind.u8 ((v : Int) / 281474976710656 % 256), Value.int IntKind.u8 ((v : Int) / 1099511627776 % 256), Value.int IntKind.u8 ((v : Int) / 4294967296 % 256),
      Value.int IntKind.u8 ((v : Int) / 16777216 % 256), Value.int IntKind.u8 ((v : Int) / 65536 % 256), Value.int IntKind.u8 ((v : Int) / 256 % 256), Value.int IntKind.u8 ((v : Int) % 256)] = ((putL v).map vB).toArray := by
  have e : (putL v).map vB = [vB (UInt8.ofNat (v / 72057594037927936)), vB (UInt8.ofNat (v / 281474976710656)), vB (UInt8.ofNat (v / 1099511627776)), vB (UInt8.ofNat (v / 4294967296)),
      vB (UInt8.ofNat (v / 16777216)), vB (UInt8.ofNat (v / 65536)), vB (UInt8.ofNat (v / 256)), vB (UInt8.ofNat (v / 1))] := rfl
  rw [e]
  simp only [vB_ofNat]
  have e0 : ((v : Int) / 72057594037927936) = ((v / 72057594037927936 % 256 : Nat) : Int) := by omega
  rw [e0]
  simp
theorem putL_length (v : Nat) : (putL v).length = 8 := rfl


def LeastRel (L : List UInt8) (w : World) (s : Value) : Prop := ∃ (M : List UInt8) (A : Option Addr) (cap : Nat), s = .slice A M.length cap ∧ M.length ≤ cap ∧ M.length ≤ 8 ∧ Rd vB w A M ∧ L.dropWhile (· == 0) = M.dropWhile (· == 0)
def sliceLen : Value → Nat | .slice _ n _ => n | _ => 0

theorem size_uint8 (w : World) : (sizeOf 5).run Try.prog w = .ok 1 w := by kernel_rfl


end Go.Proofs.Ytankddeolpickaa
/-
  What the calls word.Words and word.Bytes answer, for any bytes and words of up to 2^45 each.
-/
namespace Go.Proofs.Ytankddeolpickaa
set_option maxRecDepth 100000
open Go.RowKit

theorem info_u32 : (Try.prog.info? 77).map (fun i => (i.zero, i.size, i.bytes)) = some (some (.int .u32 0), 1, 4) := by kernel_rfl
theorem info_u8 : (Try.prog.info? 5).map (fun i => (i.zero, i.size, i.bytes)) = some (some (.int .u8 0), 1, 1) := by kernel_rfl

def WordsRel (L : List UInt8) (w : World) (s v : Value) (wr : World) : Prop :=
  ∃ (M : List UInt8) (D : List UInt32) (A : Option Addr) (cap : Nat), s = .slice A M.length cap ∧ M.length ≤ cap ∧ Rd vB w A M ∧
    wr.ownsRow w.heap.size 77 1 v D.length (D.map vW) ∧ Below w.heap.size w wr ∧ wordsL L = D ++ wordsL M ∧ 4 * D.length + M.length ≤ L.length

theorem words_round {L M : List UInt8} {D : List UInt32} {w wr w1 : World} {A : Option Addr} {cap V : Nat} {u v : Value} {o : Obj} (hM : M.length + 4 ≤ cap) (hL : 4 * D.length + M.length + 4 ≤ L.length) (hr : Rd vB w A M)
    (ho : wr.ownsRow w.heap.size 77 1 u D.length (D.map vW)) (hb : Below w.heap.size w wr) (HV : Hid (Value.int .u32 (V : Int) = vW (UInt32.ofNat V))) (HW : Hid (wordsL L = (D ++ [UInt32.ofNat V]) ++ wordsL M))
    (ho' : w1.ownsRow w.heap.size 77 1 v (D.length + 1) (D.map vW ++ [.int .u32 (V : Int)])) (hg : (wr.alloc o).grownBy w1 u.ownBlock) : WordsRel L w (.slice A M.length (cap - 4)) v w1 :=
  ⟨M, D ++ [UInt32.ofNat V], A, cap - 4, rfl, by omega, hr, by rw [HV.out] at ho'; simpa using ho',
    (hb.alloc hb.size o).grown hg (by have := hb.size; simp; omega) (fun k hk => (ho.lt k hk).1), HW.out, by simp; omega⟩


def BytesRel (L : List UInt32) (w : World) (v i : Value) (wr : World) : Prop :=
  ∃ k : Nat, k ≤ L.length ∧ i = .int .i64 k ∧ wr.ownsRow w.heap.size 5 1 v (bytesL (L.take k)).length ((bytesL (L.take k)).map vB) ∧ Below w.heap.size w wr

theorem bytesL_length (l : List UInt32) : (bytesL l).length = 4 * l.length := by
  unfold bytesL
  induction l with
  | nil => rfl
  | cons a l ih => rw [List.flatMap_cons, List.length_append, ih, List.length_cons]; show 4 + _ = _; omega
theorem bytesL_take (l : List UInt32) (k : Nat) (h : k < l.length) : bytesL (l.take (k + 1)) = bytesL (l.take k) ++ bytesW l[k] := by
  unfold bytesL
  rw [List.take_succ_eq_append_getElem h, List.flatMap_append]
  simp

theorem bytesW_cells (x : UInt32) : [Value.int .u8 ((x.toNat : Int) / 16777216), Value.int .u8 ((x.toNat : Int) / 65536 % 256), Value.int .u8 ((x.toNat : Int) / 256 % 256), Value.int .u8 ((x.toNat : Int) % 256)] = (bytesW x).map vB := by
  have hx := u32_lt x
  unfold bytesW
  simp only [List.map_cons, List.map_nil, vB_ofNat]
  have e0 : ((x.toNat : Int) / 16777216) = ((x.toNat / 16777216 % 256 : Nat) : Int) := by omega
  rw [e0]
  simp
theorem bytes_round {L : List UInt32} {w wr w1 : World} {k : Nat} {x : UInt32} {u v : Value} {o : Obj} (hk : k < L.length) (ho : wr.ownsRow w.heap.size 5 1 u (bytesL (L.take k)).length ((bytesL (L.take k)).map vB))
    (hb : Below w.heap.size w wr) (HT : Hid (bytesL (L.take (k + 1)) = bytesL (L.take k) ++ bytesW x)) (hg : (wr.alloc o).grownBy w1 u.ownBlock)
    (ho' : w1.ownsRow w.heap.size 5 1 v ((bytesL (L.take k)).length + 4) ((bytesL (L.take k)).map vB ++ [Value.int .u8 ((x.toNat : Int) / 16777216), Value.int .u8 ((x.toNat : Int) / 65536 % 256), Value.int .u8 ((x.toNat : Int) / 256 % 256), Value.int .u8 ((x.toNat : Int) % 256)])) :
    BytesRel L w v (.int .i64 ((k : Int) + 1)) w1 :=
  ⟨k + 1, by omega, by go_num, by rw [HT.out]; rw [bytesW_cells, ← List.map_append] at ho'; simpa [bytesW] using ho',
    (hb.alloc hb.size o).grown hg (by have := hb.size; simp; omega) (fun k hk => (ho.lt k hk).1)⟩


end Go.Proofs.Ytankddeolpickaa
/-
  What the reference's calls of layer 8 answer: At, Plain, Add, Eval, shift, Times. No conditions but those typed.
-/
namespace Go.Proofs.Ytankddeolpickaa
set_option maxRecDepth 100000
open Go.RowKit
set_option linter.unusedSimpArgs false
set_option linter.unusedVariables false

/-- A call that hands back a list of bytes. -/
def RetQ (w : World) (l : List UInt8) (e : Ending) (w' : World) : Prop := ∃ A n c, e = .returned (.slice A n c) ∧ Hid (l.length = n) ∧ n ≤ c ∧ Rd vB w' A l ∧ Below w.heap.size w w'
theorem RetQ.own {w w' : World} {l : List UInt8} {base : Nat} {e : TypeId} {v : Value} {n : Nat} (hn : l.length = n) (h : w'.ownsRow base e 1 v n (l.map vB)) (hb : Below w.heap.size w w') : RetQ w l (.returned v) w' := by
  subst hn
  obtain ⟨A, c, rfl, hc, hr⟩ := own_slice h
  exact ⟨A, l.length, c, rfl, rfl, hc, hr, hb⟩

/-! ### Plain -/
/-! ### Add -/
def TabRel (f : Nat → UInt8) (lo hi : Nat) (w : World) (v i : Value) (wr : World) : Prop :=
  ∃ k : Nat, k ≤ hi ∧ i = .int .i64 ((k + lo : Nat) : Int) ∧ wr.ownsRow w.heap.size 5 1 v k ((tabL f k).map vB) ∧ Below w.heap.size w wr
theorem tab_round {f : Nat → UInt8} {lo hi k : Nat} {w wr w1 : World} {u v : Value} {o : Obj} {x : UInt8} (hk : k < hi) (ho : wr.ownsRow w.heap.size 5 1 u k ((tabL f k).map vB)) (hb : Below w.heap.size w wr) (hx : f k = x)
    (hg : (wr.alloc o).grownBy w1 u.ownBlock) (ho' : w1.ownsRow w.heap.size 5 1 v (k + 1) ((tabL f k).map vB ++ [Value.int .u8 (x.toNat : Int)])) : TabRel f lo hi w v (.int .i64 ((k + 1 + lo : Nat) : Int)) w1 :=
  ⟨k + 1, hk, rfl, by subst hx; rw [tabL, List.map_append]; exact ho', (hb.alloc hb.size o).grown hg (by have := hb.size; simp; omega) (fun g hk => (ho.lt g hk).1)⟩

end Go.Proofs.Ytankddeolpickaa
/-
  What the reference's calls Eval, shift and Times of layer 8 answer. No conditions but those typed.
-/
namespace Go.Proofs.Ytankddeolpickaa
set_option maxRecDepth 100000
open Go.RowKit
set_option linter.unusedSimpArgs false
set_option linter.unusedVariables false

/-! ### Eval -/
def EvRel (p : List UInt8) (x : UInt8) (w : World) (v t i : Value) (wr : World) : Prop :=
  ∃ k : Nat, k ≤ p.length ∧ i = .int .i64 (k : Int) ∧ v = .int .u8 ((evalL (p.take k) x).toNat : Int) ∧ t = .int .u8 ((powB x k).toNat : Int) ∧ w = wr
theorem eval_take (p : List UInt8) (x : UInt8) (k : Nat) (h : k < p.length) : evalL (p.take (k + 1)) x = xorB (evalL (p.take k) x) (mulB p[k] (powB x k)) := by
  rw [List.take_succ_eq_append_getElem h, eval_snoc, List.length_take, Nat.min_eq_left (by omega)]
  rfl
theorem refeval_any (p : List UInt8) (x : UInt8) (n : Nat) (A : Option Addr) (c : Nat) (w : World) (HN : Hid (p.length = n)) (hr : Rd vB w A p) (hn : n ≤ 1000000) :
    Calls Try.prog 45 #[.slice A n c, .int .u8 (x.toNat : Int)] w fun e w' => e = .returned (.int .u8 ((evalL p x).toNat : Int)) ∧ w = w' := by
  have e1 := HN.out
  subst e1
  go_enter Try.func45, Try.ntmps45
  go_wp2_with fail
  go_loopw [5, 6, 7] (fun v t i wr => EvRel p x w v t i wr) (fun _ _ i _ => p.length - (intOf i).toNat)
  case atStart => exact ⟨0, Nat.zero_le _, rfl, rfl, rfl, rfl⟩
  case round =>
    obtain ⟨k, hk, rfl, rfl, rfl, rfl⟩ := hrel
    by_cases h : k < p.length
    · obtain ⟨b, o, rfl, hb, hcell⟩ := hr.at h
      have hc0 := hcell k h
      unfold vB at hc0
      have HE := Lib.hid (eval_take p x k h)
      have HP : Hid (powB x (k + 1) = mulB (powB x k) x) := rfl
      obtain ⟨y, hy⟩ : ∃ y, p[k] = y := ⟨_, rfl⟩
      rw [hy] at hc0 HE
      obtain ⟨V, hV⟩ : ∃ V, evalL (p.take k) x = V := ⟨_, rfl⟩
      obtain ⟨T, hT⟩ : ∃ T, powB x k = T := ⟨_, rfl⟩
      rw [hV, hT] at HE ⊢
      rw [hT] at HP
      have hxr := u8_xor_b V (mulB y T)
      have HR : Hid (EvRel p x w (.int .u8 ((xorB V (mulB y T)).toNat : Int)) (.int .u8 ((mulB T x).toNat : Int)) (.int .i64 ((k : Int) + 1)) w) := ⟨k + 1, h, by go_num, by rw [HE.out], by rw [HP.out], rfl⟩
      have i0 : (0 : Int) ≤ (k : Int) := by omega
      have i1 : (k : Int) < (p.length : Int) := by omega
      have hm1 : ∀ w, Calls Try.prog 52 #[.int .u8 (y.toNat : Int), .int .u8 (T.toNat : Int)] w fun e w' => e = .returned (.int .u8 ((mulB y T).toNat : Int)) ∧ w = w' := fun w => refmul_any y T w
      have hm2 : ∀ w, Calls Try.prog 52 #[.int .u8 (T.toNat : Int), .int .u8 (x.toNat : Int)] w fun e w' => e = .returned (.int .u8 ((mulB T x).toNat : Int)) ∧ w = w' := fun w => refmul_any T x w
      have HM1 := Lib.hid hm1
      have HM2 := Lib.hid hm2
      generalize mulB y T = M at hxr HR HM1
      generalize mulB T x = M2 at HR HM2
      generalize xorB V M = X at hxr HR
      clear hm1 hm2 hcell hV hT hy HE HP
      go_wp2_with fail
      refine (HM1.out _).mono ?_
      rintro e w' ⟨rfl, rfl⟩
      go_wp2_with fail
      refine (HM2.out _).mono ?_
      rintro e w' ⟨rfl, rfl⟩
      go_wp2_with fail
      go_roundw
      case rel => exact HR.out
      case measure => simp [intOf]; omega
    · have j1 : ¬ (k : Int) < (p.length : Int) := by omega
      have HT : Hid (evalL (p.take k) x = evalL p x) := by unfold Hid; rw [List.take_of_length_le (by omega)]
      go_wp2_with fail
      go_ret
      exact ⟨by rw [← HT.out]; rfl, rfl⟩

/-! ### shift -/
def ShiRel (a : UInt8) (j : Nat) (p : List UInt8) (w : World) (v i : Value) (wr : World) : Prop :=
  ∃ k : Nat, k ≤ p.length ∧ i = .int .i64 (k : Int) ∧ wr.ownsRow w.heap.size 5 1 v (j + k) ((shiftL j (scaleL a (p.take k))).map vB) ∧ Below w.heap.size w wr
theorem shi_take (a : UInt8) (j : Nat) (p : List UInt8) (k : Nat) (h : k < p.length) : shiftL j (scaleL a (p.take (k + 1))) = shiftL j (scaleL a (p.take k)) ++ [mulB p[k] a] := by
  rw [List.take_succ_eq_append_getElem h, scaleL, scaleL, List.map_append, shiftL, shiftL, List.append_assoc, mul_comm p[k] a]
  rfl
theorem shi_zero (j : Nat) : (List.replicate j (Value.int .u8 0)) = (shiftL j ([] : List UInt8)).map vB := by
  rw [shiftL, List.append_nil, List.map_replicate]
  rfl
end Go.Proofs.Ytankddeolpickaa
/-
  What the reference's calls Mul and Slope of layer 8 answer. No conditions but those typed.
-/
namespace Go.Proofs.Ytankddeolpickaa
set_option maxRecDepth 100000
open Go.RowKit
set_option linter.unusedSimpArgs false
set_option linter.unusedVariables false

def InRel (f : Nat → UInt8) (hi : Nat) (w : World) (v i : Value) (wr : World) : Prop :=
  ∃ k : Nat, k ≤ hi ∧ i = .int .i64 (k : Int) ∧ v = .int .u8 ((f k).toNat : Int) ∧ Below w.heap.size w wr

end Go.Proofs.Ytankddeolpickaa
/-
  What the reference's calls Gen, Turned, Error, Signs and Fine of layer 9 answer. No conditions but those typed.
-/
namespace Go.Proofs.Ytankddeolpickaa
set_option maxRecDepth 100000
open Go.RowKit
set_option linter.unusedSimpArgs false
set_option linter.unusedVariables false

/-! ### Gen -/
def GenRel (n : Nat) (w : World) (g i : Value) (wr : World) : Prop :=
  ∃ (j : Nat) (A : Option Addr) (k c : Nat), j ≤ n ∧ i = .int .i64 ((j : Int) + 1) ∧ g = .slice A k c ∧ Hid ((genL j).length = k) ∧ k ≤ c ∧ Rd vB wr A (genL j) ∧ Below w.heap.size w wr
theorem refexp_at (V : Int) (k : Nat) (w : World) (hV : V = (k : Int)) (hk : k < 255) :
    Calls Try.prog 47 #[.int .i64 V] w fun e w' => e = .returned (.int .u8 ((powB 2 k).toNat : Int)) ∧ w = w' := by
  subst hV
  rw [← powZ_two k hk]
  exact refexp_any (k : Int) w
/-! ### Turned -/
def TurRel (b : List UInt8) (w : World) (v i : Value) (wr : World) : Prop :=
  ∃ k : Nat, k ≤ b.length ∧ i = .int .i64 ((b.length : Int) - 1 - (k : Int)) ∧ wr.ownsRow w.heap.size 5 1 v k ((b.reverse.take k).map vB) ∧ Below w.heap.size w wr
theorem rev_take (b : List UInt8) (k : Nat) (h : k < b.length) : b.reverse.take (k + 1) = b.reverse.take k ++ [b[b.length - 1 - k]'(by omega)] := by
  rw [List.take_succ_eq_append_getElem (by rw [List.length_reverse]; exact h), List.getElem_reverse]
set_option maxHeartbeats 2000000 in
theorem refturned_any (b : List UInt8) (n : Nat) (A : Option Addr) (c : Nat) (w : World) (HN : Hid (b.length = n)) (hr : Rd vB w A b) (hn : n ≤ 1000000) :
    Calls Try.prog 46 #[.slice A n c] w (RetQ w b.reverse) := by
  obtain ⟨i0, hi, hz0, hz1, hz2⟩ := info_parts info_u8
  have e1 := HN.out
  subst e1
  go_enter Try.func46, Try.ntmps46
  go_wp2_with fail
  go_loopw [3, 4] (fun v i wr => TurRel b w v i wr) (fun _ i _ => (intOf i + 1).toNat)
  case atStart => exact ⟨0, Nat.zero_le _, by go_num, World.ownsRow_nil _ _ _ _, Below.refl _ _⟩
  case round =>
    obtain ⟨k, hk, rfl, hown, hbel⟩ := hrel
    by_cases h : k < b.length
    · obtain ⟨m, hm⟩ : ∃ m, m = b.length - 1 - k := ⟨_, rfl⟩
      have hml : m < b.length := by omega
      obtain ⟨g, o, rfl, hb, hcell⟩ := hr.at hml
      have hc0 : wr.cell? ⟨g, o + m, none⟩ = some (.int .u8 (b[m].toNat : Int)) := (hbel.cell (p := ⟨g, o + m, none⟩) hb).trans (hcell m hml)
      have HE := Lib.hid (rev_take b k h)
      have hidx : (b.length : Int) - 1 - (k : Int) = (m : Int) := by omega
      obtain ⟨y, hy⟩ : ∃ y, b[m] = y := ⟨_, rfl⟩
      have hy2 : b[b.length - 1 - k]'(by omega) = y := by subst hm; exact hy
      rw [hy2] at HE
      rw [hy] at hc0
      rw [hidx]
      have i0' : (0 : Int) ≤ (m : Int) := by omega
      have i1 : (m : Int) < (b.length : Int) := by omega
      have hle := hbel.size
      have HM := Lib.hid hm
      clear hcell hy hy2 hm hidx
      go_wp2_with (at_builtin; refine wpList_append_own _ rfl _ _ 22 rfl w.heap.size 5 i0 (.int .u8 0) 1 1 Try.underlying22 hi hz0 hz1 hz2 rfl (by decide) _ _ _ rfl (hown.alloc _) ⟨wr.heap.size, 0, none⟩ 1 1 [.int .u8 (y.toNat : Int)] rfl rfl (cell_one_new _ _ _) (by intro u hu; simp at hu; subst hu; rfl) (by unfold maxLen; omega) (by omega) (by simp; omega) ?_; intro v' w1 hown' hgrow' _)
      have hB1 : Below w.heap.size w w1 := (hbel.alloc hbel.size _).grown hgrow' (by simp; omega) (fun g hk => (hown.lt g hk).1)
      have HR : Hid (TurRel b w v' (.int .i64 ((m : Int) - 1)) w1) := ⟨k + 1, h, by have := HM.out; rw [show (m : Int) - 1 = (b.length : Int) - 1 - ((k + 1 : Nat) : Int) by omega], by rw [HE.out, List.map_append]; exact hown', hB1⟩
      clear hown' hgrow' hown hbel hB1
      go_wp2_with fail
      go_roundw
      case rel => exact HR.out
      case measure => simp [intOf] <;> omega
    · have ek : k = b.length := by omega
      subst ek
      have j1 : ¬ (0 : Int) ≤ (b.length : Int) - 1 - (b.length : Int) := by omega
      rw [List.take_of_length_le (by rw [List.length_reverse]; exact Nat.le_refl _)] at hown
      go_wp2_with fail
      go_ret
      exact RetQ.own (by rw [List.length_reverse]) hown hbel

/-! ### Error -/
theorem referror_any (n : Nat) (k : Int) (A : Option Addr) (c : Nat) (w : World) (hn : n ≤ 1000000) :
    Calls Try.prog 17 #[.slice A n c, .int .i64 k] w fun e w' => e = .returned (.int .i64 (errS n k)) ∧ w = w' := by
  have HE : Hid (errS n k = if k < 1 ∨ 64 < k then 1 else if (n : Int) < k then 2 else if 255 < n then 4 else 0) := rfl
  rw [HE.out]
  by_cases h1 : k < 1
  · rw [if_pos (.inl h1)]
    go_enter Try.func17, Try.ntmps17
    go_wp2_with fail
    go_ret
    exact ⟨rfl, rfl⟩
  · by_cases h2 : 64 < k
    · rw [if_pos (.inr h2)]
      go_enter Try.func17, Try.ntmps17
      go_wp2_with fail
      go_ret
      exact ⟨rfl, rfl⟩
    · rw [if_neg (by omega)]
      by_cases h3 : (n : Int) < k
      · rw [if_pos h3]
        go_enter Try.func17, Try.ntmps17
        go_wp2_with fail
        go_ret
        exact ⟨rfl, rfl⟩
      · rw [if_neg h3]
        by_cases h4 : 255 < n
        · rw [if_pos h4]
          have h4' : (255 : Int) < (n : Int) := by omega
          go_enter Try.func17, Try.ntmps17
          go_wp2_with fail
          go_ret
          exact ⟨rfl, rfl⟩
        · rw [if_neg h4]
          have h4' : ¬ (255 : Int) < (n : Int) := by omega
          go_enter Try.func17, Try.ntmps17
          go_wp2_with fail
          go_ret
          exact ⟨rfl, rfl⟩
end Go.Proofs.Ytankddeolpickaa
/-
  What the reference's calls Signs and Fine of layer 9 answer. No conditions but those typed.
-/
namespace Go.Proofs.Ytankddeolpickaa
set_option maxRecDepth 100000
open Go.RowKit
set_option linter.unusedSimpArgs false
set_option linter.unusedVariables false

def sigF (b : List UInt8) (i : Nat) : UInt8 := valB b (powB 2 (i + 1))
theorem range_snoc {α : Type} (f : Nat → α) (n : Nat) : (List.range (n + 1)).map f = (List.range n).map f ++ [f n] := by rw [List.range_succ, List.map_append]; rfl
theorem tab_range (f : Nat → UInt8) : ∀ n, tabL f n = (List.range n).map f
  | 0 => rfl
  | n + 1 => by rw [tabL, tab_range f n, range_snoc]
theorem signs_tab (b : List UInt8) (n : Nat) : tabL (sigF b) n = signsL b n := tab_range _ n

set_option maxHeartbeats 2000000 in
theorem refsigns_any (b : List UInt8) (len n : Nat) (A : Option Addr) (c : Nat) (w : World) (HN : Hid (b.length = len)) (hr : Rd vB w A b) (hl : len ≤ 100000) (hn : n ≤ 64) :
    Calls Try.prog 34 #[.slice A len c, .int .i64 (n : Int)] w (RetQ w (signsL b n)) := by
  obtain ⟨i0, hi, hz0, hz1, hz2⟩ := info_parts info_u8
  have HL : Hid (tabL (sigF b) n = signsL b n) := signs_tab b n
  go_enter Try.func34, Try.ntmps34
  go_wp2_with fail
  go_loopw [5, 6] (fun v i wr => TabRel (sigF b) 1 n w v i wr) (fun _ i _ => n + 1 - (intOf i).toNat)
  case atStart => exact ⟨0, Nat.zero_le _, rfl, World.ownsRow_nil _ _ _ _, Below.refl _ _⟩
  case round =>
    obtain ⟨k, hk, rfl, hown, hbel⟩ := hrel
    by_cases h : k < n
    · have j1 : ((k + 1 : Nat) : Int) ≤ (n : Int) := by omega
      have HX : Hid (sigF b k = evalL b.reverse (powB 2 (k + 1))) := rfl
      go_wp2_with fail
      refine (refturned_any b len A c _ HN (hr.keep hbel) (by omega)).mono ?_
      rintro e w1 ⟨A1, n1, c1, rfl, HN1, hc1, hr1, hb1⟩
      have e1 : n1 = len := by rw [← HN1.out, List.length_reverse, HN.out]
      subst e1
      go_wp2_with fail
      refine (refexp_at _ (k + 1) _ rfl (by omega)).mono ?_
      rintro e w2 ⟨rfl, rfl⟩
      generalize powB 2 (k + 1) = x at HX ⊢
      go_wp2_with fail
      refine (refeval_any b.reverse x n1 A1 c1 _ HN1 hr1 (by omega)).mono ?_
      rintro e w2 ⟨rfl, rfl⟩
      generalize evalL b.reverse x = y at HX ⊢
      have hown2 := ownsRow_later hown hb1
      have hbw := below_step hbel hb1
      have hle := hbw.size
      clear hown hbel hb1 hr1
      go_wp2_with (at_builtin; refine wpList_append_own _ rfl _ _ 22 rfl w.heap.size 5 i0 (.int .u8 0) 1 1 Try.underlying22 hi hz0 hz1 hz2 rfl (by decide) _ _ _ rfl (hown2.alloc _) ⟨w1.heap.size, 0, none⟩ 1 1 [.int .u8 (y.toNat : Int)] rfl rfl (cell_one_new _ _ _) (by intro u hu; simp at hu; subst hu; rfl) (by unfold maxLen; omega) (by omega) (by simp; omega) ?_; intro v' w3 hown' hgrow' _)
      have HR : Hid (TabRel (sigF b) 1 n w v' (.int .i64 (((k + 1 : Nat) : Int) + 1)) w3) := tab_round (lo := 1) h hown2 hbw HX.out hgrow' hown'
      clear hown' hgrow' hown2 hbw
      go_wp2_with fail
      go_roundw
      case rel => exact HR.out
      case measure => simp [intOf] <;> omega
    · have j1 : ¬ ((k + 1 : Nat) : Int) ≤ (n : Int) := by omega
      have ek : k = n := by omega
      subst ek
      rw [HL.out] at hown
      go_wp2_with fail
      go_ret
      exact RetQ.own (signs_length b k) hown hbel

/-! ### Fine -/
theorem all_false_at (l : List UInt8) (k : Nat) (h : k < l.length) (hx : l[k] ≠ 0) : l.all (· == 0) = false := by
  rw [List.all_eq_false]
  exact ⟨l[k], List.getElem_mem h, by simpa using hx⟩
theorem all_true_of (l : List UInt8) (h : ∀ i (hi : i < l.length), l[i] = 0) : l.all (· == 0) = true := by
  rw [List.all_eq_true]
  intro x hx
  obtain ⟨i, hi, e⟩ := List.getElem_of_mem hx
  rw [← e, h i hi]
  rfl
def FinRel (l : List UInt8) (i : Value) : Prop := ∃ j : Nat, j ≤ l.length ∧ i = .int .i64 (j : Int) ∧ ∀ q (hq : q < l.length), q < j → l[q] = 0
theorem errS_cases (n : Nat) (k : Int) : errS n k = 0 → ∃ m : Nat, k = (m : Int) ∧ 1 ≤ m ∧ m ≤ 64 ∧ m ≤ n ∧ n ≤ 255 := by
  unfold errS
  intro h
  split at h
  · omega
  · split at h
    · omega
    · split at h
      · omega
      · exact ⟨k.toNat, by omega, by omega, by omega, by omega, by omega⟩
set_option maxHeartbeats 2000000 in
theorem reffine_any (b : List UInt8) (len : Nat) (k : Int) (A : Option Addr) (c : Nat) (w : World) (HN : Hid (b.length = len)) (hr : Rd vB w A b) (hl : len ≤ 100000) :
    Calls Try.prog 18 #[.slice A len c, .int .i64 k] w fun e w' => e = .returned (.bool (fineS b k)) ∧ Below w.heap.size w w' := by
  by_cases h0 : errS len k = 0
  · obtain ⟨m, rfl, h1, h2, h3, h4⟩ := errS_cases len k h0
    have HF : Hid (fineS b (m : Int) = (signsL b m).all (· == 0)) := by
      unfold Hid fineS
      rw [HN.out, h0]
      rfl
    have H0 := Lib.hid h0
    rw [HF.out]
    clear h0 h1 h3
    go_enter Try.func18, Try.ntmps18
    go_wp2_with fail
    refine (referror_any len (m : Int) A c _ (by omega)).mono ?_
    rintro e w1 ⟨rfl, rfl⟩
    rw [H0.out]
    go_wp2_with fail
    refine (refsigns_any b len m A c _ HN hr (by omega) h2).mono ?_
    rintro e w1 ⟨A1, n1, c1, rfl, HN1, hc1, hr1, hb1⟩
    have e1 : n1 = m := by rw [← HN1.out, signs_length]
    subst e1
    generalize hs : signsL b n1 = l at HN1 hr1
    have HS := Lib.hid hs
    clear hs
    have e2 := HN1.out
    subst e2
    go_wp2_with fail
    go_loopw [6] (fun i wr => FinRel l i ∧ w1 = wr) (fun i _ => l.length - (intOf i).toNat)
    case atStart => exact ⟨⟨0, Nat.zero_le _, rfl, fun q _ h => absurd h (by omega)⟩, rfl⟩
    case round =>
      obtain ⟨⟨j, hj, rfl, hz⟩, rfl⟩ := hrel
      have HZ := Lib.hid hz
      clear hz
      have i0 : (0 : Int) ≤ (j : Int) := by omega
      by_cases h : j < l.length
      · obtain ⟨g, o, rfl, hb, hcell⟩ := hr1.at h
        have hc0 := hcell j h
        unfold vB at hc0
        have j1 : (j : Int) < (l.length : Int) := by omega
        by_cases hx : l[j] = 0
        · rw [hx] at hc0
          have hc0' : w1.cell? ⟨g, o + j, none⟩ = some (.int .u8 0) := hc0
          have HR : Hid (FinRel l (.int .i64 ((j : Int) + 1))) := ⟨j + 1, h, by go_num, fun q hq hq2 => by
            rcases Nat.lt_or_ge q j with e | e
            · exact HZ.out q hq e
            · have : q = j := by omega
              subst this
              exact hx⟩
          clear hcell hc0 hx
          go_wp2_with fail
          go_roundw
          case rel => exact ⟨HR.out, trivial⟩
          case measure => simp [intOf] <;> omega
        · have HA := Lib.hid (all_false_at l j h hx)
          have hne : ((l[j].toNat : Int) == 0) = false := by
            have : l[j].toNat ≠ 0 := fun e => hx (UInt8.toNat_inj.1 e)
            simp
            omega
          generalize l[j] = x at hc0 hne
          clear hcell hx
          go_wp2_with fail
          go_ret
          exact ⟨by rw [HS.out, HA.out]; rfl, hb1⟩
      · have j1 : ¬ (j : Int) < (l.length : Int) := by omega
        have HA := Lib.hid (all_true_of l (fun i hi => HZ.out i hi (by omega)))
        go_wp2_with fail
        go_ret
        exact ⟨by rw [HS.out, HA.out]; rfl, hb1⟩
  · have HF : Hid (fineS b k = false) := by
      unfold Hid fineS
      rw [HN.out, decide_eq_false h0]
      rfl
    rw [HF.out]
    have hne : (errS len k == 0) = false := beq_eq_false_iff_ne.2 h0
    have HE := Lib.hid hne
    clear h0 hne
    go_enter Try.func18, Try.ntmps18
    go_wp2_with fail
    refine (referror_any len k A c _ (by omega)).mono ?_
    rintro e w1 ⟨rfl, rfl⟩
    have hne := HE.out
    generalize errS len k = z at hne
    go_wp2_with fail
    go_ret
    exact ⟨rfl, Below.refl _ _⟩
end Go.Proofs.Ytankddeolpickaa
/-
  A block whose first cells are bytes, and worlds in which all but one block lies as it lay (no program is named here). No conditions but those typed.
-/
namespace Go.Proofs.Ytankddeolpickaa
set_option maxRecDepth 100000
open Go.RowKit
set_option linter.unusedSimpArgs false
set_option linter.unusedVariables false

/-! ### A block whose first cells are bytes -/
def Cel (w : World) (g : Nat) (e : TypeId) (l : List UInt8) : Prop := ∃ L, Row w g e L ∧ L.take l.length = l.map vB
section
variable {w w' : World} {g : Nat} {e : TypeId} {l : List UInt8}
theorem Cel.lt (h : Cel w g e l) : g < w.heap.size := by
  obtain ⟨L, h1, _⟩ := h
  exact h1.lt
theorem Cel.get (h : Cel w g e l) (i : Nat) (hi : i < l.length) : w.cell? ⟨g, i, none⟩ = some (.int .u8 ((co l i).toNat : Int)) := by
  obtain ⟨L, h1, h2⟩ := h
  rw [h1.cell? i, co_lt l i hi]
  have := congrArg (·[i]?) h2
  simp only [List.getElem?_take, hi, if_true, List.getElem?_map, List.getElem?_eq_getElem hi] at this
  exact this
theorem Cel.frozen (h : Cel w g e l) (i : Nat) : w.frozen? ⟨g, i, none⟩ = false := by
  obtain ⟨L, h1, _⟩ := h
  exact h1.frozen i
theorem Cel.set (h : Cel w g e l) (i : Nat) (z : UInt8) : Cel (w.setCell ⟨g, i, none⟩ (.int .u8 (z.toNat : Int))) g e (l.set i z) := by
  obtain ⟨L, h1, h2⟩ := h
  refine ⟨_, h1.setCell i (.int .u8 (z.toNat : Int)), ?_⟩
  rw [List.length_set, List.take_set, h2, List.map_set]
  rfl
theorem Cel.later (h : Cel w g e l) (hb : Below w.heap.size w w') : Cel w' g e l := by
  obtain ⟨L, h1, h2⟩ := h
  exact ⟨L, h1.later hb, h2⟩
theorem Cel.drew (h : Cel w g e l) : Cel w.drew g e l := h
theorem Cel.rd (h : Cel w g e l) : Rd vB w (some ⟨g, 0, none⟩) l := fun hn => ⟨g, 0, rfl, fun i hi => by rw [Nat.zero_add, h.get i hi, co_lt l i hi]; rfl⟩
theorem cel_of_own {base cap n : Nat} {A : Option Addr} (h : w.ownsRow base e 1 (.slice A n cap) n (l.map vB)) (hl : l.length = n) (hn : 0 < n) : ∃ g, A = some ⟨g, 0, none⟩ ∧ base ≤ g ∧ Cel w g e l := by
  rcases h.2 with ⟨_, h0⟩ | ⟨g, cap', cur, hv, hg, hgg, hc, hm, hs, ht⟩
  · omega
  · have hR : Row w g e cur.toList := hgg
    injection hv with e1 e2 e3
    rw [Nat.mul_one] at ht
    exact ⟨g, e1, hg, cur.toList, hR, by rw [hl]; exact ht⟩
end


/-- .. and the block has cap cells. -/
def CelN (w : World) (g : Nat) (e : TypeId) (cap : Nat) (l : List UInt8) : Prop := ∃ L, Row w g e L ∧ L.length = cap ∧ L.take l.length = l.map vB
theorem CelN.cel {w : World} {g : Nat} {e : TypeId} {cap : Nat} {l : List UInt8} (h : CelN w g e cap l) : Cel w g e l := by
  obtain ⟨L, h1, _, h2⟩ := h
  exact ⟨L, h1, h2⟩
theorem Cel.some_cap {w : World} {g : Nat} {e : TypeId} {l : List UInt8} (h : Cel w g e l) : ∃ cap, CelN w g e cap l := by
  obtain ⟨L, h1, h2⟩ := h
  exact ⟨L.length, L, h1, rfl, h2⟩
theorem CelN.drew {w : World} {g : Nat} {e : TypeId} {cap : Nat} {l : List UInt8} (h : CelN w g e cap l) : CelN w.drew g e cap l := h
theorem CelN.set {w : World} {g : Nat} {e : TypeId} {cap : Nat} {l : List UInt8} (h : CelN w g e cap l) (i : Nat) (z : UInt8) : CelN (w.setCell ⟨g, i, none⟩ (.int .u8 (z.toNat : Int))) g e cap (l.set i z) := by
  obtain ⟨L, h1, h3, h2⟩ := h
  refine ⟨_, h1.setCell i (.int .u8 (z.toNat : Int)), by rw [List.length_set]; exact h3, ?_⟩
  rw [List.length_set, List.take_set, h2, List.map_set]
  rfl
theorem celN_some {w : World} {e : TypeId} {l : List UInt8} {base cap n g : Nat} (h : w.ownsRow base e 1 (.slice (some ⟨g, 0, none⟩) n cap) n (l.map vB)) (hl : l.length = n) : CelN w g e cap l ∧ base ≤ g ∧ n ≤ cap ∧ cap ≤ maxLen := by
  rcases h.2 with ⟨e0, _⟩ | ⟨g', cap', cur, hv, hg, hgg, hc, hm, hs, ht⟩
  · cases e0
  · have hR : Row w g' e cur.toList := hgg
    injection hv with e1 e2 e3
    injection e1 with e1
    injection e1 with e1
    subst e1 e3
    rw [Nat.mul_one] at ht
    exact ⟨⟨cur.toList, hR, by rw [Array.length_toList, hs, Nat.mul_one], by rw [hl]; exact ht⟩, hg, hc, hm⟩
theorem CelN.own {w : World} {e : TypeId} {l : List UInt8} {g cap base : Nat} (h : CelN w g e cap l) (hb : base ≤ g) (hl : l.length ≤ cap) (hm : cap ≤ maxLen) : w.ownsRow base e 1 (.slice (some ⟨g, 0, none⟩) l.length cap) l.length (l.map vB) := by
  obtain ⟨L, h1, h3, h2⟩ := h
  exact ⟨by rw [List.length_map, Nat.mul_one], .inr ⟨g, cap, L.toArray, rfl, hb, h1, hl, hm, by rw [List.size_toArray, h3, Nat.mul_one], by rw [Nat.mul_one]; exact h2⟩⟩

/-! ### All but one block lies as it lay -/
structure Only (g : Nat) (w w' : World) : Prop where
  below : Below g w w'
  other : ∀ b, b ≠ g → b < w.heap.size → w'.heap[b]? = w.heap[b]?
theorem Only.refl (g : Nat) (w : World) : Only g w w := ⟨Below.refl _ _, fun _ _ _ => rfl⟩
theorem Only.trans {g : Nat} {a b c : World} (h : Only g a b) (k : Only g b c) : Only g a c :=
  ⟨h.below.trans k.below, fun x hx hl => (k.other x hx (Nat.lt_of_lt_of_le hl h.below.size)).trans (h.other x hx hl)⟩
theorem Only.drew {g : Nat} {a w : World} (h : Only g a w) : Only g a w.drew := ⟨h.below.drew, h.other⟩
theorem Only.setCell {g : Nat} {a w : World} (h : Only g a w) (i : Nat) (v : Value) : Only g a (w.setCell ⟨g, i, none⟩ v) :=
  ⟨h.below.setCell (p := ⟨g, i, none⟩) (Nat.le_refl _) v, fun b hb hl => (Below.heap_setCell w ⟨g, i, none⟩ v b hb).trans (h.other b hb hl)⟩
theorem Only.later {g : Nat} {w w' : World} (h : Below w.heap.size w w') (hg : g ≤ w.heap.size) : Only g w w' := ⟨h.mono hg, fun b _ hl => h.block b hl⟩
theorem Only.fresh {g : Nat} {w w' : World} (h : Only g w w') (hg : w.heap.size ≤ g) : Below w.heap.size w w' := h.below.mono hg
theorem Rd.only {α : Type} {f : α → Value} {g : Nat} {w w' : World} {A : Option Addr} {l : List α} (h : Rd f w A l) (k : Only g w w') (hA : l ≠ [] → ∀ a, A = some a → a.block ≠ g) : Rd f w' A l := fun hn => by
  obtain ⟨b, o, rfl, hc⟩ := h hn
  refine ⟨b, o, rfl, fun i hi => ?_⟩
  have h1 := hc i hi
  exact (World.cell?_of_block (w := w) (a := ⟨b, o + i, none⟩) (k.other b (hA hn _ rfl) (World.block_lt_of_cell? w _ h1))).trans h1
theorem Rd.off {α : Type} {f : α → Value} {w : World} {A : Option Addr} {l : List α} (h : Rd f w A l) : l ≠ [] → ∀ a, A = some a → a.block < w.heap.size := fun hn a ha => by
  obtain ⟨b, o, e1, hcell⟩ := h hn
  rw [ha] at e1
  injection e1 with e1
  subst e1
  exact World.block_lt_of_cell? w _ (hcell 0 (List.length_pos_iff.2 hn))
theorem Rd.apart {α : Type} {f : α → Value} {w : World} {A : Option Addr} {l : List α} (h : Rd f w A l) {g : Nat} (hg : w.heap.size ≤ g) : l ≠ [] → ∀ a, A = some a → a.block ≠ g := fun hn a ha => by
  have := h.off hn a ha
  omega
theorem Cel.only {g q : Nat} {w w' : World} {e : TypeId} {l : List UInt8} (h : Cel w q e l) (k : Only g w w') (hq : q ≠ g) : Cel w' q e l := by
  have hlt := h.lt
  obtain ⟨L, h1, h2⟩ := h
  exact ⟨L, (k.other q hq hlt).trans h1, h2⟩
theorem Boxed.only {g q : Nat} {w w' : World} {t : TypeId} {v : Value} (h : Boxed w q t v) (k : Only g w w') (hq : q ≠ g) : Boxed w' q t v := (k.other q hq h.lt).trans h
theorem Only.keeps {g : Nat} {w w' : World} {e : TypeId} {l : List UInt8} (h : Only g w w') (hc : Cel w g e l) (B : Nat) : KeepsFrom B w w' := by
  obtain ⟨L, h1, _⟩ := hc
  refine ⟨h.below.size, fun k o _ hk ho => ?_⟩
  by_cases e : k = g
  · subst e
    have h1' : w.heap[k]? = some (.cells L.toArray _ (0, 0)) := h1
    rw [h1'] at hk
    injection hk with hk
    subst hk
    cases ho
  · exact (h.other k e (Array.getElem?_eq_some_iff.1 hk).1).trans hk
/-- A slice of bytes that lies in a block of the call's own from its first cell on. -/
theorem cel_new {w : World} {e : TypeId} {n : Nat} : Cel (w.alloc (.cells (List.replicate n (Value.int .u8 0)).toArray e)) w.heap.size e (List.replicate n 0) :=
  ⟨_, Row.new w e _ _ rfl, by rw [List.length_replicate, List.take_of_length_le (by rw [List.length_replicate]; exact Nat.le_refl _), List.map_replicate]; rfl⟩
theorem Cel.rd_from {w : World} {g : Nat} {e : TypeId} {l : List UInt8} (h : Cel w g e l) (o n : Nat) (hn : o + n ≤ l.length) : Rd vB w (some ⟨g, o, none⟩) ((l.drop o).take n) := fun _ => ⟨g, o, rfl, fun i hi => by
  rw [List.length_take, List.length_drop] at hi
  have hj : o + i < l.length := by omega
  rw [h.get (o + i) hj, co_lt l (o + i) hj, List.getElem_take, List.getElem_drop]
  rfl⟩

theorem cel_some {w : World} {e : TypeId} {l : List UInt8} {base cap n g : Nat} (h : w.ownsRow base e 1 (.slice (some ⟨g, 0, none⟩) n cap) n (l.map vB)) (hl : l.length = n) : Cel w g e l ∧ base ≤ g ∧ n ≤ cap := by
  rcases h.2 with ⟨e0, _⟩ | ⟨g', cap', cur, hv, hg, hgg, hc, hm, hs, ht⟩
  · cases e0
  · have hR : Row w g' e cur.toList := hgg
    injection hv with e1 e2 e3
    injection e1 with e1
    injection e1 with e1
    subst e1
    rw [Nat.mul_one] at ht
    exact ⟨⟨cur.toList, hR, by rw [hl]; exact ht⟩, hg, by omega⟩
theorem zeros_map (n : Nat) : (List.replicate n (Value.int .u8 0)) = (List.replicate n (0 : UInt8)).map vB := by
  rw [List.map_replicate]
  rfl
/-- The cells that a copy leaves. -/
theorem cel_splice {l : List UInt8} {L : List Value} (hL : L.take l.length = l.map vB) (off : Nat) (S : List UInt8) (h : off + S.length ≤ l.length) :
    (L.take off ++ S.map vB ++ L.drop (off + S.length)).take (l.take off ++ S ++ l.drop (off + S.length)).length = (l.take off ++ S ++ l.drop (off + S.length)).map vB := by
  have hlen : l.length ≤ L.length := by
    have := congrArg List.length hL
    rw [List.length_take, List.length_map] at this
    omega
  have h1 : L.take off = (l.take off).map vB := by
    rw [List.map_take, ← hL, List.take_take, Nat.min_eq_left (by omega)]
  have h2 : (L.drop (off + S.length)).take (l.length - (off + S.length)) = (l.drop (off + S.length)).map vB := by
    rw [List.map_drop, ← hL, List.drop_take]
  have h3 : (L.take off ++ S.map vB).length = off + S.length := by rw [List.length_append, List.length_take, List.length_map]; omega
  have h4 : (l.take off ++ S ++ l.drop (off + S.length)).length = l.length := by
    rw [List.length_append, List.length_append, List.length_take, List.length_drop]
    omega
  rw [h4, List.take_append, h3, List.take_of_length_le (by omega), h2, h1, List.map_append, List.map_append]
theorem Only.setRow {g : Nat} {a w : World} (h : Only g a w) (cs : Array Value) : Only g a (w.setRow g cs) :=
  ⟨below_setRow h.below (Nat.le_refl _) cs, fun b hb hl => (Go.setRow_other w g b cs hb).trans (h.other b hb hl)⟩
/-- 'copy(d, s)' into a block whose first cells are bytes. -/
theorem wpList_copy_cel {P : Program} {ops : Array Oper} {rest : List Oper} {o : Oper} {a : Act} {w : World} {Q : Exit → Act → World → Prop} (hgd : o.guard = none) (d s : Operand) (dT sT : TypeId)
    (ho : o.op = .call { callee := .builtin .copy, args := #[d, s], argTypes := #[dT, sT] }) (elem : TypeId) (hu : P.underlying dT = some (.slice elem)) (hsz : (P.info? elem).map (·.size) = some 1)
    (g off dLen dCap : Nat) (A : Option Addr) (S : List UInt8) (sCap : Nat) (hd : a.eval d = .slice (some ⟨g, off, none⟩) dLen dCap) (hs : a.eval s = .slice A S.length sCap)
    (l : List UInt8) (t : TypeId) (hg : Cel w g t l) (hr : Rd vB w A S) (hle : S.length ≤ dLen) (hfit : off + S.length ≤ l.length)
    (h : ∀ w', Cel w' g t (l.take off ++ S ++ l.drop (off + S.length)) → Only g w w' → wpList P ops Q rest (a.put o.dst (.int .i64 (S.length : Int))) w') : wpList P ops Q (o :: rest) a w := by
  obtain ⟨L, h1, h2⟩ := hg
  have hlen : l.length ≤ L.length := by
    have := congrArg List.length h2
    rw [List.length_take, List.length_map] at this
    omega
  refine wpList_copy_row hgd d s dT sT ho elem hu hsz g off dLen dCap A S sCap hd hs L t h1 hr (fun _ => rfl) hle (by omega) ?_
  exact h _ ⟨_, h1.setRow _, cel_splice h2 off S hfit⟩ ((Only.refl g w).setRow _)
end Go.Proofs.Ytankddeolpickaa
/-
  What the reference's call Put of layer 9 answers: checks by a register, which is set place by place. No conditions but those typed.
-/
namespace Go.Proofs.Ytankddeolpickaa
set_option maxRecDepth 100000
open Go.RowKit
set_option linter.unusedSimpArgs false
set_option linter.unusedVariables false

/-! ### The register, place by place -/
theorem co_zip (a b : List UInt8) (i : Nat) (ha : i < a.length) (hb : i < b.length) : co (List.zipWith addB a b) i = addB (co a i) (co b i) := by
  rw [co_lt _ _ (by rw [List.length_zipWith]; omega), co_lt _ _ ha, co_lt _ _ hb, List.getElem_zipWith]
theorem co_take (l : List UInt8) (n i : Nat) (h : i < n) : co (l.take n) i = co l i := by
  unfold co
  rw [List.getD_eq_getElem?_getD, List.getD_eq_getElem?_getD, List.getElem?_take, if_pos h]
theorem co_map_mul (t : UInt8) (l : List UInt8) (i : Nat) : co (l.map (mulB t)) i = mulB t (co l i) := co_scale t l i
theorem reg_get (g reg : List UInt8) (top : UInt8) (i : Nat) (hi : i + 1 < reg.length) (hg : reg.length ≤ g.length) : co (regL g reg top) (i + 1) = addB (co reg i) (mulB top (co g (i + 1))) := by
  unfold regL
  rw [co_zip _ _ _ (by rw [List.length_cons, List.length_dropLast]; omega) (by rw [List.length_map, List.length_take]; omega), co_succ, co_map_mul, co_take _ _ _ hi, List.dropLast_eq_take, co_take _ _ _ (by omega)]
theorem reg_get0 (g reg : List UInt8) (top : UInt8) (hi : 0 < reg.length) (hg : reg.length ≤ g.length) : co (regL g reg top) 0 = mulB top (co g 0) := by
  unfold regL
  rw [co_zip _ _ _ (by rw [List.length_cons]; omega) (by rw [List.length_map, List.length_take]; omega), co_zero, zero_add, co_map_mul, co_take _ _ _ hi]
def mixL (L R : List UInt8) (k : Nat) : List UInt8 := L.take k ++ R.drop k
theorem mix_length (L R : List UInt8) (k : Nat) (h : L.length = R.length) : (mixL L R k).length = L.length := by
  unfold mixL
  rw [List.length_append, List.length_take, List.length_drop]
  omega
theorem mix_low (L R : List UInt8) (k i : Nat) (hi : i < k) (hk : k ≤ L.length) : co (mixL L R k) i = co L i := by
  unfold mixL co
  rw [List.getD_eq_getElem?_getD, List.getD_eq_getElem?_getD, List.getElem?_append_left (by rw [List.length_take]; omega), List.getElem?_take, if_pos hi]
theorem mix_set (L R : List UInt8) (k : Nat) (h : L.length = R.length) (hk : k < L.length) : (mixL L R (k + 1)).set k (co R k) = mixL L R k := by
  unfold mixL
  have e : L.take (k + 1) = L.take k ++ [L[k]] := List.take_succ_eq_append_getElem hk
  have e2 : R.drop k = R[k]'(by omega) :: R.drop (k + 1) := List.drop_eq_getElem_cons (by omega)
  have hl : (L.take k).length = k := by rw [List.length_take]; omega
  rw [e, e2, List.append_assoc, List.set_append_right _ _ (by omega), hl, Nat.sub_self, co_lt R k (by omega)]
  rfl
theorem mix_all (L R : List UInt8) (h : L.length = R.length) : mixL L R L.length = L := by
  unfold mixL
  rw [List.take_length, List.drop_of_length_le (by omega), List.append_nil]
theorem mix_none (L R : List UInt8) : mixL L R 0 = R := rfl

def InnR (L R : List UInt8) (gr : Nat) (wb : World) (kv : Value) (wx : World) : Prop :=
  ∃ k : Nat, k + 1 ≤ L.length ∧ kv = .int .i64 (k : Int) ∧ Cel wx gr 5 (mixL L R (k + 1)) ∧ Below wb.heap.size wb wx
def PutR (d G : List UInt8) (n gr : Nat) (wb : World) (iv : Value) (wr : World) : Prop :=
  ∃ j : Nat, j ≤ d.length ∧ iv = .int .i64 (j : Int) ∧ Cel wr gr 5 (runL G n (d.take j)) ∧ Below wb.heap.size wb wr
def twoC (p q : Addr) (a b : Value) (W : World) : Prop := W.cell? p = some a ∧ W.cell? q = some b
theorem run_take (G d : List UInt8) (n j : Nat) (h : j < d.length) : runL G n (d.take (j + 1)) = regL G (runL G n (d.take j)) (xorB (co d j) (co (runL G n (d.take j)) (n - 1))) := by
  rw [List.take_succ_eq_append_getElem h, run_snoc, co_lt d j h]
  rfl

end Go.Proofs.Ytankddeolpickaa
/-
  What slices.Backward answers at slices of bytes: a range over a function, from the last place to the first; its contract for whatever body keeps the slice readable. Conditions: bounds on lengths, as typed.
-/
namespace Go.Proofs.Ytankddeolpickaa
set_option maxRecDepth 100000
open Go.RowKit Go.Shelf
set_option linter.unusedSimpArgs false
set_option linter.unusedVariables false

attribute [local go_sem] Oper.semAt_some

/-- The places from the last one on, as far as k rounds come. -/
def backN (n k : Nat) : List Nat := (List.range k).map fun j => n - 1 - j
theorem back_succ (n k : Nat) : backN n (k + 1) = backN n k ++ [n - 1 - k] := by simp [backN, List.range_succ]
theorem back_length (n k : Nat) : (backN n k).length = k := by simp [backN]
theorem mem_back (n k i : Nat) (hk : k ≤ n) : i ∈ backN n k ↔ n - k ≤ i ∧ i < n := by
  unfold backN
  rw [List.mem_map]
  constructor
  · rintro ⟨j, hj, rfl⟩
    rw [List.mem_range] at hj
    omega
  · rintro ⟨h1, h2⟩
    exact ⟨n - 1 - i, by rw [List.mem_range]; omega, by omega⟩

/-- What comes to a round: a place, and the byte there. -/
abbrev Bk (n : Nat) (V : Nat → UInt8 → Prop) := { x : Nat × UInt8 // x.1 < n ∧ V x.1 x.2 }
def Bk.at {n : Nat} {V : Nat → UInt8 → Prop} (x : Bk n V) : Nat := x.1.1
def Bk.val {n : Nat} {V : Nat → UInt8 → Prop} (x : Bk n V) : UInt8 := x.1.2
def Bk.enc {n : Nat} {V : Nat → UInt8 → Prop} (x : Bk n V) : Array Value := #[.int .i64 (x.at : Int), .int .u8 (x.val.toNat : Int)]
theorem Bk.lt {n : Nat} {V : Nat → UInt8 → Prop} (x : Bk n V) : x.at < n := x.2.1
theorem Bk.is {n : Nat} {V : Nat → UInt8 → Prop} (x : Bk n V) : V x.at x.val := x.2.2
def backS {n : Nat} {V : Nat → UInt8 → Prop} (xs : List (Bk n V)) : Prop := xs.map Bk.at = backN n n
def backP {n : Nat} {V : Nat → UInt8 → Prop} (xs : List (Bk n V)) : Prop := ∃ k, k ≤ n ∧ xs.map Bk.at = backN n k

theorem backward_any (A : Option Addr) (n c : Nat) (w : World) :
    Calls Try.prog 40 #[.slice A n c] w fun e w' => e = .returned (.func (.func 49) #[] #[.pointer (some ⟨w.heap.size, 0, none⟩)]) ∧ w' = w.alloc (.cells #[.slice A n c] 22) := by
  go_enter Try.func40, Try.ntmps40
  go_wp2_with fail
  go_ret
  exact ⟨rfl, rfl⟩

set_option maxHeartbeats 2000000 in
theorem back1_in (F : Fence) (n : Nat) (h7 : F.fn 49) (hro : F.round = none) (hn : 1 ≤ n) (l Bs len cap : Nat) (A : Option Addr) (V : Nat → UInt8 → Prop) (Kp : World → World → Prop) (hlen : len ≤ 140737488351232) (J Jx : List (Bk len V) → World → Prop)
    (hY : ∀ pre x W, J pre W → pre.length < len → YieldAt F (n - 1) Try.prog l (Bk.enc x) W fun e W' => (e = .returned (.bool true) ∧ J (pre ++ [x]) W' ∧ Kp W W') ∨ (e = .returned (.bool false) ∧ Jx (pre ++ [x]) W'))
    (W : World) (hKr : Kp W W) (hKt : ∀ X Y, Kp W X → Kp X Y → Kp W Y) (hread : ∀ W', Kp W W' → W'.cell? ⟨Bs, 0, none⟩ = some (.slice A len cap) ∧ ∃ p : List UInt8, p.length = len ∧ Rd vB W' A p ∧ ∀ j, j < len → V j (co p j)) (h0 : J [] W) :
    CallsIn F n Try.prog 49 #[.func (.yield l) #[] #[], .pointer (some ⟨Bs, 0, none⟩)] W fun e W' => (∃ v, e = .returned v) ∧ ((∃ xs, backS xs ∧ J xs W') ∨ (∃ pre, backP pre ∧ Jx pre W')) := by
  have hc0 := (hread W hKr).1
  refine callsIn_of_wp Try.func49 rfl h7 ?_ hro
  simp only [Try.ntmps49, List.size_toArray, List.length_cons, List.length_nil, Nat.reduceAdd, Nat.reduceSub, Array.replicate_succ, Array.replicate_zero, List.push_toArray, List.append_toArray, List.nil_append, List.cons_append]
  gi_wp2
  gi_loopw [3] (fun i wr => ∃ m : Nat, m ≤ len ∧ i = .int .i64 ((m : Int) - 1) ∧ (∃ pre : List (Bk len V), pre.length = len - m ∧ pre.map Bk.at = backN len (len - m) ∧ J pre wr) ∧ Kp W wr)
    (fun i _ => (intOf i + 1).toNat)
  case atStart => exact ⟨len, Nat.le_refl _, rfl, ⟨[], by simp, by rw [Nat.sub_self]; rfl, h0⟩, hKr⟩
  case round =>
    obtain ⟨m, hm, rfl, ⟨pre, hpl, hpm, hJs⟩, hK⟩ := hrel
    obtain ⟨hcb, p, hp, hrd, hV⟩ := hread wr hK
    by_cases h0 : m = 0
    · subst h0
      rw [Nat.sub_zero] at hpm
      have HPM := Lib.hid hpm
      clear hpm hpl hV
      gi_wp2
      go_end0
      exact ⟨⟨_, rfl⟩, .inl ⟨_, HPM.out, hJs⟩⟩
    · obtain ⟨q, rfl⟩ : ∃ q, m = q + 1 := ⟨m - 1, by omega⟩
      have hq : q < p.length := by omega
      obtain ⟨b, o, rfl, hb, hcell⟩ := hrd.at hq
      have hc1 := hcell q hq
      have hv := hV q (by omega)
      rw [co_lt p q hq] at hv
      unfold vB at hc1
      generalize p[q] = y at hc1 hv
      obtain ⟨fn, tmps, assign, body, hy, hR⟩ := hY pre ⟨(q, y), by omega, hv⟩ wr hJs (by omega)
      unfold Bk.enc Bk.at Bk.val at hy
      dsimp only at hy
      have HPM : Hid ((pre ++ [(⟨(q, y), by omega, hv⟩ : Bk len V)]).map Bk.at = backN len (len - q)) := by
        unfold Hid
        rw [show len - q = (len - (q + 1)) + 1 by omega, back_succ, List.map_append, hpm, List.map_cons, List.map_nil]
        unfold Bk.at
        dsimp only
        rw [show len - 1 - (len - (q + 1)) = q by omega]
      have HPL : Hid ((pre ++ [(⟨(q, y), by omega, hv⟩ : Bk len V)]).length = len - q) := by
        unfold Hid
        rw [List.length_append, hpl, List.length_singleton]
        omega
      have e1 : ((q + 1 : Nat) : Int) - 1 = (q : Int) := by omega
      rw [e1]
      have i0 : (0 : Int) ≤ (q : Int) := by omega
      have i1 : (q : Int) < (len : Int) := by omega
      clear hpm hpl hV hcell hrd e1
      gi_wp2
      refine hR.mono ?_
      rintro e W3 (⟨rfl, hJ3, hk3⟩ | ⟨rfl, hJx3⟩)
      · gi_wp2
        go_roundw
        case rel => exact ⟨q, by omega, by go_num, ⟨_, HPL.out, HPM.out, hJ3⟩, hKt _ _ hK hk3⟩
        case measure => simp [intOf] <;> omega
      · gi_wp2
        refine bodyPost_ret (results_none rfl _ _ _) rfl ?_
        exact ⟨⟨_, rfl⟩, .inr ⟨_, ⟨len - q, by omega, HPM.out⟩, hJx3⟩⟩

/-- What 'slices.Backward(s)' hands back, as a loop's iterator. -/
theorem back_stops (F : Fence) (n : Nat) (h7 : F.fn 49) (hro : F.round = none) (hn : 1 ≤ n) (Bs len cap : Nat) (A : Option Addr) (V : Nat → UInt8 → Prop) (Kp : World → World → Prop) (hlen : len ≤ 140737488351232) (w : World)
    (hKr : ∀ W, Kp W W) (hKt : ∀ X Y Z, Kp X Y → Kp Y Z → Kp X Z) (hread : ∀ W, Below w.heap.size w W → ∀ W', Kp W W' → W'.cell? ⟨Bs, 0, none⟩ = some (.slice A len cap) ∧ ∃ p : List UInt8, p.length = len ∧ Rd vB W' A p ∧ ∀ j, j < len → V j (co p j)) :
    SeqStopsK F n Try.prog 49 #[.pointer (some ⟨Bs, 0, none⟩)] (Bk.enc (n := len) (V := V)) Kp backS backP len w := fun l J Jx W hW _ _ hY h0 =>
  back1_in F n h7 hro hn l Bs len cap A V Kp hlen J Jx hY W (hKr W) (fun X Y h k => hKt _ _ _ h k) (hread W hW) h0
end Go.Proofs.Ytankddeolpickaa
/-
  What the reference's calls Slope and Quo of layer 8 answer. No conditions but those typed.
-/
namespace Go.Proofs.Ytankddeolpickaa
set_option maxRecDepth 100000
open Go.RowKit
set_option linter.unusedSimpArgs false
set_option linter.unusedVariables false

def addN (x : UInt8) : Nat → UInt8
  | 0 => 0
  | n + 1 => xorB (addN x n) x
theorem addN_parity (x : UInt8) : ∀ n, addN x n = if n % 2 = 0 then 0 else x
  | 0 => rfl
  | n + 1 => by
    rw [addN, addN_parity x n]
    by_cases h : n % 2 = 0
    · rw [if_pos h, if_neg (by omega)]
      exact UInt8.zero_xor
    · rw [if_neg h, if_pos (by omega)]
      exact UInt8.xor_self
theorem slope_addN (p : List UInt8) (k : Nat) : co (slopeL p) k = addN (co p (k + 1)) (k + 1) := by
  rw [co_slope, addN_parity]
  by_cases h : k % 2 = 0
  · rw [if_pos h, if_neg (by omega)]
  · rw [if_neg h, if_pos (by omega)]
theorem slope_length (p : List UInt8) (k : Nat) (h : p.length ≤ k + 1) : co (slopeL p) k = 0 := by
  rw [co_slope, co_ge p (k + 1) h]
  split <;> rfl
theorem slope_tab (p : List UInt8) : plainL (tabL (co (slopeL p)) (p.length - 1)) = plainL (slopeL p) := plain_congr fun k => by
  rw [co_tab]
  split
  · rfl
  · rw [slope_length p k (by omega)]

end Go.Proofs.Ytankddeolpickaa
/-
  What the reference's call Quo of layer 8 answers. No conditions but those typed.
-/
namespace Go.Proofs.Ytankddeolpickaa
set_option maxRecDepth 100000
open Go.RowKit
set_option linter.unusedSimpArgs false
set_option linter.unusedVariables false

/-- What a division hands back: both plain. -/
def QuoRes (p q : List UInt8) (w : World) (e : Ending) (w' : World) : Prop :=
  ∃ (a r : List UInt8) (A B : Option Addr) (n m c d : Nat), e = .returned (.tuple #[.slice A n c, .slice B m d]) ∧ Hid (a.length = n) ∧ Hid (r.length = m) ∧ n ≤ c ∧ m ≤ d ∧ Rd vB w' A a ∧ Rd vB w' B r ∧ Below w.heap.size w w' ∧ Hid (IsQuo p q a r ∧ plainL a = a ∧ plainL r = r)
def DivRel (p q : List UInt8) (w : World) (u v : Value) (wr : World) : Prop :=
  ∃ (a l : List UInt8) (A B : Option Addr) (n m c d : Nat), u = .slice B m d ∧ v = .slice A n c ∧ Hid (a.length = n) ∧ Hid (l.length = m) ∧ n ≤ c ∧ m ≤ d ∧ n ≤ 50001 ∧ m ≤ 50000 ∧ Rd vB wr A a ∧ Rd vB wr B l ∧ Below w.heap.size w wr ∧ Hid (Eqv (addL (mulL a q) l) p ∧ plainL a = a ∧ plainL l = l)
theorem plain_mul_nil (q l : List UInt8) : Eqv (addL (mulL [] q) l) l := fun k => by
  rw [mulL, addL]
theorem quo_often_len (a : List UInt8) (n : Nat) (t : UInt8) : (plainL (addL a (shiftL n [t]))).length ≤ max a.length (n + 1) := by
  refine Nat.le_trans (plain_len _) ?_
  rw [addL_length, shift_length]
  exact Nat.le_refl _

theorem scale_one_shift (t : UInt8) (j : Nat) : shiftL j (scaleL t [1]) = shiftL j [t] := by
  rw [scaleL, List.map_cons, List.map_nil, mul_one]
end Go.Proofs.Ytankddeolpickaa
/-
  Layer 7: how the program reckons: products by doubling, powers by squaring. Plain.
-/
namespace Go.Proofs.Ytankddeolpickaa
set_option maxRecDepth 100000

/-! ### A product by doubling: the bits of the second one below j -/
def lowB (b : UInt8) (j : Nat) : UInt8 := UInt8.ofNat (b.toNat % 2 ^ j)
def dblB (a : UInt8) (j : Nat) : UInt8 := mulB a (powB 2 j)
theorem lowB_zero (b : UInt8) : lowB b 0 = 0 := by
  unfold lowB
  rw [Nat.pow_zero, Nat.mod_one]
  rfl
theorem lowB_eight (b : UInt8) : lowB b 8 = b := by
  have h : b.toNat % 2 ^ 8 = b.toNat := Nat.mod_eq_of_lt b.toNat_lt
  unfold lowB
  rw [h, UInt8.ofNat_toNat]
theorem low_table : ∀ j, j < 8 → ∀ n, n < 256 → UInt8.ofNat (n % 2 ^ (j + 1)) = addB (UInt8.ofNat (n % 2 ^ j)) (if n / 2 ^ j % 2 = 1 then powB 2 j else 0) := by decide +kernel
theorem low_step (b : UInt8) (j : Nat) (hj : j < 8) : lowB b (j + 1) = addB (lowB b j) (if b.toNat / 2 ^ j % 2 = 1 then powB 2 j else 0) :=
  low_table j hj b.toNat b.toNat_lt
theorem dbl_zero (a : UInt8) : dblB a 0 = a := mul_one a
theorem dbl_step (a : UInt8) (j : Nat) : mulB (dblB a j) 2 = dblB a (j + 1) := by
  unfold dblB
  rw [mul_assoc]
  rfl
theorem mul_step (a b : UInt8) (j : Nat) (hj : j < 8) : addB (mulB a (lowB b j)) (if b.toNat / 2 ^ j % 2 = 1 then dblB a j else 0) = mulB a (lowB b (j + 1)) := by
  rw [low_step b j hj, mul_add_right]
  congr 1
  split
  · rfl
  · rw [mul_zero]
theorem mul_start (a b : UInt8) : mulB a (lowB b 0) = 0 := by rw [lowB_zero, mul_zero]
theorem mul_end (a b : UInt8) : mulB a (lowB b 8) = mulB a b := by rw [lowB_eight]
/-- Twice an element. -/
theorem times_table : ∀ n, n < 256 → (mulB (UInt8.ofNat n) 2).toNat = (n * 2 % 256) ^^^ (n / 128 * 45) := by decide +kernel
theorem times_any (a : UInt8) : (mulB a 2).toNat = (a.toNat * 2 % 256) ^^^ (a.toNat / 128 * 45) := by
  have := times_table a.toNat a.toNat_lt
  rwa [UInt8.ofNat_toNat] at this

/-! ### A power by squaring -/
def sqB (a : UInt8) (j : Nat) : UInt8 := powB a (2 ^ j)
theorem sq_zero (a : UInt8) : sqB a 0 = a := by
  unfold sqB
  rw [Nat.pow_zero]
  show mulB 1 a = a
  exact one_mul a
theorem sq_step (a : UInt8) (j : Nat) : mulB (sqB a j) (sqB a j) = sqB a (j + 1) := by
  unfold sqB
  rw [← pow_add, Nat.pow_succ, Nat.mul_two]
theorem pow_start (a : UInt8) (r : Nat) : powB a (r % 2 ^ 0) = 1 := by rw [Nat.pow_zero, Nat.mod_one]; rfl
theorem pow_bit (a : UInt8) (r j : Nat) (h : r / 2 ^ j % 2 = 1) : mulB (powB a (r % 2 ^ j)) (sqB a j) = powB a (r % 2 ^ (j + 1)) := by
  unfold sqB
  rw [← pow_add, Nat.mod_pow_succ, h, Nat.mul_one]
theorem pow_none (a : UInt8) (r j : Nat) (h : ¬ r / 2 ^ j % 2 = 1) : powB a (r % 2 ^ j) = powB a (r % 2 ^ (j + 1)) := by
  have h0 : r / 2 ^ j % 2 = 0 := by omega
  rw [Nat.mod_pow_succ, h0, Nat.mul_zero, Nat.add_zero]
theorem pow_end (a : UInt8) (r : Nat) (h : r < 255) : powB a (r % 2 ^ 8) = powB a r := by rw [Nat.mod_eq_of_lt (by omega)]

/-! ### A logarithm by trying -/
theorem log_not (a : UInt8) (j : Nat) (ha : a ≠ 0) (hj : j < logB a) : powB 2 j ≠ a := by
  intro e
  have hl := log_lt a ha
  have := log_exp j (by omega)
  rw [e] at this
  omega
end Go.Proofs.Ytankddeolpickaa
/-
  What the program's calls of layer 7 answer, over the landed code: products by doubling, powers by squaring, logarithms by trying.
-/
namespace Go.Proofs.Ytankddeolpickaa
set_option maxRecDepth 100000
open Go.RowKit
set_option linter.unusedSimpArgs false
set_option linter.unusedVariables false

theorem gfadd_any (a b : UInt8) (w : World) : Calls Try.prog 16 #[.int .u8 (a.toNat : Int), .int .u8 (b.toNat : Int)] w fun e w' => e = .returned (.int .u8 ((addB a b).toNat : Int)) ∧ w = w' := by
  have hx := u8_xor_b a b
  have HE : Hid (addB a b = xorB a b) := rfl
  rw [HE.out]
  generalize xorB a b = z at hx
  go_enter Try.func16, Try.ntmps16
  go_wp2_with fail
  go_ret
  exact ⟨rfl, rfl⟩
theorem times_val (a : UInt8) : bits .xor .u8 ((a.toNat : Int) * 2 % 256) ((a.toNat : Int) / 128 * 45 % 256) = ((mulB a 2).toNat : Int) := by
  have h := a.toNat_lt
  have e1 : (a.toNat : Int) * 2 % 256 = ((a.toNat * 2 % 256 : Nat) : Int) := by omega
  have e2 : (a.toNat : Int) / 128 * 45 % 256 = ((a.toNat / 128 * 45 : Nat) : Int) := by omega
  rw [e1, e2, u8_xor_nat _ _ (by omega) (by omega), times_any]
theorem gftimes_any (a : UInt8) (w : World) : Calls Try.prog 44 #[.int .u8 (a.toNat : Int)] w fun e w' => e = .returned (.int .u8 ((mulB a 2).toNat : Int)) ∧ w = w' := by
  have hx := times_val a
  generalize (mulB a 2).toNat = z at hx ⊢
  go_enter Try.func44, Try.ntmps44
  go_wp2_with fail
  go_ret
  exact ⟨rfl, rfl⟩
theorem and_table : ∀ n : Nat, n < 256 → bits .and .u8 (n : Int) 1 = ((n % 2 : Nat) : Int) := by decide +kernel
theorem bit_val (b : UInt8) (j : Nat) : bits .and .u8 ((b.toNat : Int) / 2 ^ j) 1 = ((b.toNat / 2 ^ j % 2 : Nat) : Int) := by
  have e : (b.toNat : Int) / 2 ^ j = ((b.toNat / 2 ^ j : Nat) : Int) := by rw [Int.natCast_ediv, Int.natCast_pow]; rfl
  have h : b.toNat / 2 ^ j ≤ b.toNat := Nat.div_le_self _ _
  have h2 := b.toNat_lt
  rw [e, and_table _ (by omega)]
theorem mul_val (a b : UInt8) (j : Nat) (hj : j < 8) : bits .xor .u8 ((mulB a (lowB b j)).toNat : Int) (((dblB a j).toNat : Int) * bits .and .u8 ((b.toNat : Int) / 2 ^ j) 1 % 256) = ((mulB a (lowB b (j + 1))).toNat : Int) := by
  rw [bit_val, ← mul_step a b j hj]
  have e : ((dblB a j).toNat : Int) * ((b.toNat / 2 ^ j % 2 : Nat) : Int) % 256 = ((if b.toNat / 2 ^ j % 2 = 1 then dblB a j else 0 : UInt8).toNat : Int) := by
    have h := (dblB a j).toNat_lt
    by_cases hb : b.toNat / 2 ^ j % 2 = 1
    · rw [if_pos hb, hb]; omega
    · rw [if_neg hb, show b.toNat / 2 ^ j % 2 = 0 by omega]; show _ = ((0 : Nat) : Int); omega
  rw [e, u8_xor_b]
  rfl
set_option maxRecDepth 100000 in
theorem gfmul_any (a b : UInt8) (w : World) : Calls Try.prog 33 #[.int .u8 (a.toNat : Int), .int .u8 (b.toNat : Int)] w fun e w' => e = .returned (.int .u8 ((mulB a b).toNat : Int)) ∧ w = w' := by
  have HD : Hid (dblB a 0 = a) := dbl_zero a
  have HM : Hid (mulB a (lowB b 0) = 0) := mul_start a b
  have HE : Hid (mulB a (lowB b 8) = mulB a b) := mul_end a b
  go_enter Try.func33, Try.ntmps33
  go_wp2_with fail
  go_loop [0, 5, 7] (fun x p i => ∃ j : Nat, j ≤ 8 ∧ i = .int .i64 (j : Int) ∧ x = .int .u8 ((dblB a j).toNat : Int) ∧ p = .int .u8 ((mulB a (lowB b j)).toNat : Int)) (fun _ _ i => 8 - (intOf i).toNat)
  case atStart => exact ⟨0, by omega, rfl, by rw [HD.out], by rw [HM.out]; rfl⟩
  case round =>
    obtain ⟨j, hj, rfl, rfl, rfl⟩ := hrel
    by_cases hlt : j < 8
    · have i1 : (j : Int) < 8 := by omega
      have i0 : (0 : Int) ≤ (j : Int) := by omega
      have HT : Hid (mulB (dblB a j) 2 = dblB a (j + 1)) := dbl_step a j
      have hv := mul_val a b j hlt
      generalize hx : dblB a j = x at HT hv ⊢
      have HX := Lib.hid hx
      generalize hp : mulB a (lowB b j) = p at hv ⊢
      have HP := Lib.hid hp
      generalize hq : mulB a (lowB b (j + 1)) = q at hv
      have HQ := Lib.hid hq
      clear hx hp hq
      go_wp2_with fail
      refine (gftimes_any x _).mono ?_
      rintro e w' ⟨rfl, rfl⟩
      rw [HT.out]
      generalize hy : dblB a (j + 1) = y
      have HY := Lib.hid hy
      clear hy
      go_wp2_with fail
      go_round
      case rel => exact ⟨j + 1, by omega, by go_num, by rw [HY.out], by rw [HQ.out]⟩
      case measure => simp [intOf]; omega
    · have hj8 : j = 8 := by omega
      subst hj8
      rw [HE.out]
      generalize hp : mulB a b = p
      have HP := Lib.hid hp
      clear hp
      go_wp2_with fail
      go_ret
      exact ⟨ret_int (by rw [HP.out]), rfl⟩

theorem gfreckon_any (n : Int) (r : Nat) (w : World) (hr : (r : Int) = n % 255) : Calls Try.prog 51 #[.int .i64 n] w fun e w' => e = .returned (.int .i64 (r : Int)) ∧ w = w' := by
  have h1 : (n.tmod 255 + 255).tmod 255 = (r : Int) := by
    rw [Int.tmod_eq_emod, Int.tmod_eq_emod]
    split <;> split <;> omega
  have h2 : -255 < n.tmod 255 ∧ n.tmod 255 < 255 := by
    rw [Int.tmod_eq_emod]
    split <;> omega
  have h3 : wrap64 (n.tmod 255 + 255) = n.tmod 255 + 255 := by
    unfold wrap64
    omega
  clear hr h2
  go_enter Try.func51, Try.ntmps51
  go_wp2_with fail
  rw [h3]
  go_ret
  exact ⟨rfl, rfl⟩
theorem gfnone_zero (w : World) : Calls Try.prog 50 #[.int .i64 0] w fun e w' => e = .returned (.int .u8 1) ∧ w = w' := by
  go_enter Try.func50, Try.ntmps50
  go_wp2_with fail
  go_ret
  exact ⟨rfl, rfl⟩
theorem gfnone_any (n : Int) (w : World) (hn : n ≠ 0) : Calls Try.prog 50 #[.int .i64 n] w fun e w' => e = .returned (.int .u8 0) ∧ w = w' := by
  have z : (n == 0) = false := beq_eq_false_iff_ne.2 hn
  clear hn
  go_enter Try.func50, Try.ntmps50
  go_wp2_with fail
  go_ret
  exact ⟨rfl, rfl⟩
theorem i64_bit (r j : Nat) (hr : r < 256) : bits .and .i64 ((r : Int) / 2 ^ j) 1 = ((r / 2 ^ j % 2 : Nat) : Int) := by
  have e : (r : Int) / 2 ^ j = ((r / 2 ^ j : Nat) : Int) := by rw [Int.natCast_ediv, Int.natCast_pow]; rfl
  have h : r / 2 ^ j ≤ r := Nat.div_le_self _ _
  have t : ∀ n : Nat, n < 256 → bits .and .i64 (n : Int) 1 = ((n % 2 : Nat) : Int) := by decide +kernel
  rw [e, t _ (by omega)]
set_option maxRecDepth 100000 in
theorem gfpow_any (a : UInt8) (n : Int) (w : World) : Calls Try.prog 43 #[.int .u8 (a.toNat : Int), .int .i64 n] w fun e w' => e = .returned (.int .u8 ((powZ a n).toNat : Int)) ∧ w = w' := by
  by_cases ha : a = 0
  · subst ha
    by_cases hn : n = 0
    · subst hn
      have HE : Hid (powZ 0 0 = 1) := rfl
      rw [HE.out]
      go_enter Try.func43, Try.ntmps43
      go_wp2_with fail
      refine (gfnone_zero _).mono ?_
      rintro e w' ⟨rfl, rfl⟩
      go_wp2_with fail
      go_ret
      exact ⟨rfl, rfl⟩
    · have HE : Hid (powZ 0 n = 0) := by unfold Hid powZ; rw [if_pos rfl, if_neg hn]
      rw [HE.out]
      have HN := Lib.hid hn
      clear hn
      go_enter Try.func43, Try.ntmps43
      go_wp2_with fail
      refine (gfnone_any n _ HN.out).mono ?_
      rintro e w' ⟨rfl, rfl⟩
      go_wp2_with fail
      go_ret
      exact ⟨rfl, rfl⟩
  · obtain ⟨r, hr⟩ : ∃ r : Nat, r = (n % 255).toNat := ⟨_, rfl⟩
    have hr1 : (r : Int) = n % 255 := by omega
    have hr2 : r < 255 := by omega
    have HE : Hid (powZ a n = powB a r) := by unfold Hid powZ; rw [if_neg ha, hr]
    rw [HE.out]
    have hne : a.toNat ≠ 0 := fun e => ha (UInt8.toNat_inj.1 e)
    have z1 : ((a.toNat : Int) == 0) = false := beq_eq_false_iff_ne.2 (fun h => hne (by omega))
    have HR := Lib.hid hr1
    have HR2 := Lib.hid hr2
    have HS : Hid (powB a (r % 2 ^ 0) = 1) := pow_start a r
    have HQ0 : Hid (sqB a 0 = a) := sq_zero a
    have HF : Hid (powB a (r % 2 ^ 8) = powB a r) := pow_end a r hr2
    clear ha hne hr hr1 hr2
    go_enter Try.func43, Try.ntmps43
    go_wp2_with fail
    refine (gfreckon_any n r _ HR.out).mono ?_
    rintro e w' ⟨rfl, rfl⟩
    go_wp2_with fail
    go_loop [0, 5, 13] (fun x p i => ∃ j : Nat, j ≤ 8 ∧ i = .int .i64 (j : Int) ∧ x = .int .u8 ((sqB a j).toNat : Int) ∧ p = .int .u8 ((powB a (r % 2 ^ j)).toNat : Int)) (fun _ _ i => 8 - (intOf i).toNat)
    case atStart => exact ⟨0, by omega, rfl, by rw [HQ0.out], by rw [HS.out]; rfl⟩
    case round =>
      obtain ⟨j, hj, rfl, rfl, rfl⟩ := hrel
      have hr2 := HR2.out
      by_cases hlt : j < 8
      · have i1 : (j : Int) < 8 := by omega
        have i0 : (0 : Int) ≤ (j : Int) := by omega
        have HT : Hid (mulB (sqB a j) (sqB a j) = sqB a (j + 1)) := sq_step a j
        have hb := i64_bit r j (by omega)
        by_cases hbit : r / 2 ^ j % 2 = 1
        · have HB : Hid (mulB (powB a (r % 2 ^ j)) (sqB a j) = powB a (r % 2 ^ (j + 1))) := pow_bit a r j hbit
          rw [hbit] at hb
          generalize sqB a j = x at HT HB ⊢
          generalize powB a (r % 2 ^ j) = p at HB ⊢
          clear hbit
          go_wp2_with fail
          refine (gfmul_any p x _).mono ?_
          rintro e w' ⟨rfl, rfl⟩
          rw [HB.out]
          generalize hq : powB a (r % 2 ^ (j + 1)) = q
          have HQ := Lib.hid hq
          clear hq
          go_wp2_with fail
          refine (gfmul_any x x _).mono ?_
          rintro e w' ⟨rfl, rfl⟩
          rw [HT.out]
          generalize hy : sqB a (j + 1) = y
          have HY := Lib.hid hy
          clear hy
          go_wp2_with fail
          go_round
          case rel => exact ⟨j + 1, by omega, by go_num, by rw [HY.out], by rw [HQ.out]⟩
          case measure => simp [intOf]; omega
        · have HB : Hid (powB a (r % 2 ^ j) = powB a (r % 2 ^ (j + 1))) := pow_none a r j hbit
          rw [show r / 2 ^ j % 2 = 0 by omega] at hb
          generalize sqB a j = x at HT ⊢
          generalize powB a (r % 2 ^ j) = p at HB ⊢
          clear hbit
          go_wp2_with fail
          refine (gfmul_any x x _).mono ?_
          rintro e w' ⟨rfl, rfl⟩
          rw [HT.out]
          generalize hy : sqB a (j + 1) = y
          have HY := Lib.hid hy
          clear hy
          go_wp2_with fail
          go_round
          case rel => exact ⟨j + 1, by omega, by go_num, by rw [HY.out], by rw [HB.out]⟩
          case measure => simp [intOf]; omega
      · have hj8 : j = 8 := by omega
        subst hj8
        rw [HF.out]
        generalize hp : powB a r = p
        have HP := Lib.hid hp
        clear hp
        go_wp2_with fail
        go_ret
        exact ⟨ret_int (by rw [HP.out]), rfl⟩
theorem gfexp_any (n : Int) (w : World) : Calls Try.prog 30 #[.int .i64 n] w fun e w' => e = .returned (.int .u8 ((powZ 2 n).toNat : Int)) ∧ w = w' := by
  go_enter Try.func30, Try.ntmps30
  go_wp2_with fail
  refine (gfpow_any 2 n _).mono ?_
  rintro e w' ⟨rfl, rfl⟩
  go_wp2_with fail
  go_ret
  exact ⟨rfl, rfl⟩
theorem gfinv_zero (w : World) : Calls Try.prog 31 #[.int .u8 0] w fun e w' => e = .returned (.tuple #[.int .u8 0, .int .i64 1]) ∧ w = w' := by
  go_enter Try.func31, Try.ntmps31
  go_wp2_with fail
  go_ret2
  exact ⟨rfl, rfl⟩
theorem gfinv_any (a : UInt8) (w : World) (ha : a ≠ 0) : Calls Try.prog 31 #[.int .u8 (a.toNat : Int)] w fun e w' => e = .returned (.tuple #[.int .u8 ((invB a).toNat : Int), .int .i64 0]) ∧ w = w' := by
  have hne : a.toNat ≠ 0 := fun e => ha (UInt8.toNat_inj.1 e)
  have z1 : ((a.toNat : Int) == 0) = false := beq_eq_false_iff_ne.2 (fun h => hne (by omega))
  have HI : Hid (powZ a (-1) = invB a) := by unfold Hid powZ; rw [if_neg ha]; rfl
  clear ha hne
  go_enter Try.func31, Try.ntmps31
  go_wp2_with fail
  refine (gfpow_any a (-1) _).mono ?_
  rintro e w' ⟨rfl, rfl⟩
  rw [HI.out]
  go_wp2_with fail
  go_ret2
  exact ⟨rfl, rfl⟩
theorem ex_inv : mulB (invB 2) 2 = 1 := by rw [mul_comm]; exact mul_inv 2 (by decide)
theorem ex_log : logB 45 = 8 := by decide +kernel
theorem ex_mul : mulB 128 2 = 45 := by decide +kernel
theorem ex_add : addB 5 3 = 6 := by decide +kernel
theorem ex_exp : powZ 2 8 = 45 := by decide +kernel
theorem ex_pow : powZ 0 0 = 1 := rfl
end Go.Proofs.Ytankddeolpickaa
