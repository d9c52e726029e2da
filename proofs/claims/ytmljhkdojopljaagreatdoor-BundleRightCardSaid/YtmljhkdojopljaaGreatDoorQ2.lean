/-
  A region that draws its order, whose operations read, or make memory and write nothing that was there: one plan serves every order (no program is named here). Conditions: the plan is one that the region's edges allow (a Bool, reckoned), each operation that reads yields one value in every later world, and an operation that makes memory comes up alone.
-/
import Derived.Test.YtmljhkdojopljaaGreatDoorQ1
import Derived.OrdersHeld
import Derived.Deep.RegionHeld3
import Derived.OwnWalk
import Derived.Deep.MidRow
import Derived.Laws.CopyOwn
import Derived.Lib.SliceRun
import Derived.Laws.ResultCell
import Derived.RangeFuncBox
import Derived.Test.YtmljhkdojopljaaGreatDoorRows
import Derived.WalkKit
import Derived.WalkSpells
import Derived.Lib.Hide
import Derived.LoopTactic
import Derived.LoopN
import Derived.Lib.AppendZeros
namespace Go.Proofs.YtmljhkdojopljaaGreatDoor
set_option maxRecDepth 100000
open Go.RowKit

section
variable {P : Program} {ops : Array Oper} {Q : Exit → Act → World → Prop}

theorem held_weaken {md : Region.Mode} {S T : World → Prop} (h : ∀ w, T w → S w) : ∀ (fuel : Nat) (listed : Array Bool) (a : Act) (w : World), wpAnyH P md ops Q T fuel listed a w → wpAnyH P md ops Q S fuel listed a w
  | 0, _, _, _, k => k
  | fuel + 1, _, _, _, k => ⟨k.1, fun i hi => wpOp_mono (fun a' w' k' => ⟨h _ k'.1, held_weaken h fuel _ a' w' k'.2⟩) (k.2 i hi)⟩

/-- A plan: the operations' numbers, and of each whether it makes memory (it must then be the only one that may come up); a fork: two that make memory may come up, each with a plan of its own behind it. -/
inductive Plan where
  | nil
  | step (i : Nat) (g : Bool) (rest : Plan)
  | fork (i : Nat) (p : Plan) (j : Nat) (q : Plan)
def Plan.size : Plan → Nat
  | .nil => 0
  | .step _ _ rest => rest.size + 1
  | .fork _ p _ _ => p.size + 1
def planOK (ops : Array Oper) : Plan → Array Bool → Bool
  | .nil, listed => (Region.ready .any ops listed).isEmpty
  | .step i g rest, listed => (if g then Region.ready .any ops listed == [i] else Region.free .any ops listed i && (Region.ready .any ops listed).contains i) && planOK ops rest (listed.setIfInBounds i true)
  | .fork i p j q, listed => Region.ready .any ops listed == [i, j] && (q.size == p.size && (planOK ops p (listed.setIfInBounds i true) && planOK ops q (listed.setIfInBounds j true)))

/-- S: what the operations that read lean on; each operation that makes memory must show it anew, and may give more of it. -/
def wpPlan (P : Program) (ops : Array Oper) (Q : Exit → Act → World → Prop) : Plan → (World → Prop) → Act → World → Prop
  | .nil, _, a, w => Q .normal a w
  | .step i g rest, S, a, w => ∃ o, ops[i]? = some o ∧
      ((Region.wanted o (yielded ops a.tmps) = false ∧ wpPlan P ops Q rest S (a.put o.dst undef) w) ∨
       (Region.wanted o (yielded ops a.tmps) = true ∧ g = false ∧ ∃ v, (∀ W, S W → (execOp a.eval o).run P W = .ok (.value v) W) ∧ wpPlan P ops Q rest S (a.put o.dst v) w) ∨
       (Region.wanted o (yielded ops a.tmps) = true ∧ g = true ∧ o.wp P a w (fun a' w' => ∃ T : World → Prop, (∀ W, T W → S W) ∧ T w' ∧ wpPlan P ops Q rest T a' w') Q))
  | .fork i p j q, S, a, w =>
      wpOp P ops Q i (fun a' w' => ∃ T : World → Prop, (∀ W, T W → S W) ∧ T w' ∧ wpPlan P ops Q p T a' w') a w ∧
      wpOp P ops Q j (fun a' w' => ∃ T : World → Prop, (∀ W, T W → S W) ∧ T w' ∧ wpPlan P ops Q q T a' w') a w

theorem wpPlan_held (hs : Region.noSelect ops = true) (hQ : ∀ c a w d v, Q (.panic c) (Act.put a d v) w → Q (.panic c) a w) :
    ∀ (plan : Plan) (S : World → Prop) (listed : Array Bool) (a : Act) (w : World), S w → planOK ops plan listed = true → wpPlan P ops Q plan S a w → wpAnyH P .any ops Q S plan.size listed a w
  | .nil, _, listed, a, w, _, hp, h => wpAnyH_done (by simpa [planOK] using hp) h _
  | .step i g rest, S, listed, a, w, hS, hp, h => by
    obtain ⟨o, ho, h⟩ := h
    simp only [planOK, Bool.and_eq_true] at hp
    obtain ⟨hp1, hp2⟩ := hp
    have take : ∀ v, g = false → YieldsIf P ops S o v a → wpPlan P ops Q rest S (a.put o.dst v) w → wpAnyH P .any ops Q S (rest.size + 1) listed a w := by
      intro v hg hy hr
      subst hg
      simp only [Bool.false_eq_true, if_false, Bool.and_eq_true] at hp1
      exact wpAnyH_take ho hs hp1.1 hp1.2 (fun c a w h => hQ c a w _ _ h) hy hS (wpPlan_held hs hQ rest S _ _ w hS hp2 hr)
    have alone : g = true → wpOp P ops Q i (fun a' w' => ∃ T : World → Prop, (∀ W, T W → S W) ∧ T w' ∧ wpPlan P ops Q rest T a' w') a w → wpAnyH P .any ops Q S (rest.size + 1) listed a w := by
      intro hg hop
      subst hg
      simp only [if_true] at hp1
      refine wpAnyH_all (rs := [i]) (eq_of_beq hp1) (by simp) (fun j hj => ?_)
      simp only [List.mem_singleton] at hj
      subst hj
      refine wpOp_mono (fun a' w' k => ?_) hop
      obtain ⟨T, hT, hTw, k⟩ := k
      exact ⟨hT _ hTw, held_weaken hT _ _ _ _ (wpPlan_held hs hQ rest T _ a' w' hTw hp2 k)⟩
    rcases h with ⟨hw, hr⟩ | ⟨hw, hg, v, hv, hr⟩ | ⟨hw, hg, hop⟩
    · cases g with
      | false => exact take undef rfl (.inr ⟨hw, rfl⟩) hr
      | true =>
        refine alone rfl ?_
        unfold wpOp
        simp only [ho, hw, Bool.false_eq_true, if_false]
        exact ⟨S, fun _ h => h, hS, hr⟩
    · exact take v hg (.inl ⟨hw, hv⟩) hr
    · refine alone hg ?_
      unfold wpOp
      simp only [ho, hw, if_true]
      exact .inl hop
  | .fork i p j q, S, listed, a, w, hS, hp, h => by
    simp only [planOK, Bool.and_eq_true] at hp
    obtain ⟨hp1, hp2, hp3, hp4⟩ := hp
    refine wpAnyH_all (rs := [i, j]) (eq_of_beq hp1) (by simp) (fun k hk => ?_)
    simp only [List.mem_cons, List.not_mem_nil, or_false] at hk
    rcases hk with rfl | rfl
    · refine wpOp_mono (fun a' w' k => ?_) h.1
      obtain ⟨T, hT, hTw, k⟩ := k
      exact ⟨hT _ hTw, held_weaken hT _ _ _ _ (wpPlan_held hs hQ p T _ a' w' hTw hp3 k)⟩
    · refine wpOp_mono (fun a' w' k => ?_) h.2
      obtain ⟨T, hT, hTw, k⟩ := k
      have := wpPlan_held hs hQ q T _ a' w' hTw hp4 k
      rw [eq_of_beq hp2] at this
      exact ⟨hT _ hTw, held_weaken hT _ _ _ _ this⟩

/-- The beginning, at a condition of one's own. -/
theorem wp_region_plan_of (S : World → Prop) (plan : Plan) {id : Nat} {a : Act} {w : World} (hS : S w.drew) (hm : P.follows .mixedOrders = true) (hs : Region.noSelect ops = true) (hlen : plan.size = ops.size) (hp : planOK ops plan (Array.replicate ops.size false) = true)
    (h : wpPlan P ops (NoPanic Q) plan S a w.drew) : (Code.region id ops true).wp P Q a w := by
  refine wp_region_noPanic (wp_region_held_drew (S := S) hm hS (fun _ => ?_))
  have := wpPlan_held hs (fun _ _ _ _ _ h => h) plan S _ a w.drew hS hp h
  rw [hlen] at this
  exact this
/-- The beginning, at all that is there. -/
theorem wp_region_plan (plan : Plan) {id : Nat} {a : Act} {w : World} (hm : P.follows .mixedOrders = true) (hs : Region.noSelect ops = true) (hlen : plan.size = ops.size) (hp : planOK ops plan (Array.replicate ops.size false) = true)
    (h : wpPlan P ops (NoPanic Q) plan (fun W => Below w.drew.heap.size w.drew W) a w.drew) : (Code.region id ops true).wp P Q a w := wp_region_plan_of _ plan (Below.refl _ _) hm hs hlen hp h
/-- The beginning, at what lies below block number B. -/
theorem wp_region_plan_at (B : Nat) (plan : Plan) {id : Nat} {a : Act} {w : World} (hm : P.follows .mixedOrders = true) (hs : Region.noSelect ops = true) (hlen : plan.size = ops.size) (hp : planOK ops plan (Array.replicate ops.size false) = true)
    (h : wpPlan P ops (NoPanic Q) plan (fun W => Below B w.drew W) a w.drew) : (Code.region id ops true).wp P Q a w := wp_region_plan_of _ plan (Below.refl _ _) hm hs hlen hp h

theorem plan_skip {i : Nat} {g : Bool} {rest : Plan} {S : World → Prop} {o : Oper} {a : Act} {w : World} (ho : ops[i]? = some o) (hw : Region.wanted o (yielded ops a.tmps) = false)
    (h : wpPlan P ops Q rest S (a.put o.dst undef) w) : wpPlan P ops Q (.step i g rest) S a w := ⟨o, ho, .inl ⟨hw, h⟩⟩
theorem plan_read {i : Nat} {rest : Plan} {S : World → Prop} {o : Oper} {a : Act} {w : World} {v : Value} (ho : ops[i]? = some o) (hw : Region.wanted o (yielded ops a.tmps) = true)
    (hv : ∀ W, S W → (execOp a.eval o).run P W = .ok (.value v) W) (h : wpPlan P ops Q rest S (a.put o.dst v) w) : wpPlan P ops Q (.step i false rest) S a w := ⟨o, ho, .inr (.inl ⟨hw, rfl, v, hv, h⟩)⟩
/-- Behind it all that is there counts. -/
theorem plan_make {i : Nat} {rest : Plan} {o : Oper} {a : Act} {w : World} (ho : ops[i]? = some o) (hw : Region.wanted o (yielded ops a.tmps) = true)
    (h : ∀ K : Act → World → Prop, Shut (∀ a' w', Below w.heap.size w w' → wpPlan P ops Q rest (fun W => Below w'.heap.size w' W) a' w' → K a' w') → o.wp P a w K Q) : wpPlan P ops Q (.step i true rest) (fun W => Below w.heap.size w W) a w :=
  ⟨o, ho, .inr (.inr ⟨hw, rfl, h _ (fun _ _ hb hr => ⟨_, fun _ hW => below_step hb hW, Below.refl _ _, hr⟩)⟩)⟩
/-- B stays. -/
theorem plan_make_at {i : Nat} {rest : Plan} {B : Nat} {o : Oper} {a : Act} {w : World} (ho : ops[i]? = some o) (hw : Region.wanted o (yielded ops a.tmps) = true)
    (h : ∀ K : Act → World → Prop, Shut (∀ a' w', Below B w w' → wpPlan P ops Q rest (fun W => Below B w' W) a' w' → K a' w') → o.wp P a w K Q) : wpPlan P ops Q (.step i true rest) (fun W => Below B w W) a w :=
  ⟨o, ho, .inr (.inr ⟨hw, rfl, h _ (fun _ _ hb hr => ⟨_, fun _ hW => hb.trans hW, Below.refl _ _, hr⟩)⟩)⟩
/-- S stays. -/
theorem plan_make_of {i : Nat} {rest : Plan} {S : World → Prop} {o : Oper} {a : Act} {w : World} (ho : ops[i]? = some o) (hw : Region.wanted o (yielded ops a.tmps) = true)
    (h : ∀ K : Act → World → Prop, Shut (∀ a' w', S w' → wpPlan P ops Q rest S a' w' → K a' w') → o.wp P a w K Q) : wpPlan P ops Q (.step i true rest) S a w :=
  ⟨o, ho, .inr (.inr ⟨hw, rfl, h _ (fun _ _ hb hr => ⟨S, fun _ hW => hW, hb, hr⟩)⟩)⟩
/-- Two that make memory may come up: each goes by itself, S stays. -/
theorem plan_fork {i j : Nat} {p q : Plan} {S : World → Prop} {o u : Oper} {a : Act} {w : World} (ho : ops[i]? = some o) (hu : ops[j]? = some u) (hw : Region.wanted o (yielded ops a.tmps) = true) (hx : Region.wanted u (yielded ops a.tmps) = true)
    (h : ∀ K : Act → World → Prop, Shut (∀ a' w', S w' → wpPlan P ops Q p S a' w' → K a' w') → o.wp P a w K Q) (k : ∀ K : Act → World → Prop, Shut (∀ a' w', S w' → wpPlan P ops Q q S a' w' → K a' w') → u.wp P a w K Q) : wpPlan P ops Q (.fork i p j q) S a w := by
  constructor
  · unfold wpOp
    simp only [ho, hw, if_true]
    exact .inl (h _ (fun _ _ hb hr => ⟨S, fun _ hW => hW, hb, hr⟩))
  · unfold wpOp
    simp only [hu, hx, if_true]
    exact .inl (k _ (fun _ _ hb hr => ⟨S, fun _ hW => hW, hb, hr⟩))
theorem plan_done {S : World → Prop} {a : Act} {w : World} (h : Q .normal a w) : wpPlan P ops (NoPanic Q) .nil S a w := h
end

/-! ### append onto a row of the call's own: what the row held is still there, where it was -/
section
variable {P : Program} (w : World)
theorem run_append_keep (base : Nat) (t ty e : TypeId) (i : TypeInfo) (z : Value) (bytes : Nat) (ht : P.underlying t = some (.slice e)) (hi : P.info? e = some i) (hz : i.zero = some z)
    (hsize : i.size = 1) (hby : i.bytes = bytes) (hzs : z.cells.size = 1) (v : Value) (n : Nat) (xs : List Value) (hown : w.ownsRow base e 1 v n xs)
    (a : Addr) (m c : Nat) (news : List Value) (hl : news.length = m * 1) (hnews : ∀ j u, news[j]? = some u → w.cell? (a.add j) = some u) (h1 : ∀ u ∈ news, u.oneCell' = true)
    (h63 : n + m ≤ maxLen) (hbytes : (n + m) * bytes ≤ 140737488355328) (hbase : base ≤ w.heap.size) :
    ∃ v' w', (Builtin.append_ #[t, t] ty #[v, .slice (some a) m c]).run P w = .ok v' w' ∧ w'.ownsRow base e 1 v' (n + m) (xs ++ news) ∧ w.grownBy w' v.ownBlock ∧
      ∀ g, v.ownBlock = some g → ∀ j u, xs[j]? = some u → w'.cell? ⟨g, j, none⟩ = some u := by
  obtain ⟨v', w', hrun, hown', hgrow, _⟩ := run_append_own (P := P) w base t ty e i z 1 bytes ht hi hz hsize hby hzs (by omega) v n xs hown a m c news hl hnews h1 h63 hbytes hbase
  refine ⟨v', w', hrun, hown', hgrow, fun g hg j u hu => ?_⟩
  have hj : j < xs.length := by
    rcases Nat.lt_or_ge j xs.length with h | h
    · exact h
    · rw [List.getElem?_eq_none h] at hu; cases hu
  have hadd : (⟨g, 0, none⟩ : Addr).add j = ⟨g, j, none⟩ := by unfold Addr.add; split <;> simp_all
  rcases hown.2 with ⟨rfl, _⟩ | ⟨g', cap, cur, rfl, hbg, hgg, hnc, hcm, hcs, htake⟩
  · simp [Value.ownBlock] at hg
  · simp [Value.ownBlock] at hg
    subst hg
    have hold := hown.cells (g := g') rfl j u hu
    rw [hadd] at hold
    have hsmall : n + m ≤ 9223372036854775807 := by simp only [maxLen] at h63; omega
    by_cases hroom : n + m ≤ cap
    · have hr := run_append_room (P := P) w t ty e i ht hi g' n cap cur hgg a m c news (by rw [hsize]; exact hl) hnews h1 hroom (by rw [hsize, hl, hcs]; omega)
      rw [hrun] at hr
      injection hr with hv _
      subst hv
      have := hown'.cells (g := g') rfl j u (by rw [List.getElem?_append_left hj]; exact hu)
      rwa [hadd] at this
    · subst hby
      have holds : ∀ j u, xs[j]? = some u → w.cell? ((⟨g', 0, none⟩ : Addr).add j) = some u := hown.cells (g := g') rfl
      have hr := run_append_grow (P := P) w t ty e i z ht hi hz ⟨g', 0, none⟩ n cap xs (by rw [hsize]; exact hown.1) holds a m c news (by rw [hsize]; exact hl) hnews (by omega) (by omega) (growslice_fits (by omega) hbytes)
      rw [hrun] at hr
      injection hr with _ hw
      subst hw
      rw [World.cell?_alloc_lt w.drew _ ⟨g', j, none⟩ (World.block_lt_of_cell? w _ hold)]
      exact hold

theorem wp_append_keep {o : Oper} {a : Act} {K : Act → World → Prop} {Q : Exit → Act → World → Prop} (s x : Operand) (t : TypeId)
    (ho : o.op = .call { callee := .builtin .append, args := #[s, x], argTypes := #[t, t] })
    (base : Nat) (e : TypeId) (i : TypeInfo) (z : Value) (bytes : Nat) (ht : P.underlying t = some (.slice e)) (hi : P.info? e = some i) (hz : i.zero = some z)
    (hsize : i.size = 1) (hby : i.bytes = bytes) (hzs : z.cells.size = 1) (v : Value) (n : Nat) (xs : List Value) (hs : a.eval s = v) (hown : w.ownsRow base e 1 v n xs)
    (ad : Addr) (m c : Nat) (news : List Value) (hx : a.eval x = .slice (some ad) m c) (hl : news.length = m * 1) (hnews : ∀ j u, news[j]? = some u → w.cell? (ad.add j) = some u) (h1 : ∀ u ∈ news, u.oneCell' = true)
    (h63 : n + m ≤ maxLen) (hbytes : (n + m) * bytes ≤ 140737488355328) (hbase : base ≤ w.heap.size)
    (h : ∀ v' w', w'.ownsRow base e 1 v' (n + m) (xs ++ news) → w.grownBy w' v.ownBlock → (∀ g, v.ownBlock = some g → ∀ j u, xs[j]? = some u → w'.cell? ⟨g, j, none⟩ = some u) → K (a.put o.dst v') w') : o.wp P a w K Q := by
  obtain ⟨v', w', hr, h2, h3, h4⟩ := run_append_keep (P := P) w base t o.type e i z bytes ht hi hz hsize hby hzs v n xs hown ad m c news hl hnews h1 h63 hbytes hbase
  unfold Oper.wp execOp
  simp only [ho, resolve, invoke, builtin, Sem.run_bind, Sem.run_pure, Result.andThen_ok, List.map_toArray, List.map_cons, List.map_nil, hs, hx, hr]
  exact h v' w' h2 h3 h4
end

end Go.Proofs.YtmljhkdojopljaaGreatDoor
/-
  A block of memory known whole: its cells read, one of them set, all of them set, a slice copied into it; a world given a name (no program is named here). No conditions but those typed.
-/
namespace Go.Proofs.YtmljhkdojopljaaGreatDoor
set_option maxRecDepth 100000
open Go.RowKit

/-- A name for a world, and what is known of it. -/
theorem at_world {Q : World → Prop} {v : World} (F : World → Prop) (hF : F v) (h : ∀ W, F W → Q W) : Q v := h v hF

/-- Block g holds just these cells. -/
def Row (w : World) (g : Nat) (t : TypeId) (l : List Value) : Prop := w.heap[g]? = some (.cells l.toArray t (0, 0))

section
variable {w w' : World} {g : Nat} {t : TypeId} {l : List Value}
theorem Row.lt (h : Row w g t l) : g < w.heap.size := (Array.getElem?_eq_some_iff.1 h).1
theorem Row.cell? (h : Row w g t l) (i : Nat) : w.cell? ⟨g, i, none⟩ = l[i]? := by
  rw [cell_of_row w g i _ t (0, 0) h]
  simp
theorem Row.cell (h : Row w g t l) {i : Nat} {v : Value} (hi : l[i]? = some v) : w.cell? ⟨g, i, none⟩ = some v := (h.cell? i).trans hi
theorem Row.keep {B : Nat} (h : Row w g t l) (hb : Below B w w') (hg : g < B) : Row w' g t l := (hb.block g hg).trans h
theorem Row.later (h : Row w g t l) (hb : Below w.heap.size w w') : Row w' g t l := h.keep hb h.lt
theorem Row.drew (h : Row w g t l) : Row w.drew g t l := h
theorem Row.drewN (h : Row w g t l) (n : Nat) : Row (w.drewN n) g t l := h
theorem Row.alloc (h : Row w g t l) (o : Obj) : Row (w.alloc o) g t l := (Below.heap_alloc w o g h.lt).trans h
theorem Row.new (w : World) (t : TypeId) (l : List Value) (cs : Array Value) (h : cs = l.toArray) : Row (w.alloc (.cells cs t)) w.heap.size t l := by subst h; exact heap_alloc_new w _
theorem Row.new_at (w : World) (g : Nat) (hg : g = w.heap.size) (t : TypeId) (l : List Value) (cs : Array Value) (h : cs = l.toArray) : Row (w.alloc (.cells cs t)) g t l := by subst hg; exact Row.new w t l cs h
theorem Row.range (h : Row w g t l) : w.rangeAt g 0 l := fun j v hv => by rw [Nat.zero_add]; exact h.cell hv
theorem Row.frozen (h : Row w g t l) (i : Nat) : w.frozen? ⟨g, i, none⟩ = false := by
  have h' : w.heap[g]? = some (.cells l.toArray t (0, 0)) := h
  simp [World.frozen?, h']
theorem Row.setRow (h : Row w g t l) (m : List Value) : Row (w.setRow g m.toArray) g t m := setRow_heap w g _ _ t _ h
theorem Row.setRow_at (h : Row w g t l) (m : List Value) (cs : Array Value) (e : cs = m.toArray) : Row (w.setRow g cs) g t m := by subst e; exact h.setRow m
theorem Row.setRow_other (h : Row w g t l) {k : Nat} (hk : g ≠ k) (cs : Array Value) : Row (w.setRow k cs) g t l := (Go.setRow_other w k g cs hk).trans h
theorem Row.setCell (h : Row w g t l) (i : Nat) (v : Value) : Row (w.setCell ⟨g, i, none⟩ v) g t (l.set i v) := by
  have h' : w.heap[g]? = some (.cells l.toArray t (0, 0)) := h
  have hlt : g < w.heap.size := h.lt
  have hv : w.heap[g] = .cells l.toArray t (0, 0) := (Array.getElem?_eq_some_iff.1 h').2
  unfold Row World.setCell
  rw [Array.getElem?_eq_getElem (by simpa using hlt), Array.getElem_modify]
  simp [hv]
theorem Row.setCell_other (h : Row w g t l) {p : Addr} (hk : g ≠ p.block) (v : Value) : Row (w.setCell p v) g t l := (Below.heap_setCell w p v g hk).trans h
theorem Row.rd {α : Type} {f : α → Value} {L : List α} (h : Row w g t (L.map f)) : Rd f w (some ⟨g, 0, none⟩) L := fun _ => ⟨g, 0, rfl, fun i hi => by rw [Nat.zero_add]; exact h.cell (by simp [hi])⟩
theorem Row.rd_at {α : Type} {f : α → Value} {M : List Value} {L : List α} {o : Nat} (h : Row w g t M) (hl : (M.drop o).take L.length = L.map f) : Rd f w (some ⟨g, o, none⟩) L := fun _ => ⟨g, o, rfl, fun i hi => h.cell (by
  have := congrArg (·[i]?) hl
  simpa [List.getElem?_take, List.getElem?_drop, hi] using this)⟩

variable {P : Program}
/-- The whole, read. -/
theorem Row.load (h : Row w g t l) (ty : TypeId) (d : TypeDesc) (hu : P.underlying ty = some d) (hd : d.isRow = true) (hi : (P.info? ty).map (·.size) = some l.length) :
    (Instr.loadAt ty (.pointer (some ⟨g, 0, none⟩))).run P w = .ok (.agg l.toArray) w := run_loadAt_mid w g 0 ty l d h.range hu hd hi
theorem Row.loadVar (h : Row w g t l) (ty : TypeId) (d : TypeDesc) (hu : P.underlying ty = some d) (hd : d.isRow = true) (hi : (P.info? ty).map (·.size) = some l.length) :
    (Go.loadVar ty ⟨g, 0, none⟩).run P w = .ok (.agg l.toArray) w := run_loadVar_mid w g 0 ty l d h.range hu hd hi
/-- A part, read. -/
theorem Row.loadMid (h : Row w g t l) (ty : TypeId) (o : Nat) (m : List Value) (hm : (l.drop o).take m.length = m) (d : TypeDesc) (hu : P.underlying ty = some d) (hd : d.isRow = true) (hi : (P.info? ty).map (·.size) = some m.length) :
    (Instr.loadAt ty (.pointer (some ⟨g, o, none⟩))).run P w = .ok (.agg m.toArray) w := run_loadAt_mid w g o ty m d (fun j v hv => by
      have hj : j < m.length := (List.getElem?_eq_some_iff.1 hv).1
      have := congrArg (·[j]?) hm
      simp only [List.getElem?_take, List.getElem?_drop, hj, if_true] at this
      exact h.cell (this.trans hv)) hu hd hi
/-- The whole, set. -/
theorem Row.store (h : Row w g t l) (ty : TypeId) (m : List Value) (hi : (P.info? ty).map (·.size) = some m.length) (hl : l.length = m.length) (h1 : ∀ v ∈ m, v.oneCell' = true) :
    (Instr.storeAt ty (.pointer (some ⟨g, 0, none⟩)) (.agg m.toArray)).run P w = .ok () (w.setRow g m.toArray) := by
  simp only [Instr.storeAt, Instr.sureAddr, Sem.run_bind, Sem.run_pure, Result.andThen_ok]
  exact run_storeVar_row w g t ty l.toArray m.toArray h (by simpa using hi) (by simpa using hl) (all_oneCell_toArray h1)
end

section
variable {P : Program} {op : Oper} {a : Act} {w : World} {K : Act → World → Prop} {Q : Exit → Act → World → Prop} {ops : Array Oper} {rest : List Oper} {g : Nat} {t : TypeId} {l : List Value}
theorem Row.wp_store (ty : TypeId) (x y : Operand) (ho : op.op = .store ty x y) (hx : a.eval x = .pointer (some ⟨g, 0, none⟩)) (m : List Value) (hy : a.eval y = .agg m.toArray) (h : Row w g t l)
    (hi : (P.info? ty).map (·.size) = some m.length) (hl : l.length = m.length) (h1 : ∀ v ∈ m, v.oneCell' = true) (k : K (a.put op.dst undef) (w.setRow g m.toArray)) : op.wp P a w K Q := by
  unfold Oper.wp execOp
  have := h.store (P := P) ty m hi hl h1
  simp only [Instr.storeAt, Instr.sureAddr, Sem.run_bind, Sem.run_pure, Result.andThen_ok] at this
  simp only [ho, hx, hy, Instr.storeAt, Instr.sureAddr, Sem.run_bind, Sem.run_pure, Result.andThen_ok, this]
  exact k
theorem wpList_store_row (hgd : op.guard = none) (ty : TypeId) (x y : Operand) (ho : op.op = .store ty x y) (g : Nat) (hx : a.eval x = .pointer (some ⟨g, 0, none⟩)) (m : List Value) (hy : a.eval y = .agg m.toArray) (t : TypeId) (l : List Value) (h : Row w g t l)
    (hi : (P.info? ty).map (·.size) = some m.length) (hl : l.length = m.length) (h1 : ∀ v ∈ m, v.oneCell' = true) (k : wpList P ops Q rest (a.put op.dst undef) (w.setRow g m.toArray)) : wpList P ops Q (op :: rest) a w :=
  wpList_plain hgd fun _ hK => h.wp_store ty x y ho hx m hy hi hl h1 (hK _ _ k)
/-- A part of a block known whole, read. -/
theorem wpList_load_part (hgd : op.guard = none) (ty : TypeId) (x : Operand) (ho : op.op = .load ty x) (g o : Nat) (hx : a.eval x = .pointer (some ⟨g, o, none⟩)) (t : TypeId) (l : List Value) (h : Row w g t l) (m : List Value) (hm : (l.drop o).take m.length = m)
    (d : TypeDesc) (hu : P.underlying ty = some d) (hd : d.isRow = true) (hi : (P.info? ty).map (·.size) = some m.length) (k : wpList P ops Q rest (a.put op.dst (.agg m.toArray)) w) : wpList P ops Q (op :: rest) a w :=
  wpList_load_mid hgd ty x ho g o hx m d (fun j v hv => by
      have hj : j < m.length := (List.getElem?_eq_some_iff.1 hv).1
      have := congrArg (·[j]?) hm
      simp only [List.getElem?_take, List.getElem?_drop, hj, if_true] at this
      exact h.cell (this.trans hv)) hu hd hi k
end

theorem Row.setCells {g : Nat} {t : TypeId} : ∀ (m : List Value) (o : Nat) {w : World} {l : List Value}, Row w g t l → o + m.length ≤ l.length → Row (w.setCells g o m) g t (l.take o ++ m ++ l.drop (o + m.length))
  | [], o, w, l, h, _ => by simpa [World.setCells] using h
  | v :: m, o, w, l, h, hl => by
    simp only [List.length_cons] at hl
    have k := Row.setCells m (o + 1) (h.setCell o v) (by simp; omega)
    have e : (l.set o v).take (o + 1) ++ m ++ (l.set o v).drop (o + 1 + m.length) = l.take o ++ v :: m ++ l.drop (o + (v :: m).length) := by
      have ho : o < l.length := by omega
      rw [List.drop_set_of_lt (by omega), List.take_succ_eq_append_getElem (by simpa using ho), List.getElem_set_self, List.take_set_of_le (Nat.le_refl _)]
      simp [Nat.add_assoc, Nat.add_comm 1]
    rw [← e]
    exact k
theorem Row.setCells_other {g b : Nat} {t : TypeId} (hk : g ≠ b) : ∀ (m : List Value) (o : Nat) {w : World} {l : List Value}, Row w g t l → Row (w.setCells b o m) g t l
  | [], _, _, _, h => h
  | v :: m, o, _, _, h => Row.setCells_other hk m (o + 1) (h.setCell_other (p := ⟨b, o, none⟩) hk v)
theorem below_setCells {B b : Nat} (hb : B ≤ b) : ∀ (m : List Value) (o : Nat) {a w : World}, Below B a w → Below B a (w.setCells b o m)
  | [], _, _, _, h => h
  | v :: m, o, _, _, h => below_setCells hb m (o + 1) (h.setCell (p := ⟨b, o, none⟩) hb v)

/-- Two results, the first of them a whole block. -/
theorem results_row_tmp {P : Program} {fn : Func} {p u : Tmp} {ty : TypeId} (h : fn.results = #[.cell p ty, .tmp u]) (tmps : Array Value) (w : World) (g : Nat) (t : TypeId) (l : List Value) (d : TypeDesc) (hp : tmps.getD p undef = .pointer (some ⟨g, 0, none⟩)) (hg : Row w g t l)
    (hu : P.underlying ty = some d) (hd : d.isRow = true) (hi : (P.info? ty).map (·.size) = some l.length) : (results fn tmps).run P w = .ok (.tuple #[.agg l.toArray, tmps.getD u undef]) w := by
  rw [results_cell_tmp h, hp]
  simp only [asAddr, Sem.run_pure, Result.andThen_ok, hg.loadVar (P := P) ty d hu hd hi]

theorem Rd.setRow {α : Type} {f : α → Value} {w : World} {A : Option Addr} {L : List α} (h : Rd f w A L) {g : Nat} (cs : Array Value) (hg : ∀ a, A = some a → a.block ≠ g) : Rd f (w.setRow g cs) A L := fun hn => by
  obtain ⟨b, o, rfl, hc⟩ := h hn
  exact ⟨b, o, rfl, fun i hi => (cell_setRow_other w g cs ⟨b, o + i, none⟩ (hg ⟨b, o, none⟩ rfl)).trans (hc i hi)⟩
theorem map_one {α : Type} {f : α → Value} (hf : ∀ x, (f x).oneCell' = true) (L : List α) : ∀ v ∈ L.map f, v.oneCell' = true := fun v hv => by
  obtain ⟨x, _, rfl⟩ := List.mem_map.1 hv
  exact hf x

/-- 'copy(d, s)': the slice d lies in a block known whole, and has room for all of s. -/
theorem wp_copy_row {P : Program} {α : Type} {f : α → Value} {o : Oper} {a : Act} {w : World} {K : Act → World → Prop} {Q : Exit → Act → World → Prop} (d s : Operand) (dT sT : TypeId)
    (ho : o.op = .call { callee := .builtin .copy, args := #[d, s], argTypes := #[dT, sT] }) (elem : TypeId) (hu : P.underlying dT = some (.slice elem)) (hsz : (P.info? elem).map (·.size) = some 1)
    (g off dLen dCap : Nat) (A : Option Addr) (L : List α) (sCap : Nat) (hd : a.eval d = .slice (some ⟨g, off, none⟩) dLen dCap) (hs : a.eval s = .slice A L.length sCap)
    (cur : List Value) (t : TypeId) (hg : Row w g t cur) (hr : Rd f w A L) (hf : ∀ x, (f x).oneCell' = true) (hle : L.length ≤ dLen) (hfit : off + L.length ≤ cur.length)
    (h : K (a.put o.dst (.int .i64 (L.length : Int))) (w.setRow g (cur.take off ++ L.map f ++ cur.drop (off + L.length)).toArray)) : o.wp P a w K Q := by
  by_cases hn : L = []
  · subst hn
    have hrun := run_copy_none (P := P) w dT sT o.type elem (some ⟨g, off, none⟩) A dLen dCap 0 sCap hu hsz (by simp)
    unfold Oper.wp
    simp only [execOp, ho, resolve, invoke, builtin, hd, hs, Sem.run_bind, Sem.run_pure, Result.andThen_ok, List.map_toArray, List.map_cons, List.map_nil, List.length_nil, hrun]
    have e : w.setRow g (cur.take off ++ ([] : List α).map f ++ cur.drop (off + ([] : List α).length)).toArray = w := by
      simp only [List.map_nil, List.append_nil, List.length_nil, Nat.add_zero, List.take_append_drop]
      exact setRow_self w g _ t _ hg
    rw [e] at h
    exact h
  · obtain ⟨b, oo, rfl, hc⟩ := hr hn
    have hrun := run_copy_row (P := P) w dT sT o.type elem g off dLen dCap ⟨b, oo, none⟩ L.length sCap cur.toArray t (L.map f) hu hsz hg (by rw [List.length_map]; exact (Nat.min_eq_left hle).symm) (fun j v hv => by
      have hj : j < L.length := by simpa using (List.getElem?_eq_some_iff.1 hv).1
      have e1 : (⟨b, oo, none⟩ : Addr).add j = ⟨b, oo + j, none⟩ := by unfold Addr.add; split <;> simp_all
      rw [e1, hc j hj, ← hv]
      simp [hj]) (by simpa using hfit) (map_one hf L)
    unfold Oper.wp
    simp only [execOp, ho, resolve, invoke, builtin, hd, hs, Sem.run_bind, Sem.run_pure, Result.andThen_ok, List.map_toArray, List.map_cons, List.map_nil, hrun]
    have e2 : ((cur.toArray.toList.take off ++ L.map f ++ cur.toArray.toList.drop (off + (L.map f).length)).toArray) = (cur.take off ++ L.map f ++ cur.drop (off + L.length)).toArray := by simp
    have e3 : goInt ((L.map f).length : Nat) = .int .i64 (L.length : Int) := by simp [goInt]
    rw [e2, e3]
    exact h
theorem wpList_copy_row {P : Program} {α : Type} {f : α → Value} {ops : Array Oper} {rest : List Oper} {o : Oper} {a : Act} {w : World} {Q : Exit → Act → World → Prop} (hgd : o.guard = none) (d s : Operand) (dT sT : TypeId)
    (ho : o.op = .call { callee := .builtin .copy, args := #[d, s], argTypes := #[dT, sT] }) (elem : TypeId) (hu : P.underlying dT = some (.slice elem)) (hsz : (P.info? elem).map (·.size) = some 1)
    (g off dLen dCap : Nat) (A : Option Addr) (L : List α) (sCap : Nat) (hd : a.eval d = .slice (some ⟨g, off, none⟩) dLen dCap) (hs : a.eval s = .slice A L.length sCap)
    (cur : List Value) (t : TypeId) (hg : Row w g t cur) (hr : Rd f w A L) (hf : ∀ x, (f x).oneCell' = true) (hle : L.length ≤ dLen) (hfit : off + L.length ≤ cur.length)
    (h : wpList P ops Q rest (a.put o.dst (.int .i64 (L.length : Int))) (w.setRow g (cur.take off ++ L.map f ++ cur.drop (off + L.length)).toArray)) : wpList P ops Q (o :: rest) a w :=
  wpList_plain hgd fun _ hK => wp_copy_row d s dT sT ho elem hu hsz g off dLen dCap A L sCap hd hs cur t hg hr hf hle hfit (hK _ _ h)

end Go.Proofs.YtmljhkdojopljaaGreatDoor
/-
  Rows of the call's own: their form, what is left of them behind other steps, two that stay apart, one known whole; one step more for plans (no program is named here). No conditions but those typed.
-/
namespace Go.Proofs.YtmljhkdojopljaaGreatDoor
set_option maxRecDepth 100000
open Go.RowKit
set_option linter.unusedSimpArgs false
set_option linter.unusedVariables false

theorem ownsRow_same {w w' : World} {base : Nat} {e : TypeId} {v : Value} {n : Nat} {xs : List Value} (h : w.ownsRow base e 1 v n xs) (hh : ∀ b, base ≤ b → b < w.heap.size → w'.heap[b]? = w.heap[b]?) : w'.ownsRow base e 1 v n xs := by
  refine ⟨h.1, ?_⟩
  rcases h.2 with h0 | ⟨g, cap, cur, hv, hg, hc, r⟩
  · exact .inl h0
  · exact .inr ⟨g, cap, cur, hv, hg, (hh g hg (Array.getElem?_eq_some_iff.1 hc).1).trans hc, r⟩
theorem ownsRow_later {w w' : World} {base : Nat} {e : TypeId} {v : Value} {n : Nat} {xs : List Value} (h : w.ownsRow base e 1 v n xs) (hb : Below w.heap.size w w') : w'.ownsRow base e 1 v n xs := ownsRow_same h (fun b _ hb' => hb.block b hb')
theorem Rd.grown {α : Type} {f : α → Value} {w w' : World} {row : Option Nat} {A : Option Addr} {L : List α} (h : Rd f w A L) (hg : w.grownBy w' row) (hA : ∀ a, A = some a → row ≠ some a.block) : Rd f w' A L := fun hn => by
  obtain ⟨b, o, rfl, hc⟩ := h hn
  refine ⟨b, o, rfl, fun i hi => ?_⟩
  obtain ⟨_, _, _, _, h5⟩ := hg
  have hk := hc i hi
  have hlt : b < w.heap.size := World.block_lt_of_cell? w _ hk
  exact (World.cell?_of_block (w := w) (a := ⟨b, o + i, none⟩) (h5 b hlt (fun e => hA ⟨b, o, none⟩ rfl e.symm))).trans hk
theorem own_slice {α : Type} {f : α → Value} {w : World} {base : Nat} {e : TypeId} {v : Value} {l : List α} (h : w.ownsRow base e 1 v l.length (l.map f)) : ∃ A cap, v = .slice A l.length cap ∧ l.length ≤ cap ∧ Rd f w A l := by
  rcases h.2 with ⟨rfl, h0⟩ | ⟨g, cap, cur, rfl, _, _, hc, _⟩
  · have hl : l = [] := List.eq_nil_of_length_eq_zero h0
    subst hl
    exact ⟨none, 0, rfl, Nat.le_refl _, Rd.nil⟩
  · exact ⟨_, cap, rfl, hc, Rd.own h⟩

theorem Row.range_part {w : World} {g : Nat} {t : TypeId} {l : List Value} (h : Row w g t l) (o : Nat) (m : List Value) (hm : (l.drop o).take m.length = m) : w.rangeAt g o m := fun j v hv => by
  have hj : j < m.length := (List.getElem?_eq_some_iff.1 hv).1
  have := congrArg (·[j]?) hm
  simp only [List.getElem?_take, List.getElem?_drop, hj, if_true] at this
  exact h.cell (this.trans hv)

theorem own_form {w : World} {base : Nat} {e : TypeId} {v : Value} {n : Nat} {xs : List Value} (h : w.ownsRow base e 1 v n xs) : ∃ A cap, v = .slice A n cap ∧ n ≤ cap := by
  rcases h.2 with ⟨rfl, rfl⟩ | ⟨g, cap, cur, rfl, _, _, hc, _⟩
  · exact ⟨none, 0, rfl, Nat.le_refl _⟩
  · exact ⟨_, cap, rfl, hc⟩

theorem apart_symm {u v : Value} (h : u.ownBlock = none ∨ u.ownBlock ≠ v.ownBlock) : v.ownBlock = none ∨ v.ownBlock ≠ u.ownBlock := by
  rcases h with h | h
  · by_cases hv : v.ownBlock = none
    · exact .inl hv
    · exact .inr (by rw [h]; exact hv)
  · exact .inr (Ne.symm h)
/-- Apart, behind the growth of the second one. -/
theorem apart_grown {w : World} {base : Nat} {e : TypeId} {u v v' : Value} {n : Nat} {xs : List Value} (h : u.ownBlock = none ∨ u.ownBlock ≠ v.ownBlock) (ho : w.ownsRow base e 1 u n xs) (hat : v'.ownBlock = v.ownBlock ∨ v'.ownBlock = some w.heap.size) : u.ownBlock = none ∨ u.ownBlock ≠ v'.ownBlock := by
  rcases hat with hat | hat
  · rw [hat]; exact h
  · right
    rw [hat]
    intro hu
    have := (ho.lt _ hu).2
    omega
section
variable {P : Program} {ops : Array Oper} {Q : Exit → Act → World → Prop}
/-- One that makes memory; behind it a condition of one's own, which may speak of the new world. -/
theorem plan_make_to {i : Nat} {rest : Plan} {S : World → Prop} {o : Oper} {a : Act} {w : World} (ho : ops[i]? = some o) (hw : Region.wanted o (yielded ops a.tmps) = true)
    (h : ∀ K : Act → World → Prop, Shut (∀ (T : World → Prop) a' w', (∀ W, T W → S W) → T w' → wpPlan P ops Q rest T a' w' → K a' w') → o.wp P a w K Q) : wpPlan P ops Q (.step i true rest) S a w :=
  ⟨o, ho, .inr (.inr ⟨hw, rfl, h _ (fun T _ _ hT hb hr => ⟨T, hT, hb, hr⟩)⟩)⟩
end

/-- A row of the call's own, one place of it set. -/
theorem own_set {α : Type} {f : α → Value} {w : World} {base : Nat} {e : TypeId} {v : Value} {l : List α} {q : Nat} (h : w.ownsRow base e 1 v l.length (l.map f)) (hq : q < l.length) :
    ∃ g cap, v = .slice (some ⟨g, 0, none⟩) l.length cap ∧ base ≤ g ∧ g < w.heap.size ∧ l.length ≤ cap ∧ w.cell? ⟨g, q, none⟩ = some (f l[q]) ∧ w.frozen? ⟨g, q, none⟩ = false ∧ ∀ z : α, Rd f (w.setCell ⟨g, q, none⟩ (f z)) (some ⟨g, 0, none⟩) (l.set q z) := by
  rcases h.2 with ⟨rfl, h0⟩ | ⟨g, cap, cur, rfl, hg, hgg, hc, hm, hs, ht⟩
  · omega
  · have hR : Row w g e cur.toList := hgg
    rw [Nat.mul_one] at ht
    have hcell : w.cell? ⟨g, q, none⟩ = some (f l[q]) := by
      rw [hR.cell? q]
      have := congrArg (·[q]?) ht
      simpa [List.getElem?_take, hq] using this
    refine ⟨g, cap, rfl, hg, hR.lt, hc, hcell, hR.frozen _, fun z => ?_⟩
    refine Row.rd_at (hR.setCell q (f z)) ?_
    rw [List.drop_zero, List.length_set, List.take_set, ht, List.map_set]
end Go.Proofs.YtmljhkdojopljaaGreatDoor
/-
  A block whose first cells are bytes, and worlds in which all but one block lies as it lay (no program is named here). No conditions but those typed.
-/
namespace Go.Proofs.YtmljhkdojopljaaGreatDoor
set_option maxRecDepth 100000
open Go.RowKit
set_option linter.unusedSimpArgs false
set_option linter.unusedVariables false

/-! ### A block whose first cells are bytes -/
def Cel (w : World) (g : Nat) (e : TypeId) (l : List UInt8) : Prop := ∃ L, Row w g e L ∧ L.take l.length = l.map vB
section
variable {w w' : World} {g : Nat} {e : TypeId} {l : List UInt8}
theorem Cel.lt (h : Cel w g e l) : g < w.heap.size := by
  obtain ⟨L, h1, _⟩ := h
  exact h1.lt
theorem Cel.get (h : Cel w g e l) (i : Nat) (hi : i < l.length) : w.cell? ⟨g, i, none⟩ = some (.int .u8 ((co l i).toNat : Int)) := by
  obtain ⟨L, h1, h2⟩ := h
  rw [h1.cell? i, co_lt l i hi]
  have := congrArg (·[i]?) h2
  simp only [List.getElem?_take, hi, if_true, List.getElem?_map, List.getElem?_eq_getElem hi] at this
  exact this
theorem Cel.frozen (h : Cel w g e l) (i : Nat) : w.frozen? ⟨g, i, none⟩ = false := by
  obtain ⟨L, h1, _⟩ := h
  exact h1.frozen i
theorem Cel.set (h : Cel w g e l) (i : Nat) (z : UInt8) : Cel (w.setCell ⟨g, i, none⟩ (.int .u8 (z.toNat : Int))) g e (l.set i z) := by
  obtain ⟨L, h1, h2⟩ := h
  refine ⟨_, h1.setCell i (.int .u8 (z.toNat : Int)), ?_⟩
  rw [List.length_set, List.take_set, h2, List.map_set]
  rfl
theorem Cel.later (h : Cel w g e l) (hb : Below w.heap.size w w') : Cel w' g e l := by
  obtain ⟨L, h1, h2⟩ := h
  exact ⟨L, h1.later hb, h2⟩
theorem Cel.drew (h : Cel w g e l) : Cel w.drew g e l := h
theorem Cel.rd (h : Cel w g e l) : Rd vB w (some ⟨g, 0, none⟩) l := fun hn => ⟨g, 0, rfl, fun i hi => by rw [Nat.zero_add, h.get i hi, co_lt l i hi]; rfl⟩
theorem cel_of_own {base cap n : Nat} {A : Option Addr} (h : w.ownsRow base e 1 (.slice A n cap) n (l.map vB)) (hl : l.length = n) (hn : 0 < n) : ∃ g, A = some ⟨g, 0, none⟩ ∧ base ≤ g ∧ Cel w g e l := by
  rcases h.2 with ⟨_, h0⟩ | ⟨g, cap', cur, hv, hg, hgg, hc, hm, hs, ht⟩
  · omega
  · have hR : Row w g e cur.toList := hgg
    injection hv with e1 e2 e3
    rw [Nat.mul_one] at ht
    exact ⟨g, e1, hg, cur.toList, hR, by rw [hl]; exact ht⟩
end


/-- .. and the block has cap cells. -/
def CelN (w : World) (g : Nat) (e : TypeId) (cap : Nat) (l : List UInt8) : Prop := ∃ L, Row w g e L ∧ L.length = cap ∧ L.take l.length = l.map vB
theorem CelN.cel {w : World} {g : Nat} {e : TypeId} {cap : Nat} {l : List UInt8} (h : CelN w g e cap l) : Cel w g e l := by
  obtain ⟨L, h1, _, h2⟩ := h
  exact ⟨L, h1, h2⟩
theorem Cel.some_cap {w : World} {g : Nat} {e : TypeId} {l : List UInt8} (h : Cel w g e l) : ∃ cap, CelN w g e cap l := by
  obtain ⟨L, h1, h2⟩ := h
  exact ⟨L.length, L, h1, rfl, h2⟩
theorem CelN.drew {w : World} {g : Nat} {e : TypeId} {cap : Nat} {l : List UInt8} (h : CelN w g e cap l) : CelN w.drew g e cap l := h
theorem CelN.set {w : World} {g : Nat} {e : TypeId} {cap : Nat} {l : List UInt8} (h : CelN w g e cap l) (i : Nat) (z : UInt8) : CelN (w.setCell ⟨g, i, none⟩ (.int .u8 (z.toNat : Int))) g e cap (l.set i z) := by
  obtain ⟨L, h1, h3, h2⟩ := h
  refine ⟨_, h1.setCell i (.int .u8 (z.toNat : Int)), by rw [List.length_set]; exact h3, ?_⟩
  rw [List.length_set, List.take_set, h2, List.map_set]
  rfl
theorem celN_some {w : World} {e : TypeId} {l : List UInt8} {base cap n g : Nat} (h : w.ownsRow base e 1 (.slice (some ⟨g, 0, none⟩) n cap) n (l.map vB)) (hl : l.length = n) : CelN w g e cap l ∧ base ≤ g ∧ n ≤ cap ∧ cap ≤ maxLen := by
  rcases h.2 with ⟨e0, _⟩ | ⟨g', cap', cur, hv, hg, hgg, hc, hm, hs, ht⟩
  · cases e0
  · have hR : Row w g' e cur.toList := hgg
    injection hv with e1 e2 e3
    injection e1 with e1
    injection e1 with e1
    subst e1 e3
    rw [Nat.mul_one] at ht
    exact ⟨⟨cur.toList, hR, by rw [Array.length_toList, hs, Nat.mul_one], by rw [hl]; exact ht⟩, hg, hc, hm⟩
theorem CelN.own {w : World} {e : TypeId} {l : List UInt8} {g cap base : Nat} (h : CelN w g e cap l) (hb : base ≤ g) (hl : l.length ≤ cap) (hm : cap ≤ maxLen) : w.ownsRow base e 1 (.slice (some ⟨g, 0, none⟩) l.length cap) l.length (l.map vB) := by
  obtain ⟨L, h1, h3, h2⟩ := h
  exact ⟨by rw [List.length_map, Nat.mul_one], .inr ⟨g, cap, L.toArray, rfl, hb, h1, hl, hm, by rw [List.size_toArray, h3, Nat.mul_one], by rw [Nat.mul_one]; exact h2⟩⟩

/-! ### All but one block lies as it lay -/
structure Only (g : Nat) (w w' : World) : Prop where
  below : Below g w w'
  other : ∀ b, b ≠ g → b < w.heap.size → w'.heap[b]? = w.heap[b]?
theorem Only.refl (g : Nat) (w : World) : Only g w w := ⟨Below.refl _ _, fun _ _ _ => rfl⟩
theorem Only.trans {g : Nat} {a b c : World} (h : Only g a b) (k : Only g b c) : Only g a c :=
  ⟨h.below.trans k.below, fun x hx hl => (k.other x hx (Nat.lt_of_lt_of_le hl h.below.size)).trans (h.other x hx hl)⟩
theorem Only.drew {g : Nat} {a w : World} (h : Only g a w) : Only g a w.drew := ⟨h.below.drew, h.other⟩
theorem Only.setCell {g : Nat} {a w : World} (h : Only g a w) (i : Nat) (v : Value) : Only g a (w.setCell ⟨g, i, none⟩ v) :=
  ⟨h.below.setCell (p := ⟨g, i, none⟩) (Nat.le_refl _) v, fun b hb hl => (Below.heap_setCell w ⟨g, i, none⟩ v b hb).trans (h.other b hb hl)⟩
theorem Only.later {g : Nat} {w w' : World} (h : Below w.heap.size w w') (hg : g ≤ w.heap.size) : Only g w w' := ⟨h.mono hg, fun b _ hl => h.block b hl⟩
theorem Only.fresh {g : Nat} {w w' : World} (h : Only g w w') (hg : w.heap.size ≤ g) : Below w.heap.size w w' := h.below.mono hg
theorem Rd.only {α : Type} {f : α → Value} {g : Nat} {w w' : World} {A : Option Addr} {l : List α} (h : Rd f w A l) (k : Only g w w') (hA : l ≠ [] → ∀ a, A = some a → a.block ≠ g) : Rd f w' A l := fun hn => by
  obtain ⟨b, o, rfl, hc⟩ := h hn
  refine ⟨b, o, rfl, fun i hi => ?_⟩
  have h1 := hc i hi
  exact (World.cell?_of_block (w := w) (a := ⟨b, o + i, none⟩) (k.other b (hA hn _ rfl) (World.block_lt_of_cell? w _ h1))).trans h1
theorem Rd.off {α : Type} {f : α → Value} {w : World} {A : Option Addr} {l : List α} (h : Rd f w A l) : l ≠ [] → ∀ a, A = some a → a.block < w.heap.size := fun hn a ha => by
  obtain ⟨b, o, e1, hcell⟩ := h hn
  rw [ha] at e1
  injection e1 with e1
  subst e1
  exact World.block_lt_of_cell? w _ (hcell 0 (List.length_pos_iff.2 hn))
theorem Rd.apart {α : Type} {f : α → Value} {w : World} {A : Option Addr} {l : List α} (h : Rd f w A l) {g : Nat} (hg : w.heap.size ≤ g) : l ≠ [] → ∀ a, A = some a → a.block ≠ g := fun hn a ha => by
  have := h.off hn a ha
  omega
theorem Cel.only {g q : Nat} {w w' : World} {e : TypeId} {l : List UInt8} (h : Cel w q e l) (k : Only g w w') (hq : q ≠ g) : Cel w' q e l := by
  have hlt := h.lt
  obtain ⟨L, h1, h2⟩ := h
  exact ⟨L, (k.other q hq hlt).trans h1, h2⟩
theorem Boxed.only {g q : Nat} {w w' : World} {t : TypeId} {v : Value} (h : Boxed w q t v) (k : Only g w w') (hq : q ≠ g) : Boxed w' q t v := (k.other q hq h.lt).trans h
theorem Only.keeps {g : Nat} {w w' : World} {e : TypeId} {l : List UInt8} (h : Only g w w') (hc : Cel w g e l) (B : Nat) : KeepsFrom B w w' := by
  obtain ⟨L, h1, _⟩ := hc
  refine ⟨h.below.size, fun k o _ hk ho => ?_⟩
  by_cases e : k = g
  · subst e
    have h1' : w.heap[k]? = some (.cells L.toArray _ (0, 0)) := h1
    rw [h1'] at hk
    injection hk with hk
    subst hk
    cases ho
  · exact (h.other k e (Array.getElem?_eq_some_iff.1 hk).1).trans hk
/-- A slice of bytes that lies in a block of the call's own from its first cell on. -/
theorem cel_new {w : World} {e : TypeId} {n : Nat} : Cel (w.alloc (.cells (List.replicate n (Value.int .u8 0)).toArray e)) w.heap.size e (List.replicate n 0) :=
  ⟨_, Row.new w e _ _ rfl, by rw [List.length_replicate, List.take_of_length_le (by rw [List.length_replicate]; exact Nat.le_refl _), List.map_replicate]; rfl⟩
theorem Cel.rd_from {w : World} {g : Nat} {e : TypeId} {l : List UInt8} (h : Cel w g e l) (o n : Nat) (hn : o + n ≤ l.length) : Rd vB w (some ⟨g, o, none⟩) ((l.drop o).take n) := fun _ => ⟨g, o, rfl, fun i hi => by
  rw [List.length_take, List.length_drop] at hi
  have hj : o + i < l.length := by omega
  rw [h.get (o + i) hj, co_lt l (o + i) hj, List.getElem_take, List.getElem_drop]
  rfl⟩

theorem cel_some {w : World} {e : TypeId} {l : List UInt8} {base cap n g : Nat} (h : w.ownsRow base e 1 (.slice (some ⟨g, 0, none⟩) n cap) n (l.map vB)) (hl : l.length = n) : Cel w g e l ∧ base ≤ g ∧ n ≤ cap := by
  rcases h.2 with ⟨e0, _⟩ | ⟨g', cap', cur, hv, hg, hgg, hc, hm, hs, ht⟩
  · cases e0
  · have hR : Row w g' e cur.toList := hgg
    injection hv with e1 e2 e3
    injection e1 with e1
    injection e1 with e1
    subst e1
    rw [Nat.mul_one] at ht
    exact ⟨⟨cur.toList, hR, by rw [hl]; exact ht⟩, hg, by omega⟩
theorem zeros_map (n : Nat) : (List.replicate n (Value.int .u8 0)) = (List.replicate n (0 : UInt8)).map vB := by
  rw [List.map_replicate]
  rfl
/-- The cells that a copy leaves. -/
theorem cel_splice {l : List UInt8} {L : List Value} (hL : L.take l.length = l.map vB) (off : Nat) (S : List UInt8) (h : off + S.length ≤ l.length) :
    (L.take off ++ S.map vB ++ L.drop (off + S.length)).take (l.take off ++ S ++ l.drop (off + S.length)).length = (l.take off ++ S ++ l.drop (off + S.length)).map vB := by
  have hlen : l.length ≤ L.length := by
    have := congrArg List.length hL
    rw [List.length_take, List.length_map] at this
    omega
  have h1 : L.take off = (l.take off).map vB := by
    rw [List.map_take, ← hL, List.take_take, Nat.min_eq_left (by omega)]
  have h2 : (L.drop (off + S.length)).take (l.length - (off + S.length)) = (l.drop (off + S.length)).map vB := by
    rw [List.map_drop, ← hL, List.drop_take]
  have h3 : (L.take off ++ S.map vB).length = off + S.length := by rw [List.length_append, List.length_take, List.length_map]; omega
  have h4 : (l.take off ++ S ++ l.drop (off + S.length)).length = l.length := by
    rw [List.length_append, List.length_append, List.length_take, List.length_drop]
    omega
  rw [h4, List.take_append, h3, List.take_of_length_le (by omega), h2, h1, List.map_append, List.map_append]
theorem Only.setRow {g : Nat} {a w : World} (h : Only g a w) (cs : Array Value) : Only g a (w.setRow g cs) :=
  ⟨below_setRow h.below (Nat.le_refl _) cs, fun b hb hl => (Go.setRow_other w g b cs hb).trans (h.other b hb hl)⟩
/-- 'copy(d, s)' into a block whose first cells are bytes. -/
theorem wpList_copy_cel {P : Program} {ops : Array Oper} {rest : List Oper} {o : Oper} {a : Act} {w : World} {Q : Exit → Act → World → Prop} (hgd : o.guard = none) (d s : Operand) (dT sT : TypeId)
    (ho : o.op = .call { callee := .builtin .copy, args := #[d, s], argTypes := #[dT, sT] }) (elem : TypeId) (hu : P.underlying dT = some (.slice elem)) (hsz : (P.info? elem).map (·.size) = some 1)
    (g off dLen dCap : Nat) (A : Option Addr) (S : List UInt8) (sCap : Nat) (hd : a.eval d = .slice (some ⟨g, off, none⟩) dLen dCap) (hs : a.eval s = .slice A S.length sCap)
    (l : List UInt8) (t : TypeId) (hg : Cel w g t l) (hr : Rd vB w A S) (hle : S.length ≤ dLen) (hfit : off + S.length ≤ l.length)
    (h : ∀ w', Cel w' g t (l.take off ++ S ++ l.drop (off + S.length)) → Only g w w' → wpList P ops Q rest (a.put o.dst (.int .i64 (S.length : Int))) w') : wpList P ops Q (o :: rest) a w := by
  obtain ⟨L, h1, h2⟩ := hg
  have hlen : l.length ≤ L.length := by
    have := congrArg List.length h2
    rw [List.length_take, List.length_map] at this
    omega
  refine wpList_copy_row hgd d s dT sT ho elem hu hsz g off dLen dCap A S sCap hd hs L t h1 hr (fun _ => rfl) hle (by omega) ?_
  exact h _ ⟨_, h1.setRow _, cel_splice h2 off S hfit⟩ ((Only.refl g w).setRow _)
end Go.Proofs.YtmljhkdojopljaaGreatDoor
/-
  What the calls word.Rot and math/bits.RotateLeft32 answer: the word turned (every word, every count that an int may be).
-/
namespace Go.Proofs.YtmljhkdojopljaaGreatDoor
set_option maxRecDepth 100000
open Go.RowKit

theorem rotl_any (x : UInt32) (k : Int) (s : Nat) (w : World) (hs : s < 32) (hk : bits .and .u64 (IntKind.u64.wrap k) 31 = (s : Int)) :
    Calls Tryz.prog 118 #[.int .u32 (x.toNat : Int), .int .i64 k] w fun e w' => e = .returned (.int .u32 ((rotR x (32 - s)).toNat : Int)) ∧ w = w' := by
  have H := Lib.hid (shifts_rot x s hs)
  have hx := u32_lt x
  go_enter Tryz.func118, Tryz.ntmps118
  go_wp2
  go_ret
  exact ⟨ret_int H.out, rfl⟩

theorem rot_any (x : UInt32) (n : Int) (w : World) :
    Calls Tryz.prog 117 #[.int .u32 (x.toNat : Int), .int .i64 n] w fun e w' => e = .returned (.int .u32 ((rotR x (n % 32).toNat).toNat : Int)) ∧ w = w' := by
  have H := Lib.hid (and31 n)
  have H2 : Hid (rotR x (32 - ((-n) % 32).toNat) = rotR x (n % 32).toNat) := rotR_same x (by omega)
  go_enter Tryz.func117, Tryz.ntmps117
  go_wp2_with (go_at_call 118; refine (rotl_any x _ _ _ (by omega) H.out).mono ?_; rintro e w' ⟨rfl, rfl⟩)
  go_ret
  rw [H2.out]
  exact ⟨rfl, rfl⟩
end Go.Proofs.YtmljhkdojopljaaGreatDoor
/-
  What the call word.join answers: the number of the bytes, modulo 2^64.
-/
namespace Go.Proofs.YtmljhkdojopljaaGreatDoor
set_option maxRecDepth 100000
open Go.RowKit

theorem join_any (l : List UInt8) (A : Option Addr) (cap : Nat) (w : World) (hr : Rd vB w A l) (hl : l.length ≤ 9223372036854775807) :
    Calls Tryz.prog 65 #[.slice A l.length cap] w fun e w' => e = .returned (.int .u64 ((valN l % 18446744073709551616 : Nat) : Int)) ∧ w = w' := by
  go_enter Tryz.func65, Tryz.ntmps65
  go_wp2
  go_loop [3, 8] (fun v i => ∃ k : Nat, k ≤ l.length ∧ i = .int .i64 k ∧ v = .int .u64 ((valN (l.take k) % 18446744073709551616 : Nat) : Int)) (fun _ i => l.length - (intOf i).toNat)
  case atStart => exact ⟨0, Nat.zero_le _, rfl, rfl⟩
  case round =>
    obtain ⟨k, hk, rfl, rfl⟩ := hrel
    by_cases hlt : k < l.length
    · obtain ⟨b, o, rfl, hb, hcell⟩ := hr.at hlt
      have hc := hcell k hlt
      unfold vB at hc
      have hb8 : l[k].toNat < 256 := l[k].toNat_lt
      have HS : Hid _ := join_step (valN (l.take k)) l[k].toNat hb8
      have HT : Hid _ := valN_take l k hlt
      generalize l[k] = c at hc hb8 HS HT
      clear hcell hr
      go_wp2
      go_round
      case rel => exact ⟨k + 1, by omega, by go_num, by rw [HT.out, HS.out]⟩
      case measure => simp [intOf]; omega
    · have hk' : k = l.length := by omega
      have HK : Hid (l.take k = l) := by rw [hk']; exact List.take_length
      clear hk'
      go_wp2
      go_ret
      exact ⟨ret_int (by rw [HK.out]), rfl⟩

end Go.Proofs.YtmljhkdojopljaaGreatDoor
/-
  What the calls word.Get and word.FromLeast answer, for any bytes.
-/
namespace Go.Proofs.YtmljhkdojopljaaGreatDoor
set_option maxRecDepth 100000
open Go.RowKit

theorem get_any (l : List UInt8) (A : Option Addr) (cap : Nat) (w : World) (hr : Rd vB w A l) (hl : l.length ≤ 9223372036854775807) :
    Calls Tryz.prog 52 #[.slice A l.length cap] w fun e w' => e = .returned (.tuple #[.int .u64 ((getR l).1 : Int), .int .i64 (getR l).2]) ∧ w = w' := by
  by_cases h8 : l.length = 8
  · have hv := valN_lt8 l (by omega)
    have H : Hid (getR l = (valN l, 0)) := by unfold Hid getR; rw [if_pos h8]
    have HL := Lib.hid h8
    have h8' : ((l.length : Int) != 8) = false := by simp; omega
    clear h8
    go_enter Tryz.func52, Tryz.ntmps52
    go_wp2_with (go_at_call 65; refine (join_any l _ _ _ hr hl).mono ?_; rintro e w' ⟨rfl, rfl⟩)
    go_ret2
    exact ⟨ret_int2 (by rw [H.out]; show (valN l : Int) % _ = (valN l : Int); omega) (by rw [H.out]), rfl⟩
  · have H : Hid (getR l = (0, 1)) := by unfold Hid getR; rw [if_neg h8]
    have h8' : ((l.length : Int) != 8) = true := by simp; omega
    clear h8
    go_enter Tryz.func52, Tryz.ntmps52
    go_wp2_with fail
    go_ret2
    exact ⟨ret_int2 (by rw [H.out]; rfl) (by rw [H.out]), rfl⟩


end Go.Proofs.YtmljhkdojopljaaGreatDoor
/-
  What the calls word.Put and word.Least answer, for any number.
-/
namespace Go.Proofs.YtmljhkdojopljaaGreatDoor
set_option maxRecDepth 100000
open Go.RowKit

theorem vB_ofNat (n : Nat) : vB (UInt8.ofNat n) = .int .u8 ((n % 256 : Nat) : Int) := by
  unfold vB
  rw [UInt8.toNat_ofNat']
theorem put_cells (v : Nat) (hv : v < 18446744073709551616) :
    #[Value.int IntKind.u8 ((v : Int) / 72057594037927936), Value.int IntKind.u8 ((v : Int) / 281474976710656 % 256), Value.int IntKind.u8 ((v : Int) / 1099511627776 % 256), Value.int IntKind.u8 ((v : Int) / 4294967296 % 256),
      Value.int IntKind.u8 ((v : Int) / 16777216 % 256), Value.int IntKind.u8 ((v : Int) / 65536 % 256), Value.int IntKind.u8 ((v : Int) / 256 % 256), Value.int IntKind.u8 ((v : Int) % 256)] = ((putL v).map vB).toArray := by
  have e : (putL v).map vB = [vB (UInt8.ofNat (v / 72057594037927936)), vB (UInt8.ofNat (v / 281474976710656)), vB (UInt8.ofNat (v / 1099511627776)), vB (UInt8.ofNat (v / 4294967296)),
      vB (UInt8.ofNat (v / 16777216)), vB (UInt8.ofNat (v / 65536)), vB (UInt8.ofNat (v / 256)), vB (UInt8.ofNat (v / 1))] := rfl
  rw [e]
  simp only [vB_ofNat]
  have e0 : ((v : Int) / 72057594037927936) = ((v / 72057594037927936 % 256 : Nat) : Int) := by omega
  rw [e0]
  simp
theorem putL_length (v : Nat) : (putL v).length = 8 := rfl

theorem put_any (v : Nat) (hv : v < 18446744073709551616) (w : World) :
    Calls Tryz.prog 24 #[.int .u64 (v : Int)] w (RetS vB w (putL v)) := by
  have hmk : ∀ w, (Instr.makeSlice 27 (.int .i64 8) (.int .i64 8)).run Tryz.prog w = .ok (.slice (some ⟨w.heap.size, 0, none⟩) 8 8) (w.alloc (.cells #[.int .u8 0, .int .u8 0, .int .u8 0, .int .u8 0, .int .u8 0, .int .u8 0, .int .u8 0, .int .u8 0] 5)) := fun _ => by kernel_rfl
  go_enter Tryz.func24, Tryz.ntmps24
  go_wp2
  refine wp_loop_rounds 9 ?_
  iterate 9 (rw [rounds_succ]; go_wp2)
  go_ret
  exact ⟨_, 8, rfl, Nat.le_refl _, Rd.new _ _ _ _ (put_cells v hv), (Below.refl _ _).alloc (Nat.le_refl _) _⟩

def LeastRel (L : List UInt8) (w : World) (s : Value) : Prop := ∃ (M : List UInt8) (A : Option Addr) (cap : Nat), s = .slice A M.length cap ∧ M.length ≤ cap ∧ M.length ≤ 8 ∧ Rd vB w A M ∧ L.dropWhile (· == 0) = M.dropWhile (· == 0)
def sliceLen : Value → Nat | .slice _ n _ => n | _ => 0

theorem size_uint8 (w : World) : (sizeOf 5).run Tryz.prog w = .ok 1 w := by kernel_rfl


end Go.Proofs.YtmljhkdojopljaaGreatDoor
/-
  What the calls word.Words and word.Bytes answer, for any bytes and words of up to 2^45 each.
-/
namespace Go.Proofs.YtmljhkdojopljaaGreatDoor
set_option maxRecDepth 100000
open Go.RowKit

theorem info_u32 : (Tryz.prog.info? 169).map (fun i => (i.zero, i.size, i.bytes)) = some (some (.int .u32 0), 1, 4) := by kernel_rfl
theorem info_u8 : (Tryz.prog.info? 5).map (fun i => (i.zero, i.size, i.bytes)) = some (some (.int .u8 0), 1, 1) := by kernel_rfl

def WordsRel (L : List UInt8) (w : World) (s v : Value) (wr : World) : Prop :=
  ∃ (M : List UInt8) (D : List UInt32) (A : Option Addr) (cap : Nat), s = .slice A M.length cap ∧ M.length ≤ cap ∧ Rd vB w A M ∧
    wr.ownsRow w.heap.size 169 1 v D.length (D.map vW) ∧ Below w.heap.size w wr ∧ wordsL L = D ++ wordsL M ∧ 4 * D.length + M.length ≤ L.length

theorem words_round {L M : List UInt8} {D : List UInt32} {w wr w1 : World} {A : Option Addr} {cap V : Nat} {u v : Value} {o : Obj} (hM : M.length + 4 ≤ cap) (hL : 4 * D.length + M.length + 4 ≤ L.length) (hr : Rd vB w A M)
    (ho : wr.ownsRow w.heap.size 169 1 u D.length (D.map vW)) (hb : Below w.heap.size w wr) (HV : Hid (Value.int .u32 (V : Int) = vW (UInt32.ofNat V))) (HW : Hid (wordsL L = (D ++ [UInt32.ofNat V]) ++ wordsL M))
    (ho' : w1.ownsRow w.heap.size 169 1 v (D.length + 1) (D.map vW ++ [.int .u32 (V : Int)])) (hg : (wr.alloc o).grownBy w1 u.ownBlock) : WordsRel L w (.slice A M.length (cap - 4)) v w1 :=
  ⟨M, D ++ [UInt32.ofNat V], A, cap - 4, rfl, by omega, hr, by rw [HV.out] at ho'; simpa using ho',
    (hb.alloc hb.size o).grown hg (by have := hb.size; simp; omega) (fun k hk => (ho.lt k hk).1), HW.out, by simp; omega⟩

set_option maxRecDepth 100000 in
theorem words_any (L : List UInt8) (A : Option Addr) (cap : Nat) (w : World) (hr : Rd vB w A L) (hc : L.length ≤ cap) (hl : L.length ≤ 140737488351232) :
    Calls Tryz.prog 115 #[.slice A L.length cap] w (RetS vW w (wordsL L)) := by
  obtain ⟨i0, hi, hz0, hz1, hz2⟩ := info_parts info_u32
  go_enter Tryz.func115, Tryz.ntmps115
  go_wp2_with (at_make; refine wpList_make_own _ rfl _ _ 189 rfl w.heap.size 169 i0 (.int .u32 0) 1 Tryz.underlying189 hi hz0 hz1 .i64 .i64 _ (L.length / 4) rfl rfl (by omega) (by rw [hz2]; omega) (by unfold maxLen; omega) (Nat.le_refl _) ?_; intro w0 hown0 hgrow0)
  go_loopw [0, 3] (fun s v wr => WordsRel L w s v wr) (fun s _ _ => sliceLen s)
  case atStart => exact ⟨L, [], A, cap, rfl, hc, hr, hown0, (Below.refl _ _).grown hgrow0 (Nat.le_refl _) (by simp), rfl, by simp⟩
  case round =>
    obtain ⟨M, D, A1, cap1, rfl, hcap1, hrd1, hown1, hbel1, hw1, hlen1⟩ := hrel
    have HW := Lib.hid hw1
    clear hw1 hr hc
    by_cases h4 : 4 ≤ M.length
    · match M, h4 with
      | a :: b :: c :: d :: M, h4 =>
        obtain ⟨blk, o, rfl, hb, hcell⟩ := hrd1.at (k := 0) (by simp)
        have hrj : Rd vB wr (some ⟨blk, o, none⟩) [a, b, c, d] := Rd.keep (by simpa using hrd1.take 4) hbel1
        have hM : M.length + 4 ≤ cap1 := by simpa using hcap1
        have hL4 : 4 * D.length + M.length + 4 ≤ L.length := by simpa [Nat.add_assoc] using hlen1
        have hv := valN_lt8 [a, b, c, d] (by simp)
        have hv4 := valN_lt [a, b, c, d]
        simp only [List.length_cons, List.length_nil, Nat.zero_add, Nat.reduceAdd, Nat.reducePow] at hv4
        have hrd2 : Rd vB w (if cap1 = 4 then some ⟨blk, o, none⟩ else some ⟨blk, o + 4, none⟩) M := by
          have := hrd1.drop 4 cap1 hcap1
          simpa [Addr.add] using this
        have HV : Hid ((Value.int .u32 ((valN [a, b, c, d] : Nat) : Int)) = vW (UInt32.ofNat (valN [a, b, c, d]))) := by
          unfold Hid vW
          rw [UInt32.toNat_ofNat', Nat.mod_eq_of_lt (by omega)]
        have HW' : Hid (wordsL L = (D ++ [UInt32.ofNat (valN [a, b, c, d])]) ++ wordsL M) := by
          unfold Hid
          rw [HW.out, List.append_assoc]
          rfl
        generalize hgv : valN [a, b, c, d] = V at hv hv4 HV HW'
        have HG : Hid (valN [a, b, c, d] % 18446744073709551616 = V) := by unfold Hid; rw [hgv, Nat.mod_eq_of_lt hv]
        clear hgv hcell hrd1 HW hcap1 hlen1
        go_wp2_with (first
          | (go_at_call 65; refine (join_any [a, b, c, d] _ _ _ hrj (by simp)).mono ?_; rintro e w' ⟨rfl, rfl⟩; rw [HG.out])
          | (at_builtin; refine wpList_append_own _ rfl _ _ 189 rfl w.heap.size 169 i0 (.int .u32 0) 1 4 Tryz.underlying189 hi hz0 hz1 hz2 rfl (by decide) _ _ _ rfl (hown1.alloc _) ⟨wr.heap.size, 0, none⟩ 1 1 [.int .u32 (V : Int)] rfl rfl (cell_one_new _ _ _) (by intro u hu; simp at hu; subst hu; rfl) (by unfold maxLen; omega) (by omega) (by have := hbel1.size; simp; omega) ?_; intro v' w1 hown' hgrow' _))
        go_roundw
        case rel => exact words_round hM hL4 hrd2 hown1 hbel1 HV HW' hown' hgrow'
        case measure => simp [sliceLen]; omega
      | [], h4 => simp at h4
      | [_], h4 => simp at h4
      | [_, _], h4 => simp at h4
      | [_, _, _], h4 => simp at h4
    · have HE : Hid (wordsL L = D) := by unfold Hid; rw [HW.out, wordsL_short M (by omega), List.append_nil]
      go_wp2_with fail
      go_ret
      rw [HE.out]
      exact RetS.own hown1 hbel1

def BytesRel (L : List UInt32) (w : World) (v i : Value) (wr : World) : Prop :=
  ∃ k : Nat, k ≤ L.length ∧ i = .int .i64 k ∧ wr.ownsRow w.heap.size 5 1 v (bytesL (L.take k)).length ((bytesL (L.take k)).map vB) ∧ Below w.heap.size w wr

theorem bytesL_length (l : List UInt32) : (bytesL l).length = 4 * l.length := by
  unfold bytesL
  induction l with
  | nil => rfl
  | cons a l ih => rw [List.flatMap_cons, List.length_append, ih, List.length_cons]; show 4 + _ = _; omega
theorem bytesL_take (l : List UInt32) (k : Nat) (h : k < l.length) : bytesL (l.take (k + 1)) = bytesL (l.take k) ++ bytesW l[k] := by
  unfold bytesL
  rw [List.take_succ_eq_append_getElem h, List.flatMap_append]
  simp

theorem bytesW_cells (x : UInt32) : [Value.int .u8 ((x.toNat : Int) / 16777216), Value.int .u8 ((x.toNat : Int) / 65536 % 256), Value.int .u8 ((x.toNat : Int) / 256 % 256), Value.int .u8 ((x.toNat : Int) % 256)] = (bytesW x).map vB := by
  have hx := u32_lt x
  unfold bytesW
  simp only [List.map_cons, List.map_nil, vB_ofNat]
  have e0 : ((x.toNat : Int) / 16777216) = ((x.toNat / 16777216 % 256 : Nat) : Int) := by omega
  rw [e0]
  simp
theorem bytes_round {L : List UInt32} {w wr w1 : World} {k : Nat} {x : UInt32} {u v : Value} {o : Obj} (hk : k < L.length) (ho : wr.ownsRow w.heap.size 5 1 u (bytesL (L.take k)).length ((bytesL (L.take k)).map vB))
    (hb : Below w.heap.size w wr) (HT : Hid (bytesL (L.take (k + 1)) = bytesL (L.take k) ++ bytesW x)) (hg : (wr.alloc o).grownBy w1 u.ownBlock)
    (ho' : w1.ownsRow w.heap.size 5 1 v ((bytesL (L.take k)).length + 4) ((bytesL (L.take k)).map vB ++ [Value.int .u8 ((x.toNat : Int) / 16777216), Value.int .u8 ((x.toNat : Int) / 65536 % 256), Value.int .u8 ((x.toNat : Int) / 256 % 256), Value.int .u8 ((x.toNat : Int) % 256)])) :
    BytesRel L w v (.int .i64 ((k : Int) + 1)) w1 :=
  ⟨k + 1, by omega, by go_num, by rw [HT.out]; rw [bytesW_cells, ← List.map_append] at ho'; simpa [bytesW] using ho',
    (hb.alloc hb.size o).grown hg (by have := hb.size; simp; omega) (fun k hk => (ho.lt k hk).1)⟩

theorem bytes_any (L : List UInt32) (A : Option Addr) (cap : Nat) (w : World) (hr : Rd vW w A L) (hl : L.length ≤ 35184372087808) :
    Calls Tryz.prog 108 #[.slice A L.length cap] w (RetS vB w (bytesL L)) := by
  obtain ⟨i0, hi, hz0, hz1, hz2⟩ := info_parts info_u8
  go_enter Tryz.func108, Tryz.ntmps108
  go_wp2_with (at_make; refine wpList_make_own _ rfl _ _ 27 rfl w.heap.size 5 i0 (.int .u8 0) 1 Tryz.underlying27 hi hz0 hz1 .i64 .i64 _ (4 * L.length) rfl rfl (by omega) (by rw [hz2]; omega) (by unfold maxLen; omega) (Nat.le_refl _) ?_; intro w0 hown0 hgrow0)
  go_loopw [3, 12] (fun v i wr => BytesRel L w v i wr) (fun _ i _ => L.length - (intOf i).toNat)
  case atStart => exact ⟨0, Nat.zero_le _, rfl, hown0, (Below.refl _ _).grown hgrow0 (Nat.le_refl _) (by simp)⟩
  case round =>
    obtain ⟨k, hk, rfl, hown1, hbel1⟩ := hrel
    by_cases hlt : k < L.length
    · obtain ⟨blk, o, rfl, hb, hcell⟩ := hr.at hlt
      have hc0 := hcell k hlt
      have HT := Lib.hid (bytesL_take L k hlt)
      have hc : wr.cell? ⟨blk, o + k, none⟩ = some (.int .u32 (L[k].toNat : Int)) := by rw [hbel1.cell (p := ⟨blk, o + k, none⟩) hb]; exact hc0
      have hx := u32_lt L[k]
      have hn : (bytesL (L.take k)).length ≤ 4 * k := by rw [bytesL_length, List.length_take]; omega
      generalize L[k] = x at hc hx HT
      clear hcell hr hc0
      go_wp2_with (at_builtin; refine wpList_append_own _ rfl _ _ 27 rfl w.heap.size 5 i0 (.int .u8 0) 1 1 Tryz.underlying27 hi hz0 hz1 hz2 rfl (by decide) _ _ _ rfl (hown1.alloc _) ⟨wr.heap.size, 0, none⟩ 4 4 [Value.int .u8 ((x.toNat : Int) / 16777216), Value.int .u8 ((x.toNat : Int) / 65536 % 256), Value.int .u8 ((x.toNat : Int) / 256 % 256), Value.int .u8 ((x.toNat : Int) % 256)] rfl rfl (cells_new _ _ _) (by intro u hu; simp at hu; rcases hu with rfl | rfl | rfl | rfl <;> rfl) (by unfold maxLen; omega) (by omega) (by have := hbel1.size; simp; omega) ?_; intro v' w1 hown' hgrow' _)
      go_roundw
      case rel => exact bytes_round hlt hown1 hbel1 HT hgrow' hown'
      case measure => simp [intOf]; omega
    · have HE : Hid (L.take k = L) := by unfold Hid; exact List.take_of_length_le (by omega)
      go_wp2_with fail
      go_ret
      rw [HE.out] at hown1
      exact RetS.own hown1 hbel1

end Go.Proofs.YtmljhkdojopljaaGreatDoor
/-
  What bytes.Clone, slices.Clone, slices.Grow (of nil) and slices.Concat answer at lists of bytes: new memory that reads as the bytes did. Conditions: bounds on lengths, as typed.
-/
namespace Go.Proofs.YtmljhkdojopljaaGreatDoor
set_option maxRecDepth 100000
open Go.RowKit
set_option linter.unusedSimpArgs false

/-- What a call that hands back a slice in new memory says of it. -/
def RetN {α : Type} (f : α → Value) (w : World) (l : List α) (e : Ending) (w' : World) : Prop :=
  ∃ A cap, e = .returned (.slice A l.length cap) ∧ l.length ≤ cap ∧ Rd f w' A l ∧ (∀ a, A = some a → w.heap.size ≤ a.block) ∧ Below w.heap.size w w'
theorem RetN.own {α : Type} {f : α → Value} {w w' : World} {l : List α} {e : TypeId} {v : Value} (h : w'.ownsRow w.heap.size e 1 v l.length (l.map f)) (hb : Below w.heap.size w w') : RetN f w l (.returned v) w' := by
  rcases h.2 with ⟨rfl, h0⟩ | ⟨g, cap, cur, rfl, hg, _, hc, _⟩
  · have hl : l = [] := List.eq_nil_of_length_eq_zero h0
    subst hl
    exact ⟨none, 0, rfl, Nat.le_refl _, Rd.nil, (fun a h => by cases h), hb⟩
  · exact ⟨_, cap, rfl, hc, Rd.own h, (fun a ha => by injection ha with ha; subst ha; exact hg), hb⟩
theorem RetN.ret {α : Type} {f : α → Value} {w w' : World} {l : List α} {e : Ending} (h : RetN f w l e w') : RetS f w l e w' := by
  obtain ⟨A, cap, h1, h2, h3, _, h5⟩ := h
  exact ⟨A, cap, h1, h2, h3, h5⟩

theorem clone_own (b : List UInt8) (A : Option Addr) (c : Nat) (w : World) (hr : Rd vB w A b) (hl : b.length ≤ 70368744177664) : Calls Tryz.prog 30 #[.slice A b.length c] w (RetO 5 vB w b) := by
  obtain ⟨i0, hi, hz0, hz1, hz2⟩ := info_parts info_u8
  cases A with
  | none =>
    have hb : b = [] := by
      by_cases h : b = []
      · exact h
      · obtain ⟨_, _, e, _⟩ := hr h
        cases e
    subst hb
    have hnil : ∀ W, (binOp .eql 27 (.slice none 0 c) (.slice none 0 0)).run Tryz.prog W = .ok (.bool true) W := fun W => Lib.run_eql_slice_nil W _ _ none 0 c 0 0 Tryz.underlying27
    go_enter Tryz.func30, Tryz.ntmps30
    go_wp2_with fail
    go_ret
    exact ⟨_, rfl, World.ownsRow_nil _ _ _ _, Below.refl _ _⟩
  | some a =>
    have hnil : ∀ W, (binOp .eql 27 (.slice (some a) b.length c) (.slice none 0 0)).run Tryz.prog W = .ok (.bool false) W := fun W => Lib.run_eql_slice_nil W _ _ (some a) b.length c 0 0 Tryz.underlying27
    have hown0 : (w.alloc (.cells #[] 5)).ownsRow w.heap.size 5 1 (.slice (some ⟨w.heap.size, 0, none⟩) 0 0) 0 [] := World.ownsRow_made w #[] 0 (Nat.le_refl _) (by unfold maxLen; omega) rfl
    have hr0 : Rd vB (w.alloc (.cells #[] 5)) (some a) b := hr.keep (below_new (Below.refl _ _) _)
    go_enter Tryz.func30, Tryz.ntmps30
    go_wp2_with (at_builtin; refine wpList_append_rd _ rfl (.tmp 5) (.tmp 6) 27 rfl w.heap.size 5 i0 (.int .u8 0) 1 Tryz.underlying27 hi hz0 hz1 hz2 rfl _ _ _ rfl hown0 (some a) b c rfl hr0 vB_one (by unfold maxLen; omega) (by omega) (by simp) ?_; intro v1 w1 hown1 hgrow1)
    go_ret
    rw [Nat.zero_add, List.nil_append] at hown1
    exact ⟨_, rfl, hown1, (below_new (Below.refl _ w) _).grown hgrow1 (by simp) (fun k hk => (hown0.lt k hk).1)⟩
theorem clone_b (b : List UInt8) (A : Option Addr) (c : Nat) (w : World) (hr : Rd vB w A b) (hl : b.length ≤ 70368744177664) : Calls Tryz.prog 30 #[.slice A b.length c] w (RetN vB w b) :=
  (clone_own b A c w hr hl).mono fun e w' ⟨v, he, ho, hb⟩ => by subst he; exact RetN.own ho hb


theorem grow_nil (n : Nat) (w : World) (hn : n ≤ 140737488355328) : Calls Tryz.prog 70 #[.slice none 0 0, .int .i64 (n : Int)] w (RetO 5 vB w []) := by
  obtain ⟨i0, hi, hz0, hz1, hz2⟩ := info_parts info_u8
  by_cases h0 : n = 0
  · subst h0
    go_enter Tryz.func70, Tryz.ntmps70
    go_wp2_with fail
    go_ret
    exact ⟨_, rfl, World.ownsRow_nil _ _ _ _, Below.refl _ _⟩
  · have hp : (0 : Int) < (n : Int) := by omega
    have happ := Lib.run_append_nil_zeros (P := Tryz.prog) w 27 3 27 5 i0 (.int .u8 0) .i64 .i64 Tryz.underlying27 Tryz.underlying3 hi hz0 n (by omega) (by omega) (by omega) (by rw [hz2]; omega)
    have hge := grownCap_ge w n 0 5
    have hle := grownCap_le_maxLen w n 0 5 (by unfold maxLen; omega)
    generalize grownCap w n 0 5 = cap2 at happ hge hle
    have hZs : (Builtin.zeroCells (Value.int .u8 0).cells n ++ Builtin.zeroCells (Value.int .u8 0).cells (cap2 - n)).size = cap2 := by simp [size_zeroCells, Value.cells]; omega
    generalize (Builtin.zeroCells (Value.int .u8 0).cells n ++ Builtin.zeroCells (Value.int .u8 0).cells (cap2 - n)) = Z at happ hZs
    have HO : Hid ((w.drew.alloc (.cells Z 5)).ownsRow w.heap.size 5 1 (.slice (some ⟨w.heap.size, 0, none⟩) 0 cap2) 0 []) := World.ownsRow_made w.drew Z cap2 (Nat.le_refl _) hle (by rw [hZs, Nat.mul_one])
    have HB : Hid (Below w.heap.size w (w.drew.alloc (.cells Z 5))) := (Below.refl _ w).drew.alloc (Nat.le_refl _) _
    unfold maxLen at hle
    clear hZs hge
    go_enter Tryz.func70, Tryz.ntmps70
    go_wp2_with (at_builtin; refine Lib.wpList_append_run _ rfl (.tmp 20) (.tmp 21) _ _ rfl _ _ rfl rfl _ _ happ ?_)
    go_ret
    exact ⟨_, rfl, HO.out, HB.out⟩

/-- A part of what is put together: its memory, its room, its bytes. -/
structure Part where
  A : Option Addr
  cap : Nat
  l : List UInt8
def vPart (p : Part) : Value := .slice p.A p.l.length p.cap
def flatL (ps : List Part) : List UInt8 := ps.flatMap (·.l)
theorem flatL_take (ps : List Part) (k : Nat) (h : k < ps.length) : flatL (ps.take (k + 1)) = flatL (ps.take k) ++ ps[k].l := by
  unfold flatL
  rw [List.take_succ_eq_append_getElem h, List.flatMap_append]
  simp
theorem flatL_le (ps : List Part) (k : Nat) : (flatL (ps.take k)).length ≤ (flatL ps).length := by
  conv => rhs; rw [← List.take_append_drop k ps]
  unfold flatL
  rw [List.flatMap_append, List.length_append]
  omega

def ConcatRel (ps : List Part) (w : World) (v i : Value) (wr : World) : Prop :=
  ∃ k : Nat, k ≤ ps.length ∧ i = .int .i64 (k : Int) ∧ wr.ownsRow w.heap.size 5 1 v (flatL (ps.take k)).length ((flatL (ps.take k)).map vB) ∧ Below w.heap.size w wr
theorem concat_round {ps : List Part} {w wr w1 : World} {k : Nat} {u v : Value} {l : List UInt8} (hk : k < ps.length) (HF : Hid (flatL (ps.take (k + 1)) = flatL (ps.take k) ++ l)) (ho : wr.ownsRow w.heap.size 5 1 u (flatL (ps.take k)).length ((flatL (ps.take k)).map vB)) (hb : Below w.heap.size w wr)
    (ho' : w1.ownsRow w.heap.size 5 1 v ((flatL (ps.take k)).length + l.length) ((flatL (ps.take k)).map vB ++ l.map vB)) (hg : wr.grownBy w1 u.ownBlock) : ConcatRel ps w v (.int .i64 ((k : Int) + 1)) w1 :=
  ⟨k + 1, by omega, by go_num, by rw [HF.out, List.length_append, List.map_append]; exact ho', hb.grown hg hb.size (fun x hx => (ho.lt x hx).1)⟩

theorem concat_own (ps : List Part) (A : Option Addr) (c : Nat) (w : World) (hr : Rd vPart w A ps) (hn : ps.length ≤ 9223372036854775807) (hp : ∀ p ∈ ps, Rd vB w p.A p.l) (hl : (flatL ps).length ≤ 70368744177664) :
    Calls Tryz.prog 58 #[.slice A ps.length c] w (RetO 5 vB w (flatL ps)) := by
  obtain ⟨i0, hi, hz0, hz1, hz2⟩ := info_parts info_u8
  have HP := Lib.hid hp
  clear hp
  go_enter Tryz.func58, Tryz.ntmps58
  go_wp2_with fail
  go_loop [3, 11] (fun v i => ∃ k : Nat, k ≤ ps.length ∧ i = .int .i64 k ∧ v = .int .i64 ((flatL (ps.take k)).length : Int)) (fun _ i => ps.length - (intOf i).toNat)
  case atStart => exact ⟨0, Nat.zero_le _, rfl, rfl⟩
  case round =>
    obtain ⟨k, hk, rfl, rfl⟩ := hrel
    have hle := flatL_le ps k
    by_cases hlt : k < ps.length
    · obtain ⟨blk, o, rfl, hb, hcell⟩ := hr.at hlt
      have hc0 := hcell k hlt
      have HF := Lib.hid (congrArg List.length (flatL_take ps k hlt))
      have hle2 := flatL_le ps (k + 1)
      rw [HF.out, List.length_append] at hle2
      rw [List.length_append] at HF
      generalize ps[k] = p at hc0 HF hle2
      unfold vPart at hc0
      clear hcell hr
      have i1 : (0 : Int) ≤ (k : Int) := by omega
      have i2 : (k : Int) < (ps.length : Int) := by omega
      go_wp2_with fail
      go_round
      case rel => exact ⟨k + 1, by omega, by go_num, by rw [HF.out]; go_num⟩
      case measure => simp [intOf]; omega
    · have hkk : k = ps.length := by omega
      subst hkk
      have HT : Hid (flatL (ps.take ps.length) = flatL ps) := by unfold Hid; rw [List.take_length]
      rw [HT.out] at hle ⊢
      generalize hN : (flatL ps).length = N at hl hle
      have HN := Lib.hid hN
      clear hN
      go_wp2_with fail
      refine (grow_nil N _ (by omega)).mono ?_
      rintro e w1 ⟨v1, rfl, hown1, hb1⟩
      go_wp2_with fail
      go_loopw [6, 27] (fun v i wr => ConcatRel ps w v i wr) (fun _ i _ => ps.length - (intOf i).toNat)
      case atStart => exact ⟨0, Nat.zero_le _, rfl, hown1, hb1⟩
      case round =>
        clear hown1 hb1
        obtain ⟨k, hk, rfl, hown, hbel⟩ := hrel
        by_cases hlt : k < ps.length
        · obtain ⟨blk, o, rfl, hb, hcell⟩ := hr.at hlt
          have hc0 : wr.cell? ⟨blk, o + k, none⟩ = some (vPart ps[k]) := (hbel.cell (p := ⟨blk, o + k, none⟩) hb).trans (hcell k hlt)
          have HF := Lib.hid (flatL_take ps k hlt)
          have hpk := (HP.out ps[k] (List.getElem_mem hlt)).keep hbel
          have hle2 := flatL_le ps (k + 1)
          rw [HF.out, List.length_append, HN.out] at hle2
          generalize ps[k] = p at hc0 HF hle2 hpk
          unfold vPart at hc0
          clear hcell hr
          have i1 : (0 : Int) ≤ (k : Int) := by omega
          have i2 : (k : Int) < (ps.length : Int) := by omega
          go_wp2_with (at_builtin; refine wpList_append_rd _ rfl (.tmp 31) (.tmp 32) 27 rfl w.heap.size 5 i0 (.int .u8 0) 1 Tryz.underlying27 hi hz0 hz1 hz2 rfl _ _ _ rfl hown p.A p.l p.cap rfl hpk vB_one (by unfold maxLen; omega) (by omega) hbel.size ?_; intro v2 w2 hown2 hgrow2)
          go_roundw
          case rel => exact concat_round hlt HF hown hbel hown2 hgrow2
          case measure => simp [intOf]; omega
        · have hkk : k = ps.length := by omega
          subst hkk
          rw [HT.out] at hown
          go_wp2_with fail
          go_ret
          exact ⟨_, rfl, hown, hbel⟩
theorem concat_any (ps : List Part) (A : Option Addr) (c : Nat) (w : World) (hr : Rd vPart w A ps) (hn : ps.length ≤ 9223372036854775807) (hp : ∀ p ∈ ps, Rd vB w p.A p.l) (hl : (flatL ps).length ≤ 70368744177664) :
    Calls Tryz.prog 58 #[.slice A ps.length c] w (RetN vB w (flatL ps)) :=
  (concat_own ps A c w hr hn hp hl).mono fun e w' ⟨v, he, ho, hb⟩ => by subst he; exact RetN.own ho hb
theorem concat_two_own (r b T : List UInt8) (A B : Option Addr) (c d g k : Nat) (w : World) (HT : Hid (T = r ++ b)) (hp : Rd vPart w (some ⟨g, 0, none⟩) [⟨A, c, r⟩, ⟨B, d, b⟩]) (hr : Rd vB w A r) (hb : Rd vB w B b) (hl : T.length ≤ 70368744177664) :
    Calls Tryz.prog 58 #[.slice (some ⟨g, 0, none⟩) 2 k] w (RetO 5 vB w T) := by
  have e : flatL [⟨A, c, r⟩, ⟨B, d, b⟩] = T := by rw [HT.out]; simp [flatL]
  have := concat_own [⟨A, c, r⟩, ⟨B, d, b⟩] (some ⟨g, 0, none⟩) k w hp (by simp) (fun p hp => by
    simp only [List.mem_cons, List.not_mem_nil, or_false] at hp
    rcases hp with rfl | rfl
    · exact hr
    · exact hb) (by rw [e]; exact hl)
  rw [e] at this
  exact this
theorem concat_two (r b T : List UInt8) (A B : Option Addr) (c d g k : Nat) (w : World) (HT : Hid (T = r ++ b)) (hp : Rd vPart w (some ⟨g, 0, none⟩) [⟨A, c, r⟩, ⟨B, d, b⟩]) (hr : Rd vB w A r) (hb : Rd vB w B b) (hl : T.length ≤ 70368744177664) :
    Calls Tryz.prog 58 #[.slice (some ⟨g, 0, none⟩) 2 k] w (RetN vB w T) := by
  have e : flatL [⟨A, c, r⟩, ⟨B, d, b⟩] = T := by rw [HT.out]; simp [flatL]
  have := concat_any [⟨A, c, r⟩, ⟨B, d, b⟩] (some ⟨g, 0, none⟩) k w hp (by simp) (fun p hp => by
    simp only [List.mem_cons, List.not_mem_nil, or_false] at hp
    rcases hp with rfl | rfl
    · exact hr
    · exact hb) (by rw [e]; exact hl)
  rw [e] at this
  exact this

end Go.Proofs.YtmljhkdojopljaaGreatDoor
/-
  What the program's package reader does (landed code): its calls, one by one; the numbers of eight bytes. No conditions but those typed.
-/
namespace Go.Proofs.YtmljhkdojopljaaGreatDoor
set_option maxRecDepth 100000
open Go.RowKit
set_option linter.unusedSimpArgs false
set_option linter.unusedVariables false

theorem Row.only {g q : Nat} {w w' : World} {t : TypeId} {l : List Value} (h : Row w q t l) (k : Only g w w') (hq : q ≠ g) : Row w' q t l := (k.other q hq h.lt).trans h
theorem lt_ne {S : List UInt8} {A : Option Addr} {g : Nat} (h : S ≠ [] → ∀ a, A = some a → a.block < g) : S ≠ [] → ∀ a, A = some a → a.block ≠ g := fun h1 a ha => Nat.ne_of_lt (h h1 a ha)
/-- The reader's block: what is left, and what was wrong. -/
def RdS (g : Nat) (S : List UInt8) (n : Nat) (k : Int) (w : World) : Prop := ∃ A c, Row w g 75 [.slice A n c, .int .i64 k] ∧ Hid (S.length = n) ∧ n ≤ c ∧ Rd vB w A S ∧ (S ≠ [] → ∀ a, A = some a → a.block < g)

theorem cut_fromB {P : Program} (t e : TypeId) (ht : P.underlying t = some (.slice e)) (hz : ∀ w, (sizeOf e).run P w = .ok 1 w) (A : Option Addr) (n cap k : Nat) (hk : k ≤ n) (hc : n ≤ cap) :
    ∃ A', (∀ w, (Instr.slice t (.slice A n cap) (some (.int .i64 (k : Int))) none none).run P w = .ok (.slice A' (n - k) (cap - k)) w) ∧
      (∀ {α : Type} (f : α → Value) (w : World) (l : List α), l.length = n → Rd f w A l → Rd f w A' (l.drop k)) ∧ (∀ a', A' = some a' → ∃ a, A = some a ∧ a'.block = a.block) := by
  have ht' : P.underlying t = some (.slice (P.elem t)) := by simp [Program.elem, ht]
  have he : P.elem t = e := by simp [Program.elem, ht]
  refine ⟨if cap = k then A else A.map (·.add (k * 1)), fun w => ?_, fun f w l hl h => h.drop k cap (by omega), fun a' h => ?_⟩
  · rw [run_slice_l w t A n cap ht' .i64 (k : Int) (by omega) (by omega), he, hz]
    simp [sliced]
  · split at h
    · exact ⟨a', h, rfl⟩
    · cases A with
      | none => cases h
      | some a =>
        injection h with h
        subst h
        exact ⟨a, rfl, by show (a.add (k * 1)).block = a.block; simp [Addr.add] <;> (try split) <;> rfl⟩
/-! ### keep -/
theorem keep_bad (g : Nat) (v : Value) (k e : Int) (w : World) (hR : Row w g 75 [v, .int .i64 k]) (hk : k ≠ 0) :
    Calls Tryz.prog 37 #[.pointer (some ⟨g, 0, none⟩), .int .i64 e] w fun e₁ w' => e₁ = .returned (.tuple #[]) ∧ w = w' := by
  have c1 : w.cell? ⟨g, 1, none⟩ = some (.int .i64 k) := hR.cell rfl
  have k1 : (k == 0) = false := beq_eq_false_iff_ne.2 hk
  go_enter Tryz.func37, Tryz.ntmps37
  go_wp2_with fail
  first | go_end0 | refine bodyPost_ret (results_none rfl _ _ _) rfl ?_
  exact ⟨rfl, rfl⟩
theorem keep_ok (g : Nat) (v : Value) (e : Int) (w : World) (hR : Row w g 75 [v, .int .i64 0]) :
    Calls Tryz.prog 37 #[.pointer (some ⟨g, 0, none⟩), .int .i64 e] w fun e₁ w' => e₁ = .returned (.tuple #[]) ∧ Row w' g 75 [v, .int .i64 e] ∧ Only g w w' := by
  have c1 : w.cell? ⟨g, 1, none⟩ = some (.int .i64 0) := hR.cell rfl
  have f1 := hR.frozen 1
  go_enter Tryz.func37, Tryz.ntmps37
  go_wp2_with fail
  first | go_end0 | refine bodyPost_ret (results_none rfl _ _ _) rfl ?_
  exact ⟨rfl, hR.setCell 1 _, (Only.refl g w).setCell 1 _⟩

/-! ### next -/
theorem next_bad (g n : Nat) (A : Option Addr) (c : Nat) (k : Int) (m : Int) (w : World) (hR : Row w g 75 [.slice A n c, .int .i64 k]) (hk : k ≠ 0) :
    Calls Tryz.prog 53 #[.pointer (some ⟨g, 0, none⟩), .int .i64 m] w fun e₁ w' => e₁ = .returned (.slice none 0 0) ∧ w = w' := by
  have c0 : w.cell? ⟨g, 0, none⟩ = some (.slice A n c) := hR.cell rfl
  have c1 : w.cell? ⟨g, 1, none⟩ = some (.int .i64 k) := hR.cell rfl
  have k1 : (k == 0) = false := beq_eq_false_iff_ne.2 hk
  have k2 : (k != 0) = true := by rw [bne, k1]; rfl
  by_cases h : (n : Int) < m
  · go_enter Tryz.func53, Tryz.ntmps53
    go_wp2_with fail
    refine (keep_bad g _ k 2 w hR hk).mono ?_
    rintro e₁ w1 ⟨rfl, rfl⟩
    go_wp2_with fail
    go_ret
    exact ⟨rfl, rfl⟩
  · go_enter Tryz.func53, Tryz.ntmps53
    go_wp2_with fail
    go_ret
    exact ⟨rfl, rfl⟩
theorem next_short (g : Nat) (S : List UInt8) (n m : Nat) (w : World) (h : RdS g S n 0 w) (hm : n < m) :
    Calls Tryz.prog 53 #[.pointer (some ⟨g, 0, none⟩), .int .i64 (m : Int)] w fun e₁ w' => e₁ = .returned (.slice none 0 0) ∧ RdS g S n 2 w' ∧ Only g w w' := by
  obtain ⟨A, c, hR, HN, hc, hr, hA⟩ := h
  have c0 : w.cell? ⟨g, 0, none⟩ = some (.slice A n c) := hR.cell rfl
  have i1 : (n : Int) < (m : Int) := by omega
  go_enter Tryz.func53, Tryz.ntmps53
  go_wp2_with fail
  refine (keep_ok g _ 2 w hR).mono ?_
  rintro e₁ w1 ⟨rfl, hR1, hO⟩
  have hr1 := hr.only hO (lt_ne hA)
  have c0 : w1.cell? ⟨g, 0, none⟩ = some (.slice A n c) := hR1.cell rfl
  have c1 : w1.cell? ⟨g, 1, none⟩ = some (.int .i64 2) := hR1.cell rfl
  go_wp2_with fail
  go_ret
  exact ⟨rfl, ⟨A, c, hR1, HN, hc, hr1, hA⟩, hO⟩
theorem next_ok (g : Nat) (S : List UInt8) (n m : Nat) (w : World) (h : RdS g S n 0 w) (hm : m ≤ n) (hn : n ≤ 1000000) :
    Calls Tryz.prog 53 #[.pointer (some ⟨g, 0, none⟩), .int .i64 (m : Int)] w fun e₁ w' => ∃ A c, e₁ = .returned (.slice A m c) ∧ m ≤ c ∧ Rd vB w' A (S.take m) ∧ RdS g (S.drop m) (n - m) 0 w' ∧ Only g w w' := by
  obtain ⟨A, c, hR, HN, hc, hr, hA⟩ := h
  have c0 : w.cell? ⟨g, 0, none⟩ = some (.slice A n c) := hR.cell rfl
  have c1 : w.cell? ⟨g, 1, none⟩ = some (.int .i64 0) := hR.cell rfl
  have f0 := hR.frozen 0
  have i1 : ¬ (n : Int) < (m : Int) := by omega
  have i0 : (0 : Int) ≤ (m : Int) := by omega
  have i2 : (m : Int) ≤ (c : Int) := by omega
  have hmc : m ≤ c := by omega
  obtain ⟨A', hsl, hcut, hA'⟩ := cut_fromB (P := Tryz.prog) 27 5 Tryz.underlying27 size_uint8 A n c m (by omega) (by omega)
  have hto := run_cut_to (P := Tryz.prog) 27 5 Tryz.underlying27 size_uint8 A n c m (by omega)
  have hO := (Only.refl g w).setCell 0 (.slice A' (n - m) (c - m))
  have hR' := hR.setCell 0 (.slice A' (n - m) (c - m))
  have hr1 := hcut vB w S HN.out hr
  have hr2 := hr.take m
  have hne : ∀ j, S.drop j ≠ [] → S ≠ [] := fun j h e => h (by rw [e, List.drop_nil])
  have hnt : ∀ j, S.take j ≠ [] → S ≠ [] := fun j h e => h (by rw [e, List.take_nil])
  have hX : RdS g (S.drop m) (n - m) 0 (w.setCell ⟨g, 0, none⟩ (.slice A' (n - m) (c - m))) := by
    refine ⟨A', c - m, hR', by unfold Hid; rw [List.length_drop, HN.out], by omega, hr1.only hO ?_, ?_⟩
    · intro h a' ha'
      obtain ⟨a, ha, e⟩ := hA' a' ha'
      rw [e]
      exact Nat.ne_of_lt (hA (hne m h) a ha)
    · intro h a' ha'
      obtain ⟨a, ha, e⟩ := hA' a' ha'
      rw [e]
      exact hA (hne m h) a ha
  have hY : Rd vB (w.setCell ⟨g, 0, none⟩ (.slice A' (n - m) (c - m))) A (S.take m) := hr2.only hO (fun h a ha => Nat.ne_of_lt (hA (hnt m h) a ha))
  have HX := Lib.hid (And.intro hX (And.intro hY hO))
  clear hX hY hO hR' hr1 hr2 hne hnt hA' hcut hr hA hR
  go_enter Tryz.func53, Tryz.ntmps53
  go_wp2_with fail
  go_ret
  exact ⟨A, c, rfl, hmc, HX.out.2.1, HX.out.1, HX.out.2.2⟩

/-! ### one -/
theorem one_bad (g n : Nat) (A : Option Addr) (c : Nat) (k : Int) (w : World) (hR : Row w g 75 [.slice A n c, .int .i64 k]) (hk : k ≠ 0) :
    Calls Tryz.prog 51 #[.pointer (some ⟨g, 0, none⟩)] w fun e₁ w' => e₁ = .returned (.int .u8 0) ∧ w = w' := by
  go_enter Tryz.func51, Tryz.ntmps51
  go_wp2_with fail
  refine (next_bad g n A c k 1 w hR hk).mono ?_
  rintro e₁ w1 ⟨rfl, rfl⟩
  go_wp2_with fail
  go_ret
  exact ⟨rfl, rfl⟩
theorem one_short (g : Nat) (w : World) (h : RdS g [] 0 0 w) :
    Calls Tryz.prog 51 #[.pointer (some ⟨g, 0, none⟩)] w fun e₁ w' => e₁ = .returned (.int .u8 0) ∧ RdS g [] 0 2 w' ∧ Only g w w' := by
  go_enter Tryz.func51, Tryz.ntmps51
  go_wp2_with fail
  refine (next_short g [] 0 1 w h (by omega)).mono ?_
  rintro e₁ w1 ⟨rfl, h1, h2⟩
  go_wp2_with fail
  go_ret
  exact ⟨rfl, h1, h2⟩
theorem one_ok (g : Nat) (x : UInt8) (r : List UInt8) (n : Nat) (w : World) (h : RdS g (x :: r) n 0 w) (hn : n ≤ 1000000) :
    Calls Tryz.prog 51 #[.pointer (some ⟨g, 0, none⟩)] w fun e₁ w' => e₁ = .returned (.int .u8 (x.toNat : Int)) ∧ RdS g r (n - 1) 0 w' ∧ Only g w w' := by
  have hn1 : 1 ≤ n := by
    obtain ⟨_, _, _, HN, _⟩ := h
    have := HN.out
    rw [List.length_cons] at this
    omega
  go_enter Tryz.func51, Tryz.ntmps51
  go_wp2_with fail
  refine (next_ok g (x :: r) n 1 w h hn1 hn).mono ?_
  rintro e₁ w1 ⟨A, c, rfl, hmc, hr, h1, h2⟩
  have hr' : Rd vB w1 A [x] := hr
  have h1' : RdS g r (n - 1) 0 w1 := h1
  obtain ⟨b, o, rfl, hb, hc⟩ := hr'.at (show 0 < [x].length by simp)
  have hc0 : w1.cell? ⟨b, o, none⟩ = some (.int .u8 (x.toNat : Int)) := hc 0 (by simp)
  clear hr hc h1 hr'
  go_wp2_with fail
  go_ret
  exact ⟨rfl, h1', h2⟩

/-! ### mark -/
/-- What is wrong, and what is left: if nothing is wrong. -/
def RdRF (g : Nat) (k : Int) (S : List UInt8) (w : World) : Prop := ∃ S' n, RdS g S' n k w ∧ n ≤ 1000000 ∧ (k = 0 → S' = S)
theorem RdRF.below {g : Nat} {k : Int} {S : List UInt8} {w w' : World} (h : RdRF g k S w) (hb : Below (g + 1) w w') : RdRF g k S w' := by
  obtain ⟨S', n, ⟨A, c, hR, HN, hc, hr, hA⟩, hn, h2⟩ := h
  refine ⟨S', n, ⟨A, c, hR.keep hb (by omega), HN, hc, fun hne => ?_, hA⟩, hn, h2⟩
  obtain ⟨b, o, rfl, hcell⟩ := hr hne
  have hlt := hA hne _ rfl
  refine ⟨b, o, rfl, fun i hi => ?_⟩
  rw [← hcell i hi]
  exact hb.cell (p := ⟨b, o + i, none⟩) (show b < g + 1 by exact Nat.lt_succ_of_lt hlt)
theorem RdRF.lt {g : Nat} {k : Int} {S : List UInt8} {w : World} (h : RdRF g k S w) : g < w.heap.size := by
  obtain ⟨S', n, ⟨A, c, hR, _⟩, _⟩ := h
  exact hR.lt
/-- Behind a mark: what is wrong, what is left. -/
def markK (M : UInt8) : List UInt8 → Int × List UInt8
  | [] => (2, [])
  | x :: r => if x ≠ M then (3, []) else (0, r)
theorem mark_any (M : UInt8) (m : Nat) (hM : M.toNat = m) (h0 : m ≠ 0) (g : Nat) (b : List UInt8) (n : Nat) (w : World) (h : RdS g b n 0 w) (hn : n ≤ 1000000) :
    Calls Tryz.prog 32 #[.pointer (some ⟨g, 0, none⟩), .int .u8 (m : Int)] w fun e₁ w' => e₁ = .returned (.tuple #[]) ∧ RdRF g (markK M b).1 (markK M b).2 w' ∧ Only g w w' := by
  cases b with
  | nil =>
    have en : n = 0 := by
      obtain ⟨_, _, _, HN, _⟩ := h
      exact HN.out.symm
    subst en
    have z1 : ((0 : Int) == (m : Int)) = false := beq_eq_false_iff_ne.2 (by omega)
    have z2 : ((0 : Int) != (m : Int)) = true := by rw [bne, z1]; rfl
    go_enter Tryz.func32, Tryz.ntmps32
    go_wp2_with fail
    refine (one_short g w h).mono ?_
    rintro e₁ w1 ⟨rfl, h1, h2⟩
    go_wp2_with fail
    obtain ⟨A, c, hR, _⟩ := id h1
    refine (keep_bad g _ 2 3 w1 hR (by decide)).mono ?_
    rintro e₁ w2 ⟨rfl, rfl⟩
    go_wp2_with fail
    first | go_end0 | refine bodyPost_ret (results_none rfl _ _ _) rfl ?_
    exact ⟨rfl, ⟨[], 0, h1, by omega, fun h => absurd (show (2 : Int) = 0 from h) (by decide)⟩, h2⟩
  | cons x r =>
    by_cases hx : x = M
    · have HM : Hid (markK M (x :: r) = (0, r)) := if_neg (not_not_intro hx)
      have hO := Lib.hid (one_ok g x r n w h hn)
      rw [HM.out]
      have hxm : x.toNat = m := by rw [hx]; exact hM
      rw [hxm] at hO
      clear HM hxm hx hM h
      go_enter Tryz.func32, Tryz.ntmps32
      go_wp2_with fail
      refine hO.out.mono ?_
      rintro e₁ w1 ⟨rfl, h1, h2⟩
      go_wp2_with fail
      first | go_end0 | refine bodyPost_ret (results_none rfl _ _ _) rfl ?_
      exact ⟨rfl, ⟨r, n - 1, h1, by omega, fun _ => rfl⟩, h2⟩
    · have HM : Hid (markK M (x :: r) = (3, [])) := if_pos hx
      have hx2 : x.toNat ≠ m := fun e => hx (UInt8.toNat_inj.1 (e.trans hM.symm))
      have hO := Lib.hid (one_ok g x r n w h hn)
      rw [HM.out]
      generalize x.toNat = q at hx2 hO
      have hx3 : ((q : Int) == (m : Int)) = false := beq_eq_false_iff_ne.2 (by omega)
      have hx4 : ((q : Int) != (m : Int)) = true := by rw [bne, hx3]; rfl
      clear HM hx hM h hx2
      go_enter Tryz.func32, Tryz.ntmps32
      go_wp2_with fail
      refine hO.out.mono ?_
      rintro e₁ w1 ⟨rfl, h1, h2⟩
      obtain ⟨A, c, hR, HN, hc, hr, hA⟩ := id h1
      go_wp2_with fail
      refine (keep_ok g _ 3 w1 hR).mono ?_
      rintro e₁ w2 ⟨rfl, hR2, h3⟩
      go_wp2_with fail
      first | go_end0 | refine bodyPost_ret (results_none rfl _ _ _) rfl ?_
      exact ⟨rfl, ⟨r, n - 1, ⟨A, c, hR2, HN, hc, hr.only h3 (lt_ne hA), hA⟩, by omega, fun h => absurd h (by decide)⟩, h2.trans h3⟩

/-! ### Keep, One, Next, Number, whatever is wrong -/
def keepK (k e : Int) : Int := if k = 0 then e else k
/-- Keep: what is wrong stays; what is left, too. -/
theorem keep_any (g : Nat) (k e : Int) (S : List UInt8) (w : World) (h : RdRF g k S w) :
    Calls Tryz.prog 37 #[.pointer (some ⟨g, 0, none⟩), .int .i64 e] w fun e₁ w' => e₁ = .returned (.tuple #[]) ∧ RdRF g (keepK k e) S w' ∧ Only g w w' := by
  obtain ⟨S', n, h1, hn, h2⟩ := h
  unfold keepK
  by_cases hk : k = 0
  · rw [if_pos hk]
    have e' := h2 hk
    subst e' hk
    obtain ⟨A, c, hR, HN, hc, hr, hA⟩ := h1
    refine (keep_ok g _ e w hR).mono ?_
    rintro e₁ w2 ⟨rfl, hR2, h3⟩
    exact ⟨rfl, ⟨S', n, ⟨A, c, hR2, HN, hc, hr.only h3 (lt_ne hA), hA⟩, hn, fun _ => rfl⟩, h3⟩
  · rw [if_neg hk]
    obtain ⟨A, c, hR, _⟩ := id h1
    refine (keep_bad g _ k e w hR hk).mono ?_
    rintro e₁ w' ⟨rfl, rfl⟩
    exact ⟨rfl, ⟨S', n, h1, hn, fun h => absurd h hk⟩, Only.refl g w⟩
/-- One: the byte, what is wrong, what is left. -/
def oneK (k : Int) (S : List UInt8) : Nat × Int × List UInt8 := if k = 0 then (match S with | [] => (0, 2, []) | x :: r => (x.toNat, 0, r)) else (0, k, [])
theorem oneK_lt (k : Int) (S : List UInt8) : (oneK k S).1 < 256 := by
  unfold oneK
  split
  · split
    · show 0 < 256; omega
    · exact UInt8.toNat_lt _
  · show 0 < 256; omega
theorem one_any (g : Nat) (k : Int) (S : List UInt8) (w : World) (h : RdRF g k S w) :
    Calls Tryz.prog 51 #[.pointer (some ⟨g, 0, none⟩)] w fun e₁ w' => e₁ = .returned (.int .u8 ((oneK k S).1 : Int)) ∧ RdRF g (oneK k S).2.1 (oneK k S).2.2 w' ∧ Only g w w' := by
  obtain ⟨S', n, h1, hn, h2⟩ := h
  unfold oneK
  by_cases hk : k = 0
  · rw [if_pos hk]
    have e' := h2 hk
    subst e' hk
    cases S' with
    | nil =>
      have en : n = 0 := by
        obtain ⟨_, _, _, HN, _⟩ := h1
        exact HN.out.symm
      subst en
      refine (one_short g w h1).mono ?_
      rintro e₁ w1 ⟨rfl, h3, h4⟩
      exact ⟨rfl, ⟨[], 0, h3, by omega, fun h => absurd h (by decide)⟩, h4⟩
    | cons x r =>
      refine (one_ok g x r n w h1 hn).mono ?_
      rintro e₁ w1 ⟨rfl, h3, h4⟩
      exact ⟨rfl, ⟨r, n - 1, h3, by omega, fun _ => rfl⟩, h4⟩
  · rw [if_neg hk]
    obtain ⟨A, c, hR, _⟩ := id h1
    refine (one_bad g n A c k w hR hk).mono ?_
    rintro e₁ w' ⟨rfl, rfl⟩
    exact ⟨rfl, ⟨S', n, h1, hn, fun h => absurd h hk⟩, Only.refl g w⟩
/-- Next: the bytes, what is wrong, what is left. -/
def nextK (m : Nat) (k : Int) (S : List UInt8) : List UInt8 × Int × List UInt8 := if k = 0 then (if S.length < m then ([], 2, []) else (S.take m, 0, S.drop m)) else ([], k, [])
theorem next_any (g m : Nat) (k : Int) (S : List UInt8) (w : World) (h : RdRF g k S w) :
    Calls Tryz.prog 53 #[.pointer (some ⟨g, 0, none⟩), .int .i64 (m : Int)] w fun e₁ w' => ∃ A q c, e₁ = .returned (.slice A q c) ∧ Hid ((nextK m k S).1.length = q) ∧ q ≤ m ∧ q ≤ c ∧ Rd vB w' A (nextK m k S).1 ∧ RdRF g (nextK m k S).2.1 (nextK m k S).2.2 w' ∧ Only g w w' := by
  obtain ⟨S', n, h1, hn, h2⟩ := h
  unfold nextK
  by_cases hk : k = 0
  · rw [if_pos hk]
    have e' := h2 hk
    subst e' hk
    have hl : S'.length = n := by
      obtain ⟨_, _, _, HN, _⟩ := h1
      exact HN.out
    by_cases hm : S'.length < m
    · rw [if_pos hm]
      refine (next_short g S' n m w h1 (by omega)).mono ?_
      rintro e₁ w1 ⟨rfl, h3, h4⟩
      exact ⟨none, 0, 0, rfl, Lib.hid rfl, Nat.zero_le _, Nat.le_refl _, Rd.nil, ⟨S', n, h3, hn, fun h => absurd h (by decide)⟩, h4⟩
    · rw [if_neg hm]
      have hcap : ∃ c0 A0, Row w g 75 [.slice A0 n c0, .int .i64 0] ∧ n ≤ c0 := by
        obtain ⟨A0, c0, hR, _, hc, _⟩ := h1
        exact ⟨c0, A0, hR, hc⟩
      refine (next_ok g S' n m w h1 (by omega) hn).mono ?_
      rintro e₁ w1 ⟨A, c, rfl, hc1, h5, h3, h4⟩
      exact ⟨A, m, c, rfl, Lib.hid (by rw [List.length_take]; omega), Nat.le_refl _, hc1, h5, ⟨_, n - m, h3, by omega, fun _ => rfl⟩, h4⟩
  · rw [if_neg hk]
    obtain ⟨A, c, hR, _⟩ := id h1
    refine (next_bad g n A c k m w hR hk).mono ?_
    rintro e₁ w' ⟨rfl, rfl⟩
    exact ⟨none, 0, 0, rfl, Lib.hid rfl, Nat.zero_le _, Nat.le_refl _, Rd.nil, ⟨S', n, h1, hn, fun h => absurd h hk⟩, Only.refl g w⟩
/-- Number: eight bytes. -/
def num8K (k : Int) (S : List UInt8) : Nat × Int × List UInt8 := if k = 0 then (if S.length < 8 then (0, 2, []) else (valN (S.take 8), 0, S.drop 8)) else (0, k, [])
theorem num8_next (k : Int) (S : List UInt8) : num8K k S = ((getR (nextK 8 k S).1).1, (nextK 8 k S).2.1, (nextK 8 k S).2.2) := by
  unfold num8K nextK
  split
  · split
    · rfl
    · unfold getR
      rw [if_pos (by rw [List.length_take]; omega)]
  · rfl
theorem getR_at (l : List UInt8) (n : Nat) (A : Option Addr) (cap : Nat) (w : World) (HN : Hid (l.length = n)) (hr : Rd vB w A l) (hl : n ≤ 1000000) :
    Calls Tryz.prog 52 #[.slice A n cap] w fun e w' => e = .returned (.tuple #[.int .u64 ((getR l).1 : Int), .int .i64 (getR l).2]) ∧ w = w' := by
  have e := HN.out
  subst e
  exact get_any l A cap w hr (by omega)
theorem number8_any (g : Nat) (k : Int) (S : List UInt8) (w : World) (h : RdRF g k S w) :
    Calls Tryz.prog 33 #[.pointer (some ⟨g, 0, none⟩)] w fun e₁ w' => e₁ = .returned (.int .u64 ((num8K k S).1 : Int)) ∧ RdRF g (num8K k S).2.1 (num8K k S).2.2 w' ∧ Only g w w' := by
  rw [num8_next]
  have hN := Lib.hid (next_any g 8 k S w h)
  generalize nextK 8 k S = X at hN ⊢
  obtain ⟨L, k', S'⟩ := X
  dsimp only at hN ⊢
  clear h
  go_enter Tryz.func33, Tryz.ntmps33
  go_wp2_with fail
  refine hN.out.mono ?_
  rintro e₁ w1 ⟨A, q, c, rfl, HL, hq, hqc, hr, h3, h4⟩
  go_wp2_with fail
  refine (getR_at L q A c w1 HL hr (by omega)).mono ?_
  rintro e₁ w2 ⟨rfl, rfl⟩
  go_wp2_with fail
  go_ret
  exact ⟨rfl, h3, h4⟩
end Go.Proofs.YtmljhkdojopljaaGreatDoor
/-
  What the program's Read of layer 16 does, step by step, is what the document says: as plain functions. No conditions but those typed.
-/
namespace Go.Proofs.YtmljhkdojopljaaGreatDoor
set_option maxRecDepth 100000
set_option linter.unusedVariables false
set_option linter.unusedSimpArgs false

/-- A count: from lo to hi; else 0, and ErrForm, unless something was wrong. -/
def cntK (lo hi : Nat) (k : Int) (S : List UInt8) : Nat × Int × List UInt8 := if lo ≤ (oneK k S).1 ∧ (oneK k S).1 ≤ hi then oneK k S else (0, keepK (oneK k S).2.1 3, (oneK k S).2.2)
/-- An entry. -/
def entK (k : Int) (S : List UInt8) : En × Int × List UInt8 :=
  let t := num8K k S
  let e := num8K t.2.1 t.2.2
  let c := cntK 1 32 e.2.1 e.2.2
  let s := nextK c.1 c.2.1 c.2.2
  ((t.1, e.1, s.1), s.2.1, s.2.2)
def entsK : Nat → Int → List UInt8 → List En × Int × List UInt8
  | 0, k, S => ([], k, S)
  | n + 1, k, S => ((entK k S).1 :: (entsK n (entK k S).2.1 (entK k S).2.2).1, (entsK n (entK k S).2.1 (entK k S).2.2).2)
theorem num8K_bad {k : Int} (S : List UInt8) (h : k ≠ 0) : num8K k S = (0, k, []) := if_neg h
theorem oneK_bad {k : Int} (S : List UInt8) (h : k ≠ 0) : oneK k S = (0, k, []) := if_neg h
theorem nextK_bad {k : Int} (m : Nat) (S : List UInt8) (h : k ≠ 0) : nextK m k S = ([], k, []) := if_neg h
theorem keepK_bad {k : Int} (e : Int) (h : k ≠ 0) : keepK k e = k := if_neg h
theorem cntK_bad {k : Int} (lo hi : Nat) (S : List UInt8) (h : k ≠ 0) : cntK lo hi k S = (0, k, []) := by
  unfold cntK
  rw [oneK_bad S h]
  dsimp only
  rw [keepK_bad 3 h]
  split <;> rfl
theorem entK_bad {k : Int} (S : List UInt8) (h : k ≠ 0) : entK k S = ((0, 0, []), k, []) := by
  unfold entK
  rw [num8K_bad S h]
  dsimp only
  rw [num8K_bad _ h]
  dsimp only
  rw [cntK_bad _ _ _ h]
  dsimp only
  rw [nextK_bad _ _ h]
theorem entsK_bad : ∀ (n : Nat) {k : Int} (S : List UInt8), k ≠ 0 → (entsK n k S).2.1 = k
  | 0, _, _, _ => rfl
  | n + 1, k, S, h => by
    unfold entsK
    rw [entK_bad S h]
    exact entsK_bad n [] h
theorem entsK_length : ∀ (n : Nat) (k : Int) (S : List UInt8), (entsK n k S).1.length = n
  | 0, _, _ => rfl
  | n + 1, k, S => by
    unfold entsK
    rw [List.length_cons, entsK_length n]
theorem num8K_lt (k : Int) (S : List UInt8) : (num8K k S).1 < 18446744073709551616 := by
  unfold num8K
  split
  · split
    · show 0 < 18446744073709551616; omega
    · exact valN_lt8 _ (by rw [List.length_take]; omega)
  · show 0 < 18446744073709551616; omega
theorem cntK_le (lo hi : Nat) (k : Int) (S : List UInt8) : (cntK lo hi k S).1 ≤ hi := by
  unfold cntK
  split
  · rename_i h; exact h.2
  · exact Nat.zero_le _
theorem nextK_le (m : Nat) (k : Int) (S : List UInt8) : (nextK m k S).1.length ≤ m := by
  unfold nextK
  split
  · split
    · exact Nat.zero_le _
    · rw [List.length_take]; omega
  · exact Nat.zero_le _
theorem entK_fit (k : Int) (S : List UInt8) : (entK k S).1.1 < 18446744073709551616 ∧ (entK k S).1.2.1 < 18446744073709551616 ∧ (entK k S).1.2.2.length ≤ 32 := by
  unfold entK
  exact ⟨num8K_lt _ _, num8K_lt _ _, Nat.le_trans (nextK_le _ _ _) (cntK_le _ _ _ _)⟩
theorem entsK_fit : ∀ (n : Nat) (k : Int) (S : List UInt8), ∀ x ∈ (entsK n k S).1, x.1 < 18446744073709551616 ∧ x.2.1 < 18446744073709551616 ∧ x.2.2.length ≤ 32
  | 0, _, _, x, hx => by cases hx
  | n + 1, k, S, x, hx => by
    unfold entsK at hx
    rcases List.mem_cons.1 hx with rfl | hx
    · exact entK_fit k S
    · exact entsK_fit n _ _ x hx
/-- One entry, where nothing is wrong yet. -/
theorem entK_zero (S : List UInt8) : entK 0 S =
    if S.length < 8 then ((0, 0, []), 2, []) else if S.length < 16 then ((valN (S.take 8), 0, []), 2, []) else if S.length < 17 then ((valN (S.take 8), valN ((S.drop 8).take 8), []), 2, [])
    else if (S.getD 16 0).toNat = 0 ∨ 32 < (S.getD 16 0).toNat then ((valN (S.take 8), valN ((S.drop 8).take 8), []), 3, []) else if S.length < 17 + (S.getD 16 0).toNat then ((valN (S.take 8), valN ((S.drop 8).take 8), []), 2, []) else (entE S, 0, S.drop (17 + (S.getD 16 0).toNat)) := by
  unfold entK
  by_cases h8 : S.length < 8
  · rw [if_pos h8]
    have e1 : num8K 0 S = (0, 2, []) := by unfold num8K; rw [if_pos rfl, if_pos h8]
    rw [e1]
    dsimp only
    rw [num8K_bad _ (by decide)]
    dsimp only
    rw [cntK_bad _ _ _ (by decide)]
    dsimp only
    rw [nextK_bad _ _ (by decide)]
  · rw [if_neg h8]
    have e1 : num8K 0 S = (valN (S.take 8), 0, S.drop 8) := by unfold num8K; rw [if_pos rfl, if_neg h8]
    rw [e1]
    dsimp only
    by_cases h16 : S.length < 16
    · rw [if_pos h16]
      have e2 : num8K 0 (S.drop 8) = (0, 2, []) := by unfold num8K; rw [if_pos rfl, if_pos (by rw [List.length_drop]; omega)]
      rw [e2]
      dsimp only
      rw [cntK_bad _ _ _ (by decide)]
      dsimp only
      rw [nextK_bad _ _ (by decide)]
    · rw [if_neg h16]
      have e2 : num8K 0 (S.drop 8) = (valN ((S.drop 8).take 8), 0, S.drop 16) := by unfold num8K; rw [if_pos rfl, if_neg (by rw [List.length_drop]; omega), List.drop_drop]
      rw [e2]
      dsimp only
      by_cases h17 : S.length < 17
      · rw [if_pos h17]
        have e3 : S.drop 16 = [] := List.drop_of_length_le (by omega)
        have e4 : cntK 1 32 0 [] = (0, 2, []) := rfl
        rw [e3, e4]
        dsimp only
        rw [nextK_bad _ _ (by decide)]
      · rw [if_neg h17]
        have e3 : S.drop 16 = S.getD 16 0 :: S.drop 17 := by
          rw [List.drop_eq_getElem_cons (by omega), List.getD_eq_getElem?_getD, List.getElem?_eq_getElem (by omega)]
          rfl
        rw [e3]
        have e4 : oneK 0 (S.getD 16 0 :: S.drop 17) = ((S.getD 16 0).toNat, 0, S.drop 17) := rfl
        by_cases hm : (S.getD 16 0).toNat = 0 ∨ 32 < (S.getD 16 0).toNat
        · rw [if_pos hm]
          have e5 : cntK 1 32 0 (S.getD 16 0 :: S.drop 17) = (0, 3, S.drop 17) := by
            unfold cntK
            rw [e4]
            dsimp only
            rw [if_neg (by omega)]
            rfl
          rw [e5]
          dsimp only
          rw [nextK_bad _ _ (by decide)]
        · rw [if_neg hm]
          have e5 : cntK 1 32 0 (S.getD 16 0 :: S.drop 17) = ((S.getD 16 0).toNat, 0, S.drop 17) := by
            unfold cntK
            rw [e4]
            dsimp only
            rw [if_pos (by omega)]
          rw [e5]
          dsimp only
          unfold nextK
          rw [if_pos rfl, List.length_drop]
          by_cases hl : S.length < 17 + (S.getD 16 0).toNat
          · rw [if_pos hl, if_pos (by omega)]
          · rw [if_neg hl, if_neg (by omega), List.drop_drop]
            rfl
/-- The entries: those that the document says, or the first that is wrong. -/
theorem ents_read : ∀ (n : Nat) (S : List UInt8), if (readEs n S).2.2 = 0 then entsK n 0 S = ((readEs n S).1, 0, (readEs n S).2.1) else (entsK n 0 S).2.1 = (readEs n S).2.2
  | 0, S => by
    have h : (readEs 0 S).2.2 = 0 := rfl
    rw [if_pos h]
    rfl
  | n + 1, S => by
    have ez := entK_zero S
    by_cases h17 : S.length < 17
    · have hk : (entK 0 S).2.1 = 2 := by
        rw [ez]
        split
        · rfl
        · split
          · rfl
          · rfl
      have er : readEs (n + 1) S = ([], [], 2) := by unfold readEs; rw [if_pos h17]
      rw [er, if_neg (by decide)]
      unfold entsK
      rw [hk]
      exact entsK_bad n _ (by decide)
    · rw [if_neg (by omega), if_neg (by omega), if_neg h17] at ez
      by_cases hm : (S.getD 16 0).toNat = 0 ∨ 32 < (S.getD 16 0).toNat
      · rw [if_pos hm] at ez
        have er : readEs (n + 1) S = ([], [], 3) := by unfold readEs; rw [if_neg h17, if_pos hm]
        rw [er, if_neg (by decide)]
        unfold entsK
        rw [ez]
        dsimp only
        exact entsK_bad n _ (by decide)
      · rw [if_neg hm] at ez
        by_cases hl : S.length < 17 + (S.getD 16 0).toNat
        · rw [if_pos hl] at ez
          have er : readEs (n + 1) S = ([], [], 2) := by unfold readEs; rw [if_neg h17, if_neg hm, if_pos hl]
          rw [er, if_neg (by decide)]
          unfold entsK
          rw [ez]
          dsimp only
          exact entsK_bad n _ (by decide)
        · rw [if_neg hl] at ez
          have ih := ents_read n (S.drop (17 + (S.getD 16 0).toNat))
          unfold entsK
          rw [ez]
          dsimp only
          unfold readEs
          rw [if_neg h17, if_neg hm, if_neg hl]
          by_cases h0 : (readEs n (S.drop (17 + (S.getD 16 0).toNat))).2.2 = 0
          · rw [if_pos h0] at ih ⊢
            rw [if_pos rfl, ih]
          · rw [if_neg h0] at ih ⊢
            rw [if_neg h0]
            exact ih
theorem readEs_le : ∀ (n : Nat) (S : List UInt8), (readEs n S).2.1.length ≤ S.length
  | 0, _ => Nat.le_refl _
  | n + 1, S => by
    unfold readEs
    have ih := readEs_le n (S.drop (17 + (S.getD 16 0).toNat))
    rw [List.length_drop] at ih
    split
    · exact Nat.zero_le _
    · split
      · exact Nat.zero_le _
      · split
        · exact Nat.zero_le _
        · split
          · dsimp only; omega
          · exact Nat.zero_le _
/-- Step by step it is readBun. -/
theorem bun_steps {b S0 S1 S2 S3 : List UInt8} {k0 k1 k2 k3 : Int} {v q : Nat} {es : List En} (h0 : markK 66 b = (k0, S0)) (h1 : num8K k0 S0 = (v, k1, S1)) (h2 : cntK 0 64 k1 S1 = (q, k2, S2)) (h3 : entsK q k2 S2 = (es, k3, S3)) :
    if k3 = 0 then S3.length ≤ b.length ∧ readBun b = (if (readG S3).2.2 ≠ 0 then badB (readG S3).2.2 else if rightB es (readG S3).1 = true then (v, es, (readG S3).1, b.length - S3.length + (readG S3).2.1, 0) else badB 3) else readBun b = badB k3 := by
  have t3 : k2 ≠ 0 → k3 = k2 := fun h => by
    have := entsK_bad q S2 h
    rw [h3] at this
    exact this
  have t2 : k1 ≠ 0 → k2 = k1 := fun h => by rw [cntK_bad _ _ _ h] at h2; injection h2 with _ h2; injection h2 with h2 _; exact h2.symm
  have t1 : k0 ≠ 0 → k1 = k0 := fun h => by rw [num8K_bad _ h] at h1; injection h1 with _ h1; injection h1 with h1 _; exact h1.symm
  cases b with
  | nil =>
    have e0 : (2 : Int) = k0 := congrArg Prod.fst h0
    subst e0
    have e1 := t1 (by decide)
    have e2 := t2 (by rw [e1]; decide)
    have e3 := t3 (by rw [e2, e1]; decide)
    rw [e3, e2, e1, if_neg (by decide)]
    exact bun_zero [] rfl
  | cons x r =>
    unfold markK at h0
    dsimp only at h0
    by_cases hx : x = 66
    · subst hx
      rw [if_neg (by simp)] at h0
      injection h0 with h0 h0'
      subst h0
      subst h0'
      unfold num8K at h1
      rw [if_pos rfl] at h1
      have g0 : (66 :: r).getD 0 0 = (66 : UInt8) := rfl
      by_cases h8 : r.length < 8
      · rw [if_pos h8] at h1
        injection h1 with _ h1
        injection h1 with h1 _
        have e2 := t2 (by rw [← h1]; decide)
        have e3 := t3 (by rw [e2, ← h1]; decide)
        rw [e3, e2, ← h1, if_neg (by decide)]
        exact bun_short _ (by simp) g0 (by rw [List.length_cons]; omega)
      · rw [if_neg h8] at h1
        injection h1 with hv h1
        injection h1 with h1 h1'
        subst h1
        by_cases h9 : r.length < 9
        · have eS : S1 = [] := by rw [← h1']; exact List.drop_of_length_le (by omega)
          subst eS
          have e4 : cntK 0 64 0 [] = (0, 2, []) := rfl
          rw [e4] at h2
          injection h2 with _ h2
          injection h2 with h2 _
          have e3 := t3 (by rw [← h2]; decide)
          rw [e3, ← h2, if_neg (by decide)]
          exact bun_short _ (by simp) g0 (by rw [List.length_cons]; omega)
        · have e9 : (66 :: r).getD 9 0 = r.getD 8 0 := rfl
          have eS : S1 = r.getD 8 0 :: r.drop 9 := by
            rw [← h1', List.drop_eq_getElem_cons (by omega), List.getD_eq_getElem?_getD, List.getElem?_eq_getElem (by omega)]
            rfl
          subst eS
          have e10 : (66 :: r).drop 10 = r.drop 9 := rfl
          have e4 : oneK 0 (r.getD 8 0 :: r.drop 9) = ((r.getD 8 0).toNat, 0, r.drop 9) := rfl
          unfold cntK at h2
          rw [e4] at h2
          dsimp only at h2
          by_cases h64 : 64 < (r.getD 8 0).toNat
          · rw [if_neg (by omega)] at h2
            injection h2 with _ h2
            injection h2 with h2 _
            have h2' : (3 : Int) = k2 := h2
            have e3 := t3 (by rw [← h2']; decide)
            rw [e3, ← h2', if_neg (by decide)]
            exact bun_many _ g0 (by rw [List.length_cons]; omega) (by rw [e9]; exact h64)
          · rw [if_pos (by omega)] at h2
            injection h2 with hq h2
            injection h2 with h2 h2'
            subst h2
            have hb := bun_body (66 :: r) g0 (by rw [List.length_cons]; omega) (by rw [e9]; exact h64) _ rfl
            rw [e9, e10, hq, h2'] at hb
            have hr := ents_read q S2
            rw [h3] at hr
            have hv' : valN (((66 :: r).drop 1).take 8) = v := hv
            rw [hv'] at hb
            by_cases hz : (readEs q S2).2.2 = 0
            · rw [if_pos hz] at hr
              injection hr with r1 r2
              injection r2 with r2 r3
              rw [if_pos r2, hb, if_neg (fun h => h hz), r1, r3]
              refine ⟨?_, rfl⟩
              have hl := readEs_le q S2
              have hl2 := congrArg List.length h2'
              rw [List.length_drop] at hl2
              rw [List.length_cons]
              omega
            · rw [if_neg hz] at hr
              dsimp only at hr
              rw [if_neg (by rw [hr]; exact hz), hb, if_pos hz, hr]
    · rw [if_pos hx] at h0
      have e0 : (3 : Int) = k0 := congrArg Prod.fst h0
      subst e0
      have e1 := t1 (by decide)
      have e2 := t2 (by rw [e1]; decide)
      have e3 := t3 (by rw [e2, e1]; decide)
      rw [e3, e2, e1, if_neg (by decide)]
      exact bun_mark _ (by simp) hx
/-- What is wrong in the end. -/
def finK (R : Bool) (k : Int) : Int := if R = true then k else keepK k 3
theorem bun_final {b S0 S1 S2 S3 : List UInt8} {k0 k1 k2 k3 : Int} {v q : Nat} {es : List En} (h0 : markK 66 b = (k0, S0)) (h1 : num8K k0 S0 = (v, k1, S1)) (h2 : cntK 0 64 k1 S1 = (q, k2, S2)) (h3 : entsK q k2 S2 = (es, k3, S3)) {k' : Int} {S' : List UInt8} {l : List Gn} (g1 : k3 ≠ 0 → k' = k3)
    (g2 : k3 = 0 → k' = (readG S3).2.2 ∧ (k' = 0 → l = (readG S3).1 ∧ S' = S3.drop (readG S3).2.1 ∧ (readG S3).2.1 ≤ S3.length)) :
    (finK (rightB es l) k' ≠ 0 → readBun b = badB (finK (rightB es l) k')) ∧ (finK (rightB es l) k' = 0 → readBun b = (v, es, l, b.length - S'.length, 0) ∧ S'.length ≤ b.length) := by
  have hs := bun_steps h0 h1 h2 h3
  by_cases hk : k3 = 0
  · rw [if_pos hk] at hs
    obtain ⟨hl, hr⟩ := hs
    obtain ⟨e1, e2⟩ := g2 hk
    by_cases hk' : k' = 0
    · obtain ⟨f1, f2, f3⟩ := e2 hk'
      rw [hk'] at e1
      rw [if_neg (fun h => h e1.symm), ← f1] at hr
      unfold finK
      cases hR : rightB es l with
      | true =>
        rw [if_pos rfl]
        rw [hR, if_pos rfl] at hr
        refine ⟨fun h => absurd hk' h, fun _ => ⟨?_, by rw [f2, List.length_drop]; omega⟩⟩
        rw [hr, f2, List.length_drop]
        congr 4
        omega
      | false =>
        rw [if_neg Bool.false_ne_true]
        rw [hR, if_neg Bool.false_ne_true] at hr
        have : keepK k' 3 = 3 := if_pos hk'
        rw [this]
        exact ⟨fun _ => hr, fun h => absurd h (by decide)⟩
    · have hf : finK (rightB es l) k' = k' := by
        unfold finK
        split
        · rfl
        · exact keepK_bad 3 hk'
      rw [hf]
      rw [← e1, if_pos hk'] at hr
      exact ⟨fun _ => hr, fun h => absurd h hk'⟩
  · rw [if_neg hk] at hs
    have e1 := g1 hk
    have hf : finK (rightB es l) k' = k' := by
      unfold finK
      split
      · rfl
      · exact keepK_bad 3 (by rw [e1]; exact hk)
    rw [hf, e1]
    exact ⟨fun _ => hs, fun h => absurd h hk⟩
/-- One entry more. -/
theorem ents_more {q k : Nat} {k2 kk : Int} {S2 S : List UInt8} {C : List En} (hk : k < q) (h : entsK q k2 S2 = (C ++ (entsK (q - k) kk S).1, (entsK (q - k) kk S).2)) : entsK q k2 S2 = ((C ++ [(entK kk S).1]) ++ (entsK (q - (k + 1)) (entK kk S).2.1 (entK kk S).2.2).1, (entsK (q - (k + 1)) (entK kk S).2.1 (entK kk S).2.2).2) := by
  have e : entsK (q - k) kk S = ((entK kk S).1 :: (entsK (q - (k + 1)) (entK kk S).2.1 (entK kk S).2.2).1, (entsK (q - (k + 1)) (entK kk S).2.1 (entK kk S).2.2).2) := by
    rw [show q - k = (q - (k + 1)) + 1 by omega]
    rfl
  rw [h, e]
  simp
end Go.Proofs.YtmljhkdojopljaaGreatDoor
