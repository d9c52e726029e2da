/-
  A region that draws its order, whose operations read, or make memory and write nothing that was there: one plan serves every order (no program is named here). Conditions: the plan is one that the region's edges allow (a Bool, reckoned), each operation that reads yields one value in every later world, and an operation that makes memory comes up alone.
-/
import Derived.Test.YtobeaoooaagdkaaMem
import Derived.OrdersHeld
import Derived.Deep.RegionHeld3
import Derived.OwnWalk
namespace Go.Proofs.Ytobeaoooaagdkaa
set_option maxRecDepth 100000
open Go.RowKit

section
variable {P : Program} {ops : Array Oper} {Q : Exit → Act → World → Prop}

theorem held_weaken {md : Region.Mode} {S T : World → Prop} (h : ∀ w, T w → S w) : ∀ (fuel : Nat) (listed : Array Bool) (a : Act) (w : World), wpAnyH P md ops Q T fuel listed a w → wpAnyH P md ops Q S fuel listed a w
  | 0, _, _, _, k => k
  | fuel + 1, _, _, _, k => ⟨k.1, fun i hi => wpOp_mono (fun a' w' k' => ⟨h _ k'.1, held_weaken h fuel _ a' w' k'.2⟩) (k.2 i hi)⟩

/-- A plan: the operations' numbers, and of each whether it makes memory (it must then be the only one that may come up); a fork: two that make memory may come up, each with a plan of its own behind it. -/
inductive Plan where
  | nil
  | step (i : Nat) (g : Bool) (rest : Plan)
  | fork (i : Nat) (p : Plan) (j : Nat) (q : Plan)
def Plan.size : Plan → Nat
  | .nil => 0
  | .step _ _ rest => rest.size + 1
  | .fork _ p _ _ => p.size + 1
def planOK (ops : Array Oper) : Plan → Array Bool → Bool
  | .nil, listed => (Region.ready .any ops listed).isEmpty
  | .step i g rest, listed => (if g then Region.ready .any ops listed == [i] else Region.free .any ops listed i && (Region.ready .any ops listed).contains i) && planOK ops rest (listed.setIfInBounds i true)
  | .fork i p j q, listed => Region.ready .any ops listed == [i, j] && (q.size == p.size && (planOK ops p (listed.setIfInBounds i true) && planOK ops q (listed.setIfInBounds j true)))

/-- S: what the operations that read lean on; each operation that makes memory must show it anew, and may give more of it. -/
def wpPlan (P : Program) (ops : Array Oper) (Q : Exit → Act → World → Prop) : Plan → (World → Prop) → Act → World → Prop
  | .nil, _, a, w => Q .normal a w
  | .step i g rest, S, a, w => ∃ o, ops[i]? = some o ∧
      ((Region.wanted o (yielded ops a.tmps) = false ∧ wpPlan P ops Q rest S (a.put o.dst undef) w) ∨
       (Region.wanted o (yielded ops a.tmps) = true ∧ g = false ∧ ∃ v, (∀ W, S W → (execOp a.eval o).run P W = .ok (.value v) W) ∧ wpPlan P ops Q rest S (a.put o.dst v) w) ∨
       (Region.wanted o (yielded ops a.tmps) = true ∧ g = true ∧ o.wp P a w (fun a' w' => ∃ T : World → Prop, (∀ W, T W → S W) ∧ T w' ∧ wpPlan P ops Q rest T a' w') Q))
  | .fork i p j q, S, a, w =>
      wpOp P ops Q i (fun a' w' => ∃ T : World → Prop, (∀ W, T W → S W) ∧ T w' ∧ wpPlan P ops Q p T a' w') a w ∧
      wpOp P ops Q j (fun a' w' => ∃ T : World → Prop, (∀ W, T W → S W) ∧ T w' ∧ wpPlan P ops Q q T a' w') a w

theorem wpPlan_held (hs : Region.noSelect ops = true) (hQ : ∀ c a w d v, Q (.panic c) (Act.put a d v) w → Q (.panic c) a w) :
    ∀ (plan : Plan) (S : World → Prop) (listed : Array Bool) (a : Act) (w : World), S w → planOK ops plan listed = true → wpPlan P ops Q plan S a w → wpAnyH P .any ops Q S plan.size listed a w
  | .nil, _, listed, a, w, _, hp, h => wpAnyH_done (by simpa [planOK] using hp) h _
  | .step i g rest, S, listed, a, w, hS, hp, h => by
    obtain ⟨o, ho, h⟩ := h
    simp only [planOK, Bool.and_eq_true] at hp
    obtain ⟨hp1, hp2⟩ := hp
    have take : ∀ v, g = false → YieldsIf P ops S o v a → wpPlan P ops Q rest S (a.put o.dst v) w → wpAnyH P .any ops Q S (rest.size + 1) listed a w := by
      intro v hg hy hr
      subst hg
      simp only [Bool.false_eq_true, if_false, Bool.and_eq_true] at hp1
      exact wpAnyH_take ho hs hp1.1 hp1.2 (fun c a w h => hQ c a w _ _ h) hy hS (wpPlan_held hs hQ rest S _ _ w hS hp2 hr)
    have alone : g = true → wpOp P ops Q i (fun a' w' => ∃ T : World → Prop, (∀ W, T W → S W) ∧ T w' ∧ wpPlan P ops Q rest T a' w') a w → wpAnyH P .any ops Q S (rest.size + 1) listed a w := by
      intro hg hop
      subst hg
      simp only [if_true] at hp1
      refine wpAnyH_all (rs := [i]) (eq_of_beq hp1) (by simp) (fun j hj => ?_)
      simp only [List.mem_singleton] at hj
      subst hj
      refine wpOp_mono (fun a' w' k => ?_) hop
      obtain ⟨T, hT, hTw, k⟩ := k
      exact ⟨hT _ hTw, held_weaken hT _ _ _ _ (wpPlan_held hs hQ rest T _ a' w' hTw hp2 k)⟩
    rcases h with ⟨hw, hr⟩ | ⟨hw, hg, v, hv, hr⟩ | ⟨hw, hg, hop⟩
    · cases g with
      | false => exact take undef rfl (.inr ⟨hw, rfl⟩) hr
      | true =>
        refine alone rfl ?_
        unfold wpOp
        simp only [ho, hw, Bool.false_eq_true, if_false]
        exact ⟨S, fun _ h => h, hS, hr⟩
    · exact take v hg (.inl ⟨hw, hv⟩) hr
    · refine alone hg ?_
      unfold wpOp
      simp only [ho, hw, if_true]
      exact .inl hop
  | .fork i p j q, S, listed, a, w, hS, hp, h => by
    simp only [planOK, Bool.and_eq_true] at hp
    obtain ⟨hp1, hp2, hp3, hp4⟩ := hp
    refine wpAnyH_all (rs := [i, j]) (eq_of_beq hp1) (by simp) (fun k hk => ?_)
    simp only [List.mem_cons, List.not_mem_nil, or_false] at hk
    rcases hk with rfl | rfl
    · refine wpOp_mono (fun a' w' k => ?_) h.1
      obtain ⟨T, hT, hTw, k⟩ := k
      exact ⟨hT _ hTw, held_weaken hT _ _ _ _ (wpPlan_held hs hQ p T _ a' w' hTw hp3 k)⟩
    · refine wpOp_mono (fun a' w' k => ?_) h.2
      obtain ⟨T, hT, hTw, k⟩ := k
      have := wpPlan_held hs hQ q T _ a' w' hTw hp4 k
      rw [eq_of_beq hp2] at this
      exact ⟨hT _ hTw, held_weaken hT _ _ _ _ this⟩

/-- The beginning, at a condition of one's own. -/
theorem wp_region_plan_of (S : World → Prop) (plan : Plan) {id : Nat} {a : Act} {w : World} (hS : S w.drew) (hm : P.follows .mixedOrders = true) (hs : Region.noSelect ops = true) (hlen : plan.size = ops.size) (hp : planOK ops plan (Array.replicate ops.size false) = true)
    (h : wpPlan P ops (NoPanic Q) plan S a w.drew) : (Code.region id ops true).wp P Q a w := by
  refine wp_region_noPanic (wp_region_held_drew (S := S) hm hS (fun _ => ?_))
  have := wpPlan_held hs (fun _ _ _ _ _ h => h) plan S _ a w.drew hS hp h
  rw [hlen] at this
  exact this
/-- The beginning, at all that is there. -/
theorem wp_region_plan (plan : Plan) {id : Nat} {a : Act} {w : World} (hm : P.follows .mixedOrders = true) (hs : Region.noSelect ops = true) (hlen : plan.size = ops.size) (hp : planOK ops plan (Array.replicate ops.size false) = true)
    (h : wpPlan P ops (NoPanic Q) plan (fun W => Below w.drew.heap.size w.drew W) a w.drew) : (Code.region id ops true).wp P Q a w := wp_region_plan_of _ plan (Below.refl _ _) hm hs hlen hp h
/-- The beginning, at what lies below block number B. -/
theorem wp_region_plan_at (B : Nat) (plan : Plan) {id : Nat} {a : Act} {w : World} (hm : P.follows .mixedOrders = true) (hs : Region.noSelect ops = true) (hlen : plan.size = ops.size) (hp : planOK ops plan (Array.replicate ops.size false) = true)
    (h : wpPlan P ops (NoPanic Q) plan (fun W => Below B w.drew W) a w.drew) : (Code.region id ops true).wp P Q a w := wp_region_plan_of _ plan (Below.refl _ _) hm hs hlen hp h

theorem plan_skip {i : Nat} {g : Bool} {rest : Plan} {S : World → Prop} {o : Oper} {a : Act} {w : World} (ho : ops[i]? = some o) (hw : Region.wanted o (yielded ops a.tmps) = false)
    (h : wpPlan P ops Q rest S (a.put o.dst undef) w) : wpPlan P ops Q (.step i g rest) S a w := ⟨o, ho, .inl ⟨hw, h⟩⟩
theorem plan_read {i : Nat} {rest : Plan} {S : World → Prop} {o : Oper} {a : Act} {w : World} {v : Value} (ho : ops[i]? = some o) (hw : Region.wanted o (yielded ops a.tmps) = true)
    (hv : ∀ W, S W → (execOp a.eval o).run P W = .ok (.value v) W) (h : wpPlan P ops Q rest S (a.put o.dst v) w) : wpPlan P ops Q (.step i false rest) S a w := ⟨o, ho, .inr (.inl ⟨hw, rfl, v, hv, h⟩)⟩
/-- Behind it all that is there counts. -/
theorem plan_make {i : Nat} {rest : Plan} {o : Oper} {a : Act} {w : World} (ho : ops[i]? = some o) (hw : Region.wanted o (yielded ops a.tmps) = true)
    (h : ∀ K : Act → World → Prop, Shut (∀ a' w', Below w.heap.size w w' → wpPlan P ops Q rest (fun W => Below w'.heap.size w' W) a' w' → K a' w') → o.wp P a w K Q) : wpPlan P ops Q (.step i true rest) (fun W => Below w.heap.size w W) a w :=
  ⟨o, ho, .inr (.inr ⟨hw, rfl, h _ (fun _ _ hb hr => ⟨_, fun _ hW => below_step hb hW, Below.refl _ _, hr⟩)⟩)⟩
/-- B stays. -/
theorem plan_make_at {i : Nat} {rest : Plan} {B : Nat} {o : Oper} {a : Act} {w : World} (ho : ops[i]? = some o) (hw : Region.wanted o (yielded ops a.tmps) = true)
    (h : ∀ K : Act → World → Prop, Shut (∀ a' w', Below B w w' → wpPlan P ops Q rest (fun W => Below B w' W) a' w' → K a' w') → o.wp P a w K Q) : wpPlan P ops Q (.step i true rest) (fun W => Below B w W) a w :=
  ⟨o, ho, .inr (.inr ⟨hw, rfl, h _ (fun _ _ hb hr => ⟨_, fun _ hW => hb.trans hW, Below.refl _ _, hr⟩)⟩)⟩
/-- S stays. -/
theorem plan_make_of {i : Nat} {rest : Plan} {S : World → Prop} {o : Oper} {a : Act} {w : World} (ho : ops[i]? = some o) (hw : Region.wanted o (yielded ops a.tmps) = true)
    (h : ∀ K : Act → World → Prop, Shut (∀ a' w', S w' → wpPlan P ops Q rest S a' w' → K a' w') → o.wp P a w K Q) : wpPlan P ops Q (.step i true rest) S a w :=
  ⟨o, ho, .inr (.inr ⟨hw, rfl, h _ (fun _ _ hb hr => ⟨S, fun _ hW => hW, hb, hr⟩)⟩)⟩
/-- Two that make memory may come up: each goes by itself, S stays. -/
theorem plan_fork {i j : Nat} {p q : Plan} {S : World → Prop} {o u : Oper} {a : Act} {w : World} (ho : ops[i]? = some o) (hu : ops[j]? = some u) (hw : Region.wanted o (yielded ops a.tmps) = true) (hx : Region.wanted u (yielded ops a.tmps) = true)
    (h : ∀ K : Act → World → Prop, Shut (∀ a' w', S w' → wpPlan P ops Q p S a' w' → K a' w') → o.wp P a w K Q) (k : ∀ K : Act → World → Prop, Shut (∀ a' w', S w' → wpPlan P ops Q q S a' w' → K a' w') → u.wp P a w K Q) : wpPlan P ops Q (.fork i p j q) S a w := by
  constructor
  · unfold wpOp
    simp only [ho, hw, if_true]
    exact .inl (h _ (fun _ _ hb hr => ⟨S, fun _ hW => hW, hb, hr⟩))
  · unfold wpOp
    simp only [hu, hx, if_true]
    exact .inl (k _ (fun _ _ hb hr => ⟨S, fun _ hW => hW, hb, hr⟩))
theorem plan_done {S : World → Prop} {a : Act} {w : World} (h : Q .normal a w) : wpPlan P ops (NoPanic Q) .nil S a w := h
end

/-! ### append onto a row of the call's own: what the row held is still there, where it was -/
section
variable {P : Program} (w : World)
theorem run_append_keep (base : Nat) (t ty e : TypeId) (i : TypeInfo) (z : Value) (bytes : Nat) (ht : P.underlying t = some (.slice e)) (hi : P.info? e = some i) (hz : i.zero = some z)
    (hsize : i.size = 1) (hby : i.bytes = bytes) (hzs : z.cells.size = 1) (v : Value) (n : Nat) (xs : List Value) (hown : w.ownsRow base e 1 v n xs)
    (a : Addr) (m c : Nat) (news : List Value) (hl : news.length = m * 1) (hnews : ∀ j u, news[j]? = some u → w.cell? (a.add j) = some u) (h1 : ∀ u ∈ news, u.oneCell' = true)
    (h63 : n + m ≤ maxLen) (hbytes : (n + m) * bytes ≤ 140737488355328) (hbase : base ≤ w.heap.size) :
    ∃ v' w', (Builtin.append_ #[t, t] ty #[v, .slice (some a) m c]).run P w = .ok v' w' ∧ w'.ownsRow base e 1 v' (n + m) (xs ++ news) ∧ w.grownBy w' v.ownBlock ∧
      ∀ g, v.ownBlock = some g → ∀ j u, xs[j]? = some u → w'.cell? ⟨g, j, none⟩ = some u := by
  obtain ⟨v', w', hrun, hown', hgrow, _⟩ := run_append_own (P := P) w base t ty e i z 1 bytes ht hi hz hsize hby hzs (by omega) v n xs hown a m c news hl hnews h1 h63 hbytes hbase
  refine ⟨v', w', hrun, hown', hgrow, fun g hg j u hu => ?_⟩
  have hj : j < xs.length := by
    rcases Nat.lt_or_ge j xs.length with h | h
    · exact h
    · rw [List.getElem?_eq_none h] at hu; cases hu
  have hadd : (⟨g, 0, none⟩ : Addr).add j = ⟨g, j, none⟩ := by unfold Addr.add; split <;> simp_all
  rcases hown.2 with ⟨rfl, _⟩ | ⟨g', cap, cur, rfl, hbg, hgg, hnc, hcm, hcs, htake⟩
  · simp [Value.ownBlock] at hg
  · simp [Value.ownBlock] at hg
    subst hg
    have hold := hown.cells (g := g') rfl j u hu
    rw [hadd] at hold
    have hsmall : n + m ≤ 9223372036854775807 := by simp only [maxLen] at h63; omega
    by_cases hroom : n + m ≤ cap
    · have hr := run_append_room (P := P) w t ty e i ht hi g' n cap cur hgg a m c news (by rw [hsize]; exact hl) hnews h1 hroom (by rw [hsize, hl, hcs]; omega)
      rw [hrun] at hr
      injection hr with hv _
      subst hv
      have := hown'.cells (g := g') rfl j u (by rw [List.getElem?_append_left hj]; exact hu)
      rwa [hadd] at this
    · subst hby
      have holds : ∀ j u, xs[j]? = some u → w.cell? ((⟨g', 0, none⟩ : Addr).add j) = some u := hown.cells (g := g') rfl
      have hr := run_append_grow (P := P) w t ty e i z ht hi hz ⟨g', 0, none⟩ n cap xs (by rw [hsize]; exact hown.1) holds a m c news (by rw [hsize]; exact hl) hnews (by omega) (by omega) (growslice_fits (by omega) hbytes)
      rw [hrun] at hr
      injection hr with _ hw
      subst hw
      rw [World.cell?_alloc_lt w.drew _ ⟨g', j, none⟩ (World.block_lt_of_cell? w _ hold)]
      exact hold

theorem wp_append_keep {o : Oper} {a : Act} {K : Act → World → Prop} {Q : Exit → Act → World → Prop} (s x : Operand) (t : TypeId)
    (ho : o.op = .call { callee := .builtin .append, args := #[s, x], argTypes := #[t, t] })
    (base : Nat) (e : TypeId) (i : TypeInfo) (z : Value) (bytes : Nat) (ht : P.underlying t = some (.slice e)) (hi : P.info? e = some i) (hz : i.zero = some z)
    (hsize : i.size = 1) (hby : i.bytes = bytes) (hzs : z.cells.size = 1) (v : Value) (n : Nat) (xs : List Value) (hs : a.eval s = v) (hown : w.ownsRow base e 1 v n xs)
    (ad : Addr) (m c : Nat) (news : List Value) (hx : a.eval x = .slice (some ad) m c) (hl : news.length = m * 1) (hnews : ∀ j u, news[j]? = some u → w.cell? (ad.add j) = some u) (h1 : ∀ u ∈ news, u.oneCell' = true)
    (h63 : n + m ≤ maxLen) (hbytes : (n + m) * bytes ≤ 140737488355328) (hbase : base ≤ w.heap.size)
    (h : ∀ v' w', w'.ownsRow base e 1 v' (n + m) (xs ++ news) → w.grownBy w' v.ownBlock → (∀ g, v.ownBlock = some g → ∀ j u, xs[j]? = some u → w'.cell? ⟨g, j, none⟩ = some u) → K (a.put o.dst v') w') : o.wp P a w K Q := by
  obtain ⟨v', w', hr, h2, h3, h4⟩ := run_append_keep (P := P) w base t o.type e i z bytes ht hi hz hsize hby hzs v n xs hown ad m c news hl hnews h1 h63 hbytes hbase
  unfold Oper.wp execOp
  simp only [ho, resolve, invoke, builtin, Sem.run_bind, Sem.run_pure, Result.andThen_ok, List.map_toArray, List.map_cons, List.map_nil, hs, hx, hr]
  exact h v' w' h2 h3 h4
end

end Go.Proofs.Ytobeaoooaagdkaa
