/-
  A region that draws its order, whose operations read, or make memory and write nothing that was there: one plan serves every order (no program is named here). Conditions: the plan is one that the region's edges allow (a Bool, reckoned), each operation that reads yields one value in every later world, and an operation that makes memory comes up alone.
-/
import Derived.Test.YtafcigfncibohaaMem
import Derived.OrdersHeld
import Derived.Deep.RegionHeld3
namespace Go.Proofs.Ytafcigfncibohaa
open Go.RowKit

section
variable {P : Program} {ops : Array Oper} {Q : Exit → Act → World → Prop}

theorem held_weaken {md : Region.Mode} {S T : World → Prop} (h : ∀ w, T w → S w) : ∀ (fuel : Nat) (listed : Array Bool) (a : Act) (w : World), wpAnyH P md ops Q T fuel listed a w → wpAnyH P md ops Q S fuel listed a w
  | 0, _, _, _, k => k
  | fuel + 1, _, _, _, k => ⟨k.1, fun i hi => wpOp_mono (fun a' w' k' => ⟨h _ k'.1, held_weaken h fuel _ a' w' k'.2⟩) (k.2 i hi)⟩

/-- A plan: the operations' numbers, and of each whether it makes memory (it must then be the only one that may come up). -/
def planOK (ops : Array Oper) : List (Nat × Bool) → Array Bool → Bool
  | [], listed => (Region.ready .any ops listed).isEmpty
  | (i, g) :: rest, listed => (if g then Region.ready .any ops listed == [i] else Region.free .any ops listed i && (Region.ready .any ops listed).contains i) && planOK ops rest (listed.setIfInBounds i true)

/-- B: what lies below block number B is not written; it may rise behind an operation that makes memory. -/
def wpPlan (P : Program) (ops : Array Oper) (Q : Exit → Act → World → Prop) : List (Nat × Bool) → Nat → Act → World → Prop
  | [], _, a, w => Q .normal a w
  | (i, g) :: rest, B, a, w => ∃ o, ops[i]? = some o ∧
      ((Region.wanted o (yielded ops a.tmps) = false ∧ wpPlan P ops Q rest B (a.put o.dst undef) w) ∨
       (Region.wanted o (yielded ops a.tmps) = true ∧ g = false ∧ ∃ v, (∀ W, Below B w W → (execOp a.eval o).run P W = .ok (.value v) W) ∧ wpPlan P ops Q rest B (a.put o.dst v) w) ∨
       (Region.wanted o (yielded ops a.tmps) = true ∧ g = true ∧ o.wp P a w (fun a' w' => Below B w w' ∧ ∃ B', B ≤ B' ∧ wpPlan P ops Q rest B' a' w') Q))

theorem wpPlan_held (hs : Region.noSelect ops = true) (hQ : ∀ c a w d v, Q (.panic c) (Act.put a d v) w → Q (.panic c) a w) :
    ∀ (plan : List (Nat × Bool)) (B : Nat) (listed : Array Bool) (a : Act) (w : World), planOK ops plan listed = true → wpPlan P ops Q plan B a w → wpAnyH P .any ops Q (fun W => Below B w W) plan.length listed a w
  | [], _, listed, a, w, hp, h => wpAnyH_done (by simpa [planOK] using hp) h _
  | (i, g) :: rest, B, listed, a, w, hp, h => by
    obtain ⟨o, ho, h⟩ := h
    simp only [planOK, Bool.and_eq_true] at hp
    obtain ⟨hp1, hp2⟩ := hp
    have take : ∀ v, g = false → YieldsIf P ops (fun W => Below B w W) o v a → wpPlan P ops Q rest B (a.put o.dst v) w → wpAnyH P .any ops Q (fun W => Below B w W) (rest.length + 1) listed a w := by
      intro v hg hy hr
      subst hg
      simp only [Bool.false_eq_true, if_false, Bool.and_eq_true] at hp1
      exact wpAnyH_take ho hs hp1.1 hp1.2 (fun c a w h => hQ c a w _ _ h) hy (Below.refl _ _) (wpPlan_held hs hQ rest B _ _ w hp2 hr)
    have alone : g = true → wpOp P ops Q i (fun a' w' => Below B w w' ∧ ∃ B', B ≤ B' ∧ wpPlan P ops Q rest B' a' w') a w → wpAnyH P .any ops Q (fun W => Below B w W) (rest.length + 1) listed a w := by
      intro hg hop
      subst hg
      simp only [if_true] at hp1
      refine wpAnyH_all (rs := [i]) (eq_of_beq hp1) (by simp) (fun j hj => ?_)
      simp only [List.mem_singleton] at hj
      subst hj
      refine wpOp_mono (fun a' w' k => ?_) hop
      obtain ⟨k1, B', hB, k2⟩ := k
      exact ⟨k1, held_weaken (fun W hW => k1.trans (hW.mono hB)) _ _ _ _ (wpPlan_held hs hQ rest B' _ a' w' hp2 k2)⟩
    rcases h with ⟨hw, hr⟩ | ⟨hw, hg, v, hv, hr⟩ | ⟨hw, hg, hop⟩
    · cases g with
      | false => exact take undef rfl (.inr ⟨hw, rfl⟩) hr
      | true =>
        refine alone rfl ?_
        unfold wpOp
        simp only [ho, hw, Bool.false_eq_true, if_false]
        exact ⟨Below.refl _ _, B, Nat.le_refl _, hr⟩
    · exact take v hg (.inl ⟨hw, hv⟩) hr
    · refine alone hg ?_
      unfold wpOp
      simp only [ho, hw, if_true]
      exact .inl hop

/-- The beginning, at a number of one's own. -/
theorem wp_region_plan_at (B : Nat) (plan : List (Nat × Bool)) {id : Nat} {a : Act} {w : World} (hm : P.follows .mixedOrders = true) (hs : Region.noSelect ops = true) (hlen : plan.length = ops.size) (hp : planOK ops plan (Array.replicate ops.size false) = true)
    (h : wpPlan P ops (NoPanic Q) plan B a w.drew) : (Code.region id ops true).wp P Q a w := by
  refine wp_region_noPanic (wp_region_held_drew (S := fun W => Below B w.drew W) hm (Below.refl _ _) (fun _ => ?_))
  have := wpPlan_held hs (fun _ _ _ _ _ h => h) plan B _ a w.drew hp h
  rw [hlen] at this
  exact this
/-- The beginning, at all that is there. -/
theorem wp_region_plan (plan : List (Nat × Bool)) {id : Nat} {a : Act} {w : World} (hm : P.follows .mixedOrders = true) (hs : Region.noSelect ops = true) (hlen : plan.length = ops.size) (hp : planOK ops plan (Array.replicate ops.size false) = true)
    (h : wpPlan P ops (NoPanic Q) plan w.drew.heap.size a w.drew) : (Code.region id ops true).wp P Q a w := wp_region_plan_at _ plan hm hs hlen hp h

theorem plan_skip {i : Nat} {g : Bool} {rest : List (Nat × Bool)} {B : Nat} {o : Oper} {a : Act} {w : World} (ho : ops[i]? = some o) (hw : Region.wanted o (yielded ops a.tmps) = false)
    (h : wpPlan P ops Q rest B (a.put o.dst undef) w) : wpPlan P ops Q ((i, g) :: rest) B a w := ⟨o, ho, .inl ⟨hw, h⟩⟩
theorem plan_read {i : Nat} {rest : List (Nat × Bool)} {B : Nat} {o : Oper} {a : Act} {w : World} {v : Value} (ho : ops[i]? = some o) (hw : Region.wanted o (yielded ops a.tmps) = true)
    (hv : ∀ W, Below B w W → (execOp a.eval o).run P W = .ok (.value v) W) (h : wpPlan P ops Q rest B (a.put o.dst v) w) : wpPlan P ops Q ((i, false) :: rest) B a w := ⟨o, ho, .inr (.inl ⟨hw, rfl, v, hv, h⟩)⟩
/-- Behind it all that is there counts. -/
theorem plan_make {i : Nat} {rest : List (Nat × Bool)} {o : Oper} {a : Act} {w : World} (ho : ops[i]? = some o) (hw : Region.wanted o (yielded ops a.tmps) = true)
    (h : ∀ K : Act → World → Prop, Shut (∀ a' w', Below w.heap.size w w' → wpPlan P ops Q rest w'.heap.size a' w' → K a' w') → o.wp P a w K Q) : wpPlan P ops Q ((i, true) :: rest) w.heap.size a w :=
  ⟨o, ho, .inr (.inr ⟨hw, rfl, h _ (fun _ _ hb hr => ⟨hb, _, hb.size, hr⟩)⟩)⟩
/-- B stays. -/
theorem plan_make_at {i : Nat} {rest : List (Nat × Bool)} {B : Nat} {o : Oper} {a : Act} {w : World} (ho : ops[i]? = some o) (hw : Region.wanted o (yielded ops a.tmps) = true)
    (h : ∀ K : Act → World → Prop, Shut (∀ a' w', Below B w w' → wpPlan P ops Q rest B a' w' → K a' w') → o.wp P a w K Q) : wpPlan P ops Q ((i, true) :: rest) B a w :=
  ⟨o, ho, .inr (.inr ⟨hw, rfl, h _ (fun _ _ hb hr => ⟨hb, B, Nat.le_refl _, hr⟩)⟩)⟩
theorem plan_done {B : Nat} {a : Act} {w : World} (h : Q .normal a w) : wpPlan P ops (NoPanic Q) [] B a w := h
end

end Go.Proofs.Ytafcigfncibohaa
