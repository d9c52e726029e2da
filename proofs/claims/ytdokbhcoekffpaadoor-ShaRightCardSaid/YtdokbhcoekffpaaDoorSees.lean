/-
  A region that draws its order, in a great frame: the frame is a letter of which a list of slots is known; each operation adds its slot to the list (no program is named here). Conditions: as typed.
-/
import Derived.Test.YtdokbhcoekffpaaDoorGrow
import Derived.Deep.MidRow
namespace Go.Proofs.YtdokbhcoekffpaaDoor
open Go.RowKit

/-- The slots of a list hold these values. -/
def SeesL (t : Array Value) : List (Nat × Value) → Prop
  | [] => True
  | (k, v) :: r => t.getD k undef = v ∧ SeesL t r
def Sees (n : Nat) (a : Act) (L : List (Nat × Value)) : Prop := a.tmps.size = n ∧ a.defers = [] ∧ SeesL a.tmps L
theorem SeesL.at {t : Array Value} : ∀ {L : List (Nat × Value)}, SeesL t L → ∀ (i : Nat) {k : Nat} {v : Value}, L[i]? = some (k, v) → t.getD k undef = v
  | [], _, i, k, v, h => by simp at h
  | (j, u) :: r, hs, 0, k, v, h => by
    simp at h
    obtain ⟨rfl, rfl⟩ := h
    exact hs.1
  | (j, u) :: r, hs, i + 1, k, v, h => hs.2.at i (by simpa using h)
theorem Sees.at {n : Nat} {a : Act} {L : List (Nat × Value)} (h : Sees n a L) (i : Nat) {k : Nat} {v : Value} (e : L[i]? = some (k, v)) : a.tmps.getD k undef = v := h.2.2.at i e
theorem Sees.at' {n : Nat} {a : Act} {L : List (Nat × Value)} (h : Sees n a L) (i : Nat) {k : Nat} {v : Value} (e : L[i]? = some (k, v)) : a.tmps[k]?.getD undef = v := by rw [← Array.getD_eq_getD_getElem?]; exact h.at i e
def awayL (d : Nat) : List (Nat × Value) → Bool
  | [] => true
  | (k, _) :: r => !(Nat.beq k d) && awayL d r
theorem SeesL.put {t : Array Value} (d : Nat) (v : Value) : ∀ {L : List (Nat × Value)}, SeesL t L → awayL d L = true → SeesL (t.setIfInBounds d v) L
  | [], _, _ => trivial
  | (k, u) :: r, hs, ha => by
    simp only [awayL, Bool.and_eq_true, Bool.not_eq_true'] at ha
    refine ⟨?_, hs.2.put d v ha.2⟩
    have hne : d ≠ k := by
      rintro rfl
      have := ha.1
      simp at this
    rw [← hs.1]
    simp [Array.getD_eq_getD_getElem?, Array.getElem?_setIfInBounds, hne]
theorem Sees.put {n : Nat} {a : Act} {L : List (Nat × Value)} (h : Sees n a L) {d : Nat} (v : Value) (hd : Nat.blt d n = true) (ha : awayL d L = true) : Sees n (a.put (some d) v) ((d, v) :: L) := by
  have hlt : d < a.tmps.size := by rw [h.1]; exact Nat.blt_eq ▸ hd
  refine ⟨by simp [Act.put, h.1], h.2.1, ?_, h.2.2.put d v ha⟩
  simp [Act.put, Array.getD_eq_getD_getElem?, Array.getElem?_setIfInBounds, hlt]

section
variable {P : Program} {ops : Array Oper} {Q : Exit → Act → World → Prop} {n : Nat} {L : List (Nat × Value)} {a : Act} {w : World}

/-- The beginning, at all that is there. -/
theorem wp_region_sees (L : List (Nat × Value)) (plan : Plan) {id : Nat} (hs : Sees n a L) (hm : P.follows .mixedOrders = true) (hn : Region.noSelect ops = true) (hlen : plan.size = ops.size) (hp : planOK ops plan (Array.replicate ops.size false) = true)
    (h : ∀ a, Sees n a L → wpPlan P ops (NoPanic Q) plan (fun W => Below w.drew.heap.size w.drew W) a w.drew) : (Code.region id ops true).wp P Q a w := wp_region_plan plan hm hn hlen hp (h a hs)

theorem wanted_plain {o : Oper} {t : Array Value} (hg : o.guard = none) : Region.wanted o (yielded ops t) = true := by simp [Region.wanted, hg]
theorem wanted_sees {o u : Oper} {j d : Nat} {b : Bool} (hs : Sees n a L) (hg : o.guard = some (j, b)) (hu : ops[j]? = some u) (hd : u.dst = some d) (hn : Nat.blt d n = true) (i : Nat) (e : L[i]? = some (d, .bool b)) : Region.wanted o (yielded ops a.tmps) = true := by
  have hlt : d < a.tmps.size := by rw [hs.1]; exact Nat.blt_eq ▸ hn
  have h1 := hs.at i e
  rw [Array.getD_eq_getD_getElem?, Array.getElem?_eq_getElem hlt] at h1
  have h2 : a.tmps[d]? = some (.bool b) := by rw [Array.getElem?_eq_getElem hlt]; exact congrArg some h1
  simp [Region.wanted, hg, yielded, hu, hd, h2]

theorem sees_read {i d : Nat} {rest : Plan} {S : World → Prop} {o : Oper} {v : Value} (hs : Sees n a L) (ho : ops[i]? = some o) (hd : o.dst = some d) (hn : Nat.blt d n = true) (ha : awayL d L = true) (hw : Region.wanted o (yielded ops a.tmps) = true)
    (hv : ∀ W, S W → (execOp a.eval o).run P W = .ok (.value v) W) (h : ∀ a, Sees n a ((d, v) :: L) → wpPlan P ops Q rest S a w) : wpPlan P ops Q (.step i false rest) S a w :=
  plan_read ho hw hv (by rw [hd]; exact h _ (hs.put v hn ha))
theorem sees_make {i d : Nat} {rest : Plan} {o : Oper} (hs : Sees n a L) (ho : ops[i]? = some o) (hd : o.dst = some d) (hn : Nat.blt d n = true) (ha : awayL d L = true) (hw : Region.wanted o (yielded ops a.tmps) = true)
    (h : ∀ K : Act → World → Prop, Shut (∀ v w', Below w.heap.size w w' → (∀ a, Sees n a ((d, v) :: L) → wpPlan P ops Q rest (fun W => Below w'.heap.size w' W) a w') → K (a.put (some d) v) w') → o.wp P a w K Q) : wpPlan P ops Q (.step i true rest) (fun W => Below w.heap.size w W) a w :=
  ⟨o, ho, .inr (.inr ⟨hw, rfl, h _ (fun v w' hb hr => ⟨_, fun _ hW => below_step hb hW, Below.refl _ _, hr _ (hs.put v hn ha)⟩)⟩)⟩

/-- The operations that only hand a slot on, or pick. -/
theorem run_move_then {S : World → Prop} {o : Oper} {x : Nat} {v : Value} (e : a.tmps.getD x undef = v) (hx : o.op = .move (.tmp x)) : ∀ W, S W → (execOp a.eval o).run P W = .ok (.value v) W := by
  subst e
  intro W _
  simp [execOp, hx, Act.eval]
theorem run_assign_then {S : World → Prop} {o : Oper} {x : Nat} {v : Value} (e : a.tmps.getD x undef = v) (hx : o.op = .assign (.tmp x)) : ∀ W, S W → (execOp a.eval o).run P W = .ok (.value v) W := by
  subst e
  intro W _
  simp [execOp, hx, Act.eval]
theorem run_pick_then {S : World → Prop} {o : Oper} {x y : Nat} {z : Operand} {v : Value} (e : a.tmps.getD x undef = .bool true) (e' : a.tmps.getD y undef = v) (hx : o.op = .pick (.tmp x) (.tmp y) z) : ∀ W, S W → (execOp a.eval o).run P W = .ok (.value v) W := by
  subst e'
  intro W _
  simp [execOp, hx, Act.eval, e, asBool]
/-- A whole block, or a part of it, read. -/
theorem sees_load {i d : Nat} {rest : Plan} {S : World → Prop} {o : Oper} (hs : Sees n a L) (ho : ops[i]? = some o) (hd : o.dst = some d) (hn : Nat.blt d n = true) (ha : awayL d L = true) (hw : Region.wanted o (yielded ops a.tmps) = true) (ty : TypeId) (x : Nat) (hop : o.op = .load ty (.tmp x))
    (b off : Nat) (hx : a.tmps.getD x undef = .pointer (some ⟨b, off, none⟩)) (cs : List Value) (e : TypeDesc) (hS : ∀ W, S W → W.rangeAt b off cs) (hu : P.underlying ty = some e) (hr : e.isRow = true) (hi : (P.info? ty).map (·.size) = some cs.length)
    (h : ∀ a, Sees n a ((d, .agg cs.toArray) :: L) → wpPlan P ops Q rest S a w) : wpPlan P ops Q (.step i false rest) S a w :=
  sees_read hs ho hd hn ha hw (fun W hW => by
    have hx' : a.eval (.tmp x) = .pointer (some ⟨b, off, none⟩) := hx
    unfold execOp
    simp only [hop, hx', Instr.loadAt, Instr.sureAddr, Sem.run_bind, Sem.run_pure, Result.andThen_ok, run_loadVar_mid W b off ty cs e (hS W hW) hu hr hi]) h

/-! ### A region that does not draw -/
/-- The beginning. -/
theorem wp_region_seesl (L : List (Nat × Value)) {id : Nat} (hs : Sees n a L) (h : ∀ a, Sees n a L → wpList P ops Q ops.toList a w) : (Code.region id ops false).wp P Q a w := wp_region_list (h a hs)
theorem seesl_read {d : Nat} {rest : List Oper} {o : Oper} {v : Value} (hs : Sees n a L) (hd : o.dst = some d) (hn : Nat.blt d n = true) (ha : awayL d L = true) (hw : Region.wanted o (yielded ops a.tmps) = true)
    (hv : (execOp a.eval o).run P w = .ok (.value v) w) (h : ∀ a, Sees n a ((d, v) :: L) → wpList P ops Q rest a w) : wpList P ops Q (o :: rest) a w :=
  wpList_step fun K hK => by
    rw [if_pos hw]
    unfold Oper.wp
    rw [hv, Oper.upon_value, hd]
    exact hK _ _ (h _ (hs.put v hn ha))
/-- One that may alter the world. -/
theorem seesl_make {d : Nat} {rest : List Oper} {o : Oper} (hs : Sees n a L) (hd : o.dst = some d) (hn : Nat.blt d n = true) (ha : awayL d L = true) (hw : Region.wanted o (yielded ops a.tmps) = true)
    (h : ∀ K : Act → World → Prop, Shut (∀ v w', (∀ a, Sees n a ((d, v) :: L) → wpList P ops Q rest a w') → K (a.put (some d) v) w') → o.wp P a w K Q) : wpList P ops Q (o :: rest) a w :=
  wpList_step fun K hK => by
    rw [if_pos hw]
    exact h K (fun v w' hr => hK _ _ (hr _ (hs.put v hn ha)))
/-- One that writes, and yields nothing. -/
theorem seesl_write {rest : List Oper} {o : Oper} (hs : Sees n a L) (hw : Region.wanted o (yielded ops a.tmps) = true)
    (h : ∀ K : Act → World → Prop, Shut (∀ w', (∀ a, Sees n a L → wpList P ops Q rest a w') → K a w') → o.wp P a w K Q) : wpList P ops Q (o :: rest) a w :=
  wpList_step fun K hK => by
    rw [if_pos hw]
    exact h K (fun w' hr => hK _ _ (hr _ hs))
theorem seesl_load {d : Nat} {rest : List Oper} {o : Oper} (hs : Sees n a L) (hd : o.dst = some d) (hn : Nat.blt d n = true) (ha : awayL d L = true) (hw : Region.wanted o (yielded ops a.tmps) = true) (ty : TypeId) (x : Nat) (hop : o.op = .load ty (.tmp x))
    (b off : Nat) (hx : a.tmps.getD x undef = .pointer (some ⟨b, off, none⟩)) (cs : List Value) (e : TypeDesc) (hS : w.rangeAt b off cs) (hu : P.underlying ty = some e) (hr : e.isRow = true) (hi : (P.info? ty).map (·.size) = some cs.length)
    (h : ∀ a, Sees n a ((d, .agg cs.toArray) :: L) → wpList P ops Q rest a w) : wpList P ops Q (o :: rest) a w :=
  seesl_read hs hd hn ha hw (by
    have hx' : a.eval (.tmp x) = .pointer (some ⟨b, off, none⟩) := hx
    unfold execOp
    simp only [hop, hx', Instr.loadAt, Instr.sureAddr, Sem.run_bind, Sem.run_pure, Result.andThen_ok, run_loadVar_mid w b off ty cs e hS hu hr hi]) h
theorem seesl_done (h : Q .normal a w) : wpList P ops Q [] a w := h
end

/-- A region of a function's text, by its number (so that a text of its own may speak of it). -/
def regionOf (n : Nat) : Code → Option (Array Oper)
  | .region id ops _ => if Nat.beq id n then some ops else none
  | .seq a b => match regionOf n a with
    | some c => some c
    | none => regionOf n b
  | .block _ c => regionOf n c
  | .loop c => regionOf n c
  | .cond _ a b => match regionOf n a with
    | some c => some c
    | none => regionOf n b
  | _ => none
end Go.Proofs.YtdokbhcoekffpaaDoor
