/-
  A region that draws its order, several of whose operations make memory: each operation by itself, behind those that it waits for, keeps one condition; the orders are not told apart (no program is named here). Conditions: the condition holds at the beginning, and each operation keeps it.
-/
import Derived.Test.YtmljhkdojopljaaO2
import Derived.Maps.AppendAt
namespace Go.Proofs.Ytmljhkdojopljaa
set_option maxRecDepth 100000
open Go.RowKit
set_option linter.unusedSimpArgs false
set_option linter.unusedVariables false

/-- The frame with these slots' values. -/
def puts (a : Act) : List Nat → (Nat → Value) → Act
  | [], _ => a
  | k :: ks, s => puts (a.put (some k) (s k)) ks s
def upd (s : Nat → Value) (k : Nat) (v : Value) : Nat → Value := fun j => if j = k then v else s j
theorem upd_same (s : Nat → Value) (k : Nat) (v : Value) : upd s k v k = v := by simp [upd]
theorem upd_other (s : Nat → Value) (k j : Nat) (v : Value) (h : j ≠ k) : upd s k v j = s j := by simp [upd, h]
/-- Which operations an operation waits for. -/
def depsOf (ops : Array Oper) (i : Nat) : List Nat := ((ops[i]?).map fun o => ((o.after.toList.filter fun e => Region.binds .any e).map (·.on))).getD []
def seen (L : Nat → Bool) (l : List Nat) : Prop := ∀ j ∈ l, L j = true
theorem ready_deps {ops : Array Oper} {listed : Array Bool} {i : Nat} (h : i ∈ Region.ready .any ops listed) : i < ops.size ∧ listed.getD i true = false ∧ seen (fun j => listed.getD j false) (depsOf ops i) := by
  unfold Region.ready at h
  obtain ⟨h1, h2⟩ := List.mem_filter.1 h
  have hi := List.mem_range.1 h1
  rw [Bool.and_eq_true] at h2
  obtain ⟨h2, h3⟩ := h2
  refine ⟨hi, by simpa using h2, fun j hj => ?_⟩
  unfold depsOf at hj
  rw [Array.getElem?_eq_getElem hi] at hj h3
  simp only [Option.map_some, Option.getD_some] at hj h3
  obtain ⟨e, he, rfl⟩ := List.mem_map.1 hj
  obtain ⟨he1, he2⟩ := List.mem_filter.1 he
  have := (Array.all_eq_true'.1 h3) e (Array.mem_toList_iff.1 he1)
  simpa [he2] using this

section
variable {P : Program} {ops : Array Oper} {Q : Exit → Act → World → Prop}
/-- What each operation keeps, as a function of which have come up. -/
theorem free_held (a0 : Act) (dsts : List Nat) (Φ : (Nat → Bool) → (Nat → Value) → World → Prop)
    (step : ∀ (i : Nat) (L : Nat → Bool) (s : Nat → Value) (W : World), i < ops.size → L i = false → seen L (depsOf ops i) → (∀ j, L j = true → seen L (depsOf ops j)) → Φ L s W → ∀ K : Act → World → Prop, Shut (∀ a' s' W', a' = puts a0 dsts s' → Φ (fun j => j == i || L j) s' W' → K a' W') → wpOp P ops Q i K (puts a0 dsts s) W)
    (done : ∀ s W L, (∀ i, i < ops.size → L i = true) → Φ L s W → Q .normal (puts a0 dsts s) W) (hdep : (List.range ops.size).all (fun i => (depsOf ops i).all (fun j => decide (j < i))) = true) :
    ∀ (fuel : Nat) (listed : Array Bool) (L : Nat → Bool) (s : Nat → Value) (W : World), listed.size = ops.size → (∀ i, i < ops.size → L i = listed.getD i false) → ((List.range ops.size).filter (fun i => !listed.getD i true)).length ≤ fuel → (∀ j, L j = true → seen L (depsOf ops j)) → Φ L s W → wpAnyH P .any ops Q (fun _ => True) fuel listed (puts a0 dsts s) W := by
  have none_ready : ∀ (listed : Array Bool), listed.size = ops.size → Region.ready .any ops listed = [] → ∀ i, i < ops.size → listed.getD i false = true := by
    intro listed hsz hr i
    induction i using Nat.strongRecOn with
    | _ i ih =>
      intro hi
      cases hli : listed.getD i false with
      | true => rfl
      | false =>
        have : i ∈ Region.ready .any ops listed := by
          unfold Region.ready
          refine List.mem_filter.2 ⟨List.mem_range.2 hi, ?_⟩
          rw [Bool.and_eq_true]
          have hlt : i < listed.size := by omega
          refine ⟨?_, ?_⟩
          · simp [Array.getD, hlt] at hli ⊢
            exact hli
          · rw [Array.getElem?_eq_getElem hi]
            simp only [Option.map_some, Option.getD_some]
            refine Array.all_eq_true'.2 (fun e he => ?_)
            by_cases hb : Region.binds .any e = true
            · have hmem : e.on ∈ depsOf ops i := by
                unfold depsOf
                rw [Array.getElem?_eq_getElem hi]
                simp only [Option.map_some, Option.getD_some]
                exact List.mem_map.2 ⟨e, List.mem_filter.2 ⟨Array.mem_toList_iff.2 he, hb⟩, rfl⟩
              have hlt2 : e.on < i := by
                have h1 := List.all_eq_true.1 hdep i (List.mem_range.2 hi)
                have h2 := List.all_eq_true.1 h1 _ hmem
                exact of_decide_eq_true h2
              have := ih _ hlt2 (by omega)
              rw [this]
              simp
            · simp [Bool.eq_false_iff.2 hb]
        rw [hr] at this
        cases this
  intro fuel
  induction fuel with
  | zero =>
    intro listed L s W hsz hL hf hcl hΦ
    have hnil : Region.ready .any ops listed = [] := by
      refine List.eq_nil_iff_forall_not_mem.2 (fun i hi => ?_)
      obtain ⟨h1, h2, _⟩ := ready_deps hi
      have : i ∈ (List.range ops.size).filter (fun i => !listed.getD i true) := List.mem_filter.2 ⟨List.mem_range.2 h1, by rw [h2]; rfl⟩
      have hlen := List.length_pos_of_mem this
      omega
    exact ⟨hnil, done s W L (fun i hi => by rw [hL i hi]; exact none_ready listed hsz hnil i hi) hΦ⟩
  | succ fuel ih =>
    intro listed L s W hsz hL hf hcl hΦ
    refine ⟨fun hnil => done s W L (fun i hi => by rw [hL i hi]; exact none_ready listed hsz hnil i hi) hΦ, fun i hi => ?_⟩
    obtain ⟨h1, h2, h3⟩ := ready_deps hi
    have hlt : i < listed.size := by omega
    have hLi : L i = false := by
      rw [hL i h1]
      simp [Array.getD, hlt] at h2 ⊢
      exact h2
    have hd : seen L (depsOf ops i) := fun j hj => by
      have hji : j < i := by
        have h4 := List.all_eq_true.1 hdep i (List.mem_range.2 h1)
        exact of_decide_eq_true (List.all_eq_true.1 h4 _ hj)
      rw [hL j (by omega)]
      exact h3 j hj
    refine step i L s W h1 hLi hd hcl hΦ _ (fun a' s' W' e hΦ' => ⟨trivial, ?_⟩)
    · subst e
      refine ih (listed.setIfInBounds i true) _ s' W' (by simp [hsz]) (fun j hj => ?_) ?_ (fun j hj k hk => ?_) hΦ'
      · have hjl : j < listed.size := by omega
        by_cases e : j = i
        · subst e
          simp [Array.getD, hjl]
        · have e' : (j == i) = false := beq_eq_false_iff_ne.2 e
          have e2 : i ≠ j := fun h => e h.symm
          rw [e', Bool.false_or, hL j hj]
          simp [Array.getD, hjl, Array.getElem_setIfInBounds, e2]
      · have hsub : ((List.range ops.size).filter (fun j => !(listed.setIfInBounds i true).getD j true)).length < ((List.range ops.size).filter (fun j => !listed.getD j true)).length := by
          have e1 : (List.range ops.size).filter (fun j => !(listed.setIfInBounds i true).getD j true) = ((List.range ops.size).filter (fun j => !listed.getD j true)).filter (fun j => !(j == i)) := by
            rw [List.filter_filter]
            refine List.filter_congr (fun j hj => ?_)
            have hjl : j < listed.size := by have := List.mem_range.1 hj; omega
            by_cases e : j = i
            · subst e
              simp [Array.getD, hjl]
            · have e' : (j == i) = false := beq_eq_false_iff_ne.2 e
              have e2 : i ≠ j := fun h => e h.symm
              simp [Array.getD, hjl, Array.getElem_setIfInBounds, e2, e]
          rw [e1]
          have hmem : i ∈ (List.range ops.size).filter (fun j => !listed.getD j true) := List.mem_filter.2 ⟨List.mem_range.2 h1, by rw [h2]; rfl⟩
          refine List.length_filter_lt_length_iff_exists.2 ⟨i, hmem, by simp⟩
        omega
      · have hLk : L k = true := by
          by_cases e : j = i
          · subst e
            exact hd k hk
          · have e' : (j == i) = false := beq_eq_false_iff_ne.2 e
            rw [e', Bool.false_or] at hj
            exact hcl j hj k hk
        rw [hLk, Bool.or_true]
theorem put_self (a : Act) (k : Nat) : a.put (some k) (a.tmps.getD k undef) = a := by
  have e : a.tmps.setIfInBounds k (a.tmps.getD k undef) = a.tmps := by
    apply Array.ext
    · simp
    · intro i h1 h2
      rw [Array.getElem_setIfInBounds]
      split
      · rename_i h
        subst h
        simp [Array.getD, h2]
      · rfl
  unfold Act.put
  dsimp only
  rw [e]
theorem puts_self (a : Act) : ∀ ks, puts a ks (fun k => a.tmps.getD k undef) = a
  | [] => rfl
  | k :: ks => by
    unfold puts
    rw [put_self]
    exact puts_self a ks
theorem wp_region_free (dsts : List Nat) (Φ : (Nat → Bool) → (Nat → Value) → World → Prop) {id : Nat} {a : Act} {w : World} (hm : P.follows .mixedOrders = true) (hdep : (List.range ops.size).all (fun i => (depsOf ops i).all (fun j => decide (j < i))) = true)
    (h0 : Φ (fun _ => false) (fun k => a.tmps.getD k undef) w.drew)
    (step : ∀ (i : Nat) (L : Nat → Bool) (s : Nat → Value) (W : World), i < ops.size → L i = false → seen L (depsOf ops i) → (∀ j, L j = true → seen L (depsOf ops j)) → Φ L s W → ∀ K : Act → World → Prop, Shut (∀ a' s' W', a' = puts a dsts s' → Φ (fun j => j == i || L j) s' W' → K a' W') → wpOp P ops (NoPanic Q) i K (puts a dsts s) W)
    (done : ∀ s W L, (∀ i, i < ops.size → L i = true) → Φ L s W → Q .normal (puts a dsts s) W) : (Code.region id ops true).wp P Q a w := by
  refine wp_region_noPanic (wp_region_held (S := fun _ => True) hm ?_)
  have := free_held (Q := NoPanic Q) a dsts Φ step (fun s W L h1 h2 => done s W L h1 h2) hdep ops.size (Array.replicate ops.size false) (fun _ => false) (fun k => a.tmps.getD k undef) w.drew (by simp) (fun i hi => by simp [Array.getD, hi]) (Nat.le_trans (List.length_filter_le _ _) (by simp)) (fun j hj => by cases hj) h0
  rw [puts_self] at this
  exact this
theorem seen_of {L : Nat → Bool} {l : List Nat} (h : seen L l) (j : Nat) (hj : l.contains j = true) : L j = true := h j (by simpa using hj)
/-- What waits for what has not come up has not come up. -/
theorem not_yet {L : Nat → Bool} (h : ∀ j, L j = true → seen L (depsOf ops j)) (k j : Nat) (hk : (depsOf ops k).contains j = true) (hj : L j = false) : L k = false := by
  cases e : L k with
  | false => rfl
  | true => rw [seen_of (h k e) j hk] at hj; cases hj
/-- One operation that is wanted. -/
theorem free_op {i : Nat} {o : Oper} {a : Act} {w : World} {K : Act → World → Prop} (ho : ops[i]? = some o) (hw : Region.wanted o (yielded ops a.tmps) = true) (h : o.wp P a w K Q) : wpOp P ops Q i K a w := by
  unfold wpOp
  simp only [ho, hw, if_true]
  exact .inl h
end
end Go.Proofs.Ytmljhkdojopljaa
/-
  A region that draws its order, whose last operation waits for all the others: by a plan of the others, and then the last one; what the plan leans on need not hold behind the last (no program is named here). Conditions: the plan is one of the operations but the last, which comes behind each of them.
-/
namespace Go.Proofs.Ytmljhkdojopljaa
set_option maxRecDepth 100000
open Go.RowKit
set_option linter.unusedSimpArgs false
set_option linter.unusedVariables false

theorem ready_of {ops : Array Oper} {listed : Array Bool} {i : Nat} (hi : i < ops.size) (hlt : i < listed.size) (hl : listed.getD i false = false) (hd : ∀ j ∈ depsOf ops i, listed.getD j false = true) : i ∈ Region.ready .any ops listed := by
  unfold Region.ready
  refine List.mem_filter.2 ⟨List.mem_range.2 hi, ?_⟩
  rw [Bool.and_eq_true]
  refine ⟨?_, ?_⟩
  · simp [Array.getD, hlt] at hl ⊢
    exact hl
  · rw [Array.getElem?_eq_getElem hi]
    simp only [Option.map_some, Option.getD_some]
    refine Array.all_eq_true'.2 (fun e he => ?_)
    by_cases hb : Region.binds .any e = true
    · have hmem : e.on ∈ depsOf ops i := by
        unfold depsOf
        rw [Array.getElem?_eq_getElem hi]
        simp only [Option.map_some, Option.getD_some]
        exact List.mem_map.2 ⟨e, List.mem_filter.2 ⟨Array.mem_toList_iff.2 he, hb⟩, rfl⟩
      rw [hd _ hmem]
      simp
    · simp [Bool.eq_false_iff.2 hb]
theorem none_left {ops : Array Oper} {listed : Array Bool} (hdep : (List.range ops.size).all (fun i => (depsOf ops i).all (fun j => decide (j < i))) = true) (hsz : listed.size = ops.size) (hr : Region.ready .any ops listed = []) : ∀ i, i < ops.size → listed.getD i false = true := by
  intro i
  induction i using Nat.strongRecOn with
  | _ i ih =>
    intro hi
    cases hli : listed.getD i false with
    | true => rfl
    | false =>
      have : i ∈ Region.ready .any ops listed := ready_of hi (by omega) hli (fun j hj => by
        have h1 := List.all_eq_true.1 hdep i (List.mem_range.2 hi)
        have hlt := of_decide_eq_true (List.all_eq_true.1 h1 _ hj)
        exact ih j hlt (by omega))
      rw [hr] at this
      cases this
theorem getD_tf {l : Array Bool} {i : Nat} (h : i < l.size) : l.getD i true = l.getD i false := by simp [Array.getD, h]
/-- All but the last. -/
def initO (ops : Array Oper) : Array Oper := ops.toList.dropLast.toArray
theorem initO_size (ops : Array Oper) : (initO ops).size = ops.size - 1 := by simp [initO]
theorem initO_get (ops : Array Oper) (i : Nat) (h : i < ops.size - 1) : (initO ops)[i]? = ops[i]? := by
  unfold initO
  rw [List.getElem?_toArray, List.getElem?_dropLast, if_pos (by simpa using h), Array.getElem?_toList]
theorem initO_deps (ops : Array Oper) (i : Nat) (h : i < ops.size - 1) : depsOf (initO ops) i = depsOf ops i := by
  unfold depsOf
  rw [initO_get ops i h]
/-- No guard looks at the last operation. -/
def guardsOK (ops : Array Oper) : Bool := ops.toList.all fun o => match o.guard with | none => true | some (j, _) => decide (j < ops.size - 1)
theorem wanted_init (ops : Array Oper) (hg : guardsOK ops = true) (i : Nat) (o : Oper) (ho : ops[i]? = some o) (tmps : Array Value) : Region.wanted o (yielded ops tmps) = Region.wanted o (yielded (initO ops) tmps) := by
  have h := List.all_eq_true.1 hg o (List.mem_of_getElem? (by rw [Array.getElem?_toList]; exact ho))
  unfold Region.wanted
  cases hgd : o.guard with
  | none => rfl
  | some x =>
    obtain ⟨j, b⟩ := x
    rw [hgd] at h
    dsimp only at h ⊢
    have hj := of_decide_eq_true h
    unfold yielded
    rw [initO_get ops j hj]
section
variable {P : Program} {ops : Array Oper} {Q : Exit → Act → World → Prop}
def LastQ (P : Program) (ops : Array Oper) (Q : Exit → Act → World → Prop) : Exit → Act → World → Prop
  | .normal, a, w => wpOp P ops Q (ops.size - 1) (fun a' w' => Q .normal a' w') a w
  | _, _, _ => False
theorem lastQ_lets : ¬ LetsOut (LastQ P ops Q) := fun ⟨_, _, h⟩ => h
theorem wp_of_lastQ {o : Oper} {a : Act} {w : World} {K : Act → World → Prop} (h : o.wp P a w K (LastQ P ops Q)) : o.wp P a w K Q := by
  unfold Oper.wp at *
  generalize (execOp a.eval o).run P w = r at *
  cases r with
  | ok x w' =>
    cases x <;> simp only [Oper.upon] at h ⊢
    case enter f args =>
      refine h.mono fun e w'' he => ?_
      cases e with
      | returned v => exact he
      | panicked c => exact he.elim
      | outgrown => exact (lastQ_lets he).elim
    all_goals exact h
  | halt x w' =>
    cases x <;> simp only [Oper.upon] at h ⊢
    case panic v => exact h.elim
theorem last_held {S : World → Prop} (hg : guardsOK ops = true) (hn : 0 < ops.size) (hdep : (List.range ops.size).all (fun i => (depsOf ops i).all (fun j => decide (j < i))) = true) (hlast : (List.range (ops.size - 1)).all (fun j => (depsOf ops (ops.size - 1)).contains j) = true) :
    ∀ (fuel : Nat) (L M : Array Bool) (a : Act) (w : World), L.size = ops.size → M.size = ops.size - 1 → (∀ i, i < ops.size - 1 → M.getD i false = L.getD i false) → L.getD (ops.size - 1) false = false → wpAnyH P .any (initO ops) (LastQ P ops Q) S fuel M a w → wpAny P .any ops Q (fuel + 1) L a w := by
  have hdi : (List.range (initO ops).size).all (fun i => (depsOf (initO ops) i).all (fun j => decide (j < i))) = true := by
    rw [initO_size]
    refine List.all_eq_true.2 (fun i hi => ?_)
    have hi' := List.mem_range.1 hi
    rw [initO_deps ops i hi']
    exact List.all_eq_true.1 hdep i (List.mem_range.2 (by omega))
  have done : ∀ (fuel : Nat) (L : Array Bool) (a : Act) (w : World), L.size = ops.size → (∀ i, i < ops.size → L.getD i false = true) → Q .normal a w → wpAny P .any ops Q fuel L a w := by
    intro fuel L a w hL hall hq
    have hnil : Region.ready .any ops L = [] := by
      refine List.eq_nil_iff_forall_not_mem.2 (fun i hi => ?_)
      obtain ⟨h1, h2, _⟩ := ready_deps hi
      rw [getD_tf (by omega), hall i h1] at h2
      cases h2
    cases fuel with
    | zero => exact ⟨hnil, hq⟩
    | succ f => exact ⟨fun _ => hq, fun i hi => by rw [hnil] at hi; cases hi⟩
  have final : ∀ (fuel : Nat) (L M : Array Bool) (a : Act) (w : World), L.size = ops.size → M.size = ops.size - 1 → (∀ i, i < ops.size - 1 → M.getD i false = L.getD i false) → L.getD (ops.size - 1) false = false → Region.ready .any (initO ops) M = [] → LastQ P ops Q .normal a w → wpAny P .any ops Q (fuel + 1) L a w := by
    intro fuel L M a w hL hM hLM hl hr hq
    have hall := none_left hdi (by rw [initO_size]; exact hM) hr
    rw [initO_size] at hall
    have hmem : ops.size - 1 ∈ Region.ready .any ops L := ready_of (by omega) (by omega) hl (fun j hj => by
      have h1 := List.all_eq_true.1 hdep (ops.size - 1) (List.mem_range.2 (by omega))
      have hlt := of_decide_eq_true (List.all_eq_true.1 h1 _ hj)
      rw [← hLM j hlt]
      exact hall j hlt)
    refine ⟨fun hnil => (by rw [hnil] at hmem; cases hmem), fun i hi => ?_⟩
    obtain ⟨h1, h2, _⟩ := ready_deps hi
    have hin : i = ops.size - 1 := by
      by_cases e : i = ops.size - 1
      · exact e
      · rw [getD_tf (by omega), ← hLM i (by omega), hall i (by omega)] at h2
        cases h2
    subst hin
    refine wpOp_mono (fun a' w' hq' => done fuel _ a' w' (by simp [hL]) (fun j hj => ?_) hq') hq
    have hjl : j < L.size := by omega
    by_cases e : j = ops.size - 1
    · subst e
      simp [Array.getD, hjl]
    · have e2 : ops.size - 1 ≠ j := fun h => e h.symm
      have := (hLM j (by omega)).symm.trans (hall j (by omega))
      simp [Array.getD, hjl] at this
      simp [Array.getD, hjl, Array.getElem_setIfInBounds, e2, this]
  intro fuel
  induction fuel with
  | zero =>
    intro L M a w hL hM hLM hl h
    exact final 0 L M a w hL hM hLM hl h.1 h.2
  | succ f ih =>
    intro L M a w hL hM hLM hl h
    by_cases hr : Region.ready .any (initO ops) M = []
    · exact final (f + 1) L M a w hL hM hLM hl hr (h.1 hr)
    · obtain ⟨x, hx⟩ := List.exists_mem_of_ne_nil _ hr
      obtain ⟨x1, x2, x3⟩ := ready_deps hx
      rw [initO_size] at x1
      rw [initO_deps ops x x1] at x3
      rw [getD_tf (by omega)] at x2
      have hxr : x ∈ Region.ready .any ops L := ready_of (by omega) (by omega) (by rw [← hLM x x1]; exact x2) (fun j hj => by
        have h1 := List.all_eq_true.1 hdep x (List.mem_range.2 (by omega))
        have hlt := of_decide_eq_true (List.all_eq_true.1 h1 _ hj)
        rw [← hLM j (by omega)]
        exact x3 j hj)
      refine ⟨fun hnil => (by rw [hnil] at hxr; cases hxr), fun i hi => ?_⟩
      obtain ⟨h1, h2, h3⟩ := ready_deps hi
      have hin : i < ops.size - 1 := by
        by_cases e : i = ops.size - 1
        · subst e
          have hxm := List.all_eq_true.1 hlast x (List.mem_range.2 x1)
          have h4 := h3 x (by simpa using hxm)
          dsimp only at h4
          rw [← hLM x x1, x2] at h4
          cases h4
        · omega
      have hii : i ∈ Region.ready .any (initO ops) M := ready_of (by rw [initO_size]; exact hin) (by omega) (by rw [hLM i hin]; rw [getD_tf (by omega)] at h2; exact h2) (fun j hj => by
        rw [initO_deps ops i hin] at hj
        have h5 := List.all_eq_true.1 hdep i (List.mem_range.2 h1)
        have hlt := of_decide_eq_true (List.all_eq_true.1 h5 _ hj)
        rw [hLM j (by omega)]
        exact h3 j hj)
      have hop := h.2 i hii
      have hK : ∀ a' w', (S w' ∧ wpAnyH P .any (initO ops) (LastQ P ops Q) S f (M.setIfInBounds i true) a' w') → wpAny P .any ops Q (f + 1) (L.setIfInBounds i true) a' w' := fun a' w' hk =>
        ih (L.setIfInBounds i true) (M.setIfInBounds i true) a' w' (by simp [hL]) (by simp [hM]) (fun j hj => by
          have hjl : j < L.size := by omega
          have hjm : j < M.size := by omega
          have := hLM j hj
          simp [Array.getD, hjl, hjm] at this
          by_cases e : i = j
          · subst e
            simp [Array.getD, hjl, hjm]
          · simp [Array.getD, hjl, hjm, Array.getElem_setIfInBounds, e, this]) (by
          have hjl : ops.size - 1 < L.size := by omega
          have e : i ≠ ops.size - 1 := by omega
          simp [Array.getD, hjl] at hl
          simp [Array.getD, hjl, Array.getElem_setIfInBounds, e, hl]) hk.2
      unfold wpOp at hop ⊢
      rw [initO_get ops i hin] at hop
      cases hoi : ops[i]? with
      | none =>
        rw [hoi] at hop
        exact hK _ _ hop
      | some o =>
        rw [hoi] at hop
        dsimp only at hop ⊢
        by_cases hw : Region.wanted o (yielded ops a.tmps) = true
        · have hwi : Region.wanted o (yielded (initO ops) a.tmps) = true := by rw [← wanted_init ops hg i o hoi a.tmps]; exact hw
          rw [if_pos hwi] at hop
          rw [if_pos hw]
          rcases hop with h6 | ⟨_, h6⟩
          · exact .inl (wp_of_lastQ (Oper.wp_mono hK h6))
          · exact (lastQ_lets h6).elim
        · have hwi : ¬ Region.wanted o (yielded (initO ops) a.tmps) = true := by rw [← wanted_init ops hg i o hoi a.tmps]; exact hw
          rw [if_neg hwi] at hop
          rw [if_neg hw]
          exact hK _ _ hop
theorem wp_region_last (S : World → Prop) (plan : Plan) {id : Nat} {a : Act} {w : World} (hS : S w.drew) (hm : P.follows .mixedOrders = true) (hs : Region.noSelect (initO ops) = true) (hg : guardsOK ops = true) (hn : 0 < ops.size) (hdep : (List.range ops.size).all (fun i => (depsOf ops i).all (fun j => decide (j < i))) = true) (hlast : (List.range (ops.size - 1)).all (fun j => (depsOf ops (ops.size - 1)).contains j) = true)
    (hlen : plan.size = (initO ops).size) (hp : planOK (initO ops) plan (Array.replicate (initO ops).size false) = true) (h : wpPlan P (initO ops) (LastQ P ops Q) plan S a w.drew) : (Code.region id ops true).wp P Q a w := by
  refine wp_region_any hm ?_
  have h1 := wpPlan_held hs (fun _ _ _ _ _ h => h) plan S _ a w.drew hS hp h
  rw [hlen, initO_size] at h1
  have h2 := last_held (Q := Q) (S := S) hg hn hdep hlast (ops.size - 1) (Array.replicate ops.size false) (Array.replicate (ops.size - 1) false) a w.drew (by simp) (by simp) (fun i hi => by
    have : i < ops.size := by omega
    simp [Array.getD, hi, this]) (by
    have : ops.size - 1 < ops.size := by omega
    simp [Array.getD, this]) h1
  rw [show ops.size - 1 + 1 = ops.size by omega] at h2
  exact h2
/-- Behind the plan: the last operation. -/
theorem planLast_done {S : World → Prop} {a : Act} {w : World} {o : Oper} (ho : ops[ops.size - 1]? = some o) (hw : Region.wanted o (yielded ops a.tmps) = true) (h : o.wp P a w (fun a' w' => Q .normal a' w') Q) : wpPlan P (initO ops) (LastQ P ops Q) .nil S a w := by
  show wpOp P ops Q (ops.size - 1) _ a w
  unfold wpOp
  simp only [ho, hw, if_true]
  exact .inl h
end
end Go.Proofs.Ytmljhkdojopljaa
/-
  What the program's calls New, Put and Raise of layer 19 answer. No conditions but those typed.
-/
namespace Go.Proofs.Ytmljhkdojopljaa
set_option maxRecDepth 100000
open Go.RowKit
set_option linter.unusedSimpArgs false
set_option linter.unusedVariables false

/-- A cache and a code, handed back. -/
def RetC (w : World) (c : Ca) (k : Int) (e : Ending) (w' : World) : Prop := ∃ A m cap, e = .returned (.tuple #[aggC c.1 c.2.1 A m cap, .int .i64 k]) ∧ Hid (c.2.2.length = m) ∧ m ≤ cap ∧ RdU w' A c.2.2 ∧ Below w.heap.size w w'

/-- .. whose uses lie in memory of the call's own. -/
def RetF (w : World) (c : Ca) (k : Int) (e : Ending) (w' : World) : Prop := ∃ A m cap, e = .returned (.tuple #[aggC c.1 c.2.1 A m cap, .int .i64 k]) ∧ Hid (c.2.2.length = m) ∧ m ≤ cap ∧ RdU w' A c.2.2 ∧ (∀ a, A = some a → w.heap.size ≤ a.block) ∧ Below w.heap.size w w'
theorem RetF.c {w : World} {c : Ca} {k : Int} {e : Ending} {w' : World} (h : RetF w c k e w') : RetC w c k e w' := by
  obtain ⟨A, m, cap, h1, h2, h3, h4, _, h5⟩ := h
  exact ⟨A, m, cap, h1, h2, h3, h4, h5⟩

theorem new19_any (room : Int) (w : World) : Calls Try.prog 10 #[.int .i64 room] w (RetF w (if 0 ≤ room ∧ room ≤ 64 then (room, 0, []) else (0, 0, [])) (if 0 ≤ room ∧ room ≤ 64 then 0 else 1)) := by
  obtain ⟨hR0, hB0⟩ := box_of w 25 [.int .i64 0, .int .u64 0, .slice none 0 0] _ rfl
  by_cases h : 0 ≤ room ∧ room ≤ 64
  · rw [if_pos h, if_pos h]
    have hd : decide (0 ≤ room ∧ room ≤ 64) = true := decide_eq_true h
    have hrm := room_any room
    rw [hd] at hrm
    clear hd h
    go_enter Try.func10, Try.ntmps10
    go_upto_region 1 with fail
    generalize w.alloc (.cells #[.int .i64 0, .int .u64 0, .slice none 0 0] 25) = w1 at hR0 hB0 ⊢
    go_wp2_with fail
    refine (hrm _).mono ?_
    rintro e w2 ⟨rfl, rfl⟩
    go_wp2_with (refine wpList_store_row rfl 25 (.tmp 2) (.tmp 9) rfl w.heap.size rfl [.int .i64 room, .int .u64 0, .slice none 0 0] rfl _ _ hR0 (by exact size_cache) rfl (one_cache room 0 none 0 0) ?_)
    refine bodyPost_ret (results_row_tmp (p := 2) (u := 3) (ty := 25) (by rfl) _ _ w.heap.size 25 _ _ (by rfl) (by exact hR0.setRow _) Try.underlying25 (by rfl) (by exact size_cache)) (by rfl) ?_
    exact ⟨none, 0, 0, rfl, rfl, Nat.le_refl _, RdU.nil, (fun a ha => by cases ha), below_setRow hB0 (Nat.le_refl _) _⟩
  · rw [if_neg h, if_neg h]
    have hd : decide (0 ≤ room ∧ room ≤ 64) = false := decide_eq_false h
    have hrm := room_any room
    rw [hd] at hrm
    clear hd h
    go_enter Try.func10, Try.ntmps10
    go_upto_region 1 with fail
    generalize w.alloc (.cells #[.int .i64 0, .int .u64 0, .slice none 0 0] 25) = w1 at hR0 hB0 ⊢
    go_wp2_with fail
    refine (hrm _).mono ?_
    rintro e w2 ⟨rfl, rfl⟩
    go_wp2_with (refine wpList_store_row rfl 25 (.tmp 2) (.tmp 7) rfl w.heap.size rfl [.int .i64 0, .int .u64 0, .slice none 0 0] rfl _ _ hR0 (by exact size_cache) rfl (one_cache 0 0 none 0 0) ?_)
    refine bodyPost_ret (results_row_tmp (p := 2) (u := 3) (ty := 25) (by rfl) _ _ w.heap.size 25 _ _ (by rfl) (by exact hR0.setRow _) Try.underlying25 (by rfl) (by exact size_cache)) (by rfl) ?_
    exact ⟨none, 0, 0, rfl, rfl, Nat.le_refl _, RdU.nil, (fun a ha => by cases ha), below_setRow hB0 (Nat.le_refl _) _⟩

/-- A cache in block b, its uses in memory of ours from block B on; the result's block r. -/
structure HasC (B : Nat) (w0 : World) (b r : Nat) (room : Int) (fl : Nat) (l : List Us) (A : Option Addr) (c : Nat) (W : World) : Prop where
  box : Row W b 25 [.int .i64 room, .int .u64 (fl : Int), .slice A l.length c]
  out : Row W r 25 [.int .i64 0, .int .u64 0, .slice none 0 0]
  own : W.ownsRow B 27 3 (.slice A l.length c) l.length (cellsU l)
  cap : l.length ≤ c
  below : Below w0.heap.size w0 W
  size : B ≤ W.heap.size
theorem HasC.later {B : Nat} {w0 : World} {b r : Nat} {room : Int} {fl : Nat} {l : List Us} {A : Option Addr} {c : Nat} {W W' : World} (h : HasC B w0 b r room fl l A c W) (hb : Below W.heap.size W W') : HasC B w0 b r room fl l A c W' :=
  ⟨h.box.later hb, h.out.later hb, ownsRowU_later h.own hb, h.cap, below_step h.below hb, Nat.le_trans h.size hb.size⟩
theorem HasC.rd {B : Nat} {w0 : World} {b r : Nat} {room : Int} {fl : Nat} {l : List Us} {A : Option Addr} {c : Nat} {W : World} (h : HasC B w0 b r room fl l A c W) : RdU W A l := RdU.own h.own
/-- What is handed back from there. -/
theorem HasC.ret {B : Nat} {w0 : World} {b r : Nat} {room : Int} {fl : Nat} {l : List Us} {A : Option Addr} {c : Nat} {W : World} (h : HasC B w0 b r room fl l A c W) (k : Int) (hr : w0.heap.size ≤ r) (hr3 : r < B) :
    RetF w0 (room, fl, l) k (.returned (.tuple #[aggC room fl A l.length c, .int .i64 k])) (W.setRow r #[.int .i64 room, .int .u64 (fl : Int), .slice A l.length c]) :=
  ⟨A, l.length, c, rfl, rfl, h.cap, RdU.own (ownsRowU_same (w' := W.setRow r _) h.own (fun b hb _ => Go.setRow_other W _ b _ (by omega))), (fun a ha => by
    have := (h.own.lt a.block (by rw [ha]; rfl)).1
    omega), below_setRow h.below hr _⟩

set_option maxHeartbeats 4000000 in
theorem put19_any (room : Int) (fl : Nat) (l : List Us) (g0 g1 g2 n c : Nat) (A : Option Addr) (w : World) (HN : Hid (l.length = n)) (hr : RdU w A l) (HF : Hid (fitU l)) (HG : Hid (fitU1 (g0, g1, g2))) (hn : n ≤ 1000000) :
    Calls Try.prog 12 #[aggC room fl A n c, .agg #[.int .u64 (g0 : Int), .int .u64 (g1 : Int), .int .u64 (g2 : Int)]] w (RetF w (putC (room, fl, l) (g0, g1, g2)).1 (putC (room, fl, l) (g0, g1, g2)).2) := by
  have e1 := HN.out
  subst e1
  clear HN
  obtain ⟨P, hP⟩ : ∃ P, P = putC (room, fl, l) (g0, g1, g2) := ⟨_, rfl⟩
  rw [← hP]
  have HP := Lib.hid hP
  clear hP
  have hR0 : Row (((w.alloc (.cells #[.int .i64 room, .int .u64 (fl : Int), .slice A l.length c] 25)).alloc (.cells #[.int .u64 (g0 : Int), .int .u64 (g1 : Int), .int .u64 (g2 : Int)] 27)).alloc (.cells #[.int .i64 0, .int .u64 0, .slice none 0 0] 25)) w.heap.size 25 [.int .i64 room, .int .u64 (fl : Int), .slice A l.length c] := ((Row.new w _ _ _ rfl).alloc _).alloc _
  have hR1 : Row (((w.alloc (.cells #[.int .i64 room, .int .u64 (fl : Int), .slice A l.length c] 25)).alloc (.cells #[.int .u64 (g0 : Int), .int .u64 (g1 : Int), .int .u64 (g2 : Int)] 27)).alloc (.cells #[.int .i64 0, .int .u64 0, .slice none 0 0] 25)) (w.heap.size + 1) 27 [.int .u64 (g0 : Int), .int .u64 (g1 : Int), .int .u64 (g2 : Int)] := (Row.new_at _ _ (by simp) _ _ _ rfl).alloc _
  have hR2 : Row (((w.alloc (.cells #[.int .i64 room, .int .u64 (fl : Int), .slice A l.length c] 25)).alloc (.cells #[.int .u64 (g0 : Int), .int .u64 (g1 : Int), .int .u64 (g2 : Int)] 27)).alloc (.cells #[.int .i64 0, .int .u64 0, .slice none 0 0] 25)) (w.heap.size + 1 + 1) 25 [.int .i64 0, .int .u64 0, .slice none 0 0] := Row.new_at _ _ (by simp) _ _ _ rfl
  have hB0 := below_new (below_new (below_new (Below.refl _ w) (.cells #[.int .i64 room, .int .u64 (fl : Int), .slice A l.length c] 25)) (.cells #[.int .u64 (g0 : Int), .int .u64 (g1 : Int), .int .u64 (g2 : Int)] 27)) (.cells #[.int .i64 0, .int .u64 0, .slice none 0 0] 25)
  unfold aggC
  go_enter Try.func12, Try.ntmps12
  go_upto_region 1 with fail
  generalize ((w.alloc (.cells #[.int .i64 room, .int .u64 (fl : Int), .slice A l.length c] 25)).alloc (.cells #[.int .u64 (g0 : Int), .int .u64 (g1 : Int), .int .u64 (g2 : Int)] 27)).alloc (.cells #[.int .i64 0, .int .u64 0, .slice none 0 0] 25) = w1 at hR0 hR1 hR2 hB0 ⊢
  have hs1 : w.heap.size + 3 ≤ w1.heap.size := hR2.lt
  have c0 := hR0.cell (i := 0) rfl
  have c1 := hR0.cell (i := 1) rfl
  have c2 := hR0.cell (i := 2) rfl
  have hcl := owncache_any room fl l l.length c A w1 (Lib.hid rfl) (hr.keep hB0) (by omega)
  unfold aggC at hcl
  have HCL := Lib.hid hcl
  clear hcl
  go_wp2_with fail
  refine HCL.out.mono ?_
  rintro e w2 ⟨A2, d2, rfl, hd2, hown2, hb2⟩
  unfold aggC
  have hR0' := hR0.later hb2
  have hH : HasC (w.heap.size + 3) w w.heap.size (w.heap.size + 1 + 1) room fl l A2 d2 (w2.setRow w.heap.size #[.int .i64 room, .int .u64 (fl : Int), .slice A2 l.length d2]) :=
    ⟨hR0'.setRow [.int .i64 room, .int .u64 (fl : Int), .slice A2 l.length d2], (hR2.later hb2).setRow_other (by omega) _, ownsRowU_base (ownsRowU_same (w' := w2.setRow w.heap.size _) hown2 (fun b hb _ => Go.setRow_other w2 _ b _ (by omega))) (by omega), hd2, below_setRow (below_step hB0 hb2) (Nat.le_refl _) _, by have := hb2.size; simp; omega⟩
  have hU : Row (w2.setRow w.heap.size #[.int .i64 room, .int .u64 (fl : Int), .slice A2 l.length d2]) (w.heap.size + 1) 27 [.int .u64 (g0 : Int), .int .u64 (g1 : Int), .int .u64 (g2 : Int)] := (hR1.later hb2).setRow_other (by omega) _
  go_upto_region 2 with (refine wpList_store_row rfl 25 (.tmp 2) (.tmp 9) rfl w.heap.size rfl [.int .i64 room, .int .u64 (fl : Int), .slice A2 l.length d2] rfl _ _ hR0' (by exact size_cache) rfl (one_cache room fl A2 l.length d2) ?_)
  clear hR0 hR1 hR2 hB0 hR0' hown2 hb2 c0 c1 c2 HCL hs1 hr
  generalize w2.setRow w.heap.size #[.int .i64 room, .int .u64 (fl : Int), .slice A2 l.length d2] = w3 at hH hU ⊢
  have c0 := hH.box.cell (i := 0) rfl
  have c1 := hH.box.cell (i := 1) rfl
  have c2 := hH.box.cell (i := 2) rfl
  have hrt := right19_any room fl l l.length d2 A2 w3 (Lib.hid rfl) hH.rd HF (by omega)
  unfold aggC at hrt
  have HRT := Lib.hid hrt
  have HH3 := Lib.hid hH
  clear hrt hH
  go_wp2_with fail
  refine HRT.out.mono ?_
  rintro e w4 ⟨rfl, hb4⟩
  have HH4 := Lib.hid (HH3.out.later hb4)
  replace hU := hU.later hb4
  clear HH3 HRT hb4 c0 c1 c2
  cases hrt : rightC (room, fl, l) with
  | false =>
    have HP2 : Hid (P = ((room, fl, l), 1)) := by unfold Hid; rw [HP.out]; unfold putC; rw [hrt, if_pos rfl]
    obtain rfl := HP2.out
    have HH := HH4.out
    clear hrt HP HH4
    go_wp2_with (first
      | (refine wpList_load_part rfl 25 (.tmp 2) rfl w.heap.size 0 rfl _ _ HH.box [.int .i64 room, .int .u64 (fl : Int), .slice A2 l.length d2] (by rfl) _ Try.underlying25 rfl (by exact size_cache) ?_)
      | (refine wpList_store_row rfl 25 (.tmp 4) (.tmp 13) rfl (w.heap.size + 1 + 1) rfl [.int .i64 room, .int .u64 (fl : Int), .slice A2 l.length d2] rfl _ _ HH.out (by exact size_cache) rfl (one_cache room fl A2 l.length d2) ?_))
    refine bodyPost_ret (results_row_tmp (p := 4) (u := 5) (ty := 25) (by rfl) _ _ (w.heap.size + 1 + 1) 25 _ _ (by rfl) (by exact HH.out.setRow _) Try.underlying25 (by rfl) (by exact size_cache)) (by rfl) ?_
    exact HH.ret 1 (by omega) (by omega)
  | true =>
    have hsrt : Hid (sortU l = true) := (sortU_pair l).2 (right_c.1 hrt).2.2.2
    have HLE : Hid ((l.length : Int) ≤ room) := (right_c.1 hrt).2.1
    have hcs := putC_cases (room, fl, l) (g0, g1, g2) hrt
    dsimp only at hcs
    have c0 := HH4.out.box.cell (i := 0) rfl
    have c1 := HH4.out.box.cell (i := 1) rfl
    have c2 := HH4.out.box.cell (i := 2) rfl
    have k0 := hU.cell (i := 0) rfl
    have k1 := hU.cell (i := 1) rfl
    have k2 := hU.cell (i := 2) rfl
    have hse := searchU_any l (g0, g1, g2) l.length d2 A2 w4 (Lib.hid rfl) HH4.out.rd HF HG hsrt (by omega)
    unfold aggU vNU at hse
    have HSE := Lib.hid hse
    clear hse hrt
    go_wp2_with fail
    refine HSE.out.mono ?_
    clear HSE
    rintro e w5 ⟨⟨i, hin, hpl, rfl⟩, hb5⟩
    have HH5 := Lib.hid (HH4.out.later hb5)
    replace hU := hU.later hb5
    clear HH4 hb5 c0 c1 c2 k0 k1 k2
    have c0 := HH5.out.box.cell (i := 0) rfl
    have c1 := HH5.out.box.cell (i := 1) rfl
    have c2 := HH5.out.box.cell (i := 2) rfl
    have k2 := hU.cell (i := 2) rfl
    rcases hcs with ⟨h1, hpt⟩ | ⟨h1, hm, hpt⟩ | ⟨h1, hm, h2, hpt⟩ | ⟨h1, hm, h2, hpt⟩
    · have HP2 : Hid (P = ((room, fl, l), 10)) := by unfold Hid; rw [HP.out, hpt]
      obtain rfl := HP2.out
      have HH := HH5.out
      have h1i : (g2 : Int) < (fl : Int) := by omega
      clear hpt HP HH5 hpl
      go_wp2_with (first
        | (refine wpList_load_part rfl 25 (.tmp 2) rfl w.heap.size 0 rfl _ _ HH.box [.int .i64 room, .int .u64 (fl : Int), .slice A2 l.length d2] (by rfl) _ Try.underlying25 rfl (by exact size_cache) ?_)
        | (refine wpList_store_row rfl 25 (.tmp 4) (.tmp 27) rfl (w.heap.size + 1 + 1) rfl [.int .i64 room, .int .u64 (fl : Int), .slice A2 l.length d2] rfl _ _ HH.out (by exact size_cache) rfl (one_cache room fl A2 l.length d2) ?_))
      refine bodyPost_ret (results_row_tmp (p := 4) (u := 5) (ty := 25) (by rfl) _ _ (w.heap.size + 1 + 1) 25 _ _ (by rfl) (by exact HH.out.setRow _) Try.underlying25 (by rfl) (by exact size_cache)) (by rfl) ?_
      exact HH.ret 10 (by omega) (by omega)
    · have HP2 : Hid (P = ((room, fl, l), 11)) := by unfold Hid; rw [HP.out, hpt]
      obtain rfl := HP2.out
      have hh : hasU l (g0, g1, g2) = true := by unfold hasU; exact decide_eq_true hm
      rw [hh]
      have HH := HH5.out
      have h1i : ¬ (g2 : Int) < (fl : Int) := by omega
      clear hpt HP HH5 hpl hh hm
      go_wp2_with (first
        | (refine wpList_load_part rfl 25 (.tmp 2) rfl w.heap.size 0 rfl _ _ HH.box [.int .i64 room, .int .u64 (fl : Int), .slice A2 l.length d2] (by rfl) _ Try.underlying25 rfl (by exact size_cache) ?_)
        | (refine wpList_store_row rfl 25 (.tmp 4) (.tmp 30) rfl (w.heap.size + 1 + 1) rfl [.int .i64 room, .int .u64 (fl : Int), .slice A2 l.length d2] rfl _ _ HH.out (by exact size_cache) rfl (one_cache room fl A2 l.length d2) ?_))
      refine bodyPost_ret (results_row_tmp (p := 4) (u := 5) (ty := 25) (by rfl) _ _ (w.heap.size + 1 + 1) 25 _ _ (by rfl) (by exact HH.out.setRow _) Try.underlying25 (by rfl) (by exact size_cache)) (by rfl) ?_
      exact HH.ret 11 (by omega) (by omega)
    · have HP2 : Hid (P = ((room, fl, l), 12)) := by unfold Hid; rw [HP.out, hpt]
      obtain rfl := HP2.out
      have hh : hasU l (g0, g1, g2) = false := by unfold hasU; exact decide_eq_false hm
      rw [hh]
      have hrl : room = (l.length : Int) := by have := HLE.out; omega
      subst hrl
      have HH := HH5.out
      have h1i : ¬ (g2 : Int) < (fl : Int) := by omega
      clear hpt HP HH5 hpl hh hm HLE h2
      go_wp2_with (first
        | (refine wpList_load_part rfl 25 (.tmp 2) rfl w.heap.size 0 rfl _ _ HH.box [.int .i64 (l.length : Int), .int .u64 (fl : Int), .slice A2 l.length d2] (by rfl) _ Try.underlying25 rfl (by exact size_cache) ?_)
        | (refine wpList_store_row rfl 25 (.tmp 4) (.tmp 38) rfl (w.heap.size + 1 + 1) rfl [.int .i64 (l.length : Int), .int .u64 (fl : Int), .slice A2 l.length d2] rfl _ _ HH.out (by exact size_cache) rfl (one_cache (l.length : Int) fl A2 l.length d2) ?_))
      refine bodyPost_ret (results_row_tmp (p := 4) (u := 5) (ty := 25) (by rfl) _ _ (w.heap.size + 1 + 1) 25 _ _ (by rfl) (by exact HH.out.setRow _) Try.underlying25 (by rfl) (by exact size_cache)) (by rfl) ?_
      exact HH.ret 12 (by omega) (by omega)
    · have HP2 : Hid (P = ((room, fl, insU l (g0, g1, g2)), 0)) := by unfold Hid; rw [HP.out, hpt]
      obtain rfl := HP2.out
      have hh : hasU l (g0, g1, g2) = false := by unfold hasU; exact decide_eq_false hm
      rw [hh]
      have h1i : ¬ (g2 : Int) < (fl : Int) := by omega
      have hrl : ¬ ((l.length : Int) = room) := by omega
      have HI : Hid (insU l (g0, g1, g2) = l.take i ++ (g0, g1, g2) :: l.drop i) := plU_ins hpl hin
      have k0 := hU.cell (i := 0) rfl
      have k1 := hU.cell (i := 1) rfl
      obtain ⟨hRg, hBg⟩ := box_of w5 27 [.int .u64 (g0 : Int), .int .u64 (g1 : Int), .int .u64 (g2 : Int)] _ rfl
      have HH6 := Lib.hid (HH5.out.later hBg)
      have hne : ∀ a, A2 = some a → a.block ≠ w5.heap.size := fun a ha => by
        have := (HH5.out.own.lt a.block (by rw [ha]; rfl)).2
        omega
      have hins := insertU_any l (g0, g1, g2) i l.length d2 w5.heap.size (w.heap.size + 3) A2 (w5.alloc (.cells #[.int .u64 (g0 : Int), .int .u64 (g1 : Int), .int .u64 (g2 : Int)] 27)) (Lib.hid rfl) HH6.out.own HH6.out.cap hRg hne hin (by omega) HH6.out.size
      have HINS := Lib.hid hins
      clear hpt HP hpl hh hm HH5 hBg hne hins h2
      go_wp2_with fail
      refine HINS.out.mono ?_
      clear HINS
      rintro e w7 ⟨A7, d7, rfl, hd7, hown7, hb7⟩
      rw [← HI.out] at hown7 hd7 ⊢
      have hR0 := HH6.out.box.keep hb7 (by omega)
      have hR2 := HH6.out.out.keep hb7 (by omega)
      have hB7 : Below w.heap.size w w7 := HH6.out.below.trans (hb7.mono (by omega))
      have hs7 := Nat.le_trans HH6.out.size hb7.size
      have f2 := hR0.frozen 2
      have k2' : w7.cell? ⟨w.heap.size, 2, none⟩ = some (.slice A2 l.length d2) := hR0.cell rfl
      have hH : HasC (w.heap.size + 3) w w.heap.size (w.heap.size + 1 + 1) room fl (insU l (g0, g1, g2)) A7 d7 (w7.setCell ⟨w.heap.size, 2, none⟩ (.slice A7 (insU l (g0, g1, g2)).length d7)) :=
        ⟨hR0.setCell 2 _, hR2.setCell_other (p := ⟨w.heap.size, 2, none⟩) (by show w.heap.size + 1 + 1 ≠ w.heap.size; omega) _, ownsRowU_same (w' := w7.setCell ⟨w.heap.size, 2, none⟩ _) hown7 (fun b hb _ => Below.heap_setCell w7 ⟨w.heap.size, 2, none⟩ _ b (by show b ≠ w.heap.size; omega)), hd7, hB7.setCell (p := ⟨w.heap.size, 2, none⟩) (Nat.le_refl _) _, by simpa using hs7⟩
      clear hRg hb7 hown7 HH6 c0 c1 c2 k0 k1 k2 hU hB7
      go_upto_region 12 with fail
      clear hR0 hR2 f2 k2'
      generalize w7.setCell ⟨w.heap.size, 2, none⟩ (.slice A7 (insU l (g0, g1, g2)).length d7) = w8 at hH ⊢
      have HH := hH
      clear hH
      go_wp2_with (first
        | (refine wpList_load_part rfl 25 (.tmp 2) rfl w.heap.size 0 rfl _ _ HH.box [.int .i64 room, .int .u64 (fl : Int), .slice A7 (insU l (g0, g1, g2)).length d7] (by rfl) _ Try.underlying25 rfl (by exact size_cache) ?_)
        | (refine wpList_store_row rfl 25 (.tmp 4) (.tmp 46) rfl (w.heap.size + 1 + 1) rfl [.int .i64 room, .int .u64 (fl : Int), .slice A7 (insU l (g0, g1, g2)).length d7] rfl _ _ HH.out (by exact size_cache) rfl (one_cache room fl A7 (insU l (g0, g1, g2)).length d7) ?_))
      refine bodyPost_ret (results_row_tmp (p := 4) (u := 5) (ty := 25) (by rfl) _ _ (w.heap.size + 1 + 1) 25 _ _ (by rfl) (by exact HH.out.setRow _) Try.underlying25 (by rfl) (by exact size_cache)) (by rfl) ?_
      exact HH.ret 0 (by omega) (by omega)

set_option maxHeartbeats 4000000 in
theorem raise19_any (room : Int) (fl : Nat) (l : List Us) (flo n c : Nat) (A : Option Addr) (w : World) (HN : Hid (l.length = n)) (hr : RdU w A l) (HF : Hid (fitU l)) (hn : n ≤ 1000000) :
    Calls Try.prog 14 #[aggC room fl A n c, .int .u64 (flo : Int)] w (RetF w (raiseC (room, fl, l) flo).1 (raiseC (room, fl, l) flo).2) := by
  have e1 := HN.out
  subst e1
  clear HN
  obtain ⟨P, hP⟩ : ∃ P, P = raiseC (room, fl, l) flo := ⟨_, rfl⟩
  rw [← hP]
  have HP := Lib.hid hP
  clear hP
  have hR0 : Row ((w.alloc (.cells #[.int .i64 room, .int .u64 (fl : Int), .slice A l.length c] 25)).alloc (.cells #[.int .i64 0, .int .u64 0, .slice none 0 0] 25)) w.heap.size 25 [.int .i64 room, .int .u64 (fl : Int), .slice A l.length c] := (Row.new w _ _ _ rfl).alloc _
  have hR2 : Row ((w.alloc (.cells #[.int .i64 room, .int .u64 (fl : Int), .slice A l.length c] 25)).alloc (.cells #[.int .i64 0, .int .u64 0, .slice none 0 0] 25)) (w.heap.size + 1) 25 [.int .i64 0, .int .u64 0, .slice none 0 0] := Row.new_at _ _ (by simp) _ _ _ rfl
  have hB0 := below_new (below_new (Below.refl _ w) (.cells #[.int .i64 room, .int .u64 (fl : Int), .slice A l.length c] 25)) (.cells #[.int .i64 0, .int .u64 0, .slice none 0 0] 25)
  unfold aggC
  go_enter Try.func14, Try.ntmps14
  go_upto_region 1 with fail
  generalize (w.alloc (.cells #[.int .i64 room, .int .u64 (fl : Int), .slice A l.length c] 25)).alloc (.cells #[.int .i64 0, .int .u64 0, .slice none 0 0] 25) = w1 at hR0 hR2 hB0 ⊢
  have hs1 : w.heap.size + 2 ≤ w1.heap.size := hR2.lt
  have c0 := hR0.cell (i := 0) rfl
  have c1 := hR0.cell (i := 1) rfl
  have c2 := hR0.cell (i := 2) rfl
  have hcl := owncache_any room fl l l.length c A w1 (Lib.hid rfl) (hr.keep hB0) (by omega)
  unfold aggC at hcl
  have HCL := Lib.hid hcl
  clear hcl
  go_wp2_with fail
  refine HCL.out.mono ?_
  rintro e w2 ⟨A2, d2, rfl, hd2, hown2, hb2⟩
  unfold aggC
  have hR0' := hR0.later hb2
  have hH : HasC (w.heap.size + 2) w w.heap.size (w.heap.size + 1) room fl l A2 d2 (w2.setRow w.heap.size #[.int .i64 room, .int .u64 (fl : Int), .slice A2 l.length d2]) :=
    ⟨hR0'.setRow [.int .i64 room, .int .u64 (fl : Int), .slice A2 l.length d2], (hR2.later hb2).setRow_other (by omega) _, ownsRowU_base (ownsRowU_same (w' := w2.setRow w.heap.size _) hown2 (fun b hb _ => Go.setRow_other w2 _ b _ (by omega))) (by omega), hd2, below_setRow (below_step hB0 hb2) (Nat.le_refl _) _, by have := hb2.size; simp; omega⟩
  go_upto_region 2 with (refine wpList_store_row rfl 25 (.tmp 2) (.tmp 7) rfl w.heap.size rfl [.int .i64 room, .int .u64 (fl : Int), .slice A2 l.length d2] rfl _ _ hR0' (by exact size_cache) rfl (one_cache room fl A2 l.length d2) ?_)
  clear hR0 hR2 hB0 hR0' hown2 hb2 c0 c1 c2 HCL hs1 hr
  generalize w2.setRow w.heap.size #[.int .i64 room, .int .u64 (fl : Int), .slice A2 l.length d2] = w3 at hH ⊢
  have c0 := hH.box.cell (i := 0) rfl
  have c1 := hH.box.cell (i := 1) rfl
  have c2 := hH.box.cell (i := 2) rfl
  have hrt := right19_any room fl l l.length d2 A2 w3 (Lib.hid rfl) hH.rd HF (by omega)
  unfold aggC at hrt
  have HRT := Lib.hid hrt
  have HH3 := Lib.hid hH
  clear hrt hH
  go_wp2_with fail
  refine HRT.out.mono ?_
  rintro e w4 ⟨rfl, hb4⟩
  have HH4 := Lib.hid (HH3.out.later hb4)
  clear HH3 HRT hb4 c0 c1 c2
  cases hrt : rightC (room, fl, l) with
  | false =>
    have HP2 : Hid (P = ((room, fl, l), 1)) := by unfold Hid; rw [HP.out]; unfold raiseC; rw [hrt, if_pos rfl]
    obtain rfl := HP2.out
    have HH := HH4.out
    clear hrt HP HH4
    go_wp2_with (first
      | (refine wpList_load_part rfl 25 (.tmp 2) rfl w.heap.size 0 rfl _ _ HH.box [.int .i64 room, .int .u64 (fl : Int), .slice A2 l.length d2] (by rfl) _ Try.underlying25 rfl (by exact size_cache) ?_)
      | (refine wpList_store_row rfl 25 (.tmp 4) (.tmp 11) rfl (w.heap.size + 1) rfl [.int .i64 room, .int .u64 (fl : Int), .slice A2 l.length d2] rfl _ _ HH.out (by exact size_cache) rfl (one_cache room fl A2 l.length d2) ?_))
    refine bodyPost_ret (results_row_tmp (p := 4) (u := 5) (ty := 25) (by rfl) _ _ (w.heap.size + 1) 25 _ _ (by rfl) (by exact HH.out.setRow _) Try.underlying25 (by rfl) (by exact size_cache)) (by rfl) ?_
    exact HH.ret 1 (by omega) (by omega)
  | true =>
    have HP2 : Hid (P = ((room, max fl flo, aboveU (max fl flo) l), 0)) := by unfold Hid; rw [HP.out]; unfold raiseC; rw [hrt, if_neg (by decide)]
    obtain rfl := HP2.out
    clear HP hrt
    have hB4 := HH4.out.below
    have hR0 := HH4.out.box
    have c1 := hR0.cell (i := 1) rfl
    have f1 := hR0.frozen 1
    have hmx : (if fl < flo then (flo : Int) else (fl : Int)) = ((max fl flo : Nat) : Int) := by split <;> omega
    have hH5 : HasC (w.heap.size + 2) w w.heap.size (w.heap.size + 1) room (max fl flo) l A2 d2 (w4.setCell ⟨w.heap.size, 1, none⟩ (.int .u64 ((max fl flo : Nat) : Int))) :=
      ⟨hR0.setCell 1 _, HH4.out.out.setCell_other (p := ⟨w.heap.size, 1, none⟩) (by show w.heap.size + 1 ≠ w.heap.size; omega) _, ownsRowU_same (w' := w4.setCell ⟨w.heap.size, 1, none⟩ _) HH4.out.own (fun b hb _ => Below.heap_setCell w4 ⟨w.heap.size, 1, none⟩ _ b (by show b ≠ w.heap.size; omega)), HH4.out.cap, hB4.setCell (p := ⟨w.heap.size, 1, none⟩) (Nat.le_refl _) _, by simpa using HH4.out.size⟩
    go_upto_region 5 with fail
    clear hR0 c1 f1 hB4 HH4 hmx
    generalize w4.setCell ⟨w.heap.size, 1, none⟩ (.int .u64 ((max fl flo : Nat) : Int)) = w5 at hH5 ⊢
    generalize hM : max fl flo = M at hH5 ⊢
    have hS : w5.drew.cell? ⟨w.heap.size, 1, none⟩ = some (.int .u64 (M : Int)) ∧ w5.drew.cell? ⟨w.heap.size, 2, none⟩ = some (.slice A2 l.length d2) := ⟨hH5.box.cell rfl, hH5.box.cell rfl⟩
    refine wp_region_last (fun W => W.cell? ⟨w.heap.size, 1, none⟩ = some (.int .u64 (M : Int)) ∧ W.cell? ⟨w.heap.size, 2, none⟩ = some (.slice A2 l.length d2)) (.step 0 false (.step 1 false (.step 2 false (.step 3 false (.step 4 true (.step 5 true (.step 6 false .nil))))))) hS (by rfl) (by kernel_rfl) (by kernel_rfl) (by decide) (by kernel_rfl) (by kernel_rfl) (by kernel_rfl) (by kernel_rfl) ?_
    simp only [initO, List.dropLast]
    have hHd : HasC (w.heap.size + 2) w w.heap.size (w.heap.size + 1) room M l A2 d2 w5.drew := hH5.later (Below.refl _ _).drew
    clear hH5 hS
    iterate 4 (refine plan_read rfl (by rfl) (v := ?_) ?_ ?_; rotate_left 1; (intro W hW; (try dsimp only at hW); obtain ⟨hW0, hW1⟩ := hW; go_simp <;> with_reducible rfl); simp only [List.getElem_toArray, List.getElem_cons_zero, List.getElem_cons_succ, Act.put, List.setIfInBounds_toArray, List.set_cons_zero, List.set_cons_succ])
    generalize w5.drew = wd at hHd ⊢
    refine plan_make_of rfl (by rfl) (fun K hK => ?_)
    go_simp
    refine (mkbelow_any M _).mono ?_
    rintro e w6 ⟨gb, rfl, hgb, hcb, hb6⟩
    unfold fnBelow
    have hH6 := hHd.later hb6
    refine hK.out _ _ ⟨hH6.box.cell rfl, hH6.box.cell rfl⟩ ?_
    clear hK K
    have hne : ∀ a, A2 = some a → a.block ≠ gb := fun a ha => by
      have := (hHd.own.lt a.block (by rw [ha]; rfl)).2
      omega
    refine plan_make_of rfl (by rfl) (fun K hK => ?_)
    go_simp
    refine (deleteU_any l M l.length d2 gb (w.heap.size + 2) A2 w6 (Lib.hid rfl) hH6.own hH6.cap hne (by omega) hH6.size hcb).mono ?_
    rintro e w7 ⟨A7, d7, rfl, hd7, hown7, hb7⟩
    have hR0 := hH6.box.keep hb7 (by omega)
    have hR2 := hH6.out.keep hb7 (by omega)
    have hB7 : Below w.heap.size w w7 := hH6.below.trans (hb7.mono (by omega))
    have hs7 := Nat.le_trans hH6.size hb7.size
    refine hK.out _ _ ⟨hR0.cell rfl, hR0.cell rfl⟩ ?_
    clear hK K hHd hH6 hne hcb hb6 hb7
    iterate 1 (refine plan_read rfl (by rfl) (v := ?_) ?_ ?_; rotate_left 1; (intro W hW; (try dsimp only at hW); obtain ⟨hW0, hW1⟩ := hW; go_simp <;> with_reducible rfl); simp only [List.getElem_toArray, List.getElem_cons_zero, List.getElem_cons_succ, Act.put, List.setIfInBounds_toArray, List.set_cons_zero, List.set_cons_succ])
    have f2 := hR0.frozen 2
    have k2' : w7.cell? ⟨w.heap.size, 2, none⟩ = some (.slice A2 l.length d2) := hR0.cell rfl
    have hH : HasC (w.heap.size + 2) w w.heap.size (w.heap.size + 1) room M (aboveU M l) A7 d7 (w7.setCell ⟨w.heap.size, 2, none⟩ (.slice A7 (aboveU M l).length d7)) :=
      ⟨hR0.setCell 2 _, hR2.setCell_other (p := ⟨w.heap.size, 2, none⟩) (by show w.heap.size + 1 ≠ w.heap.size; omega) _, ownsRowU_same (w' := w7.setCell ⟨w.heap.size, 2, none⟩ _) hown7 (fun b hb _ => Below.heap_setCell w7 ⟨w.heap.size, 2, none⟩ _ b (by show b ≠ w.heap.size; omega)), hd7, hB7.setCell (p := ⟨w.heap.size, 2, none⟩) (Nat.le_refl _) _, by simpa using hs7⟩
    refine planLast_done rfl (by rfl) ?_
    go_simp
    clear hR0 hR2 f2 k2' hown7
    generalize w7.setCell ⟨w.heap.size, 2, none⟩ (.slice A7 (aboveU M l).length d7) = w8 at hH ⊢
    have HH := hH
    clear hH
    go_wp2_with (first
      | (refine wpList_load_part rfl 25 (.tmp 2) rfl w.heap.size 0 rfl _ _ HH.box [.int .i64 room, .int .u64 (M : Int), .slice A7 (aboveU M l).length d7] (by rfl) _ Try.underlying25 rfl (by exact size_cache) ?_)
      | (refine wpList_store_row rfl 25 (.tmp 4) (.tmp 24) rfl (w.heap.size + 1) rfl [.int .i64 room, .int .u64 (M : Int), .slice A7 (aboveU M l).length d7] rfl _ _ HH.out (by exact size_cache) rfl (one_cache room M A7 (aboveU M l).length d7) ?_))
    refine bodyPost_ret (results_row_tmp (p := 4) (u := 5) (ty := 25) (by rfl) _ _ (w.heap.size + 1) 25 _ _ (by rfl) (by exact HH.out.setRow _) Try.underlying25 (by rfl) (by exact size_cache)) (by rfl) ?_
    rw [hM]
    exact HH.ret 0 (by omega) (by omega)
end Go.Proofs.Ytmljhkdojopljaa
/-
  What the reference's Put of layer 19 answers. No conditions but those typed.
-/
namespace Go.Proofs.Ytmljhkdojopljaa
set_option maxRecDepth 100000
open Go.RowKit
set_option linter.unusedSimpArgs false
set_option linter.unusedVariables false

theorem cut_readU {P : Program} (t e : TypeId) (ht : P.underlying t = some (.slice e)) (hz : ∀ w, (sizeOf e).run P w = .ok 3 w) (A : Option Addr) (n cap k : Nat) (hk : k ≤ n) (hc : n ≤ cap) :
    ∃ A', (∀ w, (Instr.slice t (.slice A n cap) (some (.int .i64 (k : Int))) none none).run P w = .ok (.slice A' (n - k) (cap - k)) w) ∧
      ∀ (w : World) (l : List Us), l.length = n → RdU w A l → RdU w A' (l.drop k) := by
  have ht' : P.underlying t = some (.slice (P.elem t)) := by simp [Program.elem, ht]
  have he : P.elem t = e := by simp [Program.elem, ht]
  refine ⟨if cap = k then A else A.map (·.add (k * 3)), fun w => ?_, fun w l hl h => h.drop k cap (by omega)⟩
  rw [run_slice_l w t A n cap ht' .i64 (k : Int) (by omega) (by omega), he, hz]
  simp [Result.andThen, sliced]
theorem cellsU_takeS (l : List Us) (k : Nat) (h : k < l.length) : cellsU (l.take (k + 1)) = cellsU (l.take k) ++ cellsU [l[k]] := by rw [List.take_succ_eq_append_getElem h, cellsU_app]
def RPutU (l : List Us) (g : Us) (n : Nat) (w1 : World) (v i : Value) (wr : World) : Prop :=
  ∃ k : Nat, i = .int .i64 (k : Int) ∧ k ≤ n ∧ (∀ j (h : j < l.length), j < k → ltU l[j] g = true) ∧ wr.ownsRow w1.heap.size 27 3 v k (cellsU (l.take k)) ∧ Below w1.heap.size w1 wr

set_option maxHeartbeats 4000000 in
theorem refput19_any (room : Int) (fl : Nat) (l : List Us) (g0 g1 g2 n c : Nat) (A : Option Addr) (w : World) (HN : Hid (l.length = n)) (hr : RdU w A l) (hn : n ≤ 1000000) (hc : n ≤ c) :
    Calls Try.prog 13 #[aggC room fl A n c, .agg #[.int .u64 (g0 : Int), .int .u64 (g1 : Int), .int .u64 (g2 : Int)]] w (RetC w (putC (room, fl, l) (g0, g1, g2)).1 (putC (room, fl, l) (g0, g1, g2)).2) := by
  obtain ⟨j0, hj, gz0, gz1, gz2⟩ := info_parts info_use
  obtain ⟨P, hP⟩ : ∃ P, P = putC (room, fl, l) (g0, g1, g2) := ⟨_, rfl⟩
  rw [← hP]
  have HP := Lib.hid hP
  clear hP
  have hR0 : Row (((w.alloc (.cells #[.int .i64 room, .int .u64 (fl : Int), .slice A n c] 25)).alloc (.cells #[.int .u64 (g0 : Int), .int .u64 (g1 : Int), .int .u64 (g2 : Int)] 27)).alloc (.cells #[.int .i64 0, .int .u64 0, .slice none 0 0] 25)) w.heap.size 25 [.int .i64 room, .int .u64 (fl : Int), .slice A n c] := ((Row.new w _ _ _ rfl).alloc _).alloc _
  have hR1 : Row (((w.alloc (.cells #[.int .i64 room, .int .u64 (fl : Int), .slice A n c] 25)).alloc (.cells #[.int .u64 (g0 : Int), .int .u64 (g1 : Int), .int .u64 (g2 : Int)] 27)).alloc (.cells #[.int .i64 0, .int .u64 0, .slice none 0 0] 25)) (w.heap.size + 1) 27 [.int .u64 (g0 : Int), .int .u64 (g1 : Int), .int .u64 (g2 : Int)] := (Row.new_at _ _ (by simp) _ _ _ rfl).alloc _
  have hR2 : Row (((w.alloc (.cells #[.int .i64 room, .int .u64 (fl : Int), .slice A n c] 25)).alloc (.cells #[.int .u64 (g0 : Int), .int .u64 (g1 : Int), .int .u64 (g2 : Int)] 27)).alloc (.cells #[.int .i64 0, .int .u64 0, .slice none 0 0] 25)) (w.heap.size + 1 + 1) 25 [.int .i64 0, .int .u64 0, .slice none 0 0] := Row.new_at _ _ (by simp) _ _ _ rfl
  have hB0 := below_new (below_new (below_new (Below.refl _ w) (.cells #[.int .i64 room, .int .u64 (fl : Int), .slice A n c] 25)) (.cells #[.int .u64 (g0 : Int), .int .u64 (g1 : Int), .int .u64 (g2 : Int)] 27)) (.cells #[.int .i64 0, .int .u64 0, .slice none 0 0] 25)
  unfold aggC
  go_enter Try.func13, Try.ntmps13
  go_upto_region 1 with fail
  generalize ((w.alloc (.cells #[.int .i64 room, .int .u64 (fl : Int), .slice A n c] 25)).alloc (.cells #[.int .u64 (g0 : Int), .int .u64 (g1 : Int), .int .u64 (g2 : Int)] 27)).alloc (.cells #[.int .i64 0, .int .u64 0, .slice none 0 0] 25) = w1 at hR0 hR1 hR2 hB0 ⊢
  obtain ⟨bg, hbgE⟩ : ∃ bg, bg = w.heap.size := ⟨_, rfl⟩
  rw [← hbgE] at hR0 hR1 hR2 ⊢
  have HBG := Lib.hid hbgE
  clear hbgE
  have c0 := hR0.cell (i := 0) rfl
  have c1 := hR0.cell (i := 1) rfl
  have c2 := hR0.cell (i := 2) rfl
  have hrt := refright19_any room fl l n c A w1 HN (hr.keep hB0) (by omega)
  unfold aggC at hrt
  have HRT := Lib.hid hrt
  have HB1 := Lib.hid hB0
  clear hrt hB0
  go_wp2_with fail
  refine HRT.out.mono ?_
  clear HRT
  rintro e w2 ⟨rfl, hb2⟩
  have hQ0 := hR0.later hb2
  have hQ1 := hR1.later hb2
  have hQ2 := hR2.later hb2
  have HBB := Lib.hid (below_step HB1.out hb2)
  clear hR0 hR1 hR2 HB1 hb2 c0 c1 c2
  cases hrt : rightC (room, fl, l) with
  | false =>
    have HP2 : Hid (P = ((room, fl, l), 1)) := by unfold Hid; rw [HP.out]; unfold putC; rw [hrt, if_pos rfl]
    obtain rfl := HP2.out
    clear hrt HP
    go_wp2_with (first
      | (refine wpList_load_part rfl 25 (.tmp 2) rfl bg 0 rfl _ _ hQ0 [.int .i64 room, .int .u64 (fl : Int), .slice A n c] (by rfl) _ Try.underlying25 rfl (by exact size_cache) ?_)
      | (refine wpList_store_row rfl 25 (.tmp 4) (.tmp 11) rfl (bg + 1 + 1) rfl [.int .i64 room, .int .u64 (fl : Int), .slice A n c] rfl _ _ hQ2 (by exact size_cache) rfl (one_cache room fl A n c) ?_))
    refine bodyPost_ret (results_row_tmp (p := 4) (u := 5) (ty := 25) (by rfl) _ _ (bg + 1 + 1) 25 _ _ (by rfl) (by exact hQ2.setRow _) Try.underlying25 (by rfl) (by exact size_cache)) (by rfl) ?_
    exact ⟨A, n, c, rfl, HN, hc, hr.keep (below_setRow HBB.out (by have := HBG.out; omega) _), below_setRow HBB.out (by have := HBG.out; omega) _⟩
  | true =>
    have hsrt : Hid (sortU l = true) := (sortU_pair l).2 (right_c.1 hrt).2.2.2
    have HLE : Hid ((n : Int) ≤ room) := by have := (right_c.1 hrt).2.1; rw [HN.out] at this; exact this
    have hcs := putC_cases (room, fl, l) (g0, g1, g2) hrt
    dsimp only at hcs
    rw [HN.out] at hcs
    clear hrt
    have c0 := hQ0.cell (i := 0) rfl
    have c1 := hQ0.cell (i := 1) rfl
    have c2 := hQ0.cell (i := 2) rfl
    have k0 := hQ1.cell (i := 0) rfl
    have k1 := hQ1.cell (i := 1) rfl
    have k2 := hQ1.cell (i := 2) rfl
    by_cases hfl : g2 < fl
    · have HP2 : Hid (P = ((room, fl, l), 10)) := by
        unfold Hid
        rw [HP.out]
        rcases hcs with ⟨h1, hpt⟩ | ⟨h1, hm, hpt⟩ | ⟨h1, hm, h2, hpt⟩ | ⟨h1, hm, h2, hpt⟩
        · exact hpt
        all_goals omega
      obtain rfl := HP2.out
      clear hcs HP
      go_wp2_with (first
        | (refine wpList_load_part rfl 25 (.tmp 2) rfl bg 0 rfl _ _ hQ0 [.int .i64 room, .int .u64 (fl : Int), .slice A n c] (by rfl) _ Try.underlying25 rfl (by exact size_cache) ?_)
        | (refine wpList_store_row rfl 25 (.tmp 4) (.tmp 17) rfl (bg + 1 + 1) rfl [.int .i64 room, .int .u64 (fl : Int), .slice A n c] rfl _ _ hQ2 (by exact size_cache) rfl (one_cache room fl A n c) ?_))
      refine bodyPost_ret (results_row_tmp (p := 4) (u := 5) (ty := 25) (by rfl) _ _ (bg + 1 + 1) 25 _ _ (by rfl) (by exact hQ2.setRow _) Try.underlying25 (by rfl) (by exact size_cache)) (by rfl) ?_
      exact ⟨A, n, c, rfl, HN, hc, hr.keep (below_setRow HBB.out (by have := HBG.out; omega) _), below_setRow HBB.out (by have := HBG.out; omega) _⟩
    have hhs := refhas19_any room fl l g0 g1 g2 n c A w2 HN (hr.keep HBB.out) (by omega)
    unfold aggC at hhs
    have HHS := Lib.hid hhs
    clear hhs
    go_wp2_with fail
    refine HHS.out.mono ?_
    clear HHS
    rintro e w3 ⟨rfl, hb3⟩
    replace hQ0 := hQ0.later hb3
    replace hQ1 := hQ1.later hb3
    replace hQ2 := hQ2.later hb3
    have HB3 := Lib.hid (below_step HBB.out hb3)
    clear HBB hb3 c0 c1 c2 k0 k1 k2
    have HBB := HB3
    have c0 := hQ0.cell (i := 0) rfl
    have c1 := hQ0.cell (i := 1) rfl
    have c2 := hQ0.cell (i := 2) rfl
    have k0 := hQ1.cell (i := 0) rfl
    have k1 := hQ1.cell (i := 1) rfl
    have k2 := hQ1.cell (i := 2) rfl
    rcases hcs with ⟨h1, hpt⟩ | ⟨h1, hm, hpt⟩ | ⟨h1, hm, h2, hpt⟩ | ⟨h1, hm, h2, hpt⟩
    · exact absurd h1 hfl
    · have HP2 : Hid (P = ((room, fl, l), 11)) := by unfold Hid; rw [HP.out, hpt]
      obtain rfl := HP2.out
      have hh : hasU l (g0, g1, g2) = true := by unfold hasU; exact decide_eq_true hm
      rw [hh]
      clear hpt HP hh hm HLE
      go_wp2_with (first
        | (refine wpList_load_part rfl 25 (.tmp 2) rfl bg 0 rfl _ _ hQ0 [.int .i64 room, .int .u64 (fl : Int), .slice A n c] (by rfl) _ Try.underlying25 rfl (by exact size_cache) ?_)
        | (refine wpList_store_row rfl 25 (.tmp 4) (.tmp 21) rfl (bg + 1 + 1) rfl [.int .i64 room, .int .u64 (fl : Int), .slice A n c] rfl _ _ hQ2 (by exact size_cache) rfl (one_cache room fl A n c) ?_))
      refine bodyPost_ret (results_row_tmp (p := 4) (u := 5) (ty := 25) (by rfl) _ _ (bg + 1 + 1) 25 _ _ (by rfl) (by exact hQ2.setRow _) Try.underlying25 (by rfl) (by exact size_cache)) (by rfl) ?_
      exact ⟨A, n, c, rfl, HN, hc, hr.keep (below_setRow HBB.out (by have := HBG.out; omega) _), below_setRow HBB.out (by have := HBG.out; omega) _⟩
    · have HP2 : Hid (P = ((room, fl, l), 12)) := by unfold Hid; rw [HP.out, hpt]
      obtain rfl := HP2.out
      have hh : hasU l (g0, g1, g2) = false := by unfold hasU; exact decide_eq_false hm
      rw [hh]
      clear hpt HP hh hm HLE
      go_wp2_with (first
        | (refine wpList_load_part rfl 25 (.tmp 2) rfl bg 0 rfl _ _ hQ0 [.int .i64 room, .int .u64 (fl : Int), .slice A n c] (by rfl) _ Try.underlying25 rfl (by exact size_cache) ?_)
        | (refine wpList_store_row rfl 25 (.tmp 4) (.tmp 28) rfl (bg + 1 + 1) rfl [.int .i64 room, .int .u64 (fl : Int), .slice A n c] rfl _ _ hQ2 (by exact size_cache) rfl (one_cache room fl A n c) ?_))
      refine bodyPost_ret (results_row_tmp (p := 4) (u := 5) (ty := 25) (by rfl) _ _ (bg + 1 + 1) 25 _ _ (by rfl) (by exact hQ2.setRow _) Try.underlying25 (by rfl) (by exact size_cache)) (by rfl) ?_
      exact ⟨A, n, c, rfl, HN, hc, hr.keep (below_setRow HBB.out (by have := HBG.out; omega) _), below_setRow HBB.out (by have := HBG.out; omega) _⟩
    · have HP2 : Hid (P = ((room, fl, insU l (g0, g1, g2)), 0)) := by unfold Hid; rw [HP.out, hpt]
      obtain rfl := HP2.out
      have hh : hasU l (g0, g1, g2) = false := by unfold hasU; exact decide_eq_false hm
      rw [hh]
      have h2' : ¬ room ≤ (n : Int) := by omega
      clear hpt HP hh hm HLE
      go_wp2_with fail
      clear c0 c1 c2 k0 k1 k2
      go_loopw [6, 7] (fun v i wr => RPutU l (g0, g1, g2) n w3 v i wr) (fun _ i _ => n - (intOf i).toNat)
      case atStart => exact ⟨0, rfl, by omega, fun j _ hj => by omega, World.ownsRow_nil _ _ _ _, Below.refl _ _⟩
      case round =>
        obtain ⟨k, rfl, hk, hlo, hown, hB⟩ := hrel
        have hQr0 := hQ0.later hB
        have hQr1 := hQ1.later hB
        have d6 : ∀ W, Below wr.heap.size wr W → W.cell? ⟨bg, 2, none⟩ = some (.slice A n c) := fun W hW => (hQr0.later hW).cell rfl
        have d3 : ∀ W, Below wr.heap.size wr W → W.cell? ⟨bg + 1, 0, none⟩ = some (.int .u64 (g0 : Int)) := fun W hW => (hQr1.later hW).cell rfl
        have d4 : ∀ W, Below wr.heap.size wr W → W.cell? ⟨bg + 1, 1, none⟩ = some (.int .u64 (g1 : Int)) := fun W hW => (hQr1.later hW).cell rfl
        have d5 : ∀ W, Below wr.heap.size wr W → W.cell? ⟨bg + 1, 2, none⟩ = some (.int .u64 (g2 : Int)) := fun W hW => (hQr1.later hW).cell rfl
        have hbw := hB.size
        by_cases hlt : k < n
        · have hkl : k < l.length := by rw [HN.out]; exact hlt
          obtain ⟨b, o, hAe, hb, _, p0, p1, p2⟩ := (hr.keep HB3.out).pair hkl
          replace p0 := (hB.cell (p := ⟨b, o + k * 3, none⟩) hb).trans p0
          replace p1 := (hB.cell (p := ⟨b, o + k * 3 + 1, none⟩) hb).trans p1
          replace p2 := (hB.cell (p := ⟨b, o + k * 3 + 2, none⟩) hb).trans p2
          have HT : Hid (ltU l[k] (g0, g1, g2) = true → ∀ j (h : j < l.length), j < k + 1 → ltU l[j] (g0, g1, g2) = true) := fun h => plU_left hsrt.out hkl h
          have HPL : Hid (ltU l[k] (g0, g1, g2) = false → PlU l (g0, g1, g2) k) := fun h => ⟨hlo, plU_right hsrt.out hkl h⟩
          have HCE := Lib.hid (cellsU_takeS l k hkl)
          generalize l[k] = x at p0 p1 p2 HT HPL HCE
          obtain ⟨x0, x1, x2⟩ := x
          unfold vNU at p0 p1 p2
          dsimp only at p0 p1 p2
          have d0 : ∀ W, Below wr.heap.size wr W → W.cell? ⟨b, o + k * 3, none⟩ = some (.int .u64 (x0 : Int)) := fun W hW => (hW.cell (p := ⟨b, o + k * 3, none⟩) (World.block_lt_of_cell? wr _ p0)).trans p0
          have d1 : ∀ W, Below wr.heap.size wr W → W.cell? ⟨b, o + k * 3 + 1, none⟩ = some (.int .u64 (x1 : Int)) := fun W hW => (hW.cell (p := ⟨b, o + k * 3 + 1, none⟩) (World.block_lt_of_cell? wr _ p1)).trans p1
          have d2 : ∀ W, Below wr.heap.size wr W → W.cell? ⟨b, o + k * 3 + 2, none⟩ = some (.int .u64 (x2 : Int)) := fun W hW => (hW.cell (p := ⟨b, o + k * 3 + 2, none⟩) (World.block_lt_of_cell? wr _ p2)).trans p2
          have i2 : (0 : Int) ≤ (k : Int) := by omega
          have i3 : (k : Int) < (n : Int) := by omega
          have HB := Lib.hid hB
          have HLO := Lib.hid hlo
          subst hAe
          clear hB p0 p1 p2 hlo
          have hd3 : decide ((k : Int) < (n : Int)) = true := decide_eq_true i3
          go_wp2_with fail
          have hBase := (Below.refl wr.heap.size wr).drew
          refine wp_region_plan (.step 0 false (.step 1 false (.step 2 false (.step 3 false (.step 4 false (.step 5 false (.step 6 false (.step 7 false (.step 8 false (.step 9 false (.step 10 false (.step 11 false (.step 12 true (.step 13 false (.nil))))))))))))))) (by kernel_rfl) (by kernel_rfl) (by rfl) (by kernel_rfl) ?_
          iterate 12 (refine plan_read rfl (by rfl) (v := ?_) ?_ ?_; rotate_left 1; (intro W hW; have hW0 := below_step hBase hW; (try dsimp only at hW); go_simp <;> with_reducible rfl); simp only [List.getElem_toArray, List.getElem_cons_zero, List.getElem_cons_succ, Act.put, List.setIfInBounds_toArray, List.set_cons_zero, List.set_cons_succ])
          (refine plan_make rfl (by rfl) (fun K hK => ?_); go_simp; (refine (lessU_any (x0, x1, x2) (g0, g1, g2) _).mono ?_; rintro e₁ w4 ⟨rfl, hbx⟩); refine hK.out _ _ hbx ?_; clear hK K; replace hBase := below_step hBase hbx)
          obtain ⟨r, hr0⟩ : ∃ r, ltU (x0, x1, x2) (g0, g1, g2) = r := ⟨_, rfl⟩
          rw [hr0] at HT HPL ⊢
          clear hr0
          have hown4 := ownsRowU_later hown hBase
          have HB4 := Lib.hid (below_step HB.out hBase)
          cases r with
          | true =>
            have HT2 := Lib.hid (HT.out rfl)
            have e0 := d0 _ hBase
            have e1 := d1 _ hBase
            have e2 := d2 _ hBase
            have e6 := d6 _ hBase
            have hsz4 : w3.heap.size ≤ w4.heap.size := HB4.out.size
            iterate 1 (refine plan_read rfl (by rfl) (v := ?_) ?_ ?_; rotate_left 1; (intro W hW; have hW0 := below_step hBase hW; (try dsimp only at hW); go_simp <;> with_reducible rfl); simp only [List.getElem_toArray, List.getElem_cons_zero, List.getElem_cons_succ, Act.put, List.setIfInBounds_toArray, List.set_cons_zero, List.set_cons_succ])
            refine plan_done ?_
            clear d0 d1 d2 d3 d4 d5 d6
            go_wp2_with (at_builtin; refine wpList_append_rdU _ rfl (.tmp 43) (.tmp 49) 23 rfl w3.heap.size 27 j0 (.agg #[.int .u64 0, .int .u64 0, .int .u64 0]) 24 Try.underlying23 hj gz0 gz1 gz2 rfl _ _ _ rfl (hown4.alloc _) (some ⟨w4.heap.size, 0, none⟩) [(x0, x1, x2)] 1 rfl (RdU.one _ _ _ _ _) (by simp; unfold maxLen; omega) (by simp; omega) (by simp; omega) ?_; intro v5 w5 hown5 hgrow5 _)
            have HB5 : Hid (Below w3.heap.size w3 w5) := (below_new HB4.out _).grown hgrow5 (by simp; omega) (fun j hj => (hown4.lt j hj).1)
            go_roundw
            case rel => exact ⟨k + 1, by go_num, by omega, HT2.out, by rw [HCE.out]; exact hown5, HB5.out⟩
            case measure => simp [intOf]; omega
          | false =>
            have HPL2 := Lib.hid (HPL.out rfl)
            iterate 1 (refine plan_read rfl (by rfl) (v := ?_) ?_ ?_; rotate_left 1; (intro W hW; have hW0 := below_step hBase hW; (try dsimp only at hW); go_simp <;> with_reducible rfl); simp only [List.getElem_toArray, List.getElem_cons_zero, List.getElem_cons_succ, Act.put, List.setIfInBounds_toArray, List.set_cons_zero, List.set_cons_succ])
            refine plan_done ?_
            clear d0 d1 d2 d3 d4 d5 d6
            obtain ⟨A2, hcut2, hrd2⟩ := cut_readU (P := Try.prog) 23 27 Try.underlying23 Try.sizeOf27 (some ⟨b, o, none⟩) n c k hk hc
            have HRD := Lib.hid hrd2
            have HI : Hid (insU l (g0, g1, g2) = l.take k ++ [(g0, g1, g2)] ++ l.drop k) := by
              have := plU_ins HPL2.out (by rw [HN.out]; exact hk)
              unfold Hid
              rw [this]
              simp
            have hQ0' := hQ0.later HB4.out
            have hQ1' := hQ1.later HB4.out
            have hQ2' := hQ2.later HB4.out
            have k0 := hQ1'.cell (i := 0) rfl
            have k1 := hQ1'.cell (i := 1) rfl
            have k2 := hQ1'.cell (i := 2) rfl
            have hld : (l.drop k).length = n - k := by rw [List.length_drop, HN.out]
            have HLD := Lib.hid hld
            have hl5 : ((l.take k).length = k) := by rw [List.length_take, HN.out]; omega
            have HL5 := Lib.hid hl5
            have hsz4 : w3.heap.size ≤ w4.heap.size := HB4.out.size
            have hsz3 : bg + 1 + 1 < w3.heap.size := hQ2.lt
            clear hrd2 hld hl5
            go_upto_region 15 with (at_builtin; refine wpList_append_rdU _ rfl (.tmp 53) (.tmp 55) 23 rfl w3.heap.size 27 j0 (.agg #[.int .u64 0, .int .u64 0, .int .u64 0]) 24 Try.underlying23 hj gz0 gz1 gz2 rfl _ _ _ rfl (hown4.alloc _) (some ⟨w4.heap.size, 0, none⟩) [(g0, g1, g2)] 1 rfl (RdU.one _ _ _ _ _) (by simp; unfold maxLen; omega) (by simp; omega) (by simp; omega) ?_; intro v5 w5 hown5 hgrow5 _)
            have hB5 : Below w3.heap.size w3 w5 := (below_new HB4.out _).grown hgrow5 (by simp; omega) (fun j hj => (hown4.lt j hj).1)
            have hP0 := hQ0.later hB5
            have hP2 := hQ2.later hB5
            have hs5 : w3.heap.size ≤ w5.heap.size := hB5.size
            clear k0 k1 k2 hgrow5 hQ0' hQ1' hQ2'
            have hS0 : ∀ W, Below (bg + 1 + 1) w5 W → W.cell? ⟨bg, 0, none⟩ = some (.int .i64 room) := fun W hW => (hP0.keep hW (by omega)).cell rfl
            have hS1 : ∀ W, Below (bg + 1 + 1) w5 W → W.cell? ⟨bg, 1, none⟩ = some (.int .u64 (fl : Int)) := fun W hW => (hP0.keep hW (by omega)).cell rfl
            have hS2 : ∀ W, Below (bg + 1 + 1) w5 W → W.cell? ⟨bg, 2, none⟩ = some (.slice (some ⟨b, o, none⟩) n c) := fun W hW => (hP0.keep hW (by omega)).cell rfl
            have hBase : Below (bg + 1 + 1) w5 w5.drew := (Below.refl _ _).drew
            refine wp_region_plan_at (bg + 1 + 1) (.step 0 false (.step 1 false (.step 2 false (.step 3 false (.step 4 false (.step 5 false (.step 6 false (.step 7 false (.step 8 false (.step 9 true (.step 10 false (.step 11 true (.step 12 false (.nil)))))))))))))) (by kernel_rfl) (by kernel_rfl) (by rfl) (by kernel_rfl) ?_
            iterate 9 (refine plan_read rfl (by rfl) (v := ?_) ?_ ?_; rotate_left 1; (intro W hW; have hW0 := Below.trans hBase hW; (try dsimp only at hW); go_simp <;> with_reducible rfl); simp only [List.getElem_toArray, List.getElem_cons_zero, List.getElem_cons_succ, Act.put, List.setIfInBounds_toArray, List.set_cons_zero, List.set_cons_succ])
            have hr5 : RdU w5.drew A2 (l.drop k) := HRD.out _ l HN.out (((hr.keep HB3.out).keep hB5).keep (Below.refl _ _).drew)
            refine plan_make_at rfl (by rfl) (fun K hK => ?_)
            refine wp_append_rdU _ (.tmp 61) (.tmp 65) 23 (by rfl) w3.heap.size 27 j0 (.agg #[.int .u64 0, .int .u64 0, .int .u64 0]) 24 Try.underlying23 hj gz0 gz1 gz2 rfl v5 _ _ (by rfl) (ownsRowU_later hown5 (Below.refl _ _).drew) A2 (l.drop k) (c - k) (by rw [HLD.out]; rfl) hr5 (by rw [HLD.out]; simp; unfold maxLen; omega) (by rw [HLD.out]; simp; omega) hs5 ?_
            intro v6 w6 hown6 hgrow6 _
            have hb6 : Below (bg + 1 + 1) w5.drew w6 := (Below.refl _ _).grown hgrow6 (by show bg + 1 + 1 ≤ w5.heap.size; omega) (fun j hj => by have := (hown5.lt j hj).1; omega)
            have hb63 : Below w3.heap.size w5.drew w6 := (Below.refl _ _).grown hgrow6 hs5 (fun j hj => (hown5.lt j hj).1)
            have hown7 : w6.ownsRow w3.heap.size 27 3 v6 (insU l (g0, g1, g2)).length (cellsU (insU l (g0, g1, g2))) := by
              have e : (insU l (g0, g1, g2)).length = k + [(g0, g1, g2)].length + (l.drop k).length := by rw [HI.out, List.length_append, List.length_append, HL5.out]
              rw [e, HI.out, cellsU_app, cellsU_app]
              exact hown6
            obtain ⟨A6, c6, rfl, hc6, _, _⟩ := own_sliceU hown7
            have HOW := Lib.hid hown7
            have hR6 : Row w6 (bg + 1 + 1) 25 [.int .i64 0, .int .u64 0, .slice none 0 0] := (hP2.later (Below.refl _ _).drew).keep hb63 hsz3
            have HB6 : Hid (Below w3.heap.size w3 w6) := hB5.drew.trans hb63
            have hs6 := hb63.size
            simp only [List.getElem_toArray, List.getElem_cons_zero, List.getElem_cons_succ, Act.put, List.setIfInBounds_toArray, List.set_cons_zero, List.set_cons_succ]
            refine hK.out _ _ hb6 ?_
            clear hK K hown6 hgrow6 hown5 hown7 hr5 hb63
            replace hBase := hBase.trans hb6
            clear hb6
            iterate 1 (refine plan_read rfl (by rfl) (v := ?_) ?_ ?_; rotate_left 1; (intro W hW; have hW0 := Below.trans hBase hW; (try dsimp only at hW); go_simp <;> with_reducible rfl); simp only [List.getElem_toArray, List.getElem_cons_zero, List.getElem_cons_succ, Act.put, List.setIfInBounds_toArray, List.set_cons_zero, List.set_cons_succ])
            refine plan_make_at rfl (by rfl) (fun K hK => ?_)
            refine Row.wp_store 25 (.tmp 4) (.tmp 67) (by rfl) (by rfl) [.int .i64 room, .int .u64 (fl : Int), .slice A6 (insU l (g0, g1, g2)).length c6] (by rfl) hR6 (by exact size_cache) rfl (one_cache room fl A6 _ c6) ?_
            simp only [List.getElem_toArray, List.getElem_cons_zero, List.getElem_cons_succ, Act.put, List.setIfInBounds_toArray, List.set_cons_zero, List.set_cons_succ]
            refine hK.out _ _ (below_setRow (Below.refl _ _) (Nat.le_refl _) _) ?_
            clear hK K
            replace hBase := hBase.trans (below_setRow (Below.refl (bg + 1 + 1) w6) (Nat.le_refl _) #[.int .i64 room, .int .u64 (fl : Int), .slice A6 (insU l (g0, g1, g2)).length c6])
            iterate 1 (refine plan_read rfl (by rfl) (v := ?_) ?_ ?_; rotate_left 1; (intro W hW; have hW0 := Below.trans hBase hW; (try dsimp only at hW); go_simp <;> with_reducible rfl); simp only [List.getElem_toArray, List.getElem_cons_zero, List.getElem_cons_succ, Act.put, List.setIfInBounds_toArray, List.set_cons_zero, List.set_cons_succ])
            refine plan_done ?_
            go_wp2_with fail
            refine bodyPost_ret (results_row_tmp (p := 4) (u := 5) (ty := 25) (by rfl) _ _ (bg + 1 + 1) 25 _ _ (by rfl) (by exact hR6.setRow _) Try.underlying25 (by rfl) (by exact size_cache)) (by rfl) ?_
            have hbw : Below w.heap.size w w6 := HB3.out.trans (HB6.out.mono HB3.out.size)
            exact ⟨A6, _, c6, rfl, rfl, hc6, RdU.own (ownsRowU_same (w' := w6.setRow (bg + 1 + 1) _) HOW.out (fun b hb _ => Go.setRow_other w6 _ b _ (by omega))), below_setRow hbw (by have := HBG.out; omega) _⟩
        · have hkn : k = n := by omega
          have HPL2 : Hid (PlU l (g0, g1, g2) k) := ⟨hlo, fun j hj hjk => by have := HN.out; omega⟩
          have HB := Lib.hid hB
          have j1 : ¬ (k : Int) < (n : Int) := by omega
          have hd3 : decide ((k : Int) < (n : Int)) = false := decide_eq_false j1
          clear hB hlo hkn
          go_wp2_with fail
          have hBase := (Below.refl wr.heap.size wr).drew
          refine wp_region_plan (.step 0 false (.step 1 false (.step 2 false (.step 3 false (.step 4 false (.step 5 false (.step 6 false (.step 7 false (.step 8 false (.step 9 false (.step 10 false (.step 11 false (.step 12 true (.step 13 false (.nil))))))))))))))) (by kernel_rfl) (by kernel_rfl) (by rfl) (by kernel_rfl) ?_
          iterate 6 (refine plan_read rfl (by rfl) (v := ?_) ?_ ?_; rotate_left 1; (intro W hW; have hW0 := below_step hBase hW; (try dsimp only at hW); go_simp <;> with_reducible rfl); simp only [List.getElem_toArray, List.getElem_cons_zero, List.getElem_cons_succ, Act.put, List.setIfInBounds_toArray, List.set_cons_zero, List.set_cons_succ])
          iterate 7 (refine plan_skip rfl (by rfl) ?_; simp only [List.getElem_toArray, List.getElem_cons_zero, List.getElem_cons_succ, Act.put, List.setIfInBounds_toArray, List.set_cons_zero, List.set_cons_succ])
          iterate 1 (refine plan_read rfl (by rfl) (v := ?_) ?_ ?_; rotate_left 1; (intro W hW; have hW0 := below_step hBase hW; (try dsimp only at hW); go_simp <;> with_reducible rfl); simp only [List.getElem_toArray, List.getElem_cons_zero, List.getElem_cons_succ, Act.put, List.setIfInBounds_toArray, List.set_cons_zero, List.set_cons_succ])
          refine plan_done ?_
          have hown4 := ownsRowU_later hown hBase
          have HB4 := Lib.hid (below_step HB.out hBase)
          generalize wr.drew = w4 at hown4 HB4 ⊢
          clear d3 d4 d5 d6 hBase
          obtain ⟨A2, hcut2, hrd2⟩ := cut_readU (P := Try.prog) 23 27 Try.underlying23 Try.sizeOf27 A n c k hk hc
          have HRD := Lib.hid hrd2
          have HI : Hid (insU l (g0, g1, g2) = l.take k ++ [(g0, g1, g2)] ++ l.drop k) := by
            have := plU_ins HPL2.out (by rw [HN.out]; exact hk)
            unfold Hid
            rw [this]
            simp
          have hQ0' := hQ0.later HB4.out
          have hQ1' := hQ1.later HB4.out
          have hQ2' := hQ2.later HB4.out
          have k0 := hQ1'.cell (i := 0) rfl
          have k1 := hQ1'.cell (i := 1) rfl
          have k2 := hQ1'.cell (i := 2) rfl
          have hld : (l.drop k).length = n - k := by rw [List.length_drop, HN.out]
          have HLD := Lib.hid hld
          have hl5 : ((l.take k).length = k) := by rw [List.length_take, HN.out]; omega
          have HL5 := Lib.hid hl5
          have hsz4 : w3.heap.size ≤ w4.heap.size := HB4.out.size
          have hsz3 : bg + 1 + 1 < w3.heap.size := hQ2.lt
          clear hrd2 hld hl5
          go_upto_region 15 with (at_builtin; refine wpList_append_rdU _ rfl (.tmp 53) (.tmp 55) 23 rfl w3.heap.size 27 j0 (.agg #[.int .u64 0, .int .u64 0, .int .u64 0]) 24 Try.underlying23 hj gz0 gz1 gz2 rfl _ _ _ rfl (hown4.alloc _) (some ⟨w4.heap.size, 0, none⟩) [(g0, g1, g2)] 1 rfl (RdU.one _ _ _ _ _) (by simp; unfold maxLen; omega) (by simp; omega) (by simp; omega) ?_; intro v5 w5 hown5 hgrow5 _)
          have hB5 : Below w3.heap.size w3 w5 := (below_new HB4.out _).grown hgrow5 (by simp; omega) (fun j hj => (hown4.lt j hj).1)
          have hP0 := hQ0.later hB5
          have hP2 := hQ2.later hB5
          have hs5 : w3.heap.size ≤ w5.heap.size := hB5.size
          clear k0 k1 k2 hgrow5 hQ0' hQ1' hQ2'
          have hS0 : ∀ W, Below (bg + 1 + 1) w5 W → W.cell? ⟨bg, 0, none⟩ = some (.int .i64 room) := fun W hW => (hP0.keep hW (by omega)).cell rfl
          have hS1 : ∀ W, Below (bg + 1 + 1) w5 W → W.cell? ⟨bg, 1, none⟩ = some (.int .u64 (fl : Int)) := fun W hW => (hP0.keep hW (by omega)).cell rfl
          have hS2 : ∀ W, Below (bg + 1 + 1) w5 W → W.cell? ⟨bg, 2, none⟩ = some (.slice A n c) := fun W hW => (hP0.keep hW (by omega)).cell rfl
          have hBase : Below (bg + 1 + 1) w5 w5.drew := (Below.refl _ _).drew
          refine wp_region_plan_at (bg + 1 + 1) (.step 0 false (.step 1 false (.step 2 false (.step 3 false (.step 4 false (.step 5 false (.step 6 false (.step 7 false (.step 8 false (.step 9 true (.step 10 false (.step 11 true (.step 12 false (.nil)))))))))))))) (by kernel_rfl) (by kernel_rfl) (by rfl) (by kernel_rfl) ?_
          iterate 9 (refine plan_read rfl (by rfl) (v := ?_) ?_ ?_; rotate_left 1; (intro W hW; have hW0 := Below.trans hBase hW; (try dsimp only at hW); go_simp <;> with_reducible rfl); simp only [List.getElem_toArray, List.getElem_cons_zero, List.getElem_cons_succ, Act.put, List.setIfInBounds_toArray, List.set_cons_zero, List.set_cons_succ])
          have hr5 : RdU w5.drew A2 (l.drop k) := HRD.out _ l HN.out (((hr.keep HB3.out).keep hB5).keep (Below.refl _ _).drew)
          refine plan_make_at rfl (by rfl) (fun K hK => ?_)
          refine wp_append_rdU _ (.tmp 61) (.tmp 65) 23 (by rfl) w3.heap.size 27 j0 (.agg #[.int .u64 0, .int .u64 0, .int .u64 0]) 24 Try.underlying23 hj gz0 gz1 gz2 rfl v5 _ _ (by rfl) (ownsRowU_later hown5 (Below.refl _ _).drew) A2 (l.drop k) (c - k) (by rw [HLD.out]; rfl) hr5 (by rw [HLD.out]; simp; unfold maxLen; omega) (by rw [HLD.out]; simp; omega) hs5 ?_
          intro v6 w6 hown6 hgrow6 _
          have hb6 : Below (bg + 1 + 1) w5.drew w6 := (Below.refl _ _).grown hgrow6 (by show bg + 1 + 1 ≤ w5.heap.size; omega) (fun j hj => by have := (hown5.lt j hj).1; omega)
          have hb63 : Below w3.heap.size w5.drew w6 := (Below.refl _ _).grown hgrow6 hs5 (fun j hj => (hown5.lt j hj).1)
          have hown7 : w6.ownsRow w3.heap.size 27 3 v6 (insU l (g0, g1, g2)).length (cellsU (insU l (g0, g1, g2))) := by
            have e : (insU l (g0, g1, g2)).length = k + [(g0, g1, g2)].length + (l.drop k).length := by rw [HI.out, List.length_append, List.length_append, HL5.out]
            rw [e, HI.out, cellsU_app, cellsU_app]
            exact hown6
          obtain ⟨A6, c6, rfl, hc6, _, _⟩ := own_sliceU hown7
          have HOW := Lib.hid hown7
          have hR6 : Row w6 (bg + 1 + 1) 25 [.int .i64 0, .int .u64 0, .slice none 0 0] := (hP2.later (Below.refl _ _).drew).keep hb63 hsz3
          have HB6 : Hid (Below w3.heap.size w3 w6) := hB5.drew.trans hb63
          have hs6 := hb63.size
          simp only [List.getElem_toArray, List.getElem_cons_zero, List.getElem_cons_succ, Act.put, List.setIfInBounds_toArray, List.set_cons_zero, List.set_cons_succ]
          refine hK.out _ _ hb6 ?_
          clear hK K hown6 hgrow6 hown5 hown7 hr5 hb63
          replace hBase := hBase.trans hb6
          clear hb6
          iterate 1 (refine plan_read rfl (by rfl) (v := ?_) ?_ ?_; rotate_left 1; (intro W hW; have hW0 := Below.trans hBase hW; (try dsimp only at hW); go_simp <;> with_reducible rfl); simp only [List.getElem_toArray, List.getElem_cons_zero, List.getElem_cons_succ, Act.put, List.setIfInBounds_toArray, List.set_cons_zero, List.set_cons_succ])
          refine plan_make_at rfl (by rfl) (fun K hK => ?_)
          refine Row.wp_store 25 (.tmp 4) (.tmp 67) (by rfl) (by rfl) [.int .i64 room, .int .u64 (fl : Int), .slice A6 (insU l (g0, g1, g2)).length c6] (by rfl) hR6 (by exact size_cache) rfl (one_cache room fl A6 _ c6) ?_
          simp only [List.getElem_toArray, List.getElem_cons_zero, List.getElem_cons_succ, Act.put, List.setIfInBounds_toArray, List.set_cons_zero, List.set_cons_succ]
          refine hK.out _ _ (below_setRow (Below.refl _ _) (Nat.le_refl _) _) ?_
          clear hK K
          replace hBase := hBase.trans (below_setRow (Below.refl (bg + 1 + 1) w6) (Nat.le_refl _) #[.int .i64 room, .int .u64 (fl : Int), .slice A6 (insU l (g0, g1, g2)).length c6])
          iterate 1 (refine plan_read rfl (by rfl) (v := ?_) ?_ ?_; rotate_left 1; (intro W hW; have hW0 := Below.trans hBase hW; (try dsimp only at hW); go_simp <;> with_reducible rfl); simp only [List.getElem_toArray, List.getElem_cons_zero, List.getElem_cons_succ, Act.put, List.setIfInBounds_toArray, List.set_cons_zero, List.set_cons_succ])
          refine plan_done ?_
          go_wp2_with fail
          refine bodyPost_ret (results_row_tmp (p := 4) (u := 5) (ty := 25) (by rfl) _ _ (bg + 1 + 1) 25 _ _ (by rfl) (by exact hR6.setRow _) Try.underlying25 (by rfl) (by exact size_cache)) (by rfl) ?_
          have hbw : Below w.heap.size w w6 := HB3.out.trans (HB6.out.mono HB3.out.size)
          exact ⟨A6, _, c6, rfl, rfl, hc6, RdU.own (ownsRowU_same (w' := w6.setRow (bg + 1 + 1) _) HOW.out (fun b hb _ => Go.setRow_other w6 _ b _ (by omega))), below_setRow hbw (by have := HBG.out; omega) _⟩
end Go.Proofs.Ytmljhkdojopljaa
/-
  append of what reads as a list onto a row of the call's own: the row's block behind it is the one it was, or a new one; blocks known whole stay (no program is named here). No conditions but those typed.
-/
namespace Go.Proofs.Ytmljhkdojopljaa
set_option maxRecDepth 100000
open Go.RowKit

theorem Row.grown {w w' : World} {g : Nat} {t : TypeId} {l : List Value} {row : Option Nat} (h : Row w g t l) (hg : w.grownBy w' row) (hn : row ≠ some g) : Row w' g t l :=
  (hg.block g h.lt (fun e => hn e.symm)).trans h
/-- Apart from a block that was there. -/
theorem apart_of {w : World} {v v' : Value} {g : Nat} (h : v.ownBlock ≠ some g) (hg : g < w.heap.size) (hat : v'.ownBlock = v.ownBlock ∨ v'.ownBlock = some w.heap.size) : v'.ownBlock ≠ some g := by
  rcases hat with e | e
  · rw [e]; exact h
  · rw [e]
    intro h
    injection h with h
    omega
section
variable {P : Program} (w : World)
theorem run_append_apart {α : Type} {f : α → Value} (base : Nat) (t ty e : TypeId) (i : TypeInfo) (z : Value) (bytes : Nat) (ht : P.underlying t = some (.slice e)) (hi : P.info? e = some i) (hz : i.zero = some z)
    (hsize : i.size = 1) (hby : i.bytes = bytes) (hzs : z.cells.size = 1) (v : Value) (n : Nat) (xs : List Value) (hown : w.ownsRow base e 1 v n xs)
    (A : Option Addr) (l : List α) (c : Nat) (hr : Rd f w A l) (h1 : ∀ x, (f x).oneCell' = true)
    (h63 : n + l.length ≤ maxLen) (hbytes : (n + l.length) * bytes ≤ 140737488355328) (hbase : base ≤ w.heap.size) :
    ∃ v' w', (Builtin.append_ #[t, t] ty #[v, .slice A l.length c]).run P w = .ok v' w' ∧ w'.ownsRow base e 1 v' (n + l.length) (xs ++ l.map f) ∧ w.grownBy w' v.ownBlock ∧ (v'.ownBlock = v.ownBlock ∨ v'.ownBlock = some w.heap.size) := by
  have hone : ∀ u ∈ l.map f, u.oneCell' = true := by
    intro u hu
    simp only [List.mem_map] at hu
    obtain ⟨x, _, rfl⟩ := hu
    exact h1 x
  by_cases hl : l = []
  · subst hl
    cases A with
    | none => exact ⟨v, w, run_append_nothing_of w base t ty e i ht hi v n xs hown c, by simpa using hown, ⟨rfl, rfl, rfl, Nat.le_refl _, fun _ _ _ => rfl⟩, .inl rfl⟩
    | some ad =>
      obtain ⟨v', w', hrun, h2, h3, _, h4⟩ := run_append_own_at (P := P) w base t ty e i z 1 bytes ht hi hz hsize hby hzs (by omega) v n xs hown ad 0 c [] rfl (fun j u h => by simp at h) (fun u h => by simp at h) h63 hbytes hbase
      exact ⟨v', w', hrun, h2, h3, h4⟩
  · obtain ⟨b, o, rfl, _⟩ := hr hl
    obtain ⟨v', w', hrun, h2, h3, _, h4⟩ := run_append_own_at (P := P) w base t ty e i z 1 bytes ht hi hz hsize hby hzs (by omega) v n xs hown ⟨b, o, none⟩ l.length c (l.map f) (by simp) hr.news hone h63 hbytes hbase
    exact ⟨v', w', hrun, h2, h3, h4⟩

theorem wp_append_apart {α : Type} {f : α → Value} {o : Oper} {a : Act} {K : Act → World → Prop} {Q : Exit → Act → World → Prop} (s x : Operand) (t : TypeId)
    (ho : o.op = .call { callee := .builtin .append, args := #[s, x], argTypes := #[t, t] })
    (base : Nat) (e : TypeId) (i : TypeInfo) (z : Value) (bytes : Nat) (ht : P.underlying t = some (.slice e)) (hi : P.info? e = some i) (hz : i.zero = some z)
    (hsize : i.size = 1) (hby : i.bytes = bytes) (hzs : z.cells.size = 1) (v : Value) (n : Nat) (xs : List Value) (hs : a.eval s = v) (hown : w.ownsRow base e 1 v n xs)
    (A : Option Addr) (l : List α) (c : Nat) (hx : a.eval x = .slice A l.length c) (hr : Rd f w A l) (h1 : ∀ x, (f x).oneCell' = true)
    (h63 : n + l.length ≤ maxLen) (hbytes : (n + l.length) * bytes ≤ 140737488355328) (hbase : base ≤ w.heap.size)
    (h : ∀ v' w', w'.ownsRow base e 1 v' (n + l.length) (xs ++ l.map f) → w.grownBy w' v.ownBlock → (v'.ownBlock = v.ownBlock ∨ v'.ownBlock = some w.heap.size) → K (a.put o.dst v') w') : o.wp P a w K Q := by
  obtain ⟨v', w', hr, h2, h3, h4⟩ := run_append_apart (P := P) w base t o.type e i z bytes ht hi hz hsize hby hzs v n xs hown A l c hr h1 h63 hbytes hbase
  unfold Oper.wp execOp
  simp only [ho, resolve, invoke, builtin, Sem.run_bind, Sem.run_pure, Result.andThen_ok, List.map_toArray, List.map_cons, List.map_nil, hs, hx, hr]
  exact h v' w' h2 h3 h4

theorem wpList_append_apart {α : Type} {f : α → Value} {ops : Array Oper} {rest : List Oper} {o : Oper} {a : Act} {Q : Exit → Act → World → Prop} (hgd : o.guard = none) (s x : Operand) (t : TypeId)
    (ho : o.op = .call { callee := .builtin .append, args := #[s, x], argTypes := #[t, t] })
    (base : Nat) (e : TypeId) (i : TypeInfo) (z : Value) (bytes : Nat) (ht : P.underlying t = some (.slice e)) (hi : P.info? e = some i) (hz : i.zero = some z)
    (hsize : i.size = 1) (hby : i.bytes = bytes) (hzs : z.cells.size = 1) (v : Value) (n : Nat) (xs : List Value) (hs : a.eval s = v) (hown : w.ownsRow base e 1 v n xs)
    (A : Option Addr) (l : List α) (c : Nat) (hx : a.eval x = .slice A l.length c) (hr : Rd f w A l) (h1 : ∀ x, (f x).oneCell' = true)
    (h63 : n + l.length ≤ maxLen) (hbytes : (n + l.length) * bytes ≤ 140737488355328) (hbase : base ≤ w.heap.size)
    (h : ∀ v' w', w'.ownsRow base e 1 v' (n + l.length) (xs ++ l.map f) → w.grownBy w' v.ownBlock → (v'.ownBlock = v.ownBlock ∨ v'.ownBlock = some w.heap.size) → wpList P ops Q rest (a.put o.dst v') w') : wpList P ops Q (o :: rest) a w :=
  wpList_plain hgd fun _ hK => wp_append_apart w s x t ho base e i z bytes ht hi hz hsize hby hzs v n xs hs hown A l c hx hr h1 h63 hbytes hbase fun v' w' h2 h3 h4 => hK _ _ (h v' w' h2 h3 h4)
end
end Go.Proofs.Ytmljhkdojopljaa
/-
  What the reference's Raise of layer 19 answers. No conditions but those typed.
-/
namespace Go.Proofs.Ytmljhkdojopljaa
set_option maxRecDepth 100000
open Go.RowKit
set_option linter.unusedSimpArgs false
set_option linter.unusedVariables false

def RRaiseU (room : Int) (M : Nat) (l : List Us) (n bo : Nat) (w3 : World) (i : Value) (wr : World) : Prop :=
  ∃ (k : Nat) (A : Option Addr) (c : Nat), i = .int .i64 (k : Int) ∧ k ≤ n ∧ Row wr bo 25 [.int .i64 room, .int .u64 (M : Int), .slice A (aboveU M (l.take k)).length c] ∧ wr.ownsRow (bo + 1) 27 3 (.slice A (aboveU M (l.take k)).length c) (aboveU M (l.take k)).length (cellsU (aboveU M (l.take k))) ∧ Below bo w3 wr

set_option maxHeartbeats 4000000 in
theorem refraise19_any (room : Int) (fl : Nat) (l : List Us) (flo n c : Nat) (A : Option Addr) (w : World) (HN : Hid (l.length = n)) (hr : RdU w A l) (hn : n ≤ 1000000) (hc : n ≤ c) :
    Calls Try.prog 15 #[aggC room fl A n c, .int .u64 (flo : Int)] w (RetC w (raiseC (room, fl, l) flo).1 (raiseC (room, fl, l) flo).2) := by
  obtain ⟨j0, hj, gz0, gz1, gz2⟩ := info_parts info_use
  obtain ⟨P, hP⟩ : ∃ P, P = raiseC (room, fl, l) flo := ⟨_, rfl⟩
  rw [← hP]
  have HP := Lib.hid hP
  clear hP
  have hR0 : Row ((w.alloc (.cells #[.int .i64 room, .int .u64 (fl : Int), .slice A n c] 25)).alloc (.cells #[.int .i64 0, .int .u64 0, .slice none 0 0] 25)) w.heap.size 25 [.int .i64 room, .int .u64 (fl : Int), .slice A n c] := (Row.new w _ _ _ rfl).alloc _
  have hR2 : Row ((w.alloc (.cells #[.int .i64 room, .int .u64 (fl : Int), .slice A n c] 25)).alloc (.cells #[.int .i64 0, .int .u64 0, .slice none 0 0] 25)) (w.heap.size + 1) 25 [.int .i64 0, .int .u64 0, .slice none 0 0] := Row.new_at _ _ (by simp) _ _ _ rfl
  have hB0 := below_new (below_new (Below.refl _ w) (.cells #[.int .i64 room, .int .u64 (fl : Int), .slice A n c] 25)) (.cells #[.int .i64 0, .int .u64 0, .slice none 0 0] 25)
  unfold aggC
  go_enter Try.func15, Try.ntmps15
  go_upto_region 1 with fail
  generalize (w.alloc (.cells #[.int .i64 room, .int .u64 (fl : Int), .slice A n c] 25)).alloc (.cells #[.int .i64 0, .int .u64 0, .slice none 0 0] 25) = w1 at hR0 hR2 hB0 ⊢
  obtain ⟨bg, hbgE⟩ : ∃ bg, bg = w.heap.size := ⟨_, rfl⟩
  rw [← hbgE] at hR0 hR2 ⊢
  have HBG := Lib.hid hbgE
  clear hbgE
  have c0 := hR0.cell (i := 0) rfl
  have c1 := hR0.cell (i := 1) rfl
  have c2 := hR0.cell (i := 2) rfl
  have hrt := refright19_any room fl l n c A w1 HN (hr.keep hB0) (by omega)
  unfold aggC at hrt
  have HRT := Lib.hid hrt
  have HB1 := Lib.hid hB0
  clear hrt hB0
  go_wp2_with fail
  refine HRT.out.mono ?_
  clear HRT
  rintro e w3 ⟨rfl, hb3⟩
  have hQ0 := hR0.later hb3
  have hQ2 := hR2.later hb3
  have HB3 := Lib.hid (below_step HB1.out hb3)
  clear hR0 hR2 HB1 hb3 c0 c1 c2
  cases hrt : rightC (room, fl, l) with
  | false =>
    have HP2 : Hid (P = ((room, fl, l), 1)) := by unfold Hid; rw [HP.out]; unfold raiseC; rw [hrt, if_pos rfl]
    obtain rfl := HP2.out
    clear hrt HP
    go_wp2_with (first
      | (refine wpList_load_part rfl 25 (.tmp 2) rfl bg 0 rfl _ _ hQ0 [.int .i64 room, .int .u64 (fl : Int), .slice A n c] (by rfl) _ Try.underlying25 rfl (by exact size_cache) ?_)
      | (refine wpList_store_row rfl 25 (.tmp 4) (.tmp 11) rfl (bg + 1) rfl [.int .i64 room, .int .u64 (fl : Int), .slice A n c] rfl _ _ hQ2 (by exact size_cache) rfl (one_cache room fl A n c) ?_))
    refine bodyPost_ret (results_row_tmp (p := 4) (u := 5) (ty := 25) (by rfl) _ _ (bg + 1) 25 _ _ (by rfl) (by exact hQ2.setRow _) Try.underlying25 (by rfl) (by exact size_cache)) (by rfl) ?_
    exact ⟨A, n, c, rfl, HN, hc, hr.keep (below_setRow HB3.out (by have := HBG.out; omega) _), below_setRow HB3.out (by have := HBG.out; omega) _⟩
  | true =>
    obtain ⟨M, hM⟩ : ∃ M, M = max fl flo := ⟨_, rfl⟩
    have HP2 : Hid (P = ((room, M, aboveU M l), 0)) := by unfold Hid; rw [HP.out]; unfold raiseC; rw [hrt, if_neg (by decide), hM]
    have HMX := Lib.hid hM
    clear hM
    obtain rfl := HP2.out
    clear hrt HP
    have c0 := hQ0.cell (i := 0) rfl
    have c1 := hQ0.cell (i := 1) rfl
    obtain ⟨hOo, hBo⟩ := box_of w3 25 [.int .i64 room, .int .u64 (fl : Int), .slice none 0 0] _ rfl
    obtain ⟨bo, hboE⟩ : ∃ bo, bo = w3.heap.size := ⟨_, rfl⟩
    have hb0 : bg < bo := by rw [hboE]; exact hQ0.lt
    have hb2 : bg + 1 < bo := by rw [hboE]; exact hQ2.lt
    rw [← hboE] at hOo hBo
    go_upto_region 4 with fail
    rw [← hboE]
    have HBO := Lib.hid hboE
    clear c0 c1 hboE
    generalize w3.alloc (.cells #[.int .i64 room, .int .u64 (fl : Int), .slice none 0 0] 25) = w4 at hOo hBo ⊢
    have c1 : w4.cell? ⟨bg, 1, none⟩ = some (.int .u64 (fl : Int)) := (hQ0.keep hBo hb0).cell rfl
    by_cases hgt : fl < flo
    · have e1 : w4.cell? ⟨bo, 1, none⟩ = some (.int .u64 (fl : Int)) := hOo.cell rfl
      have f1 := hOo.frozen 1
      have hOo2 : Row (w4.setCell ⟨bo, 1, none⟩ (.int .u64 (flo : Int))) bo 25 [.int .i64 room, .int .u64 (flo : Int), .slice none 0 0] := hOo.setCell 1 _
      have hBo2 : Below bo w3 (w4.setCell ⟨bo, 1, none⟩ (.int .u64 (flo : Int))) := hBo.setCell (p := ⟨bo, 1, none⟩) (Nat.le_refl _) _
      have hM : flo = M := by have := HMX.out; omega
      subst hM
      go_upto_region 6 with fail
      clear e1 f1 c1 hOo hBo hgt HMX
      generalize w4.setCell ⟨bo, 1, none⟩ (.int .u64 (flo : Int)) = w5 at hOo2 hBo2 ⊢
      have hOo := hOo2
      have hBo := hBo2
      clear hOo2 hBo2
      go_wp2_with fail
      go_loopw [7] (fun i wr => RRaiseU room flo l n bo w3 i wr) (fun i _ => n - (intOf i).toNat)
      case atStart => exact ⟨0, none, 0, rfl, by omega, hOo, World.ownsRow_nil _ _ _ _, hBo⟩
      case round =>
        clear hOo hBo
        obtain ⟨k, A3, c3, rfl, hk, hO, hown, hB⟩ := hrel
        have hQr0 := hQ0.keep hB hb0
        have hlo := hO.lt
        have c2 : wr.cell? ⟨bg, 2, none⟩ = some (.slice A n c) := hQr0.cell rfl
        by_cases hlt : k < n
        · have hkl : k < l.length := by rw [HN.out]; exact hlt
          obtain ⟨b, o, hAe, hb, _, p0, p1, p2⟩ := (hr.keep HB3.out).pair hkl
          rw [← HBO.out] at hb
          replace p0 := (hB.cell (p := ⟨b, o + k * 3, none⟩) hb).trans p0
          replace p1 := (hB.cell (p := ⟨b, o + k * 3 + 1, none⟩) hb).trans p1
          replace p2 := (hB.cell (p := ⟨b, o + k * 3 + 2, none⟩) hb).trans p2
          have HT := Lib.hid (above_take_succ (fl := flo) hkl)
          generalize l[k] = x at p0 p1 p2 HT
          obtain ⟨x0, x1, x2⟩ := x
          unfold vNU at p0 p1 p2
          dsimp only at p0 p1 p2 HT
          have d2 : ∀ W, Below wr.heap.size wr W → W.cell? ⟨b, o + k * 3 + 2, none⟩ = some (.int .u64 (x2 : Int)) := fun W hW => (hW.cell (p := ⟨b, o + k * 3 + 2, none⟩) (World.block_lt_of_cell? wr _ p2)).trans p2
          have d6 : ∀ W, Below wr.heap.size wr W → W.cell? ⟨bg, 2, none⟩ = some (.slice (some ⟨b, o, none⟩) n c) := fun W hW => (hQr0.later hW).cell (by rw [hAe]; rfl)
          have d7 : ∀ W, Below wr.heap.size wr W → W.cell? ⟨bo, 1, none⟩ = some (.int .u64 (flo : Int)) := fun W hW => (hO.later hW).cell rfl
          have i2 : (0 : Int) ≤ (k : Int) := by omega
          have i3 : (k : Int) < (n : Int) := by omega
          have HB := Lib.hid hB
          have HO := Lib.hid hO
          have HOWN := Lib.hid hown
          have HP := Lib.hid (And.intro p0 (And.intro p1 p2))
          subst hAe
          clear hB p0 p1 p2 hO hown
          go_wp2_with fail
          have hBase := (Below.refl wr.heap.size wr).drew
          refine wp_region_plan (.step 0 false (.step 1 false (.step 2 false (.step 3 false (.step 4 false (.step 5 false (.step 6 false (.step 7 false (.step 8 false (.nil)))))))))) (by kernel_rfl) (by kernel_rfl) (by rfl) (by kernel_rfl) ?_
          iterate 9 (refine plan_read rfl (by rfl) (v := ?_) ?_ ?_; rotate_left 1; (intro W hW; have hW0 := below_step hBase hW; (try dsimp only at hW); go_simp <;> with_reducible rfl); simp only [List.getElem_toArray, List.getElem_cons_zero, List.getElem_cons_succ, Act.put, List.setIfInBounds_toArray, List.set_cons_zero, List.set_cons_succ])
          refine plan_done ?_
          have hbd : Below wr.heap.size wr wr.drew := hBase
          have HB4 : Hid (Below bo w3 wr.drew) := HB.out.drew
          have HO4 : Hid (Row wr.drew bo 25 [.int .i64 room, .int .u64 (flo : Int), .slice A3 (aboveU flo (l.take k)).length c3]) := HO.out
          have HOWN4 : Hid (wr.drew.ownsRow (bo + 1) 27 3 (.slice A3 (aboveU flo (l.take k)).length c3) (aboveU flo (l.take k)).length (cellsU (aboveU flo (l.take k)))) := HOWN.out
          have HP4 : Hid (wr.drew.cell? ⟨b, o + k * 3, none⟩ = some (.int .u64 (x0 : Int)) ∧ wr.drew.cell? ⟨b, o + k * 3 + 1, none⟩ = some (.int .u64 (x1 : Int)) ∧ wr.drew.cell? ⟨b, o + k * 3 + 2, none⟩ = some (.int .u64 (x2 : Int))) := HP.out
          have hlo4 : bo < wr.drew.heap.size := hlo
          clear d2 d6 d7 hBase hbd HB HO HOWN HP hlo hQr0 c2
          generalize wr.drew = w4 at HB4 HO4 HOWN4 HP4 hlo4 ⊢
          by_cases hx : flo ≤ x2
          · have HT2 : Hid (aboveU flo (l.take (k + 1)) = aboveU flo (l.take k) ++ [(x0, x1, x2)]) := HT.out.trans (if_pos hx)
            clear HT
            have hLn : (aboveU flo (l.take k)).length ≤ n := by
              have h1 := above_length flo (l.take k)
              rw [List.length_take] at h1
              omega
            generalize aboveU flo (l.take k) = L at HO4 HOWN4 HT2 hLn
            have hQr0 := hQ0.keep HB4.out hb0
            obtain ⟨p0, p1, p2⟩ := HP4.out
            have d0 : ∀ W, Below bo w4 W → W.cell? ⟨b, o + k * 3, none⟩ = some (.int .u64 (x0 : Int)) := fun W hW => (hW.cell (p := ⟨b, o + k * 3, none⟩) hb).trans p0
            have d1 : ∀ W, Below bo w4 W → W.cell? ⟨b, o + k * 3 + 1, none⟩ = some (.int .u64 (x1 : Int)) := fun W hW => (hW.cell (p := ⟨b, o + k * 3 + 1, none⟩) hb).trans p1
            have d2 : ∀ W, Below bo w4 W → W.cell? ⟨b, o + k * 3 + 2, none⟩ = some (.int .u64 (x2 : Int)) := fun W hW => (hW.cell (p := ⟨b, o + k * 3 + 2, none⟩) hb).trans p2
            have d6 : ∀ W, Below bo w4 W → W.cell? ⟨bg, 2, none⟩ = some (.slice (some ⟨b, o, none⟩) n c) := fun W hW => (hQr0.keep hW hb0).cell rfl
            go_wp2_with fail
            have hS : w4.drew.cell? ⟨bo, 2, none⟩ = some (.slice A3 L.length c3) ∧ Below bo w4 w4.drew := ⟨HO4.out.cell rfl, (Below.refl _ _).drew⟩
            refine wp_region_last (fun W => W.cell? ⟨bo, 2, none⟩ = some (.slice A3 L.length c3) ∧ Below bo w4 W) (.step 0 false (.step 1 false (.step 2 false (.step 3 false (.step 4 false (.step 5 false (.step 6 false (.step 7 true (.step 8 true (.step 9 false .nil)))))))))) hS (by rfl) (by kernel_rfl) (by kernel_rfl) (by decide) (by kernel_rfl) (by kernel_rfl) (by kernel_rfl) (by kernel_rfl) ?_
            simp only [initO, List.dropLast]
            iterate 7 (refine plan_read rfl (by rfl) (v := ?_) ?_ ?_; rotate_left 1; (intro W hW; (try dsimp only at hW); obtain ⟨hW0, hW1⟩ := hW; go_simp <;> with_reducible rfl); simp only [List.getElem_toArray, List.getElem_cons_zero, List.getElem_cons_succ, Act.put, List.setIfInBounds_toArray, List.set_cons_zero, List.set_cons_succ])
            have hRd : Row w4.drew bo 25 [.int .i64 room, .int .u64 (flo : Int), .slice A3 L.length c3] := HO4.out
            have hownd : w4.drew.ownsRow (bo + 1) 27 3 (.slice A3 L.length c3) L.length (cellsU L) := HOWN4.out
            have hbd : Below bo w4 w4.drew := (Below.refl _ _).drew
            have hsd : bo < w4.drew.heap.size := hlo4
            clear hS
            generalize w4.drew = wd at hRd hownd hbd hsd ⊢
            have hbd2 : Below bo w4 (wd.alloc (.cells #[.int .u64 (x0 : Int), .int .u64 (x1 : Int), .int .u64 (x2 : Int)] 27)) := hbd.alloc (by omega) _
            (refine plan_make_of rfl (by rfl) (fun K hK => ?_); go_simp; refine hK.out _ _ ⟨(hRd.alloc _).cell rfl, hbd2⟩ ?_; clear hK K)
            refine plan_make_of rfl (by rfl) (fun K hK => ?_)
            refine wp_append_rdU _ (.tmp 40) (.tmp 46) 23 (by rfl) (bo + 1) 27 j0 (.agg #[.int .u64 0, .int .u64 0, .int .u64 0]) 24 Try.underlying23 hj gz0 gz1 gz2 rfl _ _ _ (by rfl) (hownd.alloc _) (some ⟨wd.heap.size, 0, none⟩) [(x0, x1, x2)] 1 (by rfl) (RdU.one _ _ _ _ _) (by simp; unfold maxLen; omega) (by simp; omega) (by simp; omega) ?_
            intro v9 w9 hown9 hgrow9 _
            have hR9 := (hRd.alloc (.cells #[.int .u64 (x0 : Int), .int .u64 (x1 : Int), .int .u64 (x2 : Int)] 27)).grown hgrow9 (fun e => by have := (hownd.lt _ e).1; omega)
            have hb9 : Below bo w4 w9 := hbd2.grown hgrow9 (by simp; omega) (fun j hj => by have := (hownd.lt j hj).1; omega)
            have hown10 : w9.ownsRow (bo + 1) 27 3 v9 (aboveU flo (l.take (k + 1))).length (cellsU (aboveU flo (l.take (k + 1)))) := by
              rw [HT2.out, cellsU_app, List.length_append]
              exact hown9
            obtain ⟨A9, c9, rfl, _, _, _⟩ := own_sliceU hown10
            have HOWN9 := Lib.hid hown10
            have HB9 : Hid (Below bo w3 w9) := HB4.out.trans hb9
            simp only [List.getElem_toArray, List.getElem_cons_zero, List.getElem_cons_succ, Act.put, List.setIfInBounds_toArray, List.set_cons_zero, List.set_cons_succ]
            refine hK.out _ _ ⟨hR9.cell rfl, hb9⟩ ?_
            clear hK K hown9 hgrow9 hown10 hbd2 hownd hRd hbd
            iterate 1 (refine plan_read rfl (by rfl) (v := ?_) ?_ ?_; rotate_left 1; (intro W hW; (try dsimp only at hW); obtain ⟨hW0, hW1⟩ := hW; go_simp <;> with_reducible rfl); simp only [List.getElem_toArray, List.getElem_cons_zero, List.getElem_cons_succ, Act.put, List.setIfInBounds_toArray, List.set_cons_zero, List.set_cons_succ])
            have hc9 : w9.cell? ⟨bo, 2, none⟩ = some (.slice A3 L.length c3) := hR9.cell rfl
            have hf9 : w9.frozen? ⟨bo, 2, none⟩ = false := hR9.frozen 2
            refine planLast_done rfl (by rfl) ?_
            go_simp
            have HR10 : Hid (Row (w9.setCell ⟨bo, 2, none⟩ (.slice A9 (aboveU flo (l.take (k + 1))).length c9)) bo 25 [.int .i64 room, .int .u64 (flo : Int), .slice A9 (aboveU flo (l.take (k + 1))).length c9]) := hR9.setCell 2 _
            have HW10 := Lib.hid (ownsRowU_same (w' := w9.setCell ⟨bo, 2, none⟩ (.slice A9 (aboveU flo (l.take (k + 1))).length c9)) HOWN9.out (fun j h1 _ => Below.heap_setCell w9 ⟨bo, 2, none⟩ _ j (by show j ≠ bo; omega)))
            have HB10 := Lib.hid (HB9.out.setCell (p := ⟨bo, 2, none⟩) (Nat.le_refl bo) (.slice A9 (aboveU flo (l.take (k + 1))).length c9))
            clear hR9 hc9 hf9 HOWN9 HB9 hb9
            generalize w9.setCell ⟨bo, 2, none⟩ (.slice A9 (aboveU flo (l.take (k + 1))).length c9) = w10 at HR10 HW10 HB10 ⊢
            go_wp2_with fail
            go_roundw
            case rel => exact ⟨k + 1, A9, c9, by go_num, by omega, HR10.out, HW10.out, HB10.out⟩
            case measure => simp [intOf]; omega
          · have HT2 : Hid (aboveU flo (l.take (k + 1)) = aboveU flo (l.take k)) := HT.out.trans (if_neg hx)
            clear HT
            go_wp2_with fail
            go_roundw
            case rel => exact ⟨k + 1, A3, c3, by go_num, by omega, by rw [HT2.out]; exact HO4.out, by rw [HT2.out]; exact HOWN4.out, HB4.out⟩
            case measure => simp [intOf]; omega
        · have j1 : ¬ (k : Int) < (n : Int) := by omega
          have hkn : k = l.length := by have := HN.out; omega
          have HTK : Hid (aboveU flo (l.take k) = aboveU flo l) := by unfold Hid; rw [hkn, List.take_length]
          have hfits : (aboveU flo (l.take k)).length ≤ c3 := by
            rcases hown.2 with ⟨h1, h2⟩ | ⟨_, _, _, h1, _, _, h2, _⟩
            · injection h1 with _ _ h3
              omega
            · injection h1 with _ _ h3
              omega
          rw [HTK.out] at hO hown hfits
          have hQr2 := hQ2.keep hB hb2
          clear hkn
          go_wp2_with (first
            | (refine wpList_load_part rfl 25 (.tmp 6) rfl bo 0 rfl _ _ hO [.int .i64 room, .int .u64 (flo : Int), .slice A3 (aboveU flo l).length c3] (by rfl) _ Try.underlying25 rfl (by exact size_cache) ?_)
            | (refine wpList_store_row rfl 25 (.tmp 4) (.tmp 49) rfl (bg + 1) rfl [.int .i64 room, .int .u64 (flo : Int), .slice A3 (aboveU flo l).length c3] rfl _ _ hQr2 (by exact size_cache) rfl (one_cache room flo A3 _ c3) ?_))
          refine bodyPost_ret (results_row_tmp (p := 4) (u := 5) (ty := 25) (by rfl) _ _ (bg + 1) 25 _ _ (by rfl) (by exact hQr2.setRow _) Try.underlying25 (by rfl) (by exact size_cache)) (by rfl) ?_
          have hbw : Below w.heap.size w wr := HB3.out.trans (hB.mono (by rw [HBO.out]; exact HB3.out.size))
          exact ⟨A3, _, c3, rfl, rfl, hfits, RdU.own (ownsRowU_same (w' := wr.setRow (bg + 1) _) hown (fun b hb _ => Go.setRow_other wr _ b _ (by omega))), below_setRow hbw (by have := HBG.out; omega) _⟩
    · have hM : fl = M := by have := HMX.out; omega
      subst hM
      go_upto_region 6 with fail
      clear c1 hgt HMX
      go_wp2_with fail
      go_loopw [7] (fun i wr => RRaiseU room fl l n bo w3 i wr) (fun i _ => n - (intOf i).toNat)
      case atStart => exact ⟨0, none, 0, rfl, by omega, hOo, World.ownsRow_nil _ _ _ _, hBo⟩
      case round =>
        clear hOo hBo
        obtain ⟨k, A3, c3, rfl, hk, hO, hown, hB⟩ := hrel
        have hQr0 := hQ0.keep hB hb0
        have hlo := hO.lt
        have c2 : wr.cell? ⟨bg, 2, none⟩ = some (.slice A n c) := hQr0.cell rfl
        by_cases hlt : k < n
        · have hkl : k < l.length := by rw [HN.out]; exact hlt
          obtain ⟨b, o, hAe, hb, _, p0, p1, p2⟩ := (hr.keep HB3.out).pair hkl
          rw [← HBO.out] at hb
          replace p0 := (hB.cell (p := ⟨b, o + k * 3, none⟩) hb).trans p0
          replace p1 := (hB.cell (p := ⟨b, o + k * 3 + 1, none⟩) hb).trans p1
          replace p2 := (hB.cell (p := ⟨b, o + k * 3 + 2, none⟩) hb).trans p2
          have HT := Lib.hid (above_take_succ (fl := fl) hkl)
          generalize l[k] = x at p0 p1 p2 HT
          obtain ⟨x0, x1, x2⟩ := x
          unfold vNU at p0 p1 p2
          dsimp only at p0 p1 p2 HT
          have d2 : ∀ W, Below wr.heap.size wr W → W.cell? ⟨b, o + k * 3 + 2, none⟩ = some (.int .u64 (x2 : Int)) := fun W hW => (hW.cell (p := ⟨b, o + k * 3 + 2, none⟩) (World.block_lt_of_cell? wr _ p2)).trans p2
          have d6 : ∀ W, Below wr.heap.size wr W → W.cell? ⟨bg, 2, none⟩ = some (.slice (some ⟨b, o, none⟩) n c) := fun W hW => (hQr0.later hW).cell (by rw [hAe]; rfl)
          have d7 : ∀ W, Below wr.heap.size wr W → W.cell? ⟨bo, 1, none⟩ = some (.int .u64 (fl : Int)) := fun W hW => (hO.later hW).cell rfl
          have i2 : (0 : Int) ≤ (k : Int) := by omega
          have i3 : (k : Int) < (n : Int) := by omega
          have HB := Lib.hid hB
          have HO := Lib.hid hO
          have HOWN := Lib.hid hown
          have HP := Lib.hid (And.intro p0 (And.intro p1 p2))
          subst hAe
          clear hB p0 p1 p2 hO hown
          go_wp2_with fail
          have hBase := (Below.refl wr.heap.size wr).drew
          refine wp_region_plan (.step 0 false (.step 1 false (.step 2 false (.step 3 false (.step 4 false (.step 5 false (.step 6 false (.step 7 false (.step 8 false (.nil)))))))))) (by kernel_rfl) (by kernel_rfl) (by rfl) (by kernel_rfl) ?_
          iterate 9 (refine plan_read rfl (by rfl) (v := ?_) ?_ ?_; rotate_left 1; (intro W hW; have hW0 := below_step hBase hW; (try dsimp only at hW); go_simp <;> with_reducible rfl); simp only [List.getElem_toArray, List.getElem_cons_zero, List.getElem_cons_succ, Act.put, List.setIfInBounds_toArray, List.set_cons_zero, List.set_cons_succ])
          refine plan_done ?_
          have hbd : Below wr.heap.size wr wr.drew := hBase
          have HB4 : Hid (Below bo w3 wr.drew) := HB.out.drew
          have HO4 : Hid (Row wr.drew bo 25 [.int .i64 room, .int .u64 (fl : Int), .slice A3 (aboveU fl (l.take k)).length c3]) := HO.out
          have HOWN4 : Hid (wr.drew.ownsRow (bo + 1) 27 3 (.slice A3 (aboveU fl (l.take k)).length c3) (aboveU fl (l.take k)).length (cellsU (aboveU fl (l.take k)))) := HOWN.out
          have HP4 : Hid (wr.drew.cell? ⟨b, o + k * 3, none⟩ = some (.int .u64 (x0 : Int)) ∧ wr.drew.cell? ⟨b, o + k * 3 + 1, none⟩ = some (.int .u64 (x1 : Int)) ∧ wr.drew.cell? ⟨b, o + k * 3 + 2, none⟩ = some (.int .u64 (x2 : Int))) := HP.out
          have hlo4 : bo < wr.drew.heap.size := hlo
          clear d2 d6 d7 hBase hbd HB HO HOWN HP hlo hQr0 c2
          generalize wr.drew = w4 at HB4 HO4 HOWN4 HP4 hlo4 ⊢
          by_cases hx : fl ≤ x2
          · have HT2 : Hid (aboveU fl (l.take (k + 1)) = aboveU fl (l.take k) ++ [(x0, x1, x2)]) := HT.out.trans (if_pos hx)
            clear HT
            have hLn : (aboveU fl (l.take k)).length ≤ n := by
              have h1 := above_length fl (l.take k)
              rw [List.length_take] at h1
              omega
            generalize aboveU fl (l.take k) = L at HO4 HOWN4 HT2 hLn
            have hQr0 := hQ0.keep HB4.out hb0
            obtain ⟨p0, p1, p2⟩ := HP4.out
            have d0 : ∀ W, Below bo w4 W → W.cell? ⟨b, o + k * 3, none⟩ = some (.int .u64 (x0 : Int)) := fun W hW => (hW.cell (p := ⟨b, o + k * 3, none⟩) hb).trans p0
            have d1 : ∀ W, Below bo w4 W → W.cell? ⟨b, o + k * 3 + 1, none⟩ = some (.int .u64 (x1 : Int)) := fun W hW => (hW.cell (p := ⟨b, o + k * 3 + 1, none⟩) hb).trans p1
            have d2 : ∀ W, Below bo w4 W → W.cell? ⟨b, o + k * 3 + 2, none⟩ = some (.int .u64 (x2 : Int)) := fun W hW => (hW.cell (p := ⟨b, o + k * 3 + 2, none⟩) hb).trans p2
            have d6 : ∀ W, Below bo w4 W → W.cell? ⟨bg, 2, none⟩ = some (.slice (some ⟨b, o, none⟩) n c) := fun W hW => (hQr0.keep hW hb0).cell rfl
            go_wp2_with fail
            have hS : w4.drew.cell? ⟨bo, 2, none⟩ = some (.slice A3 L.length c3) ∧ Below bo w4 w4.drew := ⟨HO4.out.cell rfl, (Below.refl _ _).drew⟩
            refine wp_region_last (fun W => W.cell? ⟨bo, 2, none⟩ = some (.slice A3 L.length c3) ∧ Below bo w4 W) (.step 0 false (.step 1 false (.step 2 false (.step 3 false (.step 4 false (.step 5 false (.step 6 false (.step 7 true (.step 8 true (.step 9 false .nil)))))))))) hS (by rfl) (by kernel_rfl) (by kernel_rfl) (by decide) (by kernel_rfl) (by kernel_rfl) (by kernel_rfl) (by kernel_rfl) ?_
            simp only [initO, List.dropLast]
            iterate 7 (refine plan_read rfl (by rfl) (v := ?_) ?_ ?_; rotate_left 1; (intro W hW; (try dsimp only at hW); obtain ⟨hW0, hW1⟩ := hW; go_simp <;> with_reducible rfl); simp only [List.getElem_toArray, List.getElem_cons_zero, List.getElem_cons_succ, Act.put, List.setIfInBounds_toArray, List.set_cons_zero, List.set_cons_succ])
            have hRd : Row w4.drew bo 25 [.int .i64 room, .int .u64 (fl : Int), .slice A3 L.length c3] := HO4.out
            have hownd : w4.drew.ownsRow (bo + 1) 27 3 (.slice A3 L.length c3) L.length (cellsU L) := HOWN4.out
            have hbd : Below bo w4 w4.drew := (Below.refl _ _).drew
            have hsd : bo < w4.drew.heap.size := hlo4
            clear hS
            generalize w4.drew = wd at hRd hownd hbd hsd ⊢
            have hbd2 : Below bo w4 (wd.alloc (.cells #[.int .u64 (x0 : Int), .int .u64 (x1 : Int), .int .u64 (x2 : Int)] 27)) := hbd.alloc (by omega) _
            (refine plan_make_of rfl (by rfl) (fun K hK => ?_); go_simp; refine hK.out _ _ ⟨(hRd.alloc _).cell rfl, hbd2⟩ ?_; clear hK K)
            refine plan_make_of rfl (by rfl) (fun K hK => ?_)
            refine wp_append_rdU _ (.tmp 40) (.tmp 46) 23 (by rfl) (bo + 1) 27 j0 (.agg #[.int .u64 0, .int .u64 0, .int .u64 0]) 24 Try.underlying23 hj gz0 gz1 gz2 rfl _ _ _ (by rfl) (hownd.alloc _) (some ⟨wd.heap.size, 0, none⟩) [(x0, x1, x2)] 1 (by rfl) (RdU.one _ _ _ _ _) (by simp; unfold maxLen; omega) (by simp; omega) (by simp; omega) ?_
            intro v9 w9 hown9 hgrow9 _
            have hR9 := (hRd.alloc (.cells #[.int .u64 (x0 : Int), .int .u64 (x1 : Int), .int .u64 (x2 : Int)] 27)).grown hgrow9 (fun e => by have := (hownd.lt _ e).1; omega)
            have hb9 : Below bo w4 w9 := hbd2.grown hgrow9 (by simp; omega) (fun j hj => by have := (hownd.lt j hj).1; omega)
            have hown10 : w9.ownsRow (bo + 1) 27 3 v9 (aboveU fl (l.take (k + 1))).length (cellsU (aboveU fl (l.take (k + 1)))) := by
              rw [HT2.out, cellsU_app, List.length_append]
              exact hown9
            obtain ⟨A9, c9, rfl, _, _, _⟩ := own_sliceU hown10
            have HOWN9 := Lib.hid hown10
            have HB9 : Hid (Below bo w3 w9) := HB4.out.trans hb9
            simp only [List.getElem_toArray, List.getElem_cons_zero, List.getElem_cons_succ, Act.put, List.setIfInBounds_toArray, List.set_cons_zero, List.set_cons_succ]
            refine hK.out _ _ ⟨hR9.cell rfl, hb9⟩ ?_
            clear hK K hown9 hgrow9 hown10 hbd2 hownd hRd hbd
            iterate 1 (refine plan_read rfl (by rfl) (v := ?_) ?_ ?_; rotate_left 1; (intro W hW; (try dsimp only at hW); obtain ⟨hW0, hW1⟩ := hW; go_simp <;> with_reducible rfl); simp only [List.getElem_toArray, List.getElem_cons_zero, List.getElem_cons_succ, Act.put, List.setIfInBounds_toArray, List.set_cons_zero, List.set_cons_succ])
            have hc9 : w9.cell? ⟨bo, 2, none⟩ = some (.slice A3 L.length c3) := hR9.cell rfl
            have hf9 : w9.frozen? ⟨bo, 2, none⟩ = false := hR9.frozen 2
            refine planLast_done rfl (by rfl) ?_
            go_simp
            have HR10 : Hid (Row (w9.setCell ⟨bo, 2, none⟩ (.slice A9 (aboveU fl (l.take (k + 1))).length c9)) bo 25 [.int .i64 room, .int .u64 (fl : Int), .slice A9 (aboveU fl (l.take (k + 1))).length c9]) := hR9.setCell 2 _
            have HW10 := Lib.hid (ownsRowU_same (w' := w9.setCell ⟨bo, 2, none⟩ (.slice A9 (aboveU fl (l.take (k + 1))).length c9)) HOWN9.out (fun j h1 _ => Below.heap_setCell w9 ⟨bo, 2, none⟩ _ j (by show j ≠ bo; omega)))
            have HB10 := Lib.hid (HB9.out.setCell (p := ⟨bo, 2, none⟩) (Nat.le_refl bo) (.slice A9 (aboveU fl (l.take (k + 1))).length c9))
            clear hR9 hc9 hf9 HOWN9 HB9 hb9
            generalize w9.setCell ⟨bo, 2, none⟩ (.slice A9 (aboveU fl (l.take (k + 1))).length c9) = w10 at HR10 HW10 HB10 ⊢
            go_wp2_with fail
            go_roundw
            case rel => exact ⟨k + 1, A9, c9, by go_num, by omega, HR10.out, HW10.out, HB10.out⟩
            case measure => simp [intOf]; omega
          · have HT2 : Hid (aboveU fl (l.take (k + 1)) = aboveU fl (l.take k)) := HT.out.trans (if_neg hx)
            clear HT
            go_wp2_with fail
            go_roundw
            case rel => exact ⟨k + 1, A3, c3, by go_num, by omega, by rw [HT2.out]; exact HO4.out, by rw [HT2.out]; exact HOWN4.out, HB4.out⟩
            case measure => simp [intOf]; omega
        · have j1 : ¬ (k : Int) < (n : Int) := by omega
          have hkn : k = l.length := by have := HN.out; omega
          have HTK : Hid (aboveU fl (l.take k) = aboveU fl l) := by unfold Hid; rw [hkn, List.take_length]
          have hfits : (aboveU fl (l.take k)).length ≤ c3 := by
            rcases hown.2 with ⟨h1, h2⟩ | ⟨_, _, _, h1, _, _, h2, _⟩
            · injection h1 with _ _ h3
              omega
            · injection h1 with _ _ h3
              omega
          rw [HTK.out] at hO hown hfits
          have hQr2 := hQ2.keep hB hb2
          clear hkn
          go_wp2_with (first
            | (refine wpList_load_part rfl 25 (.tmp 6) rfl bo 0 rfl _ _ hO [.int .i64 room, .int .u64 (fl : Int), .slice A3 (aboveU fl l).length c3] (by rfl) _ Try.underlying25 rfl (by exact size_cache) ?_)
            | (refine wpList_store_row rfl 25 (.tmp 4) (.tmp 49) rfl (bg + 1) rfl [.int .i64 room, .int .u64 (fl : Int), .slice A3 (aboveU fl l).length c3] rfl _ _ hQr2 (by exact size_cache) rfl (one_cache room fl A3 _ c3) ?_))
          refine bodyPost_ret (results_row_tmp (p := 4) (u := 5) (ty := 25) (by rfl) _ _ (bg + 1) 25 _ _ (by rfl) (by exact hQr2.setRow _) Try.underlying25 (by rfl) (by exact size_cache)) (by rfl) ?_
          have hbw : Below w.heap.size w wr := HB3.out.trans (hB.mono (by rw [HBO.out]; exact HB3.out.size))
          exact ⟨A3, _, c3, rfl, rfl, hfits, RdU.own (ownsRowU_same (w' := wr.setRow (bg + 1) _) hown (fun b hb _ => Go.setRow_other wr _ b _ (by omega))), below_setRow hbw (by have := HBG.out; omega) _⟩
end Go.Proofs.Ytmljhkdojopljaa
