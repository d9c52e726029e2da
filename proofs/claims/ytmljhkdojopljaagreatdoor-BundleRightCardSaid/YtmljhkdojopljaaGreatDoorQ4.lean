/-
  A region that draws its order, in a loop's round (inside a fence that lets every call by): operations that leave the world as it is, and a tail in one order (no program is named here). No conditions but those typed.
-/
import Derived.Test.YtmljhkdojopljaaGreatDoorQ3
import Derived.StillTailTactics
import Derived.OrdersIn
import Derived.TacticsIn
import Derived.RangeFuncCalls
import Derived.Deep.DeepCutAuto
import Derived.Lib.SmallJoins
import Derived.Lib.SlBytesConst
import Derived.ProofKit
import Derived.OpenShut
import Derived.Deep.Slices
import Derived.Deep.Strs
import Derived.Test.YtmljhkdojopljaaGreatDoorRows
namespace Go.Proofs.YtmljhkdojopljaaGreatDoor
set_option maxRecDepth 100000
set_option linter.unusedSimpArgs false
set_option linter.unusedVariables false

/-- No operation is a defer statement. -/
def noDefer (ops : List Oper) : Bool := ops.all fun o => match o.op with | .defer _ => false | _ => true
theorem noDefer_at {ops : List Oper} (h : noDefer ops = true) {i : Nat} {o : Oper} (ho : ops[i]? = some o) : ∀ c, o.op ≠ .defer c := by
  intro c hc
  have h1 := List.all_eq_true.1 h o (List.mem_of_getElem? ho)
  rw [hc] at h1
  cases h1

section
variable {P : Program} {ops : Array Oper} {w : World} {md : Region.Mode} {n l₀ : Nat}
theorem wpIn_of_still {o : Oper} {a : Act} {K : Act → Prop} {K' : Act → World → Prop} {Q' : Exit → Act → World → Prop} (hd : ∀ c, o.op ≠ .defer c) (h : ∀ a, K a → K' a w) (hh : o.still P a w K) : o.wpIn (Fence.wide.inRound l₀) n P a w K' Q' := by
  unfold Oper.still at hh
  unfold Oper.wpIn
  refine ⟨fun _ _ => trivial, ?_⟩
  have e : (Fence.wide.inRound l₀).round = some l₀ := rfl
  rw [e, Oper.semAt_some l₀ a.eval o hd]
  generalize (execOp a.eval o).run P w = r at *
  cases r with
  | ok x w' =>
    cases x <;> simp only [Oper.stillUpon] at hh <;> simp only [Oper.uponIn]
    case enter f args =>
      obtain ⟨rfl, v, hc, hn⟩ := hh
      refine ⟨fun h0 => (by cases h0), ?_⟩
      have h2 : Calls P f args w' fun
        | .returned v, w'' => K' (a.put o.dst v) w''
        | .panicked chain, w'' => Q' (.panic chain) a w''
        | .outgrown, _ => LetsOut Q' := hc.mono fun e w'' ⟨he, hw⟩ => by subst he; subst hw; exact h _ hn
      exact CallsIn.inRound l₀ (callsIn_wide.2 h2)
    all_goals (obtain ⟨rfl, h2⟩ := hh; exact h _ h2)
  | halt x w' => simp only [Oper.stillUpon] at hh
theorem wpOpIn_of_stOp {i : Nat} {a : Act} {K : Act → Prop} {K' : Act → World → Prop} {Q' : Exit → Act → World → Prop} (hd : noDefer ops.toList = true) (h : ∀ a, K a → K' a w) (hh : stOp P ops w i K a) : wpOpIn (Fence.wide.inRound l₀) n P ops Q' i K' a w := by
  unfold stOp at hh
  unfold wpOpIn
  split
  · rename_i ho; simp only [ho] at hh; exact h _ hh
  · rename_i o ho
    simp only [ho] at hh
    split
    · rename_i hw; simp only [hw, if_true] at hh; exact wpIn_of_still (noDefer_at hd (i := i) (by simpa using ho)) h hh
    · rename_i hw; simp only [hw] at hh; exact ⟨fun _ _ => trivial, h _ hh⟩
theorem wpAnyIn_of_head {m g : Nat} {L : Array Bool → Act → Prop} {Q' : Exit → Act → World → Prop} (hd : noDefer ops.toList = true) (hL : ∀ listed a, L listed a → wpAnyIn (Fence.wide.inRound l₀) n P md ops Q' g listed a w) :
    ∀ (f : Nat) (listed : Array Bool) (a : Act), wpAnyL P md ops w m L f listed a → wpAnyIn (Fence.wide.inRound l₀) n P md ops Q' (f + g) listed a w
  | 0, listed, a, h => by rw [Nat.zero_add]; exact hL _ _ h
  | f + 1, listed, a, h => by
    rw [show f + 1 + g = (f + g) + 1 by omega]
    exact ⟨fun h0 => absurd h0 h.1, fun i hi => wpOpIn_of_stOp hd (fun a' h' => wpAnyIn_of_head hd hL f _ a' h') (h.2 i hi).2⟩
theorem wpAnyIn_of_seq {F : Fence} {Q' : Exit → Act → World → Prop} : ∀ (l : List Oper) (k : Nat) (listed : Array Bool) (a : Act) (w : World), (∀ j, l[j]? = ops[k + j]?) →
    Region.seqB md ops l.length k listed = true → wpListIn F n P ops Q' l a w → wpAnyIn F n P md ops Q' l.length listed a w
  | [], _, _, _, _, _, hB, h => ⟨by simpa [Region.seqB] using hB, h⟩
  | o :: l, k, listed, a, w, hl, hB, h => by
    have h0 : ops[k]? = some o := by simpa using (hl 0).symm
    simp only [List.length_cons, Region.seqB, Bool.and_eq_true, decide_eq_true_eq] at hB
    refine ⟨fun h1 => (by rw [hB.1] at h1; cases h1), fun i hi => ?_⟩
    rw [hB.1] at hi
    have hik : i = k := by simpa using hi
    subst hik
    have hw : wpOpIn F n P ops Q' i (wpListIn F n P ops Q' l) a w := by unfold wpOpIn; simp only [h0]; exact h
    exact wpOpIn_mono (fun a' w' h' => wpAnyIn_of_seq l (i + 1) _ a' w' (fun j => by have := hl (j + 1); simpa [Nat.add_assoc, Nat.add_comm 1 j] using this) hB.2 h') hw
theorem wpIn_region_still_tail {id : Nat} {Q : Exit → Act → World → Prop} {a : Act} {l : List Oper} (k : Nat) (hm : P.follows .mixedOrders = true) (hB : Region.lexTailB .any l.toArray k = true) (hnd : noDefer l = true)
    (h : wpStill P l.toArray w.drew (fun a' => wpListIn (Fence.wide.inRound l₀) n P l.toArray Q (l.drop k) a' w.drew) (l.take k) a) : (Code.region id l.toArray true).wpIn (Fence.wide.inRound l₀) n P Q a w := by
  simp only [Region.lexTailB, Bool.and_eq_true, decide_eq_true_eq] at hB
  obtain ⟨⟨⟨⟨hsel, hn⟩, hs⟩, hc⟩, hlex⟩ := hB
  have hn' : k < l.length := by simpa using hn
  have htl : (l.take k).length = k := by simp; omega
  have hdl : (l.drop k).length = l.toArray.size - k := by simp
  have inv0 : HeadInv .any l.toArray k (Array.replicate l.toArray.size false) :=
    ⟨by simp, fun j oj _ hl => (by rw [getD_replicate_false] at hl; cases hl), fun t _ ht => getD_in (by simpa using ht) (getD_replicate_false _ _)⟩
  have H := wpAnyL_lex (md := .any) (g := l.toArray.size - k) hsel hs hc hn (l.take k) 0 _ a (fun j hj => by
    have hj' : j < k := by rw [htl] at hj; exact hj
    simp [hj']) (by simpa using htl) inv0 (by rw [htl]; exact hlex) h
  refine wpIn_region_any hm ?_
  have := wpAnyIn_of_head (Q' := Q) (n := n) (l₀ := l₀) (g := l.toArray.size - k) (by simpa using hnd) (fun listed a' hL => by
    have := wpAnyIn_of_seq (F := Fence.wide.inRound l₀) (n := n) (md := .any) (Q' := Q) (l.drop k) k listed a' w.drew (fun j => by simp [List.getElem?_drop]) (by rw [hdl]; exact hL.1) hL.2
    rwa [hdl] at this) _ _ _ H
  rw [htl, show k + (l.toArray.size - k) = l.toArray.size by omega] at this
  exact this
end
end Go.Proofs.YtmljhkdojopljaaGreatDoor
/-
  What the program's call Read of layer 15 answers. No conditions but those typed.
-/
namespace Go.Proofs.YtmljhkdojopljaaGreatDoor
set_option maxRecDepth 100000
open Go.RowKit Go.Shelf
set_option linter.unusedSimpArgs false
set_option linter.unusedVariables false

attribute [local go_sem] Oper.semAt_some

/-- The pair at place j. -/
def gnA (b : List UInt8) (j : Nat) : Gn := (valN ((b.drop (16 * j)).take 8), valN ((b.drop (16 * j + 8)).take 8))
theorem take_map : ∀ (n : Nat) (b : List UInt8), takeG n b = (List.range n).map (gnA b)
  | 0, b => rfl
  | n + 1, b => by
    rw [List.range_succ_eq_map, List.map_cons, List.map_map]
    unfold takeG
    rw [take_map n (b.drop 16)]
    congr 1
    apply List.map_congr_left
    intro j _
    unfold gnA
    simp only [Function.comp_apply, List.drop_drop, Nat.mul_succ]
    congr 3 <;> congr 1 <;> omega

theorem number15_any (l : List UInt8) (A : Option Addr) (c : Nat) (w : World) (hr : Rd vB w A l) (HL : Hid (l.length = 8)) (v : Nat) (HV : Hid (valN l = v)) :
    Calls Tryz.prog 67 #[.slice A 8 c] w fun e w' => e = .returned (.int .u64 (v : Int)) ∧ w' = w := by
  have hg := get_any l A c w hr (by rw [HL.out]; omega)
  have hgr : getR l = (v, 0) := by unfold getR; rw [if_pos HL.out, HV.out]
  rw [hgr, HL.out] at hg
  have HG := Lib.hid hg
  clear hg hgr
  have hv8 : v < 18446744073709551616 := by rw [← HV.out]; exact valN_lt8 l (by rw [HL.out]; omega)
  have HV8 := Lib.hid hv8
  go_enter Tryz.func67, Tryz.ntmps67
  go_wp2_with fail
  refine HG.out.mono ?_
  rintro e w1 ⟨rfl, rfl⟩
  go_wp2_with fail
  go_ret
  exact ⟨rfl, rfl⟩

/-- What Read hands back. -/
def RetRd (w : World) (l : List Gn) (n : Nat) (k : Int) (e : Ending) (w' : World) : Prop := ∃ v, e = .returned (.tuple #[v, .int .i64 (n : Int), .int .i64 k]) ∧ w'.ownsRow w.heap.size 60 2 v l.length (cellsG l) ∧ Below w.heap.size w w'
theorem read_none {b : List UInt8} (h : b.length = 0) : readG b = ([], 0, 2) := by unfold readG; rw [if_pos h]
theorem read_many {b : List UInt8} (h : b.length ≠ 0) (h2 : 64 < cntG b) : readG b = ([], 0, 3) := by unfold readG; rw [if_neg h, if_pos h2]
theorem read_short {b : List UInt8} (h : b.length ≠ 0) (h2 : ¬ 64 < cntG b) (h3 : b.length < 1 + 16 * cntG b) : readG b = ([], 0, 2) := by unfold readG; rw [if_neg h, if_neg h2, if_pos h3]
theorem read_list {b : List UInt8} (h : b.length ≠ 0) (h2 : ¬ 64 < cntG b) (h3 : ¬ b.length < 1 + 16 * cntG b) : readG b = if rightG (takeG (cntG b) (b.drop 1)) = true then (takeG (cntG b) (b.drop 1), 1 + 16 * cntG b, 0) else ([], 0, 3) := by unfold readG; rw [if_neg h, if_neg h2, if_neg h3]

/-- What a round keeps: what lay below, and the iterator's own boxes. -/
def KpC (n₀ Bs Bz : Nat) (W W' : World) : Prop := Below n₀ W W' ∧ W'.heap[Bs]? = W.heap[Bs]? ∧ W'.heap[Bz]? = W.heap[Bz]?
theorem KpC.refl (n₀ Bs Bz : Nat) (W : World) : KpC n₀ Bs Bz W W := ⟨Below.refl _ _, rfl, rfl⟩
theorem KpC.drew (n₀ Bs Bz : Nat) (W : World) : KpC n₀ Bs Bz W W.drew := ⟨(Below.refl _ _).drew, rfl, rfl⟩
theorem KpC.trans {n₀ Bs Bz : Nat} {X Y Z : World} (h : KpC n₀ Bs Bz X Y) (k : KpC n₀ Bs Bz Y Z) : KpC n₀ Bs Bz X Z := ⟨h.1.trans k.1, k.2.1.trans h.2.1, k.2.2.trans h.2.2⟩
theorem KpC.own {n₀ Bs Bz : Nat} {w : World} (hn : n₀ ≤ w.heap.size) (hB : Bs < w.heap.size) (hZ : Bz < w.heap.size) (W : World) (l : Nat) (o o' : Obj) (hl : w.heap.size ≤ l) (h : W.heap[l]? = some o) (h1 : o.isCells = false) (h2 : o.isWalk = false) : KpC n₀ Bs Bz W (W.putObj l o') :=
  ⟨belowK_b hn W l o o' hl h h1 h2, World.putObj_heap_other (by omega), World.putObj_heap_other (by omega)⟩
theorem boxed_turnG {W W' : World} {row : Option Nat} {B : Nat} {t : TypeId} {v : Value} (h : Boxed W B t v) (hg : W.grownBy W' row) (hr : ∀ r, row = some r → ∃ o : Obj, W.heap[r]? = some o ∧ o.isCells = false) : Boxed W' B t v := boxed_own B t (fun _ : Unit => v) () W W' row h hg hr
/-- Between two rounds: the row of the pairs that have come, its box, the iterator's boxes. -/
def ReI (w : World) (b : List UInt8) (n₀ Bl Bs Bz : Nat) (s : Value) {cnt : Nat} (pre : List (Ck cnt)) (W : World) : Prop :=
  ((∃ v, Boxed W Bl 24 v ∧ W.ownsRow n₀ 60 2 v pre.length (cellsG (pre.map (fun x => gnA b x.1))) ∧ True) ∧ Boxed W Bs 27 s ∧ Boxed W Bz 3 (.int .i64 16)) ∧ Below n₀ w W
theorem reI_own (w : World) (b : List UInt8) (n₀ Bl Bs Bz : Nat) (s : Value) {cnt : Nat} (B : Nat) (hn : n₀ ≤ w.heap.size) (hB : n₀ ≤ B) : OwnFrom B (ReI w b n₀ Bl Bs Bz s (cnt := cnt)) :=
  OwnFrom.and (Own.from (fun pre A B row hs hg hr => ⟨holdsRow_own n₀ Bl 24 60 2 (fun (p : List (Ck cnt)) => p.length) (fun p => cellsG (p.map (fun x => gnA b x.1))) (fun _ _ => True) pre A B row hs.1 hg hr, boxed_turnG hs.2.1 hg hr, boxed_turnG hs.2.2 hg hr⟩) _) (ownFrom_below hn hB)

set_option maxHeartbeats 2000000 in
theorem read15_short (b : List UInt8) (n c : Nat) (A : Option Addr) (w : World) (HN : Hid (b.length = n)) (hr : Rd vB w A b) (hn : n ≤ 1000000000) (hc : n ≤ c) (HS : Hid (b.length = 0 ∨ 64 < cntG b ∨ b.length < 1 + 16 * cntG b)) :
    Calls Tryz.prog 54 #[.slice A n c] w (RetRd w (readG b).1 (readG b).2.1 (readG b).2.2) := by
  obtain ⟨P, hP⟩ : ∃ P, P = readG b := ⟨_, rfl⟩
  rw [← hP]
  have hlen := HN.out
  by_cases h0 : n = 0
  · have HP : Hid (P = ([], 0, 2)) := hP.trans (read_none (by omega))
    clear hP
    subst h0
    go_enter Tryz.func54, Tryz.ntmps54
    go_wp2_with fail
    go_ret3
    exact ⟨_, by rw [HP.out]; rfl, by rw [HP.out]; exact World.ownsRow_nil _ _ _ _, Below.refl _ _⟩
  · have hb0 : b.length ≠ 0 := by omega
    obtain ⟨blk, o, rfl, hblk, hcell⟩ := hr.at (k := 0) (by omega)
    have hc0 := hcell 0 (by omega)
    have hcnt : cntG b = (b[0]'(by omega)).toNat := by unfold cntG; rw [List.getD_eq_getElem?_getD, List.getElem?_eq_getElem (by omega)]; rfl
    rw [Nat.add_zero] at hc0
    unfold vB at hc0
    rw [← hcnt] at hc0
    have hlt : cntG b < 256 := by rw [hcnt]; exact UInt8.toNat_lt _
    have HC := Lib.hid hcnt
    have z1 : ((n : Int) == 0) = false := beq_eq_false_iff_ne.2 (by omega)
    have hp : (0 : Int) < (n : Int) := by omega
    by_cases h64 : 64 < cntG b
    · have HP : Hid (P = ([], 0, 3)) := hP.trans (read_many hb0 h64)
      clear hP hcell hcnt HS
      generalize cntG b = q at hc0 hlt h64 HC
      go_enter Tryz.func54, Tryz.ntmps54
      go_wp2_with fail
      go_ret3
      exact ⟨_, by rw [HP.out]; rfl, by rw [HP.out]; exact World.ownsRow_nil _ _ _ _, Below.refl _ _⟩
    · have hsh : b.length < 1 + 16 * cntG b := by rcases HS.out with h | h | h; exact absurd h hb0; exact absurd h h64; exact h
      have HP : Hid (P = ([], 0, 2)) := hP.trans (read_short hb0 h64 hsh)
      rw [hlen] at hsh
      clear hP hcell hcnt HS
      generalize cntG b = q at hc0 hlt h64 HC hsh
      go_enter Tryz.func54, Tryz.ntmps54
      go_wp2_with fail
      go_ret3
      exact ⟨_, by rw [HP.out]; rfl, by rw [HP.out]; exact World.ownsRow_nil _ _ _ _, Below.refl _ _⟩
end Go.Proofs.YtmljhkdojopljaaGreatDoor
/-
  A region that draws its order, in a loop's round (inside a fence that lets every call by): by a plan, as outside a round (no program is named here). Conditions: as in the plan's own law; no operation is a defer statement.
-/
namespace Go.Proofs.YtmljhkdojopljaaGreatDoor
set_option maxRecDepth 100000
open Go.RowKit
set_option linter.unusedSimpArgs false
set_option linter.unusedVariables false

/-- Neither a panic nor a way out counts. -/
def NoOut (Q : Exit → Act → World → Prop) : Exit → Act → World → Prop
  | .panic _, _, _ => False
  | .outgrown, _, _ => False
  | e, a, w => Q e a w
theorem noOut_lets {Q : Exit → Act → World → Prop} : ¬ LetsOut (NoOut Q) := fun ⟨_, _, h⟩ => h
theorem rowsIn_of_rows {n l₀ : Nat} {P : Program} {row : String} {args : Array Value} {w : World} {R : Value → World → Prop} (h : Rows P row args w R) : RowsIn (Fence.wide.inRound l₀) n P row args w R :=
  fun c cs _ => let ⟨v, w', r, s⟩ := h c cs; ⟨v, w', r, stepsIn_wide.2 s⟩
section
variable {P : Program} {ops : Array Oper} {n l₀ : Nat} {Q : Exit → Act → World → Prop}
theorem wpIn_of_wp {o : Oper} {a : Act} {w : World} {K K' : Act → World → Prop} (hd : ∀ c, o.op ≠ .defer c) (hK : ∀ a w, K a w → K' a w) (h : o.wp P a w K (NoOut Q)) : o.wpIn (Fence.wide.inRound l₀) n P a w K' Q := by
  unfold Oper.wp at h
  unfold Oper.wpIn
  refine ⟨fun _ _ => trivial, ?_⟩
  have e : (Fence.wide.inRound l₀).round = some l₀ := rfl
  rw [e, Oper.semAt_some l₀ a.eval o hd]
  generalize (execOp a.eval o).run P w = r at *
  cases r with
  | ok x w' =>
    cases x <;> simp only [Oper.upon] at h <;> simp only [Oper.uponIn]
    case enter f args =>
      refine ⟨fun h0 => (by cases h0), ?_⟩
      refine CallsIn.inRound l₀ (callsIn_wide.2 (h.mono fun e w'' he => ?_))
      cases e with
      | returned v => exact hK _ _ he
      | panicked c => exact he.elim
      | outgrown => exact (noOut_lets he).elim
    case row row args => exact ⟨fun h0 => (by cases h0), rowsIn_of_rows (h.mono fun v w'' hv => hK _ _ hv)⟩
    all_goals exact hK _ _ h
  | halt x w' =>
    cases x <;> simp only [Oper.upon] at h <;> simp only [Oper.uponIn]
    case panic v => exact h.elim
theorem wpAnyIn_of_held {S : World → Prop} (hd : noDefer ops.toList = true) : ∀ (fuel : Nat) (listed : Array Bool) (a : Act) (w : World), wpAnyH P .any ops (NoOut Q) S fuel listed a w → wpAnyIn (Fence.wide.inRound l₀) n P .any ops Q fuel listed a w
  | 0, listed, a, w, h => ⟨h.1, h.2⟩
  | fuel + 1, listed, a, w, h => by
    refine ⟨fun h0 => h.1 h0, fun i hi => ?_⟩
    have hi' := h.2 i hi
    unfold wpOp at hi'
    unfold wpOpIn
    split
    · rename_i ho
      simp only [ho] at hi'
      exact wpAnyIn_of_held hd fuel _ a w hi'.2
    · rename_i o ho
      simp only [ho] at hi'
      split
      · rename_i hw
        simp only [hw, if_true] at hi'
        rcases hi' with h1 | ⟨_, h1⟩
        · exact wpIn_of_wp (noDefer_at hd (i := i) (by simpa using ho)) (fun a' w' h' => wpAnyIn_of_held hd fuel _ a' w' h'.2) h1
        · exact (noOut_lets h1).elim
      · rename_i hw
        simp only [hw] at hi'
        exact ⟨fun _ _ => trivial, wpAnyIn_of_held hd fuel _ _ _ hi'.2⟩
theorem wpIn_region_plan_of (S : World → Prop) (plan : Plan) {id : Nat} {a : Act} {w : World} (hS : S w.drew) (hm : P.follows .mixedOrders = true) (hs : Region.noSelect ops = true) (hd : noDefer ops.toList = true) (hlen : plan.size = ops.size) (hp : planOK ops plan (Array.replicate ops.size false) = true)
    (h : wpPlan P ops (NoOut Q) plan S a w.drew) : (Code.region id ops true).wpIn (Fence.wide.inRound l₀) n P Q a w := by
  refine wpIn_region_any hm ?_
  have := wpPlan_held hs (fun _ _ _ _ _ h => h) plan S _ a w.drew hS hp h
  rw [hlen] at this
  exact wpAnyIn_of_held hd _ _ _ _ this
theorem wpIn_region_plan (plan : Plan) {id : Nat} {a : Act} {w : World} (hm : P.follows .mixedOrders = true) (hs : Region.noSelect ops = true) (hd : noDefer ops.toList = true) (hlen : plan.size = ops.size) (hp : planOK ops plan (Array.replicate ops.size false) = true)
    (h : wpPlan P ops (NoOut Q) plan (fun W => Below w.drew.heap.size w.drew W) a w.drew) : (Code.region id ops true).wpIn (Fence.wide.inRound l₀) n P Q a w := wpIn_region_plan_of _ plan (Below.refl _ _) hm hs hd hlen hp h
theorem planIn_done {S : World → Prop} {a : Act} {w : World} (h : Q .normal a w) : wpPlan P ops (NoOut Q) .nil S a w := h
end
end Go.Proofs.YtmljhkdojopljaaGreatDoor
/-
  What the program's call Read of layer 15 answers, where there are enough bytes: its loop over parts of sixteen. No conditions but those typed.
-/
namespace Go.Proofs.YtmljhkdojopljaaGreatDoor
set_option maxRecDepth 100000
open Go.RowKit Go.Shelf
set_option linter.unusedSimpArgs false
set_option linter.unusedVariables false

attribute [local go_sem] Oper.semAt_some

theorem Rd.chA {w : World} {A : Option Addr} {l : List UInt8} (h : Rd vB w A l) (k : Nat) : Rd vB w (chA A k) (l.drop k) := by
  have := h.drop k (l.length + k + 1) (by omega)
  rw [if_neg (by omega)] at this
  exact this

theorem own_formG {w : World} {base : Nat} {e : TypeId} {v : Value} {n : Nat} {xs : List Value} (h : w.ownsRow base e 2 v n xs) : ∃ A cap, v = .slice A n cap ∧ n ≤ cap := by
  rcases h.2 with ⟨rfl, rfl⟩ | ⟨g, cap, cur, rfl, _, _, hc, _⟩
  · exact ⟨none, 0, rfl, Nat.le_refl _⟩
  · exact ⟨_, cap, rfl, hc⟩
set_option maxHeartbeats 4000000 in
theorem read15_main (b : List UInt8) (n c : Nat) (A : Option Addr) (w : World) (HN : Hid (b.length = n)) (hr : Rd vB w A b) (hn : n ≤ 1000000000) (hc : n ≤ c) (h0 : b.length ≠ 0) (h64 : ¬ 64 < cntG b) (hen : ¬ b.length < 1 + 16 * cntG b) :
    Calls Tryz.prog 54 #[.slice A n c] w (RetRd w (readG b).1 (readG b).2.1 (readG b).2.2) := by
  obtain ⟨j0, hj, gz0, gz1, gz2⟩ := info_parts info_gone
  obtain ⟨P, hP⟩ : ∃ P, P = readG b := ⟨_, rfl⟩
  rw [← hP]
  have HP : Hid (P = _) := hP.trans (read_list h0 h64 hen)
  clear hP
  have hlen := HN.out
  obtain ⟨blk, o, rfl, hblk, hcell⟩ := hr.at (k := 0) (by omega)
  have hc0 := hcell 0 (by omega)
  have hcnt : cntG b = (b[0]'(by omega)).toNat := by unfold cntG; rw [List.getD_eq_getElem?_getD, List.getElem?_eq_getElem (by omega)]; rfl
  rw [Nat.add_zero] at hc0
  unfold vB at hc0
  rw [← hcnt] at hc0
  obtain ⟨A1, hA1⟩ : ∃ A1, (if c = 1 then some ⟨blk, o, none⟩ else (some (⟨blk, o, none⟩ : Addr)).map (·.add (1 * 1))) = A1 := ⟨_, rfl⟩
  have hr1 : Rd vB w A1 (b.drop 1) := by rw [← hA1]; exact hr.drop 1 c (by omega)
  have HR1 := Lib.hid hr1
  clear hcell hcnt hr1
  generalize cntG b = q at hc0 h64 hen HP
  have z1 : ((n : Int) == 0) = false := beq_eq_false_iff_ne.2 (by omega)
  have hp : (0 : Int) < (n : Int) := by omega
  obtain ⟨E, hE⟩ : ∃ E : Nat, E = 1 + 16 * q := ⟨_, rfl⟩
  rw [hlen] at hen
  have hEn : E ≤ n := by omega
  have HE := Lib.hid hE
  have hcut : ∀ W, (Instr.slice 27 (.slice (some ⟨blk, o, none⟩) n c) (some (.int .i64 1)) (some (.int .i64 (E : Int))) none).run Tryz.prog W = .ok (.slice A1 (16 * q) (c - 1)) W := fun W => by
    have := cut_mid (some ⟨blk, o, none⟩) n c 1 (16 * q) (by omega) W
    rw [show ((1 : Nat) : Int) + ((16 * q : Nat) : Int) = (E : Int) by omega] at this
    rw [hA1] at this
    exact this
  have HCUT := Lib.hid hcut
  have d64 : ¬ (64 : Int) < (q : Int) := by omega
  have dn : ¬ (n : Int) < 1 + (q : Int) * 16 := by omega
  have HQ : Hid (q ≤ 64) := by unfold Hid; omega
  have HEN : Hid (E ≤ n) := hEn
  clear hcut hlen h0 hE hA1
  refine (callsIn_wide (n := 3)).1 ?_
  refine callsIn_of_wp_marks Tryz.func54 rfl trivial ?_ rfl
  simp only [Tryz.ntmps54, List.size_toArray, List.length_cons, List.length_nil, Nat.reduceAdd, Nat.reduceSub, Array.replicate_succ, Array.replicate_zero, List.push_toArray, List.append_toArray, List.nil_append, List.cons_append]
  refine wpIn_wide.2 ?_
  go_upto_region 9 with fail
  have e1 : (1 + (q : Int) * 16) = (E : Int) := by have := HE.out; omega
  rw [e1]
  clear e1 hc0 z1 d64 dn h64 hen hEn hp
  have hq64 : q ≤ 64 := HQ.out
  go_upto_region 10 with (at_make; refine wpList_make_own _ rfl _ _ 24 rfl w.heap.size 60 j0 (.agg #[.int .u64 0, .int .u64 0]) 2 Tryz.underlying24 hj gz0 gz1 .i64 .i64 _ q rfl rfl (by omega) (by rw [gz2]; omega) (by unfold maxLen; omega) (Nat.le_refl _) ?_; intro w0 hown0 hgrow0)
  have hB0 : Below w.heap.size w w0 := (Below.refl _ w).grown hgrow0 (Nat.le_refl _) (fun k hk => by cases hk)
  have bL : Boxed (w0.alloc (.cells #[.slice (some ⟨w.heap.size, 0, none⟩) 0 q] 24)) w0.heap.size 24 (.slice (some ⟨w.heap.size, 0, none⟩) 0 q) := Boxed.new _ _ _
  have hown1 := ownsRowG_later hown0 (below_new (Below.refl _ w0) (.cells #[.slice (some ⟨w.heap.size, 0, none⟩) 0 q] 24))
  have hB1 := below_new hB0 (.cells #[.slice (some ⟨w.heap.size, 0, none⟩) 0 q] 24)
  have hBl : w.heap.size ≤ w0.heap.size := hB0.size
  have hsz1 : (w0.alloc (.cells #[.slice (some ⟨w.heap.size, 0, none⟩) 0 q] 24)).heap.size = w0.heap.size + 1 := by simp
  generalize w0.alloc (.cells #[.slice (some ⟨w.heap.size, 0, none⟩) 0 q] 24) = w1 at bL hown1 hB1 hsz1 ⊢
  generalize w0.heap.size = Bl at bL hsz1 hBl ⊢
  have hcu := HCUT.out
  clear hown0 hgrow0 hB0
  go_wp2_with (go_at_call 66; refine (chunk_any _ _ _ _).mono ?_; rintro e w' ⟨rfl, rfl⟩)
  clear hcu
  have bS := (Boxed.new w1 27 (.slice A1 (16 * q) (c - 1))).alloc (.cells #[.int .i64 16] 3)
  have bZ := Boxed.new (w1.alloc (.cells #[.slice A1 (16 * q) (c - 1)] 27)) 3 (.int .i64 16)
  rw [World.size_alloc] at bZ
  replace bL := (bL.alloc (.cells #[.slice A1 (16 * q) (c - 1)] 27)).alloc (.cells #[.int .i64 16] 3)
  have hbn : Below w1.heap.size w1 ((w1.alloc (.cells #[.slice A1 (16 * q) (c - 1)] 27)).alloc (.cells #[.int .i64 16] 3)) := below_new (below_new (Below.refl _ _) _) _
  have hown2 := ownsRowG_later hown1 hbn
  have hB2 := below_step hB1 hbn
  have hsz2 : ((w1.alloc (.cells #[.slice A1 (16 * q) (c - 1)] 27)).alloc (.cells #[.int .i64 16] 3)).heap.size = Bl + 3 := by simp [hsz1]
  rw [hsz1] at bS bZ
  clear hown1 hbn hB1
  generalize ((w1.alloc (.cells #[.slice A1 (16 * q) (c - 1)] 27)).alloc (.cells #[.int .i64 16] 3)) = W0 at bL bS bZ hown2 hB2 hsz2 ⊢
  have HLN : Hid (16 * q = 16 * q) := rfl
  refine (wpIn_wide (n := 3)).1 ?_
  refine wpIn_rangeFunc_ownG rfl (by omega) (gf := 74) (lb := #[.pointer (some ⟨Bl + 1, 0, none⟩), .pointer (some ⟨Bl + 1 + 1, 0, none⟩)]) rfl trivial (enters_of Tryz.func74 (by kernel_rfl) rfl)
    (chunk_stops _ (by omega) (Bl + 1) (Bl + 1 + 1) q (16 * q) (c - 1) A1 (KpC w.heap.size (Bl + 1) (Bl + 1 + 1)) (Lib.hid rfl) (by have := HQ.out; omega) (by have := HE.out; have := HEN.out; omega) W0 (KpC.refl _ _ _) (fun _ _ _ => KpC.trans) (KpC.drew _ _ _)
      (fun W hW W' hK => ⟨by
        have h1 : W'.heap[Bl + 1]? = W0.heap[Bl + 1]? := hK.2.1.trans (hW.block _ (by omega))
        exact Boxed.cell (t := 27) (h1.trans bS), by
        have h1 : W'.heap[Bl + 1 + 1]? = W0.heap[Bl + 1 + 1]? := hK.2.2.trans (hW.block _ (by omega))
        exact Boxed.cell (t := 3) (h1.trans bZ)⟩))
    (fun h k => KpC.trans h k) (KpC.own (by omega) (by omega) (by omega)) (Below.refl _ _) (fun _ => rfl)
    (ReI w (b.drop 1) w.heap.size Bl (Bl + 1) (Bl + 1 + 1) (.slice A1 (16 * q) (c - 1))) (fun _ _ _ => False) (reI_own w (b.drop 1) w.heap.size Bl (Bl + 1) (Bl + 1 + 1) (.slice A1 (16 * q) (c - 1)) _ (Nat.le_refl _) (by omega)) (fun _ _ _ _ _ hs _ _ => hs)
    ⟨⟨⟨_, bL, hown2, trivial⟩, bS, bZ⟩, hB2⟩
    (fun x => { tmps := #[.slice (some ⟨blk, o, none⟩) n c, undef, .slice none 0 0, .int .i64 0, .int .i64 0, .int .i64 (q : Int), .int .i64 (E : Int), .pointer (some ⟨Bl, 0, none⟩), .slice (chA A1 (16 * x.1)) 16 16, .slice (some ⟨blk, o, none⟩) n c, .int .i64 (n : Int), .bool false, .slice (some ⟨blk, o, none⟩) n c, .pointer (some ⟨blk, o, none⟩), .int .u8 (q : Int), .int .i64 (q : Int), .int .i64 (q : Int), .int .i64 ((q : Int) * 16), .int .i64 (E : Int), .bool false, .int .i64 (q : Int), .bool false, .bool false, .slice (some ⟨blk, o, none⟩) n c, .int .i64 (n : Int), .int .i64 (E : Int), .bool false, .int .i64 (q : Int), .slice (some ⟨w.heap.size, 0, none⟩) 0 q, .slice (some ⟨blk, o, none⟩) n c, .int .i64 (E : Int), .slice A1 (16 * q) (c - 1), .func (.func 74) #[] #[.pointer (some ⟨Bl + 1, 0, none⟩), .pointer (some ⟨Bl + 1 + 1, 0, none⟩)], .slice (chA A1 (16 * x.1)) 16 16, undef, undef, undef, undef, undef, undef, undef, undef, undef, undef, undef, undef, undef, undef, undef], defers := [] }) ?assign ?body ?done ?stop
  case assign =>
    intro l x W K hK
    unfold Ck.enc
    gi_wp2
    exact hK
  case body =>
    rintro l pre x W ⟨⟨⟨v, hv, hown, _⟩, hs, hz⟩, hB⟩ hpl
    have hxq := x.2
    have HXJ : Hid (gnA (b.drop 1) x.1 = gnA (b.drop 1) x.1) := rfl
    have hbl : (b.drop 1).length = n - 1 := by rw [List.length_drop, HN.out]
    have hrW := (HR1.out.keep hB).chA (16 * x.1)
    have hEQ := HE.out
    have hEN := HEN.out
    obtain ⟨L1, hL1⟩ : ∃ L, ((b.drop 1).drop (16 * x.1)).take 8 = L := ⟨_, rfl⟩
    obtain ⟨L2, hL2⟩ : ∃ L, ((b.drop 1).drop (16 * x.1 + 8)).take 8 = L := ⟨_, rfl⟩
    have hn1 : L1.length = 8 := by rw [← hL1, List.length_take, List.length_drop, hbl]; omega
    have hn2 : L2.length = 8 := by rw [← hL2, List.length_take, List.length_drop, hbl]; omega
    obtain ⟨v1, hv1⟩ : ∃ v, valN L1 = v := ⟨_, rfl⟩
    obtain ⟨v2, hv2⟩ : ∃ v, valN L2 = v := ⟨_, rfl⟩
    have HG : Hid (gnA (b.drop 1) x.1 = (v1, v2)) := by unfold Hid gnA; rw [hL1, hL2, hv1, hv2]
    have hr1 : Rd vB W (chA A1 (16 * x.1)) L1 := by rw [← hL1]; exact hrW.take 8
    have hr2 : Rd vB W ((chA A1 (16 * x.1)).map (·.add (8 * 1))) L2 := by
      have h := (hrW.drop 8 10000000000 (by rw [List.length_drop, hbl]; omega)).take 8
      rw [if_neg (by omega), List.drop_drop, hL2] at h
      exact h
    have hcl := hv.cell
    have hcf := hv.frozen
    have hct : ∀ W, (Instr.slice 27 (.slice (chA A1 (16 * x.1)) 16 16) none (some (.int .i64 8)) none).run Tryz.prog W = .ok (.slice (chA A1 (16 * x.1)) 8 16) W := fun W => run_cut_to (P := Tryz.prog) 27 5 Tryz.underlying27 size_uint8 _ 16 16 8 (by omega) W
    have hcg : ∀ W, (Instr.slice 27 (.slice (chA A1 (16 * x.1)) 16 16) (some (.int .i64 8)) none none).run Tryz.prog W = .ok (.slice ((chA A1 (16 * x.1)).map (·.add (8 * 1))) 8 8) W := fun W => by
      have he : Tryz.prog.elem 27 = 5 := by simp [Program.elem, Tryz.underlying27]
      rw [run_slice_l W 27 _ 16 16 (by rw [he]; exact Tryz.underlying27) .i64 8 (by omega) (by omega), he, size_uint8]
      simp [Result.andThen, sliced]
    generalize (chA A1 (16 * x.1)).map (·.add (8 * 1)) = A3 at hr2 hcg
    generalize chA A1 (16 * x.1) = A2 at hr1 hct hcg hrW ⊢
    have HC1 := Lib.hid (number15_any L1 A2 16 W.drew (hr1.keep (Below.refl _ _).drew) hn1 v1 hv1)
    have HC2 := Lib.hid (number15_any L2 A3 8 W.drew (hr2.keep (Below.refl _ _).drew) hn2 v2 hv2)
    clear hr1 hr2 hrW hL1 hL2 hn1 hn2 hv1 hv2 hbl hEQ hEN bL bS bZ hown2 hB2 HXJ
    gi_wp2
    have hS : True := trivial
    have hclD : W.drew.cell? ⟨Bl, 0, none⟩ = some v := hcl
    have hnew : (W.drew.alloc (.cells #[.int .u64 (v1 : Int), .int .u64 (v2 : Int)] 60)).cell? ⟨Bl, 0, none⟩ = some v := by rw [World.cell?_alloc_lt _ _ _ (World.block_lt_of_cell? _ _ hclD)]; exact hclD
    refine wpIn_region_plan_of (fun _ => True) (.step 1 false (.step 2 false (.step 4 false (.step 5 false (.fork 0 (.step 3 true (.step 6 true (.step 7 false (.step 8 true (.step 9 true (.step 10 true .nil)))))) 3 (.fork 0 (.step 6 true (.step 7 false (.step 8 true (.step 9 true (.step 10 true .nil))))) 6 (.step 7 false (.fork 0 (.step 8 true (.step 9 true (.step 10 true .nil))) 8 (.step 0 true (.step 9 true (.step 10 true .nil))))))))))) trivial (by kernel_rfl) (by kernel_rfl) (by rfl) (by rfl) (by kernel_rfl) ?_
    have hvD : Boxed W.drew Bl 24 v := hv
    have hownD : W.drew.ownsRow w.heap.size 60 2 v pre.length (cellsG (pre.map (fun x => gnA (b.drop 1) x.1))) := hown
    have hsD : Boxed W.drew (Bl + 1) 27 (.slice A1 (16 * q) (c - 1)) := hs
    have hzD : Boxed W.drew (Bl + 1 + 1) 3 (.int .i64 16) := hz
    have HBD : Hid (Below w.heap.size w W.drew) := hB.drew
    have HKD : Hid (KeepsOthers W W.drew) := KeepsOthers.drew W
    have HWD : Hid (Below w.heap.size W W.drew ∧ W.drew.heap[Bl + 1]? = W.heap[Bl + 1]? ∧ W.drew.heap[Bl + 1 + 1]? = W.heap[Bl + 1 + 1]?) := ⟨(Below.refl _ _).drew, rfl, rfl⟩
    clear hcf hcl hv hown hs hz hB
    generalize W.drew = wd at *
    have HG2 : Hid (cellsG ((pre ++ [x]).map (fun x => gnA (b.drop 1) x.1)) = cellsG (pre.map (fun x => gnA (b.drop 1) x.1)) ++ cellsG [(v1, v2)]) := by
      unfold Hid
      rw [List.map_append, cellsG_app, List.map_cons, List.map_nil, HG.out]
    have hpq : pre.length < 64 := by omega
    have hrp : RdG (wd.alloc (.cells #[.int .u64 (v1 : Int), .int .u64 (v2 : Int)] 60)) (some ⟨wd.heap.size, 0, none⟩) [(v1, v2)] := fun _ => by
      refine ⟨wd.heap.size, 0, rfl, fun i hi => ?_⟩
      have hi0 : i = 0 := by simpa using hi
      subst hi0
      have hRn : Row (wd.alloc (.cells #[.int .u64 (v1 : Int), .int .u64 (v2 : Int)] 60)) wd.heap.size 60 [.int .u64 (v1 : Int), .int .u64 (v2 : Int)] := Row.new wd _ _ _ rfl
      exact ⟨hRn.cell rfl, hRn.cell rfl⟩
    have hszd : w.heap.size ≤ wd.heap.size := HBD.out.size
    iterate 4 (refine plan_read rfl (by rfl) (v := ?_) ?_ ?_; rotate_left 1; (intro W hW; go_simp <;> with_reducible rfl); simp only [List.getElem_toArray, List.getElem_cons_zero, List.getElem_cons_succ, Act.put, List.setIfInBounds_toArray, List.set_cons_zero, List.set_cons_succ])
    refine plan_fork rfl rfl (by rfl) (by rfl) (fun K hK => ?_) (fun K hK => ?_)
    · go_simp
      refine hK.out _ _ trivial ?_
      clear hK K
      (refine plan_make_of rfl (by rfl) (fun K hK => ?_); go_simp; (refine HC1.out.mono ?_; rintro e₁ w4 ⟨rfl, h4⟩; replace h4 := h4.symm; subst h4); refine hK.out _ _ hS ?_; clear hK K)
      (refine plan_make_of rfl (by rfl) (fun K hK => ?_); go_simp; (refine HC2.out.mono ?_; rintro e₁ w4 ⟨rfl, h4⟩; replace h4 := h4.symm; subst h4); refine hK.out _ _ hS ?_; clear hK K)
      iterate 1 (refine plan_read rfl (by rfl) (v := ?_) ?_ ?_; rotate_left 1; (intro W hW; go_simp <;> with_reducible rfl); simp only [List.getElem_toArray, List.getElem_cons_zero, List.getElem_cons_succ, Act.put, List.setIfInBounds_toArray, List.set_cons_zero, List.set_cons_succ])
      (refine plan_make_of rfl (by rfl) (fun K hK => ?_); go_simp; skip; refine hK.out _ _ hS ?_; clear hK K)
      refine plan_make_of rfl (by rfl) (fun K hK => ?_)
      refine wp_append_rdG _ (.tmp 34) (.tmp 42) 24 (by rfl) w.heap.size 60 j0 (.agg #[.int .u64 0, .int .u64 0]) 16 Tryz.underlying24 hj gz0 gz1 gz2 rfl v pre.length _ (by rfl) (hownD.alloc _) (some ⟨wd.heap.size, 0, none⟩) [(v1, v2)] 1 (by rfl) hrp (by simp; unfold maxLen; omega) (by simp; omega) (by simp; omega) ?_
      intro v3 w3 hown3 hgrow3 _
      obtain ⟨hv4, hv5, hr5, hk5, hb5⟩ := hvD.appended (by decide) hownD hszd hBl hown3 hgrow3
      have hs4 := (hsD.alloc (.cells #[.int .u64 (v1 : Int), .int .u64 (v2 : Int)] 60)).kept hgrow3 (hsD.not_row (by decide) hownD)
      have hz4 := (hzD.alloc (.cells #[.int .u64 (v1 : Int), .int .u64 (v2 : Int)] 60)).kept hgrow3 (hzD.not_row (by decide) hownD)
      obtain ⟨A5, c5, hv3E, _⟩ := own_formG hown3
      subst hv3E
      simp only [List.getElem_toArray, List.getElem_cons_zero, List.getElem_cons_succ, Act.put, List.setIfInBounds_toArray, List.set_cons_zero, List.set_cons_succ]
      refine hK.out _ _ trivial ?_
      clear hK K
      have hc9 := hv4.cell
      have hf9 := hv4.frozen
      (refine plan_make_of rfl (by rfl) (fun K hK => ?_); go_simp; skip; refine hK.out _ _ hS ?_; clear hK K)
      refine planIn_done ?_
      gi_wp2
      have hs5 := hs4.other (B' := Bl) (by omega) (.slice A5 (pre.length + 1) c5)
      have hz5 := hz4.other (B' := Bl) (by omega) (.slice A5 (pre.length + 1) c5)
      refine ⟨(HKD.out.trans hk5).from _, ⟨HWD.out.1.trans hb5, ?_, ?_⟩, ⟨⟨_, hv5, ?_, trivial⟩, hs5, hz5⟩, HBD.out.trans hb5⟩
      · exact (show _ = _ from hs5).trans ((show wd.heap[Bl + 1]? = _ from hsD).symm.trans HWD.out.2.1)
      · exact (show _ = _ from hz5).trans ((show wd.heap[Bl + 1 + 1]? = _ from hzD).symm.trans HWD.out.2.2)
      · rw [HG2.out, List.length_append]
        exact hr5
    · go_simp
      refine HC1.out.mono ?_; rintro e₁ w4 ⟨rfl, h4⟩; replace h4 := h4.symm; subst h4
      refine hK.out _ _ trivial ?_
      clear hK K
      refine plan_fork rfl rfl (by rfl) (by rfl) (fun K hK => ?_) (fun K hK => ?_)
      · go_simp
        refine hK.out _ _ trivial ?_
        clear hK K
        (refine plan_make_of rfl (by rfl) (fun K hK => ?_); go_simp; (refine HC2.out.mono ?_; rintro e₁ w4 ⟨rfl, h4⟩; replace h4 := h4.symm; subst h4); refine hK.out _ _ hS ?_; clear hK K)
        iterate 1 (refine plan_read rfl (by rfl) (v := ?_) ?_ ?_; rotate_left 1; (intro W hW; go_simp <;> with_reducible rfl); simp only [List.getElem_toArray, List.getElem_cons_zero, List.getElem_cons_succ, Act.put, List.setIfInBounds_toArray, List.set_cons_zero, List.set_cons_succ])
        (refine plan_make_of rfl (by rfl) (fun K hK => ?_); go_simp; skip; refine hK.out _ _ hS ?_; clear hK K)
        refine plan_make_of rfl (by rfl) (fun K hK => ?_)
        refine wp_append_rdG _ (.tmp 34) (.tmp 42) 24 (by rfl) w.heap.size 60 j0 (.agg #[.int .u64 0, .int .u64 0]) 16 Tryz.underlying24 hj gz0 gz1 gz2 rfl v pre.length _ (by rfl) (hownD.alloc _) (some ⟨wd.heap.size, 0, none⟩) [(v1, v2)] 1 (by rfl) hrp (by simp; unfold maxLen; omega) (by simp; omega) (by simp; omega) ?_
        intro v3 w3 hown3 hgrow3 _
        obtain ⟨hv4, hv5, hr5, hk5, hb5⟩ := hvD.appended (by decide) hownD hszd hBl hown3 hgrow3
        have hs4 := (hsD.alloc (.cells #[.int .u64 (v1 : Int), .int .u64 (v2 : Int)] 60)).kept hgrow3 (hsD.not_row (by decide) hownD)
        have hz4 := (hzD.alloc (.cells #[.int .u64 (v1 : Int), .int .u64 (v2 : Int)] 60)).kept hgrow3 (hzD.not_row (by decide) hownD)
        obtain ⟨A5, c5, hv3E, _⟩ := own_formG hown3
        subst hv3E
        simp only [List.getElem_toArray, List.getElem_cons_zero, List.getElem_cons_succ, Act.put, List.setIfInBounds_toArray, List.set_cons_zero, List.set_cons_succ]
        refine hK.out _ _ trivial ?_
        clear hK K
        have hc9 := hv4.cell
        have hf9 := hv4.frozen
        (refine plan_make_of rfl (by rfl) (fun K hK => ?_); go_simp; skip; refine hK.out _ _ hS ?_; clear hK K)
        refine planIn_done ?_
        gi_wp2
        have hs5 := hs4.other (B' := Bl) (by omega) (.slice A5 (pre.length + 1) c5)
        have hz5 := hz4.other (B' := Bl) (by omega) (.slice A5 (pre.length + 1) c5)
        refine ⟨(HKD.out.trans hk5).from _, ⟨HWD.out.1.trans hb5, ?_, ?_⟩, ⟨⟨_, hv5, ?_, trivial⟩, hs5, hz5⟩, HBD.out.trans hb5⟩
        · exact (show _ = _ from hs5).trans ((show wd.heap[Bl + 1]? = _ from hsD).symm.trans HWD.out.2.1)
        · exact (show _ = _ from hz5).trans ((show wd.heap[Bl + 1 + 1]? = _ from hzD).symm.trans HWD.out.2.2)
        · rw [HG2.out, List.length_append]
          exact hr5
      · go_simp
        refine HC2.out.mono ?_; rintro e₁ w4 ⟨rfl, h4⟩; replace h4 := h4.symm; subst h4
        refine hK.out _ _ trivial ?_
        clear hK K
        iterate 1 (refine plan_read rfl (by rfl) (v := ?_) ?_ ?_; rotate_left 1; (intro W hW; go_simp <;> with_reducible rfl); simp only [List.getElem_toArray, List.getElem_cons_zero, List.getElem_cons_succ, Act.put, List.setIfInBounds_toArray, List.set_cons_zero, List.set_cons_succ])
        refine plan_fork rfl rfl (by rfl) (by rfl) (fun K hK => ?_) (fun K hK => ?_)
        · go_simp
          refine hK.out _ _ trivial ?_
          clear hK K
          (refine plan_make_of rfl (by rfl) (fun K hK => ?_); go_simp; skip; refine hK.out _ _ hS ?_; clear hK K)
          refine plan_make_of rfl (by rfl) (fun K hK => ?_)
          refine wp_append_rdG _ (.tmp 34) (.tmp 42) 24 (by rfl) w.heap.size 60 j0 (.agg #[.int .u64 0, .int .u64 0]) 16 Tryz.underlying24 hj gz0 gz1 gz2 rfl v pre.length _ (by rfl) (hownD.alloc _) (some ⟨wd.heap.size, 0, none⟩) [(v1, v2)] 1 (by rfl) hrp (by simp; unfold maxLen; omega) (by simp; omega) (by simp; omega) ?_
          intro v3 w3 hown3 hgrow3 _
          obtain ⟨hv4, hv5, hr5, hk5, hb5⟩ := hvD.appended (by decide) hownD hszd hBl hown3 hgrow3
          have hs4 := (hsD.alloc (.cells #[.int .u64 (v1 : Int), .int .u64 (v2 : Int)] 60)).kept hgrow3 (hsD.not_row (by decide) hownD)
          have hz4 := (hzD.alloc (.cells #[.int .u64 (v1 : Int), .int .u64 (v2 : Int)] 60)).kept hgrow3 (hzD.not_row (by decide) hownD)
          obtain ⟨A5, c5, hv3E, _⟩ := own_formG hown3
          subst hv3E
          simp only [List.getElem_toArray, List.getElem_cons_zero, List.getElem_cons_succ, Act.put, List.setIfInBounds_toArray, List.set_cons_zero, List.set_cons_succ]
          refine hK.out _ _ trivial ?_
          clear hK K
          have hc9 := hv4.cell
          have hf9 := hv4.frozen
          (refine plan_make_of rfl (by rfl) (fun K hK => ?_); go_simp; skip; refine hK.out _ _ hS ?_; clear hK K)
          refine planIn_done ?_
          gi_wp2
          have hs5 := hs4.other (B' := Bl) (by omega) (.slice A5 (pre.length + 1) c5)
          have hz5 := hz4.other (B' := Bl) (by omega) (.slice A5 (pre.length + 1) c5)
          refine ⟨(HKD.out.trans hk5).from _, ⟨HWD.out.1.trans hb5, ?_, ?_⟩, ⟨⟨_, hv5, ?_, trivial⟩, hs5, hz5⟩, HBD.out.trans hb5⟩
          · exact (show _ = _ from hs5).trans ((show wd.heap[Bl + 1]? = _ from hsD).symm.trans HWD.out.2.1)
          · exact (show _ = _ from hz5).trans ((show wd.heap[Bl + 1 + 1]? = _ from hzD).symm.trans HWD.out.2.2)
          · rw [HG2.out, List.length_append]
            exact hr5
        · go_simp
          refine hK.out _ _ trivial ?_
          clear hK K
          (refine plan_make_of rfl (by rfl) (fun K hK => ?_); go_simp; skip; refine hK.out _ _ hS ?_; clear hK K)
          refine plan_make_of rfl (by rfl) (fun K hK => ?_)
          refine wp_append_rdG _ (.tmp 34) (.tmp 42) 24 (by rfl) w.heap.size 60 j0 (.agg #[.int .u64 0, .int .u64 0]) 16 Tryz.underlying24 hj gz0 gz1 gz2 rfl v pre.length _ (by rfl) (hownD.alloc _) (some ⟨wd.heap.size, 0, none⟩) [(v1, v2)] 1 (by rfl) hrp (by simp; unfold maxLen; omega) (by simp; omega) (by simp; omega) ?_
          intro v3 w3 hown3 hgrow3 _
          obtain ⟨hv4, hv5, hr5, hk5, hb5⟩ := hvD.appended (by decide) hownD hszd hBl hown3 hgrow3
          have hs4 := (hsD.alloc (.cells #[.int .u64 (v1 : Int), .int .u64 (v2 : Int)] 60)).kept hgrow3 (hsD.not_row (by decide) hownD)
          have hz4 := (hzD.alloc (.cells #[.int .u64 (v1 : Int), .int .u64 (v2 : Int)] 60)).kept hgrow3 (hzD.not_row (by decide) hownD)
          obtain ⟨A5, c5, hv3E, _⟩ := own_formG hown3
          subst hv3E
          simp only [List.getElem_toArray, List.getElem_cons_zero, List.getElem_cons_succ, Act.put, List.setIfInBounds_toArray, List.set_cons_zero, List.set_cons_succ]
          refine hK.out _ _ trivial ?_
          clear hK K
          have hc9 := hv4.cell
          have hf9 := hv4.frozen
          (refine plan_make_of rfl (by rfl) (fun K hK => ?_); go_simp; skip; refine hK.out _ _ hS ?_; clear hK K)
          refine planIn_done ?_
          gi_wp2
          have hs5 := hs4.other (B' := Bl) (by omega) (.slice A5 (pre.length + 1) c5)
          have hz5 := hz4.other (B' := Bl) (by omega) (.slice A5 (pre.length + 1) c5)
          refine ⟨(HKD.out.trans hk5).from _, ⟨HWD.out.1.trans hb5, ?_, ?_⟩, ⟨⟨_, hv5, ?_, trivial⟩, hs5, hz5⟩, HBD.out.trans hb5⟩
          · exact (show _ = _ from hs5).trans ((show wd.heap[Bl + 1]? = _ from hsD).symm.trans HWD.out.2.1)
          · exact (show _ = _ from hz5).trans ((show wd.heap[Bl + 1 + 1]? = _ from hzD).symm.trans HWD.out.2.2)
          · rw [HG2.out, List.length_append]
            exact hr5
  case done =>
    rintro D xs W hD hSx ⟨⟨⟨v, hv, hown, _⟩, hs, hz⟩, hB⟩ hDf
    have hxs : xs.map (fun x => gnA (b.drop 1) x.1) = takeG q (b.drop 1) := by
      rw [take_map, ← hSx, List.map_map]
      rfl
    have hxl : xs.length = q := by
      have := congrArg List.length hSx
      simpa using this
    rw [hxs, hxl] at hown
    obtain ⟨hft1, hft2, hft3⟩ := flat_take q (b.drop 1) (by rw [List.length_drop, HN.out]; have := HE.out; have := HEN.out; omega)
    obtain ⟨A5, c5, rfl, hq5⟩ := own_formG hown
    have hrd : RdG W A5 (takeG q (b.drop 1)) := RdG.own hown
    have HRT := Lib.hid (fun W' hW' => right15_any (takeG q (b.drop 1)) q c5 A5 W' hft2 (hrd.keep hW') hft3 (by omega))
    have hcl := hv.cell
    have HOW := Lib.hid hown
    have HBB := Lib.hid hB
    have HT2 := Lib.hid hft2
    have hDl : D < W.heap.size := (Array.getElem?_eq_some_iff.1 hDf).1
    generalize takeG q (b.drop 1) = l at HOW HRT HP hft2 HT2
    have hcl2 : ∀ W', Below W.heap.size W W' → W'.cell? ⟨Bl, 0, none⟩ = some (.slice A5 q c5) := fun W' h => Boxed.cell ((h.block _ (Boxed.lt hv)).trans hv)
    have HCL := Lib.hid hcl2
    obtain ⟨R, hR⟩ : ∃ R, rightG l = R := ⟨_, rfl⟩
    rw [hR] at HRT HP
    clear hv hown hs hz hB hxs hxl hft1 hft3 hrd hft2 hcl2 hR bL bS bZ hown2 hB2
    cases R with
    | false =>
      have HPP : Hid (P = ([], 0, 3)) := HP.out
      gi_wp2
      go_wp2_with fail
      refine (HRT.out _ (Below.refl _ _)).mono ?_
      rintro e w2 ⟨rfl, hb2⟩
      have hDf2 : w2.heap[D]? = some (.deferred (some [])) := (hb2.block D hDl).trans hDf
      have HB2 := Lib.hid hb2
      clear hb2 hcl
      go_wp2_with fail
      refine ⟨by simp, .inl ⟨_, _, rfl, run_takeDeferred hDf2, ?_⟩⟩
      refine ⟨_, results_tmp3 rfl _ _ _, _, by rw [HPP.out]; rfl, by rw [HPP.out]; exact World.ownsRow_nil _ _ _ _, ?_⟩
      exact (HBB.out.trans (HB2.out.mono HBB.out.size)).trans (belowK_b (w := w) (Nat.le_refl _) w2 D _ _ (by have := HBB.out.size; omega) hDf2 rfl rfl)
    | true =>
      have HPP : Hid (P = (l, 1 + 16 * q, 0)) := HP.out
      gi_wp2
      go_wp2_with fail
      refine (HRT.out _ (Below.refl _ _)).mono ?_
      rintro e w2 ⟨rfl, hb2⟩
      have hDf2 : w2.heap[D]? = some (.deferred (some [])) := (hb2.block D hDl).trans hDf
      have hcl3 := HCL.out _ hb2
      have HB2 := Lib.hid hb2
      clear hb2 hcl
      go_wp2_with fail
      refine ⟨by simp, .inl ⟨_, _, rfl, run_takeDeferred hDf2, ?_⟩⟩
      have hown3 := ownsRow_putObj (ownsRowG_later HOW.out HB2.out) (.deferred none) hDf2 rfl
      refine ⟨_, results_tmp3 rfl _ _ _, .slice A5 q c5, by rw [HPP.out, ← HE.out]; rfl, by rw [HPP.out]; dsimp only; rw [HT2.out]; exact hown3, ?_⟩
      exact (HBB.out.trans (HB2.out.mono HBB.out.size)).trans (belowK_b (w := w) (Nat.le_refl _) w2 D _ _ (by have := HBB.out.size; omega) hDf2 rfl rfl)
  case stop =>
    rintro D c pre W _ _ h _
    exact h.elim
end Go.Proofs.YtmljhkdojopljaaGreatDoor
/-
  What the reference's Read of layer 15 answers. No conditions but those typed.
-/
namespace Go.Proofs.YtmljhkdojopljaaGreatDoor
set_option maxRecDepth 100000
open Go.RowKit
set_option linter.unusedSimpArgs false
set_option linter.unusedVariables false

theorem takeG_next (k : Nat) (D : List UInt8) : takeG (k + 1) D = takeG k D ++ [gnA D k] := by rw [take_map, take_map, List.range_succ, List.map_append]; rfl
theorem takeG_len (k : Nat) (D : List UInt8) : (takeG k D).length = k := by rw [take_map]; simp

theorem val8_any (l : List UInt8) (A : Option Addr) (c : Nat) (w : World) (hr : Rd vB w A l) (HL : Hid (l.length = 8)) (v : Nat) (HV : Hid (valN l = v)) :
    Calls Tryz.prog 38 #[.slice A 8 c] w fun e w' => e = .returned (.int .u64 (v : Int)) ∧ w' = w := by
  have h := value_any l A c w hr (by rw [HL.out]; omega)
  have hv8 : valN l < 18446744073709551616 := valN_lt8 l (by rw [HL.out]; omega)
  rw [HL.out, Nat.mod_eq_of_lt hv8, HV.out] at h
  exact h.mono fun e w' ⟨h1, h2⟩ => ⟨h1, h2.symm⟩
def RReadI (D : List UInt8) (q : Nat) (w : World) (v i : Value) (wr : World) : Prop :=
  ∃ k : Nat, i = .int .i64 (k : Int) ∧ k ≤ q ∧ wr.ownsRow w.heap.size 60 2 v k (cellsG (takeG k D)) ∧ Below w.heap.size w wr
/-- What the reference's Read hands back. -/
def RetRr (w : World) (l : List Gn) (n : Nat) (k : Int) (e : Ending) (w' : World) : Prop := ∃ v, e = .returned (.tuple #[v, .int .i64 (n : Int), .int .i64 k]) ∧ w'.ownsRow w.heap.size 60 2 v l.length (cellsG l) ∧ Below w.heap.size w w'

set_option maxHeartbeats 2000000 in
theorem refread15_any (b : List UInt8) (n c : Nat) (A : Option Addr) (w : World) (HN : Hid (b.length = n)) (hr : Rd vB w A b) (hn : n ≤ 1000000000) (hc : n ≤ c) :
    Calls Tryz.prog 39 #[.slice A n c] w (RetRr w (readG b).1 (readG b).2.1 (readG b).2.2) := by
  obtain ⟨j0, hj, gz0, gz1, gz2⟩ := info_parts info_gone
  obtain ⟨P, hP⟩ : ∃ P, P = readG b := ⟨_, rfl⟩
  rw [← hP]
  have hlen := HN.out
  by_cases h0 : n = 0
  · have HP : Hid (P = ([], 0, 2)) := hP.trans (read_none (by omega))
    clear hP
    subst h0
    go_enter Tryz.func39, Tryz.ntmps39
    go_wp2_with fail
    go_ret3
    exact ⟨_, by rw [HP.out]; rfl, by rw [HP.out]; exact World.ownsRow_nil _ _ _ _, Below.refl _ _⟩
  · have hb0 : b.length ≠ 0 := by omega
    obtain ⟨blk, o, rfl, hblk, hcell⟩ := hr.at (k := 0) (by omega)
    have hc0 := hcell 0 (by omega)
    have hcnt : cntG b = (b[0]'(by omega)).toNat := by unfold cntG; rw [List.getD_eq_getElem?_getD, List.getElem?_eq_getElem (by omega)]; rfl
    rw [Nat.add_zero] at hc0
    unfold vB at hc0
    rw [← hcnt] at hc0
    have hlt : cntG b < 256 := by rw [hcnt]; exact UInt8.toNat_lt _
    have z1 : ((n : Int) == 0) = false := beq_eq_false_iff_ne.2 (by omega)
    have hp : (0 : Int) < (n : Int) := by omega
    by_cases h64 : 64 < cntG b
    · have HP : Hid (P = ([], 0, 3)) := hP.trans (read_many hb0 h64)
      clear hP hcell hcnt
      generalize cntG b = q at hc0 hlt h64
      go_enter Tryz.func39, Tryz.ntmps39
      go_wp2_with fail
      go_ret3
      exact ⟨_, by rw [HP.out]; rfl, by rw [HP.out]; exact World.ownsRow_nil _ _ _ _, Below.refl _ _⟩
    · by_cases hsh : b.length < 1 + 16 * cntG b
      · have HP : Hid (P = ([], 0, 2)) := hP.trans (read_short hb0 h64 hsh)
        rw [hlen] at hsh
        clear hP hcell hcnt
        generalize cntG b = q at hc0 hlt h64 hsh
        go_enter Tryz.func39, Tryz.ntmps39
        go_wp2_with fail
        go_ret3
        exact ⟨_, by rw [HP.out]; rfl, by rw [HP.out]; exact World.ownsRow_nil _ _ _ _, Below.refl _ _⟩
      · have HP : Hid (P = _) := hP.trans (read_list hb0 h64 hsh)
        rw [hlen] at hsh
        clear hP hcell hcnt
        generalize cntG b = q at hc0 hlt h64 hsh HP
        have d64 : ¬ (64 : Int) < (q : Int) := by omega
        have dn : ¬ (n : Int) < 1 + 16 * (q : Int) := by omega
        have HQ : Hid (q ≤ 64) := by unfold Hid; omega
        have HSN : Hid (1 + 16 * q ≤ n) := by unfold Hid; omega
        go_enter Tryz.func39, Tryz.ntmps39
        go_wp2_with fail
        clear d64 dn hc0 hsh h64 z1
        go_loopw [6, 7] (fun v i wr => RReadI (b.drop 1) q w v i wr) (fun _ i _ => q - (intOf i).toNat)
        case atStart => exact ⟨0, rfl, by omega, World.ownsRow_nil _ _ _ _, Below.refl _ _⟩
        case round =>
          obtain ⟨k, rfl, hk, hown, hB⟩ := hrel
          by_cases hlt2 : k < q
          · obtain ⟨a, ha⟩ : ∃ a : Nat, a = 1 + 16 * k := ⟨_, rfl⟩
            have hai : (1 : Int) + 16 * (k : Int) = (a : Int) := by omega
            have hk64 := HQ.out
            have hsn := HSN.out
            have han : a + 16 ≤ n := by omega
            have hbw : Below w.heap.size w wr := hB
            have hrw := hr.keep hB
            have hcA : ∀ W, (Instr.slice 27 (.slice (some ⟨blk, o, none⟩) n c) (some (.int .i64 (a : Int))) (some (.int .i64 ((a : Int) + 8))) none).run Tryz.prog W = .ok (.slice (chA (some ⟨blk, o, none⟩) a) 8 (c - a)) W := fun W => by
              have := cut_mid (some ⟨blk, o, none⟩) n c a 8 (by omega) W
              rw [if_neg (by omega)] at this
              exact this
            have hcB : ∀ W, (Instr.slice 27 (.slice (some ⟨blk, o, none⟩) n c) (some (.int .i64 ((a : Int) + 8))) (some (.int .i64 ((a : Int) + 16))) none).run Tryz.prog W = .ok (.slice (chA (some ⟨blk, o, none⟩) (a + 8)) 8 (c - (a + 8))) W := fun W => by
              have := cut_mid (some ⟨blk, o, none⟩) n c (a + 8) 8 (by omega) W
              rw [if_neg (by omega), show (((a + 8 : Nat) : Int)) = (a : Int) + 8 by omega, show (a : Int) + 8 + ((8 : Nat) : Int) = (a : Int) + 16 by omega] at this
              exact this
            obtain ⟨L1, hL1⟩ : ∃ L, (b.drop a).take 8 = L := ⟨_, rfl⟩
            obtain ⟨L2, hL2⟩ : ∃ L, (b.drop (a + 8)).take 8 = L := ⟨_, rfl⟩
            have hn1 : L1.length = 8 := by rw [← hL1, List.length_take, List.length_drop]; omega
            have hn2 : L2.length = 8 := by rw [← hL2, List.length_take, List.length_drop]; omega
            obtain ⟨v1, hv1⟩ : ∃ v, valN L1 = v := ⟨_, rfl⟩
            obtain ⟨v2, hv2⟩ : ∃ v, valN L2 = v := ⟨_, rfl⟩
            have HG : Hid (takeG (k + 1) (b.drop 1) = takeG k (b.drop 1) ++ [(v1, v2)]) := by
              unfold Hid
              rw [takeG_next]
              unfold gnA
              rw [List.drop_drop, List.drop_drop, ← ha, show 1 + (16 * k + 8) = a + 8 by omega, hL1, hL2, hv1, hv2]
            have hr1 : Rd vB wr (chA (some ⟨blk, o, none⟩) a) L1 := by rw [← hL1]; exact (hrw.chA a).take 8
            have hr2 : Rd vB wr (chA (some ⟨blk, o, none⟩) (a + 8)) L2 := by rw [← hL2]; exact (hrw.chA (a + 8)).take 8
            generalize chA (some ⟨blk, o, none⟩) a = A1 at hr1 hcA
            generalize chA (some ⟨blk, o, none⟩) (a + 8) = A2 at hr2 hcB
            have HC1 := Lib.hid (val8_any L1 A1 (c - a) wr.drew (hr1.keep (Below.refl _ _).drew) hn1 v1 hv1)
            have HC2 := Lib.hid (val8_any L2 A2 (c - (a + 8)) wr.drew (hr2.keep (Below.refl _ _).drew) hn2 v2 hv2)
            have HB := Lib.hid hB
            have HAI := Lib.hid hai
            clear hr1 hr2 hrw hL1 hL2 hn1 hn2 hv1 hv2 hB ha hai hbw
            go_upto_region 13 with fail
            rw [HAI.out]
            have hBase := (Below.refl wr.heap.size wr).drew
            have w8 : IntKind.i64.wrap ((a : Int) + 8) = (a : Int) + 8 := by rw [IntKind.wrap_i64]; omega
            have w16 : IntKind.i64.wrap ((a : Int) + 16) = (a : Int) + 16 := by rw [IntKind.wrap_i64]; omega
            have hS : True := trivial
            refine wp_region_plan_of (fun _ => True) (.step 0 false (.step 1 false (.step 2 false (.step 3 false (.step 4 false (.step 5 false (.step 7 false (.step 8 false (.step 9 false (.step 10 false (.step 11 false (.step 12 false (.step 6 true (.step 13 true (.step 14 false (.step 15 true (.step 16 true (.step 17 false (.nil))))))))))))))))))) trivial (by kernel_rfl) (by kernel_rfl) (by rfl) (by kernel_rfl) ?_
            iterate 12 (refine plan_read rfl (by rfl) (v := ?_) ?_ ?_; rotate_left 1; (intro W hW; go_simp <;> with_reducible rfl); simp only [List.getElem_toArray, List.getElem_cons_zero, List.getElem_cons_succ, Act.put, List.setIfInBounds_toArray, List.set_cons_zero, List.set_cons_succ])
            have hownD : wr.drew.ownsRow w.heap.size 60 2 _ k (cellsG (takeG k (b.drop 1))) := hown
            have HBD : Hid (Below w.heap.size w wr.drew) := HB.out.drew
            clear hown
            generalize wr.drew = wd at hBase HC1 HC2 hownD HBD ⊢
            (refine plan_make_of rfl (by rfl) (fun K hK => ?_); go_simp; (refine HC1.out.mono ?_; rintro e₁ w4 ⟨rfl, h4⟩; replace h4 := h4.symm; subst h4); refine hK.out _ _ hS ?_; clear hK K)
            (refine plan_make_of rfl (by rfl) (fun K hK => ?_); go_simp; (refine HC2.out.mono ?_; rintro e₁ w4 ⟨rfl, h4⟩; replace h4 := h4.symm; subst h4); refine hK.out _ _ hS ?_; clear hK K)
            iterate 1 (refine plan_read rfl (by rfl) (v := ?_) ?_ ?_; rotate_left 1; (intro W hW; go_simp <;> with_reducible rfl); simp only [List.getElem_toArray, List.getElem_cons_zero, List.getElem_cons_succ, Act.put, List.setIfInBounds_toArray, List.set_cons_zero, List.set_cons_succ])
            (refine plan_make_of rfl (by rfl) (fun K hK => ?_); go_simp; skip; refine hK.out _ _ hS ?_; clear hK K)
            have hszd : w.heap.size ≤ wd.heap.size := HBD.out.size
            refine plan_make_of rfl (by rfl) (fun K hK => ?_)
            refine wp_append_rdG _ (.tmp 32) (.tmp 47) 24 (by rfl) w.heap.size 60 j0 (.agg #[.int .u64 0, .int .u64 0]) 16 Tryz.underlying24 hj gz0 gz1 gz2 rfl _ _ _ (by rfl) (hownD.alloc _) (some ⟨wd.heap.size, 0, none⟩) [(v1, v2)] 1 (by rfl) (rdG_one _ _ _ _) (by simp; unfold maxLen; omega) (by simp; omega) (by simp; omega) ?_
            intro v5 w5 hown5 hgrow5 _
            have HB5 : Hid (Below w.heap.size w w5) := (below_new HBD.out _).grown hgrow5 (by simp; omega) (fun j hj => (hownD.lt j hj).1)
            simp only [List.getElem_toArray, List.getElem_cons_zero, List.getElem_cons_succ, Act.put, List.setIfInBounds_toArray, List.set_cons_zero, List.set_cons_succ]
            refine hK.out _ _ trivial ?_
            clear hK K
            iterate 1 (refine plan_read rfl (by rfl) (v := ?_) ?_ ?_; rotate_left 1; (intro W hW; go_simp <;> with_reducible rfl); simp only [List.getElem_toArray, List.getElem_cons_zero, List.getElem_cons_succ, Act.put, List.setIfInBounds_toArray, List.set_cons_zero, List.set_cons_succ])
            refine plan_done ?_
            go_wp2_with fail
            go_roundw
            case rel => exact ⟨k + 1, by go_num, by omega, by rw [HG.out, cellsG_app]; exact hown5, HB5.out⟩
            case measure => simp [intOf]; omega
          · have hkq : k = q := by omega
            subst hkq
            have hsn := HSN.out
            obtain ⟨hft1, hft2, hft3⟩ := flat_take k (b.drop 1) (by rw [List.length_drop]; omega)
            obtain ⟨A5, c5, rfl, hq5⟩ := own_formG hown
            have hrd : RdG wr A5 (takeG k (b.drop 1)) := RdG.own hown
            have hrt := refright15_any (takeG k (b.drop 1)) k c5 A5 wr hft2 hrd (by omega)
            have HT2 := Lib.hid hft2
            have HOW := Lib.hid hown
            have HB := Lib.hid hB
            generalize takeG k (b.drop 1) = l at hrt HT2 HOW HP hft2
            obtain ⟨R, hR⟩ : ∃ R, rightG l = R := ⟨_, rfl⟩
            rw [hR] at hrt HP
            have HRT := Lib.hid hrt
            have j1 : ¬ (k : Int) < (k : Int) := by omega
            clear hrt hR hft1 hft2 hft3 hrd hown hB hq5 hk
            cases R with
            | false =>
              have HPP : Hid (P = ([], 0, 3)) := HP.out
              go_wp2_with fail
              refine HRT.out.mono ?_
              rintro e w2 ⟨rfl, hb2⟩
              have HB2 := Lib.hid (below_step HB.out hb2)
              clear hb2
              go_wp2_with fail
              go_ret3
              exact ⟨_, by rw [HPP.out]; rfl, by rw [HPP.out]; exact World.ownsRow_nil _ _ _ _, HB2.out⟩
            | true =>
              have HPP : Hid (P = (l, 1 + 16 * k, 0)) := HP.out
              obtain ⟨E, hE⟩ : ∃ E : Nat, E = 1 + 16 * k := ⟨_, rfl⟩
              have hE2 : (1 : Int) + 16 * (k : Int) = (E : Int) := by omega
              have HE := Lib.hid hE
              have HE2 := Lib.hid hE2
              clear hE hE2
              go_wp2_with fail
              refine HRT.out.mono ?_
              rintro e w2 ⟨rfl, hb2⟩
              have HB2 := Lib.hid (below_step HB.out hb2)
              have HO2 := Lib.hid (ownsRowG_later HOW.out hb2)
              clear hb2
              go_wp2_with fail
              go_ret3
              exact ⟨_, by rw [HPP.out, ← HE.out, ← HE2.out]; rfl, by rw [HPP.out]; dsimp only; rw [HT2.out]; exact HO2.out, HB2.out⟩
end Go.Proofs.YtmljhkdojopljaaGreatDoor
/-
  What the call awake of layer 15's statements answers: true. No conditions.
-/
namespace Go.Proofs.YtmljhkdojopljaaGreatDoor
set_option maxRecDepth 100000
open Go.RowKit
set_option linter.unusedSimpArgs false
set_option linter.unusedVariables false

theorem read15_any (b : List UInt8) (n c : Nat) (A : Option Addr) (w : World) (HN : Hid (b.length = n)) (hr : Rd vB w A b) (hn : n ≤ 1000000000) (hc : n ≤ c) :
    Calls Tryz.prog 54 #[.slice A n c] w (RetRd w (readG b).1 (readG b).2.1 (readG b).2.2) := by
  by_cases h0 : b.length = 0
  · exact read15_short b n c A w HN hr hn hc (Lib.hid (.inl h0))
  · by_cases h64 : 64 < cntG b
    · exact read15_short b n c A w HN hr hn hc (Lib.hid (.inr (.inl h64)))
    · by_cases hs : b.length < 1 + 16 * cntG b
      · exact read15_short b n c A w HN hr hn hc (Lib.hid (.inr (.inr hs)))
      · exact read15_main b n c A w HN hr hn hc h0 h64 hs
def awL : List Gn := [(3, 9), (5, 1)]
theorem aw15_put : putG [(5, 1)] (3, 9) = (awL, 0) := by decide +kernel
theorem aw15_bytes : bytesR awL = (bytesG awL, 0) := bytesR_ok (by decide +kernel)
theorem aw15_len : (bytesG awL).length = 33 := by rw [bytes_length]; rfl
theorem aw15_fit : fitG awL := by unfold fitG awL; decide
theorem aw15_right : rightG awL = true := by decide +kernel
theorem aw15_read : readG (bytesG awL ++ [7]) = (awL, 33, 0) := by rw [readG_bytes [7] aw15_right aw15_fit]; rfl
theorem aw15_b0 : (bytesG awL)[0]'(by rw [aw15_len]; omega) = 2 := by decide +kernel
theorem aw15_b8 : (bytesG awL)[8]'(by rw [aw15_len]; omega) = 3 := by decide +kernel
theorem aw15_h1 : hasG awL (5, 1) = true := by decide +kernel
theorem aw15_h2 : hasG awL (5, 2) = false := by decide +kernel

end Go.Proofs.YtmljhkdojopljaaGreatDoor
/-
  What comes in, opened by its type's shape (no program is named here): numbers, slices of whatever, arrays, structs. No conditions but those typed.
-/
namespace Go.Proofs.YtmljhkdojopljaaGreatDoor
set_option maxRecDepth 100000
open Go.RowKit Go.Deep Go.WideShapes Go.ChangeShapes

/-- Cells of type t that can be read as data are a reading R of something. -/
def Opens (P : Program) (t : TypeId) {α : Type} (R : World → List Value → α → Prop) : Prop :=
  ∀ {H : Type} (enc : TypeId × Value → H) (w : World) (base : Nat) (spare : Nat → Bool) (held : Bool) (fuel : Nat) (cs : List Value) (x : DataW H × List MemPlace), DataW.trod enc P w base spare held fuel t cs = some x → ∃ a : α, R w cs a

def RByte : World → List Value → UInt8 → Prop := fun _ cs c => cs = [vB c]
def RWord : World → List Value → UInt32 → Prop := fun _ cs c => cs = [vW c]
def RNum : World → List Value → Nat → Prop := fun _ cs v => cs = [.int .u64 (v : Int)] ∧ v < 18446744073709551616
def RInt : World → List Value → Int → Prop := fun _ cs n => cs = [.int .i64 n] ∧ -9223372036854775808 ≤ n ∧ n ≤ 9223372036854775807
def RBool : World → List Value → Bool → Prop := fun _ cs b => cs = [.bool b]

section
variable {P : Program} {t e : TypeId}
theorem opens_byte (ht : P.underlying t = some (.int .u8)) : Opens P t RByte := fun enc w base spare held fuel cs x h => by
  obtain ⟨n, rfl, _, hw⟩ := DataW.trod_int ht h
  simp [Lit.wf, IntKind.min, IntKind.max, IntKind.signed, IntKind.bits] at hw
  refine ⟨UInt8.ofNat n.toNat, ?_⟩
  unfold RByte vB
  rw [UInt8.toNat_ofNat']
  congr 2
  omega
theorem opens_word (ht : P.underlying t = some (.int .u32)) : Opens P t RWord := fun enc w base spare held fuel cs x h => by
  obtain ⟨n, rfl, _, hw⟩ := DataW.trod_int ht h
  simp [Lit.wf, IntKind.min, IntKind.max, IntKind.signed, IntKind.bits] at hw
  refine ⟨UInt32.ofNat n.toNat, ?_⟩
  unfold RWord vW
  rw [UInt32.toNat_ofNat']
  congr 2
  omega
theorem opens_num (ht : P.underlying t = some (.int .u64)) : Opens P t RNum := fun enc w base spare held fuel cs x h => by
  obtain ⟨n, rfl, _, hw⟩ := DataW.trod_int ht h
  obtain ⟨v, hv, rfl⟩ := u64_of_wf hw
  exact ⟨v, rfl, hv⟩
theorem opens_int (ht : P.underlying t = some (.int .i64)) : Opens P t RInt := fun enc w base spare held fuel cs x h => by
  obtain ⟨n, rfl, _, hw⟩ := DataW.trod_int ht h
  exact ⟨n, rfl, i64_of_wf hw⟩

/-- A slice: its elements, of m cells each, lie one behind the other. -/
def RSlice (m : Nat) {α : Type} (R : World → List Value → α → Prop) : World → List Value → List α → Prop := fun w cs l =>
  ∃ (A : Option Addr) (cap : Nat), cs = [.slice A l.length cap] ∧ l.length ≤ cap ∧ cap ≤ 9223372036854775807 ∧
    (l ≠ [] → ∃ b o, A = some ⟨b, o, none⟩ ∧ ∀ i (h : i < l.length), ∃ ecs : List Value, ecs.length = m ∧ (∀ j (hj : j < ecs.length), w.cell? ⟨b, o + i * m + j, none⟩ = some ecs[j]) ∧ R w ecs l[i])

theorem cells_at {w : World} {base : Nat} {a : Addr} {n : Nat} {cs : List Value} (h : w.cells? base a n = some cs) : cs.length = n ∧ ∀ j (hj : j < cs.length), w.cell? (a.add j) = some cs[j] := by
  obtain ⟨_, hl, hc⟩ := World.cells?_some h
  refine ⟨hl, fun j hj => ?_⟩
  have := hc j (by omega)
  rw [this]
  exact List.getElem?_eq_getElem hj

theorem choose_list {α : Type} (n : Nat) (p : Nat → α → Prop) (h : ∀ i, i < n → ∃ a, p i a) : ∃ l : List α, l.length = n ∧ ∀ i (hi : i < l.length), p i l[i] := by
  induction n with
  | zero => exact ⟨[], rfl, fun i hi => by simp at hi⟩
  | succ n ih =>
    obtain ⟨l, hl, hp⟩ := ih (fun i hi => h i (by omega))
    obtain ⟨a, ha⟩ := h n (by omega)
    refine ⟨l ++ [a], by simp [hl], fun i hi => ?_⟩
    by_cases hin : i < l.length
    · rw [List.getElem_append_left hin]; exact hp i hin
    · have : i = n := by simp at hi; omega
      subst this
      rw [List.getElem_append_right (by omega)]
      simpa [hl] using ha

theorem opens_slice {α : Type} {R : World → List Value → α → Prop} {m : Nat} (ht : P.underlying t = some (.slice e)) (hc : P.cellsOf e = m) (hm : 0 < m) (he : Opens P e R) : Opens P t (RSlice m R) := fun enc w base spare held fuel cs x h => by
  rcases open_slice ht h with ⟨rfl, _⟩ | ⟨a, len, cap, mm, n, D, Pl, rfl, hb, hl, hcap, hmm, rfl, hx⟩
  · exact ⟨[], none, 0, rfl, Nat.le_refl _, by omega, fun h => absurd rfl h⟩
  · have hlm : len ≤ mm := by rw [hmm]; split <;> omega
    unfold maxLen at hcap
    obtain ⟨l, hll, hp⟩ := choose_list len (fun i (y : α) => ∃ ecs : List Value, ecs.length = m ∧ (∀ j (hj : j < ecs.length), w.cell? ((a.add (i * m)).add j) = some ecs[j]) ∧ R w ecs y) (fun i hi => by
      obtain ⟨ecs, h1, h2⟩ := hx i (by omega)
      rw [hc] at h1
      obtain ⟨h3, h4⟩ := cells_at h1
      obtain ⟨y, hy⟩ := he enc w base spare held n ecs _ h2
      exact ⟨y, ecs, h3, h4, hy⟩)
    refine ⟨l, some a, cap, by rw [hll], by omega, by omega, fun hn => ?_⟩
    have h0 : 0 < l.length := by
      rcases Nat.eq_zero_or_pos l.length with h | h
      · exact absurd (List.eq_nil_of_length_eq_zero h) hn
      · exact h
    obtain ⟨b, o, spot⟩ := a
    obtain ⟨ecs, h3, h4, _⟩ := hp 0 h0
    have hc0 := h4 0 (by omega)
    have hspot : spot = none := by simpa [Addr.add] using World.cell?_spot hc0
    subst hspot
    have hadd : ∀ i j, ((⟨b, o, none⟩ : Addr).add i).add j = ⟨b, o + i + j, none⟩ := fun i j => by unfold Addr.add; split <;> split <;> simp_all
    refine ⟨b, o, rfl, fun i hi => ?_⟩
    obtain ⟨ecs, h3, h4, h5⟩ := hp i hi
    exact ⟨ecs, h3, fun j hj => by rw [← hadd]; exact h4 j hj, h5⟩

/-- An array: its elements' cells one behind the other (elements of one cell). -/
def RArr (n : Nat) {α : Type} (R : World → List Value → α → Prop) : World → List Value → List α → Prop := fun w cs l => l.length = n ∧ cs.length = n ∧ ∀ i (h : i < l.length), R w ((cs.drop i).take 1) l[i]
theorem opens_arr {α : Type} {R : World → List Value → α → Prop} {n : Nat} (ht : P.underlying t = some (.array n e)) (hc : P.cellsOf e = 1) (hn : P.cellsOf t = n) (he : Opens P e R) : Opens P t (RArr n R) := fun enc w base spare held fuel cs x h => by
  obtain ⟨xs, m, _, _, hl, hxl, hx⟩ := DataW.trod_array ht h
  obtain ⟨l, hll, hp⟩ := choose_list n (fun i (y : α) => R w ((cs.drop i).take 1) y) (fun i hi => by
    have := hx i hi
    rw [hc, Nat.mul_one, List.getElem?_eq_getElem (by omega)] at this
    exact he enc w base spare held m _ _ this)
  exact ⟨l, hll, by omega, hp⟩

/-- Structs of two to four fields: each field's cells. -/
def RTwo (a0 n0 a1 n1 : Nat) {α β : Type} (R : World → List Value → α → Prop) (S : World → List Value → β → Prop) : World → List Value → α × β → Prop := fun w cs x => cs.length = n0 + n1 ∧ R w ((cs.drop a0).take n0) x.1 ∧ S w ((cs.drop a1).take n1) x.2
def RThree (a0 n0 a1 n1 a2 n2 : Nat) {α β γ : Type} (R : World → List Value → α → Prop) (S : World → List Value → β → Prop) (T : World → List Value → γ → Prop) : World → List Value → α × β × γ → Prop := fun w cs x => cs.length = n0 + n1 + n2 ∧ R w ((cs.drop a0).take n0) x.1 ∧ S w ((cs.drop a1).take n1) x.2.1 ∧ T w ((cs.drop a2).take n2) x.2.2
theorem opens_two {α β : Type} {R : World → List Value → α → Prop} {S : World → List Value → β → Prop} {f0 f1 : Field} {a0 n0 a1 n1 : Nat} (ht : P.underlying t = some (.struct #[f0, f1])) (e0 : f0.offset = a0) (e1 : f1.offset = a1) (c0 : P.cellsOf f0.type = n0) (c1 : P.cellsOf f1.type = n1) (hn : P.cellsOf t = n0 + n1)
    (h0 : Opens P f0.type R) (h1 : Opens P f1.type S) : Opens P t (RTwo a0 n0 a1 n1 R S) := fun enc w base spare held fuel cs x h => by
  obtain ⟨xs, n, _, _, hl, hxl, hx⟩ := DataW.trod_struct ht h
  have k0 := hx 0 f0 rfl
  have k1 := hx 1 f1 rfl
  simp only [List.size_toArray, List.length_cons, List.length_nil, Nat.zero_add, Nat.reduceAdd] at hxl
  rw [List.getElem?_eq_getElem (by omega), e0, c0] at k0
  rw [List.getElem?_eq_getElem (by omega), e1, c1] at k1
  obtain ⟨x0, r0⟩ := h0 enc w base spare held n _ _ k0
  obtain ⟨x1, r1⟩ := h1 enc w base spare held n _ _ k1
  exact ⟨(x0, x1), by omega, r0, r1⟩
theorem opens_three {α β γ : Type} {R : World → List Value → α → Prop} {S : World → List Value → β → Prop} {T : World → List Value → γ → Prop} {f0 f1 f2 : Field} {a0 n0 a1 n1 a2 n2 : Nat} (ht : P.underlying t = some (.struct #[f0, f1, f2])) (e0 : f0.offset = a0) (e1 : f1.offset = a1) (e2 : f2.offset = a2)
    (c0 : P.cellsOf f0.type = n0) (c1 : P.cellsOf f1.type = n1) (c2 : P.cellsOf f2.type = n2) (hn : P.cellsOf t = n0 + n1 + n2) (h0 : Opens P f0.type R) (h1 : Opens P f1.type S) (h2 : Opens P f2.type T) : Opens P t (RThree a0 n0 a1 n1 a2 n2 R S T) := fun enc w base spare held fuel cs x h => by
  obtain ⟨xs, n, _, _, hl, hxl, hx⟩ := DataW.trod_struct ht h
  have k0 := hx 0 f0 rfl
  have k1 := hx 1 f1 rfl
  have k2 := hx 2 f2 rfl
  simp only [List.size_toArray, List.length_cons, List.length_nil, Nat.zero_add, Nat.reduceAdd] at hxl
  rw [List.getElem?_eq_getElem (by omega), e0, c0] at k0
  rw [List.getElem?_eq_getElem (by omega), e1, c1] at k1
  rw [List.getElem?_eq_getElem (by omega), e2, c2] at k2
  obtain ⟨x0, r0⟩ := h0 enc w base spare held n _ _ k0
  obtain ⟨x1, r1⟩ := h1 enc w base spare held n _ _ k1
  obtain ⟨x2, r2⟩ := h2 enc w base spare held n _ _ k2
  exact ⟨(x0, x1, x2), by omega, r0, r1, r2⟩
end

/-! ### Back to the words that the walks go by -/
theorem rd_of_rslice {α : Type} {f : α → Value} {R : World → List Value → α → Prop} {w : World} {cs : List Value} {l : List α} (hR : ∀ ecs x, R w ecs x → ecs = [f x]) (h : RSlice 1 R w cs l) : ∃ A cap, cs = [.slice A l.length cap] ∧ l.length ≤ cap ∧ cap ≤ 9223372036854775807 ∧ Rd f w A l := by
  obtain ⟨A, cap, e, h1, h2, h3⟩ := h
  refine ⟨A, cap, e, h1, h2, fun hn => ?_⟩
  obtain ⟨b, o, rfl, hc⟩ := h3 hn
  refine ⟨b, o, rfl, fun i hi => ?_⟩
  obtain ⟨ecs, _, h5, h6⟩ := hc i hi
  have := hR _ _ h6
  subst this
  have := h5 0 (by simp)
  simpa using this
theorem bytes_of_r {w : World} {cs : List Value} {l : List UInt8} (h : RSlice 1 RByte w cs l) : ∃ A cap, cs = [.slice A l.length cap] ∧ l.length ≤ cap ∧ cap ≤ 9223372036854775807 ∧ Rd vB w A l := rd_of_rslice (fun _ _ h => h) h
theorem words_of_r {w : World} {cs : List Value} {l : List UInt32} (h : RSlice 1 RWord w cs l) : ∃ A cap, cs = [.slice A l.length cap] ∧ l.length ≤ cap ∧ cap ≤ 9223372036854775807 ∧ Rd vW w A l := rd_of_rslice (fun _ _ h => h) h
theorem arr_words {n : Nat} {w : World} {cs : List Value} {l : List UInt32} (h : RArr n RWord w cs l) : cs = l.map vW ∧ l.length = n := by
  obtain ⟨h1, h2, h3⟩ := h
  refine ⟨?_, h1⟩
  apply List.ext_getElem
  · simp; omega
  · intro i hi hi'
    have := h3 i (by omega)
    unfold RWord at this
    have h4 := congrArg (fun l => l[0]?) this
    simp only [List.getElem?_take, List.getElem?_drop, Nat.add_zero, List.getElem?_eq_getElem hi, Nat.zero_lt_one, if_true, List.getElem?_cons_zero, Option.some.injEq] at h4
    rw [h4]
    simp

/-! ### A value and its cells -/
theorem okWide_arr {P : Program} {w : World} {r : Reach} {base n : Nat} {t e : TypeId} {v : Value} (ht : P.underlying t = some (.array n e)) (h : Value.okWide P w r base t v) : ∃ cs, v = .agg cs ∧ cs.size = P.cellsOf t := by
  simp only [Value.okWide, ht] at h
  obtain ⟨cs, h1, h2, _⟩ := h
  exact ⟨cs, h1, h2⟩

end Go.Proofs.YtmljhkdojopljaaGreatDoor
/-
  A parameter that is a slice of bytes, opened. No conditions.
-/
namespace Go.Proofs.YtmljhkdojopljaaGreatDoor
set_option maxRecDepth 100000
open Go.RowKit Go.WideShapes
set_option linter.unusedSimpArgs false
set_option linter.unusedVariables false

theorem opens_bytes : Opens Tryz.prog 27 (RSlice 1 RByte) := opens_slice Tryz.underlying27 (by kernel_rfl) (by omega) (opens_byte Tryz.underlying5)
section
variable {H : Type} {enc : TypeId × Value → H} {W : World} {base b1 : Nat} {spare : Nat → Bool} {held : Bool} {r : Reach} {v : Value} {d : DataW H} {p : List MemPlace}
theorem open_bytes (hv : Value.okWide Tryz.prog W r base 27 v) (ht : DataW.Trod enc Tryz.prog W b1 spare held 27 v d p) : ∃ (l : List UInt8) (A : Option Addr) (cap : Nat), v = .slice A l.length cap ∧ l.length ≤ cap ∧ cap ≤ 9223372036854775807 ∧ Rd vB W A l := by
  obtain ⟨a, len, cap, rfl⟩ := okWide_slice Tryz.underlying27 hv
  obtain ⟨fuel, hf⟩ := ht
  obtain ⟨l, hl⟩ := opens_bytes enc W _ _ _ _ _ _ hf
  obtain ⟨A, c, e, h1, h2, h3⟩ := bytes_of_r hl
  simp [Value.cells] at e
  obtain ⟨rfl, rfl, rfl⟩ := e
  exact ⟨l, _, _, rfl, h1, h2, h3⟩
end
end Go.Proofs.YtmljhkdojopljaaGreatDoor
/-
  Parameters that are what was revoked, or lists of it, opened; what the calls of layer 15 hand back, as slices. No conditions.
-/
namespace Go.Proofs.YtmljhkdojopljaaGreatDoor
set_option maxRecDepth 100000
open Go.RowKit Go.Deep Go.WideShapes Go.ChangeShapes
set_option linter.unusedSimpArgs false
set_option linter.unusedVariables false

theorem opens_gone : Opens Tryz.prog 60 (RTwo 0 1 1 1 RNum RNum) := opens_two Tryz.underlying60 rfl rfl (by kernel_rfl) (by kernel_rfl) (by kernel_rfl) (opens_num Tryz.underlying22) (opens_num Tryz.underlying22)
theorem opens_gones : Opens Tryz.prog 24 (RSlice 2 (RTwo 0 1 1 1 RNum RNum)) := opens_slice Tryz.underlying24 (by kernel_rfl) (by omega) opens_gone
theorem gone_of_r {w : World} {cs : List Value} {x : Gn} (h : RTwo 0 1 1 1 RNum RNum w cs x) : cs = cellG x ∧ fitN x := by
  obtain ⟨hl, ⟨h0, g0⟩, h1, g1⟩ := h
  refine ⟨?_, g0, g1⟩
  match cs, hl with
  | [a, b], _ =>
    simp at h0 h1
    rw [h0, h1]
    rfl
theorem gones_of_r {w : World} {cs : List Value} {l : List Gn} (h : RSlice 2 (RTwo 0 1 1 1 RNum RNum) w cs l) : ∃ (A : Option Addr) (cap : Nat), cs = [.slice A l.length cap] ∧ l.length ≤ cap ∧ cap ≤ 9223372036854775807 ∧ RdG w A l ∧ fitG l := by
  obtain ⟨A, cap, e, h1, h2, h3⟩ := h
  refine ⟨A, cap, e, h1, h2, fun hn => ?_, fun x hx => ?_⟩
  · obtain ⟨b, o, rfl, hc⟩ := h3 hn
    refine ⟨b, o, rfl, fun i hi => ?_⟩
    obtain ⟨ecs, h4, h5, h6⟩ := hc i hi
    obtain ⟨rfl, _⟩ := gone_of_r h6
    exact ⟨h5 0 (by simp [cellG]), h5 1 (by simp [cellG])⟩
  · obtain ⟨i, hi, rfl⟩ := List.getElem_of_mem hx
    obtain ⟨b, o, rfl, hc⟩ := h3 (by rintro rfl; simp at hi)
    obtain ⟨ecs, h4, h5, h6⟩ := hc i hi
    exact (gone_of_r h6).2
section
variable {H : Type} {enc : TypeId × Value → H} {W : World} {base b1 : Nat} {spare : Nat → Bool} {held : Bool} {r : Reach} {v : Value} {d : DataW H} {p : List MemPlace}
theorem open_gones (hv : Value.okWide Tryz.prog W r base 24 v) (ht : DataW.Trod enc Tryz.prog W b1 spare held 24 v d p) : ∃ (l : List Gn) (A : Option Addr) (cap : Nat), v = .slice A l.length cap ∧ l.length ≤ cap ∧ cap ≤ 9223372036854775807 ∧ RdG W A l ∧ fitG l := by
  obtain ⟨a, len, cap, rfl⟩ := okWide_slice Tryz.underlying24 hv
  obtain ⟨fuel, hf⟩ := ht
  obtain ⟨l, hl⟩ := opens_gones enc W _ _ _ _ _ _ hf
  obtain ⟨A, c, e, h1, h2, h3, h4⟩ := gones_of_r hl
  simp [Value.cells] at e
  obtain ⟨rfl, rfl, rfl⟩ := e
  exact ⟨l, _, _, rfl, h1, h2, h3, h4⟩
theorem open_gone (hv : Value.okWide Tryz.prog W r base 60 v) (ht : DataW.Trod enc Tryz.prog W b1 spare held 60 v d p) : ∃ g : Gn, v = aggG g ∧ fitN g := by
  obtain ⟨cs, rfl, _⟩ := okWide_struct Tryz.underlying60 hv
  obtain ⟨fuel, hf⟩ := ht
  obtain ⟨g, hg⟩ := opens_gone enc W _ _ _ _ _ _ hf
  obtain ⟨e, hfit⟩ := gone_of_r hg
  refine ⟨g, ?_, hfit⟩
  unfold aggG
  congr 1
  apply Array.toList_inj.1
  simp only [Value.cells] at e
  rw [e]
  rfl
end

/-! ### What the calls hand back, as slices -/
def RetPs (w : World) (l : List Gn) (k : Int) (e : Ending) (w' : World) : Prop := ∃ A m c, e = .returned (.tuple #[.slice A m c, .int .i64 k]) ∧ Hid (l.length = m) ∧ m ≤ c ∧ RdG w' A l ∧ Below w.heap.size w w'
theorem RetPut.ps {w : World} {l : List Gn} {k : Int} {e : Ending} {w' : World} (h : RetPut w l k e w') : RetPs w l k e w' := by
  obtain ⟨v, rfl, ho, hb⟩ := h
  obtain ⟨A, c, rfl, hc, hr, _⟩ := own_sliceG ho
  exact ⟨A, _, c, rfl, rfl, hc, hr, hb⟩
def RetBs (w : World) (L : List UInt8) (k : Int) (e : Ending) (w' : World) : Prop := ∃ A m c, e = .returned (.tuple #[.slice A m c, .int .i64 k]) ∧ Hid (L.length = m) ∧ m ≤ c ∧ Rd vB w' A L ∧ Below w.heap.size w w'
theorem RetBy.bs {w : World} {L : List UInt8} {k : Int} {e : Ending} {w' : World} (h : RetBy w L k e w') : RetBs w L k e w' := by
  obtain ⟨v, rfl, ho, hb⟩ := h
  obtain ⟨A, c, rfl, hc, hr⟩ := own_slice ho
  exact ⟨A, _, c, rfl, rfl, hc, hr, hb⟩
def RetRs (w : World) (l : List Gn) (n : Nat) (k : Int) (e : Ending) (w' : World) : Prop := ∃ A m c, e = .returned (.tuple #[.slice A m c, .int .i64 (n : Int), .int .i64 k]) ∧ Hid (l.length = m) ∧ m ≤ c ∧ RdG w' A l ∧ Below w.heap.size w w'
theorem RetRd.rs {w : World} {l : List Gn} {n : Nat} {k : Int} {e : Ending} {w' : World} (h : RetRd w l n k e w') : RetRs w l n k e w' := by
  obtain ⟨v, rfl, ho, hb⟩ := h
  obtain ⟨A, c, rfl, hc, hr, _⟩ := own_sliceG ho
  exact ⟨A, _, c, rfl, rfl, hc, hr, hb⟩
theorem RetRr.rs {w : World} {l : List Gn} {n : Nat} {k : Int} {e : Ending} {w' : World} (h : RetRr w l n k e w') : RetRs w l n k e w' := by
  obtain ⟨v, rfl, ho, hb⟩ := h
  obtain ⟨A, c, rfl, hc, hr, _⟩ := own_sliceG ho
  exact ⟨A, _, c, rfl, rfl, hc, hr, hb⟩
theorem putG_len {l : List Gn} {g : Gn} : (putG l g).1.length ≤ 64 := by
  rcases put_cases l g with ⟨_, e⟩ | ⟨hr, _, e⟩ | ⟨_, _, _, e⟩ | ⟨_, _, h, e⟩ <;> rw [e]
  · simp
  · exact (right_parts.1 hr).2
  · simp
  · show (insG l g).length ≤ 64
    rw [ins_length]
    omega
theorem putG_fit {l : List Gn} {g : Gn} (hl : fitG l) (hg : fitN g) : fitG (putG l g).1 := by
  rcases put_cases l g with ⟨_, e⟩ | ⟨hr, _, e⟩ | ⟨_, _, _, e⟩ | ⟨_, _, h, e⟩ <;> rw [e]
  · exact fun x hx => by cases hx
  · exact hl
  · exact fun x hx => by cases hx
  · intro x hx
    rcases (ins_mem l g x).1 hx with h | rfl
    · exact hl x h
    · exact hg
theorem readG_len {b : List UInt8} : (readG b).1.length ≤ 64 ∧ (readG b).2.1 ≤ 1025 := by
  unfold readG
  split
  · simp
  · split
    · simp
    · split
      · simp
      · split
        · rw [takeG_len]
          constructor
          · omega
          · show 1 + 16 * cntG b ≤ 1025
            omega
        · simp
theorem readG_fit {b : List UInt8} : fitG (readG b).1 := by
  unfold readG
  split
  · exact fun x hx => by cases hx
  · split
    · exact fun x hx => by cases hx
    · split
      · exact fun x hx => by cases hx
      · split
        · exact (flat_take _ _ (by rw [List.length_drop]; omega)).2.2
        · exact fun x hx => by cases hx
end Go.Proofs.YtmljhkdojopljaaGreatDoor
/-
  Layer 5 as plain functions: terms as pairs of a key and a text, a term's place, the terms with one put, its tag, a tag's term. No conditions but those typed.
-/
namespace Go.Proofs.YtmljhkdojopljaaGreatDoor
set_option maxRecDepth 100000
set_option linter.unusedVariables false
set_option linter.unusedSimpArgs false

abbrev Tm := List UInt8 × List UInt8
/-- Where x stands first; the length, if nowhere. -/
def idx (x : Tm) : List Tm → Nat
  | [] => 0
  | y :: l => if y = x then 0 else idx x l + 1
theorem idx_le (x : Tm) : ∀ l, idx x l ≤ l.length
  | [] => Nat.le_refl _
  | y :: l => by
    have := idx_le x l
    rw [idx, List.length_cons]
    split <;> omega
theorem idx_lt (x : Tm) : ∀ l, idx x l < l.length ↔ x ∈ l
  | [] => by simp [idx]
  | y :: l => by
    have := idx_lt x l
    rw [idx, List.length_cons, List.mem_cons]
    by_cases h : y = x
    · rw [if_pos h]
      exact ⟨fun _ => .inl h.symm, fun _ => by omega⟩
    · rw [if_neg h, Nat.add_lt_add_iff_right, this]
      exact ⟨.inr, fun k => k.resolve_left fun e => h e.symm⟩
theorem idx_get (x : Tm) : ∀ l (h : idx x l < l.length), l[idx x l] = x
  | [], h => by simp at h
  | y :: l, h => by
    by_cases e : y = x
    · simp [idx, e]
    · have h' : idx x l < l.length := by
        rw [idx, if_neg e] at h
        simpa using h
      have := idx_get x l h'
      simp [idx, e, this]
theorem idx_of (x : Tm) : ∀ (l : List Tm) (k : Nat), k ≤ l.length → (∀ j (h : j < k) (h' : j < l.length), l[j] ≠ x) → (k = l.length ∨ ∃ h : k < l.length, l[k] = x) → idx x l = k
  | [], k, hk, _, _ => by simp at hk; simp [idx, hk]
  | y :: l, 0, _, _, h => by
    rcases h with h | ⟨_, h⟩
    · simp at h
    · simp at h
      simp [idx, h]
  | y :: l, k + 1, hk, hj, h => by
    have hy : y ≠ x := hj 0 (by omega) (by simp)
    rw [idx, if_neg hy, idx_of x l k (by simpa using hk) (fun j hj' h' => hj (j + 1) (by omega) (by simpa using h')) (by
      rcases h with h | ⟨h, h'⟩
      · left
        simpa using h
      · right
        exact ⟨by simpa using h, by simpa using h'⟩)]
theorem idx_before (x : Tm) (l : List Tm) : ∀ j (h : j < l.length), j < idx x l → l[j] ≠ x := by
  induction l with
  | nil => intro j h; simp at h
  | cons y l ih =>
    intro j h hj
    by_cases e : y = x
    · rw [idx, if_pos e] at hj
      omega
    · rw [idx, if_neg e] at hj
      cases j with
      | zero => exact e
      | succ j => exact ih j (by simpa using h) (by omega)
theorem idx_none (x : Tm) (l : List Tm) (h : x ∉ l) : idx x l = l.length := by
  have h1 := idx_le x l
  have h2 : ¬ idx x l < l.length := fun k => h ((idx_lt x l).1 k)
  omega
theorem idx_app (x : Tm) (l m : List Tm) (h : x ∈ l) : idx x (l ++ m) = idx x l := by
  have hl := (idx_lt x l).2 h
  refine idx_of x _ _ (by rw [List.length_append]; omega) (fun j hj h' => ?_) (.inr ⟨by rw [List.length_append]; omega, ?_⟩)
  · rw [List.getElem_append_left (by omega)]
    exact idx_before x l j _ hj
  · rw [List.getElem_append_left hl]
    exact idx_get x l hl
theorem idx_end (x : Tm) (l : List Tm) (h : x ∉ l) : idx x (l ++ [x]) = l.length := by
  refine idx_of x _ _ (by simp) (fun j hj h' => ?_) (.inr ⟨by simp, by simp⟩)
  rw [List.getElem_append_left hj]
  exact fun e => h (e ▸ List.getElem_mem hj)
theorem idx_inj (x y : Tm) (l : List Tm) (hx : x ∈ l) (h : idx x l = idx y l) : x = y := by
  have h1 := (idx_lt x l).2 hx
  have h2 : idx y l < l.length := by omega
  have e1 := idx_get x l h1
  have e2 := idx_get y l h2
  rw [← e1, ← e2]
  simp only [h]

def plI (cs : List Tm) (x : Tm) : Int := if x ∈ cs then (idx x cs : Int) else -1
def putT (cs : List Tm) (x : Tm) : List Tm := if x ∈ cs then cs else cs ++ [x]
def tagT (cs : List Tm) (x : Tm) : List UInt8 := putL (idx x cs + 1)
def ofT (cs : List Tm) (tag : List UInt8) : Tm × Int :=
  if tag.length ≠ 8 then (([], []), 1) else if 1 ≤ valN tag ∧ valN tag ≤ cs.length then (cs.getD (valN tag - 1) ([], []), 0) else (([], []), 7)
def rightT (cs : List Tm) : Bool := decide cs.Nodup

theorem plI_in (cs : List Tm) (x : Tm) (h : x ∈ cs) : plI cs x = (idx x cs : Int) := if_pos h
theorem plI_out (cs : List Tm) (x : Tm) (h : x ∉ cs) : plI cs x = -1 := if_neg h
theorem putT_mem (cs : List Tm) (x : Tm) : x ∈ putT cs x := by
  unfold putT
  split
  · assumption
  · simp
theorem putT_pre (cs : List Tm) (x : Tm) : ∃ m, putT cs x = cs ++ m := by
  unfold putT
  split
  · exact ⟨[], by simp⟩
  · exact ⟨[x], rfl⟩
theorem putT_twice (cs : List Tm) (x : Tm) (h : x ∈ cs) : putT cs x = cs := if_pos h
theorem putT_length (cs : List Tm) (x : Tm) : cs.length ≤ (putT cs x).length ∧ (putT cs x).length ≤ cs.length + 1 := by
  unfold putT
  split <;> simp
theorem putT_right (cs : List Tm) (x : Tm) (h : rightT cs = true) : rightT (putT cs x) = true := by
  unfold rightT at *
  rw [decide_eq_true_eq] at *
  unfold putT
  split
  · exact h
  · next hx =>
    rw [List.nodup_append]
    exact ⟨h, by simp, fun a ha b hb => by simp at hb; subst hb; exact fun e => hx (e ▸ ha)⟩
/-- A tag is the one behind the put, too. -/
theorem tagT_put (cs : List Tm) (x : Tm) : tagT cs x = tagT (putT cs x) x := by
  unfold tagT putT
  split
  · rfl
  · next h => rw [idx_none x cs h, idx_end x cs h]
theorem tagT_app (cs m : List Tm) (x : Tm) (h : x ∈ cs) : tagT (cs ++ m) x = tagT cs x := by
  unfold tagT
  rw [idx_app x cs m h]
theorem putL_inj {v w : Nat} (hv : v < 18446744073709551616) (hw : w < 18446744073709551616) (h : putL v = putL w) : v = w := by
  rw [← valN_putL v hv, ← valN_putL w hw, h]
theorem tagT_inj (cs : List Tm) (x y : Tm) (hx : x ∈ cs) (hy : y ∈ cs) (hl : cs.length ≤ 1000000000) (h : tagT cs x = tagT cs y) : x = y := by
  have h1 := (idx_lt x cs).2 hx
  have h2 := (idx_lt y cs).2 hy
  exact idx_inj x y cs hx (by have := putL_inj (by omega) (by omega) h; omega)
theorem putL_valN (tag : List UInt8) (h : tag.length = 8) : putL (valN tag) = tag := by
  rw [putL_dig, dig_valN tag 8 h]
theorem valN_lt8' (tag : List UInt8) (h : tag.length = 8) : valN tag < 18446744073709551616 := by
  have := valN_lt tag
  rw [h] at this
  omega
theorem putL_eq (v : Nat) (tag : List UInt8) (h : tag.length = 8) (hv : v < 18446744073709551616) : putL v = tag ↔ valN tag = v := by
  constructor
  · intro e
    rw [← e, valN_putL v hv]
  · intro e
    rw [← e, putL_valN tag h]
theorem ofT_tag (cs : List Tm) (x : Tm) (h : x ∈ cs) (hl : cs.length ≤ 1000000000) : ofT cs (tagT cs x) = (x, 0) := by
  have h1 := (idx_lt x cs).2 h
  have e : valN (tagT cs x) = idx x cs + 1 := valN_putL _ (by omega)
  unfold ofT
  rw [if_neg (by simp [tagT, putL_length]), e, if_pos (by omega), Nat.add_sub_cancel, List.getD_eq_getElem?_getD, List.getElem?_eq_getElem h1, idx_get x cs h1]
  rfl
theorem right_iff (cs : List Tm) : rightT cs = true ↔ ∀ i (h : i < cs.length), idx cs[i] cs = i := by
  unfold rightT
  rw [decide_eq_true_eq, List.nodup_iff_pairwise_ne, List.pairwise_iff_getElem]
  constructor
  · intro h i hi
    have h1 : idx cs[i] cs < cs.length := (idx_lt _ _).2 (List.getElem_mem hi)
    have h2 := idx_get cs[i] cs h1
    rcases Nat.lt_trichotomy (idx cs[i] cs) i with hlt | heq | hgt
    · exact absurd h2 (h _ _ h1 hi hlt)
    · exact heq
    · exact absurd rfl (idx_before cs[i] cs i hi hgt)
  · intro h i j hi hj hij e
    have h1 := h i hi
    have h2 := h j hj
    have : idx cs[i] cs = idx cs[j] cs := by rw [e]
    omega
end Go.Proofs.YtmljhkdojopljaaGreatDoor
/-
  What bytes.Equal answers. No conditions but those typed.
-/
namespace Go.Proofs.YtmljhkdojopljaaGreatDoor
set_option maxRecDepth 100000
open Go.RowKit
set_option linter.unusedSimpArgs false
set_option linter.unusedVariables false

theorem str_beq (a b : List UInt8) : ((strL a).toList == (strL b).toList) = decide (a = b) := by
  unfold strL
  rw [ByteArray.toList_mk, ByteArray.toList_mk]
  by_cases h : a = b <;> simp [h]

theorem equal_any (a b : List UInt8) (n m : Nat) (A B : Option Addr) (c d : Nat) (w : World) (HN : Hid (a.length = n)) (HM : Hid (b.length = m)) (ha : Rd vB w A a) (hb : Rd vB w B b) :
    Calls Tryz.prog 130 #[.slice A n c, .slice B m d] w fun e w' => e = .returned (.bool (decide (a = b))) ∧ w = w' := by
  have s0 : (convert 27 9 (.slice A n c)).run Tryz.prog w = .ok (.string (strL a)) w := run_str _ _ _ _ Tryz.underlying27 Tryz.underlying5 Tryz.underlying9 _ a _ _ HN.out ha
  have s1 : (convert 27 9 (.slice B m d)).run Tryz.prog w = .ok (.string (strL b)) w := run_str _ _ _ _ Tryz.underlying27 Tryz.underlying5 Tryz.underlying9 _ b _ _ HM.out hb
  have b0 := str_beq a b
  obtain ⟨r, hr⟩ : ∃ r, r = decide (a = b) := ⟨_, rfl⟩
  rw [← hr] at b0 ⊢
  generalize strL a = SA at s0 b0
  generalize strL b = SB at s1 b0
  clear hr ha hb
  go_enter Tryz.func130, Tryz.ntmps130
  go_wp2_with fail
  go_ret
  exact ⟨rfl, rfl⟩
end Go.Proofs.YtmljhkdojopljaaGreatDoor
/-
  Terms in memory: a slice of structs of two byte slices read as a list; kept, cut, joined. No conditions but those typed.
-/
namespace Go.Proofs.YtmljhkdojopljaaGreatDoor
set_option maxRecDepth 100000
open Go.RowKit
set_option linter.unusedSimpArgs false
set_option linter.unusedVariables false

/-- A term that lies somewhere: where its key and its text lie, their rooms, and what they are. -/
structure TD where
  kA : Option Addr
  kc : Nat
  k : List UInt8
  mA : Option Addr
  mc : Nat
  m : List UInt8
def TD.at0 (x : TD) : Value := .slice x.kA x.k.length x.kc
def TD.at1 (x : TD) : Value := .slice x.mA x.m.length x.mc
def TD.cells (x : TD) : List Value := [x.at0, x.at1]
def TD.c (x : TD) : Tm := (x.k, x.m)
/-- What a term's two slices point to, is there. -/
def TD.ok (w : World) (x : TD) : Prop := x.k.length ≤ x.kc ∧ x.m.length ≤ x.mc ∧ Rd vB w x.kA x.k ∧ Rd vB w x.mA x.m
def cellsT (ts : List TD) : List Value := ts.flatMap TD.cells
def conT (ts : List TD) : List Tm := ts.map TD.c

/-- The slice with address A has these terms' cells, one behind the other. -/
def RdT (w : World) (A : Option Addr) (ts : List TD) : Prop :=
  ts ≠ [] → ∃ b o, A = some ⟨b, o, none⟩ ∧ ∀ i (h : i < ts.length), w.cell? ⟨b, o + i * 2, none⟩ = some ts[i].at0 ∧ w.cell? ⟨b, o + i * 2 + 1, none⟩ = some ts[i].at1
def okT (w : World) (ts : List TD) : Prop := ∀ x ∈ ts, x.ok w

theorem conT_length (ts : List TD) : (conT ts).length = ts.length := by simp [conT]
theorem cellsT_length : ∀ ts : List TD, (cellsT ts).length = ts.length * 2
  | [] => rfl
  | x :: ts => by
    have := cellsT_length ts
    unfold cellsT at *
    rw [List.flatMap_cons, List.length_append, this, List.length_cons]
    simp [TD.cells]
    omega
theorem cellsT_get : ∀ (ts : List TD) (i : Nat) (h : i < ts.length), (cellsT ts)[i * 2]? = some ts[i].at0 ∧ (cellsT ts)[i * 2 + 1]? = some ts[i].at1
  | x :: ts, 0, _ => ⟨rfl, rfl⟩
  | x :: ts, i + 1, h => by
    have ih := cellsT_get ts i (by simpa using h)
    have e : cellsT (x :: ts) = x.at0 :: x.at1 :: cellsT ts := rfl
    rw [e, show (i + 1) * 2 = i * 2 + 1 + 1 by omega, List.getElem?_cons_succ, List.getElem?_cons_succ, List.getElem?_cons_succ, List.getElem?_cons_succ]
    exact ih
theorem conT_get (ts : List TD) (i : Nat) (h : i < ts.length) : (conT ts)[i]'(by rw [conT_length]; exact h) = ts[i].c := by simp [conT]
theorem TD.ok.keep {w w' : World} {x : TD} (h : x.ok w) (hb : Below w.heap.size w w') : x.ok w' := ⟨h.1, h.2.1, h.2.2.1.keep hb, h.2.2.2.keep hb⟩
theorem okT.keep {w w' : World} {ts : List TD} (h : okT w ts) (hb : Below w.heap.size w w') : okT w' ts := fun x hx => (h x hx).keep hb
theorem okT.app {w : World} {ts us : List TD} (h : okT w ts) (k : okT w us) : okT w (ts ++ us) := fun x hx => (List.mem_append.1 hx).elim (h x) (k x)
theorem okT.take {w : World} {ts : List TD} (h : okT w ts) (n : Nat) : okT w (ts.take n) := fun x hx => h x (List.mem_of_mem_take hx)
section
variable {w w' : World} {A : Option Addr} {ts : List TD}
theorem RdT.nil : RdT w A [] := fun h => absurd rfl h
theorem RdT.at (h : RdT w A ts) {k : Nat} (hk : k < ts.length) : ∃ b o, A = some ⟨b, o, none⟩ ∧ b < w.heap.size ∧ ∀ i (h : i < ts.length), w.cell? ⟨b, o + i * 2, none⟩ = some ts[i].at0 ∧ w.cell? ⟨b, o + i * 2 + 1, none⟩ = some ts[i].at1 := by
  obtain ⟨b, o, e, hc⟩ := h (by rintro rfl; simp at hk)
  exact ⟨b, o, e, World.block_lt_of_cell? w _ (hc k hk).1, hc⟩
theorem RdT.keep (h : RdT w A ts) (hb : Below w.heap.size w w') : RdT w' A ts := fun hn => by
  obtain ⟨b, o, e, hc⟩ := h hn
  refine ⟨b, o, e, fun i hi => ?_⟩
  obtain ⟨h0, h1⟩ := hc i hi
  have hlt := World.block_lt_of_cell? w _ h0
  exact ⟨(hb.cell (p := ⟨b, o + i * 2, none⟩) hlt).trans h0, (hb.cell (p := ⟨b, o + i * 2 + 1, none⟩) hlt).trans h1⟩
theorem RdT.take (h : RdT w A ts) (n : Nat) : RdT w A (ts.take n) := fun hn => by
  obtain ⟨b, o, e, hc⟩ := h (by rintro rfl; simp at hn)
  refine ⟨b, o, e, fun i hi => ?_⟩
  have hi' : i < ts.length := by simp at hi; omega
  have := hc i hi'
  simpa using this
theorem RdT.range {b o : Nat} (h : RdT w (some ⟨b, o, none⟩) ts) : ∀ j u, (cellsT ts)[j]? = some u → w.cell? ((⟨b, o, none⟩ : Addr).add j) = some u := fun j u hu => by
  have hj : j < ts.length * 2 := by
    rw [← cellsT_length]
    exact (List.getElem?_eq_some_iff.1 hu).1
  have hi : j / 2 < ts.length := by omega
  obtain ⟨b', o', e, hc⟩ := h (by rintro rfl; simp at hi)
  injection e with e
  injection e with e1 e2 _
  subst e1 e2
  obtain ⟨h0, h1⟩ := hc (j / 2) hi
  obtain ⟨g0, g1⟩ := cellsT_get ts (j / 2) hi
  have e1 : (⟨b, o, none⟩ : Addr).add j = ⟨b, o + j, none⟩ := by unfold Addr.add; split <;> simp_all
  rw [e1]
  by_cases hp : j % 2 = 0
  · have e2 : j / 2 * 2 = j := by omega
    rw [e2] at h0 g0
    rw [h0, ← g0, hu]
  · have e2 : j / 2 * 2 + 1 = j := by omega
    rw [Nat.add_assoc, e2] at h1
    rw [e2] at g1
    rw [h1, ← g1, hu]
theorem RdT.own {base : Nat} {e : TypeId} {n c : Nat} (h : w.ownsRow base e 2 (.slice A n c) n (cellsT ts)) : RdT w A ts := fun hn => by
  have hl : ts.length = n := by
    have := h.1
    rw [cellsT_length] at this
    omega
  have hpos : 0 < n := by
    rcases Nat.eq_zero_or_pos n with h0 | h0
    · exact absurd (List.eq_nil_of_length_eq_zero (by omega)) hn
    · exact h0
  obtain ⟨g, cap, hv, _, hlt⟩ := h.form hpos
  have hA : A = some ⟨g, 0, none⟩ := by injection hv
  subst hA
  refine ⟨g, 0, rfl, fun i hi => ?_⟩
  obtain ⟨g0, g1⟩ := cellsT_get ts i hi
  have h0 := h.cells (g := g) rfl _ _ g0
  have h1 := h.cells (g := g) rfl _ _ g1
  have e1 : ∀ j, (⟨g, 0, none⟩ : Addr).add j = ⟨g, 0 + j, none⟩ := fun j => by unfold Addr.add; split <;> simp_all
  rw [e1] at h0 h1
  exact ⟨h0, h1⟩
theorem own_sliceT {base : Nat} {e : TypeId} {v : Value} (h : w.ownsRow base e 2 v ts.length (cellsT ts)) : ∃ A cap, v = .slice A ts.length cap ∧ ts.length ≤ cap ∧ RdT w A ts := by
  rcases h.2 with ⟨rfl, h0⟩ | ⟨g, cap, cur, rfl, _, _, hc, _⟩
  · have hl : ts = [] := List.eq_nil_of_length_eq_zero h0
    subst hl
    exact ⟨none, 0, rfl, Nat.le_refl _, RdT.nil⟩
  · exact ⟨_, cap, rfl, hc, RdT.own h⟩
end
theorem cellsT_one : ∀ (ts : List TD), ∀ u ∈ cellsT ts, u.oneCell' = true := fun ts u hu => by
  obtain ⟨x, _, hx⟩ := List.mem_flatMap.1 hu
  simp [TD.cells, TD.at0, TD.at1] at hx
  rcases hx with rfl | rfl <;> rfl
theorem rangeAt_keep {w w' : World} {g o : Nat} {l : List Value} (h : w.rangeAt g o l) (hb : Below w.heap.size w w') (hg : g < w.heap.size) : w'.rangeAt g o l := fun j v hv => (hb.cell (p := ⟨g, o + j, none⟩) hg).trans (h j v hv)
/-- What lies below block B is there behind a store to a block not below it. -/
theorem Rd.setRow_old {α : Type} {f : α → Value} {w w' : World} {A : Option Addr} {L : List α} (h : Rd f w A L) (hb : Below w.heap.size w w') {g : Nat} (hg : w.heap.size ≤ g) (cs : Array Value) : Rd f (w'.setRow g cs) A L := fun hn => by
  obtain ⟨b, o, rfl, hc⟩ := h hn
  refine ⟨b, o, rfl, fun i hi => ?_⟩
  have hk := hc i hi
  have hlt : b < w.heap.size := World.block_lt_of_cell? w _ hk
  rw [cell_setRow_other w' g cs ⟨b, o + i, none⟩ (by show b ≠ g; omega), hb.cell (p := ⟨b, o + i, none⟩) hlt]
  exact hk
theorem TD.ok.setRow_old {w w' : World} {x : TD} (h : x.ok w) (hb : Below w.heap.size w w') {g : Nat} (hg : w.heap.size ≤ g) (cs : Array Value) : x.ok (w'.setRow g cs) := ⟨h.1, h.2.1, h.2.2.1.setRow_old hb hg cs, h.2.2.2.setRow_old hb hg cs⟩

/-! ### A store into a block that holds no bytes, and no terms -/
theorem vB_inj {a b : UInt8} (h : vB a = vB b) : a = b := by
  unfold vB at h
  injection h with _ h
  exact UInt8.toNat_inj.1 (by omega)
theorem Rd.setRow_row {w : World} {A : Option Addr} {L : List UInt8} (h : Rd vB w A L) {g : Nat} {t : TypeId} {l : List Value} (hR : Row w g t l) (hl : ∀ v ∈ l, ∀ x, v ≠ vB x) (cs : Array Value) : Rd vB (w.setRow g cs) A L := fun hn => by
  obtain ⟨b, o, rfl, hc⟩ := h hn
  refine ⟨b, o, rfl, fun i hi => ?_⟩
  have hne : b ≠ g := by
    rintro rfl
    have h1 := hc i hi
    rw [hR.cell? (o + i)] at h1
    exact hl _ (List.mem_of_getElem? h1) _ rfl
  exact (cell_setRow_other w g cs ⟨b, o + i, none⟩ hne).trans (hc i hi)
theorem TD.ok.setRow_row {w : World} {x : TD} (h : x.ok w) {g : Nat} {t : TypeId} {l : List Value} (hR : Row w g t l) (hl : ∀ v ∈ l, ∀ x, v ≠ vB x) (cs : Array Value) : x.ok (w.setRow g cs) := ⟨h.1, h.2.1, h.2.2.1.setRow_row hR hl cs, h.2.2.2.setRow_row hR hl cs⟩
theorem okT.setRow_row {w : World} {ts : List TD} (h : okT w ts) {g : Nat} {t : TypeId} {l : List Value} (hR : Row w g t l) (hl : ∀ v ∈ l, ∀ x, v ≠ vB x) (cs : Array Value) : okT (w.setRow g cs) ts := fun x hx => (h x hx).setRow_row hR hl cs
/-- A number and a slice are no bytes; and no term is a number. -/
theorem two_no_byte (k : Int) (v : Value) (hv : ∀ x, v ≠ vB x) : ∀ u ∈ ([.int .i64 k, v] : List Value), ∀ x, u ≠ vB x := fun u hu x e => by
  simp at hu
  rcases hu with rfl | rfl
  · unfold vB at e
    injection e with e _
    cases e
  · exact hv x e
theorem slice_no_byte (A : Option Addr) (n c : Nat) : ∀ x, (Value.slice A n c) ≠ vB x := fun x e => by unfold vB at e; cases e
theorem RdT.setRow_row {w : World} {A : Option Addr} {ts : List TD} (h : RdT w A ts) {g : Nat} {t : TypeId} {k : Int} {v : Value} (hR : Row w g t [.int .i64 k, v]) (cs : Array Value) : RdT (w.setRow g cs) A ts := fun hn => by
  obtain ⟨b, o, rfl, hc⟩ := h hn
  refine ⟨b, o, rfl, fun i hi => ?_⟩
  obtain ⟨h0, h1⟩ := hc i hi
  have hne : b ≠ g := by
    rintro rfl
    rw [hR.cell? (o + i * 2)] at h0
    rw [hR.cell? (o + i * 2 + 1)] at h1
    rcases Nat.eq_zero_or_pos (o + i * 2) with e | e
    · rw [e] at h0
      injection h0 with h0
      unfold TD.at0 at h0
      cases h0
    · rw [List.getElem?_eq_none (by simp; omega)] at h1
      cases h1
  exact ⟨(cell_setRow_other w g cs ⟨b, o + i * 2, none⟩ hne).trans h0, (cell_setRow_other w g cs ⟨b, o + i * 2 + 1, none⟩ hne).trans h1⟩

/-! ### append, elements of any size -/
section
variable {P : Program} (w : World)
theorem run_append_gen (base : Nat) (t ty e : TypeId) (i : TypeInfo) (z : Value) (size bytes : Nat) (ht : P.underlying t = some (.slice e)) (hi : P.info? e = some i) (hz : i.zero = some z)
    (hsize : i.size = size) (hby : i.bytes = bytes) (hzs : z.cells.size = size) (hsz : 0 < size) (v : Value) (n : Nat) (xs : List Value) (hown : w.ownsRow base e size v n xs)
    (A : Option Addr) (m c : Nat) (news : List Value) (hl : news.length = m * size) (hr : news ≠ [] → ∃ b o, A = some ⟨b, o, none⟩ ∧ ∀ j u, news[j]? = some u → w.cell? ((⟨b, o, none⟩ : Addr).add j) = some u) (h1 : ∀ u ∈ news, u.oneCell' = true)
    (h63 : n + m ≤ maxLen) (hbytes : (n + m) * bytes ≤ 140737488355328) (hbase : base ≤ w.heap.size) :
    ∃ v' w', (Builtin.append_ #[t, t] ty #[v, .slice A m c]).run P w = .ok v' w' ∧ w'.ownsRow base e size v' (n + m) (xs ++ news) ∧ w.grownBy w' v.ownBlock := by
  by_cases hm : m = 0
  · subst hm
    have e0 : news = [] := List.eq_nil_of_length_eq_zero (by omega)
    subst e0
    cases A with
    | none =>
      refine ⟨v, w, ?_, by simpa using hown, ⟨rfl, rfl, rfl, Nat.le_refl _, fun _ _ _ => rfl⟩⟩
      rcases hown.2 with ⟨rfl, rfl⟩ | ⟨g, cap, cur, rfl, _, _, hnc, _⟩
      · simp [Builtin.append_, run_underlying ht, sizeOf, typeInfo, hi, Builtin.lenOf, Builtin.firstCells]
      · simp [Builtin.append_, run_underlying ht, sizeOf, typeInfo, hi, Builtin.lenOf, Builtin.firstCells, hnc, storeCells]
    | some ad =>
      obtain ⟨v', w', hrun, h2, h3, _⟩ := run_append_own (P := P) w base t ty e i z size bytes ht hi hz hsize hby hzs hsz v n xs hown ad 0 c [] (by simp) (fun j u h => by simp at h) (fun u h => by simp at h) h63 hbytes hbase
      exact ⟨v', w', hrun, h2, h3⟩
  · have hne : news ≠ [] := by
      rintro rfl
      have h0 : m * size = 0 := by rw [← hl]; rfl
      rcases Nat.mul_eq_zero.1 h0 with h | h <;> omega
    obtain ⟨b, o, rfl, hc⟩ := hr hne
    obtain ⟨v', w', hrun, h2, h3, _⟩ := run_append_own (P := P) w base t ty e i z size bytes ht hi hz hsize hby hzs hsz v n xs hown ⟨b, o, none⟩ m c news hl hc h1 h63 hbytes hbase
    exact ⟨v', w', hrun, h2, h3⟩
theorem wpList_append_gen {ops : Array Oper} {rest : List Oper} {o : Oper} {a : Act} {Q : Exit → Act → World → Prop} (hgd : o.guard = none) (s x : Operand) (t : TypeId)
    (ho : o.op = .call { callee := .builtin .append, args := #[s, x], argTypes := #[t, t] })
    (base : Nat) (e : TypeId) (i : TypeInfo) (z : Value) (size bytes : Nat) (ht : P.underlying t = some (.slice e)) (hi : P.info? e = some i) (hz : i.zero = some z)
    (hsize : i.size = size) (hby : i.bytes = bytes) (hzs : z.cells.size = size) (hsz : 0 < size) (v : Value) (n : Nat) (xs : List Value) (hs : a.eval s = v) (hown : w.ownsRow base e size v n xs)
    (A : Option Addr) (m c : Nat) (news : List Value) (hx : a.eval x = .slice A m c) (hl : news.length = m * size) (hr : news ≠ [] → ∃ b o, A = some ⟨b, o, none⟩ ∧ ∀ j u, news[j]? = some u → w.cell? ((⟨b, o, none⟩ : Addr).add j) = some u) (h1 : ∀ u ∈ news, u.oneCell' = true)
    (h63 : n + m ≤ maxLen) (hbytes : (n + m) * bytes ≤ 140737488355328) (hbase : base ≤ w.heap.size)
    (h : ∀ v' w', w'.ownsRow base e size v' (n + m) (xs ++ news) → w.grownBy w' v.ownBlock → wpList P ops Q rest (a.put o.dst v') w') : wpList P ops Q (o :: rest) a w := by
  refine wpList_plain hgd fun K hK => ?_
  obtain ⟨v', w', hr, h2, h3⟩ := run_append_gen (P := P) w base t o.type e i z size bytes ht hi hz hsize hby hzs hsz v n xs hown A m c news hl hr h1 h63 hbytes hbase
  unfold Oper.wp execOp
  simp only [ho, resolve, invoke, builtin, Sem.run_bind, Sem.run_pure, Result.andThen_ok, List.map_toArray, List.map_cons, List.map_nil, hs, hx, hr]
  exact hK _ _ (h v' w' h2 h3)
end
theorem RdT.news {w : World} {A : Option Addr} {ts : List TD} (h : RdT w A ts) : cellsT ts ≠ [] → ∃ b o, A = some ⟨b, o, none⟩ ∧ ∀ j u, (cellsT ts)[j]? = some u → w.cell? ((⟨b, o, none⟩ : Addr).add j) = some u := fun hn => by
  have hne : ts ≠ [] := by
    rintro rfl
    exact hn rfl
  obtain ⟨b, o, e, _⟩ := h hne
  subst e
  exact ⟨b, o, rfl, h.range⟩
/-- A row of bytes of the call's own, as a slice; its block is none of the older ones. -/
theorem own_sliceN {α : Type} {f : α → Value} {w : World} {base : Nat} {e : TypeId} {v : Value} {l : List α} (h : w.ownsRow base e 1 v l.length (l.map f)) : ∃ A cap, v = .slice A l.length cap ∧ l.length ≤ cap ∧ Rd f w A l ∧ ∀ a, A = some a → base ≤ a.block := by
  rcases h.2 with ⟨rfl, h0⟩ | ⟨g, cap, cur, rfl, hg, _, hc, _⟩
  · have hl : l = [] := List.eq_nil_of_length_eq_zero h0
    subst hl
    exact ⟨none, 0, rfl, Nat.le_refl _, Rd.nil, fun a h => by cases h⟩
  · exact ⟨_, cap, rfl, hc, Rd.own h, fun a ha => by injection ha with ha; subst ha; exact hg⟩
theorem info_term : (Tryz.prog.info? 113).map (fun i => (i.zero, i.size, i.bytes)) = some (some (.agg #[.slice none 0 0, .slice none 0 0]), 2, 48) := by kernel_rfl
end Go.Proofs.YtmljhkdojopljaaGreatDoor
/-
  What the reference's call Place of layer 5 answers. No conditions but those typed.
-/
namespace Go.Proofs.YtmljhkdojopljaaGreatDoor
set_option maxRecDepth 100000
open Go.RowKit
set_option linter.unusedSimpArgs false
set_option linter.unusedVariables false

def PlRel (cs : List Tm) (x : Tm) (w : World) (i : Value) (wr : World) : Prop :=
  ∃ k : Nat, k ≤ cs.length ∧ i = .int .i64 (k : Int) ∧ (∀ j (h : j < k) (h' : j < cs.length), cs[j] ≠ x) ∧ Below w.heap.size w wr
theorem PlRel.next {cs : List Tm} {x : Tm} {k : Nat} (hk : k < cs.length) (h : ∀ j (h : j < k) (h' : j < cs.length), cs[j] ≠ x) (hn : cs[k] ≠ x) : ∀ j (h : j < k + 1) (h' : j < cs.length), cs[j] ≠ x := fun j hj h' => by
  rcases Nat.lt_or_ge j k with h1 | h1
  · exact h j h1 h'
  · have : j = k := by omega
    subst this
    exact hn

end Go.Proofs.YtmljhkdojopljaaGreatDoor
/-
  What the reference's calls Right, Same and Short of layer 5 answer. No conditions but those typed.
-/
namespace Go.Proofs.YtmljhkdojopljaaGreatDoor
set_option maxRecDepth 100000
open Go.RowKit
set_option linter.unusedSimpArgs false
set_option linter.unusedVariables false

/-! ### Right -/
def RiRel (cs : List Tm) (w : World) (i : Value) (wr : World) : Prop :=
  ∃ k : Nat, k ≤ cs.length ∧ i = .int .i64 (k : Int) ∧ (∀ j (h : j < k) (h' : j < cs.length), idx cs[j] cs = j) ∧ Below w.heap.size w wr

/-! ### Same -/
def SaRel (cs ds : List Tm) (w : World) (i : Value) (wr : World) : Prop :=
  ∃ k : Nat, k ≤ cs.length ∧ i = .int .i64 (k : Int) ∧ (∀ j (h : j < k) (h1 : j < cs.length) (h2 : j < ds.length), cs[j] = ds[j]) ∧ Below w.heap.size w wr
theorem str_bne (a b : List UInt8) : ((strL a).toList != (strL b).toList) = !decide (a = b) := by rw [bne, str_beq]

/-! ### Short -/
def shortT (cs : List Tm) : Bool := decide (cs.length ≤ 400 ∧ ∀ x ∈ cs, x.1.length ≤ 3000 ∧ x.2.length ≤ 3000)
def ShRel (cs : List Tm) (w : World) (i : Value) (wr : World) : Prop :=
  ∃ k : Nat, k ≤ cs.length ∧ k ≤ 400 ∧ i = .int .i64 (k : Int) ∧ (∀ j (h : j < k) (h' : j < cs.length), cs[j].1.length ≤ 3000 ∧ cs[j].2.length ≤ 3000) ∧ w = wr

set_option maxHeartbeats 1000000 in
theorem refshort_any (ts : List TD) (p : Nat) (A : Option Addr) (c : Nat) (w : World) (HP : Hid (ts.length = p)) (ht : RdT w A ts) (hml : ∀ x ∈ ts, x.k.length ≤ 9223372036854775807 ∧ x.m.length ≤ 9223372036854775807) (hp : p ≤ 9223372036854775807) :
    Calls Tryz.prog 42 #[.slice A p c] w fun e w' => e = .returned (.bool (shortT (conT ts))) ∧ w = w' := by
  have e1 := HP.out
  subst e1
  have HML := Lib.hid hml
  clear HP hml
  go_enter Tryz.func42, Tryz.ntmps42
  go_wp2_with fail
  go_loopw [3] (fun i wr => ShRel (conT ts) w i wr) (fun i _ => 400 - (intOf i).toNat)
  case atStart => exact ⟨0, Nat.zero_le _, Nat.zero_le _, rfl, fun j h => absurd h (by omega), rfl⟩
  case round =>
    obtain ⟨k, hk1, hk4, rfl, hbef, rfl⟩ := hrel
    by_cases hlt : k < ts.length
    · have i1 : (k : Int) < (ts.length : Int) := by omega
      by_cases h4 : k < 400
      · obtain ⟨blk, o, rfl, hblk, hcell⟩ := ht.at hlt
        have hg := conT_get ts k hlt
        have hlc : k < (conT ts).length := by rw [conT_length]; exact hlt
        obtain ⟨hc0, hc1⟩ := hcell k hlt
        have HNE : Hid (¬ (ts[k].k.length ≤ 3000 ∧ ts[k].m.length ≤ 3000) → shortT (conT ts) = false) := fun hn => by
          unfold shortT
          rw [decide_eq_false_iff_not]
          rintro ⟨_, h⟩
          have := h _ (List.getElem_mem hlc)
          rw [hg] at this
          exact hn this
        have HEQ : Hid (ts[k].k.length ≤ 3000 ∧ ts[k].m.length ≤ 3000 → ∀ j (h : j < k + 1) (h' : j < (conT ts).length), (conT ts)[j].1.length ≤ 3000 ∧ (conT ts)[j].2.length ≤ 3000) := fun he j hj h' => by
          rcases Nat.lt_or_ge j k with h | h
          · exact hbef j h h'
          · have : j = k := by omega
            subst this
            rw [hg]
            exact he
        have hb := HML.out _ (List.getElem_mem hlt)
        clear hg hbef hcell
        generalize ts[k] = x at hb hc0 hc1 HNE HEQ
        obtain ⟨kA, kc, kl, mA, mc, ml⟩ := x
        unfold TD.at0 TD.at1 at *
        dsimp only at hb HNE HEQ hc0 hc1
        obtain ⟨hkb, hmb⟩ := hb
        generalize kl.length = n at *
        generalize ml.length = m at *
        have i0 : (0 : Int) ≤ (k : Int) := by omega
        have i4 : (k : Int) < 400 := by omega
        by_cases hn : n ≤ 3000
        · have n1 : ¬ (3000 : Int) < (n : Int) := by omega
          by_cases hm : m ≤ 3000
          · have n2 : ¬ (3000 : Int) < (m : Int) := by omega
            have HR : Hid (ShRel (conT ts) w (.int .i64 ((k : Int) + 1)) w) := ⟨k + 1, hlc, by omega, by go_num, HEQ.out ⟨hn, hm⟩, rfl⟩
            clear HEQ HNE hk1 hlc
            go_wp2_with fail
            go_roundw
            case rel => exact HR.out
            case measure => simp [intOf]; omega
          · have n2 : (3000 : Int) < (m : Int) := by omega
            have HF := Lib.hid (HNE.out (fun h => hm h.2))
            clear HEQ HNE hk1 hlc
            go_wp2_with fail
            go_ret
            exact ⟨by rw [HF.out]; rfl, rfl⟩
        · have n1 : (3000 : Int) < (n : Int) := by omega
          have HF := Lib.hid (HNE.out (fun h => hn h.1))
          clear HEQ HNE hk1 hlc
          go_wp2_with fail
          go_ret
          exact ⟨by rw [HF.out]; rfl, rfl⟩
      · have i4 : ¬ (k : Int) < 400 := by omega
        have i5 : ¬ (ts.length : Int) ≤ 400 := by omega
        have HF : Hid (shortT (conT ts) = false) := by
          unfold Hid shortT
          rw [decide_eq_false_iff_not]
          rintro ⟨h, _⟩
          rw [conT_length] at h
          omega
        clear hbef hk1
        go_wp2_with fail
        go_ret
        exact ⟨by simp [HF.out], rfl⟩
    · have i1 : ¬ (k : Int) < (ts.length : Int) := by omega
      have i5 : (ts.length : Int) ≤ 400 := by omega
      have HT : Hid (shortT (conT ts) = true) := by
        unfold Hid shortT
        rw [decide_eq_true_eq]
        refine ⟨by rw [conT_length]; omega, fun x hx => ?_⟩
        obtain ⟨i, hi, rfl⟩ := List.getElem_of_mem hx
        exact hbef i (by rw [conT_length] at hi; omega) hi
      clear hbef hk1
      go_wp2_with fail
      go_ret
      exact ⟨by simp [HT.out], rfl⟩
end Go.Proofs.YtmljhkdojopljaaGreatDoor
/-
  What the reference's calls Put and Of of layer 5 answer. No conditions but those typed.
-/
namespace Go.Proofs.YtmljhkdojopljaaGreatDoor
set_option maxRecDepth 100000
open Go.RowKit
set_option linter.unusedSimpArgs false
set_option linter.unusedVariables false

theorem Rd.newsB {α : Type} {f : α → Value} {w : World} {A : Option Addr} {l : List α} (h : Rd f w A l) : l.map f ≠ [] → ∃ b o, A = some ⟨b, o, none⟩ ∧ ∀ j u, (l.map f)[j]? = some u → w.cell? ((⟨b, o, none⟩ : Addr).add j) = some u := fun hn => by
  obtain ⟨b, o, e, _⟩ := h (by rintro rfl; exact hn rfl)
  subst e
  exact ⟨b, o, rfl, h.news⟩
theorem ownsRow2_later {w w' : World} {base m : Nat} {e : TypeId} {v : Value} {n : Nat} {xs : List Value} (h : w.ownsRow base e m v n xs) (hb : Below w.heap.size w w') : w'.ownsRow base e m v n xs := by
  refine ⟨h.1, ?_⟩
  rcases h.2 with h0 | ⟨g, cap, cur, hv, hg, hc, r⟩
  · exact .inl h0
  · exact .inr ⟨g, cap, cur, hv, hg, (hb.block g (Array.getElem?_eq_some_iff.1 hc).1).trans hc, r⟩

/-- What Put hands back. -/
def PutRes (ts : List TD) (x : Tm) (w : World) (e : Ending) (w' : World) : Prop :=
  ∃ (us : List TD) (p : Nat) (A : Option Addr) (c : Nat) (tA : Option Addr) (tc : Nat), e = .returned (.tuple #[.slice A p c, .slice tA 8 tc]) ∧ Hid (us.length = p) ∧ p ≤ c ∧ 8 ≤ tc ∧ RdT w' A us ∧ okT w' us ∧ Hid (conT us = putT (conT ts) x) ∧ Rd vB w' tA (tagT (conT ts) x) ∧ Below w.heap.size w w'

theorem refput_at (v : Nat) (l : List UInt8) (hv : v < 18446744073709551616) (HL : Hid (putL v = l)) (w : World) :
    Calls Tryz.prog 26 #[.int .u64 (v : Int)] w fun e w' => ∃ A c, e = .returned (.slice A 8 c) ∧ 8 ≤ c ∧ Rd vB w' A l ∧ Below w.heap.size w w' := by
  refine (refput_any v hv w).mono ?_
  rintro e w' ⟨A, c, rfl, hc, hr, hb⟩
  rw [HL.out] at hr
  exact ⟨A, c, rfl, hc, hr, hb⟩

end Go.Proofs.YtmljhkdojopljaaGreatDoor
/-
  What the reference's call Of of layer 5 answers. No conditions but those typed.
-/
namespace Go.Proofs.YtmljhkdojopljaaGreatDoor
set_option maxRecDepth 100000
open Go.RowKit
set_option linter.unusedSimpArgs false
set_option linter.unusedVariables false

/-- What Of hands back. -/
def OfRes (ts : List TD) (tag : List UInt8) (w : World) (e : Ending) (w' : World) : Prop :=
  ∃ (x : TD) (u : Int), e = .returned (.tuple #[.agg #[x.at0, x.at1], .int .i64 u]) ∧ x.ok w' ∧ Hid ((x.c, u) = ofT (conT ts) tag) ∧ Below w.heap.size w w'
/-- .. and it is one of those that came in, or none. -/
def OfResS (ts : List TD) (tag : List UInt8) (w : World) (e : Ending) (w' : World) : Prop :=
  ∃ (x : TD) (u : Int), e = .returned (.tuple #[.agg #[x.at0, x.at1], .int .i64 u]) ∧ (x ∈ ts ∨ x = ⟨none, 0, [], none, 0, []⟩) ∧ Hid ((x.c, u) = ofT (conT ts) tag) ∧ Below w.heap.size w w'
def noTD : TD := ⟨none, 0, [], none, 0, []⟩
theorem noTD_ok (w : World) : noTD.ok w := ⟨Nat.le_refl _, Nat.le_refl _, Rd.nil, Rd.nil⟩
theorem OfResS.ok {ts : List TD} {w : World} {x : TD} (hok : okT w ts) (h : x ∈ ts ∨ x = ⟨none, 0, [], none, 0, []⟩) : x.ok w := by
  rcases h with h | rfl
  · exact hok x h
  · exact noTD_ok w
theorem OfResS.res {ts : List TD} {tag : List UInt8} {w w' : World} {e : Ending} (hok : okT w ts) (h : OfResS ts tag w e w') : OfRes ts tag w e w' := by
  obtain ⟨x, u, he, hx, HO, hb⟩ := h
  exact ⟨x, u, he, (OfResS.ok hok hx).keep hb, HO, hb⟩
theorem ofT_bad (cs : List Tm) (tag : List UInt8) (h : tag.length ≠ 8) : ofT cs tag = (([], []), 1) := if_pos h
theorem ofT_none (cs : List Tm) (tag : List UInt8) (h : tag.length = 8) (hn : ∀ j, j < cs.length → putL (j + 1) ≠ tag) (hl : cs.length ≤ 1000000000) : ofT cs tag = (([], []), 7) := by
  unfold ofT
  rw [if_neg (by simp [h]), if_neg]
  rintro ⟨h1, h2⟩
  refine hn (valN tag - 1) (by omega) ?_
  rw [show valN tag - 1 + 1 = valN tag by omega, putL_valN tag h]
theorem ofT_at (cs : List Tm) (tag : List UInt8) (h : tag.length = 8) (k : Nat) (hk : k < cs.length) (he : putL (k + 1) = tag) (hl : cs.length ≤ 1000000000) : ofT cs tag = (cs[k], 0) := by
  have e : valN tag = k + 1 := (putL_eq (k + 1) tag h (by omega)).1 he
  unfold ofT
  rw [if_neg (by simp [h]), e, if_pos (by omega), Nat.add_sub_cancel, List.getD_eq_getElem?_getD, List.getElem?_eq_getElem hk]
  rfl
theorem refput_ati (V : Int) (v : Nat) (l : List UInt8) (hV : V = (v : Int)) (hv : v < 18446744073709551616) (HL : Hid (putL v = l)) (w : World) :
    Calls Tryz.prog 26 #[.int .u64 V] w fun e w' => ∃ A c, e = .returned (.slice A 8 c) ∧ 8 ≤ c ∧ Rd vB w' A l ∧ Below w.heap.size w w' := by
  subst hV
  exact refput_at v l hv HL w
def OfRel (ts : List TD) (tag : List UInt8) (w : World) (i : Value) (wr : World) : Prop :=
  ∃ k : Nat, k ≤ ts.length ∧ i = .int .i64 (k : Int) ∧ (∀ j, j < k → putL (j + 1) ≠ tag) ∧ Row wr w.heap.size 113 [.slice none 0 0, .slice none 0 0] ∧ Below w.heap.size w wr
theorem size_term : (Tryz.prog.info? 113).map (·.size) = some 2 := by kernel_rfl
theorem one_two (a b : Value) (ha : a.oneCell' = true) (hb : b.oneCell' = true) : ∀ v ∈ [a, b], v.oneCell' = true := fun v hv => by
  simp at hv
  rcases hv with rfl | rfl
  · exact ha
  · exact hb

end Go.Proofs.YtmljhkdojopljaaGreatDoor
